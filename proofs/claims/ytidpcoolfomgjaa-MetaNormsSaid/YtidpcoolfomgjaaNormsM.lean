/-
  At most eight attributes with short names: the same normal form in both orders, ascending, none lost; with one name twice ErrExist.
-/
import Derived.Test.YtidpcoolfomgjaaToldT
import Derived.Test.YtidpcoolfomgjaaOpenM
import Derived.Test.YtidpcoolfomgjaaMayRef
import Derived.Test.YtidpcoolfomgjaaAppend
namespace Go.Proofs.Ytidpcoolfomgjaa.norms
open Go.ChangeShapes Go.WideShapes Go.ChangeAt Go.WideMaps Go.WideElems Go.RowKit

abbrev sV : ByteArray := ⟨#[118]⟩
def word : Nat → ByteArray
  | 0 => ⟨#[97]⟩ | 1 => ⟨#[98]⟩ | 2 => ⟨#[99]⟩ | 3 => ⟨#[97, 98]⟩ | 4 => ⟨#[98, 99]⟩ | 5 => ⟨#[97, 98, 99]⟩ | 6 => ⟨#[122]⟩ | 7 => ⟨#[122, 97]⟩ | 8 => ⟨#[113]⟩ | 9 => ⟨#[113, 113]⟩ | _ => ⟨#[120]⟩
theorem word_ok (r : Nat) (hr : r < 11) : OkT (word r, sV) := by
  have h : ∀ r, r < 11 → OkT (word r, sV) := by decide +kernel
  exact h r hr
theorem words_at (w : World) (r : Nat) (hr : r < 11) : (w.alloc (.cells #[.string ⟨#[97]⟩, .string ⟨#[98]⟩, .string ⟨#[99]⟩, .string ⟨#[97, 98]⟩, .string ⟨#[98, 99]⟩, .string ⟨#[97, 98, 99]⟩, .string ⟨#[122]⟩, .string ⟨#[122, 97]⟩, .string ⟨#[113]⟩, .string ⟨#[113, 113]⟩, .string ⟨#[120]⟩] 9)).cell? ⟨w.heap.size, r, none⟩ = some (.string (word r)) := by
  match r, hr with
  | 0, _ => simp [word]
  | 1, _ => simp [word]
  | 2, _ => simp [word]
  | 3, _ => simp [word]
  | 4, _ => simp [word]
  | 5, _ => simp [word]
  | 6, _ => simp [word]
  | 7, _ => simp [word]
  | 8, _ => simp [word]
  | 9, _ => simp [word]
  | 10, _ => simp [word]
theorem u64_rem (n d : Int) (hd : 0 < d) : ∃ r : Nat, (r : Int) < d ∧ (IntKind.u64.wrap n).tmod d = (r : Int) := by
  have hw := wrap_u64_nonneg n
  have h0 := Int.tmod_nonneg d hw
  have h1 := Int.tmod_lt_of_pos (IntKind.u64.wrap n) hd
  generalize (IntKind.u64.wrap n).tmod d = x at *
  exact ⟨x.toNat, by omega, by omega⟩

theorem once_add (la : List Attr) (x : Attr) : OnceT (la ++ [x]) ↔ OnceT la ∧ ¬ ∃ y ∈ la, y.1 = x.1 := by
  unfold OnceT
  rw [List.map_append, List.nodup_append]
  simp only [List.map_cons, List.map_nil, List.mem_singleton, List.mem_map, List.nodup_cons, List.not_mem_nil, not_false_eq_true, List.nodup_nil, and_true, true_and]
  constructor
  · rintro ⟨h1, h2⟩
    exact ⟨h1, fun ⟨y, hy, e⟩ => h2 y.1 ⟨y, hy, rfl⟩ x.1 rfl e⟩
  · rintro ⟨h1, h2⟩
    refine ⟨h1, ?_⟩
    rintro a ⟨y, hy, rfl⟩ b rfl e
    exact h2 ⟨y, hy, e⟩
def hasN (l : List Attr) (nm : ByteArray) : Bool := l.any fun y => decide (y.1 = nm)
theorem hasN_iff (l : List Attr) (nm : ByteArray) : hasN l nm = true ↔ ∃ y ∈ l, y.1 = nm := by
  unfold hasN
  rw [List.any_eq_true]
  simp only [decide_eq_true_eq]
theorem twice_next {la : List Attr} {nm : ByteArray} {tb : Bool} (h : tb = (!decide (OnceT la) || hasN la nm)) : tb = !decide (OnceT (la ++ [(nm, sV)])) := by
  rw [h, Bool.eq_iff_iff, Bool.or_eq_true, Bool.not_eq_true', Bool.not_eq_true', decide_eq_false_iff_not, decide_eq_false_iff_not, hasN_iff, once_add]
  by_cases h1 : OnceT la
  · simp [h1]
  · simp [h1]
theorem any_next {la : List Attr} {nm : ByteArray} {j : Nat} (hj : j < la.length) : hasN (la.take (j + 1)) nm = (hasN (la.take j) nm || decide (la[j].1 = nm)) := by
  unfold hasN
  rw [List.take_succ_eq_append_getElem hj, List.any_append]
  simp only [List.any_cons, List.any_nil, Bool.or_false]
theorem may_sorted {l : List Attr} (h8 : l.length ≤ 8) (h1 : AllOkT l) (h2 : RiseT l) : mayM ⟨0, 0, 0, 0, l, []⟩ = true := by
  have h3 : mayB [] = true := by decide +kernel
  have h4 : decide ((l.length : Int) ≤ 8) = true := decide_eq_true (by omega)
  unfold mayM
  simp [h1, h2, h3, h4, idB]
theorem not_both {la : List Attr} (h : 2 ≤ la.length) : ¬ (mayM ⟨0, 0, 0, 0, la, []⟩ = true ∧ mayM ⟨0, 0, 0, 0, la.reverse, []⟩ = true) := by
  rintro ⟨h1, h2⟩
  have r1 : RiseT la := by
    unfold mayM at h1
    simp only [Bool.and_eq_true, decide_eq_true_eq] at h1
    exact h1.1.2
  have r2 : RiseT la.reverse := by
    unfold mayM at h2
    simp only [Bool.and_eq_true, decide_eq_true_eq] at h2
    exact h2.1.2
  unfold RiseT at r1 r2
  rw [List.pairwise_reverse] at r2
  have a := List.pairwise_iff_getElem.1 r1 0 1 (by omega) (by omega) (by omega)
  have b := List.pairwise_iff_getElem.1 r2 0 1 (by omega) (by omega) (by omega)
  exact ltT_irrefl _ (ltT_trans a b)
theorem set_self (T : Array Value) (i : Nat) : T.setIfInBounds i (T.getD i undef) = T := by
  apply Array.ext_getElem?
  intro j
  rw [Array.getElem?_setIfInBounds]
  by_cases h : i = j
  · subst h
    by_cases hi : i < T.size
    · simp [hi]
    · simp [hi]
  · simp [h]
theorem act_eta {a : Act} (h : a.defers = []) : a = { tmps := a.tmps, defers := [] } := by
  obtain ⟨t, d⟩ := a
  cases h
  rfl
theorem with_act {P : Program} {c : Code} {Q : Exit → Act → World → Prop} {a : Act} {w : World} (h : ∀ a0, a0 = a → c.wp P Q a0 w) : c.wp P Q a w := h a rfl
theorem allOk_add {la : List Attr} {x : Attr} (h : AllOkT la) (hx : OkT x) : AllOkT (la ++ [x]) := by
  intro y hy
  rcases List.mem_append.1 hy with hy | hy
  · exact h y hy
  · rw [List.mem_singleton.1 hy]; exact hx

set_option maxHeartbeats 8000000 in
set_option maxRecDepth 100000 in
theorem walk (b0 : Option Addr) (len cap : Nat) (zs : List Int) (w : World) (h : IsRow .i64 w b0 len cap zs) :
    Calls Try.prog 6 #[.slice b0 len cap] w fun e w' => e = .returned (.bool true) ∧ Q w w' := by
  obtain ⟨hlz, hlm⟩ := h.le
  unfold maxLen at hlm
  have mixed : Try.prog.follows .mixedOrders = true := by kernel_rfl
  go_enter Try.func6, Try.ntmps6
  go_wp2_with fail
  go_loopw [3, 4, 5, 6] (fun av bv tv iv wr => ∃ (k : Nat) (la : List Attr), iv = .int .i64 k ∧ k ≤ len ∧ k ≤ 8 ∧ la.length = k ∧ Q w wr ∧ OwnT wr w.heap.size av la ∧ OwnT wr w.heap.size bv la.reverse ∧ tv = .bool (!decide (OnceT la)) ∧ oDj av bv ∧ Hid (AllOkT la)) (fun _ _ _ iv _ => 8 - (intOf iv).toNat)
  case atStart => exact ⟨0, [], rfl, by omega, by omega, rfl, Q.refl _, OwnR.nil_ _ _ _, OwnR.nil_ _ _ _, rfl, (fun g hg => by cases hg), (fun x hx => by cases hx)⟩
  case round =>
    obtain ⟨k, la, rfl, hk, hk8, hla, hq, oa, ob, rfl, hd, OK⟩ := hrel
    have HLA := Lib.hid hla
    have hl8 : la.length ≤ 8 := by omega
    clear hla
    by_cases hlt : k < len ∧ k < 8
    · obtain ⟨hlt, hlt8⟩ := hlt
      have t1 : decide ((k : Int) < (len : Int)) = true := decide_eq_true (by omega)
      have t2 : decide ((k : Int) < 8) = true := decide_eq_true (by omega)
      rcases h.keep hq with ⟨-, rfl, -, -⟩ | ⟨bz, rfl, hz1, hz2, hz3, hz4, -⟩
      · omega
      have cz := hz4 k (by omega)
      generalize zs.getD k 0 = z at *
      have cz2 : (wr.alloc (.cells #[.string ⟨#[97]⟩, .string ⟨#[98]⟩, .string ⟨#[99]⟩, .string ⟨#[97, 98]⟩, .string ⟨#[98, 99]⟩, .string ⟨#[97, 98, 99]⟩, .string ⟨#[122]⟩, .string ⟨#[122, 97]⟩, .string ⟨#[113]⟩, .string ⟨#[113, 113]⟩, .string ⟨#[120]⟩] 9)).cell? (bz.add k) = some (.int .i64 z) := (Below.cell ((Q.refl wr).alloc (.cells #[.string ⟨#[97]⟩, .string ⟨#[98]⟩, .string ⟨#[99]⟩, .string ⟨#[97, 98]⟩, .string ⟨#[98, 99]⟩, .string ⟨#[97, 98, 99]⟩, .string ⟨#[122]⟩, .string ⟨#[122, 97]⟩, .string ⟨#[113]⟩, .string ⟨#[113, 113]⟩, .string ⟨#[120]⟩] 9)) (p := bz.add k) (World.block_lt_of_cell? wr _ cz)).trans cz
      obtain ⟨r, hr, er⟩ := u64_rem z 11 (by omega)
      have hr' : r < 11 := by omega
      have cw := words_at wr r hr'
      have hok := Lib.hid (word_ok r hr')
      generalize word r = nm at *
      obtain ⟨A3, n3, rfl⟩ := oa.form flatT
      obtain ⟨A4, n4, h4⟩ := ob.form flatT
      rw [List.length_reverse] at h4
      subst h4
      have hnn : (0 : Int) ≤ (r : Int) := by omega
      clear hz1 hz2 hz3 hz4 cz h
      go_wp2_with fail
      have q5 : Q wr (wr.alloc (.cells #[.string ⟨#[97]⟩, .string ⟨#[98]⟩, .string ⟨#[99]⟩, .string ⟨#[97, 98]⟩, .string ⟨#[98, 99]⟩, .string ⟨#[97, 98, 99]⟩, .string ⟨#[122]⟩, .string ⟨#[122, 97]⟩, .string ⟨#[113]⟩, .string ⟨#[113, 113]⟩, .string ⟨#[120]⟩] 9)) := (Q.refl _).alloc _
      generalize wr.alloc (.cells #[.string ⟨#[97]⟩, .string ⟨#[98]⟩, .string ⟨#[99]⟩, .string ⟨#[97, 98]⟩, .string ⟨#[98, 99]⟩, .string ⟨#[97, 98, 99]⟩, .string ⟨#[122]⟩, .string ⟨#[122, 97]⟩, .string ⟨#[113]⟩, .string ⟨#[113, 113]⟩, .string ⟨#[120]⟩] 9) = w5 at *
      replace oa := OwnR.keep oa q5
      replace ob := OwnR.keep ob q5
      replace hq := hq.trans q5
      clear q5 cz2 cw
      generalize htb : (!decide (OnceT la)) = t0 at *
      have TB0 := Lib.hid htb
      clear htb
      go_loopw [5, 8] (fun tv kv wi => ∃ (j : Nat) (tb : Bool), kv = .int .i64 j ∧ j ≤ la.length ∧ wi = w5 ∧ tv = .bool tb ∧ Hid (tb = (t0 || hasN (la.take j) nm))) (fun _ kv _ => la.length - (intOf kv).toNat)
      case atStart => exact ⟨0, t0, rfl, by omega, rfl, rfl, by show t0 = (t0 || hasN (la.take 0) nm); simp [hasN]⟩
      case round =>
        obtain ⟨j, tb, rfl, hj, rfl, rfl, TB⟩ := hrel
        by_cases hjl : j < la.length
        · obtain ⟨g, og, _, eg, _, _, hc⟩ := (OwnR.row flatT oa).atT (by omega)
          cases eg
          obtain ⟨c1, -⟩ := hc j hjl
          have An := any_next (nm := nm) hjl
          have lt1 : (j : Int) < (la.length : Int) := by omega
          clear hc oa ob
          cases tb with
          | true =>
            have TB' : Hid (true = (t0 || hasN (la.take (j + 1)) nm)) := by
              show _ = _
              rw [An, ← Bool.or_assoc, ← TB.out]
              rfl
            clear An TB
            go_wp2
            go_roundw
            case rel => exact ⟨j + 1, true, by go_num, by omega, trivial, rfl, TB'⟩
            case measure => simp [intOf]; omega
          | false =>
            by_cases e : la[j].1 = nm
            · have te : (la[j].1.toList == nm.toList) = true := by rw [e]; simp
              have TB' : Hid (true = (t0 || hasN (la.take (j + 1)) nm)) := by
                show _ = _
                rw [An, decide_eq_true e]
                simp
              clear An TB
              generalize la[j] = y at *
              go_wp2
              go_roundw
              case rel => exact ⟨j + 1, true, by go_num, by omega, trivial, rfl, TB'⟩
              case measure => simp [intOf]; omega
            · have te : (la[j].1.toList == nm.toList) = false := beq_eq_false_iff_ne.2 fun k => e (str_inj k)
              have TB' : Hid (false = (t0 || hasN (la.take (j + 1)) nm)) := by
                show _ = _
                rw [An, decide_eq_false e, Bool.or_false]
                exact TB.out
              clear An TB
              generalize la[j] = y at *
              go_wp2
              go_roundw
              case rel => exact ⟨j + 1, false, by go_num, by omega, trivial, rfl, TB'⟩
              case measure => simp [intOf]; omega
        · have TB1 : Hid (tb = !decide (OnceT (la ++ [(nm, sV)]))) := twice_next (by rw [TB0.out]; have := TB.out; rw [List.take_of_length_le (by omega)] at this; exact this)
          clear TB TB0 hj
          go_wp2_with fail
          clear hjl
          have x0 : (wr.alloc (.cells #[.string nm, .string sV] 36)).cell? ⟨wr.heap.size, 0, none⟩ = some (.string nm) := by simp
          have x1 : (wr.alloc (.cells #[.string nm, .string sV] 36)).cell? ⟨wr.heap.size, 1, none⟩ = some (.string sV) := by simp
          have q6 : Q wr (wr.alloc (.cells #[.string nm, .string sV] 36)) := (Q.refl _).alloc _
          have fa : ∀ g, (Value.slice A3 la.length n3).ownBlock = some g → g ≠ wr.heap.size := fun g hg => Nat.ne_of_lt (OwnR.lt oa g hg).2
          have fb : ∀ g, (Value.slice A4 la.length n4).ownBlock = some g → g ≠ wr.heap.size := fun g hg => Nat.ne_of_lt (OwnR.lt ob g hg).2
          generalize wr.alloc (.cells #[.string nm, .string sV] 36) = w6 at *
          replace oa := OwnR.keep oa q6
          replace ob := OwnR.keep ob q6
          replace hq := hq.trans q6
          generalize wr.heap.size = bx at *
          obtain ⟨x, hx⟩ : ∃ x : Attr, x = (nm, sV) := ⟨_, rfl⟩
          have x0 : w6.cell? ⟨bx, 0, none⟩ = some (.string x.1) := by rw [hx]; exact x0
          have x1 : w6.cell? ⟨bx, 1, none⟩ = some (.string x.2) := by rw [hx]; exact x1
          have HX := Lib.hid hx
          clear q6 hx
          refine with_act fun a0 ha0 => ?_
          refine Code.wp_mono (Q := fun e a' w' => match e with | .normal => ∃ (va vb u52 u53 u54 u55 u56 u57 u58 u59 : Value), a' = { tmps := ((((((((((a0.tmps.setIfInBounds 3 va).setIfInBounds 4 vb).setIfInBounds 52 u52).setIfInBounds 53 u53).setIfInBounds 54 u54).setIfInBounds 55 u55).setIfInBounds 56 u56).setIfInBounds 57 u57).setIfInBounds 58 u58).setIfInBounds 59 u59), defers := [] } ∧ Q w w' ∧ OwnT w' w.heap.size va (la ++ [x]) ∧ OwnT w' w.heap.size vb (x :: la.reverse) ∧ oDj va vb | _ => False) ?post ?reg
          case reg =>
            have e3 : a0.tmps.getD 3 undef = (.slice A3 la.length n3) := by rw [ha0]; rfl
            have e4 : a0.tmps.getD 4 undef = (.slice A4 la.length n4) := by rw [ha0]; rfl
            have e0 : a0.defers = [] := by rw [ha0]
            refine wp_region_inv (fun c a' w' => ∃ (u3 u4 u52 u53 u54 u55 u56 u57 u58 u59 : Value), a' = { tmps := ((((((((((a0.tmps.setIfInBounds 3 u3).setIfInBounds 4 u4).setIfInBounds 52 u52).setIfInBounds 53 u53).setIfInBounds 54 u54).setIfInBounds 55 u55).setIfInBounds 56 u56).setIfInBounds 57 u57).setIfInBounds 58 u58).setIfInBounds 59 u59), defers := [] } ∧ I12 x la la.reverse w bx (.slice A3 la.length n3) (.slice A4 la.length n4) c u3 u4 u52 u53 u54 u55 u56 u57 u58 u59 w') mixed (by kernel_rfl) ?_ ?_ ?_
            · refine ⟨_, _, a0.tmps.getD 52 undef, a0.tmps.getD 53 undef, a0.tmps.getD 54 undef, a0.tmps.getD 55 undef, a0.tmps.getD 56 undef, a0.tmps.getD 57 undef, a0.tmps.getD 58 undef, a0.tmps.getD 59 undef, ?_, I12.start (hq.drew) x0 x1 (OwnR.keep oa ((Q.refl w6).drew)) (OwnR.keep ob ((Q.refl w6).drew)) fa fb hd⟩
              rw [← e3, ← e4]
              simp only [set_self]
              exact act_eta e0
            · clear e3 e4 e0
              clear x0 x1 oa ob fa fb hd hq TB1
              rintro c a' w' i oo ⟨u3, u4, u52, u53, u54, u55, u56, u57, u58, u59, rfl, hI⟩ ho hc hd
              have hi : i < 10 := (Array.getElem?_eq_some_iff.1 ho).1
              match i, hi with
              | 0, _ =>
                cases (show some (_ : Oper) = some oo from ho)
                have n8 : c 8 = false := by
                  cases h8 : c 8 with
                  | false => rfl
                  | true => have := hI.o3 (hI.o8 h8); rw [hc] at this; cases this
                obtain rfl := hI.s3 n8
                refine wpOp_step rfl (fun K' hK => ?_)
                rw [if_pos (by rfl)]
                simp only [ha0, List.setIfInBounds_toArray, List.set_cons_succ, List.set_cons_zero]
                go_simp
                exact hK _ _ ⟨_, _, _, _, _, _, _, _, _, _, by simp only [ha0, List.setIfInBounds_toArray, List.set_cons_succ, List.set_cons_zero], hI.add0⟩
              | 1, _ =>
                cases (show some (_ : Oper) = some oo from ho)
                have y0 := hI.x0
                have y1 := hI.x1
                refine wpOp_step rfl (fun K' hK => ?_)
                rw [if_pos (by rfl)]
                simp only [ha0, List.setIfInBounds_toArray, List.set_cons_succ, List.set_cons_zero]
                go_simp
                exact hK _ _ ⟨_, _, _, _, _, _, _, _, _, _, by simp only [ha0, aggT, List.setIfInBounds_toArray, List.set_cons_succ, List.set_cons_zero], hI.add1⟩
              | 2, _ =>
                cases (show some (_ : Oper) = some oo from ho)
                obtain rfl := hI.l1 (hd { on := 1, ground := .data } (by simp) rfl)
                unfold aggT
                refine wpOp_step rfl (fun K' hK => ?_)
                rw [if_pos (by rfl)]
                simp only [ha0, List.setIfInBounds_toArray, List.set_cons_succ, List.set_cons_zero]
                go_simp
                exact hK _ _ ⟨_, _, _, _, _, _, _, _, _, _, by simp only [ha0, aggT, List.setIfInBounds_toArray, List.set_cons_succ, List.set_cons_zero], hI.add2⟩
              | 3, _ =>
                cases (show some (_ : Oper) = some oo from ho)
                have c0 := hd { on := 0, ground := .data } (by simp) rfl
                have c2 := hd { on := 2, ground := .data } (by simp) rfl
                obtain rfl := hI.l0 c0
                refine wpOp_step rfl (fun K' hK => ?_)
                rw [if_pos (by rfl)]
                simp only [ha0, List.setIfInBounds_toArray, List.set_cons_succ, List.set_cons_zero]
                refine wp_append_ats (.tmp 52) (.tmp 54) rfl w.heap.size (.slice A3 la.length n3) la rfl (hI.a0 hc) u54 [x] rfl ((hI.k2 c2 hc).row flatT) (by have := HLA.out; simp; omega) hI.q.size ?_
                intro v' w'' ow hg hv
                show K' (Act.put _ (some 55) v') w''
                exact hK _ _ ⟨_, _, _, _, _, _, _, _, _, _, by simp only [ha0, List.setIfInBounds_toArray, List.set_cons_succ, List.set_cons_zero, Act.put], hI.add3 hc c0 ow hg hv⟩
              | 4, _ =>
                cases (show some (_ : Oper) = some oo from ho)
                have y0 := hI.x0
                have y1 := hI.x1
                refine wpOp_step rfl (fun K' hK => ?_)
                rw [if_pos (by rfl)]
                simp only [ha0, List.setIfInBounds_toArray, List.set_cons_succ, List.set_cons_zero]
                go_simp
                exact hK _ _ ⟨_, _, _, _, _, _, _, _, _, _, by simp only [ha0, aggT, List.setIfInBounds_toArray, List.set_cons_succ, List.set_cons_zero], hI.add4⟩
              | 5, _ =>
                cases (show some (_ : Oper) = some oo from ho)
                obtain rfl := hI.l4 (hd { on := 4, ground := .data } (by simp) rfl)
                unfold aggT
                refine wpOp_step rfl (fun K' hK => ?_)
                rw [if_pos (by rfl)]
                simp only [ha0, List.setIfInBounds_toArray, List.set_cons_succ, List.set_cons_zero]
                go_simp
                exact hK _ _ ⟨_, _, _, _, _, _, _, _, _, _, by simp only [ha0, aggT, List.setIfInBounds_toArray, List.set_cons_succ, List.set_cons_zero], hI.add5⟩
              | 6, _ =>
                cases (show some (_ : Oper) = some oo from ho)
                have n9 : c 9 = false := by
                  cases h9 : c 9 with
                  | false => rfl
                  | true => have := hI.o7 (hI.o9 h9); rw [hc] at this; cases this
                obtain rfl := hI.s4 n9
                refine wpOp_step rfl (fun K' hK => ?_)
                rw [if_pos (by rfl)]
                simp only [ha0, List.setIfInBounds_toArray, List.set_cons_succ, List.set_cons_zero]
                go_simp
                exact hK _ _ ⟨_, _, _, _, _, _, _, _, _, _, by simp only [ha0, List.setIfInBounds_toArray, List.set_cons_succ, List.set_cons_zero], hI.add6⟩
              | 7, _ =>
                cases (show some (_ : Oper) = some oo from ho)
                have c5 := hd { on := 5, ground := .data } (by simp) rfl
                have c6 := hd { on := 6, ground := .data } (by simp) rfl
                obtain rfl := hI.l6 c6
                refine wpOp_step rfl (fun K' hK => ?_)
                rw [if_pos (by rfl)]
                simp only [ha0, List.setIfInBounds_toArray, List.set_cons_succ, List.set_cons_zero]
                refine wp_append_ats (.tmp 57) (.tmp 58) rfl w.heap.size u57 [x] rfl (hI.k5 c5 hc) (.slice A4 la.length n4) la.reverse rfl ((hI.b0 hc).row flatT) (by have := HLA.out; simp; omega) hI.q.size ?_
                intro v' w'' ow hg hv
                show K' (Act.put _ (some 59) v') w''
                exact hK _ _ ⟨_, _, _, _, _, _, _, _, _, _, by simp only [ha0, List.setIfInBounds_toArray, List.set_cons_succ, List.set_cons_zero, Act.put], hI.add7 hc c5 c6 ow hg hv⟩
              | 8, _ =>
                cases (show some (_ : Oper) = some oo from ho)
                have c3 := hd { on := 3, ground := .data } (by simp) rfl
                refine wpOp_step rfl (fun K' hK => ?_)
                rw [if_pos (by rfl)]
                simp only [ha0, List.setIfInBounds_toArray, List.set_cons_succ, List.set_cons_zero]
                go_simp
                exact hK _ _ ⟨_, _, _, _, _, _, _, _, _, _, by simp only [ha0, List.setIfInBounds_toArray, List.set_cons_succ, List.set_cons_zero], hI.add8 c3⟩
              | 9, _ =>
                cases (show some (_ : Oper) = some oo from ho)
                have c7 := hd { on := 7, ground := .data } (by simp) rfl
                refine wpOp_step rfl (fun K' hK => ?_)
                rw [if_pos (by rfl)]
                simp only [ha0, List.setIfInBounds_toArray, List.set_cons_succ, List.set_cons_zero]
                go_simp
                exact hK _ _ ⟨_, _, _, _, _, _, _, _, _, _, by simp only [ha0, List.setIfInBounds_toArray, List.set_cons_succ, List.set_cons_zero], hI.add9 c7⟩
            · rintro c a' w' ⟨u3, u4, u52, u53, u54, u55, u56, u57, u58, u59, rfl, hI⟩ hall
              have c3 : c 3 = true := hall 3 (by simp)
              have c7 : c 7 = true := hall 7 (by simp)
              have c8 : c 8 = true := hall 8 (by simp)
              have c9 : c 9 = true := hall 9 (by simp)
              obtain rfl := hI.t3 c8
              obtain rfl := hI.t4 c9
              have dd := hI.dab
              rw [c3, c7] at dd
              simp only [cond_true] at dd
              exact ⟨_, _, u52, u53, u54, _, u56, u57, u58, _, rfl, hI.q, hI.a1 c3, hI.b1 c7, dd⟩
          case post =>
            rintro e a' w7 hJ
            cases e <;> first | exact hJ.elim | skip
            obtain ⟨va, vb, u52, u53, u54, u55, u56, u57, u58, u59, rfl, q7, oa7, ob7, dd⟩ := hJ
            simp only [ha0, List.setIfInBounds_toArray, List.set_cons_succ, List.set_cons_zero]
            clear ha0
            have hx := HX.out
            subst hx
            clear oa ob x0 x1 fa fb hd
            go_wp2
            go_roundw
            case rel => exact ⟨k + 1, la ++ [(nm, sV)], by go_num, by omega, by omega, by simp [HLA.out], q7, oa7, by rw [List.reverse_append]; exact ob7, congrArg Value.bool TB1.out, dd, allOk_add OK.out hok.out⟩
            case measure => simp [intOf]; omega
    · by_cases hb : k < len
      · have h8 : ¬ k < 8 := fun h => hlt ⟨hb, h⟩
        clear hlt
        obtain ⟨A3, n3, rfl⟩ := oa.form flatT
        obtain ⟨A4, n4, h4⟩ := ob.form flatT
        rw [List.length_reverse] at h4
        subst h4
        have ra := oa.row flatT
        have rb := ob.row flatT
        clear oa ob hd h
        by_cases HO : OnceT la
        · have t0 : (!decide (OnceT la)) = false := by rw [decide_eq_true HO]; rfl
          have C := Lib.hid (normCT_ok OK.out HO (by omega))
          obtain ⟨n, hn⟩ := normT_some la
          have N := Lib.hid hn
          have C2 : Hid (normCT la.reverse = 0) := (normCT_perm (List.reverse_perm la)).trans C.out
          have N2 : Hid (NormRT la.reverse n) := N.out.perm (List.reverse_perm la).symm
          have RN := Lib.hid (hn.1 C.out).2
          have PN := Lib.hid (hn.1 C.out).1
          have hnl := PN.out.length_eq
          have tl : ((n.length : Int) != (la.length : Int)) = false := by rw [bne_eq_false_iff_eq]; omega
          have HNL := Lib.hid hnl
          have hn8 : n.length ≤ 8 := by omega
          clear hn hnl HO
          go_wp2_with fail
          refine (normT_c _ la n 0 _ ra (by omega) C.out N.out).mono ?_
          rintro e w1 ⟨vp, rfl, hp, q1⟩
          replace rb := rb.keep q1
          replace ra := ra.keep q1
          replace hq := hq.trans q1
          clear q1
          go_wp2_with fail
          refine (normT_c _ la.reverse n 0 _ rb (by rw [List.length_reverse]; omega) C2.out N2.out).mono ?_
          rintro e w2 ⟨vq, rfl, hpq, q2⟩
          replace ra := ra.keep q2
          replace rb := rb.keep q2
          replace hp := hp.keep q2
          replace hq := hq.trans q2
          clear q2
          obtain ⟨P3, p3, rfl⟩ := hp.form
          obtain ⟨P4, p4, rfl⟩ := hpq.form
          have gd := guardT
          go_wp2_with fail
          go_loopw [14] (fun iv wi => ∃ j : Nat, iv = .int .i64 j ∧ j ≤ n.length ∧ Q w2 wi) (fun iv _ => n.length - (intOf iv).toNat)
          case atStart => exact ⟨0, rfl, by omega, Q.refl _⟩
          case round =>
            obtain ⟨j, rfl, hj, g2⟩ := hrel
            by_cases hjl : j < n.length
            · obtain ⟨gp, op, _, ep, _, _, hcp⟩ := (hp.keep g2).atT (by omega)
              obtain ⟨gq, oq, _, eq, _, _, hcq⟩ := (hpq.keep g2).atT (by omega)
              cases ep
              cases eq
              obtain ⟨c1, c2⟩ := hcp j hjl
              obtain ⟨d1, d2⟩ := hcq j hjl
              have n1 : ∀ w, Sem.run Try.prog (binOp .neq 36 (aggT n[j]) (aggT n[j])) w = .ok (.bool (!decide (n[j] = n[j]))) w := fun w => neqT _ _ w
              unfold aggT at n1
              simp only [decide_true, Bool.not_true] at n1
              have lt1 : (j : Int) < (n.length : Int) := by omega
              clear tl
              by_cases h0 : j = 0
              · subst h0
                clear hcp hcq ra rb hp hpq
                generalize n[0] = x at *
                replace c1 : wr.cell? ⟨gp, op, none⟩ = some (.string x.1) := by simpa using c1
                replace c2 : wr.cell? ⟨gp, op + 1, none⟩ = some (.string x.2) := by simpa using c2
                replace d1 : wr.cell? ⟨gq, oq, none⟩ = some (.string x.1) := by simpa using d1
                replace d2 : wr.cell? ⟨gq, oq + 1, none⟩ = some (.string x.2) := by simpa using d2
                replace lt1 : (0 : Int) < (n.length : Int) := by omega
                go_wp2
                go_quiet (fail)
                go_wp2
                go_roundw
                case rel => exact ⟨0 + 1, by go_num, by omega, g2.drewN _⟩
                case measure => simp [intOf]; omega
              · obtain ⟨i, rfl⟩ : ∃ i, j = i + 1 := ⟨j - 1, by omega⟩
                obtain ⟨e1, e2⟩ := hcp i (by omega)
                have hle := leT n[i + 1] n[i]
                rw [decide_eq_false (by simpa using List.pairwise_iff_getElem.1 RN.out i (i + 1) (by omega) hjl (by omega))] at hle
                clear hcp hcq ra rb hp hpq
                generalize n[i + 1] = x at *
                generalize n[i] = y at *
                have wr2 : IntKind.i64.wrap (i : Int) = i := IntWalk.i64_in _ (by omega)
                have nn2 : (0 : Int) ≤ (i : Int) := by omega
                have nn3 : (0 : Int) ≤ (i : Int) + 1 := by omega
                have t3 : decide ((0 : Int) < (i : Int) + 1) = true := decide_eq_true (by omega)
                have lt3 : (i : Int) < (n.length : Int) := by omega
                rw [show ((i + 1 : Nat) : Int) = (i : Int) + 1 from rfl] at *
                go_wp2
                go_quiet (fail)
                go_wp2
                go_roundw
                case rel => exact ⟨i + 1 + 1, by go_num, by omega, g2.drewN _⟩
                case measure => simp [intOf]; omega
            · have sj : j = n.length := by omega
              subst sj
              clear hjl hj
              replace ra := ra.keep g2
              replace rb := rb.keep g2
              replace hp := hp.keep g2
              replace hq := hq.trans g2
              clear g2
              go_wp2_with fail
              refine (told_any _).mono ?_
              rintro e w4 ⟨rfl, q4⟩
              replace ra := ra.keep q4
              replace rb := rb.keep q4
              replace hp := hp.keep q4
              replace hq := hq.trans q4
              clear q4
              go_wp2_with fail
              refine (metaMay_c _ ⟨0, 0, 0, 0, n, []⟩ true _ ⟨_, _, rfl, hp, AcesAt.nil_ _⟩ (may_sorted (by have := HNL.out; omega) ((allOkT_perm PN.out).2 OK.out) RN.out)).mono ?_
              rintro e w5 ⟨rfl, q5⟩
              replace ra := ra.keep q5
              replace rb := rb.keep q5
              replace hq := hq.trans q5
              clear q5 hp hpq
              by_cases h2 : la.length < 2
              · have t2 : decide ((la.length : Int) < 2) = true := decide_eq_true (by omega)
                go_wp2
                go_ret
                exact ⟨rfl, hq⟩
              · have t2 : decide ((la.length : Int) < 2) = false := decide_eq_false (by omega)
                obtain ⟨b1, hb1⟩ : ∃ b, mayM ⟨0, 0, 0, 0, la, []⟩ = b := ⟨_, rfl⟩
                obtain ⟨b2, hb2⟩ : ∃ b, mayM ⟨0, 0, 0, 0, la.reverse, []⟩ = b := ⟨_, rfl⟩
                have hnb := Lib.hid (not_both (la := la) (by omega))
                have B1 := Lib.hid hb1
                have B2 := Lib.hid hb2
                clear hb1 hb2 h2
                go_wp2_with fail
                refine (metaMay_c _ ⟨0, 0, 0, 0, la, []⟩ b1 _ ⟨_, _, rfl, ra, AcesAt.nil_ _⟩ B1.out).mono ?_
                rintro e w6 ⟨rfl, q6⟩
                replace ra := ra.keep q6
                replace rb := rb.keep q6
                replace hq := hq.trans q6
                clear q6
                go_wp2_with fail
                refine (metaMay_c _ ⟨0, 0, 0, 0, la.reverse, []⟩ b2 _ ⟨_, _, rfl, rb, AcesAt.nil_ _⟩ B2.out).mono ?_
                rintro e w7 ⟨rfl, q7⟩
                replace ra := ra.keep q7
                replace hq := hq.trans q7
                clear q7 rb
                cases b1 with
                | true =>
                  cases b2 with
                  | true => exact absurd ⟨B1.out, B2.out⟩ hnb.out
                  | false =>
                    go_wp2
                    go_ret
                    exact ⟨rfl, hq⟩
                | false =>
                  cases b2 with
                  | true =>
                    go_wp2
                    go_ret
                    exact ⟨rfl, hq⟩
                  | false =>
                    go_wp2_with fail
                    refine (metaMay_c _ ⟨0, 0, 0, 0, la, []⟩ false _ ⟨_, _, rfl, ra, AcesAt.nil_ _⟩ B1.out).mono ?_
                    rintro e w8 ⟨rfl, q8⟩
                    go_wp2
                    go_ret
                    exact ⟨rfl, hq.trans q8⟩
        · have t0 : (!decide (OnceT la)) = true := by rw [decide_eq_false HO]; rfl
          have C := Lib.hid (normCT_exist OK.out HO)
          have N : Hid (NormRT la []) := normRT_err (by rw [C.out]; decide)
          have C2 : Hid (normCT la.reverse = 6) := (normCT_perm (List.reverse_perm la)).trans C.out
          have N2 : Hid (NormRT la.reverse []) := N.out.perm (List.reverse_perm la).symm
          clear HO
          go_wp2_with fail
          refine (normT_c _ la [] 6 _ ra (by omega) C.out N.out).mono ?_
          rintro e w1 ⟨vp, rfl, hp, q1⟩
          replace rb := rb.keep q1
          replace hq := hq.trans q1
          clear q1
          go_wp2_with fail
          refine (normT_c _ la.reverse [] 6 _ rb (by rw [List.length_reverse]; omega) C2.out N2.out).mono ?_
          rintro e w2 ⟨vq, rfl, hpq, q2⟩
          replace hq := hq.trans q2
          clear q2
          obtain ⟨P3, p3, rfl⟩ := hp.form
          obtain ⟨P4, p4, rfl⟩ := hpq.form
          go_wp2_with fail
          refine (told_any _).mono ?_
          rintro e w4 ⟨rfl, q4⟩
          go_wp2
          go_ret
          exact ⟨rfl, hq.trans q4⟩
      · clear hlt
        obtain ⟨A3, n3, rfl⟩ := oa.form flatT
        obtain ⟨A4, n4, h4⟩ := ob.form flatT
        rw [List.length_reverse] at h4
        subst h4
        have ra := oa.row flatT
        have rb := ob.row flatT
        clear oa ob hd h
        by_cases HO : OnceT la
        · have t0 : (!decide (OnceT la)) = false := by rw [decide_eq_true HO]; rfl
          have C := Lib.hid (normCT_ok OK.out HO (by omega))
          obtain ⟨n, hn⟩ := normT_some la
          have N := Lib.hid hn
          have C2 : Hid (normCT la.reverse = 0) := (normCT_perm (List.reverse_perm la)).trans C.out
          have N2 : Hid (NormRT la.reverse n) := N.out.perm (List.reverse_perm la).symm
          have RN := Lib.hid (hn.1 C.out).2
          have PN := Lib.hid (hn.1 C.out).1
          have hnl := PN.out.length_eq
          have tl : ((n.length : Int) != (la.length : Int)) = false := by rw [bne_eq_false_iff_eq]; omega
          have HNL := Lib.hid hnl
          have hn8 : n.length ≤ 8 := by omega
          clear hn hnl HO
          go_wp2_with fail
          refine (normT_c _ la n 0 _ ra (by omega) C.out N.out).mono ?_
          rintro e w1 ⟨vp, rfl, hp, q1⟩
          replace rb := rb.keep q1
          replace ra := ra.keep q1
          replace hq := hq.trans q1
          clear q1
          go_wp2_with fail
          refine (normT_c _ la.reverse n 0 _ rb (by rw [List.length_reverse]; omega) C2.out N2.out).mono ?_
          rintro e w2 ⟨vq, rfl, hpq, q2⟩
          replace ra := ra.keep q2
          replace rb := rb.keep q2
          replace hp := hp.keep q2
          replace hq := hq.trans q2
          clear q2
          obtain ⟨P3, p3, rfl⟩ := hp.form
          obtain ⟨P4, p4, rfl⟩ := hpq.form
          have gd := guardT
          go_wp2_with fail
          go_loopw [14] (fun iv wi => ∃ j : Nat, iv = .int .i64 j ∧ j ≤ n.length ∧ Q w2 wi) (fun iv _ => n.length - (intOf iv).toNat)
          case atStart => exact ⟨0, rfl, by omega, Q.refl _⟩
          case round =>
            obtain ⟨j, rfl, hj, g2⟩ := hrel
            by_cases hjl : j < n.length
            · obtain ⟨gp, op, _, ep, _, _, hcp⟩ := (hp.keep g2).atT (by omega)
              obtain ⟨gq, oq, _, eq, _, _, hcq⟩ := (hpq.keep g2).atT (by omega)
              cases ep
              cases eq
              obtain ⟨c1, c2⟩ := hcp j hjl
              obtain ⟨d1, d2⟩ := hcq j hjl
              have n1 : ∀ w, Sem.run Try.prog (binOp .neq 36 (aggT n[j]) (aggT n[j])) w = .ok (.bool (!decide (n[j] = n[j]))) w := fun w => neqT _ _ w
              unfold aggT at n1
              simp only [decide_true, Bool.not_true] at n1
              have lt1 : (j : Int) < (n.length : Int) := by omega
              clear tl
              by_cases h0 : j = 0
              · subst h0
                clear hcp hcq ra rb hp hpq
                generalize n[0] = x at *
                replace c1 : wr.cell? ⟨gp, op, none⟩ = some (.string x.1) := by simpa using c1
                replace c2 : wr.cell? ⟨gp, op + 1, none⟩ = some (.string x.2) := by simpa using c2
                replace d1 : wr.cell? ⟨gq, oq, none⟩ = some (.string x.1) := by simpa using d1
                replace d2 : wr.cell? ⟨gq, oq + 1, none⟩ = some (.string x.2) := by simpa using d2
                replace lt1 : (0 : Int) < (n.length : Int) := by omega
                go_wp2
                go_quiet (fail)
                go_wp2
                go_roundw
                case rel => exact ⟨0 + 1, by go_num, by omega, g2.drewN _⟩
                case measure => simp [intOf]; omega
              · obtain ⟨i, rfl⟩ : ∃ i, j = i + 1 := ⟨j - 1, by omega⟩
                obtain ⟨e1, e2⟩ := hcp i (by omega)
                have hle := leT n[i + 1] n[i]
                rw [decide_eq_false (by simpa using List.pairwise_iff_getElem.1 RN.out i (i + 1) (by omega) hjl (by omega))] at hle
                clear hcp hcq ra rb hp hpq
                generalize n[i + 1] = x at *
                generalize n[i] = y at *
                have wr2 : IntKind.i64.wrap (i : Int) = i := IntWalk.i64_in _ (by omega)
                have nn2 : (0 : Int) ≤ (i : Int) := by omega
                have nn3 : (0 : Int) ≤ (i : Int) + 1 := by omega
                have t3 : decide ((0 : Int) < (i : Int) + 1) = true := decide_eq_true (by omega)
                have lt3 : (i : Int) < (n.length : Int) := by omega
                rw [show ((i + 1 : Nat) : Int) = (i : Int) + 1 from rfl] at *
                go_wp2
                go_quiet (fail)
                go_wp2
                go_roundw
                case rel => exact ⟨i + 1 + 1, by go_num, by omega, g2.drewN _⟩
                case measure => simp [intOf]; omega
            · have sj : j = n.length := by omega
              subst sj
              clear hjl hj
              replace ra := ra.keep g2
              replace rb := rb.keep g2
              replace hp := hp.keep g2
              replace hq := hq.trans g2
              clear g2
              go_wp2_with fail
              refine (told_any _).mono ?_
              rintro e w4 ⟨rfl, q4⟩
              replace ra := ra.keep q4
              replace rb := rb.keep q4
              replace hp := hp.keep q4
              replace hq := hq.trans q4
              clear q4
              go_wp2_with fail
              refine (metaMay_c _ ⟨0, 0, 0, 0, n, []⟩ true _ ⟨_, _, rfl, hp, AcesAt.nil_ _⟩ (may_sorted (by have := HNL.out; omega) ((allOkT_perm PN.out).2 OK.out) RN.out)).mono ?_
              rintro e w5 ⟨rfl, q5⟩
              replace ra := ra.keep q5
              replace rb := rb.keep q5
              replace hq := hq.trans q5
              clear q5 hp hpq
              by_cases h2 : la.length < 2
              · have t2 : decide ((la.length : Int) < 2) = true := decide_eq_true (by omega)
                go_wp2
                go_ret
                exact ⟨rfl, hq⟩
              · have t2 : decide ((la.length : Int) < 2) = false := decide_eq_false (by omega)
                obtain ⟨b1, hb1⟩ : ∃ b, mayM ⟨0, 0, 0, 0, la, []⟩ = b := ⟨_, rfl⟩
                obtain ⟨b2, hb2⟩ : ∃ b, mayM ⟨0, 0, 0, 0, la.reverse, []⟩ = b := ⟨_, rfl⟩
                have hnb := Lib.hid (not_both (la := la) (by omega))
                have B1 := Lib.hid hb1
                have B2 := Lib.hid hb2
                clear hb1 hb2 h2
                go_wp2_with fail
                refine (metaMay_c _ ⟨0, 0, 0, 0, la, []⟩ b1 _ ⟨_, _, rfl, ra, AcesAt.nil_ _⟩ B1.out).mono ?_
                rintro e w6 ⟨rfl, q6⟩
                replace ra := ra.keep q6
                replace rb := rb.keep q6
                replace hq := hq.trans q6
                clear q6
                go_wp2_with fail
                refine (metaMay_c _ ⟨0, 0, 0, 0, la.reverse, []⟩ b2 _ ⟨_, _, rfl, rb, AcesAt.nil_ _⟩ B2.out).mono ?_
                rintro e w7 ⟨rfl, q7⟩
                replace ra := ra.keep q7
                replace hq := hq.trans q7
                clear q7 rb
                cases b1 with
                | true =>
                  cases b2 with
                  | true => exact absurd ⟨B1.out, B2.out⟩ hnb.out
                  | false =>
                    go_wp2
                    go_ret
                    exact ⟨rfl, hq⟩
                | false =>
                  cases b2 with
                  | true =>
                    go_wp2
                    go_ret
                    exact ⟨rfl, hq⟩
                  | false =>
                    go_wp2_with fail
                    refine (metaMay_c _ ⟨0, 0, 0, 0, la, []⟩ false _ ⟨_, _, rfl, ra, AcesAt.nil_ _⟩ B1.out).mono ?_
                    rintro e w8 ⟨rfl, q8⟩
                    go_wp2
                    go_ret
                    exact ⟨rfl, hq.trans q8⟩
        · have t0 : (!decide (OnceT la)) = true := by rw [decide_eq_false HO]; rfl
          have C := Lib.hid (normCT_exist OK.out HO)
          have N : Hid (NormRT la []) := normRT_err (by rw [C.out]; decide)
          have C2 : Hid (normCT la.reverse = 6) := (normCT_perm (List.reverse_perm la)).trans C.out
          have N2 : Hid (NormRT la.reverse []) := N.out.perm (List.reverse_perm la).symm
          clear HO
          go_wp2_with fail
          refine (normT_c _ la [] 6 _ ra (by omega) C.out N.out).mono ?_
          rintro e w1 ⟨vp, rfl, hp, q1⟩
          replace rb := rb.keep q1
          replace hq := hq.trans q1
          clear q1
          go_wp2_with fail
          refine (normT_c _ la.reverse [] 6 _ rb (by rw [List.length_reverse]; omega) C2.out N2.out).mono ?_
          rintro e w2 ⟨vq, rfl, hpq, q2⟩
          replace hq := hq.trans q2
          clear q2
          obtain ⟨P3, p3, rfl⟩ := hp.form
          obtain ⟨P4, p4, rfl⟩ := hpq.form
          go_wp2_with fail
          refine (told_any _).mono ?_
          rintro e w4 ⟨rfl, q4⟩
          go_wp2
          go_ret
          exact ⟨rfl, hq.trans q4⟩

/-! ### The row -/
set_option maxRecDepth 100000 in
theorem lifted (os : Os) (started : os.Started) (H : Type) (enc : TypeId × Value → H) :
    ReturnsInHanded {} Try.checked os 6 .any (Rows.metaNormsSpec.pre6 enc Try.prog Try.f6 Rows.metaNormsRow.domain false) (Rows.metaNormsSpec.post enc Try.prog Try.f6 false true false false) := by
  refine returnsInHanded_of_change (C := Try.checked) own started (by kernel_rfl) Try.func6
    (ChangeSpec.witness6 (enc := enc) (C := Try.checked) false ⟨#[], #[.slice none 0 0], []⟩ 8 (by kernel_rfl) (by kernel_rfl) (by kernel_rfl) (by kernel_rfl)) ?_
  intro W base args ds gs before hval0 hW hcnd _
  have hval : ∀ (j : Nat) t v, Try.f6.params[j]? = some t → args[j]? = some v → Value.okWide Try.prog W .any base t v := hval0
  have hW' := hW
  obtain ⟨p, q, hA0, hV, rfl, hfz, hnd⟩ := hW
  have hA : DataW.TrodAll enc Try.prog W 0 (fun _ => true) true Try.f6.params.toList args.toList ds p := hA0
  rw [Try.params6] at hA hval
  obtain ⟨v0, vs0, d0, ds0, p0, q0, hargs, rfl, rfl, h0, r0⟩ := trodAll_cons hA
  obtain ⟨rfl, rfl, rfl⟩ := trodAll_nil r0
  obtain rfl : args = #[v0] := by cases args; simp_all
  obtain ⟨rfl, rfl⟩ := trodVars_none hV
  have k0 := h0
  have lt0 : ∀ x ∈ p0, x.block < W.heap.size := by obtain ⟨m, hm⟩ := k0; exact DataW.trod_lt m _ _ _ hm
  obtain ⟨b0, len0, cap0, rfl⟩ := okWide_slice Try.underlying40 (hval 0 40 v0 rfl rfl)
  obtain ⟨z0, w0⟩ : ∃ zs, IsRow .i64 W b0 len0 cap0 zs := by
    obtain ⟨fuel, hf⟩ := h0
    rcases open_ints Try.underlying40 Try.underlying3 (by kernel_rfl) hf with ⟨hcs, _⟩ | ⟨x, l, c, zs, hcs, _, hl, hm, hz, _, hcell, hwz⟩
    · simp [Value.cells] at hcs
      obtain ⟨rfl, rfl, rfl⟩ := hcs
      exact ⟨[], .inl ⟨rfl, rfl, rfl, rfl⟩⟩
    · simp [Value.cells] at hcs
      obtain ⟨rfl, rfl, rfl⟩ := hcs
      exact ⟨zs, .inr ⟨_, rfl, hl, hm, by simpa using hz, hcell, hwz⟩⟩
  clear hA0 hval0
  try simp only [List.append_nil] at hW'
  refine (walk _ _ _ z0 W w0).mono fun e W' ⟨he, bel⟩ => ?_
  subst he
  exact ⟨_, rfl, _, _, _, [], _, [], hW', trodAll_mk1 (shut_bool Try.underlying4 _), (trodAll_cons_mk (Below.trod laidOut (by kernel_rfl) (of_decide_eq_true (by kernel_rfl)) k0 bel lt0) trodAll_mk0), rfl, Below.frame bel _, fun h => by cases h⟩

theorem over : Rows.metaNormsRow.holds Try.pinned (OpenSpec.ofChange Rows.metaNormsSpec) :=
  OpenClaim.holds_of_wide 6 Try.f6 rfl rfl rfl rfl rfl rfl rfl ⟨rfl, rfl, rfl, rfl, rfl⟩ rfl rfl rfl rfl rfl (by kernel_rfl) Try.func6 (by kernel_rfl)
    (of_decide_eq_true (by kernel_rfl)) (by unfold Func.isWrapper; first | (rw [if_pos (by decide +kernel)]; kernel_rfl) | (rw [if_neg (by decide +kernel)]; exact ⟨rfl, rfl⟩))
    (fun os started H enc _ => lifted os started H enc)

theorem proved : Rows.MetaNormsSaid := over


end Go.Proofs.Ytidpcoolfomgjaa.norms
