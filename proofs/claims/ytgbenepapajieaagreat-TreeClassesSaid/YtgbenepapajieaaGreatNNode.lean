/-
  The contract of the document's joined. The contract of node.text: the bytes of a range. The contracts of node's total, Bytes and lay, and of the library's Clone, Grow and Concat at pieces. Nodes: as plain mathematics, as values; the contracts of node's Extents, Bytes, content, May, file.
-/
import Derived.StillTailTactics
import Derived.Deep.Onto
import Derived.Test.YtgbenepapajieaaGreatNRefC
import Derived.Deep.RegionHeld3
import Derived.Test.YtgbenepapajieaaGreatEMeet
import Derived.Lib.AppendZeros
namespace Go.Proofs.YtgbenepapajieaaGreat.Nd
open Go.RowKit
open Go.Proofs.YtgbenepapajieaaGreat.Ex.Rng
open Go.Proofs.YtgbenepapajieaaGreat.Ex (E ExtsAt)

/-! ### joined -/
theorem add_strJ {a b : ByteArray} (h : a.size + b.size ≤ 1000000) : Op.stringOp .add a b = pure (.string (a ++ b)) := by
  unfold Op.stringOp
  simp only
  rw [if_neg]
  simp only [IntKind.max]
  show ¬ (_ > (9223372036854775807 : Int))
  omega
theorem join_take {l : List Pc} {k : Nat} (hk : k < l.length) : joinStep (joinP (l.take k)) l[k] = joinP (l.take (k + 1)) := by
  rw [List.take_succ_eq_append_getElem hk]
  unfold joinP
  rw [List.foldl_append]
  rfl
theorem sum_joinStep (out : List Pc) (p : Pc) : sumP (joinStep out p) = sumP out + p.2.size := by
  rcases last_case out with rfl | ⟨o, x, rfl⟩
  · rw [join_nil]; simp [sumP]
  · rw [join_last]
    split
    · simp only [sumP_append, sumP, ByteArray.size_append]; omega
    · simp only [sumP_append, sumP]; omega
theorem bound_joinStep {out : List Pc} {p : Pc} {T : Int} (h : ∀ x ∈ out, 0 ≤ x.1 ∧ x.1 ≤ T) (hp : 0 ≤ p.1 ∧ p.1 ≤ T) : ∀ x ∈ joinStep out p, 0 ≤ x.1 ∧ x.1 ≤ T := by
  rcases last_case out with rfl | ⟨o, x, rfl⟩
  · rw [join_nil]; intro y hy; rw [List.mem_singleton.1 hy]; exact hp
  · rw [join_last]
    split
    · intro y hy
      rcases List.mem_append.1 hy with hy | hy
      · exact h y (List.mem_append_left _ hy)
      · rw [List.mem_singleton.1 hy]; exact h x (by simp)
    · intro y hy
      rcases List.mem_append.1 hy with hy | hy
      · exact h y hy
      · rw [List.mem_singleton.1 hy]; exact hp
theorem len_joinStep (out : List Pc) (p : Pc) : (joinStep out p).length ≤ out.length + 1 := by
  rcases last_case out with rfl | ⟨o, x, rfl⟩
  · rw [join_nil]; simp
  · rw [join_last]
    split <;> simp
theorem sumT {l : List Pc} {k : Nat} (h : k < l.length) : sumP (l.take (k + 1)) = sumP (l.take k) + l[k].2.size := by
  rw [List.take_succ_eq_append_getElem h, sumP_append]; simp [sumP]
theorem sumT_le : ∀ (l : List Pc) (k : Nat), sumP (l.take k) ≤ sumP l
  | [], k => by simp
  | p :: r, 0 => by simp [sumP]
  | p :: r, k + 1 => by have := sumT_le r k; simp only [List.take_succ_cons, sumP]; omega
/-- A string of the last piece of one's own row, written anew. -/
theorem own_last {w : World} {B g cap : Nat} {o : List Pc} {y : Pc} {s : ByteArray} (h : OwnP w B (.slice (some ⟨g, 0, none⟩) (o.length + 1) cap) (o ++ [y])) :
    OwnP (w.setCell ⟨g, o.length * 2 + 1, none⟩ (.string s)) B (.slice (some ⟨g, 0, none⟩) (o.length + 1) cap) (o ++ [(y.1, s)]) ∧ w.grownBy (w.setCell ⟨g, o.length * 2 + 1, none⟩ (.string s)) (some g) := by
  have h' : w.ownsRow B 87 2 (.slice (some ⟨g, 0, none⟩) (o.length + 1) cap) (o.length + 1) (flatR cellsP (o ++ [y])) := by
    have := h
    unfold OwnP OwnR at this
    rwa [List.length_append, List.length_singleton] at this
  obtain ⟨a, b⟩ := h'.stored (o.length * 2 + 1) (.string s)
  refine ⟨?_, b⟩
  have e : (flatR cellsP (o ++ [y])).set (o.length * 2 + 1) (.string s) = flatR cellsP (o ++ [(y.1, s)]) := by
    rw [flatR_add, flatR_add, List.set_append_right _ _ (by rw [flatR_len flatP]; omega), flatR_len flatP]
    congr 1
    rw [show o.length * 2 + 1 - o.length * 2 = 1 by omega]
    rfl
  rw [e] at a
  unfold OwnP OwnR
  rw [List.length_append, List.length_singleton]
  exact a
set_option maxRecDepth 100000 in
set_option maxHeartbeats 4000000 in
theorem joined_any (v : Value) (l : List Pc) (w : World) (h : PcsAt w v l) (hl : l.length ≤ 10000) (hok : ∀ p ∈ l, 0 ≤ p.1 ∧ p.1 ≤ 2199023255552) (hs : sumP l ≤ 100000) :
    Calls Tryz.prog 82 #[v] w fun e w' => ∃ v', e = .returned v' ∧ OwnP w' w.heap.size v' (joinP l) ∧ Q w w' := by
  have HV : Hid (∀ w', Q w w' → PcsAt w' v l) := fun w' q => h.keep q
  have HB : Hid (∀ k (hk : k < l.length), 0 ≤ l[k].1 ∧ l[k].1 ≤ 2199023255552) := fun k hk => hok _ (List.getElem_mem hk)
  have HS : Hid (∀ k (hk : k < l.length), sumP (l.take k) + l[k].2.size ≤ 100000) := fun k hk => by have := sumT_le l (k + 1); rw [sumT hk] at this; omega
  have HT : Hid (∀ k (hk : k < l.length), sumP (l.take (k + 1)) = sumP (l.take k) + l[k].2.size) := fun k hk => sumT hk
  obtain ⟨A, c, rfl⟩ := h.form
  clear h hok hs
  go_enter Tryz.func82, Tryz.ntmps82
  go_wp2
  go_loopw [3, 4, 5] (fun o i _ wr => ∃ (k : Nat) (ns : List Pc), i = .int .i64 k ∧ k ≤ l.length ∧ OwnP wr w.heap.size o ns ∧ Q w wr ∧ ns.length ≤ k ∧ Hid ((∀ x ∈ ns, 0 ≤ x.1 ∧ x.1 ≤ 2199023255552) ∧ sumP ns = sumP (l.take k)) ∧ Hid (ns = joinP (l.take k))) (fun _ i _ _ => l.length - (intOf i).toNat)
  case atStart => exact ⟨0, [], rfl, by omega, OwnR.nil_ _ _ _, Q.refl _, by simp, ⟨by simp, by simp [sumP]⟩, by rw [List.take_zero]; rfl⟩
  case round =>
    obtain ⟨k, ns, rfl, hk, hown, hq, hn, HI, H⟩ := hrel
    obtain ⟨B, cb, rfl⟩ := hown.form flatP
    by_cases hlt : k < l.length
    · obtain ⟨g, og, _, ea, _, _, hc⟩ := (HV.out _ hq).atP (by omega)
      obtain ⟨rfl, -, rfl⟩ := Value.slice.inj ea
      obtain ⟨c1, c2⟩ := hc k hlt
      have o1 := HB.out k hlt
      have o2 := HS.out k hlt
      have E1 : Hid (joinStep ns l[k] = joinP (l.take (k + 1))) := by rw [H.out]; exact join_take hlt
      have HI2 : Hid ((∀ x ∈ joinStep ns l[k], 0 ≤ x.1 ∧ x.1 ≤ 2199023255552) ∧ sumP (joinStep ns l[k]) = sumP (l.take (k + 1))) := ⟨bound_joinStep HI.out.1 o1, by rw [sum_joinStep, HI.out.2, HT.out k hlt]⟩
      have o3 : sumP ns + l[k].2.size ≤ 100000 := by rw [HI.out.2]; exact o2
      clear hc H HV HB HS HT ea o2
      generalize l[k] = x at *
      obtain ⟨x1, xs⟩ := x
      simp only at c1 c2 o1 o3
      have lt2 : (k : Int) < (l.length : Int) := by omega
      rcases last_case ns with rfl | ⟨o, y, rfl⟩
      · rw [join_nil] at E1 HI2
        clear HI
        have wm : IntKind.i64.wrap (-1) = -1 := by decide +kernel
        go_wp2_with fail
        go_quiet (fail)
        have hq1 := hq.drewN nq
        have hown1 := hown.keep ((Q.refl wr).drewN nq)
        have d1 := ((Q.refl wr).drewN nq).cell c1
        have d2 := ((Q.refl wr).drewN nq).cell c2
        clear hq hown c1 c2
        generalize wr.drewN nq = w3 at *
        have hsz := hq1.size
        go_wp2_with (at_builtin; refine wpList_append_pcs rfl (.tmp 52) (.tmp 57) rfl w.heap.size _ [] rfl (hown1.grew (Grew.alloc _ _)) _ [(x1, xs)] rfl ((own_one flatP 87 w3 w3.heap.size (Nat.le_refl _) (x1, xs)).row flatP) (by simp) (by rw [World.size_alloc]; omega) ?_)
        intro v4 w4 hown4 hg4 _
        have hq4 : Q w w4 := Below.grown (hq1.alloc _) hg4 (by rw [World.size_alloc]; omega) fun g hg => (hown1.lt g hg).1
        have hl4 : ([] ++ [(x1, xs)] : List Pc).length ≤ k + 1 := by simp
        replace hl4 : ([(x1, xs)] : List Pc).length ≤ k + 1 := hl4
        replace hown4 : OwnP w4 w.heap.size v4 [(x1, xs)] := hown4
        generalize [(x1, xs)] = ns4 at *
        clear hg4 hown1 hsz
        go_wp2
        go_roundw
        case rel => exact ⟨k + 1, ns4, by go_num, by omega, hown4, hq4, hl4, HI2, E1⟩
        case measure => simp [intOf]; omega
      · rw [join_last] at E1 HI2
        have hy := HI.out.1 y (by simp)
        have hsum : sumP o + y.2.size + xs.size ≤ 100000 := by rw [sumP_append] at o3; simp only [sumP] at o3; omega
        have e1 : (o ++ [y]).length = o.length + 1 := by simp
        rw [e1] at hown hn ⊢
        obtain ⟨g2, hB⟩ : ∃ g, (Value.slice B (o.length + 1) cb) = .slice (some ⟨g, 0, none⟩) (o.length + 1) cb := by
          rcases hown.2 with ⟨e, hn0⟩ | ⟨g, cap, cur, e, _⟩
          · rw [e1] at hn0; omega
          · obtain ⟨rfl, -, rfl⟩ := Value.slice.inj e; exact ⟨g, rfl⟩
        cases hB
        obtain ⟨gz, oz, _, ez, _, _, hcz⟩ := (hown.row flatP).atP (by rw [e1]; omega)
        obtain ⟨ez1, -, -⟩ := Value.slice.inj ez
        cases ez1
        obtain ⟨d1, d2⟩ := hcz o.length (by rw [e1]; omega)
        rw [show (o ++ [y])[o.length]'(by rw [e1]; omega) = y from by simp] at d1 d2
        rw [Nat.zero_add] at d1 d2
        have fr : wr.frozen? ⟨g2, o.length * 2 + 1, none⟩ = false := by
          have h' : wr.ownsRow w.heap.size 87 2 (.slice (some ⟨g2, 0, none⟩) (o.length + 1) cb) (o.length + 1) (flatR cellsP (o ++ [y])) := by
            have := hown
            unfold OwnP OwnR at this
            rwa [e1] at this
          exact h'.frozenAt _
        obtain ⟨y1, ys⟩ := y
        simp only at hy hsum d1 d2
        have wk : IntKind.i64.wrap (((o.length + 1 : Nat) : Int) - 1) = (o.length : Int) := by rw [show ((o.length + 1 : Nat) : Int) - 1 = (o.length : Int) by omega]; exact IntWalk.i64_in _ (by omega)
        have wy : IntKind.i64.wrap (y1 + (ys.size : Int)) = y1 + (ys.size : Int) := IntWalk.i64_in _ (by omega)
        have t1 : decide ((0 : Int) ≤ (o.length : Int)) = true := decide_eq_true (by omega)
        have lt3 : (o.length : Int) < ((o.length + 1 : Nat) : Int) := by omega
        clear hcz ez
        by_cases hj : y1 + (ys.size : Int) = x1
        · have t2 : (y1 + (ys.size : Int) == x1) = true := beq_iff_eq.2 hj
          simp only [hj, if_true] at E1 HI2
          have had : Op.stringOp .add ys xs = pure (.string (ys ++ xs)) := add_strJ (by omega)
          clear hj HI
          go_wp2_with fail
          go_quiet (fail)
          go_wp2_with fail
          have hqd : Q w (wr.drewN nq).drew := (hq.drewN nq).drew
          have hownd : OwnP (wr.drewN nq).drew w.heap.size (.slice (some ⟨g2, 0, none⟩) (o.length + 1) cb) (o ++ [(y1, ys)]) := hown.keep ((Q.refl wr).drewN nq).drew
          have b1 := ((Q.refl wr).drewN nq).drew.cell c1
          have b2 := ((Q.refl wr).drewN nq).drew.cell c2
          have b3 := ((Q.refl wr).drewN nq).drew.cell d1
          have b4 := ((Q.refl wr).drewN nq).drew.cell d2
          have frd : (wr.drewN nq).drew.frozen? ⟨g2, o.length * 2 + 1, none⟩ = false := fr
          obtain ⟨hown4, hg4⟩ := own_last (s := ys ++ xs) hownd
          have hq4 : Q w ((wr.drewN nq).drew.setCell ⟨g2, o.length * 2 + 1, none⟩ (.string (ys ++ xs))) := Below.grown hqd hg4 hqd.size fun j hj => (hown.lt j (by cases hj; rfl)).1
          have hl4 : (o ++ [(y1, ys ++ xs)] : List Pc).length ≤ k + 1 := by simp; omega
          have lt4 : (o.length : Int) < (o.length : Int) + 1 := by omega
          have nn4 : (0 : Int) ≤ (o.length : Int) := by omega
          clear hg4 hown hownd hq hqd c1 c2 d1 d2 fr
          refine wp_region_still_tail 15 (by kernel_rfl) (by kernel_rfl) ?_
          simp only [List.take_succ_cons, List.take_zero, List.drop_succ_cons, List.drop_zero]
          change wpStill _ _ (wr.drewN nq).drew (fun a' => wpList _ _ _ _ a' (wr.drewN nq).drew) _ _
          generalize (wr.drewN nq).drew = w2 at *
          repeat still_step
          refine wpStill_nil ?_
          have hsto : ∀ a m w, Sem.run Tryz.prog (store a (.string (ys ++ xs)) m) w = stored Tryz.prog w a (.string (ys ++ xs)) m := fun a m w => run_store Tryz.prog w a _ m rfl
          go_wp2
          go_roundw
          case rel => exact ⟨k + 1, o ++ [(y1, ys ++ xs)], by go_num, by omega, hown4, hq4, hl4, HI2, E1⟩
          case measure => simp [intOf]; omega
        · have t2 : (y1 + (ys.size : Int) == x1) = false := beq_eq_false_iff_ne.2 hj
          simp only [hj, if_false] at E1 HI2
          clear hj HI
          go_wp2_with fail
          go_quiet (fail)
          have hq1 := hq.drewN nq
          have hown1 := hown.keep ((Q.refl wr).drewN nq)
          have k1 := ((Q.refl wr).drewN nq).cell c1
          have k2 := ((Q.refl wr).drewN nq).cell c2
          clear hq hown c1 c2 d1 d2 fr
          generalize wr.drewN nq = w3 at *
          have hsz := hq1.size
          go_wp2_with (at_builtin; refine wpList_append_pcs rfl (.tmp 52) (.tmp 57) rfl w.heap.size _ (o ++ [(y1, ys)]) rfl (hown1.grew (Grew.alloc _ _)) _ [(x1, xs)] rfl ((own_one flatP 87 w3 w3.heap.size (Nat.le_refl _) (x1, xs)).row flatP) (by simp; omega) (by rw [World.size_alloc]; omega) ?_)
          intro v4 w4 hown4 hg4 _
          have hq4 : Q w w4 := Below.grown (hq1.alloc _) hg4 (by rw [World.size_alloc]; omega) fun g hg => (hown1.lt g hg).1
          have hl4 : (o ++ [(y1, ys), (x1, xs)] : List Pc).length ≤ k + 1 := by simp; omega
          replace hown4 : OwnP w4 w.heap.size v4 (o ++ [(y1, ys), (x1, xs)]) := by simpa using hown4
          rw [List.append_assoc, List.singleton_append] at E1 HI2
          generalize (o ++ [(y1, ys), (x1, xs)] : List Pc) = ns4 at *
          clear hg4 hown1 hsz
          go_wp2
          go_roundw
          case rel => exact ⟨k + 1, ns4, by go_num, by omega, hown4, hq4, hl4, HI2, E1⟩
          case measure => simp [intOf]; omega
    · have E1 : Hid (ns = joinP l) := by
        have := H.out
        rwa [List.take_of_length_le (by omega)] at this
      clear H
      go_wp2
      go_ret
      exact ⟨_, rfl, by rw [← E1.out]; exact hown, hq⟩
end Go.Proofs.YtgbenepapajieaaGreat.Nd
namespace Go.Proofs.YtgbenepapajieaaGreat.Nd
open Go.RowKit
open Go.Proofs.YtgbenepapajieaaGreat.Ex.Rng
open Go.Proofs.YtgbenepapajieaaGreat.Ex (E ExtsAt)

/-- The range's bytes of the first k pieces. -/
def bytesTo (l : List Pc) (a n : Nat) : List UInt8 := (List.range n).map fun i => (byteOf l (a + i)).getD 0
/-- .. and, over them, those of a piece in ranges. -/
def bytesOver (l : List Pc) (p : Pc) (r : List X) (a n : Nat) : List UInt8 := (List.range n).map fun i => if Mem (a + i) r then byteP p (a + i) else (byteOf l (a + i)).getD 0
theorem bytesTo_len (l : List Pc) (a n : Nat) : (bytesTo l a n).length = n := by simp [bytesTo]
theorem bytesOver_len (l : List Pc) (p : Pc) (r : List X) (a n : Nat) : (bytesOver l p r a n).length = n := by simp [bytesOver]
theorem bytesTo_nil (a n : Nat) : List.replicate n (0 : UInt8) = bytesTo [] a n := by
  refine List.ext_getElem (by simp [bytesTo]) fun i h1 h2 => ?_
  simp [bytesTo, byteOf_nil]
theorem bytesOver_nil (l : List Pc) (p : Pc) (a n : Nat) : bytesOver l p [] a n = bytesTo l a n := by
  unfold bytesOver bytesTo
  refine List.map_congr_left fun i _ => ?_
  rw [if_neg (Mem.nil_ _)]
/-- What a Meet with one piece gives. -/
theorem meet_one {p : Pc} {a n : Nat} {r : List X} (hp : PcOk p) (h : IsMeet [xOf p] a (a + n) r) :
    (∀ q, Mem q r ↔ PIn q p ∧ a ≤ q ∧ q < a + n) ∧ (∀ x ∈ r, a ≤ x.1 ∧ x.1 + x.2 ≤ a + n ∧ 0 < x.2 ∧ p.1 ≤ (x.1 : Int) ∧ (x.1 : Int) + x.2 ≤ p.1 + p.2.size) := by
  have hm : ∀ q, Mem q r ↔ PIn q p ∧ a ≤ q ∧ q < a + n := fun q => by
    rw [h.2.2.1 q, mem_one, xOf_xN hp]
    unfold PcOk at hp
    unfold In xN PIn M
    simp only
    omega
  refine ⟨hm, fun x hx => ?_⟩
  have h0 := h.1.1 x hx
  have h1 := (hm x.1).1 ⟨x, hx, by unfold In; omega⟩
  have h2 := (hm (x.1 + x.2 - 1)).1 ⟨x, hx, by unfold In; omega⟩
  unfold PIn at h1 h2
  omega
theorem over_step {l : List Pc} {p : Pc} {r : List X} {a n j : Nat} (hj : j < r.length) (h1 : a ≤ r[j].1) (h2 : r[j].1 + r[j].2 ≤ a + n) (h3 : p.1 ≤ (r[j].1 : Int)) (h4 : (r[j].1 : Int) + r[j].2 ≤ p.1 + p.2.size) (f : Nat) (hf : (f : Int) = (r[j].1 : Int) - p.1) :
    splice (bytesOver l p (r.take j) a n) (r[j].1 - a) (p.2.extract f (f + r[j].2)).data.toList = bytesOver l p (r.take (j + 1)) a n := by
  have hs : (p.2.extract f (f + r[j].2)).data.size = r[j].2 := by
    have : (p.2.extract f (f + r[j].2)).data.size = (p.2.extract f (f + r[j].2)).size := rfl
    rw [this, ByteArray.size_extract]
    omega
  have hl : (p.2.extract f (f + r[j].2)).data.toList.length = r[j].2 := by rw [Array.length_toList, hs]
  unfold splice
  refine List.ext_getElem ?_ fun i g1 g2 => ?_
  · simp [bytesOver_len]; omega
  · rw [bytesOver_len] at g2
    have ht := take_mem r j hj (a + i)
    have hr : (bytesOver l p (r.take (j + 1)) a n)[i]'(by rw [bytesOver_len]; exact g2) = if Mem (a + i) (r.take (j + 1)) then byteP p (a + i) else (byteOf l (a + i)).getD 0 := by simp [bytesOver]
    rw [hr]
    by_cases hb : i < r[j].1 - a
    · rw [List.getElem_append_left (by simp [bytesOver_len]; omega), List.getElem_take]
      have hn : ¬ In (a + i) r[j] := by unfold In; omega
      have : Mem (a + i) (r.take (j + 1)) ↔ Mem (a + i) (r.take j) := by rw [ht]; exact ⟨fun k => k.elim id fun k => absurd k hn, .inl⟩
      simp only [bytesOver, List.getElem_map, List.getElem_range, this]
    · rw [List.getElem_append_right (by simp [bytesOver_len]; omega)]
      have hlen : (List.take (r[j].1 - a) (bytesOver l p (r.take j) a n)).length = r[j].1 - a := by rw [List.length_take, bytesOver_len]; omega
      by_cases hc : i < r[j].1 - a + r[j].2
      · have hin : In (a + i) r[j] := by unfold In; omega
        rw [if_pos (ht.2 (.inr hin)), List.getElem_append_left (by rw [hlen, hl]; omega)]
        simp only [hlen, Array.getElem_toList, ByteArray.data_extract]
        rw [Array.getElem_extract]
        unfold byteP
        have hlt : f + (i - (r[j].1 - a)) < p.2.data.size := by
          have : p.2.data.size = p.2.size := rfl
          omega
        rw [show (((a + i : Nat) : Int) - p.1).toNat = f + (i - (r[j].1 - a)) by omega, Array.getD_eq_getD_getElem?, Array.getElem?_eq_getElem hlt]
        rfl
      · rw [List.getElem_append_right (by rw [hlen, hl]; omega), List.getElem_drop]
        have hn : ¬ In (a + i) r[j] := by unfold In; omega
        have : Mem (a + i) (r.take (j + 1)) ↔ Mem (a + i) (r.take j) := by rw [ht]; exact ⟨fun k => k.elim id fun k => absurd k hn, .inl⟩
        simp only [hlen, hl, show r[j].1 - a + r[j].2 + (i - (r[j].1 - a) - r[j].2) = i by omega]
        simp only [bytesOver, List.getElem_map, List.getElem_range, this]
theorem over_end {l : List Pc} {k : Nat} (hk : k < l.length) {r : List X} {a n : Nat} (hm : ∀ q, Mem q r ↔ PIn q l[k] ∧ a ≤ q ∧ q < a + n) : bytesOver (l.take k) l[k] r a n = bytesTo (l.take (k + 1)) a n := by
  unfold bytesOver bytesTo
  refine List.map_congr_left fun i hi => ?_
  have hi := List.mem_range.1 hi
  rw [List.take_succ_eq_append_getElem hk, byteOf_add]
  by_cases h : PIn (a + i) l[k]
  · rw [if_pos h, if_pos ((hm _).2 ⟨h, by omega, by omega⟩)]; rfl
  · rw [if_neg h, if_neg fun h' => h ((hm _).1 h').1]

end Go.Proofs.YtgbenepapajieaaGreat.Nd
namespace Go.Proofs.YtgbenepapajieaaGreat.Nd
open Go.RowKit
open Go.Proofs.YtgbenepapajieaaGreat.Ex.Rng
open Go.Proofs.YtgbenepapajieaaGreat.Ex (E ExtsAt)

theorem sumX_append (l m : List X) : sumX (l ++ m) = sumX l + sumX m := by
  induction l with
  | nil => simp [sumX]
  | cons p r ih => simp only [List.cons_append, sumX, ih]; omega
theorem sumX_take {l : List X} {k : Nat} (h : k < l.length) : sumX (l.take (k + 1)) = sumX (l.take k) + l[k].2 := by
  rw [List.take_succ_eq_append_getElem h, sumX_append]; simp [sumX]
theorem sumP_take {l : List Pc} {k : Nat} (h : k < l.length) : sumP (l.take (k + 1)) = sumP (l.take k) + l[k].2.size := by
  rw [List.take_succ_eq_append_getElem h, sumP_append]; simp [sumP]
theorem layP_take {xs : List X} {l : List Pc} {k : Nat} (h : k < xs.length) : layP (xs.take k) l ++ [((xs[k].1 : Int), txt l xs[k].1 xs[k].2)] = layP (xs.take (k + 1)) l := by
  rw [List.take_succ_eq_append_getElem h]; unfold layP; rw [List.map_append]; rfl

set_option maxRecDepth 100000 in
theorem cut_p0 (g n c h : Nat) (h2 : h ≤ c) (h3 : ¬ c = 0) (w : World) :
    Sem.run Tryz.prog (Instr.sliceAt 45 (.slice (some ⟨g, 0, none⟩) n c) none (some (.int .i64 (h : Int))) none) w = .ok (.slice (some ⟨g, 0, none⟩) h c) w := by
  rw [run_sliceAt_slice (P := Tryz.prog) w 45 _ _ _ _ Tryz.underlying45, run_slice_h (P := Tryz.prog) w 45 _ n c Tryz.underlying45 .i64 (h : Int) (by omega) (by omega)]
  rw [show Tryz.prog.elem 45 = 87 from by kernel_rfl, Tryz.sizeOf87]
  simp [Result.andThen, sliced, h3, Addr.add_lit]
set_option maxRecDepth 100000 in
theorem cut_pn (h : Nat) (h2 : h = 0) (w : World) :
    Sem.run Tryz.prog (Instr.sliceAt 45 (.slice none 0 0) none (some (.int .i64 (h : Int))) none) w = .ok (.slice none 0 0) w := by
  subst h2
  rw [run_sliceAt_slice (P := Tryz.prog) w 45 _ _ _ _ Tryz.underlying45, run_slice_h (P := Tryz.prog) w 45 _ 0 0 Tryz.underlying45 .i64 ((0 : Nat) : Int) (by omega) (by omega)]
  rw [show Tryz.prog.elem 45 = 87 from by kernel_rfl, Tryz.sizeOf87]
  simp [Result.andThen, sliced]

/-- Two rows one behind the other: what has come of the first k. -/
def fst2 (a b : List Pc) (k : Nat) : List Pc := if k = 0 then [] else if k = 1 then a else a ++ b
end Go.Proofs.YtgbenepapajieaaGreat.Nd
namespace Go.Proofs.YtgbenepapajieaaGreat.Nd
open Go.RowKit
open Go.Proofs.YtgbenepapajieaaGreat.Ex.Rng
open Go.Proofs.YtgbenepapajieaaGreat.Ex (E ExtsAt)

/-- A node. -/
structure Nd where
  kind : Int
  mt : Mt
  size : Int
  data : List Pc
  target : ByteArray
  major : Int
  minor : Int
deriving DecidableEq
def contentB (s : Int) (d : List Pc) : Bool := decide ((d.length : Int) ≤ 16) && decide ((sumP d : Int) ≤ 4000) && d.all (fun p => offB p.1) && Ex.mayB (d.map xOf) s
def mayN (n : Nd) : Bool :=
  if n.kind = 1 ∨ n.kind = 6 then (n.size == 0) && ((n.data.length : Int) == 0) && n.target.toList.isEmpty && (n.major == 0) && (n.minor == 0) && mayM n.mt
  else if n.kind = 2 then contentB n.size n.data && n.target.toList.isEmpty && (n.major == 0) && (n.minor == 0) && mayM n.mt
  else if n.kind = 3 then tgtB n.target && (n.size == 0) && ((n.data.length : Int) == 0) && (n.major == 0) && (n.minor == 0) && mayM n.mt
  else if n.kind = 4 ∨ n.kind = 5 then devB n.major && devB n.minor && (n.size == 0) && ((n.data.length : Int) == 0) && n.target.toList.isEmpty && mayM n.mt
  else false
def fileB (n : Nd) : Bool := (n.kind == 2) && mayN n
/-- What bounds its pieces for the machine. -/
def Small (l : List Pc) : Prop := l.length ≤ 10000 ∧ ∀ p ∈ l, p.2.size ≤ 100000

def nodeV (n : Nd) (va vl vd : Value) : Value := .agg #[.int .i64 n.kind, .int .i64 n.mt.mode, .int .i64 n.mt.uid, .int .i64 n.mt.gid, .int .i64 n.mt.time, va, vl, .int .i64 n.size, vd, .string n.target, .int .i64 n.major, .int .i64 n.minor]
def NodeAt (w : World) (v : Value) (n : Nd) : Prop := ∃ va vl vd, v = nodeV n va vl vd ∧ AtsAt w va n.mt.attrs ∧ AcesAt w vl n.mt.acl ∧ PcsAt w vd n.data
theorem NodeAt.keep {w w' : World} {v : Value} {n : Nd} (h : NodeAt w v n) (q : Q w w') : NodeAt w' v n := by
  obtain ⟨va, vl, vd, e, h1, h2, h3⟩ := h
  exact ⟨va, vl, vd, e, h1.keep q, h2.keep q, h3.keep q⟩

/-! ### A block of twelve cells -/
def BoxN (w : World) (g : Nat) (cs : Array Value) : Prop := w.heap[g]? = some (.cells cs 47 (0, 0))
theorem BoxN.cells {w : World} {g : Nat} {c0 c1 c2 c3 c4 c5 c6 c7 c8 c9 c10 c11 : Value} (h : BoxN w g #[c0, c1, c2, c3, c4, c5, c6, c7, c8, c9, c10, c11]) :
    w.cell? ⟨g, 0, none⟩ = some c0 ∧ w.cell? ⟨g, 1, none⟩ = some c1 ∧ w.cell? ⟨g, 2, none⟩ = some c2 ∧ w.cell? ⟨g, 3, none⟩ = some c3 ∧ w.cell? ⟨g, 4, none⟩ = some c4 ∧ w.cell? ⟨g, 5, none⟩ = some c5 ∧ w.cell? ⟨g, 6, none⟩ = some c6 ∧ w.cell? ⟨g, 7, none⟩ = some c7 ∧ w.cell? ⟨g, 8, none⟩ = some c8 ∧ w.cell? ⟨g, 9, none⟩ = some c9 ∧ w.cell? ⟨g, 10, none⟩ = some c10 ∧ w.cell? ⟨g, 11, none⟩ = some c11 := by
  unfold BoxN at h
  simp [World.cell?, h]
theorem BoxN.soft {w : World} {g : Nat} {cs : Array Value} (h : BoxN w g cs) (o : Nat) : w.frozen? ⟨g, o, none⟩ = false := by
  unfold BoxN at h
  simp [World.frozen?, h]
theorem BoxN.lt {w : World} {g : Nat} {cs : Array Value} (h : BoxN w g cs) : g < w.heap.size := by
  rcases Nat.lt_or_ge g w.heap.size with h' | h'
  · exact h'
  · unfold BoxN at h; rw [Array.getElem?_eq_none h'] at h; cases h
theorem BoxN.set {w : World} {g : Nat} {cs : Array Value} (h : BoxN w g cs) (i : Nat) (u : Value) : BoxN (w.setCell ⟨g, i, none⟩ u) g (cs.setIfInBounds i u) := by
  unfold BoxN World.setCell at *
  simp [Array.getElem?_modify, h]
theorem BoxN.other {w w' : World} {g : Nat} {cs : Array Value} (h : BoxN w g cs) (q : w'.heap[g]? = w.heap[g]?) : BoxN w' g cs := q.trans h
theorem BoxN.keep {w w' : World} {g : Nat} {cs : Array Value} (h : BoxN w g cs) (q : Q w w') : BoxN w' g cs := h.other (q.block g h.lt)
theorem BoxN.far {w w' : World} {g g2 : Nat} {cs : Array Value} (h : BoxN w g cs) (f : Far g2 w w') (hn : g ≠ g2) : BoxN w' g cs := h.other (f.2 g h.lt hn)
theorem BoxN.new (w : World) (cs : Array Value) : BoxN (w.alloc (.cells cs 47)) w.heap.size cs := by
  show (w.heap.push _)[w.heap.size]? = _
  simp
theorem Q.setCell {w0 w : World} (h : Q w0 w) {g : Nat} (hg : w0.heap.size ≤ g) (i : Nat) (u : Value) : Q w0 (w.setCell ⟨g, i, none⟩ u) := Below.setCell h (p := ⟨g, i, none⟩) hg u


/-! ### Extents, Bytes -/
set_option maxRecDepth 100000 in
set_option maxHeartbeats 2000000 in
theorem nodeExtents_any (v : Value) (n : Nd) (w : World) (h : NodeAt w v n) (hs : n.data.length ≤ 10000) :
    Calls Tryz.prog 128 #[v] w fun e w' => ∃ v', e = .returned v' ∧ w'.ownsRow w.heap.size 136 1 v' n.data.length ((n.data.map xOf).map E) ∧ Q w w' := by
  obtain ⟨va, vl, vd, rfl, ha, hl, hd⟩ := h
  obtain ⟨kind, ⟨mode, uid, gid, time, attrs, acl⟩, size, data, target, major, minor⟩ := n
  unfold nodeV
  simp only at ha hl hd hs ⊢
  go_enter Tryz.func128, Tryz.ntmps128
  go_wp2_with fail
  refine (extents_any vd data _ (hd.keep ((Q.refl w).alloc _)) hs).mono ?_
  rintro e w2 ⟨v2, rfl, ho, q2⟩
  have q3 := ((Q.refl w).alloc _).trans q2
  rw [World.size_alloc] at ho
  replace ho := World.ownsRow.mono ho (Nat.le_succ _)
  clear q2
  go_wp2
  go_ret
  exact ⟨_, rfl, ho, q3⟩

set_option maxRecDepth 100000 in
set_option maxHeartbeats 2000000 in
theorem bytes_any (v : Value) (n : Nd) (w : World) (h : NodeAt w v n) (hs : Small n.data) :
    Calls Tryz.prog 56 #[v] w fun e w' => e = .returned (.int .i64 (sumP n.data : Nat)) ∧ Q w w' := by
  obtain ⟨va, vl, vd, rfl, ha, hl, hd⟩ := h
  obtain ⟨kind, ⟨mode, uid, gid, time, attrs, acl⟩, size, data, target, major, minor⟩ := n
  unfold nodeV
  obtain ⟨hs1, hs2⟩ := hs
  simp only at ha hl hd hs1 hs2 ⊢
  obtain ⟨A, c, rfl⟩ := hd.form
  have HD : Hid (∀ w', Q w w' → PcsAt w' (.slice A data.length c) data) := fun w' q => hd.keep q
  go_enter Tryz.func56, Tryz.ntmps56
  go_wp2
  have q1 : Q w (w.alloc (.cells #[.int .i64 kind, .int .i64 mode, .int .i64 uid, .int .i64 gid, .int .i64 time, va, vl, .int .i64 size, .slice A data.length c, .string target, .int .i64 major, .int .i64 minor] 47)) := (Q.refl w).alloc _
  generalize w.alloc (.cells #[.int .i64 kind, .int .i64 mode, .int .i64 uid, .int .i64 gid, .int .i64 time, va, vl, .int .i64 size, .slice A data.length c, .string target, .int .i64 major, .int .i64 minor] 47) = w1 at *
  go_loopw [3, 5, 9] (fun s _ i wr => ∃ (k m : Nat), i = .int .i64 k ∧ s = .int .i64 (m : Nat) ∧ k ≤ data.length ∧ m ≤ k * 100000 ∧ Q w wr ∧ Hid (m = sumP (data.take k))) (fun _ _ i _ => data.length - (intOf i).toNat)
  case atStart => exact ⟨0, 0, rfl, rfl, by omega, by omega, q1, rfl⟩
  case round =>
    obtain ⟨k, m, rfl, rfl, hk, hm, hq, H⟩ := hrel
    by_cases hlt : k < data.length
    · obtain ⟨g, og, _, ea, _, _, hc⟩ := (HD.out _ hq).atP (by omega)
      obtain ⟨rfl, -, rfl⟩ := Value.slice.inj ea
      obtain ⟨c1, c2⟩ := hc k hlt
      have o1 := hs2 _ (List.getElem_mem hlt)
      have E1 : Hid (m + data[k].2.size = sumP (data.take (k + 1))) := by rw [sumP_take hlt, ← H.out]; rfl
      clear hc H hd hs2
      generalize data[k] = x at *
      have lt2 : (k : Int) < (data.length : Int) := by omega
      have hb : m + x.2.size ≤ (k + 1) * 100000 := by omega
      have hw : IntKind.i64.wrap ((m : Int) + (x.2.size : Int)) = ((m + x.2.size : Nat) : Int) := by rw [← Int.natCast_add]; exact IntWalk.i64_in _ (by omega)
      generalize m + x.2.size = m2 at *
      clear hm
      go_wp2
      go_roundw
      case rel => exact ⟨k + 1, m2, by go_num, rfl, by omega, hb, hq.alloc _, E1⟩
      case measure => simp [intOf]; omega
    · have E1 : Hid (m = sumP data) := by
        have := H.out
        rwa [List.take_of_length_le (by omega)] at this
      clear H
      go_wp2
      go_ret
      exact ⟨ret_int (by rw [E1.out]), hq⟩


/-! ### content -/
theorem content_no {s : Int} {d : List Pc} {k : Nat} (hk : k < d.length) (h : offB d[k].1 = false) : contentB s d = false := by
  unfold contentB
  have : d.all (fun p => offB p.1) = false := List.all_eq_false.2 ⟨_, List.getElem_mem hk, by simp [h]⟩
  rw [this]
  simp
theorem all_step {d : List Pc} {k : Nat} (hk : k < d.length) (h : (d.take k).all (fun p => offB p.1) = true) (h1 : offB d[k].1 = true) : (d.take (k + 1)).all (fun p => offB p.1) = true := by
  rw [List.take_succ_eq_append_getElem hk, List.all_append, h]
  simp [h1]
theorem keepN {w0 w w' : World} {g : Nat} {v0 v1 v2 v3 v4 v5 v6 v7 v8 v9 v10 v11 : Value} (h : Q w0 w ∧ w.cell? ⟨g, 0, none⟩ = some v0 ∧ w.cell? ⟨g, 1, none⟩ = some v1 ∧ w.cell? ⟨g, 2, none⟩ = some v2 ∧ w.cell? ⟨g, 3, none⟩ = some v3 ∧ w.cell? ⟨g, 4, none⟩ = some v4 ∧ w.cell? ⟨g, 5, none⟩ = some v5 ∧ w.cell? ⟨g, 6, none⟩ = some v6 ∧ w.cell? ⟨g, 7, none⟩ = some v7 ∧ w.cell? ⟨g, 8, none⟩ = some v8 ∧ w.cell? ⟨g, 9, none⟩ = some v9 ∧ w.cell? ⟨g, 10, none⟩ = some v10 ∧ w.cell? ⟨g, 11, none⟩ = some v11) (q : Q w w') : Q w0 w' ∧ w'.cell? ⟨g, 0, none⟩ = some v0 ∧ w'.cell? ⟨g, 1, none⟩ = some v1 ∧ w'.cell? ⟨g, 2, none⟩ = some v2 ∧ w'.cell? ⟨g, 3, none⟩ = some v3 ∧ w'.cell? ⟨g, 4, none⟩ = some v4 ∧ w'.cell? ⟨g, 5, none⟩ = some v5 ∧ w'.cell? ⟨g, 6, none⟩ = some v6 ∧ w'.cell? ⟨g, 7, none⟩ = some v7 ∧ w'.cell? ⟨g, 8, none⟩ = some v8 ∧ w'.cell? ⟨g, 9, none⟩ = some v9 ∧ w'.cell? ⟨g, 10, none⟩ = some v10 ∧ w'.cell? ⟨g, 11, none⟩ = some v11 := by
  obtain ⟨h0, h1, h2, h3, h4, h5, h6, h7, h8, h9, h10, h11, h12⟩ := h
  exact ⟨h0.trans q, q.cell h1, q.cell h2, q.cell h3, q.cell h4, q.cell h5, q.cell h6, q.cell h7, q.cell h8, q.cell h9, q.cell h10, q.cell h11, q.cell h12⟩
set_option maxRecDepth 100000 in
set_option maxHeartbeats 4000000 in
theorem content_any (v : Value) (n : Nd) (w : World) (h : NodeAt w v n) (hs : Small n.data) :
    Calls Tryz.prog 92 #[v] w fun e w' => e = .returned (.bool (contentB n.size n.data)) ∧ Q w w' := by
  have HB : Hid (∀ w', Q w w' → Calls Tryz.prog 56 #[v] w' fun e w'' => e = .returned (.int .i64 (sumP n.data : Nat)) ∧ Q w' w'') := fun w' q => bytes_any v n w' (h.keep q) hs
  have HX : Hid (∀ w', Q w w' → Calls Tryz.prog 128 #[v] w' fun e w'' => ∃ v', e = .returned v' ∧ ExtsAt w'' v' (n.data.map xOf) ∧ Q w' w'') := fun w' q => (nodeExtents_any v n w' (h.keep q) hs.1).mono (by
    rintro e w'' ⟨v', rfl, ho, q'⟩
    refine ⟨v', rfl, ExtsAt.of_own (base := w'.heap.size) (e := 136) ?_, q'⟩
    rw [List.length_map]; exact ho)
  have HM : Hid (∀ v' w', ExtsAt w' v' (n.data.map xOf) → Calls Tryz.prog 127 #[v', .int .i64 n.size] w' fun e w'' => e = .returned (.bool (Ex.mayB (n.data.map xOf) n.size)) ∧ Q w' w'') := fun v' w' hx => Ex.may_any v' _ n.size w' hx (fun y hy => by obtain ⟨p, _, rfl⟩ := List.mem_map.1 hy; exact xOf_ok p)
  have E0 : Hid (contentB n.size n.data = (decide ((n.data.length : Int) ≤ 16) && decide ((sumP n.data : Int) ≤ 4000) && n.data.all (fun p => offB p.1) && Ex.mayB (n.data.map xOf) n.size)) := rfl
  have En : Hid (∀ k (hk : k < n.data.length), offB n.data[k].1 = false → contentB n.size n.data = false) := fun k hk => content_no hk
  generalize contentB n.size n.data = r at *
  generalize Ex.mayB (n.data.map xOf) n.size = b at *
  clear hs
  obtain ⟨va, vl, vd, rfl, ha, hl, hd⟩ := h
  obtain ⟨kind, ⟨mode, uid, gid, time, attrs, acl⟩, size, data, target, major, minor⟩ := n
  simp only at ha hl hd HB HX HM E0 En ⊢
  obtain ⟨A, c, rfl⟩ := hd.form
  have HD : Hid (∀ w', Q w w' → PcsAt w' (.slice A data.length c) data) := fun w' q => hd.keep q
  have hdl := hd.len
  unfold maxLen at hdl
  unfold nodeV at HB HX ⊢
  simp only at HB HX ⊢
  clear hd ha hl
  go_enter Tryz.func92, Tryz.ntmps92
  by_cases h1 : (16 : Int) < (data.length : Int)
  · have t1 : decide ((16 : Int) < (data.length : Int)) = true := decide_eq_true h1
    have E1 : Hid (r = false) := by
      show r = false
      rw [E0.out, decide_eq_false (by omega)]; rfl
    clear h1
    go_wp2
    go_ret
    exact ⟨ret_bool E1.out.symm, (Q.refl w).alloc _⟩
  have t1 : decide ((16 : Int) < (data.length : Int)) = false := decide_eq_false h1
  have t1' : decide ((data.length : Int) ≤ 16) = true := decide_eq_true (by omega)
  rw [t1'] at E0
  clear t1' h1
  go_wp2_with fail
  have x1 := BoxN.new w #[.int .i64 kind, .int .i64 mode, .int .i64 uid, .int .i64 gid, .int .i64 time, va, vl, .int .i64 size, .slice A data.length c, .string target, .int .i64 major, .int .i64 minor]
  have q1 : Q w (w.alloc (.cells #[.int .i64 kind, .int .i64 mode, .int .i64 uid, .int .i64 gid, .int .i64 time, va, vl, .int .i64 size, .slice A data.length c, .string target, .int .i64 major, .int .i64 minor] 47)) := (Q.refl w).alloc _
  generalize w.alloc (.cells #[.int .i64 kind, .int .i64 mode, .int .i64 uid, .int .i64 gid, .int .i64 time, va, vl, .int .i64 size, .slice A data.length c, .string target, .int .i64 major, .int .i64 minor] 47) = w1 at *
  refine (HB.out _ q1).mono ?_
  rintro e w2 ⟨rfl, q2⟩
  replace x1 := x1.keep q2
  replace q1 := q1.trans q2
  clear q2 HB
  obtain ⟨k0, k1, k2, k3, k4, k5, k6, k7, k8, k9, k10, k11⟩ := x1.cells
  by_cases h2 : (4000 : Int) < (sumP data : Int)
  · have t2 : decide ((4000 : Int) < (sumP data : Int)) = true := decide_eq_true h2
    have E1 : Hid (r = false) := by
      show r = false
      rw [E0.out, decide_eq_false (by omega)]; simp
    clear h2
    go_wp2
    go_ret
    exact ⟨ret_bool E1.out.symm, q1⟩
  have t2 : decide ((4000 : Int) < (sumP data : Int)) = false := decide_eq_false h2
  have t2' : decide ((sumP data : Int) ≤ 4000) = true := decide_eq_true (by omega)
  rw [t2'] at E0
  clear t2' h2
  go_wp2
  clear k0 k1 k2 k3 k4 k5 k6 k7 k8 k9 k10 k11
  go_loopw [4, 17] (fun _ i wr => ∃ k : Nat, i = .int .i64 k ∧ k ≤ data.length ∧ Q w wr ∧ Hid (BoxN wr w.heap.size #[.int .i64 kind, .int .i64 mode, .int .i64 uid, .int .i64 gid, .int .i64 time, va, vl, .int .i64 size, .slice A data.length c, .string target, .int .i64 major, .int .i64 minor]) ∧ Hid ((data.take k).all (fun p => offB p.1) = true)) (fun _ i _ => data.length - (intOf i).toNat)
  case atStart => exact ⟨0, rfl, by omega, q1, x1, rfl⟩
  case round =>
    obtain ⟨k, rfl, hk, hq, hb, H⟩ := hrel
    by_cases hlt : k < data.length
    · obtain ⟨g, og, _, ea, _, _, hc⟩ := (HD.out _ hq).atP (by omega)
      obtain ⟨rfl, -, rfl⟩ := Value.slice.inj ea
      obtain ⟨c1, c2⟩ := hc k hlt
      have E1 : Hid (offB data[k].1 = false → r = false) := En.out k hlt
      have E2 : Hid (offB data[k].1 = true → (data.take (k + 1)).all (fun p => offB p.1) = true) := all_step hlt H.out
      have HO := Lib.hid (fun w => offset_any data[k].1 w)
      clear hc H
      generalize data[k] = x at *
      have lt2 : (k : Int) < (data.length : Int) := by omega
      go_wp2_with fail
      refine (HO.out _).mono ?_
      rintro e w3 ⟨rfl, rfl⟩
      cases hx : offB x.1 with
      | false =>
        have E3 := Lib.hid (E1.out hx)
        clear E1 E2 hx
        go_wp2
        go_ret
        exact ⟨ret_bool E3.out.symm, hq.alloc _⟩
      | true =>
        have E3 := Lib.hid (E2.out hx)
        have hb2 := Lib.hid (hb.out.keep ((Q.refl wr).alloc (.cells #[.int .i64 x.1, .string x.2] 87)))
        clear E1 E2 hx
        go_wp2
        go_roundw
        case rel => exact ⟨k + 1, by go_num, by omega, hq.alloc _, hb2, E3⟩
        case measure => simp [intOf]; omega
    · have E1 : Hid (r = b) := by
        show r = b
        have := H.out
        rw [List.take_of_length_le (by omega)] at this
        rw [E0.out, this]; simp
      have hx1 := hb.out
      obtain ⟨k0, k1, k2, k3, k4, k5, k6, k7, k8, k9, k10, k11⟩ := hx1.cells
      clear E0 En H hx1
      go_wp2_with fail
      go_region_held3 (fun w' => Q w w' ∧ w'.cell? ⟨w.heap.size, 0, none⟩ = some (.int .i64 kind) ∧ w'.cell? ⟨w.heap.size, 1, none⟩ = some (.int .i64 mode) ∧ w'.cell? ⟨w.heap.size, 2, none⟩ = some (.int .i64 uid) ∧ w'.cell? ⟨w.heap.size, 3, none⟩ = some (.int .i64 gid) ∧ w'.cell? ⟨w.heap.size, 4, none⟩ = some (.int .i64 time) ∧ w'.cell? ⟨w.heap.size, 5, none⟩ = some va ∧ w'.cell? ⟨w.heap.size, 6, none⟩ = some vl ∧ w'.cell? ⟨w.heap.size, 7, none⟩ = some (.int .i64 size) ∧ w'.cell? ⟨w.heap.size, 8, none⟩ = some (.slice A data.length c) ∧ w'.cell? ⟨w.heap.size, 9, none⟩ = some (.string target) ∧ w'.cell? ⟨w.heap.size, 10, none⟩ = some (.int .i64 major) ∧ w'.cell? ⟨w.heap.size, 11, none⟩ = some (.int .i64 minor)) (first | exact keepN (by assumption) (by assumption) | exact keepN ⟨hq, k0, k1, k2, k3, k4, k5, k6, k7, k8, k9, k10, k11⟩ (Q.drew (Q.refl _)) | assumption) (first
        | (go_at_call 128; refine (HX.out _ (And.left (by assumption))).mono ?_; rintro e wn ⟨v', rfl, hx', qn⟩)
        | (go_at_call 127; refine (HM.out _ _ hx').mono ?_; rintro e wn ⟨rfl, qn⟩))
      go_wp2
      go_ret
      exact ⟨ret_bool E1.out.symm, And.left (by assumption)⟩
end Go.Proofs.YtgbenepapajieaaGreat.Nd
