/-
  The contract of the document's joined.
-/
import Derived.Test.YtheobpilmphdjaaGreatNRefC
import Derived.StillTailTactics
import Derived.Deep.Onto
namespace Go.Proofs.YtheobpilmphdjaaGreat.Nd
open Go.RowKit
open Go.Proofs.YtheobpilmphdjaaGreat.Ex.Rng
open Go.Proofs.YtheobpilmphdjaaGreat.Ex (E ExtsAt)

/-! ### joined -/
theorem add_strJ {a b : ByteArray} (h : a.size + b.size ≤ 1000000) : Op.stringOp .add a b = pure (.string (a ++ b)) := by
  unfold Op.stringOp
  simp only
  rw [if_neg]
  simp only [IntKind.max]
  show ¬ (_ > (9223372036854775807 : Int))
  omega
theorem join_take {l : List Pc} {k : Nat} (hk : k < l.length) : joinStep (joinP (l.take k)) l[k] = joinP (l.take (k + 1)) := by
  rw [List.take_succ_eq_append_getElem hk]
  unfold joinP
  rw [List.foldl_append]
  rfl
theorem sum_joinStep (out : List Pc) (p : Pc) : sumP (joinStep out p) = sumP out + p.2.size := by
  rcases last_case out with rfl | ⟨o, x, rfl⟩
  · rw [join_nil]; simp [sumP]
  · rw [join_last]
    split
    · simp only [sumP_append, sumP, ByteArray.size_append]; omega
    · simp only [sumP_append, sumP]; omega
theorem bound_joinStep {out : List Pc} {p : Pc} {T : Int} (h : ∀ x ∈ out, 0 ≤ x.1 ∧ x.1 ≤ T) (hp : 0 ≤ p.1 ∧ p.1 ≤ T) : ∀ x ∈ joinStep out p, 0 ≤ x.1 ∧ x.1 ≤ T := by
  rcases last_case out with rfl | ⟨o, x, rfl⟩
  · rw [join_nil]; intro y hy; rw [List.mem_singleton.1 hy]; exact hp
  · rw [join_last]
    split
    · intro y hy
      rcases List.mem_append.1 hy with hy | hy
      · exact h y (List.mem_append_left _ hy)
      · rw [List.mem_singleton.1 hy]; exact h x (by simp)
    · intro y hy
      rcases List.mem_append.1 hy with hy | hy
      · exact h y hy
      · rw [List.mem_singleton.1 hy]; exact hp
theorem len_joinStep (out : List Pc) (p : Pc) : (joinStep out p).length ≤ out.length + 1 := by
  rcases last_case out with rfl | ⟨o, x, rfl⟩
  · rw [join_nil]; simp
  · rw [join_last]
    split <;> simp
theorem sumT {l : List Pc} {k : Nat} (h : k < l.length) : sumP (l.take (k + 1)) = sumP (l.take k) + l[k].2.size := by
  rw [List.take_succ_eq_append_getElem h, sumP_append]; simp [sumP]
theorem sumT_le : ∀ (l : List Pc) (k : Nat), sumP (l.take k) ≤ sumP l
  | [], k => by simp
  | p :: r, 0 => by simp [sumP]
  | p :: r, k + 1 => by have := sumT_le r k; simp only [List.take_succ_cons, sumP]; omega
/-- A string of the last piece of one's own row, written anew. -/
theorem own_last {w : World} {B g cap : Nat} {o : List Pc} {y : Pc} {s : ByteArray} (h : OwnP w B (.slice (some ⟨g, 0, none⟩) (o.length + 1) cap) (o ++ [y])) :
    OwnP (w.setCell ⟨g, o.length * 2 + 1, none⟩ (.string s)) B (.slice (some ⟨g, 0, none⟩) (o.length + 1) cap) (o ++ [(y.1, s)]) ∧ w.grownBy (w.setCell ⟨g, o.length * 2 + 1, none⟩ (.string s)) (some g) := by
  have h' : w.ownsRow B 44 2 (.slice (some ⟨g, 0, none⟩) (o.length + 1) cap) (o.length + 1) (flatR cellsP (o ++ [y])) := by
    have := h
    unfold OwnP OwnR at this
    rwa [List.length_append, List.length_singleton] at this
  obtain ⟨a, b⟩ := h'.stored (o.length * 2 + 1) (.string s)
  refine ⟨?_, b⟩
  have e : (flatR cellsP (o ++ [y])).set (o.length * 2 + 1) (.string s) = flatR cellsP (o ++ [(y.1, s)]) := by
    rw [flatR_add, flatR_add, List.set_append_right _ _ (by rw [flatR_len flatP]; omega), flatR_len flatP]
    congr 1
    rw [show o.length * 2 + 1 - o.length * 2 = 1 by omega]
    rfl
  rw [e] at a
  unfold OwnP OwnR
  rw [List.length_append, List.length_singleton]
  exact a
set_option maxRecDepth 100000 in
set_option maxHeartbeats 4000000 in
theorem joined_any (v : Value) (l : List Pc) (w : World) (h : PcsAt w v l) (hl : l.length ≤ 10000) (hok : ∀ p ∈ l, 0 ≤ p.1 ∧ p.1 ≤ 2199023255552) (hs : sumP l ≤ 100000) :
    Calls Tryz.prog 33 #[v] w fun e w' => ∃ v', e = .returned v' ∧ OwnP w' w.heap.size v' (joinP l) ∧ Q w w' := by
  have HV : Hid (∀ w', Q w w' → PcsAt w' v l) := fun w' q => h.keep q
  have HB : Hid (∀ k (hk : k < l.length), 0 ≤ l[k].1 ∧ l[k].1 ≤ 2199023255552) := fun k hk => hok _ (List.getElem_mem hk)
  have HS : Hid (∀ k (hk : k < l.length), sumP (l.take k) + l[k].2.size ≤ 100000) := fun k hk => by have := sumT_le l (k + 1); rw [sumT hk] at this; omega
  have HT : Hid (∀ k (hk : k < l.length), sumP (l.take (k + 1)) = sumP (l.take k) + l[k].2.size) := fun k hk => sumT hk
  obtain ⟨A, c, rfl⟩ := h.form
  clear h hok hs
  go_enter Tryz.func33, Tryz.ntmps33
  go_wp2
  go_loopw [3, 4, 5] (fun o i _ wr => ∃ (k : Nat) (ns : List Pc), i = .int .i64 k ∧ k ≤ l.length ∧ OwnP wr w.heap.size o ns ∧ Q w wr ∧ ns.length ≤ k ∧ Hid ((∀ x ∈ ns, 0 ≤ x.1 ∧ x.1 ≤ 2199023255552) ∧ sumP ns = sumP (l.take k)) ∧ Hid (ns = joinP (l.take k))) (fun _ i _ _ => l.length - (intOf i).toNat)
  case atStart => exact ⟨0, [], rfl, by omega, OwnR.nil_ _ _ _, Q.refl _, by simp, ⟨by simp, by simp [sumP]⟩, by rw [List.take_zero]; rfl⟩
  case round =>
    obtain ⟨k, ns, rfl, hk, hown, hq, hn, HI, H⟩ := hrel
    obtain ⟨B, cb, rfl⟩ := hown.form flatP
    by_cases hlt : k < l.length
    · obtain ⟨g, og, _, ea, _, _, hc⟩ := (HV.out _ hq).atP (by omega)
      obtain ⟨rfl, -, rfl⟩ := Value.slice.inj ea
      obtain ⟨c1, c2⟩ := hc k hlt
      have o1 := HB.out k hlt
      have o2 := HS.out k hlt
      have E1 : Hid (joinStep ns l[k] = joinP (l.take (k + 1))) := by rw [H.out]; exact join_take hlt
      have HI2 : Hid ((∀ x ∈ joinStep ns l[k], 0 ≤ x.1 ∧ x.1 ≤ 2199023255552) ∧ sumP (joinStep ns l[k]) = sumP (l.take (k + 1))) := ⟨bound_joinStep HI.out.1 o1, by rw [sum_joinStep, HI.out.2, HT.out k hlt]⟩
      have o3 : sumP ns + l[k].2.size ≤ 100000 := by rw [HI.out.2]; exact o2
      clear hc H HV HB HS HT ea o2
      generalize l[k] = x at *
      obtain ⟨x1, xs⟩ := x
      simp only at c1 c2 o1 o3
      have lt2 : (k : Int) < (l.length : Int) := by omega
      rcases last_case ns with rfl | ⟨o, y, rfl⟩
      · rw [join_nil] at E1 HI2
        clear HI
        have wm : IntKind.i64.wrap (-1) = -1 := by decide +kernel
        go_wp2_with fail
        go_quiet (fail)
        have hq1 := hq.drewN nq
        have hown1 := hown.keep ((Q.refl wr).drewN nq)
        have d1 := ((Q.refl wr).drewN nq).cell c1
        have d2 := ((Q.refl wr).drewN nq).cell c2
        clear hq hown c1 c2
        generalize wr.drewN nq = w3 at *
        have hsz := hq1.size
        go_wp2_with (at_builtin; refine wpList_append_pcs rfl (.tmp 52) (.tmp 57) rfl w.heap.size _ [] rfl (hown1.grew (Grew.alloc _ _)) _ [(x1, xs)] rfl ((own_one flatP 44 w3 w3.heap.size (Nat.le_refl _) (x1, xs)).row flatP) (by simp) (by rw [World.size_alloc]; omega) ?_)
        intro v4 w4 hown4 hg4 _
        have hq4 : Q w w4 := Below.grown (hq1.alloc _) hg4 (by rw [World.size_alloc]; omega) fun g hg => (hown1.lt g hg).1
        have hl4 : ([] ++ [(x1, xs)] : List Pc).length ≤ k + 1 := by simp
        replace hl4 : ([(x1, xs)] : List Pc).length ≤ k + 1 := hl4
        replace hown4 : OwnP w4 w.heap.size v4 [(x1, xs)] := hown4
        generalize [(x1, xs)] = ns4 at *
        clear hg4 hown1 hsz
        go_wp2
        go_roundw
        case rel => exact ⟨k + 1, ns4, by go_num, by omega, hown4, hq4, hl4, HI2, E1⟩
        case measure => simp [intOf]; omega
      · rw [join_last] at E1 HI2
        have hy := HI.out.1 y (by simp)
        have hsum : sumP o + y.2.size + xs.size ≤ 100000 := by rw [sumP_append] at o3; simp only [sumP] at o3; omega
        have e1 : (o ++ [y]).length = o.length + 1 := by simp
        rw [e1] at hown hn ⊢
        obtain ⟨g2, hB⟩ : ∃ g, (Value.slice B (o.length + 1) cb) = .slice (some ⟨g, 0, none⟩) (o.length + 1) cb := by
          rcases hown.2 with ⟨e, hn0⟩ | ⟨g, cap, cur, e, _⟩
          · rw [e1] at hn0; omega
          · obtain ⟨rfl, -, rfl⟩ := Value.slice.inj e; exact ⟨g, rfl⟩
        cases hB
        obtain ⟨gz, oz, _, ez, _, _, hcz⟩ := (hown.row flatP).atP (by rw [e1]; omega)
        obtain ⟨ez1, -, -⟩ := Value.slice.inj ez
        cases ez1
        obtain ⟨d1, d2⟩ := hcz o.length (by rw [e1]; omega)
        rw [show (o ++ [y])[o.length]'(by rw [e1]; omega) = y from by simp] at d1 d2
        rw [Nat.zero_add] at d1 d2
        have fr : wr.frozen? ⟨g2, o.length * 2 + 1, none⟩ = false := by
          have h' : wr.ownsRow w.heap.size 44 2 (.slice (some ⟨g2, 0, none⟩) (o.length + 1) cb) (o.length + 1) (flatR cellsP (o ++ [y])) := by
            have := hown
            unfold OwnP OwnR at this
            rwa [e1] at this
          exact h'.frozenAt _
        obtain ⟨y1, ys⟩ := y
        simp only at hy hsum d1 d2
        have wk : IntKind.i64.wrap (((o.length + 1 : Nat) : Int) - 1) = (o.length : Int) := by rw [show ((o.length + 1 : Nat) : Int) - 1 = (o.length : Int) by omega]; exact IntWalk.i64_in _ (by omega)
        have wy : IntKind.i64.wrap (y1 + (ys.size : Int)) = y1 + (ys.size : Int) := IntWalk.i64_in _ (by omega)
        have t1 : decide ((0 : Int) ≤ (o.length : Int)) = true := decide_eq_true (by omega)
        have lt3 : (o.length : Int) < ((o.length + 1 : Nat) : Int) := by omega
        clear hcz ez
        by_cases hj : y1 + (ys.size : Int) = x1
        · have t2 : (y1 + (ys.size : Int) == x1) = true := beq_iff_eq.2 hj
          simp only [hj, if_true] at E1 HI2
          have had : Op.stringOp .add ys xs = pure (.string (ys ++ xs)) := add_strJ (by omega)
          clear hj HI
          go_wp2_with fail
          go_quiet (fail)
          go_wp2_with fail
          have hqd : Q w (wr.drewN nq).drew := (hq.drewN nq).drew
          have hownd : OwnP (wr.drewN nq).drew w.heap.size (.slice (some ⟨g2, 0, none⟩) (o.length + 1) cb) (o ++ [(y1, ys)]) := hown.keep ((Q.refl wr).drewN nq).drew
          have b1 := ((Q.refl wr).drewN nq).drew.cell c1
          have b2 := ((Q.refl wr).drewN nq).drew.cell c2
          have b3 := ((Q.refl wr).drewN nq).drew.cell d1
          have b4 := ((Q.refl wr).drewN nq).drew.cell d2
          have frd : (wr.drewN nq).drew.frozen? ⟨g2, o.length * 2 + 1, none⟩ = false := fr
          obtain ⟨hown4, hg4⟩ := own_last (s := ys ++ xs) hownd
          have hq4 : Q w ((wr.drewN nq).drew.setCell ⟨g2, o.length * 2 + 1, none⟩ (.string (ys ++ xs))) := Below.grown hqd hg4 hqd.size fun j hj => (hown.lt j (by cases hj; rfl)).1
          have hl4 : (o ++ [(y1, ys ++ xs)] : List Pc).length ≤ k + 1 := by simp; omega
          have lt4 : (o.length : Int) < (o.length : Int) + 1 := by omega
          have nn4 : (0 : Int) ≤ (o.length : Int) := by omega
          clear hg4 hown hownd hq hqd c1 c2 d1 d2 fr
          refine wp_region_still_tail 15 (by kernel_rfl) (by kernel_rfl) ?_
          simp only [List.take_succ_cons, List.take_zero, List.drop_succ_cons, List.drop_zero]
          change wpStill _ _ (wr.drewN nq).drew (fun a' => wpList _ _ _ _ a' (wr.drewN nq).drew) _ _
          generalize (wr.drewN nq).drew = w2 at *
          repeat still_step
          refine wpStill_nil ?_
          have hsto : ∀ a m w, Sem.run Tryz.prog (store a (.string (ys ++ xs)) m) w = stored Tryz.prog w a (.string (ys ++ xs)) m := fun a m w => run_store Tryz.prog w a _ m rfl
          go_wp2
          go_roundw
          case rel => exact ⟨k + 1, o ++ [(y1, ys ++ xs)], by go_num, by omega, hown4, hq4, hl4, HI2, E1⟩
          case measure => simp [intOf]; omega
        · have t2 : (y1 + (ys.size : Int) == x1) = false := beq_eq_false_iff_ne.2 hj
          simp only [hj, if_false] at E1 HI2
          clear hj HI
          go_wp2_with fail
          go_quiet (fail)
          have hq1 := hq.drewN nq
          have hown1 := hown.keep ((Q.refl wr).drewN nq)
          have k1 := ((Q.refl wr).drewN nq).cell c1
          have k2 := ((Q.refl wr).drewN nq).cell c2
          clear hq hown c1 c2 d1 d2 fr
          generalize wr.drewN nq = w3 at *
          have hsz := hq1.size
          go_wp2_with (at_builtin; refine wpList_append_pcs rfl (.tmp 52) (.tmp 57) rfl w.heap.size _ (o ++ [(y1, ys)]) rfl (hown1.grew (Grew.alloc _ _)) _ [(x1, xs)] rfl ((own_one flatP 44 w3 w3.heap.size (Nat.le_refl _) (x1, xs)).row flatP) (by simp; omega) (by rw [World.size_alloc]; omega) ?_)
          intro v4 w4 hown4 hg4 _
          have hq4 : Q w w4 := Below.grown (hq1.alloc _) hg4 (by rw [World.size_alloc]; omega) fun g hg => (hown1.lt g hg).1
          have hl4 : (o ++ [(y1, ys), (x1, xs)] : List Pc).length ≤ k + 1 := by simp; omega
          replace hown4 : OwnP w4 w.heap.size v4 (o ++ [(y1, ys), (x1, xs)]) := by simpa using hown4
          rw [List.append_assoc, List.singleton_append] at E1 HI2
          generalize (o ++ [(y1, ys), (x1, xs)] : List Pc) = ns4 at *
          clear hg4 hown1 hsz
          go_wp2
          go_roundw
          case rel => exact ⟨k + 1, ns4, by go_num, by omega, hown4, hq4, hl4, HI2, E1⟩
          case measure => simp [intOf]; omega
    · have E1 : Hid (ns = joinP l) := by
        have := H.out
        rwa [List.take_of_length_le (by omega)] at this
      clear H
      go_wp2
      go_ret
      exact ⟨_, rfl, by rw [← E1.out]; exact hown, hq⟩
end Go.Proofs.YtheobpilmphdjaaGreat.Nd
