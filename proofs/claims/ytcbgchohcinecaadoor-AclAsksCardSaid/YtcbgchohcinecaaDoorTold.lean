/-
  The contracts once more, with what they answer given; and the law's few examples.
-/
import Derived.Test.YtcbgchohcinecaaDoorNorm
import Derived.Test.YtcbgchohcinecaaDoorLets
import Derived.Test.YtcbgchohcinecaaDoorShow
import Derived.Test.YtcbgchohcinecaaDoorSame
import Derived.Test.YtcbgchohcinecaaDoorLex
namespace Go.Proofs.YtcbgchohcinecaaDoor
open Go.RowKit

theorem norm_c (v : Value) (l r : List Ace) (c : Int) (w : World) (h : AcesAt w v l) (hl : l.length ≤ 30000) (hc : normC l = c) (hr : NormR l r) :
    Calls Tryd.prog 8 #[v] w fun e w' => ∃ v', e = .returned (.tuple #[v', .int .i64 c]) ∧ AcesAt w' v' r ∧ Q w w' := by
  refine (norm_any v l w h (by omega)).mono ?_
  rintro e w' ⟨v', r', rfl, h1, h2, h3⟩
  exact ⟨v', by rw [hc], by rw [hr.uniq h3]; exact h1, h2⟩
theorem may_c (v : Value) (l : List Ace) (b : Bool) (w : World) (h : AcesAt w v l) (hb : mayB l = b) : Calls Tryd.prog 10 #[v] w fun e w' => e = .returned (.bool b) ∧ Q w w' := by
  refine (may_any v l w h).mono ?_
  rintro e w' ⟨rfl, h1⟩
  exact ⟨by rw [hb], h1.q⟩
theorem lets_c (v : Value) (l : List Ace) (mode uid gid who : Int) (vg : Value) (gs : List Int) (ask : Int) (b : Bool) (w : World) (h : AcesAt w v l) (hg : IntsAt w vg gs) (hb : letsL l mode uid gid who gs ask = b) :
    Calls Tryd.prog 13 #[v, .int .i64 mode, .int .i64 uid, .int .i64 gid, .int .i64 who, vg, .int .i64 ask] w fun e w' => e = .returned (.bool b) ∧ Q w w' := by
  refine (lets_any v l mode uid gid who vg gs ask w h hg).mono ?_
  rintro e w' ⟨rfl, h1⟩
  exact ⟨by rw [hb], h1⟩
theorem same_c (va vb : Value) (a b : List Ace) (r : Bool) (w : World) (ha : AcesAt w va a) (hb : AcesAt w vb b) (hr : decide (a = b) = r) :
    Calls Tryd.prog 17 #[va, vb] w fun e w' => e = .returned (.bool r) ∧ Q w w' := by
  refine (same_any va vb a b w ha hb).mono ?_
  rintro e w' ⟨rfl, h1⟩
  exact ⟨by rw [hr], h1⟩

/-- What package strconv keeps of the powers of ten. -/
def Tab (w : World) : Prop := Lib.TabIs Tryd.prog w "internal/strconv.uint64pow10" .u64 Lib.pow10Tab
theorem Tab.keep {w w' : World} (h : Tab w) (q : Q w w') : Tab w' := Lib.tabBelow_of_tabIs h w' q
theorem show_c (v : Value) (l : List Ace) (s : List UInt8) (w : World) (h : AcesAt w v l) (hl : l.length ≤ 10000) (hF : ∀ x ∈ l, Fits x) (ht : Tab w) (hs : showL l = s) :
    Calls Tryd.prog 15 #[v] w fun e w' => e = .returned (.string ⟨s.toArray⟩) ∧ Q w w' := by
  refine (show_any v l w h hl hF ht).mono ?_
  rintro e w' ⟨rfl, h1⟩
  exact ⟨by rw [hs], h1⟩

abbrev tL : List Ace := [(3, 0, 5), (1, 7, 6)]
abbrev tM : List Ace := [(1, 7, 6), (3, 0, 5)]
theorem tL_norm : normC tL = 0 ∧ NormR tL tM := ⟨by decide +kernel, normR_zero (by decide +kernel) (List.Perm.swap _ _ _) (by decide +kernel)⟩
theorem t1_norm : normC [((1, 7, 6) : Ace)] = 7 ∧ NormR [((1, 7, 6) : Ace)] [] := ⟨by decide +kernel, normR_err (by decide +kernel)⟩
theorem t2_norm : normC [((3, 0, 5) : Ace), (3, 0, 5)] = 6 ∧ NormR [((3, 0, 5) : Ace), (3, 0, 5)] [] := ⟨by decide +kernel, normR_err (by decide +kernel)⟩
theorem t3_norm : normC [((4, 0, 0) : Ace)] = 1 ∧ NormR [((4, 0, 0) : Ace)] [] := ⟨by decide +kernel, normR_err (by decide +kernel)⟩
theorem tM_may : mayB tM = true := by decide +kernel
theorem tL_may : mayB tL = false := by decide +kernel
theorem tN_may : mayB [] = true := by decide +kernel
theorem tM_show : showL tM = [117, 55, 58, 54, 32, 109, 48, 58, 53] := by decide +kernel
theorem tM_lets1 : letsL tM 416 1 2 7 [] 4 = true := by decide +kernel
theorem tM_lets2 : letsL tM 416 1 2 7 [] 2 = false := by decide +kernel
theorem tM_lets3 : letsL tM 416 1 2 1 [] 6 = true := by decide +kernel
theorem tM_lets4 : letsL tM 0 1 2 0 [] 7 = true := by decide +kernel
theorem tM_lets5 : letsL tM 416 1 2 9 [] 4 = false := by decide +kernel
theorem tM_lets6 : letsL tM 416 1 2 9 [2] 4 = true := by decide +kernel
theorem tM_fits : ∀ x ∈ tM, Fits x := by
  intro x hx
  simp only [List.mem_cons, List.not_mem_nil, or_false] at hx
  rcases hx with rfl | rfl <;> (simp only [Fits]; omega)

/-- A slice of entries that has been written out. -/
theorem aces_cells2 {w : World} {g o cap : Nat} (x y : Ace) (hc : 2 ≤ cap) (hm : cap ≤ maxLen) (a0 : w.cell? ⟨g, o, none⟩ = some (.int .i64 x.1)) (a1 : w.cell? ⟨g, o + 1, none⟩ = some (.int .i64 x.2.1)) (a2 : w.cell? ⟨g, o + 2, none⟩ = some (.int .i64 x.2.2))
    (b0 : w.cell? ⟨g, o + 3, none⟩ = some (.int .i64 y.1)) (b1 : w.cell? ⟨g, o + 4, none⟩ = some (.int .i64 y.2.1)) (b2 : w.cell? ⟨g, o + 5, none⟩ = some (.int .i64 y.2.2)) : AcesAt w (.slice (some ⟨g, o, none⟩) 2 cap) [x, y] :=
  .inr ⟨g, o, cap, rfl, hc, hm, fun i hi => by
    match i, hi with
    | 0, _ => exact ⟨by simpa using a0, by simpa using a1, by simpa using a2⟩
    | 1, _ => exact ⟨by simpa using b0, by simpa [Nat.add_assoc] using b1, by simpa [Nat.add_assoc] using b2⟩⟩
theorem aces_cells1 {w : World} {g o cap : Nat} (x : Ace) (hc : 1 ≤ cap) (hm : cap ≤ maxLen) (a0 : w.cell? ⟨g, o, none⟩ = some (.int .i64 x.1)) (a1 : w.cell? ⟨g, o + 1, none⟩ = some (.int .i64 x.2.1)) (a2 : w.cell? ⟨g, o + 2, none⟩ = some (.int .i64 x.2.2)) : AcesAt w (.slice (some ⟨g, o, none⟩) 1 cap) [x] :=
  .inr ⟨g, o, cap, rfl, hc, hm, fun i hi => by
    obtain rfl : i = 0 := by simpa using hi
    exact ⟨by simpa using a0, by simpa using a1, by simpa using a2⟩⟩

theorem tcells {w : World} {g : Nat} (h : AcesAt w (.slice (some ⟨g, 0, none⟩) 2 2) tL) : w.cell? ⟨g, 0, none⟩ = some (.int .i64 3) ∧ w.cell? ⟨g, 1, none⟩ = some (.int .i64 0) ∧ w.cell? ⟨g, 2, none⟩ = some (.int .i64 5) ∧ w.cell? ⟨g, 3, none⟩ = some (.int .i64 1) ∧ w.cell? ⟨g, 4, none⟩ = some (.int .i64 7) ∧ w.cell? ⟨g, 5, none⟩ = some (.int .i64 6) := by
  obtain ⟨g', o, c, e, _, _, hc⟩ := h.at_ (by simp)
  cases e
  have a := hc 0 (by simp)
  have b := hc 1 (by simp)
  exact ⟨a.1, a.2.1, a.2.2, b.1, b.2.1, b.2.2⟩
theorem mcells {w : World} {g o cap : Nat} (h : AcesAt w (.slice (some ⟨g, o, none⟩) 2 cap) tM) : w.cell? ⟨g, o, none⟩ = some (.int .i64 1) ∧ w.cell? ⟨g, o + 1, none⟩ = some (.int .i64 7) ∧ w.cell? ⟨g, o + 2, none⟩ = some (.int .i64 6) := by
  obtain ⟨g', o, c, e, _, _, hc⟩ := h.at_ (by simp)
  cases e
  have a := hc 0 (by simp)
  exact ⟨a.1, a.2.1, a.2.2⟩
theorem twice_built (w : World) : AcesAt (w.alloc (.cells #[.int .i64 3, .int .i64 0, .int .i64 5, .int .i64 3, .int .i64 0, .int .i64 5] 33)) (.slice (some ⟨w.heap.size, 0, none⟩) 2 2) [(3, 0, 5), (3, 0, 5)] :=
  aces_cells2 _ _ (by omega) (by unfold maxLen; omega) (by simp) (by simp) (by simp) (by simp) (by simp) (by simp)
theorem two_form {w : World} {v : Value} {l : List Ace} (h : AcesAt w v l) (hl : l.length = 2) : ∃ g o cap, v = .slice (some ⟨g, o, none⟩) 2 cap := by
  obtain ⟨g, o, c, e, _⟩ := h.at_ (by omega)
  rw [hl] at e
  exact ⟨g, o, c, e⟩

set_option maxHeartbeats 8000000 in
set_option maxRecDepth 100000 in
theorem told_any (w : World) (ht : Tab w) : Calls Tryd.prog 7 #[] w fun e w' => e = .returned (.bool true) ∧ Q w w' := by
  go_enter Tryd.func7, Tryd.ntmps7
  go_wp2_with fail
  have hL : AcesAt (w.alloc (.cells #[.int .i64 3, .int .i64 0, .int .i64 5, .int .i64 1, .int .i64 7, .int .i64 6] 33)) (.slice (some ⟨w.heap.size, 0, none⟩) 2 2) tL :=
    aces_cells2 _ _ (by omega) (by unfold maxLen; omega) (by simp) (by simp) (by simp) (by simp) (by simp) (by simp)
  have q1 : Q w (w.alloc (.cells #[.int .i64 3, .int .i64 0, .int .i64 5, .int .i64 1, .int .i64 7, .int .i64 6] 33)) := (Q.refl w).alloc _
  generalize hw1 : w.alloc (.cells #[.int .i64 3, .int .i64 0, .int .i64 5, .int .i64 1, .int .i64 7, .int .i64 6] 33) = w1 at *
  clear hw1
  refine (norm_c _ tL tM 0 w1 hL (by decide) tL_norm.1 tL_norm.2).mono ?_
  rintro e w2 ⟨vm, rfl, hm, q2⟩
  replace hL := hL.keep q2
  replace q1 := q1.trans q2
  obtain ⟨gm, om, cm, rfl⟩ := two_form hm rfl
  obtain ⟨a0, a1, a2, b0, b1, b2⟩ := tcells hL
  go_wp2_with fail
  refine (norm_c _ [(1, 7, 6)] [] 7 w2 (aces_cells1 _ (by omega) (by unfold maxLen; omega) b0 b1 b2) (by simp) t1_norm.1 t1_norm.2).mono ?_
  rintro e w3 ⟨v3, rfl, _, q3⟩
  clear a0 a1 a2 b0 b1 b2 q2
  replace hL := hL.keep q3.drew
  replace hm := hm.keep q3.drew
  replace q1 := q1.trans q3.drew
  obtain ⟨a0, a1, a2, b0, b1, b2⟩ := tcells hL
  go_wp2_with fail
  have hx5 := twice_built w3.drew
  go_region_with (go_at_call 8; refine (norm_c _ _ [] 6 _ hx5 (by simp) t2_norm.1 t2_norm.2).mono ?_; rintro e w5 ⟨v5, rfl, _, q5⟩)
  ·
    clear a0 a1 a2 b0 b1 b2 hx5 q3
    replace q5 : Q w3.drew w5 := ((Q.refl w3.drew).alloc _).trans q5
    replace hL := hL.keep q5
    replace hm := hm.keep q5
    replace q1 := q1.trans q5
    clear q5
    go_wp2_with fail
    have hx6 : AcesAt (w5.alloc (.cells #[.int .i64 4, .int .i64 0, .int .i64 0] 33)) (.slice (some ⟨w5.heap.size, 0, none⟩) 1 1) [(4, 0, 0)] :=
      aces_cells1 _ (by omega) (by unfold maxLen; omega) (by simp) (by simp) (by simp)
    refine (norm_c _ _ [] 1 _ hx6 (by simp) t3_norm.1 t3_norm.2).mono ?_
    rintro e w6 ⟨v6, rfl, _, q6⟩
    clear hx6
    replace q6 : Q w5 w6 := ((Q.refl w5).alloc _).trans q6
    replace hL := hL.keep q6
    replace hm := hm.keep q6
    replace q1 := q1.trans q6
    clear q6
    obtain ⟨a0, a1, a2, b0, b1, b2⟩ := tcells hL
    obtain ⟨m0, m1, m2⟩ := mcells hm
    have gd := guardA
    have n1 : ∀ w, Sem.run Tryd.prog (binOp .eql 33 (.agg #[.int .i64 1, .int .i64 7, .int .i64 6]) (.agg #[.int .i64 1, .int .i64 7, .int .i64 6])) w = .ok (.bool true) w := fun w => eqA (1, 7, 6) (1, 7, 6) w
    go_wp2_with fail
    refine wp_region_gen 84 (by kernel_rfl) (by kernel_rfl) ?_
    intro ops hops
    replace a0 : w6.drew.cell? _ = _ := a0
    replace a1 : w6.drew.cell? _ = _ := a1
    replace a2 : w6.drew.cell? _ = _ := a2
    replace b0 : w6.drew.cell? _ = _ := b0
    replace b1 : w6.drew.cell? _ = _ := b1
    replace b2 : w6.drew.cell? _ = _ := b2
    replace m0 : w6.drew.cell? _ = _ := m0
    replace m1 : w6.drew.cell? _ = _ := m1
    replace m2 : w6.drew.cell? _ = _ := m2
    replace hm := hm.keep ((Q.refl w6).drew)
    replace hL := hL.keep ((Q.refl w6).drew)
    replace q1 := q1.drew
    generalize w6.drew = w7 at *
    refine take_d (by rw [hops]; kernel_rfl) (fun c a d v w h => by cases d <;> exact h) 83 0 41 ?oo0 (.int .i64 0) _ _ _ ?h1 ?h0 ?h2 (.inl ⟨?h3, fun w => ?h4⟩) ?_
    case h1 => rw [hops]; rfl
    case h0 => rfl
    case h2 => rw [hops]; kernel_rfl
    case h3 => rw [hops]; rfl
    case h4 => exact Go.BigFrame.run_move (.tmp 3) rfl w
    simp only [Act.put, List.setIfInBounds_toArray, List.set_cons_succ, List.set_cons_zero]
    refine take_d (by rw [hops]; kernel_rfl) (fun c a d v w h => by cases d <;> exact h) 82 1 42 ?oo1 (.bool true) _ _ _ ?h1 ?h0 ?h2 (.inl ⟨?h3, fun w => ?h4⟩) ?_
    case h1 => rw [hops]; rfl
    case h0 => rfl
    case h2 => rw [hops]; kernel_rfl
    case h3 => rw [hops]; rfl
    case h4 => go_simp
    simp only [Act.put, List.setIfInBounds_toArray, List.set_cons_succ, List.set_cons_zero]
    refine take_d (by rw [hops]; kernel_rfl) (fun c a d v w h => by cases d <;> exact h) 81 2 43 ?oo2 (.bool true) _ _ _ ?h1 ?h0 ?h2 (.inl ⟨?h3, fun w => ?h4⟩) ?_
    case h1 => rw [hops]; rfl
    case h0 => rfl
    case h2 => rw [hops]; kernel_rfl
    case h3 => rw [hops]; rfl
    case h4 => exact Go.BigFrame.run_move (.tmp 42) rfl w
    simp only [Act.put, List.setIfInBounds_toArray, List.set_cons_succ, List.set_cons_zero]
    refine take_d (by rw [hops]; kernel_rfl) (fun c a d v w h => by cases d <;> exact h) 80 3 44 ?oo3 (.slice (some ⟨gm, om, none⟩) 2 cm) _ _ _ ?h1 ?h0 ?h2 (.inl ⟨?h3, fun w => ?h4⟩) ?_
    case h1 => rw [hops]; rfl
    case h0 => rfl
    case h2 => rw [hops]; kernel_rfl
    case h3 => rw [hops]; rfl
    case h4 => exact Go.BigFrame.run_move (.tmp 2) rfl w
    simp only [Act.put, List.setIfInBounds_toArray, List.set_cons_succ, List.set_cons_zero]
    refine take_d (by rw [hops]; kernel_rfl) (fun c a d v w h => by cases d <;> exact h) 79 4 45 ?oo4 (.int .i64 2) _ _ _ ?h1 ?h0 ?h2 (.inl ⟨?h3, fun w => ?h4⟩) ?_
    case h1 => rw [hops]; rfl
    case h0 => rfl
    case h2 => rw [hops]; kernel_rfl
    case h3 => rw [hops]; rfl
    case h4 => go_simp
    simp only [Act.put, List.setIfInBounds_toArray, List.set_cons_succ, List.set_cons_zero]
    refine take_d (by rw [hops]; kernel_rfl) (fun c a d v w h => by cases d <;> exact h) 78 5 46 ?oo5 (.bool true) _ _ _ ?h1 ?h0 ?h2 (.inl ⟨?h3, fun w => ?h4⟩) ?_
    case h1 => rw [hops]; rfl
    case h0 => rfl
    case h2 => rw [hops]; kernel_rfl
    case h3 => rw [hops]; rfl
    case h4 => go_simp
    simp only [Act.put, List.setIfInBounds_toArray, List.set_cons_succ, List.set_cons_zero]
    refine take_d (by rw [hops]; kernel_rfl) (fun c a d v w h => by cases d <;> exact h) 77 6 47 ?oo6 (.bool true) _ _ _ ?h1 ?h0 ?h2 (.inl ⟨?h3, fun w => ?h4⟩) ?_
    case h1 => rw [hops]; rfl
    case h0 => rfl
    case h2 => rw [hops]; kernel_rfl
    case h3 => rw [hops]; rfl
    case h4 => go_simp
    simp only [Act.put, List.setIfInBounds_toArray, List.set_cons_succ, List.set_cons_zero]
    refine take_d (by rw [hops]; kernel_rfl) (fun c a d v w h => by cases d <;> exact h) 76 7 48 ?oo7 (.bool true) _ _ _ ?h1 ?h0 ?h2 (.inl ⟨?h3, fun w => ?h4⟩) ?_
    case h1 => rw [hops]; rfl
    case h0 => rfl
    case h2 => rw [hops]; kernel_rfl
    case h3 => rw [hops]; rfl
    case h4 => exact Go.BigFrame.run_move (.tmp 47) rfl w
    simp only [Act.put, List.setIfInBounds_toArray, List.set_cons_succ, List.set_cons_zero]
    refine take_d (by rw [hops]; kernel_rfl) (fun c a d v w h => by cases d <;> exact h) 75 8 49 ?oo8 (.slice (some ⟨gm, om, none⟩) 2 cm) _ _ _ ?h1 ?h0 ?h2 (.inl ⟨?h3, fun w => ?h4⟩) ?_
    case h1 => rw [hops]; rfl
    case h0 => rfl
    case h2 => rw [hops]; kernel_rfl
    case h3 => rw [hops]; rfl
    case h4 => exact Go.BigFrame.run_move (.tmp 2) rfl w
    simp only [Act.put, List.setIfInBounds_toArray, List.set_cons_succ, List.set_cons_zero]
    refine take_d (by rw [hops]; kernel_rfl) (fun c a d v w h => by cases d <;> exact h) 74 11 52 ?oo9 (.slice (some ⟨w.heap.size, 0, none⟩) 2 2) _ _ _ ?h1 ?h0 ?h2 (.inl ⟨?h3, fun w => ?h4⟩) ?_
    case h1 => rw [hops]; rfl
    case h0 => rfl
    case h2 => rw [hops]; kernel_rfl
    case h3 => rw [hops]; rfl
    case h4 => exact Go.BigFrame.run_move (.tmp 1) rfl w
    simp only [Act.put, List.setIfInBounds_toArray, List.set_cons_succ, List.set_cons_zero]
    refine take_d (by rw [hops]; kernel_rfl) (fun c a d v w h => by cases d <;> exact h) 73 9 50 ?oo10 (.pointer (some ⟨gm, om, none⟩)) _ _ _ ?h1 ?h0 ?h2 (.inl ⟨?h3, fun w => ?h4⟩) ?_
    case h1 => rw [hops]; rfl
    case h0 => rfl
    case h2 => rw [hops]; kernel_rfl
    case h3 => rw [hops]; rfl
    case h4 => go_simp
    simp only [Act.put, List.setIfInBounds_toArray, List.set_cons_succ, List.set_cons_zero]
    refine take_d (by rw [hops]; kernel_rfl) (fun c a d v w h => by cases d <;> exact h) 72 12 53 ?oo11 (.pointer (some ⟨w.heap.size, 3, none⟩)) _ _ _ ?h1 ?h0 ?h2 (.inl ⟨?h3, fun w => ?h4⟩) ?_
    case h1 => rw [hops]; rfl
    case h0 => rfl
    case h2 => rw [hops]; kernel_rfl
    case h3 => rw [hops]; rfl
    case h4 => go_simp
    simp only [Act.put, List.setIfInBounds_toArray, List.set_cons_succ, List.set_cons_zero]
    refine take_two_d 70 10 13 51 54 ?p1 ?p2 (.agg #[.int .i64 1, .int .i64 7, .int .i64 6]) (.agg #[.int .i64 1, .int .i64 7, .int .i64 6]) _ _ _ ?h1 ?h2 ?d1 ?d2 ?h3 ?h4 ?h5 (by decide) (by decide) ?h7 ?h8 ?h9 ?h10 ?h11 ?h12 ?h13 ?h14 ?_
    case h1 => rw [hops]; rfl
    case h2 => rw [hops]; rfl
    case h3 => rw [hops]; kernel_rfl
    case h4 => rw [hops]; kernel_rfl
    case h5 => rw [hops]; kernel_rfl
    case d1 => rfl
    case d2 => rfl
    case h7 => rw [hops]; rfl
    case h8 => rw [hops]; rfl
    case h9 => rw [hops]; rfl
    case h10 => rw [hops]; rfl
    case h11 => go_simp
    case h12 => go_simp
    case h13 => go_simp
    case h14 => go_simp
    simp only [Act.put, List.setIfInBounds_toArray, List.set_cons_succ, List.set_cons_zero]
    subst hops
    refine wpAny_last 70 14 84 (by kernel_rfl) rfl (by kernel_rfl) (fun c a d v w h => by cases d <;> exact h) (by simp) (by kernel_rfl) (by kernel_rfl) ?_
    simp only [List.append_eq, List.cons_append, List.nil_append, List.drop_succ_cons, List.drop_zero]
    go_wp2_with fail
    refine (may_c _ tM true _ hm tM_may).mono ?_
    rintro e wn ⟨rfl, qn⟩
    replace hm := hm.keep qn
    replace hL := hL.keep qn
    replace q1 := q1.trans qn
    clear qn a0 a1 a2 b0 b1 b2 m0 m1 m2 gd n1
    go_wp2_with fail
    refine (may_c _ tL false _ hL tL_may).mono ?_
    rintro e wn ⟨rfl, qn⟩
    replace hm := hm.keep qn
    replace hL := hL.keep qn
    replace q1 := q1.trans qn
    clear qn
    go_wp2_with fail
    refine (may_c _ [] true _ (AcesAt.nil_ _) tN_may).mono ?_
    rintro e wn ⟨rfl, qn⟩
    replace hm := hm.keep qn
    replace hL := hL.keep qn
    replace q1 := q1.trans qn
    clear qn
    go_wp2_with fail
    refine (lets_c _ tM 416 1 2 7 _ [] 4 true _ hm (IntsAt.nil_ _) tM_lets1).mono ?_
    rintro e wn ⟨rfl, qn⟩
    replace hm := hm.keep qn
    replace hL := hL.keep qn
    replace q1 := q1.trans qn
    clear qn
    go_wp2_with fail
    refine (lets_c _ tM 416 1 2 7 _ [] 2 false _ hm (IntsAt.nil_ _) tM_lets2).mono ?_
    rintro e wn ⟨rfl, qn⟩
    replace hm := hm.keep qn
    replace hL := hL.keep qn
    replace q1 := q1.trans qn
    clear qn
    go_wp2_with fail
    refine (lets_c _ tM 416 1 2 1 _ [] 6 true _ hm (IntsAt.nil_ _) tM_lets3).mono ?_
    rintro e wn ⟨rfl, qn⟩
    replace hm := hm.keep qn
    replace hL := hL.keep qn
    replace q1 := q1.trans qn
    clear qn
    go_wp2_with fail
    refine (lets_c _ tM 0 1 2 0 _ [] 7 true _ hm (IntsAt.nil_ _) tM_lets4).mono ?_
    rintro e wn ⟨rfl, qn⟩
    replace hm := hm.keep qn
    replace hL := hL.keep qn
    replace q1 := q1.trans qn
    clear qn
    go_wp2_with fail
    refine (lets_c _ tM 416 1 2 9 _ [] 4 false _ hm (IntsAt.nil_ _) tM_lets5).mono ?_
    rintro e wn ⟨rfl, qn⟩
    replace hm := hm.keep qn
    replace hL := hL.keep qn
    replace q1 := q1.trans qn
    clear qn
    go_wp2_with fail
    refine (lets_c _ tM 416 1 2 9 _ [2] 4 true _ (hm.keep ((Q.refl _).alloc _)) (ints_built _ 2 _) tM_lets6).mono ?_
    rintro e wn ⟨rfl, qn⟩
    replace qn := ((Q.refl _).alloc _).trans qn
    replace hm := hm.keep qn
    replace hL := hL.keep qn
    replace q1 := q1.trans qn
    clear qn
    go_wp2_with fail
    refine (show_c _ tM _ _ hm (by simp) tM_fits (ht.keep q1) tM_show).mono ?_
    rintro e wn ⟨rfl, qn⟩
    replace hm := hm.keep qn
    replace hL := hL.keep qn
    replace q1 := q1.trans qn
    clear qn
    go_wp2_with fail
    refine (same_c _ _ tM tM true _ hm hm (by decide)).mono ?_
    rintro e wn ⟨rfl, qn⟩
    replace hm := hm.keep qn
    replace hL := hL.keep qn
    replace q1 := q1.trans qn
    clear qn
    go_wp2_with fail
    refine (same_c _ _ tM tL false _ hm hL (by decide)).mono ?_
    rintro e wn ⟨rfl, qn⟩
    replace hm := hm.keep qn
    replace hL := hL.keep qn
    replace q1 := q1.trans qn
    clear qn
    go_wp2
    go_ret
    exact ⟨rfl, q1⟩
  ·
    clear a0 a1 a2 b0 b1 b2 hx5 q3
    replace q5 : Q w3.drew w5 := ((Q.refl w3.drew).alloc _).trans q5
    replace hL := hL.keep q5
    replace hm := hm.keep q5
    replace q1 := q1.trans q5
    clear q5
    go_wp2_with fail
    have hx6 : AcesAt (w5.alloc (.cells #[.int .i64 4, .int .i64 0, .int .i64 0] 33)) (.slice (some ⟨w5.heap.size, 0, none⟩) 1 1) [(4, 0, 0)] :=
      aces_cells1 _ (by omega) (by unfold maxLen; omega) (by simp) (by simp) (by simp)
    refine (norm_c _ _ [] 1 _ hx6 (by simp) t3_norm.1 t3_norm.2).mono ?_
    rintro e w6 ⟨v6, rfl, _, q6⟩
    clear hx6
    replace q6 : Q w5 w6 := ((Q.refl w5).alloc _).trans q6
    replace hL := hL.keep q6
    replace hm := hm.keep q6
    replace q1 := q1.trans q6
    clear q6
    obtain ⟨a0, a1, a2, b0, b1, b2⟩ := tcells hL
    obtain ⟨m0, m1, m2⟩ := mcells hm
    have gd := guardA
    have n1 : ∀ w, Sem.run Tryd.prog (binOp .eql 33 (.agg #[.int .i64 1, .int .i64 7, .int .i64 6]) (.agg #[.int .i64 1, .int .i64 7, .int .i64 6])) w = .ok (.bool true) w := fun w => eqA (1, 7, 6) (1, 7, 6) w
    go_wp2_with fail
    refine wp_region_gen 84 (by kernel_rfl) (by kernel_rfl) ?_
    intro ops hops
    replace a0 : w6.drew.cell? _ = _ := a0
    replace a1 : w6.drew.cell? _ = _ := a1
    replace a2 : w6.drew.cell? _ = _ := a2
    replace b0 : w6.drew.cell? _ = _ := b0
    replace b1 : w6.drew.cell? _ = _ := b1
    replace b2 : w6.drew.cell? _ = _ := b2
    replace m0 : w6.drew.cell? _ = _ := m0
    replace m1 : w6.drew.cell? _ = _ := m1
    replace m2 : w6.drew.cell? _ = _ := m2
    replace hm := hm.keep ((Q.refl w6).drew)
    replace hL := hL.keep ((Q.refl w6).drew)
    replace q1 := q1.drew
    generalize w6.drew = w7 at *
    refine take_d (by rw [hops]; kernel_rfl) (fun c a d v w h => by cases d <;> exact h) 83 0 41 ?qq0 (.int .i64 0) _ _ _ ?h1 ?h0 ?h2 (.inl ⟨?h3, fun w => ?h4⟩) ?_
    case h1 => rw [hops]; rfl
    case h0 => rfl
    case h2 => rw [hops]; kernel_rfl
    case h3 => rw [hops]; rfl
    case h4 => exact Go.BigFrame.run_move (.tmp 3) rfl w
    simp only [Act.put, List.setIfInBounds_toArray, List.set_cons_succ, List.set_cons_zero]
    refine take_d (by rw [hops]; kernel_rfl) (fun c a d v w h => by cases d <;> exact h) 82 1 42 ?qq1 (.bool true) _ _ _ ?h1 ?h0 ?h2 (.inl ⟨?h3, fun w => ?h4⟩) ?_
    case h1 => rw [hops]; rfl
    case h0 => rfl
    case h2 => rw [hops]; kernel_rfl
    case h3 => rw [hops]; rfl
    case h4 => go_simp
    simp only [Act.put, List.setIfInBounds_toArray, List.set_cons_succ, List.set_cons_zero]
    refine take_d (by rw [hops]; kernel_rfl) (fun c a d v w h => by cases d <;> exact h) 81 2 43 ?qq2 (.bool true) _ _ _ ?h1 ?h0 ?h2 (.inl ⟨?h3, fun w => ?h4⟩) ?_
    case h1 => rw [hops]; rfl
    case h0 => rfl
    case h2 => rw [hops]; kernel_rfl
    case h3 => rw [hops]; rfl
    case h4 => exact Go.BigFrame.run_move (.tmp 42) rfl w
    simp only [Act.put, List.setIfInBounds_toArray, List.set_cons_succ, List.set_cons_zero]
    refine take_d (by rw [hops]; kernel_rfl) (fun c a d v w h => by cases d <;> exact h) 80 3 44 ?qq3 (.slice (some ⟨gm, om, none⟩) 2 cm) _ _ _ ?h1 ?h0 ?h2 (.inl ⟨?h3, fun w => ?h4⟩) ?_
    case h1 => rw [hops]; rfl
    case h0 => rfl
    case h2 => rw [hops]; kernel_rfl
    case h3 => rw [hops]; rfl
    case h4 => exact Go.BigFrame.run_move (.tmp 2) rfl w
    simp only [Act.put, List.setIfInBounds_toArray, List.set_cons_succ, List.set_cons_zero]
    refine take_d (by rw [hops]; kernel_rfl) (fun c a d v w h => by cases d <;> exact h) 79 4 45 ?qq4 (.int .i64 2) _ _ _ ?h1 ?h0 ?h2 (.inl ⟨?h3, fun w => ?h4⟩) ?_
    case h1 => rw [hops]; rfl
    case h0 => rfl
    case h2 => rw [hops]; kernel_rfl
    case h3 => rw [hops]; rfl
    case h4 => go_simp
    simp only [Act.put, List.setIfInBounds_toArray, List.set_cons_succ, List.set_cons_zero]
    refine take_d (by rw [hops]; kernel_rfl) (fun c a d v w h => by cases d <;> exact h) 78 5 46 ?qq5 (.bool true) _ _ _ ?h1 ?h0 ?h2 (.inl ⟨?h3, fun w => ?h4⟩) ?_
    case h1 => rw [hops]; rfl
    case h0 => rfl
    case h2 => rw [hops]; kernel_rfl
    case h3 => rw [hops]; rfl
    case h4 => go_simp
    simp only [Act.put, List.setIfInBounds_toArray, List.set_cons_succ, List.set_cons_zero]
    refine take_d (by rw [hops]; kernel_rfl) (fun c a d v w h => by cases d <;> exact h) 77 6 47 ?qq6 (.bool true) _ _ _ ?h1 ?h0 ?h2 (.inl ⟨?h3, fun w => ?h4⟩) ?_
    case h1 => rw [hops]; rfl
    case h0 => rfl
    case h2 => rw [hops]; kernel_rfl
    case h3 => rw [hops]; rfl
    case h4 => go_simp
    simp only [Act.put, List.setIfInBounds_toArray, List.set_cons_succ, List.set_cons_zero]
    refine take_d (by rw [hops]; kernel_rfl) (fun c a d v w h => by cases d <;> exact h) 76 7 48 ?qq7 (.bool true) _ _ _ ?h1 ?h0 ?h2 (.inl ⟨?h3, fun w => ?h4⟩) ?_
    case h1 => rw [hops]; rfl
    case h0 => rfl
    case h2 => rw [hops]; kernel_rfl
    case h3 => rw [hops]; rfl
    case h4 => exact Go.BigFrame.run_move (.tmp 47) rfl w
    simp only [Act.put, List.setIfInBounds_toArray, List.set_cons_succ, List.set_cons_zero]
    refine take_d (by rw [hops]; kernel_rfl) (fun c a d v w h => by cases d <;> exact h) 75 8 49 ?qq8 (.slice (some ⟨gm, om, none⟩) 2 cm) _ _ _ ?h1 ?h0 ?h2 (.inl ⟨?h3, fun w => ?h4⟩) ?_
    case h1 => rw [hops]; rfl
    case h0 => rfl
    case h2 => rw [hops]; kernel_rfl
    case h3 => rw [hops]; rfl
    case h4 => exact Go.BigFrame.run_move (.tmp 2) rfl w
    simp only [Act.put, List.setIfInBounds_toArray, List.set_cons_succ, List.set_cons_zero]
    refine take_d (by rw [hops]; kernel_rfl) (fun c a d v w h => by cases d <;> exact h) 74 11 52 ?qq9 (.slice (some ⟨w.heap.size, 0, none⟩) 2 2) _ _ _ ?h1 ?h0 ?h2 (.inl ⟨?h3, fun w => ?h4⟩) ?_
    case h1 => rw [hops]; rfl
    case h0 => rfl
    case h2 => rw [hops]; kernel_rfl
    case h3 => rw [hops]; rfl
    case h4 => exact Go.BigFrame.run_move (.tmp 1) rfl w
    simp only [Act.put, List.setIfInBounds_toArray, List.set_cons_succ, List.set_cons_zero]
    refine take_d (by rw [hops]; kernel_rfl) (fun c a d v w h => by cases d <;> exact h) 73 9 50 ?qq10 (.pointer (some ⟨gm, om, none⟩)) _ _ _ ?h1 ?h0 ?h2 (.inl ⟨?h3, fun w => ?h4⟩) ?_
    case h1 => rw [hops]; rfl
    case h0 => rfl
    case h2 => rw [hops]; kernel_rfl
    case h3 => rw [hops]; rfl
    case h4 => go_simp
    simp only [Act.put, List.setIfInBounds_toArray, List.set_cons_succ, List.set_cons_zero]
    refine take_d (by rw [hops]; kernel_rfl) (fun c a d v w h => by cases d <;> exact h) 72 12 53 ?qq11 (.pointer (some ⟨w.heap.size, 3, none⟩)) _ _ _ ?h1 ?h0 ?h2 (.inl ⟨?h3, fun w => ?h4⟩) ?_
    case h1 => rw [hops]; rfl
    case h0 => rfl
    case h2 => rw [hops]; kernel_rfl
    case h3 => rw [hops]; rfl
    case h4 => go_simp
    simp only [Act.put, List.setIfInBounds_toArray, List.set_cons_succ, List.set_cons_zero]
    refine take_two_d 70 10 13 51 54 ?r1 ?r2 (.agg #[.int .i64 1, .int .i64 7, .int .i64 6]) (.agg #[.int .i64 1, .int .i64 7, .int .i64 6]) _ _ _ ?h1 ?h2 ?d1 ?d2 ?h3 ?h4 ?h5 (by decide) (by decide) ?h7 ?h8 ?h9 ?h10 ?h11 ?h12 ?h13 ?h14 ?_
    case h1 => rw [hops]; rfl
    case h2 => rw [hops]; rfl
    case h3 => rw [hops]; kernel_rfl
    case h4 => rw [hops]; kernel_rfl
    case h5 => rw [hops]; kernel_rfl
    case d1 => rfl
    case d2 => rfl
    case h7 => rw [hops]; rfl
    case h8 => rw [hops]; rfl
    case h9 => rw [hops]; rfl
    case h10 => rw [hops]; rfl
    case h11 => go_simp
    case h12 => go_simp
    case h13 => go_simp
    case h14 => go_simp
    simp only [Act.put, List.setIfInBounds_toArray, List.set_cons_succ, List.set_cons_zero]
    subst hops
    refine wpAny_last 70 14 84 (by kernel_rfl) rfl (by kernel_rfl) (fun c a d v w h => by cases d <;> exact h) (by simp) (by kernel_rfl) (by kernel_rfl) ?_
    simp only [List.append_eq, List.cons_append, List.nil_append, List.drop_succ_cons, List.drop_zero]
    go_wp2_with fail
    refine (may_c _ tM true _ hm tM_may).mono ?_
    rintro e wn ⟨rfl, qn⟩
    replace hm := hm.keep qn
    replace hL := hL.keep qn
    replace q1 := q1.trans qn
    clear qn a0 a1 a2 b0 b1 b2 m0 m1 m2 gd n1
    go_wp2_with fail
    refine (may_c _ tL false _ hL tL_may).mono ?_
    rintro e wn ⟨rfl, qn⟩
    replace hm := hm.keep qn
    replace hL := hL.keep qn
    replace q1 := q1.trans qn
    clear qn
    go_wp2_with fail
    refine (may_c _ [] true _ (AcesAt.nil_ _) tN_may).mono ?_
    rintro e wn ⟨rfl, qn⟩
    replace hm := hm.keep qn
    replace hL := hL.keep qn
    replace q1 := q1.trans qn
    clear qn
    go_wp2_with fail
    refine (lets_c _ tM 416 1 2 7 _ [] 4 true _ hm (IntsAt.nil_ _) tM_lets1).mono ?_
    rintro e wn ⟨rfl, qn⟩
    replace hm := hm.keep qn
    replace hL := hL.keep qn
    replace q1 := q1.trans qn
    clear qn
    go_wp2_with fail
    refine (lets_c _ tM 416 1 2 7 _ [] 2 false _ hm (IntsAt.nil_ _) tM_lets2).mono ?_
    rintro e wn ⟨rfl, qn⟩
    replace hm := hm.keep qn
    replace hL := hL.keep qn
    replace q1 := q1.trans qn
    clear qn
    go_wp2_with fail
    refine (lets_c _ tM 416 1 2 1 _ [] 6 true _ hm (IntsAt.nil_ _) tM_lets3).mono ?_
    rintro e wn ⟨rfl, qn⟩
    replace hm := hm.keep qn
    replace hL := hL.keep qn
    replace q1 := q1.trans qn
    clear qn
    go_wp2_with fail
    refine (lets_c _ tM 0 1 2 0 _ [] 7 true _ hm (IntsAt.nil_ _) tM_lets4).mono ?_
    rintro e wn ⟨rfl, qn⟩
    replace hm := hm.keep qn
    replace hL := hL.keep qn
    replace q1 := q1.trans qn
    clear qn
    go_wp2_with fail
    refine (lets_c _ tM 416 1 2 9 _ [] 4 false _ hm (IntsAt.nil_ _) tM_lets5).mono ?_
    rintro e wn ⟨rfl, qn⟩
    replace hm := hm.keep qn
    replace hL := hL.keep qn
    replace q1 := q1.trans qn
    clear qn
    go_wp2_with fail
    refine (lets_c _ tM 416 1 2 9 _ [2] 4 true _ (hm.keep ((Q.refl _).alloc _)) (ints_built _ 2 _) tM_lets6).mono ?_
    rintro e wn ⟨rfl, qn⟩
    replace qn := ((Q.refl _).alloc _).trans qn
    replace hm := hm.keep qn
    replace hL := hL.keep qn
    replace q1 := q1.trans qn
    clear qn
    go_wp2_with fail
    refine (show_c _ tM _ _ hm (by simp) tM_fits (ht.keep q1) tM_show).mono ?_
    rintro e wn ⟨rfl, qn⟩
    replace hm := hm.keep qn
    replace hL := hL.keep qn
    replace q1 := q1.trans qn
    clear qn
    go_wp2_with fail
    refine (same_c _ _ tM tM true _ hm hm (by decide)).mono ?_
    rintro e wn ⟨rfl, qn⟩
    replace hm := hm.keep qn
    replace hL := hL.keep qn
    replace q1 := q1.trans qn
    clear qn
    go_wp2_with fail
    refine (same_c _ _ tM tL false _ hm hL (by decide)).mono ?_
    rintro e wn ⟨rfl, qn⟩
    replace hm := hm.keep qn
    replace hL := hL.keep qn
    replace q1 := q1.trans qn
    clear qn
    go_wp2
    go_ret
    exact ⟨rfl, q1⟩
end Go.Proofs.YtcbgchohcinecaaDoor
