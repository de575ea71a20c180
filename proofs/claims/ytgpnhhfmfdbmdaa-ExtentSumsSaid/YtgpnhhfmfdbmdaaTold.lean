/-
  The law's own told: the few examples.
-/
import Derived.Test.YtgpnhhfmfdbmdaaRow
import Derived.Test.YtgpnhhfmfdbmdaaMay
namespace Go.Proofs.Ytgpnhhfmfdbmdaa
open Go.RowKit
open Rng

def in0 : List X := [(2, 3), (0, 2), (9, 0), (8, 1)]
def in1 : List X := [(0, 2), (2, 1)]
theorem told_norm {r : List X} (h : IsNorm in0 r) : r = [(0, 5), (8, 1)] :=
  val_ext h.1 ⟨by decide, by decide⟩ fun p => by
    rw [h.2.2.1 p]
    simp only [in0, Mem, In, List.mem_cons, List.not_mem_nil, or_false, exists_eq_or_imp, exists_eq_left]
    unfold M
    omega
theorem told_holes {r : List X} (h : IsHoles [(0, 5), (8, 1)] 10 r) : r = [(5, 3), (9, 1)] :=
  val_ext h.1 ⟨by decide, by decide⟩ fun p => by
    rw [h.2.2.1 p]
    simp only [Mem, In, List.mem_cons, List.not_mem_nil, or_false, exists_eq_or_imp, exists_eq_left]
    omega
theorem told_meet {r : List X} (h : IsMeet [(0, 5), (8, 1)] 3 9 r) : r = [(3, 2), (8, 1)] :=
  val_ext h.1 ⟨by decide, by decide⟩ fun p => by
    rw [h.2.2.1 p]
    simp only [Mem, In, List.mem_cons, List.not_mem_nil, or_false, exists_eq_or_imp, exists_eq_left]
    unfold M
    omega
theorem ok_of_le {l : List X} (h : l.all (fun x => decide (x.1 ≤ M ∧ x.2 ≤ M)) = true) : Ok l := fun x hx => of_decide_eq_true (List.all_eq_true.1 h x hx)
theorem f_0 : fl 0 = 0 := by decide +kernel
theorem f_1 : fl 1 = 4607182418800017408 := by decide +kernel
theorem f_2 : fl 2 = 4611686018427387904 := by decide +kernel
theorem f_3 : fl 3 = 4613937818241073152 := by decide +kernel
theorem f_4 : fl 4 = 4616189618054758400 := by decide +kernel
theorem f_5 : fl 5 = 4617315517961601024 := by decide +kernel
theorem f_8 : fl 8 = 4620693217682128896 := by decide +kernel
theorem f_9 : fl 9 = 4621256167635550208 := by decide +kernel
theorem e05 : E (0, 5) = .complex .f64 0 4617315517961601024 := by unfold E; rw [f_0, f_5]
theorem e81 : E (8, 1) = .complex .f64 4620693217682128896 4607182418800017408 := by unfold E; rw [f_8, f_1]
theorem e53 : E (5, 3) = .complex .f64 4617315517961601024 4613937818241073152 := by unfold E; rw [f_5, f_3]
theorem e91 : E (9, 1) = .complex .f64 4621256167635550208 4607182418800017408 := by unfold E; rw [f_9, f_1]
theorem e32 : E (3, 2) = .complex .f64 4613937818241073152 4611686018427387904 := by unfold E; rw [f_3, f_2]
theorem e34 : E (3, 4) = .complex .f64 4613937818241073152 4616189618054758400 := by unfold E; rw [f_3, f_4]
theorem e0M : E (0, 1099511627776) = .complex .f64 0 4787326403894837248 := by unfold E; rw [f_0, fl_most]
theorem order_self (n : Nat) (h : n ≤ M) : (FloatKind.f64.format.order (fl n) (fl n) == some .eq) = true := by
  rw [eq_fl n n (by unfold M at h; omega) (by unfold M at h; omega)]
  exact decide_eq_true rfl
def same64 (b : Nat) : Prop := (FloatKind.f64.format.order b b == some .eq) = true
theorem same64_of {n b : Nat} (h : n ≤ M) (e : fl n = b) : same64 b := by rw [← e]; exact order_self n h

/-- A row of extents that was built. -/
theorem ExtsAt.built (w : World) (cs : Array Value) (t : TypeId) (ls : List X) (h : cs = (ls.map E).toArray) (hl : ls.length ≤ maxLen) : ExtsAt (w.alloc (.cells cs t)) (.slice (some ⟨w.heap.size, 0, none⟩) ls.length ls.length) ls := by
  refine .inr ⟨_, _, rfl, Nat.le_refl _, hl, fun i hi => ?_⟩
  rw [cell_of_row _ w.heap.size i cs t (0, 0) (heap_alloc_new w _), h]
  simp [hi]

set_option maxRecDepth 100000 in
set_option maxHeartbeats 8000000 in
theorem told_any (w : World) : Calls Try.prog 12 #[] w fun e w' => e = .returned (.bool true) ∧ Q w w' := by
  have hb0 := fun w : World => ExtsAt.built w #[.complex .f64 4611686018427387904 4613937818241073152, .complex .f64 0 4611686018427387904, .complex .f64 4621256167635550208 0, .complex .f64 4620693217682128896 4607182418800017408] 31 in0 (by unfold in0 E; simp only [List.map_cons, List.map_nil, f_0, f_1, f_2, f_3, f_8, f_9]) (by decide +kernel)
  have hb1 := fun w : World => ExtsAt.built w #[.complex .f64 0 4611686018427387904, .complex .f64 4611686018427387904 4607182418800017408] 31 in1 (by unfold in1 E; simp only [List.map_cons, List.map_nil, f_0, f_1, f_2]) (by decide +kernel)
  go_enter Try.func12, Try.ntmps12
  go_wp2_with fail
  refine (norm_any _ in0 _ (hb0 w) (ok_of_le (by decide +kernel)) (by decide +kernel)).mono ?_
  rintro e w1 ⟨v1, r1, rfl, hown1, hq1, H1⟩
  obtain rfl := told_norm H1.out
  replace hq1 := ((Q.refl w).alloc _).trans hq1
  have hx1 := ExtsAt.of_own hown1
  clear hown1 H1
  obtain ⟨g1, cp1, rfl, _, _, hc1⟩ := hx1.at_ (by decide)
  have c10 : w1.cell? ⟨g1, 0, none⟩ = some (.complex .f64 0 4617315517961601024) := by rw [← e05]; exact hc1 0 (by decide)
  have c11 : w1.cell? ⟨g1, 1, none⟩ = some (.complex .f64 4620693217682128896 4607182418800017408) := by rw [← e81]; exact hc1 1 (by decide)
  have ok1 : Ok [(0, 5), (8, 1)] := ok_of_le (by decide +kernel)
  clear hc1
  go_wp2_with fail
  refine (holes_any _ [(0, 5), (8, 1)] 10 _ hx1 ok1 (by decide)).mono ?_
  rintro e w2 ⟨v2, r2, rfl, hown2, hq2, H2⟩
  obtain rfl := told_holes (by have := H2.out; rwa [show limN 10 = 10 from by decide +kernel] at this)
  replace hq1 := hq1.trans hq2
  replace hx1 := hx1.keep hq2
  replace c10 := hq2.cell c10
  replace c11 := hq2.cell c11
  have hx2 := ExtsAt.of_own hown2
  clear hown2 H2 hq2
  obtain ⟨g2, cp2, rfl, _, _, hc2⟩ := hx2.at_ (by decide)
  have c20 : w2.cell? ⟨g2, 0, none⟩ = some (.complex .f64 4617315517961601024 4613937818241073152) := by rw [← e53]; exact hc2 0 (by decide)
  have c21 : w2.cell? ⟨g2, 1, none⟩ = some (.complex .f64 4621256167635550208 4607182418800017408) := by rw [← e91]; exact hc2 1 (by decide)
  clear hc2 hx2
  go_wp2_with fail
  refine (meet_any _ [(0, 5), (8, 1)] 3 6 _ hx1 ok1 (by decide)).mono ?_
  rintro e w3 ⟨v3, r3, rfl, hown3, hq3, H3⟩
  obtain rfl := told_meet (by have := H3.out; rwa [show limN 3 = 3 from by decide +kernel, show limN 6 = 6 from by decide +kernel] at this)
  replace hq1 := hq1.trans hq3
  replace hx1 := hx1.keep hq3
  replace c10 := hq3.cell c10
  replace c11 := hq3.cell c11
  replace c20 := hq3.cell c20
  replace c21 := hq3.cell c21
  have hx3 := ExtsAt.of_own hown3
  clear hown3 H3 hq3
  obtain ⟨g3, cp3, rfl, _, _, hc3⟩ := hx3.at_ (by decide)
  have c30 : w3.cell? ⟨g3, 0, none⟩ = some (.complex .f64 4613937818241073152 4611686018427387904) := by rw [← e32]; exact hc3 0 (by decide)
  have c31 : w3.cell? ⟨g3, 1, none⟩ = some (.complex .f64 4620693217682128896 4607182418800017408) := by rw [← e81]; exact hc3 1 (by decide)
  clear hc3 hx3
  have s0 : (FloatKind.f64.format.order 0 0 == some .eq) = true := same64_of (n := 0) (by decide +kernel) f_0
  have s1 : (FloatKind.f64.format.order 4607182418800017408 4607182418800017408 == some .eq) = true := same64_of (n := 1) (by decide +kernel) f_1
  have s2 : (FloatKind.f64.format.order 4611686018427387904 4611686018427387904 == some .eq) = true := same64_of (n := 2) (by decide +kernel) f_2
  have s3 : (FloatKind.f64.format.order 4613937818241073152 4613937818241073152 == some .eq) = true := same64_of (n := 3) (by decide +kernel) f_3
  have s5 : (FloatKind.f64.format.order 4617315517961601024 4617315517961601024 == some .eq) = true := same64_of (n := 5) (by decide +kernel) f_5
  have s8 : (FloatKind.f64.format.order 4620693217682128896 4620693217682128896 == some .eq) = true := same64_of (n := 8) (by decide +kernel) f_8
  have s9 : (FloatKind.f64.format.order 4621256167635550208 4621256167635550208 == some .eq) = true := same64_of (n := 9) (by decide +kernel) f_9
  have sM : (FloatKind.f64.format.order 4787326403894837248 4787326403894837248 == some .eq) = true := same64_of (n := 1099511627776) (by decide +kernel) fl_most
  go_wp2_with fail
  refine (has_any _ [(0, 5), (8, 1)] 4 _ hx1 ok1).mono ?_
  rintro e w4 ⟨rfl, hq4⟩
  rw [show hasB [(0, 5), (8, 1)] 4 = true from by decide +kernel]
  replace hq1 := hq1.trans hq4
  replace hx1 := hx1.keep hq4
  clear hq4 c10 c11 c20 c21 c30 c31
  go_wp2_with fail
  refine (has_any _ [(0, 5), (8, 1)] 5 _ hx1 ok1).mono ?_
  rintro e w5 ⟨rfl, hq4⟩
  rw [show hasB [(0, 5), (8, 1)] 5 = false from by decide +kernel]
  replace hq1 := hq1.trans hq4
  replace hx1 := hx1.keep hq4
  clear hq4
  go_wp2_with fail
  refine (may_any _ [(0, 5), (8, 1)] 9 _ hx1 ok1).mono ?_
  rintro e w6 ⟨rfl, hq4⟩
  rw [show mayB [(0, 5), (8, 1)] 9 = true from by decide +kernel]
  replace hq1 := hq1.trans hq4
  replace hx1 := hx1.keep hq4
  clear hq4
  go_wp2_with fail
  refine (may_any _ [(0, 5), (8, 1)] 8 _ hx1 ok1).mono ?_
  rintro e w7 ⟨rfl, hq4⟩
  rw [show mayB [(0, 5), (8, 1)] 8 = false from by decide +kernel]
  replace hq1 := hq1.trans hq4
  clear hq4 hx1
  go_wp2_with fail
  refine (may_any _ in1 9 _ (hb1 w7) (ok_of_le (by decide +kernel))).mono ?_
  rintro e w8 ⟨rfl, hq4⟩
  rw [show mayB in1 9 = false from by decide +kernel]
  replace hq1 := (hq1.alloc _).trans hq4
  clear hq4 hb0 hb1
  go_wp2_with fail
  refine (of_any (-1) 1125899906842624 _).mono ?_
  rintro e w9 ⟨rfl, rfl⟩
  rw [show (limN (-1), limN 1125899906842624) = ((0, 1099511627776) : X) from by decide +kernel, e0M]
  have a34 : ∀ w, Calls Try.prog 16 #[.complex .f64 4613937818241073152 4616189618054758400] w fun e w' => e = .returned (.int .i64 3) ∧ w' = w := by
    intro w
    have := at_any (3, 4) w (by decide +kernel)
    rwa [e34] at this
  have l34 : ∀ w, Calls Try.prog 14 #[.complex .f64 4613937818241073152 4616189618054758400] w fun e w' => e = .returned (.int .i64 4) ∧ w' = w := by
    intro w
    have := long_any (3, 4) w (by decide +kernel)
    rwa [e34] at this
  go_wp2_with fail
  refine (a34 _).mono ?_
  rintro e w10 ⟨rfl, rfl⟩
  go_wp2_with fail
  refine (l34 _).mono ?_
  rintro e w11 ⟨rfl, rfl⟩
  go_wp2
  go_ret
  exact ⟨rfl, hq1⟩
end Go.Proofs.Ytgpnhhfmfdbmdaa
