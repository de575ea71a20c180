/-
  The contract of the law's told: what the document says of a few.
-/
import Derived.Test.YtheobpilmphdjaaGreatNCut
import Derived.Test.YtheobpilmphdjaaGreatNRead
import Derived.Test.YtheobpilmphdjaaGreatNDiff
namespace Go.Proofs.YtheobpilmphdjaaGreat.Nd
open Go.RowKit
open Go.Proofs.YtheobpilmphdjaaGreat.Ex.Rng
open Go.Proofs.YtheobpilmphdjaaGreat.Ex (E ExtsAt)

theorem write_c {v : Value} {n n' : Nd} {a c : Int} {s : ByteArray} {w : World} (h : NodeAt w v n) (hf : Fit n) (hss : s.size ≤ 90000) (hw : writeN n a s = (n', c)) :
    Calls Tryz.prog 6 #[v, .int .i64 a, .string s] w fun e w' => ∃ va vl vd, e = .returned (.tuple #[nodeV n' va vl vd, .int .i64 c]) ∧ AtsAt w' va n'.mt.attrs ∧ AcesAt w' vl n'.mt.acl ∧ PcsAt w' vd n'.data ∧ Q w w' := by
  have := write_any v n a s w h hf hss
  rw [hw] at this
  refine this.mono ?_
  rintro e w' ⟨v', rfl, ⟨va, vl, vd, rfl, h1, h2, h3⟩, q⟩
  exact ⟨va, vl, vd, rfl, h1, h2, h3, q⟩
theorem cutn_c {v : Value} {n n' : Nd} {a c : Int} {w : World} (h : NodeAt w v n) (hf : Fit n) (hw : cutNd n a = (n', c)) :
    Calls Tryz.prog 8 #[v, .int .i64 a] w fun e w' => ∃ va vl vd, e = .returned (.tuple #[nodeV n' va vl vd, .int .i64 c]) ∧ AtsAt w' va n'.mt.attrs ∧ AcesAt w' vl n'.mt.acl ∧ PcsAt w' vd n'.data ∧ Q w w' := by
  have := cut_any v n a w h hf
  rw [hw] at this
  refine this.mono ?_
  rintro e w' ⟨v', rfl, ⟨va, vl, vd, rfl, h1, h2, h3⟩, q⟩
  exact ⟨va, vl, vd, rfl, h1, h2, h3, q⟩
theorem read_c {v : Value} {n : Nd} {a long c : Int} {s : ByteArray} {w : World} (h : NodeAt w v n) (hf : Fit n) (ha9 : a ≤ 9223372036854775807) (hr : readN n a long = (s, c)) :
    Calls Tryz.prog 10 #[v, .int .i64 a, .int .i64 long] w fun e w' => e = .returned (.tuple #[.string s, .int .i64 c]) ∧ Q w w' := by
  have := read_any v n a long w h hf ha9
  rw [hr] at this
  exact this
theorem may_c {v : Value} {n : Nd} {b : Bool} {w : World} (h : NodeAt w v n) (hs : Small n.data) (hb : mayN n = b) : Calls Tryz.prog 12 #[v] w fun e w' => e = .returned (.bool b) ∧ Q w w' := by
  rw [← hb]; exact may_any v n w h hs
instance (l : List Pc) : Decidable (Small l) := inferInstanceAs (Decidable (_ ∧ _))

theorem fit_of {n : Nd} (h : n.mt.attrs.length ≤ 10000 ∧ n.mt.acl.length ≤ 10000 ∧ Small n.data) : Fit n := ⟨h.1, h.2.1, h.2.2⟩
theorem n0_fit : Fit ⟨2, ⟨0, 0, 0, 0, [], []⟩, 0, [], ⟨#[]⟩, 0, 0⟩ := fit_of (by decide +kernel)
theorem nA_fit : Fit ⟨2, ⟨0, 0, 0, 0, [], []⟩, 5, [(3, ⟨#[97, 98]⟩)], ⟨#[]⟩, 0, 0⟩ := fit_of (by decide +kernel)
theorem nB_fit : Fit ⟨2, ⟨0, 0, 0, 0, [], []⟩, 5, [(1, ⟨#[120, 121, 122, 98]⟩)], ⟨#[]⟩, 0, 0⟩ := fit_of (by decide +kernel)
theorem n1_fit : Fit ⟨1, ⟨0, 0, 0, 0, [], []⟩, 0, [], ⟨#[]⟩, 0, 0⟩ := fit_of (by decide +kernel)
theorem w_a : writeN ⟨2, ⟨0, 0, 0, 0, [], []⟩, 0, [], ⟨#[]⟩, 0, 0⟩ 3 ⟨#[97, 98]⟩ = (⟨2, ⟨0, 0, 0, 0, [], []⟩, 5, [(3, ⟨#[97, 98]⟩)], ⟨#[]⟩, 0, 0⟩, 0) := by decide +kernel
theorem w_b : writeN ⟨2, ⟨0, 0, 0, 0, [], []⟩, 5, [(3, ⟨#[97, 98]⟩)], ⟨#[]⟩, 0, 0⟩ 1 ⟨#[120, 121, 122]⟩ = (⟨2, ⟨0, 0, 0, 0, [], []⟩, 5, [(1, ⟨#[120, 121, 122, 98]⟩)], ⟨#[]⟩, 0, 0⟩, 0) := by decide +kernel
theorem w_c : cutNd ⟨2, ⟨0, 0, 0, 0, [], []⟩, 5, [(1, ⟨#[120, 121, 122, 98]⟩)], ⟨#[]⟩, 0, 0⟩ 2 = (⟨2, ⟨0, 0, 0, 0, [], []⟩, 2, [(1, ⟨#[120]⟩)], ⟨#[]⟩, 0, 0⟩, 0) := by decide +kernel
theorem w_s : readN ⟨2, ⟨0, 0, 0, 0, [], []⟩, 5, [(1, ⟨#[120, 121, 122, 98]⟩)], ⟨#[]⟩, 0, 0⟩ 0 9 = (⟨#[0, 120, 121, 122, 98]⟩, 0) := by decide +kernel
theorem w_i : writeN ⟨1, ⟨0, 0, 0, 0, [], []⟩, 0, [], ⟨#[]⟩, 0, 0⟩ 0 ⟨#[97]⟩ = (⟨1, ⟨0, 0, 0, 0, [], []⟩, 0, [], ⟨#[]⟩, 0, 0⟩, 1) := by decide +kernel
theorem w_j : writeN ⟨2, ⟨0, 0, 0, 0, [], []⟩, 0, [], ⟨#[]⟩, 0, 0⟩ 1099511627776 ⟨#[97]⟩ = (⟨2, ⟨0, 0, 0, 0, [], []⟩, 0, [], ⟨#[]⟩, 0, 0⟩, 2) := by decide +kernel
theorem w_d : cutNd ⟨2, ⟨0, 0, 0, 0, [], []⟩, 5, [(1, ⟨#[120, 121, 122, 98]⟩)], ⟨#[]⟩, 0, 0⟩ 9 = (⟨2, ⟨0, 0, 0, 0, [], []⟩, 9, [(1, ⟨#[120, 121, 122, 98]⟩)], ⟨#[]⟩, 0, 0⟩, 0) := by decide +kernel
theorem m_b : mayN ⟨2, ⟨0, 0, 0, 0, [], []⟩, 5, [(1, ⟨#[120, 121, 122, 98]⟩)], ⟨#[]⟩, 0, 0⟩ = true := by decide +kernel
theorem m_z : mayN ⟨0, ⟨0, 0, 0, 0, [], []⟩, 0, [], ⟨#[]⟩, 0, 0⟩ = false := by decide +kernel
theorem d_bc : diffN ⟨2, ⟨0, 0, 0, 0, [], []⟩, 5, [(1, ⟨#[120, 121, 122, 98]⟩)], ⟨#[]⟩, 0, 0⟩ ⟨2, ⟨0, 0, 0, 0, [], []⟩, 2, [(1, ⟨#[120]⟩)], ⟨#[]⟩, 0, 0⟩ = ⟨#[115, 105, 122, 101]⟩ := by decide +kernel
set_option maxRecDepth 100000 in
set_option maxHeartbeats 16000000 in
theorem told_any (w : World) : Calls Tryz.prog 5 #[] w fun e w' => e = .returned (.bool true) ∧ Q w w' := by
  go_enter Tryz.func5, Tryz.ntmps5
  go_wp2_with fail
  have x1 := BoxN.new w #[.int .i64 2, .int .i64 0, .int .i64 0, .int .i64 0, .int .i64 0, .slice none 0 0, .slice none 0 0, .int .i64 0, .slice none 0 0, .string ⟨#[]⟩, .int .i64 0, .int .i64 0]
  have q : Q w (w.alloc (.cells #[.int .i64 2, .int .i64 0, .int .i64 0, .int .i64 0, .int .i64 0, .slice none 0 0, .slice none 0 0, .int .i64 0, .slice none 0 0, .string ⟨#[]⟩, .int .i64 0, .int .i64 0] 28)) := (Q.refl _).alloc _
  generalize w.alloc (.cells #[.int .i64 2, .int .i64 0, .int .i64 0, .int .i64 0, .int .i64 0, .slice none 0 0, .slice none 0 0, .int .i64 0, .slice none 0 0, .string ⟨#[]⟩, .int .i64 0, .int .i64 0] 28) = w1 at *
  generalize hg1 : w.heap.size = g1 at x1 ⊢
  clear hg1
  refine (write_c (n := ⟨2, ⟨0, 0, 0, 0, [], []⟩, 0, [], ⟨#[]⟩, 0, 0⟩) ⟨_, _, _, rfl, RowAt.nil_ _, AcesAt.nil_ _, RowAt.nil_ _⟩ n0_fit (by decide) w_a).mono ?_
  rintro e w2 ⟨vaA, vlA, vdA, rfl, haA, hlA, hdA, qa⟩
  unfold nodeV
  simp only at haA hlA hdA ⊢
  replace x1 := x1.keep qa
  replace q := q.trans qa
  clear qa
  obtain ⟨AaA, caA, rfl⟩ := haA.form
  obtain ⟨AlA, clA, rfl⟩ := hlA.form
  obtain ⟨AdA, cdA, rfl⟩ := hdA.form
  simp only [List.length_nil, List.length_cons, Nat.zero_add] at haA hlA hdA ⊢
  have hlt := x1.lt
  go_wp2_with fail
  have x2 := BoxN.new w2 #[.int .i64 2, .int .i64 0, .int .i64 0, .int .i64 0, .int .i64 0, .slice AaA 0 caA, .slice AlA 0 clA, .int .i64 5, .slice AdA 1 cdA, .string ⟨#[]⟩, .int .i64 0, .int .i64 0]
  have qa : Q w2 (w2.alloc (.cells #[.int .i64 2, .int .i64 0, .int .i64 0, .int .i64 0, .int .i64 0, .slice AaA 0 caA, .slice AlA 0 clA, .int .i64 5, .slice AdA 1 cdA, .string ⟨#[]⟩, .int .i64 0, .int .i64 0] 28)) := (Q.refl _).alloc _
  replace x1 := x1.keep qa
  replace haA := haA.keep qa
  replace hlA := hlA.keep qa
  replace hdA := hdA.keep qa
  replace q := q.trans qa
  generalize w2.alloc (.cells #[.int .i64 2, .int .i64 0, .int .i64 0, .int .i64 0, .int .i64 0, .slice AaA 0 caA, .slice AlA 0 clA, .int .i64 5, .slice AdA 1 cdA, .string ⟨#[]⟩, .int .i64 0, .int .i64 0] 28) = w3 at *
  generalize hgx2 : w2.heap.size = gx2 at x2 ⊢
  clear hgx2 qa
  clear hlt
  refine (write_c (n := ⟨2, ⟨0, 0, 0, 0, [], []⟩, 5, [(3, ⟨#[97, 98]⟩)], ⟨#[]⟩, 0, 0⟩) ⟨_, _, _, rfl, haA, hlA, hdA⟩ nA_fit (by decide) w_b).mono ?_
  rintro e w4 ⟨vaB, vlB, vdB, rfl, haB, hlB, hdB, qa⟩
  unfold nodeV
  simp only at haB hlB hdB ⊢
  replace x1 := x1.keep qa
  replace x2 := x2.keep qa
  replace haA := haA.keep qa
  replace hlA := hlA.keep qa
  replace hdA := hdA.keep qa
  replace q := q.trans qa
  clear qa
  obtain ⟨AaB, caB, rfl⟩ := haB.form
  obtain ⟨AlB, clB, rfl⟩ := hlB.form
  obtain ⟨AdB, cdB, rfl⟩ := hdB.form
  simp only [List.length_nil, List.length_cons, Nat.zero_add] at haB hlB hdB ⊢
  go_wp2_with fail
  have x4 := BoxN.new w4 #[.int .i64 2, .int .i64 0, .int .i64 0, .int .i64 0, .int .i64 0, .slice AaB 0 caB, .slice AlB 0 clB, .int .i64 5, .slice AdB 1 cdB, .string ⟨#[]⟩, .int .i64 0, .int .i64 0]
  have qa : Q w4 (w4.alloc (.cells #[.int .i64 2, .int .i64 0, .int .i64 0, .int .i64 0, .int .i64 0, .slice AaB 0 caB, .slice AlB 0 clB, .int .i64 5, .slice AdB 1 cdB, .string ⟨#[]⟩, .int .i64 0, .int .i64 0] 28)) := (Q.refl _).alloc _
  replace x1 := x1.keep qa
  replace x2 := x2.keep qa
  replace haA := haA.keep qa
  replace hlA := hlA.keep qa
  replace hdA := hdA.keep qa
  replace haB := haB.keep qa
  replace hlB := hlB.keep qa
  replace hdB := hdB.keep qa
  replace q := q.trans qa
  generalize w4.alloc (.cells #[.int .i64 2, .int .i64 0, .int .i64 0, .int .i64 0, .int .i64 0, .slice AaB 0 caB, .slice AlB 0 clB, .int .i64 5, .slice AdB 1 cdB, .string ⟨#[]⟩, .int .i64 0, .int .i64 0] 28) = w5 at *
  generalize hgx4 : w4.heap.size = gx4 at x4 ⊢
  clear hgx4 qa
  refine (cutn_c (n := ⟨2, ⟨0, 0, 0, 0, [], []⟩, 5, [(1, ⟨#[120, 121, 122, 98]⟩)], ⟨#[]⟩, 0, 0⟩) ⟨_, _, _, rfl, haB, hlB, hdB⟩ nB_fit w_c).mono ?_
  rintro e w6 ⟨vaC, vlC, vdC, rfl, haC, hlC, hdC, qa⟩
  unfold nodeV
  simp only at haC hlC hdC ⊢
  replace x1 := x1.keep qa
  replace x2 := x2.keep qa
  replace x4 := x4.keep qa
  replace haA := haA.keep qa
  replace hlA := hlA.keep qa
  replace hdA := hdA.keep qa
  replace haB := haB.keep qa
  replace hlB := hlB.keep qa
  replace hdB := hdB.keep qa
  replace q := q.trans qa
  clear qa
  obtain ⟨AaC, caC, rfl⟩ := haC.form
  obtain ⟨AlC, clC, rfl⟩ := hlC.form
  obtain ⟨AdC, cdC, rfl⟩ := hdC.form
  simp only [List.length_nil, List.length_cons, Nat.zero_add] at haC hlC hdC ⊢
  obtain ⟨k0, k1, k2, k3, k4, k5, k6, k7, k8, k9, k10, k11⟩ := x4.cells
  have hlt := x4.lt
  go_wp2_with fail
  clear k0 k1 k2 k3 k4 k5 k6 k7 k8 k9 k10 k11
  clear hlt
  have x6 := BoxN.new w6 #[.int .i64 2, .int .i64 0, .int .i64 0, .int .i64 0, .int .i64 0, .slice AaC 0 caC, .slice AlC 0 clC, .int .i64 2, .slice AdC 1 cdC, .string ⟨#[]⟩, .int .i64 0, .int .i64 0]
  have qa : Q w6 (w6.alloc (.cells #[.int .i64 2, .int .i64 0, .int .i64 0, .int .i64 0, .int .i64 0, .slice AaC 0 caC, .slice AlC 0 clC, .int .i64 2, .slice AdC 1 cdC, .string ⟨#[]⟩, .int .i64 0, .int .i64 0] 28)) := (Q.refl _).alloc _
  replace x1 := x1.keep qa
  replace x2 := x2.keep qa
  replace x4 := x4.keep qa
  replace haA := haA.keep qa
  replace hlA := hlA.keep qa
  replace hdA := hdA.keep qa
  replace haB := haB.keep qa
  replace hlB := hlB.keep qa
  replace hdB := hdB.keep qa
  replace haC := haC.keep qa
  replace hlC := hlC.keep qa
  replace hdC := hdC.keep qa
  replace q := q.trans qa
  generalize w6.alloc (.cells #[.int .i64 2, .int .i64 0, .int .i64 0, .int .i64 0, .int .i64 0, .slice AaC 0 caC, .slice AlC 0 clC, .int .i64 2, .slice AdC 1 cdC, .string ⟨#[]⟩, .int .i64 0, .int .i64 0] 28) = w7 at *
  generalize hgx6 : w6.heap.size = gx6 at x6 ⊢
  clear hgx6 qa
  refine (read_c (n := ⟨2, ⟨0, 0, 0, 0, [], []⟩, 5, [(1, ⟨#[120, 121, 122, 98]⟩)], ⟨#[]⟩, 0, 0⟩) ⟨_, _, _, rfl, haB, hlB, hdB⟩ nB_fit (by decide) w_s).mono ?_
  rintro e w8 ⟨rfl, qa⟩
  replace x1 := x1.keep qa
  replace x2 := x2.keep qa
  replace x4 := x4.keep qa
  replace haA := haA.keep qa
  replace hlA := hlA.keep qa
  replace hdA := hdA.keep qa
  replace haB := haB.keep qa
  replace hlB := hlB.keep qa
  replace hdB := hdB.keep qa
  replace x6 := x6.keep qa
  replace haC := haC.keep qa
  replace hlC := hlC.keep qa
  replace hdC := hdC.keep qa
  replace q := q.trans qa
  clear qa
  go_wp2_with fail
  refine (write_c (n := ⟨1, ⟨0, 0, 0, 0, [], []⟩, 0, [], ⟨#[]⟩, 0, 0⟩) ⟨_, _, _, rfl, RowAt.nil_ _, AcesAt.nil_ _, RowAt.nil_ _⟩ n1_fit (by decide) w_i).mono ?_
  rintro e w9 ⟨vaI, vlI, vdI, rfl, haI, hlI, hdI, qa⟩
  unfold nodeV
  simp only at haI hlI hdI ⊢
  replace x1 := x1.keep qa
  replace x2 := x2.keep qa
  replace x4 := x4.keep qa
  replace haA := haA.keep qa
  replace hlA := hlA.keep qa
  replace hdA := hdA.keep qa
  replace haB := haB.keep qa
  replace hlB := hlB.keep qa
  replace hdB := hdB.keep qa
  replace x6 := x6.keep qa
  replace haC := haC.keep qa
  replace hlC := hlC.keep qa
  replace hdC := hdC.keep qa
  replace q := q.trans qa
  clear qa
  obtain ⟨AaI, caI, rfl⟩ := haI.form
  obtain ⟨AlI, clI, rfl⟩ := hlI.form
  obtain ⟨AdI, cdI, rfl⟩ := hdI.form
  simp only [List.length_nil] at haI hlI hdI ⊢
  obtain ⟨k0, k1, k2, k3, k4, k5, k6, k7, k8, k9, k10, k11⟩ := x1.cells
  have hlt := x1.lt
  go_wp2_with fail
  clear k0 k1 k2 k3 k4 k5 k6 k7 k8 k9 k10 k11
  clear hlt
  have x10 := BoxN.new w9 #[.int .i64 1, .int .i64 0, .int .i64 0, .int .i64 0, .int .i64 0, .slice AaI 0 caI, .slice AlI 0 clI, .int .i64 0, .slice AdI 0 cdI, .string ⟨#[]⟩, .int .i64 0, .int .i64 0]
  have qa : Q w9 (w9.alloc (.cells #[.int .i64 1, .int .i64 0, .int .i64 0, .int .i64 0, .int .i64 0, .slice AaI 0 caI, .slice AlI 0 clI, .int .i64 0, .slice AdI 0 cdI, .string ⟨#[]⟩, .int .i64 0, .int .i64 0] 28)) := (Q.refl _).alloc _
  replace x1 := x1.keep qa
  replace x2 := x2.keep qa
  replace x4 := x4.keep qa
  replace haA := haA.keep qa
  replace hlA := hlA.keep qa
  replace hdA := hdA.keep qa
  replace haB := haB.keep qa
  replace hlB := hlB.keep qa
  replace hdB := hdB.keep qa
  replace x6 := x6.keep qa
  replace haC := haC.keep qa
  replace hlC := hlC.keep qa
  replace hdC := hdC.keep qa
  replace q := q.trans qa
  generalize w9.alloc (.cells #[.int .i64 1, .int .i64 0, .int .i64 0, .int .i64 0, .int .i64 0, .slice AaI 0 caI, .slice AlI 0 clI, .int .i64 0, .slice AdI 0 cdI, .string ⟨#[]⟩, .int .i64 0, .int .i64 0] 28) = w10 at *
  generalize hgx10 : w9.heap.size = gx10 at x10 ⊢
  clear hgx10 qa
  clear x10 haI hlI hdI
  refine (write_c (n := ⟨2, ⟨0, 0, 0, 0, [], []⟩, 0, [], ⟨#[]⟩, 0, 0⟩) ⟨_, _, _, rfl, RowAt.nil_ _, AcesAt.nil_ _, RowAt.nil_ _⟩ n0_fit (by decide) w_j).mono ?_
  rintro e w11 ⟨vaJ, vlJ, vdJ, rfl, haJ, hlJ, hdJ, qa⟩
  unfold nodeV
  simp only at haJ hlJ hdJ ⊢
  replace x1 := x1.keep qa
  replace x2 := x2.keep qa
  replace x4 := x4.keep qa
  replace haA := haA.keep qa
  replace hlA := hlA.keep qa
  replace hdA := hdA.keep qa
  replace haB := haB.keep qa
  replace hlB := hlB.keep qa
  replace hdB := hdB.keep qa
  replace x6 := x6.keep qa
  replace haC := haC.keep qa
  replace hlC := hlC.keep qa
  replace hdC := hdC.keep qa
  replace q := q.trans qa
  clear qa
  obtain ⟨AaJ, caJ, rfl⟩ := haJ.form
  obtain ⟨AlJ, clJ, rfl⟩ := hlJ.form
  obtain ⟨AdJ, cdJ, rfl⟩ := hdJ.form
  simp only [List.length_nil] at haJ hlJ hdJ ⊢
  obtain ⟨k0, k1, k2, k3, k4, k5, k6, k7, k8, k9, k10, k11⟩ := x4.cells
  have hlt := x4.lt
  go_wp2_with fail
  clear k0 k1 k2 k3 k4 k5 k6 k7 k8 k9 k10 k11
  clear hlt
  have x12 := BoxN.new w11 #[.int .i64 2, .int .i64 0, .int .i64 0, .int .i64 0, .int .i64 0, .slice AaJ 0 caJ, .slice AlJ 0 clJ, .int .i64 0, .slice AdJ 0 cdJ, .string ⟨#[]⟩, .int .i64 0, .int .i64 0]
  have qa : Q w11 (w11.alloc (.cells #[.int .i64 2, .int .i64 0, .int .i64 0, .int .i64 0, .int .i64 0, .slice AaJ 0 caJ, .slice AlJ 0 clJ, .int .i64 0, .slice AdJ 0 cdJ, .string ⟨#[]⟩, .int .i64 0, .int .i64 0] 28)) := (Q.refl _).alloc _
  replace x1 := x1.keep qa
  replace x2 := x2.keep qa
  replace x4 := x4.keep qa
  replace haA := haA.keep qa
  replace hlA := hlA.keep qa
  replace hdA := hdA.keep qa
  replace haB := haB.keep qa
  replace hlB := hlB.keep qa
  replace hdB := hdB.keep qa
  replace x6 := x6.keep qa
  replace haC := haC.keep qa
  replace hlC := hlC.keep qa
  replace hdC := hdC.keep qa
  replace q := q.trans qa
  generalize w11.alloc (.cells #[.int .i64 2, .int .i64 0, .int .i64 0, .int .i64 0, .int .i64 0, .slice AaJ 0 caJ, .slice AlJ 0 clJ, .int .i64 0, .slice AdJ 0 cdJ, .string ⟨#[]⟩, .int .i64 0, .int .i64 0] 28) = w12 at *
  generalize hgx12 : w11.heap.size = gx12 at x12 ⊢
  clear hgx12 qa
  clear x12 haJ hlJ hdJ x1
  refine (cutn_c (n := ⟨2, ⟨0, 0, 0, 0, [], []⟩, 5, [(1, ⟨#[120, 121, 122, 98]⟩)], ⟨#[]⟩, 0, 0⟩) ⟨_, _, _, rfl, haB, hlB, hdB⟩ nB_fit w_d).mono ?_
  rintro e w13 ⟨vaD, vlD, vdD, rfl, haD, hlD, hdD, qa⟩
  unfold nodeV
  simp only at haD hlD hdD ⊢
  replace x2 := x2.keep qa
  replace x4 := x4.keep qa
  replace haA := haA.keep qa
  replace hlA := hlA.keep qa
  replace hdA := hdA.keep qa
  replace haB := haB.keep qa
  replace hlB := hlB.keep qa
  replace hdB := hdB.keep qa
  replace x6 := x6.keep qa
  replace haC := haC.keep qa
  replace hlC := hlC.keep qa
  replace hdC := hdC.keep qa
  replace q := q.trans qa
  clear qa
  obtain ⟨AaD, caD, rfl⟩ := haD.form
  obtain ⟨AlD, clD, rfl⟩ := hlD.form
  obtain ⟨AdD, cdD, rfl⟩ := hdD.form
  simp only [List.length_nil, List.length_cons, Nat.zero_add] at haD hlD hdD ⊢
  obtain ⟨gpA, opA, cpA, epA, -, -, hpA⟩ := hdA.atP (by decide)
  obtain ⟨rfl, -, rfl⟩ := Value.slice.inj epA
  obtain ⟨paa, pab⟩ := hpA 0 (by decide)
  simp only [List.getElem_cons_zero, Nat.zero_mul, Nat.add_zero] at paa pab
  have hlpa := World.block_lt_of_cell? _ _ paa
  clear hpA epA
  obtain ⟨gpB, opB, cpB, epB, -, -, hpB⟩ := hdB.atP (by decide)
  obtain ⟨rfl, -, rfl⟩ := Value.slice.inj epB
  obtain ⟨pba, pbb⟩ := hpB 0 (by decide)
  simp only [List.getElem_cons_zero, Nat.zero_mul, Nat.add_zero] at pba pbb
  have hlpb := World.block_lt_of_cell? _ _ pba
  clear hpB epB
  obtain ⟨gpC, opC, cpC, epC, -, -, hpC⟩ := hdC.atP (by decide)
  obtain ⟨rfl, -, rfl⟩ := Value.slice.inj epC
  obtain ⟨pca, pcb⟩ := hpC 0 (by decide)
  simp only [List.getElem_cons_zero, Nat.zero_mul, Nat.add_zero] at pca pcb
  have hlpc := World.block_lt_of_cell? _ _ pca
  clear hpC epC
  obtain ⟨i0, i1, i2, i3, i4, i5, i6, i7, i8, i9, i10, i11⟩ := x2.cells
  obtain ⟨k0, k1, k2, k3, k4, k5, k6, k7, k8, k9, k10, k11⟩ := x4.cells
  obtain ⟨j0, j1, j2, j3, j4, j5, j6, j7, j8, j9, j10, j11⟩ := x6.cells
  have l2 := x2.lt
  have l4 := x4.lt
  have l6 := x6.lt
  simp only at l2 l4 l6 hlpa hlpb hlpc
  go_wp2_with fail
  clear paa pab pba pbb pca pcb hlpa hlpb hlpc l2 l4 l6 x2
  clear i0 i1 i2 i3 i4 i5 i6 i7 i8 i9 i10 i11 k0 k1 k2 k3 k4 k5 k6 k7 k8 k9 k10 k11 j0 j1 j2 j3 j4 j5 j6 j7 j8 j9 j10 j11
  have qa : Q w13 (w13.alloc (.cells #[.int .i64 2, .int .i64 0, .int .i64 0, .int .i64 0, .int .i64 0, .slice AaD 0 caD, .slice AlD 0 clD, .int .i64 9, .slice AdD 1 cdD, .string ⟨#[]⟩, .int .i64 0, .int .i64 0] 28)) := (Q.refl _).alloc _
  replace x4 := x4.keep qa
  replace x6 := x6.keep qa
  replace haB := haB.keep qa
  replace hlB := hlB.keep qa
  replace hdB := hdB.keep qa
  replace haC := haC.keep qa
  replace hlC := hlC.keep qa
  replace hdC := hdC.keep qa
  replace q := q.trans qa
  generalize w13.alloc (.cells #[.int .i64 2, .int .i64 0, .int .i64 0, .int .i64 0, .int .i64 0, .slice AaD 0 caD, .slice AlD 0 clD, .int .i64 9, .slice AdD 1 cdD, .string ⟨#[]⟩, .int .i64 0, .int .i64 0] 28) = w14 at *
  clear qa haA hlA hdA haD hlD hdD
  refine (bytes_any _ ⟨2, ⟨0, 0, 0, 0, [], []⟩, 5, [(1, ⟨#[120, 121, 122, 98]⟩)], ⟨#[]⟩, 0, 0⟩ w14 ⟨_, _, _, rfl, haB, hlB, hdB⟩ (by decide)).mono ?_
  rintro e w15 ⟨rfl, qa⟩
  replace x4 := x4.keep qa
  replace x6 := x6.keep qa
  replace haB := haB.keep qa
  replace hlB := hlB.keep qa
  replace hdB := hdB.keep qa
  replace haC := haC.keep qa
  replace hlC := hlC.keep qa
  replace hdC := hdC.keep qa
  replace q := q.trans qa
  clear qa
  obtain ⟨k0, k1, k2, k3, k4, k5, k6, k7, k8, k9, k10, k11⟩ := x4.cells
  go_wp2_with fail
  clear k0 k1 k2 k3 k4 k5 k6 k7 k8 k9 k10 k11
  refine (nodeExtents_any _ ⟨2, ⟨0, 0, 0, 0, [], []⟩, 5, [(1, ⟨#[120, 121, 122, 98]⟩)], ⟨#[]⟩, 0, 0⟩ w15 ⟨_, _, _, rfl, haB, hlB, hdB⟩ (by decide)).mono ?_
  rintro e w16 ⟨vX, rfl, oX, qa⟩
  obtain ⟨AX, cX, rfl⟩ := own_form oX
  clear oX
  replace x4 := x4.keep qa
  replace x6 := x6.keep qa
  replace haB := haB.keep qa
  replace hlB := hlB.keep qa
  replace hdB := hdB.keep qa
  replace haC := haC.keep qa
  replace hlC := hlC.keep qa
  replace hdC := hdC.keep qa
  replace q := q.trans qa
  clear qa
  obtain ⟨k0, k1, k2, k3, k4, k5, k6, k7, k8, k9, k10, k11⟩ := x4.cells
  obtain ⟨j0, j1, j2, j3, j4, j5, j6, j7, j8, j9, j10, j11⟩ := x6.cells
  go_wp2_with fail
  clear k0 k1 k2 k3 k4 k5 k6 k7 k8 k9 k10 k11 j0 j1 j2 j3 j4 j5 j6 j7 j8 j9 j10 j11
  refine (diffN_any _ _ ⟨2, ⟨0, 0, 0, 0, [], []⟩, 5, [(1, ⟨#[120, 121, 122, 98]⟩)], ⟨#[]⟩, 0, 0⟩ ⟨2, ⟨0, 0, 0, 0, [], []⟩, 2, [(1, ⟨#[120]⟩)], ⟨#[]⟩, 0, 0⟩ w16 ⟨_, _, _, rfl, haB, hlB, hdB⟩ ⟨_, _, _, rfl, haC, hlC, hdC⟩).mono ?_
  rw [d_bc]
  rintro e w17 ⟨rfl, qa⟩
  replace x4 := x4.keep qa
  replace x6 := x6.keep qa
  replace haB := haB.keep qa
  replace hlB := hlB.keep qa
  replace hdB := hdB.keep qa
  replace haC := haC.keep qa
  replace hlC := hlC.keep qa
  replace hdC := hdC.keep qa
  replace q := q.trans qa
  clear qa
  obtain ⟨k0, k1, k2, k3, k4, k5, k6, k7, k8, k9, k10, k11⟩ := x4.cells
  go_wp2_with fail
  clear k0 k1 k2 k3 k4 k5 k6 k7 k8 k9 k10 k11
  refine (sameN_any _ _ ⟨2, ⟨0, 0, 0, 0, [], []⟩, 5, [(1, ⟨#[120, 121, 122, 98]⟩)], ⟨#[]⟩, 0, 0⟩ ⟨2, ⟨0, 0, 0, 0, [], []⟩, 5, [(1, ⟨#[120, 121, 122, 98]⟩)], ⟨#[]⟩, 0, 0⟩ w17 ⟨_, _, _, rfl, haB, hlB, hdB⟩ ⟨_, _, _, rfl, haB, hlB, hdB⟩).mono ?_
  rw [decide_eq_true rfl]
  rintro e w18 ⟨rfl, qa⟩
  replace x4 := x4.keep qa
  replace x6 := x6.keep qa
  replace haB := haB.keep qa
  replace hlB := hlB.keep qa
  replace hdB := hdB.keep qa
  replace haC := haC.keep qa
  replace hlC := hlC.keep qa
  replace hdC := hdC.keep qa
  replace q := q.trans qa
  clear qa
  obtain ⟨k0, k1, k2, k3, k4, k5, k6, k7, k8, k9, k10, k11⟩ := x4.cells
  go_wp2_with fail
  clear k0 k1 k2 k3 k4 k5 k6 k7 k8 k9 k10 k11
  refine (may_c (n := ⟨2, ⟨0, 0, 0, 0, [], []⟩, 5, [(1, ⟨#[120, 121, 122, 98]⟩)], ⟨#[]⟩, 0, 0⟩) ⟨_, _, _, rfl, haB, hlB, hdB⟩ (by decide) m_b).mono ?_
  rintro e w19 ⟨rfl, qa⟩
  replace q := q.trans qa
  clear qa
  clear x4 x6 haB hlB hdB haC hlC hdC
  go_wp2_with fail
  refine (may_c (n := ⟨0, ⟨0, 0, 0, 0, [], []⟩, 0, [], ⟨#[]⟩, 0, 0⟩) ⟨_, _, _, rfl, RowAt.nil_ _, AcesAt.nil_ _, RowAt.nil_ _⟩ (by decide) m_z).mono ?_
  rintro e w20 ⟨rfl, qa⟩
  replace q := q.trans qa
  clear qa
  go_wp2
  go_ret
  exact ⟨rfl, q⟩
end Go.Proofs.YtheobpilmphdjaaGreat.Nd
