/-
  The contracts once more, with what they answer given; and the statements' few examples.
-/
import Derived.Test.YtidpcoolfomgjaaCopy
import Derived.Test.YtidpcoolfomgjaaNormT
import Derived.Deep.RegionHeld3
namespace Go.Proofs.Ytidpcoolfomgjaa
open Go.RowKit

theorem normT_c (v : Value) (l r : List Attr) (c : Int) (w : World) (h : AtsAt w v l) (hl : l.length ≤ 30000) (hc : normCT l = c) (hr : NormRT l r) :
    Calls Try.prog 9 #[v] w fun e w' => ∃ v', e = .returned (.tuple #[v', .int .i64 c]) ∧ AtsAt w' v' r ∧ Q w w' := by
  refine (normT_any v l w h (by omega)).mono ?_
  rintro e w' ⟨v', r', rfl, h1, h2, h3⟩
  exact ⟨v', by rw [hc], by rw [hr.uniq h3]; exact h1, h2⟩
theorem metaMay_c (v : Value) (m : Mt) (b : Bool) (w : World) (h : MetaAt w v m) (hb : mayM m = b) : Calls Try.prog 11 #[v] w fun e w' => e = .returned (.bool b) ∧ Q w w' := by
  refine (metaMay_any v m w h).mono ?_
  rintro e w' ⟨rfl, h1⟩
  exact ⟨by rw [hb], h1.q⟩
theorem metaSame_c (va vb : Value) (a b : Mt) (r : Bool) (w : World) (ha : MetaAt w va a) (hb : MetaAt w vb b) (hr : decide (a = b) = r) : Calls Try.prog 16 #[va, vb] w fun e w' => e = .returned (.bool r) ∧ Q w w' := by
  refine (metaSame_any va vb a b w ha hb).mono ?_
  rintro e w' ⟨rfl, h1⟩
  exact ⟨by rw [hr], h1⟩
theorem diff_c (va vb : Value) (a b : Mt) (s : ByteArray) (w : World) (ha : MetaAt w va a) (hb : MetaAt w vb b) (hs : diffM a b = s) : Calls Try.prog 14 #[va, vb] w fun e w' => e = .returned (.string s) ∧ Q w w' := by
  refine (diff_any va vb a b w ha hb).mono ?_
  rintro e w' ⟨rfl, h1⟩
  exact ⟨by rw [hs], h1⟩

abbrev sE : ByteArray := ⟨#[]⟩
abbrev sA : ByteArray := ⟨#[97]⟩
abbrev sB : ByteArray := ⟨#[98]⟩
abbrev s1 : ByteArray := ⟨#[49]⟩
abbrev uL : List Attr := [(sB, sE), (sA, s1)]
abbrev uM : List Attr := [(sA, s1), (sB, sE)]
theorem ltT_ab : ltT (sA, s1) (sB, sE) := by unfold ltT; rw [Lib.toList_data, Lib.toList_data]; decide +kernel
theorem rise_uM : RiseT uM := by
  unfold RiseT
  rw [List.pairwise_cons]
  exact ⟨fun y hy => by rw [List.mem_singleton.1 hy]; exact ltT_ab, List.pairwise_singleton _ _⟩
theorem uL_norm : normCT uL = 0 ∧ NormRT uL uM := by
  have e : normCT uL = 0 := by decide +kernel
  exact ⟨e, normRT_zero e (List.Perm.swap _ _ _) rise_uM⟩
theorem u2_norm : normCT [((sA, sE) : Attr), (sA, sE)] = 6 ∧ NormRT [((sA, sE) : Attr), (sA, sE)] [] := by
  have e : normCT [((sA, sE) : Attr), (sA, sE)] = 6 := by decide +kernel
  exact ⟨e, normRT_err (by rw [e]; decide)⟩
theorem u3_norm : normCT [((sE, sE) : Attr)] = 1 ∧ NormRT [((sE, sE) : Attr)] [] := by
  have e : normCT [((sE, sE) : Attr)] = 1 := by decide +kernel
  exact ⟨e, normRT_err (by rw [e]; decide)⟩
abbrev mM : Mt := ⟨420, 0, 0, 0, uM, []⟩
abbrev mN : Mt := ⟨420, 0, 0, 5, uM, []⟩
theorem mM_may : mayM mM = true := by
  have h1 : AllOkT uM := by decide +kernel
  have h2 : mayB [] = true := by decide +kernel
  unfold mayM
  simp only [h1, rise_uM, h2]
  decide +kernel
theorem m1_may : mayM ⟨4096, 0, 0, 0, [], []⟩ = false := by decide +kernel
theorem m2_may : mayM ⟨0, 0, 0, -1, [], []⟩ = false := by decide +kernel
theorem ats_cells2 {w : World} {g o cap : Nat} (x y : Attr) (hc : 2 ≤ cap) (hm : cap ≤ maxLen) (a0 : w.cell? ⟨g, o, none⟩ = some (.string x.1)) (a1 : w.cell? ⟨g, o + 1, none⟩ = some (.string x.2))
    (b0 : w.cell? ⟨g, o + 2, none⟩ = some (.string y.1)) (b1 : w.cell? ⟨g, o + 3, none⟩ = some (.string y.2)) : AtsAt w (.slice (some ⟨g, o, none⟩) 2 cap) [x, y] :=
  .inr ⟨g, o, cap, rfl, hc, hm, fun i hi c u hu => by
    match i, hi, c, hu with
    | 0, _, 0, hu => cases hu; simpa using a0
    | 0, _, 1, hu => cases hu; simpa using a1
    | 1, _, 0, hu => cases hu; simpa using b0
    | 1, _, 1, hu => cases hu; simpa [Nat.add_assoc] using b1⟩
theorem ats_cells1 {w : World} {g o cap : Nat} (x : Attr) (hc : 1 ≤ cap) (hm : cap ≤ maxLen) (a0 : w.cell? ⟨g, o, none⟩ = some (.string x.1)) (a1 : w.cell? ⟨g, o + 1, none⟩ = some (.string x.2)) : AtsAt w (.slice (some ⟨g, o, none⟩) 1 cap) [x] :=
  .inr ⟨g, o, cap, rfl, hc, hm, fun i hi c u hu => by
    obtain rfl : i = 0 := by simpa using hi
    match c, hu with
    | 0, hu => cases hu; simpa using a0
    | 1, hu => cases hu; simpa using a1⟩
theorem two_formT {w : World} {v : Value} {l : List Attr} (h : AtsAt w v l) (hl : l.length = 2) : ∃ g o cap, v = .slice (some ⟨g, o, none⟩) 2 cap := by
  obtain ⟨g, o, c, e, _⟩ := h.atT (by omega)
  rw [hl] at e
  exact ⟨g, o, c, e⟩
theorem mcellsT {w : World} {g o cap : Nat} (h : AtsAt w (.slice (some ⟨g, o, none⟩) 2 cap) uM) : w.cell? ⟨g, o, none⟩ = some (.string sA) := by
  obtain ⟨g', o', c, e, _, _, hc⟩ := h.atT (by simp)
  cases e
  simpa using (hc 0 (by simp)).1

/-! ### What a region's loads read is kept -/
theorem keep6 {w0 w w' : World} {b0 o0 b1 o1 b2 o2 b3 o3 b4 o4 b5 o5 : Nat} {v0 v1 v2 v3 v4 v5 : Value} (h : Q w0 w ∧ w.cell? ⟨b0, o0, none⟩ = some v0 ∧ w.cell? ⟨b1, o1, none⟩ = some v1 ∧ w.cell? ⟨b2, o2, none⟩ = some v2 ∧ w.cell? ⟨b3, o3, none⟩ = some v3 ∧ w.cell? ⟨b4, o4, none⟩ = some v4 ∧ w.cell? ⟨b5, o5, none⟩ = some v5) (q : Q w w') : Q w0 w' ∧ w'.cell? ⟨b0, o0, none⟩ = some v0 ∧ w'.cell? ⟨b1, o1, none⟩ = some v1 ∧ w'.cell? ⟨b2, o2, none⟩ = some v2 ∧ w'.cell? ⟨b3, o3, none⟩ = some v3 ∧ w'.cell? ⟨b4, o4, none⟩ = some v4 ∧ w'.cell? ⟨b5, o5, none⟩ = some v5 := by
  obtain ⟨h0, h1, h2, h3, h4, h5, h6⟩ := h
  exact ⟨h0.trans q, q.cell h1, q.cell h2, q.cell h3, q.cell h4, q.cell h5, q.cell h6⟩
theorem keep12 {w0 w w' : World} {b0 o0 b1 o1 b2 o2 b3 o3 b4 o4 b5 o5 b6 o6 b7 o7 b8 o8 b9 o9 b10 o10 b11 o11 : Nat} {v0 v1 v2 v3 v4 v5 v6 v7 v8 v9 v10 v11 : Value} (h : Q w0 w ∧ w.cell? ⟨b0, o0, none⟩ = some v0 ∧ w.cell? ⟨b1, o1, none⟩ = some v1 ∧ w.cell? ⟨b2, o2, none⟩ = some v2 ∧ w.cell? ⟨b3, o3, none⟩ = some v3 ∧ w.cell? ⟨b4, o4, none⟩ = some v4 ∧ w.cell? ⟨b5, o5, none⟩ = some v5 ∧ w.cell? ⟨b6, o6, none⟩ = some v6 ∧ w.cell? ⟨b7, o7, none⟩ = some v7 ∧ w.cell? ⟨b8, o8, none⟩ = some v8 ∧ w.cell? ⟨b9, o9, none⟩ = some v9 ∧ w.cell? ⟨b10, o10, none⟩ = some v10 ∧ w.cell? ⟨b11, o11, none⟩ = some v11) (q : Q w w') : Q w0 w' ∧ w'.cell? ⟨b0, o0, none⟩ = some v0 ∧ w'.cell? ⟨b1, o1, none⟩ = some v1 ∧ w'.cell? ⟨b2, o2, none⟩ = some v2 ∧ w'.cell? ⟨b3, o3, none⟩ = some v3 ∧ w'.cell? ⟨b4, o4, none⟩ = some v4 ∧ w'.cell? ⟨b5, o5, none⟩ = some v5 ∧ w'.cell? ⟨b6, o6, none⟩ = some v6 ∧ w'.cell? ⟨b7, o7, none⟩ = some v7 ∧ w'.cell? ⟨b8, o8, none⟩ = some v8 ∧ w'.cell? ⟨b9, o9, none⟩ = some v9 ∧ w'.cell? ⟨b10, o10, none⟩ = some v10 ∧ w'.cell? ⟨b11, o11, none⟩ = some v11 := by
  obtain ⟨h0, h1, h2, h3, h4, h5, h6, h7, h8, h9, h10, h11, h12⟩ := h
  exact ⟨h0.trans q, q.cell h1, q.cell h2, q.cell h3, q.cell h4, q.cell h5, q.cell h6, q.cell h7, q.cell h8, q.cell h9, q.cell h10, q.cell h11, q.cell h12⟩
theorem keep13 {w0 w w' : World} {b0 o0 b1 o1 b2 o2 b3 o3 b4 o4 b5 o5 b6 o6 b7 o7 b8 o8 b9 o9 b10 o10 b11 o11 b12 o12 : Nat} {v0 v1 v2 v3 v4 v5 v6 v7 v8 v9 v10 v11 v12 : Value} (h : Q w0 w ∧ w.cell? ⟨b0, o0, none⟩ = some v0 ∧ w.cell? ⟨b1, o1, none⟩ = some v1 ∧ w.cell? ⟨b2, o2, none⟩ = some v2 ∧ w.cell? ⟨b3, o3, none⟩ = some v3 ∧ w.cell? ⟨b4, o4, none⟩ = some v4 ∧ w.cell? ⟨b5, o5, none⟩ = some v5 ∧ w.cell? ⟨b6, o6, none⟩ = some v6 ∧ w.cell? ⟨b7, o7, none⟩ = some v7 ∧ w.cell? ⟨b8, o8, none⟩ = some v8 ∧ w.cell? ⟨b9, o9, none⟩ = some v9 ∧ w.cell? ⟨b10, o10, none⟩ = some v10 ∧ w.cell? ⟨b11, o11, none⟩ = some v11 ∧ w.cell? ⟨b12, o12, none⟩ = some v12) (q : Q w w') : Q w0 w' ∧ w'.cell? ⟨b0, o0, none⟩ = some v0 ∧ w'.cell? ⟨b1, o1, none⟩ = some v1 ∧ w'.cell? ⟨b2, o2, none⟩ = some v2 ∧ w'.cell? ⟨b3, o3, none⟩ = some v3 ∧ w'.cell? ⟨b4, o4, none⟩ = some v4 ∧ w'.cell? ⟨b5, o5, none⟩ = some v5 ∧ w'.cell? ⟨b6, o6, none⟩ = some v6 ∧ w'.cell? ⟨b7, o7, none⟩ = some v7 ∧ w'.cell? ⟨b8, o8, none⟩ = some v8 ∧ w'.cell? ⟨b9, o9, none⟩ = some v9 ∧ w'.cell? ⟨b10, o10, none⟩ = some v10 ∧ w'.cell? ⟨b11, o11, none⟩ = some v11 ∧ w'.cell? ⟨b12, o12, none⟩ = some v12 := by
  obtain ⟨h0, h1, h2, h3, h4, h5, h6, h7, h8, h9, h10, h11, h12, h13⟩ := h
  exact ⟨h0.trans q, q.cell h1, q.cell h2, q.cell h3, q.cell h4, q.cell h5, q.cell h6, q.cell h7, q.cell h8, q.cell h9, q.cell h10, q.cell h11, q.cell h12, q.cell h13⟩

set_option maxHeartbeats 8000000 in
set_option maxRecDepth 100000 in
theorem told_any (w : World) : Calls Try.prog 8 #[] w fun e w' => e = .returned (.bool true) ∧ Q w w' := by
  go_enter Try.func8, Try.ntmps8
  go_wp2_with fail
  have hL : AtsAt (w.alloc (.cells #[.string sB, .string sE, .string sA, .string s1] 36)) (.slice (some ⟨w.heap.size, 0, none⟩) 2 2) uL :=
    ats_cells2 _ _ (by omega) (by unfold maxLen; omega) (by simp) (by simp) (by simp) (by simp)
  have q1 : Q w (w.alloc (.cells #[.string sB, .string sE, .string sA, .string s1] 36)) := (Q.refl w).alloc _
  generalize hw1 : w.alloc (.cells #[.string sB, .string sE, .string sA, .string s1] 36) = w1 at *
  clear hw1
  refine (normT_c _ uL uM 0 w1 hL (by decide) uL_norm.1 uL_norm.2).mono ?_
  rintro e w2 ⟨vm, rfl, hm, q2⟩
  replace q1 := q1.trans q2
  obtain ⟨gm, om, cm, rfl⟩ := two_formT hm rfl
  clear q2 hL
  go_wp2_with fail
  have hL : AtsAt (w2.alloc (.cells #[.string sA, .string sE, .string sA, .string sE] 36)) (.slice (some ⟨w2.heap.size, 0, none⟩) 2 2) [(sA, sE), (sA, sE)] :=
    ats_cells2 _ _ (by omega) (by unfold maxLen; omega) (by simp) (by simp) (by simp) (by simp)
  have q2 : Q w2 (w2.alloc (.cells #[.string sA, .string sE, .string sA, .string sE] 36)) := (Q.refl w2).alloc _
  generalize hw1 : w2.alloc (.cells #[.string sA, .string sE, .string sA, .string sE] 36) = w3 at *
  clear hw1
  refine (normT_c _ _ _ 6 w3 hL (by decide) u2_norm.1 u2_norm.2).mono ?_
  rintro e w4 ⟨v4, rfl, _, q4⟩
  replace q2 := q2.trans q4
  replace q1 := q1.trans q2
  replace hm := hm.keep q2
  clear q2 hL q4
  go_wp2_with fail
  have hL : AtsAt (w4.alloc (.cells #[.string sE, .string sE] 36)) (.slice (some ⟨w4.heap.size, 0, none⟩) 1 1) [(sE, sE)] :=
    ats_cells1 _ (by omega) (by unfold maxLen; omega) (by simp) (by simp)
  have q2 : Q w4 (w4.alloc (.cells #[.string sE, .string sE] 36)) := (Q.refl w4).alloc _
  generalize hw1 : w4.alloc (.cells #[.string sE, .string sE] 36) = w5 at *
  clear hw1
  refine (normT_c _ _ _ 1 w5 hL (by decide) u3_norm.1 u3_norm.2).mono ?_
  rintro e w6 ⟨v6, rfl, _, q6⟩
  replace q2 := q2.trans q6
  replace q1 := q1.trans q2
  replace hm := hm.keep q2
  clear q2 hL q6
  go_wp2_with fail
  have c44 := mcellsT hm
  have q8 : Q w6 ((w6.alloc (.cells #[.int .i64 420, .int .i64 0, .int .i64 0, .int .i64 0, .slice (some ⟨gm, om, none⟩) 2 cm, .slice none 0 0] 25)).alloc (.cells #[.int .i64 420, .int .i64 0, .int .i64 0, .int .i64 5, .slice (some ⟨gm, om, none⟩) 2 cm, .slice none 0 0] 25)) := ((Q.refl _).alloc _).alloc _
  have x0 : ((w6.alloc (.cells #[.int .i64 420, .int .i64 0, .int .i64 0, .int .i64 0, .slice (some ⟨gm, om, none⟩) 2 cm, .slice none 0 0] 25)).alloc (.cells #[.int .i64 420, .int .i64 0, .int .i64 0, .int .i64 5, .slice (some ⟨gm, om, none⟩) 2 cm, .slice none 0 0] 25)).cell? ⟨w6.heap.size, 0, none⟩ = some (.int .i64 420) := by simp
  have x1 : ((w6.alloc (.cells #[.int .i64 420, .int .i64 0, .int .i64 0, .int .i64 0, .slice (some ⟨gm, om, none⟩) 2 cm, .slice none 0 0] 25)).alloc (.cells #[.int .i64 420, .int .i64 0, .int .i64 0, .int .i64 5, .slice (some ⟨gm, om, none⟩) 2 cm, .slice none 0 0] 25)).cell? ⟨w6.heap.size, 1, none⟩ = some (.int .i64 0) := by simp
  have x2 : ((w6.alloc (.cells #[.int .i64 420, .int .i64 0, .int .i64 0, .int .i64 0, .slice (some ⟨gm, om, none⟩) 2 cm, .slice none 0 0] 25)).alloc (.cells #[.int .i64 420, .int .i64 0, .int .i64 0, .int .i64 5, .slice (some ⟨gm, om, none⟩) 2 cm, .slice none 0 0] 25)).cell? ⟨w6.heap.size, 2, none⟩ = some (.int .i64 0) := by simp
  have x3 : ((w6.alloc (.cells #[.int .i64 420, .int .i64 0, .int .i64 0, .int .i64 0, .slice (some ⟨gm, om, none⟩) 2 cm, .slice none 0 0] 25)).alloc (.cells #[.int .i64 420, .int .i64 0, .int .i64 0, .int .i64 5, .slice (some ⟨gm, om, none⟩) 2 cm, .slice none 0 0] 25)).cell? ⟨w6.heap.size, 3, none⟩ = some (.int .i64 0) := by simp
  have x4 : ((w6.alloc (.cells #[.int .i64 420, .int .i64 0, .int .i64 0, .int .i64 0, .slice (some ⟨gm, om, none⟩) 2 cm, .slice none 0 0] 25)).alloc (.cells #[.int .i64 420, .int .i64 0, .int .i64 0, .int .i64 5, .slice (some ⟨gm, om, none⟩) 2 cm, .slice none 0 0] 25)).cell? ⟨w6.heap.size, 4, none⟩ = some (.slice (some ⟨gm, om, none⟩) 2 cm) := by simp
  have x5 : ((w6.alloc (.cells #[.int .i64 420, .int .i64 0, .int .i64 0, .int .i64 0, .slice (some ⟨gm, om, none⟩) 2 cm, .slice none 0 0] 25)).alloc (.cells #[.int .i64 420, .int .i64 0, .int .i64 0, .int .i64 5, .slice (some ⟨gm, om, none⟩) 2 cm, .slice none 0 0] 25)).cell? ⟨w6.heap.size, 5, none⟩ = some (.slice none 0 0) := by simp
  have y0 : ((w6.alloc (.cells #[.int .i64 420, .int .i64 0, .int .i64 0, .int .i64 0, .slice (some ⟨gm, om, none⟩) 2 cm, .slice none 0 0] 25)).alloc (.cells #[.int .i64 420, .int .i64 0, .int .i64 0, .int .i64 5, .slice (some ⟨gm, om, none⟩) 2 cm, .slice none 0 0] 25)).cell? ⟨w6.heap.size + 1, 0, none⟩ = some (.int .i64 420) := by simp
  have y1 : ((w6.alloc (.cells #[.int .i64 420, .int .i64 0, .int .i64 0, .int .i64 0, .slice (some ⟨gm, om, none⟩) 2 cm, .slice none 0 0] 25)).alloc (.cells #[.int .i64 420, .int .i64 0, .int .i64 0, .int .i64 5, .slice (some ⟨gm, om, none⟩) 2 cm, .slice none 0 0] 25)).cell? ⟨w6.heap.size + 1, 1, none⟩ = some (.int .i64 0) := by simp
  have y2 : ((w6.alloc (.cells #[.int .i64 420, .int .i64 0, .int .i64 0, .int .i64 0, .slice (some ⟨gm, om, none⟩) 2 cm, .slice none 0 0] 25)).alloc (.cells #[.int .i64 420, .int .i64 0, .int .i64 0, .int .i64 5, .slice (some ⟨gm, om, none⟩) 2 cm, .slice none 0 0] 25)).cell? ⟨w6.heap.size + 1, 2, none⟩ = some (.int .i64 0) := by simp
  have y3 : ((w6.alloc (.cells #[.int .i64 420, .int .i64 0, .int .i64 0, .int .i64 0, .slice (some ⟨gm, om, none⟩) 2 cm, .slice none 0 0] 25)).alloc (.cells #[.int .i64 420, .int .i64 0, .int .i64 0, .int .i64 5, .slice (some ⟨gm, om, none⟩) 2 cm, .slice none 0 0] 25)).cell? ⟨w6.heap.size + 1, 3, none⟩ = some (.int .i64 5) := by simp
  have y4 : ((w6.alloc (.cells #[.int .i64 420, .int .i64 0, .int .i64 0, .int .i64 0, .slice (some ⟨gm, om, none⟩) 2 cm, .slice none 0 0] 25)).alloc (.cells #[.int .i64 420, .int .i64 0, .int .i64 0, .int .i64 5, .slice (some ⟨gm, om, none⟩) 2 cm, .slice none 0 0] 25)).cell? ⟨w6.heap.size + 1, 4, none⟩ = some (.slice (some ⟨gm, om, none⟩) 2 cm) := by simp
  have y5 : ((w6.alloc (.cells #[.int .i64 420, .int .i64 0, .int .i64 0, .int .i64 0, .slice (some ⟨gm, om, none⟩) 2 cm, .slice none 0 0] 25)).alloc (.cells #[.int .i64 420, .int .i64 0, .int .i64 0, .int .i64 5, .slice (some ⟨gm, om, none⟩) 2 cm, .slice none 0 0] 25)).cell? ⟨w6.heap.size + 1, 5, none⟩ = some (.slice none 0 0) := by simp
  replace c44 := q8.cell c44
  replace q1 := q1.trans q8
  replace hm := hm.keep q8
  generalize ((w6.alloc (.cells #[.int .i64 420, .int .i64 0, .int .i64 0, .int .i64 0, .slice (some ⟨gm, om, none⟩) 2 cm, .slice none 0 0] 25)).alloc (.cells #[.int .i64 420, .int .i64 0, .int .i64 0, .int .i64 5, .slice (some ⟨gm, om, none⟩) 2 cm, .slice none 0 0] 25)) = w8 at *
  have mixed : Try.prog.follows .mixedOrders = true := by kernel_rfl
  have HMM : Hid (∀ w', Q w8 w' → MetaAt w' (.agg #[.int .i64 420, .int .i64 0, .int .i64 0, .int .i64 0, .slice (some ⟨gm, om, none⟩) 2 cm, .slice none 0 0]) mM) := fun w' q => ⟨_, _, rfl, hm.keep q, AcesAt.nil_ _⟩
  have HMN : Hid (∀ w', Q w8 w' → MetaAt w' (.agg #[.int .i64 420, .int .i64 0, .int .i64 0, .int .i64 5, .slice (some ⟨gm, om, none⟩) 2 cm, .slice none 0 0]) mN) := fun w' q => ⟨_, _, rfl, hm.keep q, AcesAt.nil_ _⟩
  have T1 : Hid (∀ w', Q w8 w' → Calls Try.prog 11 #[.agg #[.int .i64 420, .int .i64 0, .int .i64 0, .int .i64 0, .slice (some ⟨gm, om, none⟩) 2 cm, .slice none 0 0]] w' fun e w'' => e = .returned (.bool true) ∧ Q w' w'') := fun w' q => metaMay_c _ mM true w' (HMM.out w' q) mM_may
  have T2 : Hid (∀ w', Calls Try.prog 11 #[.agg #[.int .i64 4096, .int .i64 0, .int .i64 0, .int .i64 0, .slice none 0 0, .slice none 0 0]] w' fun e w'' => e = .returned (.bool false) ∧ Q w' w'') := fun w' => metaMay_c _ ⟨4096, 0, 0, 0, [], []⟩ false w' ⟨_, _, rfl, RowAt.nil_ _, AcesAt.nil_ _⟩ m1_may
  have T3 : Hid (∀ w', Calls Try.prog 11 #[.agg #[.int .i64 0, .int .i64 0, .int .i64 0, .int .i64 (-1), .slice none 0 0, .slice none 0 0]] w' fun e w'' => e = .returned (.bool false) ∧ Q w' w'') := fun w' => metaMay_c _ ⟨0, 0, 0, -1, [], []⟩ false w' ⟨_, _, rfl, RowAt.nil_ _, AcesAt.nil_ _⟩ m2_may
  go_region_held3 (fun w' => Q w8 w' ∧ w'.cell? ⟨gm, om, none⟩ = some (.string sA) ∧ w'.cell? ⟨w6.heap.size, 0, none⟩ = some (.int .i64 420) ∧ w'.cell? ⟨w6.heap.size, 1, none⟩ = some (.int .i64 0) ∧ w'.cell? ⟨w6.heap.size, 2, none⟩ = some (.int .i64 0) ∧ w'.cell? ⟨w6.heap.size, 3, none⟩ = some (.int .i64 0) ∧ w'.cell? ⟨w6.heap.size, 4, none⟩ = some (.slice (some ⟨gm, om, none⟩) 2 cm) ∧ w'.cell? ⟨w6.heap.size, 5, none⟩ = some (.slice none 0 0) ∧ w'.cell? ⟨w6.heap.size + 1, 0, none⟩ = some (.int .i64 420) ∧ w'.cell? ⟨w6.heap.size + 1, 1, none⟩ = some (.int .i64 0) ∧ w'.cell? ⟨w6.heap.size + 1, 2, none⟩ = some (.int .i64 0) ∧ w'.cell? ⟨w6.heap.size + 1, 3, none⟩ = some (.int .i64 5) ∧ w'.cell? ⟨w6.heap.size + 1, 4, none⟩ = some (.slice (some ⟨gm, om, none⟩) 2 cm) ∧ w'.cell? ⟨w6.heap.size + 1, 5, none⟩ = some (.slice none 0 0)) (first | exact keep13 (by assumption) (by assumption) | exact keep13 ⟨Q.refl _, c44, x0, x1, x2, x3, x4, x5, y0, y1, y2, y3, y4, y5⟩ (Q.drew (Q.refl _))) (first
    | (go_at_call_of 11 (Value.int IntKind.i64 420); refine (T1.out _ (And.left (by assumption))).mono ?_; rintro e wn ⟨rfl, qn⟩)
    | (go_at_call_of 11 (Value.int IntKind.i64 4096); refine (T2.out _).mono ?_; rintro e wn ⟨rfl, qn⟩)
    | (go_at_call 11; refine (T3.out _).mono ?_; rintro e wn ⟨rfl, qn⟩)
    | (go_at_call 17; refine (copy_any _ mM _ (HMM.out _ (And.left (by assumption))) (by decide) (by decide)).mono ?_; rintro e wn ⟨_, rfl, ⟨vc, lc, rfl, oc, ol⟩, qn⟩; have hcp : MetaAt wn _ mM := OwnM.at_ ⟨vc, lc, rfl, oc, ol⟩)
    | (go_at_call_of 16 (Value.int IntKind.i64 5); refine (metaSame_c _ _ mM mN false _ (HMM.out _ (And.left (by assumption))) (HMN.out _ (And.left (by assumption))) (by decide +kernel)).mono ?_; rintro e wn ⟨rfl, qn⟩)
    | (go_at_call 16; refine (metaSame_c _ _ mM mM true _ (HMM.out _ (And.left (by assumption))) hcp (by simp)).mono ?_; rintro e wn ⟨rfl, qn⟩)
    | (go_at_call_of 14 (Value.int IntKind.i64 5); refine (diff_c _ _ mM mN ⟨#[116, 105, 109, 101]⟩ _ (HMM.out _ (And.left (by assumption))) (HMN.out _ (And.left (by assumption))) (by decide +kernel)).mono ?_; rintro e wn ⟨rfl, qn⟩)
    | (go_at_call 14; refine (diff_c _ _ mM mM ⟨#[]⟩ _ (HMM.out _ (And.left (by assumption))) (HMM.out _ (And.left (by assumption))) (by decide +kernel)).mono ?_; rintro e wn ⟨rfl, qn⟩))
  go_wp2
  go_ret
  exact ⟨rfl, q1.trans (And.left (by assumption))⟩
end Go.Proofs.Ytidpcoolfomgjaa
