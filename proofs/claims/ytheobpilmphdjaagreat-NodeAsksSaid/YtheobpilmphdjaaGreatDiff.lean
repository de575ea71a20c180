/-
  The contracts of meta.Diff, meta.Same and of the document's DiffMeta.
-/
import Derived.Test.YtheobpilmphdjaaGreatMeta
namespace Go.Proofs.YtheobpilmphdjaaGreat
open Go.RowKit

set_option maxRecDepth 100000 in
set_option maxHeartbeats 4000000 in
theorem diff_any (va vb : Value) (a b : Mt) (w : World) (ha : MetaAt w va a) (hb : MetaAt w vb b) :
    Calls Tryz.prog 43 #[va, vb] w fun e w' => e = .returned (.string (diffM a b)) ∧ Q w w' := by
  obtain ⟨xa, xl, rfl, ha, hla⟩ := ha
  obtain ⟨ya, yl, rfl, hb, hlb⟩ := hb
  obtain ⟨a1, a2, a3, a4, a5, a6⟩ := a
  obtain ⟨b1, b2, b3, b4, b5, b6⟩ := b
  unfold metaV
  simp only at ha hla hb hlb ⊢
  have HA := Lib.hid (fun w' (q : Q w w') => sameT_any xa ya a5 b5 w' (ha.keep q) (hb.keep q))
  have HL := Lib.hid (fun w' (q : Q w w') => same_any xl yl a6 b6 w' (hla.keep q) (hlb.keep q))
  have E : Hid (diffM ⟨a1, a2, a3, a4, a5, a6⟩ ⟨b1, b2, b3, b4, b5, b6⟩ = if a1 ≠ b1 then ⟨#[109, 111, 100, 101]⟩ else if a2 ≠ b2 then ⟨#[117, 105, 100]⟩ else if a3 ≠ b3 then ⟨#[103, 105, 100]⟩ else if a4 ≠ b4 then ⟨#[116, 105, 109, 101]⟩ else if a5 ≠ b5 then ⟨#[97, 116, 116, 114, 115]⟩ else if a6 ≠ b6 then ⟨#[97, 99, 108]⟩ else ⟨#[]⟩) := rfl
  generalize diffM ⟨a1, a2, a3, a4, a5, a6⟩ ⟨b1, b2, b3, b4, b5, b6⟩ = r at *
  clear ha hla hb hlb
  go_enter Tryz.func43, Tryz.ntmps43
  by_cases h1 : a1 = b1
  · have t1 : (a1 != b1) = false := by rw [bne_eq_false_iff_eq]; exact h1
    replace E := Lib.hid (E.out.trans (if_neg (fun k => k h1)))
    clear h1
    by_cases h2 : a2 = b2
    · have t2 : (a2 != b2) = false := by rw [bne_eq_false_iff_eq]; exact h2
      replace E := Lib.hid (E.out.trans (if_neg (fun k => k h2)))
      clear h2
      by_cases h3 : a3 = b3
      · have t3 : (a3 != b3) = false := by rw [bne_eq_false_iff_eq]; exact h3
        replace E := Lib.hid (E.out.trans (if_neg (fun k => k h3)))
        clear h3
        by_cases h4 : a4 = b4
        · have t4 : (a4 != b4) = false := by rw [bne_eq_false_iff_eq]; exact h4
          replace E := Lib.hid (E.out.trans (if_neg (fun k => k h4)))
          clear h4
          go_wp2_with fail
          refine (HA.out _ (((Q.refl _).alloc _).alloc _)).mono ?_
          rintro e w1 ⟨rfl, q1⟩
          have q0 : Q w w1 := (((Q.refl w).alloc _).alloc _).trans q1
          have c5 := q1.cell (b := w.heap.size) (o := 5) (v := xl) (by simp)
          have d5 := q1.cell (b := w.heap.size + 1) (o := 5) (v := yl) (by simp)
          clear q1
          by_cases h5 : a5 = b5
          · rw [decide_eq_true h5]
            replace E := Lib.hid (E.out.trans (if_neg (fun k => k h5)))
            clear h5
            go_wp2_with fail
            refine (HL.out _ q0).mono ?_
            rintro e w2 ⟨rfl, q2⟩
            replace q0 := q0.trans q2
            by_cases h6 : a6 = b6
            · rw [decide_eq_true h6]
              replace E := Lib.hid (E.out.trans (if_neg (fun k => k h6)))
              clear h6
              go_wp2
              go_ret
              exact ⟨ret_string E.out.symm, q0⟩
            · rw [decide_eq_false h6]
              replace E := Lib.hid (E.out.trans (if_pos h6))
              clear h6
              go_wp2
              go_ret
              exact ⟨ret_string E.out.symm, q0⟩
          · rw [decide_eq_false h5]
            replace E := Lib.hid (E.out.trans (if_pos h5))
            clear h5
            go_wp2
            go_ret
            exact ⟨ret_string E.out.symm, q0⟩
        · have t4 : (a4 != b4) = true := bne_iff_ne.2 h4
          replace E := Lib.hid (E.out.trans (if_pos h4))
          clear h4
          go_wp2
          go_ret
          exact ⟨ret_string E.out.symm, ((Q.refl _).alloc _).alloc _⟩
      · have t3 : (a3 != b3) = true := bne_iff_ne.2 h3
        replace E := Lib.hid (E.out.trans (if_pos h3))
        clear h3
        go_wp2
        go_ret
        exact ⟨ret_string E.out.symm, ((Q.refl _).alloc _).alloc _⟩
    · have t2 : (a2 != b2) = true := bne_iff_ne.2 h2
      replace E := Lib.hid (E.out.trans (if_pos h2))
      clear h2
      go_wp2
      go_ret
      exact ⟨ret_string E.out.symm, ((Q.refl _).alloc _).alloc _⟩
  · have t1 : (a1 != b1) = true := bne_iff_ne.2 h1
    replace E := Lib.hid (E.out.trans (if_pos h1))
    clear h1
    go_wp2
    go_ret
    exact ⟨ret_string E.out.symm, ((Q.refl _).alloc _).alloc _⟩
set_option maxRecDepth 100000 in
set_option maxHeartbeats 4000000 in
theorem diffRef_any (va vb : Value) (a b : Mt) (w : World) (ha : MetaAt w va a) (hb : MetaAt w vb b) :
    Calls Tryz.prog 45 #[va, vb] w fun e w' => e = .returned (.string (diffM a b)) ∧ Q w w' := by
  obtain ⟨xa, xl, rfl, ha, hla⟩ := ha
  obtain ⟨ya, yl, rfl, hb, hlb⟩ := hb
  obtain ⟨a1, a2, a3, a4, a5, a6⟩ := a
  obtain ⟨b1, b2, b3, b4, b5, b6⟩ := b
  unfold metaV
  simp only at ha hla hb hlb ⊢
  have HA := Lib.hid (fun w' (q : Q w w') => sameTRef_any xa ya a5 b5 w' (ha.keep q) (hb.keep q))
  have HL := Lib.hid (fun w' (q : Q w w') => sameRef_any xl yl a6 b6 w' (hla.keep q) (hlb.keep q))
  have E : Hid (diffM ⟨a1, a2, a3, a4, a5, a6⟩ ⟨b1, b2, b3, b4, b5, b6⟩ = if a1 ≠ b1 then ⟨#[109, 111, 100, 101]⟩ else if a2 ≠ b2 then ⟨#[117, 105, 100]⟩ else if a3 ≠ b3 then ⟨#[103, 105, 100]⟩ else if a4 ≠ b4 then ⟨#[116, 105, 109, 101]⟩ else if a5 ≠ b5 then ⟨#[97, 116, 116, 114, 115]⟩ else if a6 ≠ b6 then ⟨#[97, 99, 108]⟩ else ⟨#[]⟩) := rfl
  generalize diffM ⟨a1, a2, a3, a4, a5, a6⟩ ⟨b1, b2, b3, b4, b5, b6⟩ = r at *
  clear ha hla hb hlb
  go_enter Tryz.func45, Tryz.ntmps45
  by_cases h1 : a1 = b1
  · have t1 : (a1 != b1) = false := by rw [bne_eq_false_iff_eq]; exact h1
    replace E := Lib.hid (E.out.trans (if_neg (fun k => k h1)))
    clear h1
    by_cases h2 : a2 = b2
    · have t2 : (a2 != b2) = false := by rw [bne_eq_false_iff_eq]; exact h2
      replace E := Lib.hid (E.out.trans (if_neg (fun k => k h2)))
      clear h2
      by_cases h3 : a3 = b3
      · have t3 : (a3 != b3) = false := by rw [bne_eq_false_iff_eq]; exact h3
        replace E := Lib.hid (E.out.trans (if_neg (fun k => k h3)))
        clear h3
        by_cases h4 : a4 = b4
        · have t4 : (a4 != b4) = false := by rw [bne_eq_false_iff_eq]; exact h4
          replace E := Lib.hid (E.out.trans (if_neg (fun k => k h4)))
          clear h4
          go_wp2_with fail
          refine (HA.out _ (((Q.refl _).alloc _).alloc _)).mono ?_
          rintro e w1 ⟨rfl, q1⟩
          have q0 : Q w w1 := (((Q.refl w).alloc _).alloc _).trans q1
          have c5 := q1.cell (b := w.heap.size) (o := 5) (v := xl) (by simp)
          have d5 := q1.cell (b := w.heap.size + 1) (o := 5) (v := yl) (by simp)
          clear q1
          by_cases h5 : a5 = b5
          · rw [decide_eq_true h5]
            replace E := Lib.hid (E.out.trans (if_neg (fun k => k h5)))
            clear h5
            go_wp2_with fail
            refine (HL.out _ q0).mono ?_
            rintro e w2 ⟨rfl, q2⟩
            replace q0 := q0.trans q2
            by_cases h6 : a6 = b6
            · rw [decide_eq_true h6]
              replace E := Lib.hid (E.out.trans (if_neg (fun k => k h6)))
              clear h6
              go_wp2
              go_ret
              exact ⟨ret_string E.out.symm, q0⟩
            · rw [decide_eq_false h6]
              replace E := Lib.hid (E.out.trans (if_pos h6))
              clear h6
              go_wp2
              go_ret
              exact ⟨ret_string E.out.symm, q0⟩
          · rw [decide_eq_false h5]
            replace E := Lib.hid (E.out.trans (if_pos h5))
            clear h5
            go_wp2
            go_ret
            exact ⟨ret_string E.out.symm, q0⟩
        · have t4 : (a4 != b4) = true := bne_iff_ne.2 h4
          replace E := Lib.hid (E.out.trans (if_pos h4))
          clear h4
          go_wp2
          go_ret
          exact ⟨ret_string E.out.symm, ((Q.refl _).alloc _).alloc _⟩
      · have t3 : (a3 != b3) = true := bne_iff_ne.2 h3
        replace E := Lib.hid (E.out.trans (if_pos h3))
        clear h3
        go_wp2
        go_ret
        exact ⟨ret_string E.out.symm, ((Q.refl _).alloc _).alloc _⟩
    · have t2 : (a2 != b2) = true := bne_iff_ne.2 h2
      replace E := Lib.hid (E.out.trans (if_pos h2))
      clear h2
      go_wp2
      go_ret
      exact ⟨ret_string E.out.symm, ((Q.refl _).alloc _).alloc _⟩
  · have t1 : (a1 != b1) = true := bne_iff_ne.2 h1
    replace E := Lib.hid (E.out.trans (if_pos h1))
    clear h1
    go_wp2
    go_ret
    exact ⟨ret_string E.out.symm, ((Q.refl _).alloc _).alloc _⟩
end Go.Proofs.YtheobpilmphdjaaGreat
