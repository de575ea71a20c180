/-
  Metadata: as plain mathematics, as a value; the contracts of meta.May, Diff, Same.
-/
import Derived.Test.YtheobpilmphdjaaGreatSameT
namespace Go.Proofs.YtheobpilmphdjaaGreat
open Go.RowKit

/-- Metadata. -/
structure Mt where
  mode : Int
  uid : Int
  gid : Int
  time : Int
  attrs : List Attr
  acl : List Ace
deriving DecidableEq
def mayM (m : Mt) : Bool := decide (0 ≤ m.mode) && decide (m.mode ≤ 4095) && idB m.uid && idB m.gid && decide (0 ≤ m.time) && decide ((m.attrs.length : Int) ≤ 8) && decide (AllOkT m.attrs) && decide (RiseT m.attrs) && mayB m.acl
def diffM (a b : Mt) : ByteArray :=
  if a.mode ≠ b.mode then ⟨#[109, 111, 100, 101]⟩ else if a.uid ≠ b.uid then ⟨#[117, 105, 100]⟩ else if a.gid ≠ b.gid then ⟨#[103, 105, 100]⟩ else if a.time ≠ b.time then ⟨#[116, 105, 109, 101]⟩
  else if a.attrs ≠ b.attrs then ⟨#[97, 116, 116, 114, 115]⟩ else if a.acl ≠ b.acl then ⟨#[97, 99, 108]⟩ else ⟨#[]⟩
theorem diffM_empty (a b : Mt) : (diffM a b).toList.isEmpty = decide (a = b) := by
  rw [Lib.toList_data]
  obtain ⟨a1, a2, a3, a4, a5, a6⟩ := a
  obtain ⟨b1, b2, b3, b4, b5, b6⟩ := b
  unfold diffM
  simp only [Mt.mk.injEq]
  by_cases h1 : a1 = b1
  · by_cases h2 : a2 = b2
    · by_cases h3 : a3 = b3
      · by_cases h4 : a4 = b4
        · by_cases h5 : a5 = b5
          · by_cases h6 : a6 = b6
            · simp [h1, h2, h3, h4, h5, h6]
            · simp [h1, h2, h3, h4, h5, h6]
          · simp [h1, h2, h3, h4, h5]
        · simp [h1, h2, h3, h4]
      · simp [h1, h2, h3]
    · simp [h1, h2]
  · simp [h1]

def metaV (m : Mt) (va vl : Value) : Value := .agg #[.int .i64 m.mode, .int .i64 m.uid, .int .i64 m.gid, .int .i64 m.time, va, vl]
def MetaAt (w : World) (v : Value) (m : Mt) : Prop := ∃ va vl, v = metaV m va vl ∧ AtsAt w va m.attrs ∧ AcesAt w vl m.acl
theorem MetaAt.keep {w w' : World} {v : Value} {m : Mt} (h : MetaAt w v m) (q : Q w w') : MetaAt w' v m := by
  obtain ⟨va, vl, e, h1, h2⟩ := h
  exact ⟨va, vl, e, h1.keep q, h2.keep q⟩

set_option maxRecDepth 100000 in
set_option maxHeartbeats 4000000 in
theorem metaMay_any (v : Value) (m : Mt) (w : World) (h : MetaAt w v m) :
    Calls Tryz.prog 40 #[v] w fun e w' => e = .returned (.bool (mayM m)) ∧ Grew w w' := by
  obtain ⟨va, vl, rfl, ha, hl⟩ := h
  obtain ⟨mode, uid, gid, time, attrs, acl⟩ := m
  unfold metaV
  simp only at ha hl ⊢
  have ll := ha.len
  unfold maxLen at ll
  obtain ⟨A, ca, rfl⟩ := ha.form
  have HU := Lib.hid (fun w => id_any uid w)
  have HG := Lib.hid (fun w => id_any gid w)
  have HA := Lib.hid (fun w' (q : Q w w') => attrs_any _ attrs w' (ha.keep q))
  have HR := Lib.hid (fun w' (q : Q w w') => risingT_any _ attrs w' (ha.keep q))
  have HL := Lib.hid (fun w' (q : Q w w') => may_any _ acl w' (hl.keep q))
  have E : Hid (mayM ⟨mode, uid, gid, time, attrs, acl⟩ = (decide (0 ≤ mode) && decide (mode ≤ 4095) && idB uid && idB gid && decide (0 ≤ time) && decide ((attrs.length : Int) ≤ 8) && decide (AllOkT attrs) && decide (RiseT attrs) && mayB acl)) := rfl
  generalize mayM ⟨mode, uid, gid, time, attrs, acl⟩ = r at *
  generalize idB uid = b1 at *
  generalize idB gid = b2 at *
  generalize decide (AllOkT attrs) = b3 at *
  generalize decide (RiseT attrs) = b4 at *
  generalize mayB acl = b5 at *
  clear ha hl
  go_enter Tryz.func40, Tryz.ntmps40
  by_cases h1 : 0 ≤ mode ∧ mode ≤ 4095
  · obtain ⟨h1, h1'⟩ := h1
    have t1 : decide (0 ≤ mode) = true := decide_eq_true h1
    have t2 : decide (mode ≤ 4095) = true := decide_eq_true h1'
    clear h1 h1'
    go_wp2_with fail
    refine (HU.out _).mono ?_
    rintro e w1 ⟨rfl, rfl⟩
    cases b1 with
    | false =>
      go_wp2
      go_ret
      exact ⟨ret_bool (by rw [E.out]; simp), Grew.alloc _ _⟩
    | true =>
      go_wp2_with fail
      refine (HG.out _).mono ?_
      rintro e w1 ⟨rfl, rfl⟩
      cases b2 with
      | false =>
        go_wp2
        go_ret
        exact ⟨ret_bool (by rw [E.out]; simp), Grew.alloc _ _⟩
      | true =>
        by_cases h2 : 0 ≤ time
        · have t3 : decide (0 ≤ time) = true := decide_eq_true h2
          clear h2
          by_cases h3 : (attrs.length : Int) ≤ 8
          · have t4 : decide ((attrs.length : Int) ≤ 8) = true := decide_eq_true h3
            rw [t1, t2, t3, t4] at E
            clear h3
            go_wp2_with fail
            refine (HA.out _ ((Q.refl _).alloc _)).mono ?_
            rintro e w1 ⟨rfl, q1⟩
            have q0 := (Grew.alloc w _).trans q1
            have c5 := q1.q.cell (b := w.heap.size) (o := 4) (v := .slice A attrs.length ca) (by simp)
            have c6 := q1.q.cell (b := w.heap.size) (o := 5) (v := vl) (by simp)
            clear q1
            cases b3 with
            | false =>
              go_wp2
              go_ret
              exact ⟨ret_bool (by rw [E.out]; simp), q0⟩
            | true =>
              go_wp2_with fail
              refine (HR.out _ q0.q).mono ?_
              rintro e w2 ⟨rfl, q2⟩
              replace q0 := q0.trans q2
              replace c6 := q2.q.cell c6
              clear c5 q2
              cases b4 with
              | false =>
                go_wp2
                go_ret
                exact ⟨ret_bool (by rw [E.out]; simp), q0⟩
              | true =>
                go_wp2_with fail
                refine (HL.out _ q0.q).mono ?_
                rintro e w3 ⟨rfl, q3⟩
                go_wp2
                all_goals
                  go_ret
                  exact ⟨ret_bool (by rw [E.out]; simp_all), q0.trans q3⟩
          · have t4 : decide ((attrs.length : Int) ≤ 8) = false := decide_eq_false h3
            rw [t1, t2, t3, t4] at E
            clear h3
            go_wp2
            go_ret
            exact ⟨ret_bool (by rw [E.out]; simp), Grew.alloc _ _⟩
        · have t3 : decide (0 ≤ time) = false := decide_eq_false h2
          rw [t1, t2, t3] at E
          clear h2
          go_wp2
          go_ret
          exact ⟨ret_bool (by rw [E.out]; simp), Grew.alloc _ _⟩
  · have E2 : Hid (r = false) := by
      show r = false
      rw [E.out]
      by_cases h2 : 0 ≤ mode
      · have : ¬ mode ≤ 4095 := fun h => h1 ⟨h2, h⟩
        simp [this]
      · simp [h2]
    by_cases h2 : 0 ≤ mode
    · have t1 : decide (0 ≤ mode) = true := decide_eq_true h2
      have t2 : decide (mode ≤ 4095) = false := decide_eq_false fun h => h1 ⟨h2, h⟩
      clear h1 h2
      go_wp2
      go_ret
      exact ⟨ret_bool E2.out.symm, Grew.alloc _ _⟩
    · have t1 : decide (0 ≤ mode) = false := decide_eq_false h2
      clear h1 h2
      go_wp2
      go_ret
      exact ⟨ret_bool E2.out.symm, Grew.alloc _ _⟩
end Go.Proofs.YtheobpilmphdjaaGreat
