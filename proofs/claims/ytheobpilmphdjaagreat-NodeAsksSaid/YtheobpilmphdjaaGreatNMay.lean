/-
  The contracts of node's May and file.
-/
import Derived.Test.YtheobpilmphdjaaGreatNNode
namespace Go.Proofs.YtheobpilmphdjaaGreat.Nd
open Go.RowKit
open Go.Proofs.YtheobpilmphdjaaGreat.Ex.Rng
open Go.Proofs.YtheobpilmphdjaaGreat.Ex (E ExtsAt)

set_option maxRecDepth 100000 in
set_option maxHeartbeats 8000000 in
theorem may_any (v : Value) (n : Nd) (w : World) (h : NodeAt w v n) (hs : Small n.data) :
    Calls Tryz.prog 12 #[v] w fun e w' => e = .returned (.bool (mayN n)) ∧ Q w w' := by
  have HC : Hid (∀ w', Q w w' → Calls Tryz.prog 37 #[v] w' fun e w'' => e = .returned (.bool (contentB n.size n.data)) ∧ Q w' w'') := fun w' q => content_any v n w' (h.keep q) hs
  have E1 : Hid (n.kind = 1 ∨ n.kind = 6 → mayN n = ((n.size == 0) && ((n.data.length : Int) == 0) && n.target.toList.isEmpty && (n.major == 0) && (n.minor == 0) && mayM n.mt)) := fun k => if_pos k
  have E2 : Hid (n.kind = 2 → mayN n = (contentB n.size n.data && n.target.toList.isEmpty && (n.major == 0) && (n.minor == 0) && mayM n.mt)) := fun k => by unfold mayN; rw [if_neg (by omega), if_pos k]
  have E3 : Hid (n.kind = 3 → mayN n = (tgtB n.target && (n.size == 0) && ((n.data.length : Int) == 0) && (n.major == 0) && (n.minor == 0) && mayM n.mt)) := fun k => by unfold mayN; rw [if_neg (by omega), if_neg (by omega), if_pos k]
  have E4 : Hid (n.kind = 4 ∨ n.kind = 5 → mayN n = (devB n.major && devB n.minor && (n.size == 0) && ((n.data.length : Int) == 0) && n.target.toList.isEmpty && mayM n.mt)) := fun k => by unfold mayN; rw [if_neg (by omega), if_neg (by omega), if_neg (by omega), if_pos k]
  have E5 : Hid (n.kind ≠ 1 → n.kind ≠ 6 → n.kind ≠ 2 → n.kind ≠ 3 → n.kind ≠ 4 → n.kind ≠ 5 → mayN n = false) := fun a b c d e f => by unfold mayN; rw [if_neg (by omega), if_neg (by omega), if_neg (by omega), if_neg (by omega)]
  have HT := Lib.hid (fun w => target_any n.target w)
  have HD1 := Lib.hid (fun w => device_any n.major w)
  have HD2 := Lib.hid (fun w => device_any n.minor w)
  obtain ⟨va, vl, vd, rfl, ha, hl, hd⟩ := h
  have HM : Hid (∀ w', Q w w' → Calls Tryz.prog 40 #[.agg #[.int .i64 n.mt.mode, .int .i64 n.mt.uid, .int .i64 n.mt.gid, .int .i64 n.mt.time, va, vl]] w' fun e w'' => e = .returned (.bool (mayM n.mt)) ∧ Grew w' w'') := fun w' q => metaMay_any _ n.mt w' ⟨va, vl, rfl, ha.keep q, hl.keep q⟩
  obtain ⟨kind, ⟨mode, uid, gid, time, attrs, acl⟩, size, data, target, major, minor⟩ := n
  unfold nodeV at HC ⊢
  simp only at HC E1 E2 E3 E4 E5 HT HD1 HD2 HM hd ⊢
  generalize mayM ⟨mode, uid, gid, time, attrs, acl⟩ = b at *
  generalize mayN ⟨kind, ⟨mode, uid, gid, time, attrs, acl⟩, size, data, target, major, minor⟩ = r at *
  generalize contentB size data = bc at *
  generalize tgtB target = bt at *
  generalize devB major = b1 at *
  generalize devB minor = b2 at *
  obtain ⟨A, c, rfl⟩ := hd.form
  have hdl := hd.len
  unfold maxLen at hdl
  clear hd ha hl hs
  by_cases k1 : kind = 1
  · subst k1
    replace E1 := E1.out (.inl rfl)
    have E := Lib.hid E1
    clear E1 E2 E3 E4 E5 HC HT HD1 HD2
    go_enter Tryz.func12, Tryz.ntmps12
    cases t0 : (size == (0 : Int)) with
    | false =>
      rw [t0] at E
      go_wp2
      go_ret
      exact ⟨ret_bool (by rw [E.out]; simp), (Q.refl w).alloc _⟩
    | true =>
      rw [t0] at E
      cases t1 : ((data.length : Int) == (0 : Int)) with
      | false =>
        rw [t1] at E
        go_wp2
        go_ret
        exact ⟨ret_bool (by rw [E.out]; simp), (Q.refl w).alloc _⟩
      | true =>
        rw [t1] at E
        cases t2 : target.toList.isEmpty with
        | false =>
          rw [t2] at E
          go_wp2
          go_ret
          exact ⟨ret_bool (by rw [E.out]; simp), (Q.refl w).alloc _⟩
        | true =>
          rw [t2] at E
          cases t3 : (major == (0 : Int)) with
          | false =>
            rw [t3] at E
            go_wp2
            go_ret
            exact ⟨ret_bool (by rw [E.out]; simp), (Q.refl w).alloc _⟩
          | true =>
            rw [t3] at E
            cases t4 : (minor == (0 : Int)) with
            | false =>
              rw [t4] at E
              go_wp2
              go_ret
              exact ⟨ret_bool (by rw [E.out]; simp), (Q.refl w).alloc _⟩
            | true =>
              rw [t4] at E
              go_wp2_with fail
              refine (HM.out _ ((Q.refl w).alloc _)).mono ?_
              rintro e w9 ⟨rfl, q9⟩
              have q10 := Q.trans ((Q.refl w).alloc _) q9.q
              clear q9
              cases b <;> (go_wp2; go_ret; exact ⟨ret_bool (by rw [E.out]; simp), q10⟩)
  have n1 : (kind == (1 : Int)) = false := beq_eq_false_iff_ne.2 k1
  by_cases k6 : kind = 6
  · subst k6
    replace E1 := E1.out (.inr rfl)
    have E := Lib.hid E1
    clear E1 E2 E3 E4 E5 HC HT HD1 HD2
    go_enter Tryz.func12, Tryz.ntmps12
    cases t0 : (size == (0 : Int)) with
    | false =>
      rw [t0] at E
      go_wp2
      go_ret
      exact ⟨ret_bool (by rw [E.out]; simp), (Q.refl w).alloc _⟩
    | true =>
      rw [t0] at E
      cases t1 : ((data.length : Int) == (0 : Int)) with
      | false =>
        rw [t1] at E
        go_wp2
        go_ret
        exact ⟨ret_bool (by rw [E.out]; simp), (Q.refl w).alloc _⟩
      | true =>
        rw [t1] at E
        cases t2 : target.toList.isEmpty with
        | false =>
          rw [t2] at E
          go_wp2
          go_ret
          exact ⟨ret_bool (by rw [E.out]; simp), (Q.refl w).alloc _⟩
        | true =>
          rw [t2] at E
          cases t3 : (major == (0 : Int)) with
          | false =>
            rw [t3] at E
            go_wp2
            go_ret
            exact ⟨ret_bool (by rw [E.out]; simp), (Q.refl w).alloc _⟩
          | true =>
            rw [t3] at E
            cases t4 : (minor == (0 : Int)) with
            | false =>
              rw [t4] at E
              go_wp2
              go_ret
              exact ⟨ret_bool (by rw [E.out]; simp), (Q.refl w).alloc _⟩
            | true =>
              rw [t4] at E
              go_wp2_with fail
              refine (HM.out _ ((Q.refl w).alloc _)).mono ?_
              rintro e w9 ⟨rfl, q9⟩
              have q10 := Q.trans ((Q.refl w).alloc _) q9.q
              clear q9
              cases b <;> (go_wp2; go_ret; exact ⟨ret_bool (by rw [E.out]; simp), q10⟩)
  have n6 : (kind == (6 : Int)) = false := beq_eq_false_iff_ne.2 k6
  by_cases k2 : kind = 2
  · subst k2
    replace E2 := E2.out rfl
    have E := Lib.hid E2
    clear E1 E2 E3 E4 E5 HT HD1 HD2
    go_enter Tryz.func12, Tryz.ntmps12
    go_wp2_with fail
    have x1 := BoxN.new w #[.int .i64 2, .int .i64 mode, .int .i64 uid, .int .i64 gid, .int .i64 time, va, vl, .int .i64 size, .slice A data.length c, .string target, .int .i64 major, .int .i64 minor]
    have q1 : Q w (w.alloc (.cells #[.int .i64 2, .int .i64 mode, .int .i64 uid, .int .i64 gid, .int .i64 time, va, vl, .int .i64 size, .slice A data.length c, .string target, .int .i64 major, .int .i64 minor] 28)) := (Q.refl w).alloc _
    generalize w.alloc (.cells #[.int .i64 2, .int .i64 mode, .int .i64 uid, .int .i64 gid, .int .i64 time, va, vl, .int .i64 size, .slice A data.length c, .string target, .int .i64 major, .int .i64 minor] 28) = w1 at *
    refine (HC.out _ q1).mono ?_
    rintro e w2 ⟨rfl, q2⟩
    replace x1 := x1.keep q2
    replace q1 := q1.trans q2
    clear q2 HC
    cases bc with
    | false =>
      go_wp2
      go_ret
      exact ⟨ret_bool (by rw [E.out]; simp), q1⟩
    | true =>
      have f0 := x1.soft 7
      have y0 := x1.set 7 (.int .i64 0)
      simp only [List.setIfInBounds_toArray, List.set_cons_succ, List.set_cons_zero] at y0
      have qs0 := Q.setCell q1 (Nat.le_refl _) 7 (.int .i64 0)
      have f1 := y0.soft 8
      have y1 := y0.set 8 (.slice none 0 0)
      simp only [List.setIfInBounds_toArray, List.set_cons_succ, List.set_cons_zero] at y1
      have qs1 := Q.setCell qs0 (Nat.le_refl _) 8 (.slice none 0 0)
      obtain ⟨k0, k1, k2, k3, k4, k5, k6, k7, k8, k9, k10, k11⟩ := x1.cells
      obtain ⟨m0, m1, m2, m3, m4, m5, m6, m7, m8, m9, m10, m11⟩ := y1.cells
      clear x1 y0 y1
      cases t0 : target.toList.isEmpty with
      | false =>
        rw [t0] at E
        go_wp2
        go_ret
        exact ⟨ret_bool (by rw [E.out]; simp), qs1⟩
      | true =>
        rw [t0] at E
        cases t1 : (major == (0 : Int)) with
        | false =>
          rw [t1] at E
          go_wp2
          go_ret
          exact ⟨ret_bool (by rw [E.out]; simp), qs1⟩
        | true =>
          rw [t1] at E
          cases t2 : (minor == (0 : Int)) with
          | false =>
            rw [t2] at E
            go_wp2
            go_ret
            exact ⟨ret_bool (by rw [E.out]; simp), qs1⟩
          | true =>
            rw [t2] at E
            go_wp2_with fail
            refine (HM.out _ (qs1)).mono ?_
            rintro e w9 ⟨rfl, q9⟩
            have q10 := Q.trans (qs1) q9.q
            clear q9
            cases b <;> (go_wp2; go_ret; exact ⟨ret_bool (by rw [E.out]; simp), q10⟩)
  have n2 : (kind == (2 : Int)) = false := beq_eq_false_iff_ne.2 k2
  by_cases k3 : kind = 3
  · subst k3
    replace E3 := E3.out rfl
    have E := Lib.hid E3
    clear E1 E2 E3 E4 E5 HC HD1 HD2
    go_enter Tryz.func12, Tryz.ntmps12
    go_wp2_with fail
    have x1 := BoxN.new w #[.int .i64 3, .int .i64 mode, .int .i64 uid, .int .i64 gid, .int .i64 time, va, vl, .int .i64 size, .slice A data.length c, .string target, .int .i64 major, .int .i64 minor]
    have q1 : Q w (w.alloc (.cells #[.int .i64 3, .int .i64 mode, .int .i64 uid, .int .i64 gid, .int .i64 time, va, vl, .int .i64 size, .slice A data.length c, .string target, .int .i64 major, .int .i64 minor] 28)) := (Q.refl w).alloc _
    generalize w.alloc (.cells #[.int .i64 3, .int .i64 mode, .int .i64 uid, .int .i64 gid, .int .i64 time, va, vl, .int .i64 size, .slice A data.length c, .string target, .int .i64 major, .int .i64 minor] 28) = w1 at *
    refine (HT.out _).mono ?_
    rintro e w2 ⟨rfl, rfl⟩
    clear HT
    cases bt with
    | false =>
      go_wp2
      go_ret
      exact ⟨ret_bool (by rw [E.out]; simp), q1⟩
    | true =>
      have f0 := x1.soft 9
      have y0 := x1.set 9 (.string ⟨#[]⟩)
      simp only [List.setIfInBounds_toArray, List.set_cons_succ, List.set_cons_zero] at y0
      have qs0 := Q.setCell q1 (Nat.le_refl _) 9 (.string ⟨#[]⟩)
      obtain ⟨k0, k1, k2, k3, k4, k5, k6, k7, k8, k9, k10, k11⟩ := x1.cells
      obtain ⟨m0, m1, m2, m3, m4, m5, m6, m7, m8, m9, m10, m11⟩ := y0.cells
      clear x1 y0
      cases t0 : (size == (0 : Int)) with
      | false =>
        rw [t0] at E
        go_wp2
        go_ret
        exact ⟨ret_bool (by rw [E.out]; simp), qs0⟩
      | true =>
        rw [t0] at E
        cases t1 : ((data.length : Int) == (0 : Int)) with
        | false =>
          rw [t1] at E
          go_wp2
          go_ret
          exact ⟨ret_bool (by rw [E.out]; simp), qs0⟩
        | true =>
          rw [t1] at E
          cases t2 : (major == (0 : Int)) with
          | false =>
            rw [t2] at E
            go_wp2
            go_ret
            exact ⟨ret_bool (by rw [E.out]; simp), qs0⟩
          | true =>
            rw [t2] at E
            cases t3 : (minor == (0 : Int)) with
            | false =>
              rw [t3] at E
              go_wp2
              go_ret
              exact ⟨ret_bool (by rw [E.out]; simp), qs0⟩
            | true =>
              rw [t3] at E
              go_wp2_with fail
              refine (HM.out _ (qs0)).mono ?_
              rintro e w9 ⟨rfl, q9⟩
              have q10 := Q.trans (qs0) q9.q
              clear q9
              cases b <;> (go_wp2; go_ret; exact ⟨ret_bool (by rw [E.out]; simp), q10⟩)
  have n3 : (kind == (3 : Int)) = false := beq_eq_false_iff_ne.2 k3
  by_cases k4 : kind = 4
  · subst k4
    replace E4 := E4.out (.inl rfl)
    have E := Lib.hid E4
    clear E1 E2 E3 E4 E5 HC HT
    go_enter Tryz.func12, Tryz.ntmps12
    go_wp2_with fail
    have x1 := BoxN.new w #[.int .i64 4, .int .i64 mode, .int .i64 uid, .int .i64 gid, .int .i64 time, va, vl, .int .i64 size, .slice A data.length c, .string target, .int .i64 major, .int .i64 minor]
    have q1 : Q w (w.alloc (.cells #[.int .i64 4, .int .i64 mode, .int .i64 uid, .int .i64 gid, .int .i64 time, va, vl, .int .i64 size, .slice A data.length c, .string target, .int .i64 major, .int .i64 minor] 28)) := (Q.refl w).alloc _
    generalize w.alloc (.cells #[.int .i64 4, .int .i64 mode, .int .i64 uid, .int .i64 gid, .int .i64 time, va, vl, .int .i64 size, .slice A data.length c, .string target, .int .i64 major, .int .i64 minor] 28) = w1 at *
    refine (HD1.out _).mono ?_
    rintro e w2 ⟨rfl, rfl⟩
    obtain ⟨j0, j1, j2, j3, j4, j5, j6, j7, j8, j9, j10, j11⟩ := x1.cells
    cases b1 with
    | false =>
      go_wp2
      go_ret
      exact ⟨ret_bool (by rw [E.out]; simp), q1⟩
    | true =>
      go_wp2_with fail
      refine (HD2.out _).mono ?_
      rintro e w3 ⟨rfl, rfl⟩
      clear j0 j1 j2 j3 j4 j5 j6 j7 j8 j9 j10 j11
      cases b2 with
      | false =>
        go_wp2
        go_ret
        exact ⟨ret_bool (by rw [E.out]; simp), q1⟩
      | true =>
        have f0 := x1.soft 10
        have y0 := x1.set 10 (.int .i64 0)
        simp only [List.setIfInBounds_toArray, List.set_cons_succ, List.set_cons_zero] at y0
        have qs0 := Q.setCell q1 (Nat.le_refl _) 10 (.int .i64 0)
        have f1 := y0.soft 11
        have y1 := y0.set 11 (.int .i64 0)
        simp only [List.setIfInBounds_toArray, List.set_cons_succ, List.set_cons_zero] at y1
        have qs1 := Q.setCell qs0 (Nat.le_refl _) 11 (.int .i64 0)
        obtain ⟨k0, k1, k2, k3, k4, k5, k6, k7, k8, k9, k10, k11⟩ := x1.cells
        obtain ⟨m0, m1, m2, m3, m4, m5, m6, m7, m8, m9, m10, m11⟩ := y1.cells
        clear x1 y0 y1
        cases t0 : (size == (0 : Int)) with
        | false =>
          rw [t0] at E
          go_wp2
          go_ret
          exact ⟨ret_bool (by rw [E.out]; simp), qs1⟩
        | true =>
          rw [t0] at E
          cases t1 : ((data.length : Int) == (0 : Int)) with
          | false =>
            rw [t1] at E
            go_wp2
            go_ret
            exact ⟨ret_bool (by rw [E.out]; simp), qs1⟩
          | true =>
            rw [t1] at E
            cases t2 : target.toList.isEmpty with
            | false =>
              rw [t2] at E
              go_wp2
              go_ret
              exact ⟨ret_bool (by rw [E.out]; simp), qs1⟩
            | true =>
              rw [t2] at E
              go_wp2_with fail
              refine (HM.out _ (qs1)).mono ?_
              rintro e w9 ⟨rfl, q9⟩
              have q10 := Q.trans (qs1) q9.q
              clear q9
              cases b <;> (go_wp2; go_ret; exact ⟨ret_bool (by rw [E.out]; simp), q10⟩)
  have n4 : (kind == (4 : Int)) = false := beq_eq_false_iff_ne.2 k4
  by_cases k5 : kind = 5
  · subst k5
    replace E4 := E4.out (.inr rfl)
    have E := Lib.hid E4
    clear E1 E2 E3 E4 E5 HC HT
    go_enter Tryz.func12, Tryz.ntmps12
    go_wp2_with fail
    have x1 := BoxN.new w #[.int .i64 5, .int .i64 mode, .int .i64 uid, .int .i64 gid, .int .i64 time, va, vl, .int .i64 size, .slice A data.length c, .string target, .int .i64 major, .int .i64 minor]
    have q1 : Q w (w.alloc (.cells #[.int .i64 5, .int .i64 mode, .int .i64 uid, .int .i64 gid, .int .i64 time, va, vl, .int .i64 size, .slice A data.length c, .string target, .int .i64 major, .int .i64 minor] 28)) := (Q.refl w).alloc _
    generalize w.alloc (.cells #[.int .i64 5, .int .i64 mode, .int .i64 uid, .int .i64 gid, .int .i64 time, va, vl, .int .i64 size, .slice A data.length c, .string target, .int .i64 major, .int .i64 minor] 28) = w1 at *
    refine (HD1.out _).mono ?_
    rintro e w2 ⟨rfl, rfl⟩
    obtain ⟨j0, j1, j2, j3, j4, j5, j6, j7, j8, j9, j10, j11⟩ := x1.cells
    cases b1 with
    | false =>
      go_wp2
      go_ret
      exact ⟨ret_bool (by rw [E.out]; simp), q1⟩
    | true =>
      go_wp2_with fail
      refine (HD2.out _).mono ?_
      rintro e w3 ⟨rfl, rfl⟩
      clear j0 j1 j2 j3 j4 j5 j6 j7 j8 j9 j10 j11
      cases b2 with
      | false =>
        go_wp2
        go_ret
        exact ⟨ret_bool (by rw [E.out]; simp), q1⟩
      | true =>
        have f0 := x1.soft 10
        have y0 := x1.set 10 (.int .i64 0)
        simp only [List.setIfInBounds_toArray, List.set_cons_succ, List.set_cons_zero] at y0
        have qs0 := Q.setCell q1 (Nat.le_refl _) 10 (.int .i64 0)
        have f1 := y0.soft 11
        have y1 := y0.set 11 (.int .i64 0)
        simp only [List.setIfInBounds_toArray, List.set_cons_succ, List.set_cons_zero] at y1
        have qs1 := Q.setCell qs0 (Nat.le_refl _) 11 (.int .i64 0)
        obtain ⟨k0, k1, k2, k3, k4, k5, k6, k7, k8, k9, k10, k11⟩ := x1.cells
        obtain ⟨m0, m1, m2, m3, m4, m5, m6, m7, m8, m9, m10, m11⟩ := y1.cells
        clear x1 y0 y1
        cases t0 : (size == (0 : Int)) with
        | false =>
          rw [t0] at E
          go_wp2
          go_ret
          exact ⟨ret_bool (by rw [E.out]; simp), qs1⟩
        | true =>
          rw [t0] at E
          cases t1 : ((data.length : Int) == (0 : Int)) with
          | false =>
            rw [t1] at E
            go_wp2
            go_ret
            exact ⟨ret_bool (by rw [E.out]; simp), qs1⟩
          | true =>
            rw [t1] at E
            cases t2 : target.toList.isEmpty with
            | false =>
              rw [t2] at E
              go_wp2
              go_ret
              exact ⟨ret_bool (by rw [E.out]; simp), qs1⟩
            | true =>
              rw [t2] at E
              go_wp2_with fail
              refine (HM.out _ (qs1)).mono ?_
              rintro e w9 ⟨rfl, q9⟩
              have q10 := Q.trans (qs1) q9.q
              clear q9
              cases b <;> (go_wp2; go_ret; exact ⟨ret_bool (by rw [E.out]; simp), q10⟩)
  have n5 : (kind == (5 : Int)) = false := beq_eq_false_iff_ne.2 k5
  have E := Lib.hid (E5.out k1 k6 k2 k3 k4 k5)
  clear E1 E2 E3 E4 E5 HC HT HD1 HD2 k1 k2 k3 k4 k5 k6
  go_enter Tryz.func12, Tryz.ntmps12
  go_wp2
  go_ret
  exact ⟨ret_bool E.out.symm, (Q.refl w).alloc _⟩

set_option maxRecDepth 100000 in
set_option maxHeartbeats 4000000 in
theorem file_any (v : Value) (n : Nd) (w : World) (h : NodeAt w v n) (hs : Small n.data) :
    Calls Tryz.prog 25 #[v] w fun e w' => e = .returned (.bool (fileB n)) ∧ Q w w' := by
  have HM : Hid (∀ w', Q w w' → Calls Tryz.prog 12 #[v] w' fun e w'' => e = .returned (.bool (mayN n)) ∧ Q w' w'') := fun w' q => may_any v n w' (h.keep q) hs
  have E0 : Hid (fileB n = ((n.kind == 2) && mayN n)) := rfl
  obtain ⟨va, vl, vd, rfl, ha, hl, hd⟩ := h
  obtain ⟨kind, ⟨mode, uid, gid, time, attrs, acl⟩, size, data, target, major, minor⟩ := n
  unfold nodeV at HM ⊢
  simp only at HM E0 ⊢
  generalize mayN ⟨kind, ⟨mode, uid, gid, time, attrs, acl⟩, size, data, target, major, minor⟩ = b at *
  generalize fileB ⟨kind, ⟨mode, uid, gid, time, attrs, acl⟩, size, data, target, major, minor⟩ = r at *
  clear ha hl hd hs
  go_enter Tryz.func25, Tryz.ntmps25
  cases t0 : (kind == (2 : Int)) with
  | false =>
    rw [t0] at E0
    go_wp2
    go_ret
    exact ⟨ret_bool (by rw [E0.out]; simp), (Q.refl w).alloc _⟩
  | true =>
    rw [t0] at E0
    go_wp2_with fail
    refine (HM.out _ ((Q.refl w).alloc _)).mono ?_
    rintro e w9 ⟨rfl, q9⟩
    have q10 := Q.trans ((Q.refl w).alloc _) q9
    clear q9
    cases b <;> (go_wp2; go_ret; exact ⟨ret_bool (by rw [E0.out]; simp), q10⟩)
end Go.Proofs.YtheobpilmphdjaaGreat.Nd
