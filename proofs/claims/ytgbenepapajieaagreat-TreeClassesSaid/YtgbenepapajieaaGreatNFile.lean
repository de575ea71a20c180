/-
  The contracts of node's May and file. The contract of node.own: an equal node in memory of its own. Valid files as plain mathematics; what Write, Cut and Read answer.
-/
import Derived.Test.YtgbenepapajieaaGreatNNode
namespace Go.Proofs.YtgbenepapajieaaGreat.Nd
open Go.RowKit
open Go.Proofs.YtgbenepapajieaaGreat.Ex.Rng
open Go.Proofs.YtgbenepapajieaaGreat.Ex (E ExtsAt)

set_option maxRecDepth 100000 in
set_option maxHeartbeats 8000000 in
theorem may_any (v : Value) (n : Nd) (w : World) (h : NodeAt w v n) (hs : Small n.data) :
    Calls Tryz.prog 75 #[v] w fun e w' => e = .returned (.bool (mayN n)) ∧ Q w w' := by
  have HC : Hid (∀ w', Q w w' → Calls Tryz.prog 92 #[v] w' fun e w'' => e = .returned (.bool (contentB n.size n.data)) ∧ Q w' w'') := fun w' q => content_any v n w' (h.keep q) hs
  have E1 : Hid (n.kind = 1 ∨ n.kind = 6 → mayN n = ((n.size == 0) && ((n.data.length : Int) == 0) && n.target.toList.isEmpty && (n.major == 0) && (n.minor == 0) && mayM n.mt)) := fun k => if_pos k
  have E2 : Hid (n.kind = 2 → mayN n = (contentB n.size n.data && n.target.toList.isEmpty && (n.major == 0) && (n.minor == 0) && mayM n.mt)) := fun k => by unfold mayN; rw [if_neg (by omega), if_pos k]
  have E3 : Hid (n.kind = 3 → mayN n = (tgtB n.target && (n.size == 0) && ((n.data.length : Int) == 0) && (n.major == 0) && (n.minor == 0) && mayM n.mt)) := fun k => by unfold mayN; rw [if_neg (by omega), if_neg (by omega), if_pos k]
  have E4 : Hid (n.kind = 4 ∨ n.kind = 5 → mayN n = (devB n.major && devB n.minor && (n.size == 0) && ((n.data.length : Int) == 0) && n.target.toList.isEmpty && mayM n.mt)) := fun k => by unfold mayN; rw [if_neg (by omega), if_neg (by omega), if_neg (by omega), if_pos k]
  have E5 : Hid (n.kind ≠ 1 → n.kind ≠ 6 → n.kind ≠ 2 → n.kind ≠ 3 → n.kind ≠ 4 → n.kind ≠ 5 → mayN n = false) := fun a b c d e f => by unfold mayN; rw [if_neg (by omega), if_neg (by omega), if_neg (by omega), if_neg (by omega)]
  have HT := Lib.hid (fun w => target_any n.target w)
  have HD1 := Lib.hid (fun w => device_any n.major w)
  have HD2 := Lib.hid (fun w => device_any n.minor w)
  obtain ⟨va, vl, vd, rfl, ha, hl, hd⟩ := h
  have HM : Hid (∀ w', Q w w' → Calls Tryz.prog 95 #[.agg #[.int .i64 n.mt.mode, .int .i64 n.mt.uid, .int .i64 n.mt.gid, .int .i64 n.mt.time, va, vl]] w' fun e w'' => e = .returned (.bool (mayM n.mt)) ∧ Grew w' w'') := fun w' q => metaMay_any _ n.mt w' ⟨va, vl, rfl, ha.keep q, hl.keep q⟩
  obtain ⟨kind, ⟨mode, uid, gid, time, attrs, acl⟩, size, data, target, major, minor⟩ := n
  unfold nodeV at HC ⊢
  simp only at HC E1 E2 E3 E4 E5 HT HD1 HD2 HM hd ⊢
  generalize mayM ⟨mode, uid, gid, time, attrs, acl⟩ = b at *
  generalize mayN ⟨kind, ⟨mode, uid, gid, time, attrs, acl⟩, size, data, target, major, minor⟩ = r at *
  generalize contentB size data = bc at *
  generalize tgtB target = bt at *
  generalize devB major = b1 at *
  generalize devB minor = b2 at *
  obtain ⟨A, c, rfl⟩ := hd.form
  have hdl := hd.len
  unfold maxLen at hdl
  clear hd ha hl hs
  by_cases k1 : kind = 1
  · subst k1
    replace E1 := E1.out (.inl rfl)
    have E := Lib.hid E1
    clear E1 E2 E3 E4 E5 HC HT HD1 HD2
    go_enter Tryz.func75, Tryz.ntmps75
    cases t0 : (size == (0 : Int)) with
    | false =>
      rw [t0] at E
      go_wp2
      go_ret
      exact ⟨ret_bool (by rw [E.out]; simp), (Q.refl w).alloc _⟩
    | true =>
      rw [t0] at E
      cases t1 : ((data.length : Int) == (0 : Int)) with
      | false =>
        rw [t1] at E
        go_wp2
        go_ret
        exact ⟨ret_bool (by rw [E.out]; simp), (Q.refl w).alloc _⟩
      | true =>
        rw [t1] at E
        cases t2 : target.toList.isEmpty with
        | false =>
          rw [t2] at E
          go_wp2
          go_ret
          exact ⟨ret_bool (by rw [E.out]; simp), (Q.refl w).alloc _⟩
        | true =>
          rw [t2] at E
          cases t3 : (major == (0 : Int)) with
          | false =>
            rw [t3] at E
            go_wp2
            go_ret
            exact ⟨ret_bool (by rw [E.out]; simp), (Q.refl w).alloc _⟩
          | true =>
            rw [t3] at E
            cases t4 : (minor == (0 : Int)) with
            | false =>
              rw [t4] at E
              go_wp2
              go_ret
              exact ⟨ret_bool (by rw [E.out]; simp), (Q.refl w).alloc _⟩
            | true =>
              rw [t4] at E
              go_wp2_with fail
              refine (HM.out _ ((Q.refl w).alloc _)).mono ?_
              rintro e w9 ⟨rfl, q9⟩
              have q10 := Q.trans ((Q.refl w).alloc _) q9.q
              clear q9
              cases b <;> (go_wp2; go_ret; exact ⟨ret_bool (by rw [E.out]; simp), q10⟩)
  have n1 : (kind == (1 : Int)) = false := beq_eq_false_iff_ne.2 k1
  by_cases k6 : kind = 6
  · subst k6
    replace E1 := E1.out (.inr rfl)
    have E := Lib.hid E1
    clear E1 E2 E3 E4 E5 HC HT HD1 HD2
    go_enter Tryz.func75, Tryz.ntmps75
    cases t0 : (size == (0 : Int)) with
    | false =>
      rw [t0] at E
      go_wp2
      go_ret
      exact ⟨ret_bool (by rw [E.out]; simp), (Q.refl w).alloc _⟩
    | true =>
      rw [t0] at E
      cases t1 : ((data.length : Int) == (0 : Int)) with
      | false =>
        rw [t1] at E
        go_wp2
        go_ret
        exact ⟨ret_bool (by rw [E.out]; simp), (Q.refl w).alloc _⟩
      | true =>
        rw [t1] at E
        cases t2 : target.toList.isEmpty with
        | false =>
          rw [t2] at E
          go_wp2
          go_ret
          exact ⟨ret_bool (by rw [E.out]; simp), (Q.refl w).alloc _⟩
        | true =>
          rw [t2] at E
          cases t3 : (major == (0 : Int)) with
          | false =>
            rw [t3] at E
            go_wp2
            go_ret
            exact ⟨ret_bool (by rw [E.out]; simp), (Q.refl w).alloc _⟩
          | true =>
            rw [t3] at E
            cases t4 : (minor == (0 : Int)) with
            | false =>
              rw [t4] at E
              go_wp2
              go_ret
              exact ⟨ret_bool (by rw [E.out]; simp), (Q.refl w).alloc _⟩
            | true =>
              rw [t4] at E
              go_wp2_with fail
              refine (HM.out _ ((Q.refl w).alloc _)).mono ?_
              rintro e w9 ⟨rfl, q9⟩
              have q10 := Q.trans ((Q.refl w).alloc _) q9.q
              clear q9
              cases b <;> (go_wp2; go_ret; exact ⟨ret_bool (by rw [E.out]; simp), q10⟩)
  have n6 : (kind == (6 : Int)) = false := beq_eq_false_iff_ne.2 k6
  by_cases k2 : kind = 2
  · subst k2
    replace E2 := E2.out rfl
    have E := Lib.hid E2
    clear E1 E2 E3 E4 E5 HT HD1 HD2
    go_enter Tryz.func75, Tryz.ntmps75
    go_wp2_with fail
    have x1 := BoxN.new w #[.int .i64 2, .int .i64 mode, .int .i64 uid, .int .i64 gid, .int .i64 time, va, vl, .int .i64 size, .slice A data.length c, .string target, .int .i64 major, .int .i64 minor]
    have q1 : Q w (w.alloc (.cells #[.int .i64 2, .int .i64 mode, .int .i64 uid, .int .i64 gid, .int .i64 time, va, vl, .int .i64 size, .slice A data.length c, .string target, .int .i64 major, .int .i64 minor] 47)) := (Q.refl w).alloc _
    generalize w.alloc (.cells #[.int .i64 2, .int .i64 mode, .int .i64 uid, .int .i64 gid, .int .i64 time, va, vl, .int .i64 size, .slice A data.length c, .string target, .int .i64 major, .int .i64 minor] 47) = w1 at *
    refine (HC.out _ q1).mono ?_
    rintro e w2 ⟨rfl, q2⟩
    replace x1 := x1.keep q2
    replace q1 := q1.trans q2
    clear q2 HC
    cases bc with
    | false =>
      go_wp2
      go_ret
      exact ⟨ret_bool (by rw [E.out]; simp), q1⟩
    | true =>
      have f0 := x1.soft 7
      have y0 := x1.set 7 (.int .i64 0)
      simp only [List.setIfInBounds_toArray, List.set_cons_succ, List.set_cons_zero] at y0
      have qs0 := Q.setCell q1 (Nat.le_refl _) 7 (.int .i64 0)
      have f1 := y0.soft 8
      have y1 := y0.set 8 (.slice none 0 0)
      simp only [List.setIfInBounds_toArray, List.set_cons_succ, List.set_cons_zero] at y1
      have qs1 := Q.setCell qs0 (Nat.le_refl _) 8 (.slice none 0 0)
      obtain ⟨k0, k1, k2, k3, k4, k5, k6, k7, k8, k9, k10, k11⟩ := x1.cells
      obtain ⟨m0, m1, m2, m3, m4, m5, m6, m7, m8, m9, m10, m11⟩ := y1.cells
      clear x1 y0 y1
      cases t0 : target.toList.isEmpty with
      | false =>
        rw [t0] at E
        go_wp2
        go_ret
        exact ⟨ret_bool (by rw [E.out]; simp), qs1⟩
      | true =>
        rw [t0] at E
        cases t1 : (major == (0 : Int)) with
        | false =>
          rw [t1] at E
          go_wp2
          go_ret
          exact ⟨ret_bool (by rw [E.out]; simp), qs1⟩
        | true =>
          rw [t1] at E
          cases t2 : (minor == (0 : Int)) with
          | false =>
            rw [t2] at E
            go_wp2
            go_ret
            exact ⟨ret_bool (by rw [E.out]; simp), qs1⟩
          | true =>
            rw [t2] at E
            go_wp2_with fail
            refine (HM.out _ (qs1)).mono ?_
            rintro e w9 ⟨rfl, q9⟩
            have q10 := Q.trans (qs1) q9.q
            clear q9
            cases b <;> (go_wp2; go_ret; exact ⟨ret_bool (by rw [E.out]; simp), q10⟩)
  have n2 : (kind == (2 : Int)) = false := beq_eq_false_iff_ne.2 k2
  by_cases k3 : kind = 3
  · subst k3
    replace E3 := E3.out rfl
    have E := Lib.hid E3
    clear E1 E2 E3 E4 E5 HC HD1 HD2
    go_enter Tryz.func75, Tryz.ntmps75
    go_wp2_with fail
    have x1 := BoxN.new w #[.int .i64 3, .int .i64 mode, .int .i64 uid, .int .i64 gid, .int .i64 time, va, vl, .int .i64 size, .slice A data.length c, .string target, .int .i64 major, .int .i64 minor]
    have q1 : Q w (w.alloc (.cells #[.int .i64 3, .int .i64 mode, .int .i64 uid, .int .i64 gid, .int .i64 time, va, vl, .int .i64 size, .slice A data.length c, .string target, .int .i64 major, .int .i64 minor] 47)) := (Q.refl w).alloc _
    generalize w.alloc (.cells #[.int .i64 3, .int .i64 mode, .int .i64 uid, .int .i64 gid, .int .i64 time, va, vl, .int .i64 size, .slice A data.length c, .string target, .int .i64 major, .int .i64 minor] 47) = w1 at *
    refine (HT.out _).mono ?_
    rintro e w2 ⟨rfl, rfl⟩
    clear HT
    cases bt with
    | false =>
      go_wp2
      go_ret
      exact ⟨ret_bool (by rw [E.out]; simp), q1⟩
    | true =>
      have f0 := x1.soft 9
      have y0 := x1.set 9 (.string ⟨#[]⟩)
      simp only [List.setIfInBounds_toArray, List.set_cons_succ, List.set_cons_zero] at y0
      have qs0 := Q.setCell q1 (Nat.le_refl _) 9 (.string ⟨#[]⟩)
      obtain ⟨k0, k1, k2, k3, k4, k5, k6, k7, k8, k9, k10, k11⟩ := x1.cells
      obtain ⟨m0, m1, m2, m3, m4, m5, m6, m7, m8, m9, m10, m11⟩ := y0.cells
      clear x1 y0
      cases t0 : (size == (0 : Int)) with
      | false =>
        rw [t0] at E
        go_wp2
        go_ret
        exact ⟨ret_bool (by rw [E.out]; simp), qs0⟩
      | true =>
        rw [t0] at E
        cases t1 : ((data.length : Int) == (0 : Int)) with
        | false =>
          rw [t1] at E
          go_wp2
          go_ret
          exact ⟨ret_bool (by rw [E.out]; simp), qs0⟩
        | true =>
          rw [t1] at E
          cases t2 : (major == (0 : Int)) with
          | false =>
            rw [t2] at E
            go_wp2
            go_ret
            exact ⟨ret_bool (by rw [E.out]; simp), qs0⟩
          | true =>
            rw [t2] at E
            cases t3 : (minor == (0 : Int)) with
            | false =>
              rw [t3] at E
              go_wp2
              go_ret
              exact ⟨ret_bool (by rw [E.out]; simp), qs0⟩
            | true =>
              rw [t3] at E
              go_wp2_with fail
              refine (HM.out _ (qs0)).mono ?_
              rintro e w9 ⟨rfl, q9⟩
              have q10 := Q.trans (qs0) q9.q
              clear q9
              cases b <;> (go_wp2; go_ret; exact ⟨ret_bool (by rw [E.out]; simp), q10⟩)
  have n3 : (kind == (3 : Int)) = false := beq_eq_false_iff_ne.2 k3
  by_cases k4 : kind = 4
  · subst k4
    replace E4 := E4.out (.inl rfl)
    have E := Lib.hid E4
    clear E1 E2 E3 E4 E5 HC HT
    go_enter Tryz.func75, Tryz.ntmps75
    go_wp2_with fail
    have x1 := BoxN.new w #[.int .i64 4, .int .i64 mode, .int .i64 uid, .int .i64 gid, .int .i64 time, va, vl, .int .i64 size, .slice A data.length c, .string target, .int .i64 major, .int .i64 minor]
    have q1 : Q w (w.alloc (.cells #[.int .i64 4, .int .i64 mode, .int .i64 uid, .int .i64 gid, .int .i64 time, va, vl, .int .i64 size, .slice A data.length c, .string target, .int .i64 major, .int .i64 minor] 47)) := (Q.refl w).alloc _
    generalize w.alloc (.cells #[.int .i64 4, .int .i64 mode, .int .i64 uid, .int .i64 gid, .int .i64 time, va, vl, .int .i64 size, .slice A data.length c, .string target, .int .i64 major, .int .i64 minor] 47) = w1 at *
    refine (HD1.out _).mono ?_
    rintro e w2 ⟨rfl, rfl⟩
    obtain ⟨j0, j1, j2, j3, j4, j5, j6, j7, j8, j9, j10, j11⟩ := x1.cells
    cases b1 with
    | false =>
      go_wp2
      go_ret
      exact ⟨ret_bool (by rw [E.out]; simp), q1⟩
    | true =>
      go_wp2_with fail
      refine (HD2.out _).mono ?_
      rintro e w3 ⟨rfl, rfl⟩
      clear j0 j1 j2 j3 j4 j5 j6 j7 j8 j9 j10 j11
      cases b2 with
      | false =>
        go_wp2
        go_ret
        exact ⟨ret_bool (by rw [E.out]; simp), q1⟩
      | true =>
        have f0 := x1.soft 10
        have y0 := x1.set 10 (.int .i64 0)
        simp only [List.setIfInBounds_toArray, List.set_cons_succ, List.set_cons_zero] at y0
        have qs0 := Q.setCell q1 (Nat.le_refl _) 10 (.int .i64 0)
        have f1 := y0.soft 11
        have y1 := y0.set 11 (.int .i64 0)
        simp only [List.setIfInBounds_toArray, List.set_cons_succ, List.set_cons_zero] at y1
        have qs1 := Q.setCell qs0 (Nat.le_refl _) 11 (.int .i64 0)
        obtain ⟨k0, k1, k2, k3, k4, k5, k6, k7, k8, k9, k10, k11⟩ := x1.cells
        obtain ⟨m0, m1, m2, m3, m4, m5, m6, m7, m8, m9, m10, m11⟩ := y1.cells
        clear x1 y0 y1
        cases t0 : (size == (0 : Int)) with
        | false =>
          rw [t0] at E
          go_wp2
          go_ret
          exact ⟨ret_bool (by rw [E.out]; simp), qs1⟩
        | true =>
          rw [t0] at E
          cases t1 : ((data.length : Int) == (0 : Int)) with
          | false =>
            rw [t1] at E
            go_wp2
            go_ret
            exact ⟨ret_bool (by rw [E.out]; simp), qs1⟩
          | true =>
            rw [t1] at E
            cases t2 : target.toList.isEmpty with
            | false =>
              rw [t2] at E
              go_wp2
              go_ret
              exact ⟨ret_bool (by rw [E.out]; simp), qs1⟩
            | true =>
              rw [t2] at E
              go_wp2_with fail
              refine (HM.out _ (qs1)).mono ?_
              rintro e w9 ⟨rfl, q9⟩
              have q10 := Q.trans (qs1) q9.q
              clear q9
              cases b <;> (go_wp2; go_ret; exact ⟨ret_bool (by rw [E.out]; simp), q10⟩)
  have n4 : (kind == (4 : Int)) = false := beq_eq_false_iff_ne.2 k4
  by_cases k5 : kind = 5
  · subst k5
    replace E4 := E4.out (.inr rfl)
    have E := Lib.hid E4
    clear E1 E2 E3 E4 E5 HC HT
    go_enter Tryz.func75, Tryz.ntmps75
    go_wp2_with fail
    have x1 := BoxN.new w #[.int .i64 5, .int .i64 mode, .int .i64 uid, .int .i64 gid, .int .i64 time, va, vl, .int .i64 size, .slice A data.length c, .string target, .int .i64 major, .int .i64 minor]
    have q1 : Q w (w.alloc (.cells #[.int .i64 5, .int .i64 mode, .int .i64 uid, .int .i64 gid, .int .i64 time, va, vl, .int .i64 size, .slice A data.length c, .string target, .int .i64 major, .int .i64 minor] 47)) := (Q.refl w).alloc _
    generalize w.alloc (.cells #[.int .i64 5, .int .i64 mode, .int .i64 uid, .int .i64 gid, .int .i64 time, va, vl, .int .i64 size, .slice A data.length c, .string target, .int .i64 major, .int .i64 minor] 47) = w1 at *
    refine (HD1.out _).mono ?_
    rintro e w2 ⟨rfl, rfl⟩
    obtain ⟨j0, j1, j2, j3, j4, j5, j6, j7, j8, j9, j10, j11⟩ := x1.cells
    cases b1 with
    | false =>
      go_wp2
      go_ret
      exact ⟨ret_bool (by rw [E.out]; simp), q1⟩
    | true =>
      go_wp2_with fail
      refine (HD2.out _).mono ?_
      rintro e w3 ⟨rfl, rfl⟩
      clear j0 j1 j2 j3 j4 j5 j6 j7 j8 j9 j10 j11
      cases b2 with
      | false =>
        go_wp2
        go_ret
        exact ⟨ret_bool (by rw [E.out]; simp), q1⟩
      | true =>
        have f0 := x1.soft 10
        have y0 := x1.set 10 (.int .i64 0)
        simp only [List.setIfInBounds_toArray, List.set_cons_succ, List.set_cons_zero] at y0
        have qs0 := Q.setCell q1 (Nat.le_refl _) 10 (.int .i64 0)
        have f1 := y0.soft 11
        have y1 := y0.set 11 (.int .i64 0)
        simp only [List.setIfInBounds_toArray, List.set_cons_succ, List.set_cons_zero] at y1
        have qs1 := Q.setCell qs0 (Nat.le_refl _) 11 (.int .i64 0)
        obtain ⟨k0, k1, k2, k3, k4, k5, k6, k7, k8, k9, k10, k11⟩ := x1.cells
        obtain ⟨m0, m1, m2, m3, m4, m5, m6, m7, m8, m9, m10, m11⟩ := y1.cells
        clear x1 y0 y1
        cases t0 : (size == (0 : Int)) with
        | false =>
          rw [t0] at E
          go_wp2
          go_ret
          exact ⟨ret_bool (by rw [E.out]; simp), qs1⟩
        | true =>
          rw [t0] at E
          cases t1 : ((data.length : Int) == (0 : Int)) with
          | false =>
            rw [t1] at E
            go_wp2
            go_ret
            exact ⟨ret_bool (by rw [E.out]; simp), qs1⟩
          | true =>
            rw [t1] at E
            cases t2 : target.toList.isEmpty with
            | false =>
              rw [t2] at E
              go_wp2
              go_ret
              exact ⟨ret_bool (by rw [E.out]; simp), qs1⟩
            | true =>
              rw [t2] at E
              go_wp2_with fail
              refine (HM.out _ (qs1)).mono ?_
              rintro e w9 ⟨rfl, q9⟩
              have q10 := Q.trans (qs1) q9.q
              clear q9
              cases b <;> (go_wp2; go_ret; exact ⟨ret_bool (by rw [E.out]; simp), q10⟩)
  have n5 : (kind == (5 : Int)) = false := beq_eq_false_iff_ne.2 k5
  have E := Lib.hid (E5.out k1 k6 k2 k3 k4 k5)
  clear E1 E2 E3 E4 E5 HC HT HD1 HD2 k1 k2 k3 k4 k5 k6
  go_enter Tryz.func75, Tryz.ntmps75
  go_wp2
  go_ret
  exact ⟨ret_bool E.out.symm, (Q.refl w).alloc _⟩

end Go.Proofs.YtgbenepapajieaaGreat.Nd
namespace Go.Proofs.YtgbenepapajieaaGreat.Nd
open Go.RowKit
open Go.Proofs.YtgbenepapajieaaGreat.Ex.Rng

/-- A row of the call's own, another block being written. -/
theorem own_far {α : Type} {cs : α → List Value} {k : Nat} {T : TypeId} {w w' : World} {B g : Nat} {v : Value} {l : List α} (h : OwnR T cs k w B v l) (f : Far g w w') (hg : g < B) : OwnR T cs k w' B v l :=
  h.other fun b hb => f.2 b (h.lt b hb).2 (by have := (h.lt b hb).1; omega)
theorem Far.chain {g : Nat} {w w' : World} (h : Far g w w') (i : Nat) (u : Value) : Far g w (w'.setCell ⟨g, i, none⟩ u) := h.trans (Far.setCell g w' i u)
/-- A node whose rows are the call's own. -/
def OwnN (w : World) (B : Nat) (v : Value) (n : Nd) : Prop := ∃ va vl vd, v = nodeV n va vl vd ∧ OwnT w B va n.mt.attrs ∧ OwnA w B vl n.mt.acl ∧ OwnP w B vd n.data
theorem OwnN.at_ {w : World} {B : Nat} {v : Value} {n : Nd} (h : OwnN w B v n) : NodeAt w v n := by
  obtain ⟨va, vl, vd, e, h1, h2, h3⟩ := h
  exact ⟨va, vl, vd, e, h1.row flatT, (h2.row flat3).aces, h3.row flatP⟩
end Go.Proofs.YtgbenepapajieaaGreat.Nd
namespace Go.Proofs.YtgbenepapajieaaGreat.Nd
open Go.RowKit
open Go.Proofs.YtgbenepapajieaaGreat.Ex.Rng

theorem mayGo_true : ∀ {l : List X} {last s : Int}, Ex.mayGo last l s = true → Val l ∧ (∀ x ∈ l, last < (x.1 : Int) ∧ (x.1 : Int) + x.2 ≤ s) ∧ last ≤ s
  | [], _, _, h => ⟨Val.nil_, by simp, of_decide_eq_true h⟩
  | x :: r, last, s, h => by
    unfold Ex.mayGo at h
    rw [Bool.and_eq_true, decide_eq_true_eq] at h
    obtain ⟨⟨h1, h2⟩, h3⟩ := h
    obtain ⟨a, b, c⟩ := mayGo_true h3
    refine ⟨⟨fun y hy => ?_, List.pairwise_cons.2 ⟨fun y hy => by have := (b y hy).1; omega, a.2⟩⟩, fun y hy => ?_, by omega⟩
    · rcases List.mem_cons.1 hy with rfl | hy
      · omega
      · exact a.1 y hy
    · rcases List.mem_cons.1 hy with rfl | hy
      · exact ⟨h2, c⟩
      · have := b y hy; exact ⟨by omega, this.2⟩
theorem sumP_mem {l : List Pc} {p : Pc} (h : p ∈ l) : p.2.size ≤ sumP l := by
  induction l with
  | nil => cases h
  | cons x r ih =>
    simp only [sumP]
    rcases List.mem_cons.1 h with rfl | h
    · omega
    · have := ih h; omega
/-- The pieces of a valid file of this size. -/
structure VF (s : Int) (d : List Pc) : Prop where
  len : d.length ≤ 16
  sum : sumP d ≤ 4000
  wf : WF d
  ends : ∀ p ∈ d, p.1 + (p.2.size : Int) ≤ s
  s0 : 0 ≤ s
  s1 : s ≤ 1099511627776
theorem lim_in {s : Int} : s = lim s ↔ 0 ≤ s ∧ s ≤ 1099511627776 := by
  unfold lim limN M
  omega
theorem contentB_vf {s : Int} {d : List Pc} (h : contentB s d = true) : VF s d := by
  unfold contentB at h
  simp only [Bool.and_eq_true, decide_eq_true_eq] at h
  obtain ⟨⟨⟨h1, h2⟩, h3⟩, h4⟩ := h
  unfold Ex.mayB at h4
  simp only [Bool.and_eq_true, decide_eq_true_eq] at h4
  obtain ⟨h4, h5⟩ := h4
  have ho : ∀ p ∈ d, 0 ≤ p.1 ∧ p.1 ≤ 1099511627776 := fun p hp => of_decide_eq_true (List.all_eq_true.1 h3 p hp)
  have hx : d.map xOf = d.map xN := List.map_congr_left fun p hp => by
    have h6 := ho p hp
    have h7 := sumP_mem hp
    unfold xOf xN limN M
    refine Prod.ext ?_ ?_
    · simp only; omega
    · simp only; omega
  rw [hx] at h5
  obtain ⟨a, b, _⟩ := mayGo_true h5
  have hs := lim_in.1 h4
  refine ⟨by omega, by omega, ⟨fun p hp => ⟨(ho p hp).1, a.1 (xN p) (List.mem_map.2 ⟨p, hp, rfl⟩)⟩, ?_⟩, fun p hp => ?_, hs.1, hs.2⟩
  · have := a.2
    rw [List.pairwise_map] at this
    refine List.Pairwise.imp_of_mem ?_ this
    intro x y hx hy hxy
    have h8 := ho x hx
    have h9 := ho y hy
    have hxy' : x.1.toNat + x.2.size < y.1.toNat := hxy
    omega
  · have h8 := (b (xN p) (List.mem_map.2 ⟨p, hp, rfl⟩)).2
    have h9 := ho p hp
    have h8' : (p.1.toNat : Int) + p.2.size ≤ s := h8
    omega
theorem contentB_of {s : Int} {d : List Pc} (h : VF s d) : contentB s d = true := by
  obtain ⟨h1, h2, h3, h4, h5, h6⟩ := h
  have ho : ∀ p ∈ d, PcOk p := fun p hp => ⟨(h3.1 p hp).1, by have := h4 p hp; omega⟩
  unfold contentB Ex.mayB
  rw [map_xOf ho]
  have e1 : d.all (fun p => offB p.1) = true := List.all_eq_true.2 fun p hp => decide_eq_true (by have := ho p hp; unfold PcOk at this; omega)
  have e2 : Ex.mayGo (-1) (d.map xN) s = true := Ex.mayGo_val h3.val (fun x hx => by omega) (by omega) (fun x hx => by
    obtain ⟨p, hp, rfl⟩ := List.mem_map.1 hx
    have a := (h3.1 p hp).1
    have b := h4 p hp
    show (p.1.toNat : Int) + (p.2.size : Nat) ≤ s
    omega)
  rw [e1, e2]
  have := lim_in.2 ⟨h5, h6⟩
  simp [← this]
  omega
theorem VF.ok {s : Int} {d : List Pc} (h : VF s d) : ∀ p ∈ d, PcOk p := fun p hp => ⟨(h.wf.1 p hp).1, by have := h.ends p hp; have := h.s1; omega⟩
theorem VF.top {s : Int} {d : List Pc} (h : VF s d) : ∀ p ∈ d, p.1 + (p.2.size : Int) ≤ 1099511627776 := fun p hp => (h.ok p hp).2
theorem VF.small {s : Int} {d : List Pc} (h : VF s d) : Small d := ⟨by have := h.len; omega, fun p hp => by have := sumP_mem hp; have := h.sum; omega⟩
theorem fileB_vf {n : Nd} (h : fileB n = true) : n.kind = 2 ∧ VF n.size n.data := by
  unfold fileB at h
  rw [Bool.and_eq_true, beq_iff_eq] at h
  obtain ⟨h1, h2⟩ := h
  refine ⟨h1, contentB_vf ?_⟩
  unfold mayN at h2
  rw [if_neg (by omega), if_pos h1] at h2
  simp only [Bool.and_eq_true] at h2
  exact h2.1.1.1.1
theorem fileB_set {n : Nd} {s : Int} {d : List Pc} (h : fileB n = true) (hv : VF s d) : fileB { n with size := s, data := d } = true := by
  unfold fileB at h ⊢
  rw [Bool.and_eq_true, beq_iff_eq] at h ⊢
  obtain ⟨h1, h2⟩ := h
  refine ⟨h1, ?_⟩
  unfold mayN at h2 ⊢
  rw [if_neg (by omega), if_pos h1] at h2
  simp only
  rw [if_neg (by omega), if_pos h1, contentB_of hv]
  simp only [Bool.and_eq_true] at h2 ⊢
  exact ⟨⟨⟨⟨trivial, h2.1.1.1.2⟩, h2.1.1.2⟩, h2.1.2⟩, h2.2⟩

/-! ### The answers -/
def writeN (n : Nd) (a : Int) (s : ByteArray) : Nd × Int :=
  if fileB n = true ∧ offB a = true then
    if 1099511627776 < a + (s.size : Int) then (n, 2)
    else if s.size = 0 then (n, 0)
    else if 16 < (wData n.data a s).length ∨ 4000 < sumP (wData n.data a s) then (n, 13)
    else ({ n with data := wData n.data a s, size := max n.size (a + (s.size : Int)) }, 0)
  else (n, 1)
def cutNd (n : Nd) (s : Int) : Nd × Int := if fileB n = true ∧ offB s = true then ({ n with data := clipP n.data 0 s, size := s }, 0) else (n, 1)
def readN (n : Nd) (a long : Int) : ByteArray × Int := if fileB n = true ∧ 0 ≤ a ∧ 0 ≤ long ∧ long ≤ 4000 then (txt n.data (limN a) (limN (min long (n.size - a))), 0) else (⟨#[]⟩, 1)
/-- What bounds a node for the machine. -/
structure Fit (n : Nd) : Prop where
  at_ : n.mt.attrs.length ≤ 10000
  ac : n.mt.acl.length ≤ 10000
  da : Small n.data

/-! ### Blocks from here to there are as they were -/
def Band (lo hi : Nat) (w w' : World) : Prop := hi ≤ w'.heap.size ∧ ∀ b, lo ≤ b → b < hi → w'.heap[b]? = w.heap[b]?
theorem Band.start (lo : Nat) (w : World) : Band lo w.heap.size w w := ⟨Nat.le_refl _, fun _ _ _ => rfl⟩
theorem Band.q {lo hi : Nat} {w a b : World} (h : Band lo hi w a) (q : Q a b) : Band lo hi w b := ⟨Nat.le_trans h.1 q.size, fun x h1 h2 => (q.block x (Nat.lt_of_lt_of_le h2 h.1)).trans (h.2 x h1 h2)⟩
theorem Band.far {lo hi g : Nat} {w a b : World} (h : Band lo hi w a) (f : Far g a b) (hg : g < lo ∨ hi ≤ g) : Band lo hi w b := ⟨Nat.le_trans h.1 f.1, fun x h1 h2 => (f.2 x (Nat.lt_of_lt_of_le h2 h.1) (by omega)).trans (h.2 x h1 h2)⟩
theorem Band.row {α : Type} {cs : α → List Value} {k : Nat} {T : TypeId} {lo : Nat} {w w' : World} {v : Value} {l : List α} (b : Band lo w.heap.size w w') (h : OwnR T cs k w lo v l) : OwnR T cs k w' lo v l :=
  h.other fun g hg => b.2 g (h.lt g hg).1 (h.lt g hg).2

/-- Where Write, Cut stand: the argument's block, the result's, the copy's. -/
structure St (w w2 W : World) (V Z R : Array Value) : Prop where
  q : Q w W
  x : BoxN W w.heap.size V
  y : BoxN W (w.heap.size + 1) Z
  o : BoxN W w2.heap.size R
  b : Band (w.heap.size + 2) w2.heap.size w2 W
theorem St.keep {w w2 W W' : World} {V Z R : Array Value} (h : St w w2 W V Z R) (q : Q W W') : St w w2 W' V Z R := ⟨h.q.trans q, h.x.keep q, h.y.keep q, h.o.keep q, h.b.q q⟩
end Go.Proofs.YtgbenepapajieaaGreat.Nd
