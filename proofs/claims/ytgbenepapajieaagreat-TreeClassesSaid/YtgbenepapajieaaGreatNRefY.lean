/-
  The contract of the document's MayNode.
-/
import Derived.Test.YtgbenepapajieaaGreatNRefA
import Derived.Test.YtgbenepapajieaaGreatMayRef
namespace Go.Proofs.YtgbenepapajieaaGreat.Nd
open Go.RowKit
open Go.Proofs.YtgbenepapajieaaGreat.Ex.Rng
open Go.Proofs.YtgbenepapajieaaGreat.Ex (E ExtsAt)

theorem mayN_meta {n : Nd} (h : mayM n.mt = false) : mayN n = false := by
  unfold mayN
  rw [h]
  split
  · simp
  · split
    · simp
    · split
      · simp
      · split
        · simp
        · rfl
theorem tgt_zero {s : ByteArray} {k : Nat} (hk : k < s.size) (h : s[k] = 0) : tgtB s = false := by
  unfold tgtB
  have hi : decide (Lib.indexByte s.data.toList 0 < 0) = false := by
    refine decide_eq_false fun hlt => ?_
    have h1 : Lib.indexByte s.data.toList 0 = -1 := by have := Lib.indexByte_ge s.data.toList 0; omega
    refine Lib.indexByte_none h1 k ?_
    have hk' : k < s.data.toList.length := by rw [Array.length_toList]; exact hk
    rw [List.getElem?_eq_getElem hk']
    exact congrArg some (by rw [Array.getElem_toList]; exact h)
  rw [hi]
  simp
theorem tgt_full {s : ByteArray} (h : ∀ k (hk : k < s.size), s[k] ≠ 0) : tgtB s = (decide (1 ≤ (s.size : Int)) && decide ((s.size : Int) ≤ 200)) := by
  unfold tgtB
  have hi : decide (Lib.indexByte s.data.toList 0 < 0) = true := by
    refine decide_eq_true ?_
    refine Classical.byContradiction fun hge => ?_
    obtain ⟨o, ho⟩ : ∃ o : Nat, Lib.indexByte s.data.toList 0 = (o : Int) := ⟨_, (Int.toNat_of_nonneg (by omega)).symm⟩
    have h1 := (Lib.indexByte_some ho).1
    obtain ⟨hl, hv⟩ := List.getElem?_eq_some_iff.1 h1
    rw [Array.length_toList] at hl
    exact h o hl (by rw [Array.getElem_toList] at hv; exact hv)
  rw [hi]
  simp

set_option maxRecDepth 100000 in
set_option maxHeartbeats 16000000 in
theorem rMayN_any (v : Value) (n : Nd) (w : World) (h : NodeAt w v n) (hs : Small n.data) (ht : n.target.size ≤ 1000000) :
    Calls Tryz.prog 49 #[v] w fun e w' => e = .returned (.bool (mayN n)) ∧ Q w w' := by
  have HC : Hid (∀ w', Q w w' → Calls Tryz.prog 78 #[v] w' fun e w'' => e = .returned (.bool (contentB n.size n.data)) ∧ Q w' w'') := fun w' q => rData_any v n w' (h.keep q) hs
  have E0 : Hid (mayM n.mt = false → mayN n = false) := mayN_meta
  have E1 : Hid (mayM n.mt = true → n.kind = 1 ∨ n.kind = 6 → mayN n = ((n.size == 0) && ((n.data.length : Int) == 0) && n.target.toList.isEmpty && (n.major == 0) && (n.minor == 0))) := fun hm k => by unfold mayN; rw [if_pos k, hm, Bool.and_true]
  have E2 : Hid (mayM n.mt = true → n.kind = 2 → mayN n = (contentB n.size n.data && n.target.toList.isEmpty && (n.major == 0) && (n.minor == 0))) := fun hm k => by unfold mayN; rw [if_neg (by omega), if_pos k, hm, Bool.and_true]
  have E3 : Hid (mayM n.mt = true → n.kind = 3 → mayN n = (tgtB n.target && (n.size == 0) && ((n.data.length : Int) == 0) && (n.major == 0) && (n.minor == 0))) := fun hm k => by unfold mayN; rw [if_neg (by omega), if_neg (by omega), if_pos k, hm, Bool.and_true]
  have E4 : Hid (mayM n.mt = true → n.kind = 4 ∨ n.kind = 5 → mayN n = (decide (0 ≤ n.major) && decide (n.major ≤ 65535) && decide (0 ≤ n.minor) && decide (n.minor ≤ 65535) && (n.size == 0) && ((n.data.length : Int) == 0) && n.target.toList.isEmpty)) := fun hm k => by
    unfold mayN
    rw [if_neg (by omega), if_neg (by omega), if_neg (by omega), if_pos k, hm, Bool.and_true]
    unfold devB
    simp only [Bool.decide_and, Bool.and_assoc]
  have E5 : Hid (n.kind ≠ 1 → n.kind ≠ 6 → n.kind ≠ 2 → n.kind ≠ 3 → n.kind ≠ 4 → n.kind ≠ 5 → mayN n = false) := fun a b c d e f => by unfold mayN; rw [if_neg (by omega), if_neg (by omega), if_neg (by omega), if_neg (by omega)]
  have T0 : Hid (∀ k (hk : k < n.target.size), n.target[k] = 0 → tgtB n.target = false) := fun k hk => tgt_zero hk
  have T1 : Hid ((∀ k (hk : k < n.target.size), n.target[k] ≠ 0) → tgtB n.target = (decide (1 ≤ (n.target.size : Int)) && decide ((n.target.size : Int) ≤ 200))) := tgt_full
  obtain ⟨va, vl, vd, rfl, ha, hl, hd⟩ := h
  have HM : Hid (∀ w', Q w w' → Calls Tryz.prog 77 #[.agg #[.int .i64 n.mt.mode, .int .i64 n.mt.uid, .int .i64 n.mt.gid, .int .i64 n.mt.time, va, vl]] w' fun e w'' => e = .returned (.bool (mayM n.mt)) ∧ Grew w' w'') := fun w' q => metaMayRef_any _ n.mt w' ⟨va, vl, rfl, ha.keep q, hl.keep q⟩
  obtain ⟨kind, ⟨mode, uid, gid, time, attrs, acl⟩, size, data, target, major, minor⟩ := n
  unfold nodeV at HC ⊢
  simp only at HC E0 E1 E2 E3 E4 E5 T0 T1 HM hd ht ⊢
  generalize mayM ⟨mode, uid, gid, time, attrs, acl⟩ = b at *
  generalize mayN ⟨kind, ⟨mode, uid, gid, time, attrs, acl⟩, size, data, target, major, minor⟩ = r at *
  generalize contentB size data = bc at *
  generalize tgtB target = bt at *
  obtain ⟨A, c, rfl⟩ := hd.form
  have hdl := hd.len
  unfold maxLen at hdl
  clear hd ha hl hs
  go_enter Tryz.func49, Tryz.ntmps49
  go_wp2_with fail
  have x1 := BoxN.new w #[.int .i64 kind, .int .i64 mode, .int .i64 uid, .int .i64 gid, .int .i64 time, va, vl, .int .i64 size, .slice A data.length c, .string target, .int .i64 major, .int .i64 minor]
  have q1 : Q w (w.alloc (.cells #[.int .i64 kind, .int .i64 mode, .int .i64 uid, .int .i64 gid, .int .i64 time, va, vl, .int .i64 size, .slice A data.length c, .string target, .int .i64 major, .int .i64 minor] 47)) := (Q.refl w).alloc _
  generalize w.alloc (.cells #[.int .i64 kind, .int .i64 mode, .int .i64 uid, .int .i64 gid, .int .i64 time, va, vl, .int .i64 size, .slice A data.length c, .string target, .int .i64 major, .int .i64 minor] 47) = w1 at *
  generalize w.heap.size = gB at *
  refine (HM.out _ q1).mono ?_
  rintro e w2 ⟨rfl, q2⟩
  replace x1 := x1.keep q2.q
  replace q1 := q1.trans q2.q
  clear q2 HM
  obtain ⟨k0, k1, k2, k3, k4, k5, k6, k7, k8, k9, k10, k11⟩ := x1.cells
  clear x1
  cases b with
  | false =>
    have E := Lib.hid (E0.out rfl)
    clear E0 E1 E2 E3 E4 E5 T0 T1 HC
    go_wp2
    go_ret
    exact ⟨ret_bool E.out.symm, q1⟩
  | true =>
    replace E1 := Lib.hid (E1.out rfl)
    replace E2 := Lib.hid (E2.out rfl)
    replace E3 := Lib.hid (E3.out rfl)
    replace E4 := Lib.hid (E4.out rfl)
    clear E0
    by_cases n1 : kind = 1
    · subst n1
      have E := Lib.hid (E1.out (.inl rfl))
      clear E1 E2 E3 E4 E5 T0 T1 HC
      cases tS : (size == (0 : Int)) with
      | false =>
        rw [tS] at E
        cases tM : (major == (0 : Int)) with
        | false =>
          rw [tM] at E
          go_wp2
          all_goals
            go_ret
            exact ⟨ret_bool (by rw [E.out]; first | (simp_all; done) | (simp_all; omega)), q1⟩
        | true =>
          rw [tM] at E
          go_wp2
          all_goals
            go_ret
            exact ⟨ret_bool (by rw [E.out]; first | (simp_all; done) | (simp_all; omega)), q1⟩
      | true =>
        rw [tS] at E
        cases tL : ((data.length : Int) == (0 : Int)) with
        | false =>
          rw [tL] at E
          cases tM : (major == (0 : Int)) with
          | false =>
            rw [tM] at E
            go_wp2
            all_goals
              go_ret
              exact ⟨ret_bool (by rw [E.out]; first | (simp_all; done) | (simp_all; omega)), q1⟩
          | true =>
            rw [tM] at E
            go_wp2
            all_goals
              go_ret
              exact ⟨ret_bool (by rw [E.out]; first | (simp_all; done) | (simp_all; omega)), q1⟩
        | true =>
          rw [tL] at E
          cases tM : (major == (0 : Int)) with
          | false =>
            rw [tM] at E
            go_wp2
            all_goals
              go_ret
              exact ⟨ret_bool (by rw [E.out]; first | (simp_all; done) | (simp_all; omega)), q1⟩
          | true =>
            rw [tM] at E
            go_wp2
            all_goals
              go_ret
              exact ⟨ret_bool (by rw [E.out]; first | (simp_all; done) | (simp_all; omega)), q1⟩
    by_cases n6 : kind = 6
    · subst n6
      have E := Lib.hid (E1.out (.inr rfl))
      clear E1 E2 E3 E4 E5 T0 T1 HC
      cases tS : (size == (0 : Int)) with
      | false =>
        rw [tS] at E
        cases tM : (major == (0 : Int)) with
        | false =>
          rw [tM] at E
          go_wp2
          all_goals
            go_ret
            exact ⟨ret_bool (by rw [E.out]; first | (simp_all; done) | (simp_all; omega)), q1⟩
        | true =>
          rw [tM] at E
          go_wp2
          all_goals
            go_ret
            exact ⟨ret_bool (by rw [E.out]; first | (simp_all; done) | (simp_all; omega)), q1⟩
      | true =>
        rw [tS] at E
        cases tL : ((data.length : Int) == (0 : Int)) with
        | false =>
          rw [tL] at E
          cases tM : (major == (0 : Int)) with
          | false =>
            rw [tM] at E
            go_wp2
            all_goals
              go_ret
              exact ⟨ret_bool (by rw [E.out]; first | (simp_all; done) | (simp_all; omega)), q1⟩
          | true =>
            rw [tM] at E
            go_wp2
            all_goals
              go_ret
              exact ⟨ret_bool (by rw [E.out]; first | (simp_all; done) | (simp_all; omega)), q1⟩
        | true =>
          rw [tL] at E
          cases tM : (major == (0 : Int)) with
          | false =>
            rw [tM] at E
            go_wp2
            all_goals
              go_ret
              exact ⟨ret_bool (by rw [E.out]; first | (simp_all; done) | (simp_all; omega)), q1⟩
          | true =>
            rw [tM] at E
            go_wp2
            all_goals
              go_ret
              exact ⟨ret_bool (by rw [E.out]; first | (simp_all; done) | (simp_all; omega)), q1⟩
    by_cases n2 : kind = 2
    · subst n2
      have E := Lib.hid (E2.out rfl)
      clear E1 E2 E3 E4 E5 T0 T1
      cases tS : (size == (0 : Int)) with
      | false =>
        skip
        cases tM : (major == (0 : Int)) with
        | false =>
          rw [tM] at E
          go_wp2_with fail
          refine (HC.out _ q1).mono ?_
          rintro e w3 ⟨rfl, q3⟩
          clear HC
          replace q1 := q1.trans q3
          clear q3
          cases bc with
          | false =>
            go_wp2
            all_goals
              go_ret
              exact ⟨ret_bool (by rw [E.out]; simp), q1⟩
          | true =>
            go_wp2
            all_goals
              go_ret
              exact ⟨ret_bool (by rw [E.out]; first | (simp_all; done) | (simp_all; omega)), q1⟩
        | true =>
          rw [tM] at E
          go_wp2_with fail
          refine (HC.out _ q1).mono ?_
          rintro e w3 ⟨rfl, q3⟩
          clear HC
          replace q1 := q1.trans q3
          clear q3
          cases bc with
          | false =>
            go_wp2
            all_goals
              go_ret
              exact ⟨ret_bool (by rw [E.out]; simp), q1⟩
          | true =>
            go_wp2
            all_goals
              go_ret
              exact ⟨ret_bool (by rw [E.out]; first | (simp_all; done) | (simp_all; omega)), q1⟩
      | true =>
        skip
        cases tL : ((data.length : Int) == (0 : Int)) with
        | false =>
          skip
          cases tM : (major == (0 : Int)) with
          | false =>
            rw [tM] at E
            go_wp2_with fail
            refine (HC.out _ q1).mono ?_
            rintro e w3 ⟨rfl, q3⟩
            clear HC
            replace q1 := q1.trans q3
            clear q3
            cases bc with
            | false =>
              go_wp2
              all_goals
                go_ret
                exact ⟨ret_bool (by rw [E.out]; simp), q1⟩
            | true =>
              go_wp2
              all_goals
                go_ret
                exact ⟨ret_bool (by rw [E.out]; first | (simp_all; done) | (simp_all; omega)), q1⟩
          | true =>
            rw [tM] at E
            go_wp2_with fail
            refine (HC.out _ q1).mono ?_
            rintro e w3 ⟨rfl, q3⟩
            clear HC
            replace q1 := q1.trans q3
            clear q3
            cases bc with
            | false =>
              go_wp2
              all_goals
                go_ret
                exact ⟨ret_bool (by rw [E.out]; simp), q1⟩
            | true =>
              go_wp2
              all_goals
                go_ret
                exact ⟨ret_bool (by rw [E.out]; first | (simp_all; done) | (simp_all; omega)), q1⟩
        | true =>
          skip
          cases tM : (major == (0 : Int)) with
          | false =>
            rw [tM] at E
            go_wp2_with fail
            refine (HC.out _ q1).mono ?_
            rintro e w3 ⟨rfl, q3⟩
            clear HC
            replace q1 := q1.trans q3
            clear q3
            cases bc with
            | false =>
              go_wp2
              all_goals
                go_ret
                exact ⟨ret_bool (by rw [E.out]; simp), q1⟩
            | true =>
              go_wp2
              all_goals
                go_ret
                exact ⟨ret_bool (by rw [E.out]; first | (simp_all; done) | (simp_all; omega)), q1⟩
          | true =>
            rw [tM] at E
            go_wp2_with fail
            refine (HC.out _ q1).mono ?_
            rintro e w3 ⟨rfl, q3⟩
            clear HC
            replace q1 := q1.trans q3
            clear q3
            cases bc with
            | false =>
              go_wp2
              all_goals
                go_ret
                exact ⟨ret_bool (by rw [E.out]; simp), q1⟩
            | true =>
              go_wp2
              all_goals
                go_ret
                exact ⟨ret_bool (by rw [E.out]; first | (simp_all; done) | (simp_all; omega)), q1⟩
    by_cases n3 : kind = 3
    · subst n3
      have E := Lib.hid (E3.out rfl)
      clear E1 E2 E3 E4 E5 HC
      cases tS : (size == (0 : Int)) with
      | false =>
        rw [tS] at E
        cases tM : (major == (0 : Int)) with
        | false =>
          rw [tM] at E
          go_wp2
          go_loopw [6] (fun i wr => ∃ k : Nat, i = .int .i64 k ∧ k ≤ target.size ∧ wr = w2 ∧ Hid (∀ j (hj : j < target.size), j < k → target[j] ≠ 0)) (fun i _ => target.size - (intOf i).toNat)
          case atStart => exact ⟨0, rfl, by omega, rfl, fun j hj h0 => absurd h0 (Nat.not_lt_zero j)⟩
          case round =>
            obtain ⟨k, rfl, hk, hwr, H⟩ := hrel
            subst hwr
            by_cases hlt : k < target.size
            · have u1 : decide ((k : Int) < (target.size : Int)) = true := decide_eq_true (by omega)
              have lt1 : (k : Int) < (target.size : Int) := by omega
              by_cases hz : target[k] = 0
              · have Eb := Lib.hid (T0.out k hlt hz)
                have t1 : ((target[k].toNat : Int) == 0) = true := by rw [hz]; rfl
                clear T0 T1 H hz
                go_wp2
                go_ret
                exact ⟨ret_bool (by rw [E.out, Eb.out]; simp), q1⟩
              · have H2 : Hid (∀ j (hj : j < target.size), j < k + 1 → target[j] ≠ 0) := fun j hj hjk => by
                  by_cases e : j = k
                  · subst e; exact hz
                  · exact H.out j hj (by omega)
                have t1 : ((target[k].toNat : Int) == 0) = false := beq_eq_false_iff_ne.2 fun e => hz (UInt8.toNat_inj.1 (by rw [Int.natCast_eq_zero.1 e]; rfl))
                clear T0 T1 H hz
                go_wp2
                go_roundw
                case rel => exact ⟨k + 1, by go_num, hlt, trivial, H2⟩
                case measure => simp [intOf]; omega
            · have Et := Lib.hid (T1.out fun j hj => H.out j hj (by omega))
              have u1 : decide ((k : Int) < (target.size : Int)) = false := decide_eq_false (by omega)
              clear T0 T1 H
              rw [Et.out] at E
              go_wp2
              all_goals
                go_ret
                exact ⟨ret_bool (by rw [E.out]; first | (simp_all; done) | (simp_all; omega)), q1⟩
        | true =>
          rw [tM] at E
          go_wp2
          go_loopw [6] (fun i wr => ∃ k : Nat, i = .int .i64 k ∧ k ≤ target.size ∧ wr = w2 ∧ Hid (∀ j (hj : j < target.size), j < k → target[j] ≠ 0)) (fun i _ => target.size - (intOf i).toNat)
          case atStart => exact ⟨0, rfl, by omega, rfl, fun j hj h0 => absurd h0 (Nat.not_lt_zero j)⟩
          case round =>
            obtain ⟨k, rfl, hk, hwr, H⟩ := hrel
            subst hwr
            by_cases hlt : k < target.size
            · have u1 : decide ((k : Int) < (target.size : Int)) = true := decide_eq_true (by omega)
              have lt1 : (k : Int) < (target.size : Int) := by omega
              by_cases hz : target[k] = 0
              · have Eb := Lib.hid (T0.out k hlt hz)
                have t1 : ((target[k].toNat : Int) == 0) = true := by rw [hz]; rfl
                clear T0 T1 H hz
                go_wp2
                go_ret
                exact ⟨ret_bool (by rw [E.out, Eb.out]; simp), q1⟩
              · have H2 : Hid (∀ j (hj : j < target.size), j < k + 1 → target[j] ≠ 0) := fun j hj hjk => by
                  by_cases e : j = k
                  · subst e; exact hz
                  · exact H.out j hj (by omega)
                have t1 : ((target[k].toNat : Int) == 0) = false := beq_eq_false_iff_ne.2 fun e => hz (UInt8.toNat_inj.1 (by rw [Int.natCast_eq_zero.1 e]; rfl))
                clear T0 T1 H hz
                go_wp2
                go_roundw
                case rel => exact ⟨k + 1, by go_num, hlt, trivial, H2⟩
                case measure => simp [intOf]; omega
            · have Et := Lib.hid (T1.out fun j hj => H.out j hj (by omega))
              have u1 : decide ((k : Int) < (target.size : Int)) = false := decide_eq_false (by omega)
              clear T0 T1 H
              rw [Et.out] at E
              go_wp2
              all_goals
                go_ret
                exact ⟨ret_bool (by rw [E.out]; first | (simp_all; done) | (simp_all; omega)), q1⟩
      | true =>
        rw [tS] at E
        cases tL : ((data.length : Int) == (0 : Int)) with
        | false =>
          rw [tL] at E
          cases tM : (major == (0 : Int)) with
          | false =>
            rw [tM] at E
            go_wp2
            go_loopw [6] (fun i wr => ∃ k : Nat, i = .int .i64 k ∧ k ≤ target.size ∧ wr = w2 ∧ Hid (∀ j (hj : j < target.size), j < k → target[j] ≠ 0)) (fun i _ => target.size - (intOf i).toNat)
            case atStart => exact ⟨0, rfl, by omega, rfl, fun j hj h0 => absurd h0 (Nat.not_lt_zero j)⟩
            case round =>
              obtain ⟨k, rfl, hk, hwr, H⟩ := hrel
              subst hwr
              by_cases hlt : k < target.size
              · have u1 : decide ((k : Int) < (target.size : Int)) = true := decide_eq_true (by omega)
                have lt1 : (k : Int) < (target.size : Int) := by omega
                by_cases hz : target[k] = 0
                · have Eb := Lib.hid (T0.out k hlt hz)
                  have t1 : ((target[k].toNat : Int) == 0) = true := by rw [hz]; rfl
                  clear T0 T1 H hz
                  go_wp2
                  go_ret
                  exact ⟨ret_bool (by rw [E.out, Eb.out]; simp), q1⟩
                · have H2 : Hid (∀ j (hj : j < target.size), j < k + 1 → target[j] ≠ 0) := fun j hj hjk => by
                    by_cases e : j = k
                    · subst e; exact hz
                    · exact H.out j hj (by omega)
                  have t1 : ((target[k].toNat : Int) == 0) = false := beq_eq_false_iff_ne.2 fun e => hz (UInt8.toNat_inj.1 (by rw [Int.natCast_eq_zero.1 e]; rfl))
                  clear T0 T1 H hz
                  go_wp2
                  go_roundw
                  case rel => exact ⟨k + 1, by go_num, hlt, trivial, H2⟩
                  case measure => simp [intOf]; omega
              · have Et := Lib.hid (T1.out fun j hj => H.out j hj (by omega))
                have u1 : decide ((k : Int) < (target.size : Int)) = false := decide_eq_false (by omega)
                clear T0 T1 H
                rw [Et.out] at E
                go_wp2
                all_goals
                  go_ret
                  exact ⟨ret_bool (by rw [E.out]; first | (simp_all; done) | (simp_all; omega)), q1⟩
          | true =>
            rw [tM] at E
            go_wp2
            go_loopw [6] (fun i wr => ∃ k : Nat, i = .int .i64 k ∧ k ≤ target.size ∧ wr = w2 ∧ Hid (∀ j (hj : j < target.size), j < k → target[j] ≠ 0)) (fun i _ => target.size - (intOf i).toNat)
            case atStart => exact ⟨0, rfl, by omega, rfl, fun j hj h0 => absurd h0 (Nat.not_lt_zero j)⟩
            case round =>
              obtain ⟨k, rfl, hk, hwr, H⟩ := hrel
              subst hwr
              by_cases hlt : k < target.size
              · have u1 : decide ((k : Int) < (target.size : Int)) = true := decide_eq_true (by omega)
                have lt1 : (k : Int) < (target.size : Int) := by omega
                by_cases hz : target[k] = 0
                · have Eb := Lib.hid (T0.out k hlt hz)
                  have t1 : ((target[k].toNat : Int) == 0) = true := by rw [hz]; rfl
                  clear T0 T1 H hz
                  go_wp2
                  go_ret
                  exact ⟨ret_bool (by rw [E.out, Eb.out]; simp), q1⟩
                · have H2 : Hid (∀ j (hj : j < target.size), j < k + 1 → target[j] ≠ 0) := fun j hj hjk => by
                    by_cases e : j = k
                    · subst e; exact hz
                    · exact H.out j hj (by omega)
                  have t1 : ((target[k].toNat : Int) == 0) = false := beq_eq_false_iff_ne.2 fun e => hz (UInt8.toNat_inj.1 (by rw [Int.natCast_eq_zero.1 e]; rfl))
                  clear T0 T1 H hz
                  go_wp2
                  go_roundw
                  case rel => exact ⟨k + 1, by go_num, hlt, trivial, H2⟩
                  case measure => simp [intOf]; omega
              · have Et := Lib.hid (T1.out fun j hj => H.out j hj (by omega))
                have u1 : decide ((k : Int) < (target.size : Int)) = false := decide_eq_false (by omega)
                clear T0 T1 H
                rw [Et.out] at E
                go_wp2
                all_goals
                  go_ret
                  exact ⟨ret_bool (by rw [E.out]; first | (simp_all; done) | (simp_all; omega)), q1⟩
        | true =>
          rw [tL] at E
          cases tM : (major == (0 : Int)) with
          | false =>
            rw [tM] at E
            go_wp2
            go_loopw [6] (fun i wr => ∃ k : Nat, i = .int .i64 k ∧ k ≤ target.size ∧ wr = w2 ∧ Hid (∀ j (hj : j < target.size), j < k → target[j] ≠ 0)) (fun i _ => target.size - (intOf i).toNat)
            case atStart => exact ⟨0, rfl, by omega, rfl, fun j hj h0 => absurd h0 (Nat.not_lt_zero j)⟩
            case round =>
              obtain ⟨k, rfl, hk, hwr, H⟩ := hrel
              subst hwr
              by_cases hlt : k < target.size
              · have u1 : decide ((k : Int) < (target.size : Int)) = true := decide_eq_true (by omega)
                have lt1 : (k : Int) < (target.size : Int) := by omega
                by_cases hz : target[k] = 0
                · have Eb := Lib.hid (T0.out k hlt hz)
                  have t1 : ((target[k].toNat : Int) == 0) = true := by rw [hz]; rfl
                  clear T0 T1 H hz
                  go_wp2
                  go_ret
                  exact ⟨ret_bool (by rw [E.out, Eb.out]; simp), q1⟩
                · have H2 : Hid (∀ j (hj : j < target.size), j < k + 1 → target[j] ≠ 0) := fun j hj hjk => by
                    by_cases e : j = k
                    · subst e; exact hz
                    · exact H.out j hj (by omega)
                  have t1 : ((target[k].toNat : Int) == 0) = false := beq_eq_false_iff_ne.2 fun e => hz (UInt8.toNat_inj.1 (by rw [Int.natCast_eq_zero.1 e]; rfl))
                  clear T0 T1 H hz
                  go_wp2
                  go_roundw
                  case rel => exact ⟨k + 1, by go_num, hlt, trivial, H2⟩
                  case measure => simp [intOf]; omega
              · have Et := Lib.hid (T1.out fun j hj => H.out j hj (by omega))
                have u1 : decide ((k : Int) < (target.size : Int)) = false := decide_eq_false (by omega)
                clear T0 T1 H
                rw [Et.out] at E
                go_wp2
                all_goals
                  go_ret
                  exact ⟨ret_bool (by rw [E.out]; first | (simp_all; done) | (simp_all; omega)), q1⟩
          | true =>
            rw [tM] at E
            go_wp2
            go_loopw [6] (fun i wr => ∃ k : Nat, i = .int .i64 k ∧ k ≤ target.size ∧ wr = w2 ∧ Hid (∀ j (hj : j < target.size), j < k → target[j] ≠ 0)) (fun i _ => target.size - (intOf i).toNat)
            case atStart => exact ⟨0, rfl, by omega, rfl, fun j hj h0 => absurd h0 (Nat.not_lt_zero j)⟩
            case round =>
              obtain ⟨k, rfl, hk, hwr, H⟩ := hrel
              subst hwr
              by_cases hlt : k < target.size
              · have u1 : decide ((k : Int) < (target.size : Int)) = true := decide_eq_true (by omega)
                have lt1 : (k : Int) < (target.size : Int) := by omega
                by_cases hz : target[k] = 0
                · have Eb := Lib.hid (T0.out k hlt hz)
                  have t1 : ((target[k].toNat : Int) == 0) = true := by rw [hz]; rfl
                  clear T0 T1 H hz
                  go_wp2
                  go_ret
                  exact ⟨ret_bool (by rw [E.out, Eb.out]; simp), q1⟩
                · have H2 : Hid (∀ j (hj : j < target.size), j < k + 1 → target[j] ≠ 0) := fun j hj hjk => by
                    by_cases e : j = k
                    · subst e; exact hz
                    · exact H.out j hj (by omega)
                  have t1 : ((target[k].toNat : Int) == 0) = false := beq_eq_false_iff_ne.2 fun e => hz (UInt8.toNat_inj.1 (by rw [Int.natCast_eq_zero.1 e]; rfl))
                  clear T0 T1 H hz
                  go_wp2
                  go_roundw
                  case rel => exact ⟨k + 1, by go_num, hlt, trivial, H2⟩
                  case measure => simp [intOf]; omega
              · have Et := Lib.hid (T1.out fun j hj => H.out j hj (by omega))
                have u1 : decide ((k : Int) < (target.size : Int)) = false := decide_eq_false (by omega)
                clear T0 T1 H
                rw [Et.out] at E
                go_wp2
                all_goals
                  go_ret
                  exact ⟨ret_bool (by rw [E.out]; first | (simp_all; done) | (simp_all; omega)), q1⟩
    by_cases n4 : kind = 4
    · subst n4
      have E := Lib.hid (E4.out (.inl rfl))
      clear E1 E2 E3 E4 E5 T0 T1 HC
      cases tS : (size == (0 : Int)) with
      | false =>
        rw [tS] at E
        cases tM : (major == (0 : Int)) with
        | false =>
          skip
          go_wp2
          all_goals
            go_ret
            exact ⟨ret_bool (by rw [E.out]; first | (simp_all; done) | (simp_all; omega)), q1⟩
        | true =>
          skip
          go_wp2
          all_goals
            go_ret
            exact ⟨ret_bool (by rw [E.out]; first | (simp_all; done) | (simp_all; omega)), q1⟩
      | true =>
        rw [tS] at E
        cases tL : ((data.length : Int) == (0 : Int)) with
        | false =>
          rw [tL] at E
          cases tM : (major == (0 : Int)) with
          | false =>
            skip
            go_wp2
            all_goals
              go_ret
              exact ⟨ret_bool (by rw [E.out]; first | (simp_all; done) | (simp_all; omega)), q1⟩
          | true =>
            skip
            go_wp2
            all_goals
              go_ret
              exact ⟨ret_bool (by rw [E.out]; first | (simp_all; done) | (simp_all; omega)), q1⟩
        | true =>
          rw [tL] at E
          cases tM : (major == (0 : Int)) with
          | false =>
            skip
            go_wp2
            all_goals
              go_ret
              exact ⟨ret_bool (by rw [E.out]; first | (simp_all; done) | (simp_all; omega)), q1⟩
          | true =>
            skip
            go_wp2
            all_goals
              go_ret
              exact ⟨ret_bool (by rw [E.out]; first | (simp_all; done) | (simp_all; omega)), q1⟩
    by_cases n5 : kind = 5
    · subst n5
      have E := Lib.hid (E4.out (.inr rfl))
      clear E1 E2 E3 E4 E5 T0 T1 HC
      cases tS : (size == (0 : Int)) with
      | false =>
        rw [tS] at E
        cases tM : (major == (0 : Int)) with
        | false =>
          skip
          go_wp2
          all_goals
            go_ret
            exact ⟨ret_bool (by rw [E.out]; first | (simp_all; done) | (simp_all; omega)), q1⟩
        | true =>
          skip
          go_wp2
          all_goals
            go_ret
            exact ⟨ret_bool (by rw [E.out]; first | (simp_all; done) | (simp_all; omega)), q1⟩
      | true =>
        rw [tS] at E
        cases tL : ((data.length : Int) == (0 : Int)) with
        | false =>
          rw [tL] at E
          cases tM : (major == (0 : Int)) with
          | false =>
            skip
            go_wp2
            all_goals
              go_ret
              exact ⟨ret_bool (by rw [E.out]; first | (simp_all; done) | (simp_all; omega)), q1⟩
          | true =>
            skip
            go_wp2
            all_goals
              go_ret
              exact ⟨ret_bool (by rw [E.out]; first | (simp_all; done) | (simp_all; omega)), q1⟩
        | true =>
          rw [tL] at E
          cases tM : (major == (0 : Int)) with
          | false =>
            skip
            go_wp2
            all_goals
              go_ret
              exact ⟨ret_bool (by rw [E.out]; first | (simp_all; done) | (simp_all; omega)), q1⟩
          | true =>
            skip
            go_wp2
            all_goals
              go_ret
              exact ⟨ret_bool (by rw [E.out]; first | (simp_all; done) | (simp_all; omega)), q1⟩
    have f1 : (kind == (1 : Int)) = false := beq_eq_false_iff_ne.2 n1
    have f6 : (kind == (6 : Int)) = false := beq_eq_false_iff_ne.2 n6
    have f2 : (kind == (2 : Int)) = false := beq_eq_false_iff_ne.2 n2
    have f3 : (kind == (3 : Int)) = false := beq_eq_false_iff_ne.2 n3
    have f4 : (kind == (4 : Int)) = false := beq_eq_false_iff_ne.2 n4
    have f5 : (kind == (5 : Int)) = false := beq_eq_false_iff_ne.2 n5
    have E := Lib.hid (E5.out n1 n6 n2 n3 n4 n5)
    clear E1 E2 E3 E4 E5 T0 T1 HC n1 n6 n2 n3 n4 n5
    go_wp2
    all_goals
      go_ret
      exact ⟨ret_bool E.out.symm, q1⟩
end Go.Proofs.YtgbenepapajieaaGreat.Nd
