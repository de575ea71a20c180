/-
  The contract of the document's ShowAcl.
-/
import Derived.Test.YtcbgchohcinecaaDoorNumber
import Derived.Lib.ItoaLen
namespace Go.Proofs.YtcbgchohcinecaaDoor
open Go.RowKit

theorem showA_mk (p : List UInt8) (x : Ace) : mkB p ++ mkB [letterL x.1] ++ mkB (Lib.itoa x.2.1) ++ mkB [58] ++ mkB (Lib.itoa x.2.2) = mkB (p ++ showA x) := by
  simp only [mkB_add]
  unfold showA
  simp
theorem showA_len (x : Ace) (h : Fits x) : (showA x).length ≤ 44 := by
  have l1 := Lib.itoa_length_le x.2.1 h.2.1.1 h.2.1.2
  have l2 := Lib.itoa_length_le x.2.2 h.2.2.1 h.2.2.2
  unfold showA
  simp
  omega
theorem showRef_next {l : List Ace} {k : Nat} {bs : List UInt8} (hk : k < l.length) (h : bs = showL (l.take k)) : (bs ++ (if k = 0 then [] else [32])) ++ showA l[k] = showL (l.take (k + 1)) := by
  rw [h, showL_step hk, List.append_assoc]
def lets4 (k : Int) : ByteArray := mkB [letterL k]

set_option maxHeartbeats 4000000 in
set_option maxRecDepth 100000 in
theorem showRef_any (v : Value) (l : List Ace) (w : World) (h : AcesAt w v l) (hl : l.length ≤ 10000) (hF : ∀ x ∈ l, Fits x) :
    Calls Tryd.prog 16 #[v] w fun e w' => e = .returned (.string (mkB (showL l))) ∧ Q w w' := by
  obtain ⟨A, c, rfl⟩ := h.form
  go_enter Tryd.func16, Tryd.ntmps16
  go_wp2
  go_loopw [3, 4] (fun sv i wr => ∃ (k : Nat) (bs : List UInt8), i = .int .i64 k ∧ sv = .string (mkB bs) ∧ k ≤ l.length ∧ Q w wr ∧ bs.length ≤ k * 45 ∧ Hid (bs = showL (l.take k))) (fun _ i _ => l.length - (intOf i).toNat)
  case atStart => exact ⟨0, [], rfl, rfl, by omega, Q.refl _, by simp, rfl⟩
  case round =>
    obtain ⟨k, bs, rfl, rfl, hk, hq, hbl, H⟩ := hrel
    by_cases hlt : k < l.length
    · obtain ⟨g, o, _, ea, _, _, hc⟩ := (h.keep hq).at_ (by omega)
      cases ea
      obtain ⟨c1, c2, c3⟩ := hc k hlt
      have hf := hF _ (List.getElem_mem hlt)
      have lt2 : (k : Int) < (l.length : Int) := by omega
      have hE := showRef_next hlt H.out
      have lA := showA_len _ hf
      clear hc h H hF
      generalize l[k] = x at *
      obtain ⟨xk, xi, xp⟩ := x
      simp only at c1 c2 c3
      obtain ⟨p, hp⟩ : ∃ p, p = bs ++ (if k = 0 then [] else [32]) := ⟨_, rfl⟩
      rw [← hp] at hE
      have hpl : p.length ≤ k * 45 + 1 := by rw [hp]; split <;> simp <;> omega
      have E := Lib.hid hE
      have P := Lib.hid hp
      clear hE hp
      have n1 := fun w => number_any xi w hf.2.1.1 hf.2.1.2
      have n2 := fun w => number_any xp w hf.2.2.1 hf.2.2.2
      have l1 := Lib.itoa_length_le xi hf.2.1.1 hf.2.1.2
      have l2 := Lib.itoa_length_le xp hf.2.2.1 hf.2.2.2
      have M : Hid (mkB p ++ mkB [letterL xk] ++ mkB (Lib.itoa xi) ++ mkB [58] ++ mkB (Lib.itoa xp) = mkB (p ++ showA (xk, xi, xp))) := showA_mk p (xk, xi, xp)
      generalize Lib.itoa xi = s1 at *
      generalize Lib.itoa xp = s2 at *
      have N1 := Lib.hid n1
      have N2 := Lib.hid n2
      clear n1 n2
      have E2 : Hid ((p ++ showA (xk, xi, xp)).length ≤ (k + 1) * 45) := by show _ ≤ _; rw [List.length_append]; omega
      have z0 : ¬ 9223372036854775807 < (mkB bs).size + 1 := by rw [size_mkB]; omega
      have z1 : ¬ 9223372036854775807 < (mkB p).size + 1 := by rw [size_mkB]; omega
      have z2 : ¬ 9223372036854775807 < (mkB p).size + 1 + (mkB s1).size := by rw [size_mkB, size_mkB]; omega
      have z3 : ¬ 9223372036854775807 < (mkB p).size + 1 + (mkB s1).size + 1 := by rw [size_mkB, size_mkB]; omega
      have z4 : ¬ 9223372036854775807 < (mkB p).size + 1 + (mkB s1).size + 1 + (mkB s2).size := by rw [size_mkB, size_mkB, size_mkB]; omega
      by_cases h0 : k = 0
      · have t2 : decide ((0 : Int) < (k : Int)) = false := decide_eq_false (by omega)
        have t2n : ¬ 0 < k := by omega
        have hp2 : bs = p := by rw [P.out, if_pos h0, List.append_nil]
        subst hp2
        clear h0
        by_cases k1 : xk = 1
        · have k1t : (xk == 1) = true := beq_iff_eq.2 k1
          have L := Lib.hid (show letterL xk = 117 by rw [k1]; rfl)
          clear k1
          go_wp2_with fail
          go_quiet (first | (go_at_call_of 36 (Value.int IntKind.i64 xi); exact Calls.quiet_of_same (N1.out _)) | (go_at_call_of 36 (Value.int IntKind.i64 xp); exact Calls.quiet_of_same (N2.out _)))
          go_wp2
          go_roundw
          case rel => exact ⟨k + 1, _, by go_num, by rw [← M.out, L.out]; rfl, by omega, hq.drewN _, by have := E2.out; omega, E.out⟩
          case measure => simp [intOf]; omega
        have k1t : (xk == 1) = false := beq_eq_false_iff_ne.2 k1
        by_cases k2 : xk = 2
        · have k2t : (xk == 2) = true := beq_iff_eq.2 k2
          have L := Lib.hid (show letterL xk = 103 by rw [k2]; rfl)
          clear k2
          go_wp2_with fail
          go_quiet (first | (go_at_call_of 36 (Value.int IntKind.i64 xi); exact Calls.quiet_of_same (N1.out _)) | (go_at_call_of 36 (Value.int IntKind.i64 xp); exact Calls.quiet_of_same (N2.out _)))
          go_wp2
          go_roundw
          case rel => exact ⟨k + 1, _, by go_num, by rw [← M.out, L.out]; rfl, by omega, hq.drewN _, by have := E2.out; omega, E.out⟩
          case measure => simp [intOf]; omega
        have k2t : (xk == 2) = false := beq_eq_false_iff_ne.2 k2
        by_cases k3 : xk = 3
        · have k3t : (xk == 3) = true := beq_iff_eq.2 k3
          have L := Lib.hid (show letterL xk = 109 by rw [k3]; rfl)
          clear k3
          go_wp2_with fail
          go_quiet (first | (go_at_call_of 36 (Value.int IntKind.i64 xi); exact Calls.quiet_of_same (N1.out _)) | (go_at_call_of 36 (Value.int IntKind.i64 xp); exact Calls.quiet_of_same (N2.out _)))
          go_wp2
          go_roundw
          case rel => exact ⟨k + 1, _, by go_num, by rw [← M.out, L.out]; rfl, by omega, hq.drewN _, by have := E2.out; omega, E.out⟩
          case measure => simp [intOf]; omega
        have k3t : (xk == 3) = false := beq_eq_false_iff_ne.2 k3
        have L : Hid (letterL xk = 63) := by unfold letterL; rw [if_neg k1, if_neg k2, if_neg k3]; rfl
        clear k1 k2 k3
        go_wp2_with fail
        go_quiet (first | (go_at_call_of 36 (Value.int IntKind.i64 xi); exact Calls.quiet_of_same (N1.out _)) | (go_at_call_of 36 (Value.int IntKind.i64 xp); exact Calls.quiet_of_same (N2.out _)))
        go_wp2
        go_roundw
        case rel => exact ⟨k + 1, _, by go_num, by rw [← M.out, L.out]; rfl, by omega, hq.drewN _, by have := E2.out; omega, E.out⟩
        case measure => simp [intOf]; omega
      · have t2 : decide ((0 : Int) < (k : Int)) = true := decide_eq_true (by omega)
        have t2n : 0 < k := by omega
        have hp2 : mkB bs ++ { data := #[32] } = mkB p := by rw [P.out, if_neg h0, ← mkB_add]; rfl
        clear h0
        by_cases k1 : xk = 1
        · have k1t : (xk == 1) = true := beq_iff_eq.2 k1
          have L := Lib.hid (show letterL xk = 117 by rw [k1]; rfl)
          clear k1
          go_wp2_with fail
          go_quiet (first | (go_at_call_of 36 (Value.int IntKind.i64 xi); exact Calls.quiet_of_same (N1.out _)) | (go_at_call_of 36 (Value.int IntKind.i64 xp); exact Calls.quiet_of_same (N2.out _)))
          go_wp2
          go_roundw
          case rel => exact ⟨k + 1, _, by go_num, by rw [← M.out, L.out]; rfl, by omega, hq.drewN _, by have := E2.out; omega, E.out⟩
          case measure => simp [intOf]; omega
        have k1t : (xk == 1) = false := beq_eq_false_iff_ne.2 k1
        by_cases k2 : xk = 2
        · have k2t : (xk == 2) = true := beq_iff_eq.2 k2
          have L := Lib.hid (show letterL xk = 103 by rw [k2]; rfl)
          clear k2
          go_wp2_with fail
          go_quiet (first | (go_at_call_of 36 (Value.int IntKind.i64 xi); exact Calls.quiet_of_same (N1.out _)) | (go_at_call_of 36 (Value.int IntKind.i64 xp); exact Calls.quiet_of_same (N2.out _)))
          go_wp2
          go_roundw
          case rel => exact ⟨k + 1, _, by go_num, by rw [← M.out, L.out]; rfl, by omega, hq.drewN _, by have := E2.out; omega, E.out⟩
          case measure => simp [intOf]; omega
        have k2t : (xk == 2) = false := beq_eq_false_iff_ne.2 k2
        by_cases k3 : xk = 3
        · have k3t : (xk == 3) = true := beq_iff_eq.2 k3
          have L := Lib.hid (show letterL xk = 109 by rw [k3]; rfl)
          clear k3
          go_wp2_with fail
          go_quiet (first | (go_at_call_of 36 (Value.int IntKind.i64 xi); exact Calls.quiet_of_same (N1.out _)) | (go_at_call_of 36 (Value.int IntKind.i64 xp); exact Calls.quiet_of_same (N2.out _)))
          go_wp2
          go_roundw
          case rel => exact ⟨k + 1, _, by go_num, by rw [← M.out, L.out]; rfl, by omega, hq.drewN _, by have := E2.out; omega, E.out⟩
          case measure => simp [intOf]; omega
        have k3t : (xk == 3) = false := beq_eq_false_iff_ne.2 k3
        have L : Hid (letterL xk = 63) := by unfold letterL; rw [if_neg k1, if_neg k2, if_neg k3]; rfl
        clear k1 k2 k3
        go_wp2_with fail
        go_quiet (first | (go_at_call_of 36 (Value.int IntKind.i64 xi); exact Calls.quiet_of_same (N1.out _)) | (go_at_call_of 36 (Value.int IntKind.i64 xp); exact Calls.quiet_of_same (N2.out _)))
        go_wp2
        go_roundw
        case rel => exact ⟨k + 1, _, by go_num, by rw [← M.out, L.out]; rfl, by omega, hq.drewN _, by have := E2.out; omega, E.out⟩
        case measure => simp [intOf]; omega
    · have E := Lib.hid (show bs = showL l by have := H.out; rwa [List.take_of_length_le (by omega)] at this)
      clear H
      go_wp2
      go_ret
      exact ⟨ret_string (by rw [E.out]), hq⟩
end Go.Proofs.YtcbgchohcinecaaDoor
