/-
  The contracts of the functions that read one text alone: path.nameEnd, path.Name, and the document's Name.
-/
import Derived.Test.YtafekepgnockjaaWords
namespace Go.Proofs.Ytafekepgnockjaa
open Go.RowKit
open Pth

theorem endB_stop (s : ByteArray) (i : Nat) (h : i < s.size) (hc : s[i] = 47) : endB s i = i := endL_stop _ i (by simpa using h) hc
theorem endB_end (s : ByteArray) : endB s s.size = s.size := endL_end _ _ (by simp)
theorem endB_step (s : ByteArray) (i : Nat) (h : i < s.size) (hc : s[i] ≠ 47) : endB s (i + 1) = endB s i := endL_step _ i (by simpa using h) hc


set_option maxHeartbeats 400000 in
theorem nameEnd_any (s : ByteArray) (i : Nat) (w : World) (hi : i ≤ s.size) (hs : s.size ≤ maxLen) :
    Calls Try.prog 32 #[.string s, .int .i64 i] w fun e w' => e = .returned (.int .i64 (endB s i)) ∧ w = w' := by
  unfold maxLen at hs
  go_enter Try.func32, Try.ntmps32
  go_wp2
  refine wp_scope_goto 0 (fun a' w' => w = w' ∧ ∃ (k : Nat) (u5 u6 u7 u8 u9 u10 u11 u12 u13 u14 u15 u16 u17 : Value), a' = { tmps := #[.string s, .int .i64 k, undef, undef, .int .i64 0, u5, u6, u7, u8, u9, u10, u11, u12, u13, u14, u15, u16, u17], defers := [] } ∧ k ≤ s.size ∧ Hid (endB s k = endB s i)) (fun a' _ => s.size - (intOf (a'.tmps.getD 1 undef)).toNat) rfl ?_ ?_
  · intro hh
    go_wp2
    go_step3
    rename_i hK
    exact hK _ _ (hh.out _ _ ⟨rfl, i, _, _, _, _, _, _, _, _, _, _, _, _, _, rfl, hi, rfl⟩)
  · rintro a' w' ⟨rfl, k, u5, u6, u7, u8, u9, u10, u11, u12, u13, u14, u15, u16, u17, rfl, hk, H⟩
    by_cases hlt : k < s.size
    · have t1 : ((k : Int) == (s.size : Int)) = false := beq_eq_false_iff_ne.2 (by omega)
      by_cases hc : s[k] = 47
      · have t2 : ((s[k].toNat : Int) == 47) = true := u8_eq 47 hc
        have E : Hid (endB s i = k) := H.out.symm.trans (endB_stop s k hlt hc)
        clear hc H
        go_wp2
        simp only [Exit.jump]
        go_ret
        exact ⟨ret_int (by rw [E.out]), rfl⟩
      · have t2 : ((s[k].toNat : Int) == 47) = false := u8_ne 47 hc
        have E : Hid (endB s (k + 1) = endB s i) := (endB_step s k hlt hc).trans H.out
        clear hc H
        go_wp2
        go_step3
        exact ⟨rfl, ⟨rfl, k + 1, _, _, _, _, _, _, _, _, _, _, _, _, _, rfl, hlt, E⟩, by simp [intOf]; omega⟩
    · have t1 : ((k : Int) == (s.size : Int)) = true := beq_iff_eq.2 (by omega)
      have hk' : k = s.size := by omega
      have E : Hid (endB s i = k) := H.out.symm.trans (by rw [hk']; exact endB_end s)
      clear hk'
      go_wp2
      simp only [Exit.jump]
      go_ret
      exact ⟨ret_int (by rw [E.out]), rfl⟩

theorem nameB_long (s : ByteArray) (h : s.size < 1 ∨ 20 < s.size) : nameB s = false := by
  unfold nameB nameL
  have : s.data.toList.length = s.size := by simp
  rcases h with h | h
  · rw [decide_eq_false (p := 1 ≤ s.data.toList.length) (by omega)]; rfl
  · rw [decide_eq_false (p := s.data.toList.length ≤ 20) (by omega)]; simp
theorem nameB_dot (s : ByteArray) (h : s.toList = [46] ∨ s.toList = [46, 46]) : nameB s = false := by
  rw [ByteArray.toList_eq] at h
  unfold nameB
  rcases h with h | h <;> (rw [h]; rfl)
def clean (s : ByteArray) (k : Nat) : Prop := (s.data.toList.take k).all okByte = true
theorem clean_zero (s : ByteArray) : clean s 0 := rfl
theorem clean_succ (s : ByteArray) (k : Nat) (h : k < s.size) (hc : clean s k) (h1 : s[k] ≠ 47) (h2 : s[k] ≠ 0) : clean s (k + 1) := by
  unfold clean at hc ⊢
  have hl : k < s.data.toList.length := by simpa using h
  rw [List.take_succ_eq_append_getElem hl, List.all_append, hc]
  have e : s.data.toList[k] = s[k] := rfl
  simp [okByte, e, h1, h2]
theorem nameB_bad (s : ByteArray) (k : Nat) (h : k < s.size) (hc : s[k] = 47 ∨ s[k] = 0) : nameB s = false := by
  have hl : k < s.data.toList.length := by simpa using h
  have e : s.data.toList.all okByte = false := by
    rw [List.all_eq_false]
    refine ⟨s.data.toList[k], List.getElem_mem hl, ?_⟩
    have e : s.data.toList[k] = s[k] := rfl
    rcases hc with hc | hc <;> simp [okByte, e, hc]
  unfold nameB nameL
  rw [e, Bool.and_false]
theorem nameB_ok (s : ByteArray) (h1 : 1 ≤ s.size) (h2 : s.size ≤ 20) (h3 : ¬ s.toList = [46]) (h4 : ¬ s.toList = [46, 46]) (hc : clean s s.size) : nameB s = true := by
  rw [ByteArray.toList_eq] at h3 h4
  unfold clean at hc
  rw [List.take_of_length_le (by simp)] at hc
  have hl : s.data.toList.length = s.size := by simp
  unfold nameB nameL
  rw [hc, hl]
  simp [h1, h2, h3, h4]

set_option maxHeartbeats 400000 in
theorem name_any (s : ByteArray) (w : World) (hs : s.size ≤ maxLen) :
    Calls Try.prog 13 #[.string s] w fun e w' => e = .returned (.bool (nameB s)) ∧ w = w' := by
  unfold maxLen at hs
  by_cases g1 : s.size < 1
  · have E := Lib.hid (nameB_long s (.inl g1))
    go_enter Try.func13, Try.ntmps13
    go_wp2
    go_step3
    go_wp2
    try simp only [Exit.noGoto_ret]
    go_ret
    exact ⟨ret_bool E.out.symm, rfl⟩
  by_cases g2 : 20 < s.size
  · have E := Lib.hid (nameB_long s (.inr g2))
    go_enter Try.func13, Try.ntmps13
    go_wp2
    go_step3
    go_wp2
    try simp only [Exit.noGoto_ret]
    go_ret
    exact ⟨ret_bool E.out.symm, rfl⟩
  by_cases g3 : s.toList = [46]
  · have E := Lib.hid (nameB_dot s (.inl g3))
    have t3 : (s.toList == [46]) = true := beq_iff_eq.2 g3
    clear g3
    go_enter Try.func13, Try.ntmps13
    go_wp2
    go_step3
    go_wp2
    try simp only [Exit.noGoto_ret]
    go_ret
    exact ⟨ret_bool E.out.symm, rfl⟩
  have t3 : (s.toList == [46]) = false := beq_eq_false_iff_ne.2 g3
  by_cases g4 : s.toList = [46, 46]
  · have E := Lib.hid (nameB_dot s (.inr g4))
    have t4 : (s.toList == [46, 46]) = true := beq_iff_eq.2 g4
    clear g3 g4
    go_enter Try.func13, Try.ntmps13
    go_wp2
    go_step3
    go_wp2
    try simp only [Exit.noGoto_ret]
    go_ret
    exact ⟨ret_bool E.out.symm, rfl⟩
  have t4 : (s.toList == [46, 46]) = false := beq_eq_false_iff_ne.2 g4
  have EK : Hid (clean s s.size → nameB s = true) := nameB_ok s (by omega) (by omega) g3 g4
  clear g3 g4
  go_enter Try.func13, Try.ntmps13
  go_wp2
  refine wp_scope_goto 0 (fun a' w' => w = w' ∧ ∃ (k : Nat) (u4 u5 u6 u7 u8 u9 u10 u11 u12 u13 u14 u15 u16 u17 u18 u19 u20 u21 u22 u23 u24 u25 u26 u27 u28 u29 u30 u31 u32 u33 u34 u35 : Value), a' = { tmps := #[.string s, undef, .bool false, .int .i64 k, u4, u5, u6, u7, u8, u9, u10, u11, u12, u13, u14, u15, u16, u17, u18, u19, u20, u21, u22, u23, u24, u25, u26, u27, u28, u29, u30, u31, u32, u33, u34, u35], defers := [] } ∧ k ≤ s.size ∧ Hid (clean s k)) (fun a' _ => s.size - (intOf (a'.tmps.getD 3 undef)).toNat) rfl ?_ ?_
  · intro hh
    go_wp2
    go_step3
    rename_i hK
    exact hK _ _ (hh.out _ _ ⟨rfl, 0, _, _, _, _, _, _, _, _, _, _, _, _, _, _, _, _, _, _, _, _, _, _, _, _, _, _, _, _, _, _, _, _, rfl, by omega, clean_zero s⟩)
  · rintro a' w' ⟨rfl, k, u4, u5, u6, u7, u8, u9, u10, u11, u12, u13, u14, u15, u16, u17, u18, u19, u20, u21, u22, u23, u24, u25, u26, u27, u28, u29, u30, u31, u32, u33, u34, u35, rfl, hk, H⟩
    clear t3 t4
    by_cases hlt : k < s.size
    · have u1 : ((k : Int) == (s.size : Int)) = false := beq_eq_false_iff_ne.2 (by omega)
      by_cases hc : s[k] = 47
      · have u2 : ((s[k].toNat : Int) == 47) = true := u8_eq 47 hc
        have E := Lib.hid (nameB_bad s k hlt (.inl hc))
        clear hc
        go_wp2
        simp only [Exit.jump]
        go_ret
        exact ⟨ret_bool E.out.symm, rfl⟩
      have u2 : ((s[k].toNat : Int) == 47) = false := u8_ne 47 hc
      by_cases hd : s[k] = 0
      · have u3 : ((s[k].toNat : Int) == 0) = true := u8_eq 0 hd
        have E := Lib.hid (nameB_bad s k hlt (.inr hd))
        clear hc hd
        go_wp2
        simp only [Exit.jump]
        go_ret
        exact ⟨ret_bool E.out.symm, rfl⟩
      have u3 : ((s[k].toNat : Int) == 0) = false := u8_ne 0 hd
      have E : Hid (clean s (k + 1)) := clean_succ s k hlt H.out hc hd
      clear hc hd
      go_wp2
      go_step3
      exact ⟨rfl, ⟨rfl, k + 1, _, _, _, _, _, _, _, _, _, _, _, _, _, _, _, _, _, _, _, _, _, _, _, _, _, _, _, _, _, _, _, _, rfl, hlt, E⟩, by simp [intOf]; omega⟩
    · have u1 : ((k : Int) == (s.size : Int)) = true := beq_iff_eq.2 (by omega)
      have hk' : k = s.size := by omega
      have E := Lib.hid (EK.out (by rw [← hk']; exact H.out))
      clear hk'
      go_wp2
      simp only [Exit.jump]
      go_ret
      exact ⟨ret_bool E.out.symm, rfl⟩

set_option maxHeartbeats 400000 in
theorem rname_any (s : ByteArray) (w : World) (hs : s.size ≤ maxLen) :
    Calls Try.prog 14 #[.string s] w fun e w' => e = .returned (.bool (nameB s)) ∧ w = w' := by
  unfold maxLen at hs
  go_enter Try.func14, Try.ntmps14
  go_wp2
  go_loop [3] (fun i => ∃ k : Nat, i = .int .i64 k ∧ k ≤ s.size ∧ Hid (clean s k)) (fun i => s.size - (intOf i).toNat)
  case atStart => exact ⟨0, rfl, by omega, clean_zero s⟩
  case round =>
    obtain ⟨k, rfl, hk, H⟩ := hrel
    by_cases hlt : k < s.size
    · by_cases hc : s[k] = 47
      · have u2 : ((s[k].toNat : Int) == 47) = true := u8_eq 47 hc
        have E := Lib.hid (nameB_bad s k hlt (.inl hc))
        clear hc
        go_wp2
        go_ret
        exact ⟨ret_bool E.out.symm, rfl⟩
      have u2 : ((s[k].toNat : Int) == 47) = false := u8_ne 47 hc
      by_cases hd : s[k] = 0
      · have u3 : ((s[k].toNat : Int) == 0) = true := u8_eq 0 hd
        have E := Lib.hid (nameB_bad s k hlt (.inr hd))
        clear hc hd
        go_wp2
        go_ret
        exact ⟨ret_bool E.out.symm, rfl⟩
      have u3 : ((s[k].toNat : Int) == 0) = false := u8_ne 0 hd
      have E : Hid (clean s (k + 1)) := clean_succ s k hlt H.out hc hd
      clear hc hd
      go_wp2
      go_round
      case rel => exact ⟨k + 1, by go_num, hlt, E⟩
      case measure => simp [intOf]; omega
    · have hk' : k = s.size := by omega
      have hc : clean s s.size := by rw [← hk']; exact H.out
      clear hk'
      by_cases g1 : s.size < 1
      · have E := Lib.hid (nameB_long s (.inl g1))
        go_wp2
        go_ret
        exact ⟨ret_bool E.out.symm, rfl⟩
      by_cases g2 : 20 < s.size
      · have E := Lib.hid (nameB_long s (.inr g2))
        go_wp2
        go_ret
        exact ⟨ret_bool E.out.symm, rfl⟩
      by_cases g3 : s.toList = [46]
      · have E := Lib.hid (nameB_dot s (.inl g3))
        have t3 : (s.toList == [46]) = true := beq_iff_eq.2 g3
        clear g3
        go_wp2
        go_ret
        exact ⟨ret_bool E.out.symm, rfl⟩
      have t3 : (s.toList == [46]) = false := beq_eq_false_iff_ne.2 g3
      by_cases g4 : s.toList = [46, 46]
      · have E := Lib.hid (nameB_dot s (.inr g4))
        have t4 : (s.toList == [46, 46]) = true := beq_iff_eq.2 g4
        clear g3 g4
        go_wp2
        go_ret
        exact ⟨ret_bool E.out.symm, rfl⟩
      have t4 : (s.toList == [46, 46]) = false := beq_eq_false_iff_ne.2 g4
      have E := Lib.hid (nameB_ok s (by omega) (by omega) g3 g4 hc)
      clear g3 g4 hc
      go_wp2
      go_ret
      exact ⟨ret_bool E.out.symm, rfl⟩
end Go.Proofs.Ytafekepgnockjaa
