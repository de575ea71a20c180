/-
  The contracts of the functions that read one text alone: path.nameEnd, path.Name, and the document's Name. The contracts of path.split and of the document's cut: which names a text is made of. The contract of the document's cut, and the contracts of what stands on split and cut: May, Parts, Depth, Last, Parent, Under, of the program and of the document. Plain facts on last names, parents, prefixes, over byte arrays. Plain facts on Under, Join, Less, over byte arrays.
-/
import Derived.Test.YtgbenepapajieaaGreatPWords
namespace Go.Proofs.YtgbenepapajieaaGreat.Pa
open Go.RowKit
open Pth

theorem endB_stop (s : ByteArray) (i : Nat) (h : i < s.size) (hc : s[i] = 47) : endB s i = i := endL_stop _ i (by simpa using h) hc
theorem endB_end (s : ByteArray) : endB s s.size = s.size := endL_end _ _ (by simp)
theorem endB_step (s : ByteArray) (i : Nat) (h : i < s.size) (hc : s[i] ≠ 47) : endB s (i + 1) = endB s i := endL_step _ i (by simpa using h) hc


set_option maxRecDepth 100000 in
set_option maxHeartbeats 400000 in
theorem nameEnd_any (s : ByteArray) (i : Nat) (w : World) (hi : i ≤ s.size) (hs : s.size ≤ maxLen) :
    Calls Tryz.prog 124 #[.string s, .int .i64 i] w fun e w' => e = .returned (.int .i64 (endB s i)) ∧ w = w' := by
  unfold maxLen at hs
  go_enter Tryz.func124, Tryz.ntmps124
  go_wp2
  refine wp_scope_goto 0 (fun a' w' => w = w' ∧ ∃ (k : Nat) (u5 u6 u7 u8 u9 u10 u11 u12 u13 u14 u15 u16 u17 : Value), a' = { tmps := #[.string s, .int .i64 k, undef, undef, .int .i64 0, u5, u6, u7, u8, u9, u10, u11, u12, u13, u14, u15, u16, u17], defers := [] } ∧ k ≤ s.size ∧ Hid (endB s k = endB s i)) (fun a' _ => s.size - (intOf (a'.tmps.getD 1 undef)).toNat) rfl ?_ ?_
  · intro hh
    go_wp2
    go_step3
    rename_i hK
    exact hK _ _ (hh.out _ _ ⟨rfl, i, _, _, _, _, _, _, _, _, _, _, _, _, _, rfl, hi, rfl⟩)
  · rintro a' w' ⟨rfl, k, u5, u6, u7, u8, u9, u10, u11, u12, u13, u14, u15, u16, u17, rfl, hk, H⟩
    by_cases hlt : k < s.size
    · have t1 : ((k : Int) == (s.size : Int)) = false := beq_eq_false_iff_ne.2 (by omega)
      by_cases hc : s[k] = 47
      · have t2 : ((s[k].toNat : Int) == 47) = true := u8_eq 47 hc
        have E : Hid (endB s i = k) := H.out.symm.trans (endB_stop s k hlt hc)
        clear hc H
        go_wp2
        simp only [Exit.jump]
        go_ret
        exact ⟨ret_int (by rw [E.out]), rfl⟩
      · have t2 : ((s[k].toNat : Int) == 47) = false := u8_ne 47 hc
        have E : Hid (endB s (k + 1) = endB s i) := (endB_step s k hlt hc).trans H.out
        clear hc H
        go_wp2
        go_step3
        exact ⟨rfl, ⟨rfl, k + 1, _, _, _, _, _, _, _, _, _, _, _, _, _, rfl, hlt, E⟩, by simp [intOf]; omega⟩
    · have t1 : ((k : Int) == (s.size : Int)) = true := beq_iff_eq.2 (by omega)
      have hk' : k = s.size := by omega
      have E : Hid (endB s i = k) := H.out.symm.trans (by rw [hk']; exact endB_end s)
      clear hk'
      go_wp2
      simp only [Exit.jump]
      go_ret
      exact ⟨ret_int (by rw [E.out]), rfl⟩

theorem nameB_long (s : ByteArray) (h : s.size < 1 ∨ 20 < s.size) : nameB s = false := by
  unfold nameB nameL
  have : s.data.toList.length = s.size := by simp
  rcases h with h | h
  · rw [decide_eq_false (p := 1 ≤ s.data.toList.length) (by omega)]; rfl
  · rw [decide_eq_false (p := s.data.toList.length ≤ 20) (by omega)]; simp
theorem nameB_dot (s : ByteArray) (h : s.toList = [46] ∨ s.toList = [46, 46]) : nameB s = false := by
  rw [ByteArray.toList_eq] at h
  unfold nameB
  rcases h with h | h <;> (rw [h]; rfl)
def clean (s : ByteArray) (k : Nat) : Prop := (s.data.toList.take k).all okByte = true
theorem clean_zero (s : ByteArray) : clean s 0 := rfl
theorem clean_succ (s : ByteArray) (k : Nat) (h : k < s.size) (hc : clean s k) (h1 : s[k] ≠ 47) (h2 : s[k] ≠ 0) : clean s (k + 1) := by
  unfold clean at hc ⊢
  have hl : k < s.data.toList.length := by simpa using h
  rw [List.take_succ_eq_append_getElem hl, List.all_append, hc]
  have e : s.data.toList[k] = s[k] := rfl
  simp [okByte, e, h1, h2]
theorem nameB_bad (s : ByteArray) (k : Nat) (h : k < s.size) (hc : s[k] = 47 ∨ s[k] = 0) : nameB s = false := by
  have hl : k < s.data.toList.length := by simpa using h
  have e : s.data.toList.all okByte = false := by
    rw [List.all_eq_false]
    refine ⟨s.data.toList[k], List.getElem_mem hl, ?_⟩
    have e : s.data.toList[k] = s[k] := rfl
    rcases hc with hc | hc <;> simp [okByte, e, hc]
  unfold nameB nameL
  rw [e, Bool.and_false]
theorem nameB_ok (s : ByteArray) (h1 : 1 ≤ s.size) (h2 : s.size ≤ 20) (h3 : ¬ s.toList = [46]) (h4 : ¬ s.toList = [46, 46]) (hc : clean s s.size) : nameB s = true := by
  rw [ByteArray.toList_eq] at h3 h4
  unfold clean at hc
  rw [List.take_of_length_le (by simp)] at hc
  have hl : s.data.toList.length = s.size := by simp
  unfold nameB nameL
  rw [hc, hl]
  simp [h1, h2, h3, h4]

set_option maxRecDepth 100000 in
set_option maxHeartbeats 400000 in
theorem name_any (s : ByteArray) (w : World) (hs : s.size ≤ maxLen) :
    Calls Tryz.prog 125 #[.string s] w fun e w' => e = .returned (.bool (nameB s)) ∧ w = w' := by
  unfold maxLen at hs
  by_cases g1 : s.size < 1
  · have E := Lib.hid (nameB_long s (.inl g1))
    go_enter Tryz.func125, Tryz.ntmps125
    go_wp2
    go_step3
    go_wp2
    try simp only [Exit.noGoto_ret]
    go_ret
    exact ⟨ret_bool E.out.symm, rfl⟩
  by_cases g2 : 20 < s.size
  · have E := Lib.hid (nameB_long s (.inr g2))
    go_enter Tryz.func125, Tryz.ntmps125
    go_wp2
    go_step3
    go_wp2
    try simp only [Exit.noGoto_ret]
    go_ret
    exact ⟨ret_bool E.out.symm, rfl⟩
  by_cases g3 : s.toList = [46]
  · have E := Lib.hid (nameB_dot s (.inl g3))
    have t3 : (s.toList == [46]) = true := beq_iff_eq.2 g3
    clear g3
    go_enter Tryz.func125, Tryz.ntmps125
    go_wp2
    go_step3
    go_wp2
    try simp only [Exit.noGoto_ret]
    go_ret
    exact ⟨ret_bool E.out.symm, rfl⟩
  have t3 : (s.toList == [46]) = false := beq_eq_false_iff_ne.2 g3
  by_cases g4 : s.toList = [46, 46]
  · have E := Lib.hid (nameB_dot s (.inr g4))
    have t4 : (s.toList == [46, 46]) = true := beq_iff_eq.2 g4
    clear g3 g4
    go_enter Tryz.func125, Tryz.ntmps125
    go_wp2
    go_step3
    go_wp2
    try simp only [Exit.noGoto_ret]
    go_ret
    exact ⟨ret_bool E.out.symm, rfl⟩
  have t4 : (s.toList == [46, 46]) = false := beq_eq_false_iff_ne.2 g4
  have EK : Hid (clean s s.size → nameB s = true) := nameB_ok s (by omega) (by omega) g3 g4
  clear g3 g4
  go_enter Tryz.func125, Tryz.ntmps125
  go_wp2
  refine wp_scope_goto 0 (fun a' w' => w = w' ∧ ∃ (k : Nat) (u4 u5 u6 u7 u8 u9 u10 u11 u12 u13 u14 u15 u16 u17 u18 u19 u20 u21 u22 u23 u24 u25 u26 u27 u28 u29 u30 u31 u32 u33 u34 u35 : Value), a' = { tmps := #[.string s, undef, .bool false, .int .i64 k, u4, u5, u6, u7, u8, u9, u10, u11, u12, u13, u14, u15, u16, u17, u18, u19, u20, u21, u22, u23, u24, u25, u26, u27, u28, u29, u30, u31, u32, u33, u34, u35], defers := [] } ∧ k ≤ s.size ∧ Hid (clean s k)) (fun a' _ => s.size - (intOf (a'.tmps.getD 3 undef)).toNat) rfl ?_ ?_
  · intro hh
    go_wp2
    go_step3
    rename_i hK
    exact hK _ _ (hh.out _ _ ⟨rfl, 0, _, _, _, _, _, _, _, _, _, _, _, _, _, _, _, _, _, _, _, _, _, _, _, _, _, _, _, _, _, _, _, _, rfl, by omega, clean_zero s⟩)
  · rintro a' w' ⟨rfl, k, u4, u5, u6, u7, u8, u9, u10, u11, u12, u13, u14, u15, u16, u17, u18, u19, u20, u21, u22, u23, u24, u25, u26, u27, u28, u29, u30, u31, u32, u33, u34, u35, rfl, hk, H⟩
    clear t3 t4
    by_cases hlt : k < s.size
    · have u1 : ((k : Int) == (s.size : Int)) = false := beq_eq_false_iff_ne.2 (by omega)
      by_cases hc : s[k] = 47
      · have u2 : ((s[k].toNat : Int) == 47) = true := u8_eq 47 hc
        have E := Lib.hid (nameB_bad s k hlt (.inl hc))
        clear hc
        go_wp2
        simp only [Exit.jump]
        go_ret
        exact ⟨ret_bool E.out.symm, rfl⟩
      have u2 : ((s[k].toNat : Int) == 47) = false := u8_ne 47 hc
      by_cases hd : s[k] = 0
      · have u3 : ((s[k].toNat : Int) == 0) = true := u8_eq 0 hd
        have E := Lib.hid (nameB_bad s k hlt (.inr hd))
        clear hc hd
        go_wp2
        simp only [Exit.jump]
        go_ret
        exact ⟨ret_bool E.out.symm, rfl⟩
      have u3 : ((s[k].toNat : Int) == 0) = false := u8_ne 0 hd
      have E : Hid (clean s (k + 1)) := clean_succ s k hlt H.out hc hd
      clear hc hd
      go_wp2
      go_step3
      exact ⟨rfl, ⟨rfl, k + 1, _, _, _, _, _, _, _, _, _, _, _, _, _, _, _, _, _, _, _, _, _, _, _, _, _, _, _, _, _, _, _, _, rfl, hlt, E⟩, by simp [intOf]; omega⟩
    · have u1 : ((k : Int) == (s.size : Int)) = true := beq_iff_eq.2 (by omega)
      have hk' : k = s.size := by omega
      have E := Lib.hid (EK.out (by rw [← hk']; exact H.out))
      clear hk'
      go_wp2
      simp only [Exit.jump]
      go_ret
      exact ⟨ret_bool E.out.symm, rfl⟩

set_option maxRecDepth 100000 in
set_option maxHeartbeats 400000 in
theorem rname_any (s : ByteArray) (w : World) (hs : s.size ≤ maxLen) :
    Calls Tryz.prog 63 #[.string s] w fun e w' => e = .returned (.bool (nameB s)) ∧ w = w' := by
  unfold maxLen at hs
  go_enter Tryz.func63, Tryz.ntmps63
  go_wp2
  go_loop [3] (fun i => ∃ k : Nat, i = .int .i64 k ∧ k ≤ s.size ∧ Hid (clean s k)) (fun i => s.size - (intOf i).toNat)
  case atStart => exact ⟨0, rfl, by omega, clean_zero s⟩
  case round =>
    obtain ⟨k, rfl, hk, H⟩ := hrel
    by_cases hlt : k < s.size
    · by_cases hc : s[k] = 47
      · have u2 : ((s[k].toNat : Int) == 47) = true := u8_eq 47 hc
        have E := Lib.hid (nameB_bad s k hlt (.inl hc))
        clear hc
        go_wp2
        go_ret
        exact ⟨ret_bool E.out.symm, rfl⟩
      have u2 : ((s[k].toNat : Int) == 47) = false := u8_ne 47 hc
      by_cases hd : s[k] = 0
      · have u3 : ((s[k].toNat : Int) == 0) = true := u8_eq 0 hd
        have E := Lib.hid (nameB_bad s k hlt (.inr hd))
        clear hc hd
        go_wp2
        go_ret
        exact ⟨ret_bool E.out.symm, rfl⟩
      have u3 : ((s[k].toNat : Int) == 0) = false := u8_ne 0 hd
      have E : Hid (clean s (k + 1)) := clean_succ s k hlt H.out hc hd
      clear hc hd
      go_wp2
      go_round
      case rel => exact ⟨k + 1, by go_num, hlt, E⟩
      case measure => simp [intOf]; omega
    · have hk' : k = s.size := by omega
      have hc : clean s s.size := by rw [← hk']; exact H.out
      clear hk'
      by_cases g1 : s.size < 1
      · have E := Lib.hid (nameB_long s (.inl g1))
        go_wp2
        go_ret
        exact ⟨ret_bool E.out.symm, rfl⟩
      by_cases g2 : 20 < s.size
      · have E := Lib.hid (nameB_long s (.inr g2))
        go_wp2
        go_ret
        exact ⟨ret_bool E.out.symm, rfl⟩
      by_cases g3 : s.toList = [46]
      · have E := Lib.hid (nameB_dot s (.inl g3))
        have t3 : (s.toList == [46]) = true := beq_iff_eq.2 g3
        clear g3
        go_wp2
        go_ret
        exact ⟨ret_bool E.out.symm, rfl⟩
      have t3 : (s.toList == [46]) = false := beq_eq_false_iff_ne.2 g3
      by_cases g4 : s.toList = [46, 46]
      · have E := Lib.hid (nameB_dot s (.inr g4))
        have t4 : (s.toList == [46, 46]) = true := beq_iff_eq.2 g4
        clear g3 g4
        go_wp2
        go_ret
        exact ⟨ret_bool E.out.symm, rfl⟩
      have t4 : (s.toList == [46, 46]) = false := beq_eq_false_iff_ne.2 g4
      have E := Lib.hid (nameB_ok s (by omega) (by omega) g3 g4 hc)
      clear g3 g4 hc
      go_wp2
      go_ret
      exact ⟨ret_bool E.out.symm, rfl⟩
end Go.Proofs.YtgbenepapajieaaGreat.Pa
namespace Go.Proofs.YtgbenepapajieaaGreat.Pa
open Go.RowKit
open Pth

theorem info_str : (Tryz.prog.info? 9).map (fun i => (i.zero, i.size, i.bytes)) = some (some (.string ⟨#[]⟩), 1, 16) := by kernel_rfl

/-- What split has when it stands at i. -/
def CuttingB (s : ByteArray) (i : Nat) (ns : List ByteArray) : Prop := ∃ ls, ns = ls.map mkB ∧ Cutting s.data.toList i ls
theorem CuttingB.start (s : ByteArray) : CuttingB s 0 [] := ⟨[], rfl, Cutting.start _⟩
theorem mayB_nil (s : ByteArray) (h : s.toList = []) : mayB s = true ∧ partsB s = [] := by
  rw [ByteArray.toList_eq] at h
  unfold mayB partsB
  rw [h]
  exact ⟨rfl, rfl⟩
theorem partsB_no (s : ByteArray) (h : mayB s = false) : partsB s = [] := by
  unfold mayB at h
  unfold partsB partsL
  simp [h]
theorem mayB_long (s : ByteArray) (h : 100 < s.size) : mayB s = false := mayL_long _ (by simpa using h)
theorem piece_eq (s : ByteArray) (k m : Nat) (hm : m = endB s k) : s.extract k m = mkB (pieceL s.data.toList k) := by
  subst hm
  rw [extract_mkB]
  rfl
theorem ne_nil (s : ByteArray) (h : ¬ s.toList = []) : s.data.toList ≠ [] := by rwa [ByteArray.toList_eq] at h
theorem CuttingB.le8 {s : ByteArray} {i : Nat} {ns : List ByteArray} (h : CuttingB s i ns) : ns.length ≤ 8 := by
  obtain ⟨ls, rfl, h⟩ := h
  simpa using h.2.2.2
theorem CuttingB.full {s : ByteArray} {i : Nat} {ns : List ByteArray} (h : CuttingB s i ns) (h0 : ¬ s.toList = []) (hn : ns.length = 8) : mayB s = false := by
  obtain ⟨ls, rfl, h⟩ := h
  exact h.full (ne_nil s h0) (by simpa using hn)
theorem CuttingB.bad {s : ByteArray} {i m : Nat} {ns : List ByteArray} (h : CuttingB s i ns) (h0 : ¬ s.toList = []) (hm : m = endB s i) (hn : nameB (s.extract i m) = false) : mayB s = false := by
  obtain ⟨ls, rfl, h⟩ := h
  rw [piece_eq s i m hm] at hn
  exact h.bad (ne_nil s h0) hn
theorem CuttingB.last {s : ByteArray} {i m : Nat} {ns : List ByteArray} (h : CuttingB s i ns) (h0 : ¬ s.toList = []) (h1 : s.size ≤ 100) (hn : ns.length < 8) (hm : m = endB s i) (hp : nameB (s.extract i m) = true) (he : m = s.size) : mayB s = true ∧ partsB s = ns ++ [s.extract i m] := by
  obtain ⟨ls, rfl, h⟩ := h
  rw [piece_eq s i m hm] at hp ⊢
  have := h.last (ne_nil s h0) (by simpa using h1) (by simpa using hn) hp (by rw [hm] at he; simpa [endB] using he)
  exact ⟨this.1, by unfold partsB; rw [this.2]; simp⟩
theorem CuttingB.next {s : ByteArray} {i m : Nat} {ns : List ByteArray} (h : CuttingB s i ns) (hn : ns.length < 8) (hm : m = endB s i) (hp : nameB (s.extract i m) = true) (he : m < s.size) : CuttingB s (m + 1) (ns ++ [s.extract i m]) := by
  obtain ⟨ls, rfl, h⟩ := h
  rw [piece_eq s i m hm] at hp ⊢
  subst hm
  exact ⟨ls ++ [pieceL s.data.toList i], by simp, h.next (by simpa using hn) hp (by simpa [endB] using he)⟩

theorem nameEnd_at (s : ByteArray) (i : Nat) (w : World) (hi : i ≤ s.size) (hs : s.size ≤ maxLen) :
    Calls Tryz.prog 124 #[.string s, .int .i64 i] w fun e w' => ∃ m : Nat, e = .returned (.int .i64 m) ∧ w = w' ∧ i ≤ m ∧ m ≤ s.size ∧ Hid (m = endB s i) :=
  (nameEnd_any s i w hi hs).mono fun _ _ ⟨he, hw⟩ => ⟨_, he, hw, endL_ge _ _, by have := endL_le s.data.toList i (by simpa using hi); simpa [endB] using this, rfl⟩

def SplitPost (s : ByteArray) (w : World) (e : Ending) (w' : World) : Prop := ∃ v, e = .returned (.tuple #[v, .bool (mayB s)]) ∧ StrsAt w' v (partsB s) ∧ Q w w'
theorem SplitPost.no {s : ByteArray} {w w' : World} (h : mayB s = false) (q : Q w w') : SplitPost s w (.returned (.tuple #[.slice none 0 0, .bool false])) w' :=
  ⟨.slice none 0 0, by rw [h], by rw [partsB_no s h]; exact StrsAt.nil_ _, q⟩

theorem SplitPost.yes {s : ByteArray} {v : Value} {w w' : World} (h : mayB s = true) (hv : StrsAt w' v (partsB s)) (q : Q w w') : SplitPost s w (.returned (.tuple #[v, .bool true])) w' :=
  ⟨v, by rw [h], hv, q⟩
set_option maxRecDepth 100000 in
set_option maxHeartbeats 400000 in
theorem split_any (s : ByteArray) (w : World) (hs : s.size ≤ maxLen) : Calls Tryz.prog 91 #[.string s] w (SplitPost s w) := by
  have hs' := hs
  unfold maxLen at hs
  by_cases g1 : s.toList = []
  · have t1 : s.toList.isEmpty = true := List.isEmpty_iff.2 g1
    have E := Lib.hid (mayB_nil s g1)
    clear g1
    go_enter Tryz.func91, Tryz.ntmps91
    go_wp2
    go_step3
    go_wp2
    try simp only [Exit.noGoto_ret]
    go_ret2
    exact SplitPost.yes E.out.1 (by rw [E.out.2]; exact StrsAt.nil_ _) (Q.refl _)
  have t1 : s.toList.isEmpty = false := by simpa using g1
  by_cases g2 : 100 < s.size
  · have E := Lib.hid (mayB_long s g2)
    clear g1
    go_enter Tryz.func91, Tryz.ntmps91
    go_wp2
    go_step3
    go_wp2
    try simp only [Exit.noGoto_ret]
    go_ret2
    exact SplitPost.no E.out (Q.refl _)
  have G1 := Lib.hid g1
  clear g1
  obtain ⟨i0, hi0, hz0, hz1, hz2⟩ := info_parts info_str
  go_enter Tryz.func91, Tryz.ntmps91
  go_wp2
  refine wp_scope_goto 0 (fun a' w' => ∃ (k : Nat) (v : Value) (ns : List ByteArray) (u6 u7 u8 u9 u10 u11 u12 u13 u14 u15 u16 u17 u18 u19 u20 u21 u22 u23 u24 u25 u26 u27 u28 u29 u30 u31 u32 u33 u34 u35 u36 u37 u38 u39 : Value), a' = { tmps := #[.string s, undef, .slice none 0 0, .bool false, v, .int .i64 k, u6, u7, u8, u9, u10, u11, u12, u13, u14, u15, u16, u17, u18, u19, u20, u21, u22, u23, u24, u25, u26, u27, u28, u29, u30, u31, u32, u33, u34, u35, u36, u37, u38, u39], defers := [] } ∧ k ≤ s.size ∧ w'.ownsRow w.heap.size 9 1 v ns.length (ns.map Value.string) ∧ Q w w' ∧ Hid (CuttingB s k ns)) (fun a' _ => s.size + 1 - (intOf (a'.tmps.getD 5 undef)).toNat) rfl ?_ ?_
  · intro hh
    go_wp2
    go_step3
    rename_i hK
    exact hK _ _ (hh.out _ _ ⟨0, _, [], _, _, _, _, _, _, _, _, _, _, _, _, _, _, _, _, _, _, _, _, _, _, _, _, _, _, _, _, _, _, _, _, _, _, rfl, by omega, World.ownsRow_nil _ _ _ _, Q.refl _, CuttingB.start s⟩)
  · rintro a' wr ⟨k, v, ns, u6, u7, u8, u9, u10, u11, u12, u13, u14, u15, u16, u17, u18, u19, u20, u21, u22, u23, u24, u25, u26, u27, u28, u29, u30, u31, u32, u33, u34, u35, u36, u37, u38, u39, rfl, hk, hown, hq, H⟩
    obtain ⟨A, c, rfl⟩ := own_form hown
    go_wp2_with fail
    refine (nameEnd_at s k _ hk hs').mono ?_
    rintro e w1 ⟨m, rfl, rfl, h1, h2, hm⟩
    have hn8 := H.out.le8
    by_cases h8 : ns.length = 8
    · have t8 : ((ns.length : Int) == 8) = true := beq_iff_eq.2 (by omega)
      have E := Lib.hid (H.out.full G1.out h8)
      clear h8
      go_wp2
      simp only [Exit.jump]
      go_ret2
      exact SplitPost.no E.out hq
    have t8 : ((ns.length : Int) == 8) = false := beq_eq_false_iff_ne.2 (by omega)
    go_wp2_with fail
    refine (name_any (s.extract k m) _ (by unfold maxLen; simp; omega)).mono ?_
    rintro e w1 ⟨rfl, rfl⟩
    cases hN : nameB (s.extract k m)
    · have E := Lib.hid (H.out.bad G1.out hm.out hN)
      clear hN
      go_wp2
      simp only [Exit.jump]
      go_ret2
      exact SplitPost.no E.out hq
    have HN := Lib.hid hN
    clear hN
    have hsz := hq.size
    go_wp2_with (at_builtin; refine wpList_append_own_d _ rfl (.tmp 26) (.tmp 31) 26 rfl w.heap.size 9 i0 _ 1 16 Tryz.underlying26 hi0 hz0 hz1 hz2 rfl (by decide) _ ns.length _ rfl (hown.alloc _) ⟨wr.heap.size, 0, none⟩ 1 1 [.string (s.extract k m)] rfl rfl ?c1 ?c2 ?c3 ?c4 ?c5 ?_)
    case c1 => exact cell_one_new _ _ _
    case c2 => intro u hu; rw [List.mem_singleton.1 hu]; rfl
    case c3 => unfold maxLen; omega
    case c4 => omega
    case c5 => rw [World.size_alloc]; omega
    intro v2 w2 hown2 hg2 hd2
    have hq2 : Q w w2 := Q.grown (hq.alloc _) hg2 hd2 fun g hg => (hown.lt g hg).1
    rw [show ns.length + 1 = (ns ++ [s.extract k m]).length from by simp, show ns.map Value.string ++ [.string (s.extract k m)] = (ns ++ [s.extract k m]).map Value.string from by simp] at hown2
    clear hg2 hd2 hown hi0 hz0 hz1 hz2 hsz
    by_cases he : m = s.size
    · have t9 : ((m : Int) == (s.size : Int)) = true := beq_iff_eq.2 (by omega)
      have E := Lib.hid (H.out.last G1.out (by omega) (by omega) hm.out HN.out he)
      clear he
      go_wp2
      simp only [Exit.jump]
      go_ret2
      exact SplitPost.yes E.out.1 (by rw [E.out.2]; exact StrsAt.of_own hown2) hq2
    · have t9 : ((m : Int) == (s.size : Int)) = false := beq_eq_false_iff_ne.2 (by omega)
      have E : Hid (CuttingB s (m + 1) (ns ++ [s.extract k m])) := H.out.next (by omega) hm.out HN.out (by omega)
      generalize ns ++ [s.extract k m] = ns2 at hown2 E
      go_wp2
      go_step3
      exact ⟨rfl, ⟨m + 1, v2, ns2, _, _, _, _, _, _, _, _, _, _, _, _, _, _, _, _, _, _, _, _, _, _, _, _, _, _, _, _, _, _, _, _, _, _, rfl, by omega, hown2, hq2, E⟩, by simp [intOf]; omega⟩
end Go.Proofs.YtgbenepapajieaaGreat.Pa
namespace Go.Proofs.YtgbenepapajieaaGreat.Pa
open Go.RowKit
open Pth

def CutRel (s : ByteArray) (f k : Nat) (ns : List ByteArray) : Prop :=
  (∃ ls, ns = ls.map mkB ∧ CutAt s.data.toList f k ls) ∨ (k = s.size + 1 ∧ ns = cutB s)
theorem CutRel.start (s : ByteArray) : CutRel s 0 0 [] := .inl ⟨[], rfl, CutAt.start _⟩
theorem CutRel.le {s : ByteArray} {f k : Nat} {ns : List ByteArray} (h : CutRel s f k ns) (hk : k ≤ s.size) : f ≤ k := by
  rcases h with ⟨ls, _, h⟩ | ⟨h, _⟩
  · exact h.1
  · omega
theorem CutRel.done {s : ByteArray} {f k : Nat} {ns : List ByteArray} (h : CutRel s f k ns) (hk : ¬ k ≤ s.size) : ns = cutB s := by
  rcases h with ⟨ls, _, h⟩ | ⟨_, h⟩
  · have := h.2.1; simp at this; omega
  · exact h
theorem CutRel.skip {s : ByteArray} {f k : Nat} {ns : List ByteArray} (h : CutRel s f k ns) (hk : k < s.size) (hc : s[k] ≠ 47) : CutRel s f (k + 1) ns := by
  rcases h with ⟨ls, e, h⟩ | ⟨h, _⟩
  · exact .inl ⟨ls, e, h.skip (by simpa using hk) hc⟩
  · omega
theorem CutRel.next {s : ByteArray} {f k : Nat} {ns : List ByteArray} (h : CutRel s f k ns) (hk : k < s.size) (hc : s[k] = 47) : CutRel s (k + 1) (k + 1) (ns ++ [s.extract f k]) := by
  rcases h with ⟨ls, rfl, h⟩ | ⟨h, _⟩
  · exact .inl ⟨ls ++ [(s.data.toList.drop f).take (k - f)], by simp [extract_mkB], h.next (by simpa using hk) hc⟩
  · omega
theorem CutRel.last {s : ByteArray} {f k : Nat} {ns : List ByteArray} (h : CutRel s f k ns) (hk : k = s.size) : CutRel s (k + 1) (k + 1) (ns ++ [s.extract f k]) := by
  rcases h with ⟨ls, rfl, h⟩ | ⟨h, _⟩
  · refine .inr ⟨by omega, ?_⟩
    unfold cutB
    rw [h.last (by simpa using hk), extract_mkB]
    simp
  · omega

def CutPost (s : ByteArray) (w : World) (e : Ending) (w' : World) : Prop := ∃ v, e = .returned v ∧ StrsAt w' v (cutB s) ∧ Q w w'

set_option maxRecDepth 100000 in
set_option maxHeartbeats 400000 in
theorem cut_any (s : ByteArray) (w : World) (hs : s.size ≤ 100000) : Calls Tryz.prog 69 #[.string s] w (CutPost s w) := by
  obtain ⟨i0, hi0, hz0, hz1, hz2⟩ := info_parts info_str
  go_enter Tryz.func69, Tryz.ntmps69
  go_wp2
  go_loopw [3, 4, 5] (fun v f i wr => ∃ (k m : Nat) (ns : List ByteArray), i = .int .i64 k ∧ f = .int .i64 m ∧ k ≤ s.size + 1 ∧ wr.ownsRow w.heap.size 9 1 v ns.length (ns.map Value.string) ∧ Q w wr ∧ ns.length ≤ k ∧ Hid (CutRel s m k ns)) (fun _ _ i _ => s.size + 1 - (intOf i).toNat)
  case atStart => exact ⟨0, 0, [], rfl, rfl, by omega, World.ownsRow_nil _ _ _ _, Q.refl _, by simp, CutRel.start s⟩
  case round =>
    obtain ⟨k, m, ns, rfl, rfl, hk, hown, hq, hn, H⟩ := hrel
    by_cases hle : k ≤ s.size
    · have hmk := H.out.le hle
      obtain ⟨A, c, rfl⟩ := own_form hown
      have hsz := hq.size
      by_cases he : k = s.size
      · have t1 : ((k : Int) == (s.size : Int)) = true := beq_iff_eq.2 (by omega)
        have E : Hid (CutRel s (k + 1) (k + 1) (ns ++ [s.extract m k])) := H.out.last he
        clear he
        go_wp2_with (at_builtin; refine wpList_append_own_d _ rfl (.tmp 22) (.tmp 27) 26 rfl w.heap.size 9 i0 _ 1 16 Tryz.underlying26 hi0 hz0 hz1 hz2 rfl (by decide) _ ns.length _ rfl (hown.alloc _) ⟨_, 0, none⟩ 1 1 [.string (s.extract m k)] rfl rfl ?c1 ?c2 ?c3 ?c4 ?c5 ?_)
        case c1 => exact cell_one_new _ _ _
        case c2 => intro u hu; rw [List.mem_singleton.1 hu]; rfl
        case c3 => unfold maxLen; omega
        case c4 => omega
        case c5 => rw [World.size_alloc]; omega
        intro v2 w2 hown2 hg2 hd2
        have hq2 : Q w w2 := Q.grown (hq.alloc _) hg2 hd2 fun g hg => (hown.lt g hg).1
        rw [show ns.length + 1 = (ns ++ [s.extract m k]).length from by simp, show ns.map Value.string ++ [.string (s.extract m k)] = (ns ++ [s.extract m k]).map Value.string from by simp] at hown2
        have hl2 : (ns ++ [s.extract m k]).length ≤ k + 1 := by simp; omega
        generalize ns ++ [s.extract m k] = ns2 at hown2 E hl2
        clear hg2 hd2 hown hsz t1
        go_wp2
        go_roundw
        case rel => exact ⟨k + 1, k + 1, ns2, by go_num, by go_num, by omega, hown2, hq2, hl2, E⟩
        case measure => simp [intOf]; omega
      have t1 : ((k : Int) == (s.size : Int)) = false := beq_eq_false_iff_ne.2 (by omega)
      have hlt : k < s.size := by omega
      by_cases hc : s[k] = 47
      · have t2 : ((s[k].toNat : Int) == 47) = true := u8_eq 47 hc
        have E : Hid (CutRel s (k + 1) (k + 1) (ns ++ [s.extract m k])) := H.out.next hlt hc
        clear he hc
        go_wp2_with (at_builtin; refine wpList_append_own_d _ rfl (.tmp 22) (.tmp 27) 26 rfl w.heap.size 9 i0 _ 1 16 Tryz.underlying26 hi0 hz0 hz1 hz2 rfl (by decide) _ ns.length _ rfl (hown.alloc _) ⟨_, 0, none⟩ 1 1 [.string (s.extract m k)] rfl rfl ?c1 ?c2 ?c3 ?c4 ?c5 ?_)
        case c1 => exact cell_one_new _ _ _
        case c2 => intro u hu; rw [List.mem_singleton.1 hu]; rfl
        case c3 => unfold maxLen; omega
        case c4 => omega
        case c5 => rw [World.size_alloc]; omega
        intro v2 w2 hown2 hg2 hd2
        have hq2 : Q w w2 := Q.grown (hq.alloc _) hg2 hd2 fun g hg => (hown.lt g hg).1
        rw [show ns.length + 1 = (ns ++ [s.extract m k]).length from by simp, show ns.map Value.string ++ [.string (s.extract m k)] = (ns ++ [s.extract m k]).map Value.string from by simp] at hown2
        have hl2 : (ns ++ [s.extract m k]).length ≤ k + 1 := by simp; omega
        generalize ns ++ [s.extract m k] = ns2 at hown2 E hl2
        clear hg2 hd2 hown hsz t1 t2
        go_wp2
        go_roundw
        case rel => exact ⟨k + 1, k + 1, ns2, by go_num, by go_num, by omega, hown2, hq2, hl2, E⟩
        case measure => simp [intOf]; omega
      · have t2 : ((s[k].toNat : Int) == 47) = false := u8_ne 47 hc
        have E : Hid (CutRel s m (k + 1) ns) := H.out.skip hlt hc
        clear he hc
        go_wp2
        go_roundw
        case rel => exact ⟨k + 1, m, ns, by go_num, rfl, by omega, hown, hq, by omega, E⟩
        case measure => simp [intOf]; omega
    · have E := Lib.hid (H.out.done hle)
      go_wp2
      go_ret
      exact ⟨_, rfl, by rw [← E.out]; exact StrsAt.of_own hown, hq⟩
end Go.Proofs.YtgbenepapajieaaGreat.Pa
namespace Go.Proofs.YtgbenepapajieaaGreat.Pa
open Go.RowKit
open Pth

theorem partsB_len (s : ByteArray) : (partsB s).length = (partsL s.data.toList).length := by unfold partsB; simp
theorem depthB_yes (s : ByteArray) (h : mayB s = true) : depthB s = ((partsB s).length : Int) := by
  unfold mayB at h
  unfold depthB depthL
  rw [h, partsB_len]
  rfl
theorem depthB_no (s : ByteArray) (h : mayB s = false) : depthB s = -1 := by
  unfold mayB at h
  unfold depthB depthL
  rw [h]
  rfl
theorem lastB_none (s : ByteArray) (h : (partsB s).length = 0) : lastB s = ⟨#[]⟩ := by
  rw [partsB_len] at h
  unfold lastB lastL
  rw [List.eq_nil_of_length_eq_zero h]
  rfl
theorem lastB_some (s : ByteArray) (h : 0 < (partsB s).length) : (partsB s)[(partsB s).length - 1]? = some (lastB s) := by
  have h' : 0 < (partsL s.data.toList).length := by rw [partsB_len] at h; exact h
  unfold lastB lastL partsB
  rw [List.getElem?_map, List.length_map, List.getLast?_eq_getElem?, List.getElem?_eq_getElem (by omega)]
  rfl
theorem parts_names (l : List UInt8) : (partsL l).all nameL = true := by
  unfold partsL
  split
  · rfl
  · rename_i h
    have h0 : l.isEmpty = false := by cases hl : l.isEmpty <;> simp_all
    have h1 : mayL l = true := by cases hl : mayL l <;> simp_all
    unfold mayL at h1
    rw [h0, Bool.false_or] at h1
    simp only [Bool.and_eq_true] at h1
    exact h1.2
theorem name_long {l : List UInt8} (h : nameL l = true) : 1 ≤ l.length ∧ l.length ≤ 20 := by
  unfold nameL at h
  simp only [Bool.and_eq_true, decide_eq_true_eq] at h
  exact ⟨h.1.1.1.1, h.1.1.1.2⟩
theorem size_mkB (l : List UInt8) : (mkB l).size = l.length := rfl
theorem lastB_long (s : ByteArray) (h : 0 < (partsB s).length) : 1 ≤ (lastB s).size ∧ (lastB s).size ≤ 20 := by
  have h' : 0 < (partsL s.data.toList).length := by rw [partsB_len] at h; exact h
  have hm : lastL s.data.toList ∈ partsL s.data.toList := by
    unfold lastL
    rw [List.getLast?_eq_getElem?, List.getElem?_eq_getElem (by omega)]
    exact List.getElem_mem _
  have := name_long (List.all_eq_true.1 (parts_names s.data.toList) _ hm)
  unfold lastB
  rw [size_mkB]
  exact this
theorem hasParentB_none (s : ByteArray) (h : (partsB s).length = 0) : hasParentB s = false ∧ parentB s = ⟨#[]⟩ := by
  rw [partsB_len] at h
  have e := List.eq_nil_of_length_eq_zero h
  unfold hasParentB hasParentL parentB parentL
  rw [e]
  exact ⟨rfl, rfl⟩
theorem hasParentB_some (s : ByteArray) (h : 0 < (partsB s).length) : hasParentB s = true ∧ parentB s = s.extract 0 (s.size - (lastB s).size - 1) := by
  have h' : 0 < (partsL s.data.toList).length := by rw [partsB_len] at h; exact h
  have e : (partsL s.data.toList).isEmpty = false := by cases hp : partsL s.data.toList with
    | nil => rw [hp] at h'; simp at h'
    | cons => rfl
  unfold hasParentB hasParentL parentB parentL
  rw [e, extract_mkB]
  refine ⟨rfl, ?_⟩
  have e1 : s.data.toList.length = s.size := by simp
  have e2 : (lastB s).size = (lastL s.data.toList).length := by unfold lastB; rw [size_mkB]
  rw [e2, ← e1]
  simp
theorem bs_eq {a b : ByteArray} (h : a.data.toList = b.data.toList) : a = b := by
  have := congrArg mkB h
  simpa [mkB_data] using this
theorem size_list (s : ByteArray) : s.data.toList.length = s.size := by simp

/-- The library asks whether a text begins with another. -/
def prefB (s p : ByteArray) : Bool := p.data.toList.isPrefixOf s.data.toList
theorem prefB_short (s p : ByteArray) (h : s.size < p.size) : prefB s p = false := by
  unfold prefB
  cases hb : p.data.toList.isPrefixOf s.data.toList with
  | false => rfl
  | true =>
    have := (List.isPrefixOf_iff_prefix.1 hb).length_le
    rw [size_list, size_list] at this
    omega
theorem prefB_cut (s p : ByteArray) : prefB s p = ((s.extract 0 p.size).toList == p.toList) := by
  unfold prefB
  rw [ByteArray.toList_eq, ByteArray.toList_eq, extract_mkB, mkB_list, List.drop_zero, Nat.sub_zero, ← size_list p]
  rw [Bool.eq_iff_iff, List.isPrefixOf_iff_prefix, List.prefix_iff_eq_take, beq_iff_eq]
  exact ⟨fun h => h.symm, fun h => h.symm⟩
end Go.Proofs.YtgbenepapajieaaGreat.Pa
namespace Go.Proofs.YtgbenepapajieaaGreat.Pa
open Go.RowKit
open Pth

theorem ret_sb {a a' : ByteArray} {b b' : Bool} (h : a = a') (h' : b = b') : Ending.returned (.tuple #[.string a, .bool b]) = .returned (.tuple #[.string a', .bool b']) := by rw [h, h']
theorem ret_si {k : IntKind} {a a' : ByteArray} {b b' : Int} (h : a = a') (h' : b = b') : Ending.returned (.tuple #[.string a, .int k b]) = .returned (.tuple #[.string a', .int k b']) := by rw [h, h']
theorem data_app (a b : ByteArray) : (a ++ b).data.toList = a.data.toList ++ b.data.toList := by simp [ByteArray.data_append]
theorem empty_iff (s : ByteArray) : s.toList.isEmpty = s.data.toList.isEmpty := by rw [ByteArray.toList_eq]
theorem not_empty {s : ByteArray} (h : 1 ≤ s.size) : s.toList.isEmpty = false := by
  rw [empty_iff]
  cases hl : s.data.toList with
  | nil => rw [← size_list, hl] at h; simp at h
  | cons => rfl
theorem is_empty {s : ByteArray} (h : s = ⟨#[]⟩) : s.toList.isEmpty = true := by rw [empty_iff, h]; rfl
theorem underB_no1 (s t : ByteArray) (h : mayB s = false) : underB s t = false := by
  unfold mayB at h; unfold underB underL; rw [h]; rfl
theorem underB_no2 (s t : ByteArray) (h : mayB t = false) : underB s t = false := by
  unfold mayB at h; unfold underB underL; rw [h, Bool.and_false]; rfl
theorem underB_yes (s t : ByteArray) (h1 : mayB s = true) (h2 : mayB t = true) : underB s t = (t.toList.isEmpty || s.toList == t.toList || prefB s (t ++ ⟨#[47]⟩)) := by
  unfold mayB at h1 h2
  unfold underB underL prefB
  rw [h1, h2, data_app, ByteArray.toList_eq, ByteArray.toList_eq]
  rfl
theorem mayB_size (s : ByteArray) (h : mayB s = true) : s.size ≤ 100 := by
  unfold mayB mayL at h
  rw [← size_list s]
  rcases Bool.or_eq_true _ _ ▸ h with h | h
  · rw [List.isEmpty_iff.1 h]; simp
  · simp only [Bool.and_eq_true, decide_eq_true_eq] at h
    exact h.1.1
theorem nameB_size (s : ByteArray) (h : nameB s = true) : 1 ≤ s.size ∧ s.size ≤ 20 := by
  have := name_long h
  rw [size_list] at this
  exact this
theorem joinB_bad (a b : ByteArray) (h : mayB a = false ∨ nameB b = false) : joinErrB a b = 1 ∧ joinB a b = ⟨#[]⟩ := by
  have e : joinErrL a.data.toList b.data.toList = 1 := by
    unfold joinErrL
    rcases h with h | h
    · unfold mayB at h; rw [h]; rfl
    · unfold nameB at h; rw [h]; simp
  unfold joinErrB joinB joinL
  rw [e]
  exact ⟨rfl, rfl⟩
theorem joinB_of (a b s : ByteArray) (h1 : mayB a = true) (h2 : nameB b = true) (hs : s.data.toList = joinedL a.data.toList b.data.toList) :
    (mayB s = true → joinErrB a b = 0 ∧ joinB a b = s) ∧ (mayB s = false → joinErrB a b = 2 ∧ joinB a b = ⟨#[]⟩) := by
  unfold mayB at h1 ⊢
  unfold nameB at h2
  unfold joinErrB joinB joinL joinErrL
  rw [h1, h2, hs]
  refine ⟨fun h => ?_, fun h => ?_⟩
  · rw [h, ← hs]
    exact ⟨rfl, rfl⟩
  · rw [h]
    exact ⟨rfl, rfl⟩
theorem joined_top (a b : ByteArray) (h : a.toList.isEmpty = true) : b.data.toList = joinedL a.data.toList b.data.toList := by
  rw [empty_iff] at h
  unfold joinedL
  rw [h]
  rfl
theorem joined_in (a b : ByteArray) (h : a.toList.isEmpty = false) : (a ++ ⟨#[47]⟩ ++ b).data.toList = joinedL a.data.toList b.data.toList := by
  rw [empty_iff] at h
  unfold joinedL
  rw [h, data_app, data_app]
  simp

/-- Less stands at i: the names before are the same. -/
def LessAt (a b : ByteArray) (i : Nat) : Prop := i ≤ (partsB a).length ∧ i ≤ (partsB b).length ∧ lessB a b = lessP ((partsL a.data.toList).drop i) ((partsL b.data.toList).drop i)
theorem LessAt.start (a b : ByteArray) : LessAt a b 0 := ⟨by omega, by omega, rfl⟩
theorem partsB_get (s : ByteArray) (i : Nat) (h : i < (partsB s).length) : (partsB s)[i].toList = (partsL s.data.toList)[i]'(by rw [partsB_len] at h; exact h) := by
  have e : (partsB s)[i] = mkB ((partsL s.data.toList)[i]'(by rw [partsB_len] at h; exact h)) := by simp [partsB]
  rw [e, ByteArray.toList_eq, mkB_list]
theorem LessAt.same {a b : ByteArray} {i : Nat} (h : LessAt a b i) (h1 : i < (partsB a).length) (h2 : i < (partsB b).length) (he : (partsB a)[i].toList = (partsB b)[i].toList) : LessAt a b (i + 1) := by
  refine ⟨h1, h2, ?_⟩
  rw [partsB_get a i h1, partsB_get b i h2] at he
  rw [partsB_len] at h1 h2
  rw [h.2.2, List.drop_eq_getElem_cons h1, List.drop_eq_getElem_cons h2, lessP, he]
  simp
theorem LessAt.diff {a b : ByteArray} {i : Nat} (h : LessAt a b i) (h1 : i < (partsB a).length) (h2 : i < (partsB b).length) (he : ¬ (partsB a)[i].toList = (partsB b)[i].toList) : lessB a b = Op.bytesLess (partsB a)[i].toList (partsB b)[i].toList := by
  rw [partsB_get a i h1, partsB_get b i h2] at he ⊢
  rw [partsB_len] at h1 h2
  rw [h.2.2, List.drop_eq_getElem_cons h1, List.drop_eq_getElem_cons h2, lessP]
  simp [he]
theorem LessAt.stop {a b : ByteArray} {i : Nat} (h : LessAt a b i) (he : i = (partsB a).length ∨ i = (partsB b).length) : lessB a b = decide ((partsB a).length < (partsB b).length) := by
  obtain ⟨h1, h2, h3⟩ := h
  rw [partsB_len] at h1 h2 he ⊢
  rw [partsB_len] at he ⊢
  rw [h3]
  generalize partsL a.data.toList = x at *
  generalize partsL b.data.toList = y at *
  by_cases hy : i = y.length
  · rw [hy, List.drop_length]
    have : decide (x.length < y.length) = false := decide_eq_false (by omega)
    rw [this]
    unfold lessP
    rfl
  · rcases he with he | he
    · rw [he, List.drop_length, List.drop_eq_getElem_cons (by omega)]
      have : decide (x.length < y.length) = true := decide_eq_true (by omega)
      rw [this]
      rfl
    · omega
end Go.Proofs.YtgbenepapajieaaGreat.Pa
