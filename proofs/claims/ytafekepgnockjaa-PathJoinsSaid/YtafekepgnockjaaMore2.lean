/-
  Plain facts on Under, Join, Less, over byte arrays.
-/
import Derived.Test.YtafekepgnockjaaMore
namespace Go.Proofs.Ytafekepgnockjaa
open Go.RowKit
open Pth

theorem ret_sb {a a' : ByteArray} {b b' : Bool} (h : a = a') (h' : b = b') : Ending.returned (.tuple #[.string a, .bool b]) = .returned (.tuple #[.string a', .bool b']) := by rw [h, h']
theorem ret_si {k : IntKind} {a a' : ByteArray} {b b' : Int} (h : a = a') (h' : b = b') : Ending.returned (.tuple #[.string a, .int k b]) = .returned (.tuple #[.string a', .int k b']) := by rw [h, h']
theorem data_app (a b : ByteArray) : (a ++ b).data.toList = a.data.toList ++ b.data.toList := by simp [ByteArray.data_append]
theorem empty_iff (s : ByteArray) : s.toList.isEmpty = s.data.toList.isEmpty := by rw [ByteArray.toList_eq]
theorem not_empty {s : ByteArray} (h : 1 ≤ s.size) : s.toList.isEmpty = false := by
  rw [empty_iff]
  cases hl : s.data.toList with
  | nil => rw [← size_list, hl] at h; simp at h
  | cons => rfl
theorem is_empty {s : ByteArray} (h : s = ⟨#[]⟩) : s.toList.isEmpty = true := by rw [empty_iff, h]; rfl
theorem underB_no1 (s t : ByteArray) (h : mayB s = false) : underB s t = false := by
  unfold mayB at h; unfold underB underL; rw [h]; rfl
theorem underB_no2 (s t : ByteArray) (h : mayB t = false) : underB s t = false := by
  unfold mayB at h; unfold underB underL; rw [h, Bool.and_false]; rfl
theorem underB_yes (s t : ByteArray) (h1 : mayB s = true) (h2 : mayB t = true) : underB s t = (t.toList.isEmpty || s.toList == t.toList || prefB s (t ++ ⟨#[47]⟩)) := by
  unfold mayB at h1 h2
  unfold underB underL prefB
  rw [h1, h2, data_app, ByteArray.toList_eq, ByteArray.toList_eq]
  rfl
theorem mayB_size (s : ByteArray) (h : mayB s = true) : s.size ≤ 100 := by
  unfold mayB mayL at h
  rw [← size_list s]
  rcases Bool.or_eq_true _ _ ▸ h with h | h
  · rw [List.isEmpty_iff.1 h]; simp
  · simp only [Bool.and_eq_true, decide_eq_true_eq] at h
    exact h.1.1
theorem nameB_size (s : ByteArray) (h : nameB s = true) : 1 ≤ s.size ∧ s.size ≤ 20 := by
  have := name_long h
  rw [size_list] at this
  exact this
theorem joinB_bad (a b : ByteArray) (h : mayB a = false ∨ nameB b = false) : joinErrB a b = 1 ∧ joinB a b = ⟨#[]⟩ := by
  have e : joinErrL a.data.toList b.data.toList = 1 := by
    unfold joinErrL
    rcases h with h | h
    · unfold mayB at h; rw [h]; rfl
    · unfold nameB at h; rw [h]; simp
  unfold joinErrB joinB joinL
  rw [e]
  exact ⟨rfl, rfl⟩
theorem joinB_of (a b s : ByteArray) (h1 : mayB a = true) (h2 : nameB b = true) (hs : s.data.toList = joinedL a.data.toList b.data.toList) :
    (mayB s = true → joinErrB a b = 0 ∧ joinB a b = s) ∧ (mayB s = false → joinErrB a b = 2 ∧ joinB a b = ⟨#[]⟩) := by
  unfold mayB at h1 ⊢
  unfold nameB at h2
  unfold joinErrB joinB joinL joinErrL
  rw [h1, h2, hs]
  refine ⟨fun h => ?_, fun h => ?_⟩
  · rw [h, ← hs]
    exact ⟨rfl, rfl⟩
  · rw [h]
    exact ⟨rfl, rfl⟩
theorem joined_top (a b : ByteArray) (h : a.toList.isEmpty = true) : b.data.toList = joinedL a.data.toList b.data.toList := by
  rw [empty_iff] at h
  unfold joinedL
  rw [h]
  rfl
theorem joined_in (a b : ByteArray) (h : a.toList.isEmpty = false) : (a ++ ⟨#[47]⟩ ++ b).data.toList = joinedL a.data.toList b.data.toList := by
  rw [empty_iff] at h
  unfold joinedL
  rw [h, data_app, data_app]
  simp

/-- Less stands at i: the names before are the same. -/
def LessAt (a b : ByteArray) (i : Nat) : Prop := i ≤ (partsB a).length ∧ i ≤ (partsB b).length ∧ lessB a b = lessP ((partsL a.data.toList).drop i) ((partsL b.data.toList).drop i)
theorem LessAt.start (a b : ByteArray) : LessAt a b 0 := ⟨by omega, by omega, rfl⟩
theorem partsB_get (s : ByteArray) (i : Nat) (h : i < (partsB s).length) : (partsB s)[i].toList = (partsL s.data.toList)[i]'(by rw [partsB_len] at h; exact h) := by
  have e : (partsB s)[i] = mkB ((partsL s.data.toList)[i]'(by rw [partsB_len] at h; exact h)) := by simp [partsB]
  rw [e, ByteArray.toList_eq, mkB_list]
theorem LessAt.same {a b : ByteArray} {i : Nat} (h : LessAt a b i) (h1 : i < (partsB a).length) (h2 : i < (partsB b).length) (he : (partsB a)[i].toList = (partsB b)[i].toList) : LessAt a b (i + 1) := by
  refine ⟨h1, h2, ?_⟩
  rw [partsB_get a i h1, partsB_get b i h2] at he
  rw [partsB_len] at h1 h2
  rw [h.2.2, List.drop_eq_getElem_cons h1, List.drop_eq_getElem_cons h2, lessP, he]
  simp
theorem LessAt.diff {a b : ByteArray} {i : Nat} (h : LessAt a b i) (h1 : i < (partsB a).length) (h2 : i < (partsB b).length) (he : ¬ (partsB a)[i].toList = (partsB b)[i].toList) : lessB a b = Op.bytesLess (partsB a)[i].toList (partsB b)[i].toList := by
  rw [partsB_get a i h1, partsB_get b i h2] at he ⊢
  rw [partsB_len] at h1 h2
  rw [h.2.2, List.drop_eq_getElem_cons h1, List.drop_eq_getElem_cons h2, lessP]
  simp [he]
theorem LessAt.stop {a b : ByteArray} {i : Nat} (h : LessAt a b i) (he : i = (partsB a).length ∨ i = (partsB b).length) : lessB a b = decide ((partsB a).length < (partsB b).length) := by
  obtain ⟨h1, h2, h3⟩ := h
  rw [partsB_len] at h1 h2 he ⊢
  rw [partsB_len] at he ⊢
  rw [h3]
  generalize partsL a.data.toList = x at *
  generalize partsL b.data.toList = y at *
  by_cases hy : i = y.length
  · rw [hy, List.drop_length]
    have : decide (x.length < y.length) = false := decide_eq_false (by omega)
    rw [this]
    unfold lessP
    rfl
  · rcases he with he | he
    · rw [he, List.drop_length, List.drop_eq_getElem_cons (by omega)]
      have : decide (x.length < y.length) = true := decide_eq_true (by omega)
      rw [this]
      rfl
    · omega
end Go.Proofs.Ytafekepgnockjaa
