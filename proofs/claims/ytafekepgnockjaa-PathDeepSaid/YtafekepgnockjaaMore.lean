/-
  Plain facts on last names, parents, prefixes, over byte arrays.
-/
import Derived.Test.YtafekepgnockjaaCut
namespace Go.Proofs.Ytafekepgnockjaa
open Go.RowKit
open Pth

theorem partsB_len (s : ByteArray) : (partsB s).length = (partsL s.data.toList).length := by unfold partsB; simp
theorem depthB_yes (s : ByteArray) (h : mayB s = true) : depthB s = ((partsB s).length : Int) := by
  unfold mayB at h
  unfold depthB depthL
  rw [h, partsB_len]
  rfl
theorem depthB_no (s : ByteArray) (h : mayB s = false) : depthB s = -1 := by
  unfold mayB at h
  unfold depthB depthL
  rw [h]
  rfl
theorem lastB_none (s : ByteArray) (h : (partsB s).length = 0) : lastB s = ⟨#[]⟩ := by
  rw [partsB_len] at h
  unfold lastB lastL
  rw [List.eq_nil_of_length_eq_zero h]
  rfl
theorem lastB_some (s : ByteArray) (h : 0 < (partsB s).length) : (partsB s)[(partsB s).length - 1]? = some (lastB s) := by
  have h' : 0 < (partsL s.data.toList).length := by rw [partsB_len] at h; exact h
  unfold lastB lastL partsB
  rw [List.getElem?_map, List.length_map, List.getLast?_eq_getElem?, List.getElem?_eq_getElem (by omega)]
  rfl
theorem parts_names (l : List UInt8) : (partsL l).all nameL = true := by
  unfold partsL
  split
  · rfl
  · rename_i h
    have h0 : l.isEmpty = false := by cases hl : l.isEmpty <;> simp_all
    have h1 : mayL l = true := by cases hl : mayL l <;> simp_all
    unfold mayL at h1
    rw [h0, Bool.false_or] at h1
    simp only [Bool.and_eq_true] at h1
    exact h1.2
theorem name_long {l : List UInt8} (h : nameL l = true) : 1 ≤ l.length ∧ l.length ≤ 20 := by
  unfold nameL at h
  simp only [Bool.and_eq_true, decide_eq_true_eq] at h
  exact ⟨h.1.1.1.1, h.1.1.1.2⟩
theorem size_mkB (l : List UInt8) : (mkB l).size = l.length := rfl
theorem lastB_long (s : ByteArray) (h : 0 < (partsB s).length) : 1 ≤ (lastB s).size ∧ (lastB s).size ≤ 20 := by
  have h' : 0 < (partsL s.data.toList).length := by rw [partsB_len] at h; exact h
  have hm : lastL s.data.toList ∈ partsL s.data.toList := by
    unfold lastL
    rw [List.getLast?_eq_getElem?, List.getElem?_eq_getElem (by omega)]
    exact List.getElem_mem _
  have := name_long (List.all_eq_true.1 (parts_names s.data.toList) _ hm)
  unfold lastB
  rw [size_mkB]
  exact this
theorem hasParentB_none (s : ByteArray) (h : (partsB s).length = 0) : hasParentB s = false ∧ parentB s = ⟨#[]⟩ := by
  rw [partsB_len] at h
  have e := List.eq_nil_of_length_eq_zero h
  unfold hasParentB hasParentL parentB parentL
  rw [e]
  exact ⟨rfl, rfl⟩
theorem hasParentB_some (s : ByteArray) (h : 0 < (partsB s).length) : hasParentB s = true ∧ parentB s = s.extract 0 (s.size - (lastB s).size - 1) := by
  have h' : 0 < (partsL s.data.toList).length := by rw [partsB_len] at h; exact h
  have e : (partsL s.data.toList).isEmpty = false := by cases hp : partsL s.data.toList with
    | nil => rw [hp] at h'; simp at h'
    | cons => rfl
  unfold hasParentB hasParentL parentB parentL
  rw [e, extract_mkB]
  refine ⟨rfl, ?_⟩
  have e1 : s.data.toList.length = s.size := by simp
  have e2 : (lastB s).size = (lastL s.data.toList).length := by unfold lastB; rw [size_mkB]
  rw [e2, ← e1]
  simp
theorem bs_eq {a b : ByteArray} (h : a.data.toList = b.data.toList) : a = b := by
  have := congrArg mkB h
  simpa [mkB_data] using this
theorem size_list (s : ByteArray) : s.data.toList.length = s.size := by simp

/-- The library asks whether a text begins with another. -/
def prefB (s p : ByteArray) : Bool := p.data.toList.isPrefixOf s.data.toList
theorem prefB_short (s p : ByteArray) (h : s.size < p.size) : prefB s p = false := by
  unfold prefB
  cases hb : p.data.toList.isPrefixOf s.data.toList with
  | false => rfl
  | true =>
    have := (List.isPrefixOf_iff_prefix.1 hb).length_le
    rw [size_list, size_list] at this
    omega
theorem prefB_cut (s p : ByteArray) : prefB s p = ((s.extract 0 p.size).toList == p.toList) := by
  unfold prefB
  rw [ByteArray.toList_eq, ByteArray.toList_eq, extract_mkB, mkB_list, List.drop_zero, Nat.sub_zero, ← size_list p]
  rw [Bool.eq_iff_iff, List.isPrefixOf_iff_prefix, List.prefix_iff_eq_take, beq_iff_eq]
  exact ⟨fun h => h.symm, fun h => h.symm⟩
end Go.Proofs.Ytafekepgnockjaa
