/-
  Plain facts on a made path and its parents: what PathJoins asks.
-/
import Derived.Test.YtafekepgnockjaaMadeFacts
namespace Go.Proofs.Ytafekepgnockjaa
open Go.RowKit
open Pth

theorem joinN_take_len (ns : List (List UInt8)) (j : Nat) : (joinN (ns.take j)).length ≤ (joinN ns).length := by
  by_cases h : ns.drop j = []
  · rw [show ns.take j = ns from by have := List.take_append_drop j ns; rw [h, List.append_nil] at this; exact this]
    exact Nat.le_refl _
  · by_cases h2 : ns.take j = []
    · rw [h2]; exact Nat.zero_le _
    · have e : ns = ns.take j ++ ns.drop j := (List.take_append_drop j ns).symm
      conv => rhs; rw [e]
      rw [joinN_append _ _ h2 h]
      simp
/-- The path of the first j names. -/
def preB (ns : List (List UInt8)) (j : Nat) : ByteArray := mkB (joinN (ns.take j))
structure Good (ns : List (List UInt8)) : Prop where
  names : ns.all nameL = true
  eight : ns.length ≤ 8
  short : (joinN ns).length ≤ 100
theorem Good.take {ns : List (List UInt8)} (h : Good ns) (j : Nat) : Good (ns.take j) :=
  ⟨by rw [List.all_eq_true]; exact fun a ha => List.all_eq_true.1 h.names a (List.mem_of_mem_take ha), by have := h.eight; rw [List.length_take]; omega, Nat.le_trans (joinN_take_len ns j) h.short⟩
theorem Good.may {ns : List (List UInt8)} (h : Good ns) : mayL (joinN ns) = true := by
  rw [may_joinN ns h.names]
  simp [h.eight, h.short]
theorem Good.parts {ns : List (List UInt8)} (h : Good ns) : partsL (joinN ns) = ns := parts_joinN ns h.names h.may
theorem pre_may {ns : List (List UInt8)} (h : Good ns) (j : Nat) : mayB (preB ns j) = true := (h.take j).may
theorem pre_parts {ns : List (List UInt8)} (h : Good ns) (j : Nat) : partsL (preB ns j).data.toList = ns.take j := (h.take j).parts
theorem pre_size {ns : List (List UInt8)} (h : Good ns) (j : Nat) : (preB ns j).size ≤ 100 := mayB_size _ (pre_may h j)
theorem pre_depth {ns : List (List UInt8)} (h : Good ns) (j : Nat) (hj : j ≤ ns.length) : depthB (preB ns j) = (j : Int) := by
  rw [depthB_yes _ (pre_may h j), partsB_len, pre_parts h j, List.length_take]
  congr 1
  omega
theorem pre_under {ns : List (List UInt8)} (h : Good ns) (i j : Nat) (hi : i ≤ ns.length) (hj : j ≤ ns.length) : underB (preB ns i) (preB ns j) = decide (j ≤ i) := by
  rw [Bool.eq_iff_iff, underB_iff _ _ (pre_may h i) (pre_may h j), pre_parts h i, pre_parts h j, decide_eq_true_eq]
  constructor
  · intro hp
    have := hp.length_le
    rw [List.length_take, List.length_take] at this
    omega
  · intro hle
    exact List.take_prefix_take_left (by omega)
theorem pre_less {ns : List (List UInt8)} (h : Good ns) (j : Nat) (hj : j < ns.length) : lessB (preB ns j) (preB ns ns.length) = true := by
  unfold lessB lessL
  rw [pre_parts h, pre_parts h, List.take_length]
  conv => lhs; arg 2; rw [← List.take_append_drop j ns]
  exact lp_prefix _ _ (by
    intro e
    have := congrArg List.length e
    rw [List.length_drop] at this
    simp at this
    omega)
theorem take_snoc' {ns : List (List UInt8)} {j : Nat} (hj : j < ns.length) : ns.take (j + 1) = ns.take j ++ [ns[j]] := List.take_succ_eq_append_getElem hj
theorem joined_snoc {x : List (List UInt8)} (h : x.all nameL = true) (a : List UInt8) : joinedL (joinN x) a = joinN (x ++ [a]) := by
  unfold joinedL
  rw [joinN_nil_iff x h]
  cases x with
  | nil => rfl
  | cons b r =>
    rw [joinN_append _ _ (by simp) (by simp)]
    rfl
theorem parent_snoc {x : List (List UInt8)} {a : List UInt8} (h : Good (x ++ [a])) : parentL (joinN (x ++ [a])) = joinN x := by
  have hl : lastL (joinN (x ++ [a])) = a := by
    unfold lastL
    rw [h.parts]
    simp
  unfold parentL
  rw [hl, h.parts]
  have e : (x ++ [a]).isEmpty = false := by simp
  rw [e]
  show List.take ((joinN (x ++ [a])).length - a.length - 1) (joinN (x ++ [a])) = joinN x
  cases x with
  | nil =>
    show List.take (a.length - a.length - 1) a = []
    rw [Nat.sub_self]
    rfl
  | cons b r =>
    rw [joinN_append _ _ (by simp) (by simp)]
    have : (joinN (b :: r) ++ 47 :: joinN [a]).length - a.length - 1 = (joinN (b :: r)).length := by
      rw [List.length_append, List.length_cons]
      show (joinN (b :: r)).length + (a.length + 1) - a.length - 1 = _
      omega
    rw [this]
    exact List.take_left
theorem pre_last {ns : List (List UInt8)} (h : Good ns) (j : Nat) (hj : j < ns.length) : lastB (preB ns (j + 1)) = mkB ns[j] := by
  unfold lastB lastL
  rw [pre_parts h, take_snoc' hj, List.getLast?_concat]
  rfl
theorem pre_parent {ns : List (List UInt8)} (h : Good ns) (j : Nat) (hj : j < ns.length) : parentB (preB ns (j + 1)) = preB ns j ∧ hasParentB (preB ns (j + 1)) = true := by
  have hg := h.take (j + 1)
  unfold parentB hasParentB hasParentL preB
  rw [mkB_list, hg.parts]
  rw [take_snoc' hj] at hg ⊢
  rw [parent_snoc hg]
  refine ⟨rfl, ?_⟩
  generalize ns[j] = a
  generalize List.take j ns = x
  cases x <;> rfl
theorem pre_root (ns : List (List UInt8)) : hasParentB (preB ns 0) = false ∧ parentB (preB ns 0) = ⟨#[]⟩ := ⟨rfl, rfl⟩
theorem pre_join {ns : List (List UInt8)} (h : Good ns) (j : Nat) (hj : j < ns.length) : joinErrB (preB ns j) (mkB ns[j]) = 0 ∧ joinB (preB ns j) (mkB ns[j]) = preB ns (j + 1) := by
  refine (joinB_of (preB ns j) (mkB ns[j]) (preB ns (j + 1)) (pre_may h j) (List.all_eq_true.1 h.names _ (List.getElem_mem hj)) ?_).1 (pre_may h (j + 1))
  unfold preB
  rw [mkB_list, mkB_list, mkB_list, joined_snoc (h.take j).names, take_snoc' hj]
theorem made_pre (zs : List Int) (k : Nat) (h : k ≤ zs.length) (h8 : k ≤ 8) : Good (madeN zs k) ∧ (madeN zs k).length = k ∧ madeB zs k = preB (madeN zs k) k := by
  have hl := madeN_len zs k h
  have hs := madeB_size zs k h
  have he : (joinN (madeN zs k)).length = (madeB zs k).size := (size_mkB _).symm
  refine ⟨⟨madeN_all zs k, by omega, by omega⟩, hl, ?_⟩
  unfold preB madeB
  rw [List.take_of_length_le (by omega)]
theorem pre_empty {ns : List (List UInt8)} (h : Good ns) (j : Nat) (hj : j ≤ ns.length) : (preB ns j).toList.isEmpty = decide (j = 0) := by
  rw [empty_iff]
  unfold preB
  rw [mkB_list, joinN_nil_iff _ (h.take j).names, Bool.eq_iff_iff, List.isEmpty_iff, decide_eq_true_eq]
  constructor
  · intro e
    have := congrArg List.length e
    rw [List.length_take, List.length_nil] at this
    omega
  · intro e
    subst e
    rfl
end Go.Proofs.Ytafekepgnockjaa
