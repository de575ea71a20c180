/-
  Lists of one user's, one group's entry and a mask: whom they let.
-/
import Derived.Test.YtcbgchohcinecaaDoorTold
namespace Go.Proofs.YtcbgchohcinecaaDoor
open Go.RowKit

abbrev L3 (x y m : Int) : List Ace := [(1, 5, x), (2, 6, y), (3, 0, m)]
theorem may3 (x y m : Int) (hx : 0 ≤ x ∧ x ≤ 7) (hy : 0 ≤ y ∧ y ≤ 7) (hm : 0 ≤ m ∧ m ≤ 7) : mayB (L3 x y m) = true := by
  refine decide_eq_true ⟨by simp, ?_, ?_, ?_⟩
  · intro z hz
    simp only [List.mem_cons, List.not_mem_nil, or_false] at hz
    rcases hz with rfl | rfl | rfl <;> (simp [OkA]; omega)
  · unfold Rise
    simp [ltA]
  · refine decide_eq_false fun h => h.2 ⟨(3, 0, m), by simp, rfl⟩
theorem ok3 {x y m a : Int} (hx : 0 ≤ x ∧ x ≤ 7) (hy : 0 ≤ y ∧ y ≤ 7) (hm : 0 ≤ m ∧ m ≤ 7) (ha : 0 ≤ a ∧ a ≤ 7) : ¬ (mayB (L3 x y m) = false ∨ a < 0 ∨ 7 < a) := by
  rw [may3 x y m hx hy hm]
  simp
  omega
theorem user3 (x y m o a : Int) (gs : List Int) (hx : 0 ≤ x ∧ x ≤ 7) (hy : 0 ≤ y ∧ y ≤ 7) (hm : 0 ≤ m ∧ m ≤ 7) (ha : 0 ≤ a ∧ a ≤ 7) : letsL (L3 x y m) o 1 2 5 gs a = hasB (band x m) a :=
  lets_user (ok3 hx hy hm ha) (by decide) (by decide) (x := (1, 5, x)) rfl
theorem owner3 (x y m o a : Int) (hx : 0 ≤ x ∧ x ≤ 7) (hy : 0 ≤ y ∧ y ≤ 7) (hm : 0 ≤ m ∧ m ≤ 7) (ha : 0 ≤ a ∧ a ≤ 7) : letsL (L3 x y m) o 1 2 1 [] a = hasB (o / 64) a :=
  lets_own (ok3 hx hy hm ha) (by decide) (by decide)
theorem group3 (x y m o a : Int) (hx : 0 ≤ x ∧ x ≤ 7) (hy : 0 ≤ y ∧ y ≤ 7) (hm : 0 ≤ m ∧ m ≤ 7) (ha : 0 ≤ a ∧ a ≤ 7) : letsL (L3 x y m) o 1 2 9 [6] a = hasB (band y m) a := by
  have e : permsL (L3 x y m) (o / 8) 2 [6] = [y] := rfl
  rw [lets_groups (ok3 hx hy hm ha) (by decide) (by decide) rfl (by rw [e]; simp), e]
  show (hasB (band y m) a || false) = _
  simp
theorem own3 (x y m o a : Int) (hx : 0 ≤ x ∧ x ≤ 7) (hy : 0 ≤ y ∧ y ≤ 7) (hm : 0 ≤ m ∧ m ≤ 7) (ha : 0 ≤ a ∧ a ≤ 7) : letsL (L3 x y m) o 1 2 9 [2] a = hasB (band (o / 8) m) a := by
  have e : permsL (L3 x y m) (o / 8) 2 [2] = [o / 8] := rfl
  rw [lets_groups (ok3 hx hy hm ha) (by decide) (by decide) rfl (by rw [e]; simp), e]
  show (hasB (band (o / 8) m) a || false) = _
  simp
theorem other3 (x y m o a : Int) (hx : 0 ≤ x ∧ x ≤ 7) (hy : 0 ≤ y ∧ y ≤ 7) (hm : 0 ≤ m ∧ m ≤ 7) (ha : 0 ≤ a ∧ a ≤ 7) : letsL (L3 x y m) o 1 2 9 [7] a = hasB o a :=
  lets_others (ok3 hx hy hm ha) (by decide) (by decide) rfl rfl
theorem both3 (x y o a : Int) (hx : 0 ≤ x ∧ x ≤ 7) (hy : 0 ≤ y ∧ y ≤ 7) (ha : 0 ≤ a ∧ a ≤ 7) : letsL (L3 x y 7) o 1 2 8 [6, 2] a = (hasB y a || hasB (o / 8) a) := by
  have e : permsL (L3 x y 7) (o / 8) 2 [6, 2] = [o / 8, y] := rfl
  rw [lets_groups (ok3 hx hy (by omega) ha) (by decide) (by decide) rfl (by rw [e]; simp), e]
  show (hasB (band (o / 8) 7) a || (hasB (band y 7) a || false)) = _
  rw [has_7 _ _ ha.1 ha.2, has_7 _ _ ha.1 ha.2, Bool.or_false, Bool.or_comm]
theorem none3 (o a : Int) (ha : 0 ≤ a ∧ a ≤ 7) : letsL [] o 1 2 8 [2] a = hasB (o / 8) a := by
  have e : permsL [] (o / 8) 2 [2] = [o / 8] := rfl
  have ok : ¬ (mayB [] = false ∨ a < 0 ∨ 7 < a) := by rw [tN_may]; simp; omega
  rw [lets_groups ok (by decide) (by decide) rfl (by rw [e]; simp), e]
  show (hasB (band (o / 8) 7) a || false) = _
  rw [has_7 _ _ ha.1 ha.2, Bool.or_false]
theorem root3 (o a : Int) (ha : 0 ≤ a ∧ a ≤ 7) : letsL [] o 1 2 0 [] a = true :=
  lets_zero (by rw [tN_may]; simp; omega) rfl
theorem eight3 : letsL [] 511 1 2 8 [] 8 = false := lets_no (.inr (.inr (by decide)))
theorem aces_built3 (w : World) (x y m : Int) (t : TypeId) : AcesAt (w.alloc (.cells #[.int .i64 1, .int .i64 5, .int .i64 x, .int .i64 2, .int .i64 6, .int .i64 y, .int .i64 3, .int .i64 0, .int .i64 m] t)) (.slice (some ⟨w.heap.size, 0, none⟩) 3 3) (L3 x y m) :=
  .inr ⟨w.heap.size, 0, 3, rfl, by simp, by unfold maxLen; omega, fun i hi => by
    match i, hi with
    | 0, _ => simp
    | 1, _ => simp
    | 2, _ => simp⟩
theorem ints_built2 (w : World) (p q : Int) (t : TypeId) : IntsAt (w.alloc (.cells #[.int .i64 p, .int .i64 q] t)) (.slice (some ⟨w.heap.size, 0, none⟩) 2 2) [p, q] :=
  .inr ⟨w.heap.size, 0, 2, rfl, by simp, by unfold maxLen; omega, fun i hi => by
    match i, hi with
    | 0, _ => simp
    | 1, _ => simp⟩
theorem wrap_u64_nonneg (z : Int) : 0 ≤ IntKind.u64.wrap z := by
  unfold IntKind.wrap
  simp only [show IntKind.u64.signed = false from rfl, show IntKind.u64.bits = 64 from rfl]
  simp
  omega
/-- A number's rest, as an integer between 0 and 7 (or 511). -/
theorem rest_in (z n : Int) (hn : 0 < n) : 0 ≤ (IntKind.u64.wrap z).tmod n ∧ (IntKind.u64.wrap z).tmod n < n := ⟨Int.tmod_nonneg _ (wrap_u64_nonneg z), Int.tmod_lt_of_pos _ hn⟩
end Go.Proofs.YtcbgchohcinecaaDoor
