/-
  What the document says of a few trees. The contract of the law's told: what the document says of a few.
-/
import Derived.Test.YtgbenepapajieaaGreatTRef
import Derived.Test.YtgbenepapajieaaGreatTRefO
namespace Go.Proofs.YtgbenepapajieaaGreat.Tr
open Go.RowKit
open Go.Proofs.YtgbenepapajieaaGreat.Nd (Nd mayN sumP nodeV NodeAt PcsAt)
open Go.Proofs.YtgbenepapajieaaGreat.Pa (lessB parentB hasParentB lastB underB joinB StrsAt)

def tT : Tree := ([(⟨#[]⟩, 0), (⟨#[97]⟩, 1), (⟨#[97, 47, 120]⟩, 2), (⟨#[98]⟩, 2)], [⟨1, ⟨0, 0, 0, 0, [], []⟩, 0, [], ⟨#[]⟩, 0, 0⟩, ⟨1, ⟨0, 0, 0, 0, [], []⟩, 0, [], ⟨#[]⟩, 0, 0⟩, ⟨2, ⟨0, 0, 0, 0, [], []⟩, 3, [], ⟨#[]⟩, 0, 0⟩])
def tU : Tree := ([(⟨#[98]⟩, 0), (⟨#[97, 47, 120]⟩, 0), (⟨#[]⟩, 2), (⟨#[97]⟩, 1)], [⟨2, ⟨0, 0, 0, 0, [], []⟩, 3, [], ⟨#[]⟩, 0, 0⟩, ⟨1, ⟨0, 0, 0, 0, [], []⟩, 0, [], ⟨#[]⟩, 0, 0⟩, ⟨1, ⟨0, 0, 0, 0, [], []⟩, 0, [], ⟨#[]⟩, 0, 0⟩])
def tP : Tree := ([(⟨#[]⟩, 0), (⟨#[98]⟩, 1)], [⟨1, ⟨0, 0, 0, 0, [], []⟩, 0, [], ⟨#[]⟩, 0, 0⟩, ⟨2, ⟨0, 0, 0, 0, [], []⟩, 3, [], ⟨#[]⟩, 0, 0⟩])
theorem n_u : normT tU.1 tU.2 = some tT := by decide +kernel
theorem p_b : partT tT.1 tT.2 [⟨#[98]⟩] = (tP, 0) := by decide +kernel
theorem p_c : partT tT.1 tT.2 [⟨#[99]⟩] = (([], []), 7) := by decide +kernel
theorem f_b : findE tT.1 ⟨#[98]⟩ = some 2 := by decide +kernel
theorem c_b : classT tT.1 ⟨#[98]⟩ = [⟨#[97, 47, 120]⟩, ⟨#[98]⟩] := by decide +kernel
theorem m_t : mayT tT.1 tT.2 = true := by decide +kernel
theorem m_u : mayT tU.1 tU.2 = false := by decide +kernel
theorem m_z : mayT [] [] = false := by decide +kernel
theorem s_tu : sameTT tT tU = true := by decide +kernel
theorem k_r : (kidsE tT.1 ⟨#[]⟩).length = 2 := by decide +kernel
theorem b_t : sumN tT.2 = 0 := by decide +kernel
end Go.Proofs.YtgbenepapajieaaGreat.Tr
namespace Go.Proofs.YtgbenepapajieaaGreat.Tr
open Go.RowKit
open Go.Proofs.YtgbenepapajieaaGreat.Nd (Nd mayN sumP nodeV NodeAt PcsAt)
open Go.Proofs.YtgbenepapajieaaGreat.Pa (lessB parentB hasParentB lastB underB joinB StrsAt)

theorem lay_row {α : Type} {cs : α → List Value} {k : Nat} (F : Flat cs k) (E : TypeId) (v : World) (l : List α) (hl : l.length ≤ maxLen) : RowAt cs k (v.alloc (.cells (flatR cs l).toArray E)) (.slice (some ⟨v.heap.size, 0, none⟩) l.length l.length) l := by
  refine .inr ⟨v.heap.size, 0, l.length, rfl, Nat.le_refl _, hl, fun i hi c u hu => ?_⟩
  have hc : c < k := by
    rcases Nat.lt_or_ge c k with h | h
    · exact h
    · rw [List.getElem?_eq_none (by rw [F.len]; exact h)] at hu; cases hu
  have h : (v.alloc (.cells (flatR cs l).toArray E)).heap[v.heap.size]? = some (.cells (flatR cs l).toArray E (0, 0)) := by
    show (v.heap.push _)[v.heap.size]? = _
    simp
  unfold World.cell?
  simp only [h]
  rw [Nat.zero_add]
  show (if _ then none else (flatR cs l).toArray[i * k + c]?) = _
  rw [List.getElem?_toArray, flatR_at F l i c hi hc]
  simpa using hu
theorem in_nil (w : World) (k s : Int) : InN w ⟨⟨k, ⟨0, 0, 0, 0, [], []⟩, s, [], ⟨#[]⟩, 0, 0⟩, (none, 0, 0), (none, 0, 0), (none, 0, 0)⟩ := ⟨RowAt.nil_ w, AcesAt.nil_ w, RowAt.nil_ w⟩
theorem told_start (w : World) : TreeAt ((((((((w.alloc (.cells #[.int .i64 1, .int .i64 0, .int .i64 0, .int .i64 0, .int .i64 0, .slice none 0 0, .slice none 0 0, .int .i64 0, .slice none 0 0, .string ⟨#[]⟩, .int .i64 0, .int .i64 0] 47)).alloc (.cells #[.int .i64 2, .int .i64 0, .int .i64 0, .int .i64 0, .int .i64 0, .slice none 0 0, .slice none 0 0, .int .i64 3, .slice none 0 0, .string ⟨#[]⟩, .int .i64 0, .int .i64 0] 47)).alloc (.cells #[.string ⟨#[]⟩, .int .i64 0, .string ⟨#[97]⟩, .int .i64 1, .string ⟨#[97, 47, 120]⟩, .int .i64 2, .string ⟨#[98]⟩, .int .i64 2] 49)).alloc (.cells #[.int .i64 1, .int .i64 0, .int .i64 0, .int .i64 0, .int .i64 0, .slice none 0 0, .slice none 0 0, .int .i64 0, .slice none 0 0, .string ⟨#[]⟩, .int .i64 0, .int .i64 0, .int .i64 1, .int .i64 0, .int .i64 0, .int .i64 0, .int .i64 0, .slice none 0 0, .slice none 0 0, .int .i64 0, .slice none 0 0, .string ⟨#[]⟩, .int .i64 0, .int .i64 0, .int .i64 2, .int .i64 0, .int .i64 0, .int .i64 0, .int .i64 0, .slice none 0 0, .slice none 0 0, .int .i64 3, .slice none 0 0, .string ⟨#[]⟩, .int .i64 0, .int .i64 0] 47)).alloc (.cells #[.slice (some ⟨w.heap.size + 1 + 1, 0, none⟩) 4 4, .slice (some ⟨w.heap.size + 1 + 1 + 1, 0, none⟩) 3 3] 25)).alloc (.cells #[.string ⟨#[98]⟩, .int .i64 0, .string ⟨#[97, 47, 120]⟩, .int .i64 0, .string ⟨#[]⟩, .int .i64 2, .string ⟨#[97]⟩, .int .i64 1] 49)).alloc (.cells #[.int .i64 2, .int .i64 0, .int .i64 0, .int .i64 0, .int .i64 0, .slice none 0 0, .slice none 0 0, .int .i64 3, .slice none 0 0, .string ⟨#[]⟩, .int .i64 0, .int .i64 0, .int .i64 1, .int .i64 0, .int .i64 0, .int .i64 0, .int .i64 0, .slice none 0 0, .slice none 0 0, .int .i64 0, .slice none 0 0, .string ⟨#[]⟩, .int .i64 0, .int .i64 0, .int .i64 1, .int .i64 0, .int .i64 0, .int .i64 0, .int .i64 0, .slice none 0 0, .slice none 0 0, .int .i64 0, .slice none 0 0, .string ⟨#[]⟩, .int .i64 0, .int .i64 0] 47)).alloc (.cells #[.slice (some ⟨w.heap.size + 1 + 1 + 1 + 1 + 1, 0, none⟩) 4 4, .slice (some ⟨w.heap.size + 1 + 1 + 1 + 1 + 1 + 1, 0, none⟩) 3 3] 25)) (.agg #[.slice (some ⟨w.heap.size + 1 + 1, 0, none⟩) 4 4, .slice (some ⟨w.heap.size + 1 + 1 + 1, 0, none⟩) 3 3]) tT ∧ TreeAt ((((((((w.alloc (.cells #[.int .i64 1, .int .i64 0, .int .i64 0, .int .i64 0, .int .i64 0, .slice none 0 0, .slice none 0 0, .int .i64 0, .slice none 0 0, .string ⟨#[]⟩, .int .i64 0, .int .i64 0] 47)).alloc (.cells #[.int .i64 2, .int .i64 0, .int .i64 0, .int .i64 0, .int .i64 0, .slice none 0 0, .slice none 0 0, .int .i64 3, .slice none 0 0, .string ⟨#[]⟩, .int .i64 0, .int .i64 0] 47)).alloc (.cells #[.string ⟨#[]⟩, .int .i64 0, .string ⟨#[97]⟩, .int .i64 1, .string ⟨#[97, 47, 120]⟩, .int .i64 2, .string ⟨#[98]⟩, .int .i64 2] 49)).alloc (.cells #[.int .i64 1, .int .i64 0, .int .i64 0, .int .i64 0, .int .i64 0, .slice none 0 0, .slice none 0 0, .int .i64 0, .slice none 0 0, .string ⟨#[]⟩, .int .i64 0, .int .i64 0, .int .i64 1, .int .i64 0, .int .i64 0, .int .i64 0, .int .i64 0, .slice none 0 0, .slice none 0 0, .int .i64 0, .slice none 0 0, .string ⟨#[]⟩, .int .i64 0, .int .i64 0, .int .i64 2, .int .i64 0, .int .i64 0, .int .i64 0, .int .i64 0, .slice none 0 0, .slice none 0 0, .int .i64 3, .slice none 0 0, .string ⟨#[]⟩, .int .i64 0, .int .i64 0] 47)).alloc (.cells #[.slice (some ⟨w.heap.size + 1 + 1, 0, none⟩) 4 4, .slice (some ⟨w.heap.size + 1 + 1 + 1, 0, none⟩) 3 3] 25)).alloc (.cells #[.string ⟨#[98]⟩, .int .i64 0, .string ⟨#[97, 47, 120]⟩, .int .i64 0, .string ⟨#[]⟩, .int .i64 2, .string ⟨#[97]⟩, .int .i64 1] 49)).alloc (.cells #[.int .i64 2, .int .i64 0, .int .i64 0, .int .i64 0, .int .i64 0, .slice none 0 0, .slice none 0 0, .int .i64 3, .slice none 0 0, .string ⟨#[]⟩, .int .i64 0, .int .i64 0, .int .i64 1, .int .i64 0, .int .i64 0, .int .i64 0, .int .i64 0, .slice none 0 0, .slice none 0 0, .int .i64 0, .slice none 0 0, .string ⟨#[]⟩, .int .i64 0, .int .i64 0, .int .i64 1, .int .i64 0, .int .i64 0, .int .i64 0, .int .i64 0, .slice none 0 0, .slice none 0 0, .int .i64 0, .slice none 0 0, .string ⟨#[]⟩, .int .i64 0, .int .i64 0] 47)).alloc (.cells #[.slice (some ⟨w.heap.size + 1 + 1 + 1 + 1 + 1, 0, none⟩) 4 4, .slice (some ⟨w.heap.size + 1 + 1 + 1 + 1 + 1 + 1, 0, none⟩) 3 3] 25)) (.agg #[.slice (some ⟨w.heap.size + 1 + 1 + 1 + 1 + 1, 0, none⟩) 4 4, .slice (some ⟨w.heap.size + 1 + 1 + 1 + 1 + 1 + 1, 0, none⟩) 3 3]) tU ∧ BoxT ((((((((w.alloc (.cells #[.int .i64 1, .int .i64 0, .int .i64 0, .int .i64 0, .int .i64 0, .slice none 0 0, .slice none 0 0, .int .i64 0, .slice none 0 0, .string ⟨#[]⟩, .int .i64 0, .int .i64 0] 47)).alloc (.cells #[.int .i64 2, .int .i64 0, .int .i64 0, .int .i64 0, .int .i64 0, .slice none 0 0, .slice none 0 0, .int .i64 3, .slice none 0 0, .string ⟨#[]⟩, .int .i64 0, .int .i64 0] 47)).alloc (.cells #[.string ⟨#[]⟩, .int .i64 0, .string ⟨#[97]⟩, .int .i64 1, .string ⟨#[97, 47, 120]⟩, .int .i64 2, .string ⟨#[98]⟩, .int .i64 2] 49)).alloc (.cells #[.int .i64 1, .int .i64 0, .int .i64 0, .int .i64 0, .int .i64 0, .slice none 0 0, .slice none 0 0, .int .i64 0, .slice none 0 0, .string ⟨#[]⟩, .int .i64 0, .int .i64 0, .int .i64 1, .int .i64 0, .int .i64 0, .int .i64 0, .int .i64 0, .slice none 0 0, .slice none 0 0, .int .i64 0, .slice none 0 0, .string ⟨#[]⟩, .int .i64 0, .int .i64 0, .int .i64 2, .int .i64 0, .int .i64 0, .int .i64 0, .int .i64 0, .slice none 0 0, .slice none 0 0, .int .i64 3, .slice none 0 0, .string ⟨#[]⟩, .int .i64 0, .int .i64 0] 47)).alloc (.cells #[.slice (some ⟨w.heap.size + 1 + 1, 0, none⟩) 4 4, .slice (some ⟨w.heap.size + 1 + 1 + 1, 0, none⟩) 3 3] 25)).alloc (.cells #[.string ⟨#[98]⟩, .int .i64 0, .string ⟨#[97, 47, 120]⟩, .int .i64 0, .string ⟨#[]⟩, .int .i64 2, .string ⟨#[97]⟩, .int .i64 1] 49)).alloc (.cells #[.int .i64 2, .int .i64 0, .int .i64 0, .int .i64 0, .int .i64 0, .slice none 0 0, .slice none 0 0, .int .i64 3, .slice none 0 0, .string ⟨#[]⟩, .int .i64 0, .int .i64 0, .int .i64 1, .int .i64 0, .int .i64 0, .int .i64 0, .int .i64 0, .slice none 0 0, .slice none 0 0, .int .i64 0, .slice none 0 0, .string ⟨#[]⟩, .int .i64 0, .int .i64 0, .int .i64 1, .int .i64 0, .int .i64 0, .int .i64 0, .int .i64 0, .slice none 0 0, .slice none 0 0, .int .i64 0, .slice none 0 0, .string ⟨#[]⟩, .int .i64 0, .int .i64 0] 47)).alloc (.cells #[.slice (some ⟨w.heap.size + 1 + 1 + 1 + 1 + 1, 0, none⟩) 4 4, .slice (some ⟨w.heap.size + 1 + 1 + 1 + 1 + 1 + 1, 0, none⟩) 3 3] 25)) (w.heap.size + 1 + 1 + 1 + 1) (.slice (some ⟨w.heap.size + 1 + 1, 0, none⟩) 4 4) (.slice (some ⟨w.heap.size + 1 + 1 + 1, 0, none⟩) 3 3) ∧ BoxT ((((((((w.alloc (.cells #[.int .i64 1, .int .i64 0, .int .i64 0, .int .i64 0, .int .i64 0, .slice none 0 0, .slice none 0 0, .int .i64 0, .slice none 0 0, .string ⟨#[]⟩, .int .i64 0, .int .i64 0] 47)).alloc (.cells #[.int .i64 2, .int .i64 0, .int .i64 0, .int .i64 0, .int .i64 0, .slice none 0 0, .slice none 0 0, .int .i64 3, .slice none 0 0, .string ⟨#[]⟩, .int .i64 0, .int .i64 0] 47)).alloc (.cells #[.string ⟨#[]⟩, .int .i64 0, .string ⟨#[97]⟩, .int .i64 1, .string ⟨#[97, 47, 120]⟩, .int .i64 2, .string ⟨#[98]⟩, .int .i64 2] 49)).alloc (.cells #[.int .i64 1, .int .i64 0, .int .i64 0, .int .i64 0, .int .i64 0, .slice none 0 0, .slice none 0 0, .int .i64 0, .slice none 0 0, .string ⟨#[]⟩, .int .i64 0, .int .i64 0, .int .i64 1, .int .i64 0, .int .i64 0, .int .i64 0, .int .i64 0, .slice none 0 0, .slice none 0 0, .int .i64 0, .slice none 0 0, .string ⟨#[]⟩, .int .i64 0, .int .i64 0, .int .i64 2, .int .i64 0, .int .i64 0, .int .i64 0, .int .i64 0, .slice none 0 0, .slice none 0 0, .int .i64 3, .slice none 0 0, .string ⟨#[]⟩, .int .i64 0, .int .i64 0] 47)).alloc (.cells #[.slice (some ⟨w.heap.size + 1 + 1, 0, none⟩) 4 4, .slice (some ⟨w.heap.size + 1 + 1 + 1, 0, none⟩) 3 3] 25)).alloc (.cells #[.string ⟨#[98]⟩, .int .i64 0, .string ⟨#[97, 47, 120]⟩, .int .i64 0, .string ⟨#[]⟩, .int .i64 2, .string ⟨#[97]⟩, .int .i64 1] 49)).alloc (.cells #[.int .i64 2, .int .i64 0, .int .i64 0, .int .i64 0, .int .i64 0, .slice none 0 0, .slice none 0 0, .int .i64 3, .slice none 0 0, .string ⟨#[]⟩, .int .i64 0, .int .i64 0, .int .i64 1, .int .i64 0, .int .i64 0, .int .i64 0, .int .i64 0, .slice none 0 0, .slice none 0 0, .int .i64 0, .slice none 0 0, .string ⟨#[]⟩, .int .i64 0, .int .i64 0, .int .i64 1, .int .i64 0, .int .i64 0, .int .i64 0, .int .i64 0, .slice none 0 0, .slice none 0 0, .int .i64 0, .slice none 0 0, .string ⟨#[]⟩, .int .i64 0, .int .i64 0] 47)).alloc (.cells #[.slice (some ⟨w.heap.size + 1 + 1 + 1 + 1 + 1, 0, none⟩) 4 4, .slice (some ⟨w.heap.size + 1 + 1 + 1 + 1 + 1 + 1, 0, none⟩) 3 3] 25)) (w.heap.size + 1 + 1 + 1 + 1 + 1 + 1 + 1) (.slice (some ⟨w.heap.size + 1 + 1 + 1 + 1 + 1, 0, none⟩) 4 4) (.slice (some ⟨w.heap.size + 1 + 1 + 1 + 1 + 1 + 1, 0, none⟩) 3 3) ∧ Q w ((((((((w.alloc (.cells #[.int .i64 1, .int .i64 0, .int .i64 0, .int .i64 0, .int .i64 0, .slice none 0 0, .slice none 0 0, .int .i64 0, .slice none 0 0, .string ⟨#[]⟩, .int .i64 0, .int .i64 0] 47)).alloc (.cells #[.int .i64 2, .int .i64 0, .int .i64 0, .int .i64 0, .int .i64 0, .slice none 0 0, .slice none 0 0, .int .i64 3, .slice none 0 0, .string ⟨#[]⟩, .int .i64 0, .int .i64 0] 47)).alloc (.cells #[.string ⟨#[]⟩, .int .i64 0, .string ⟨#[97]⟩, .int .i64 1, .string ⟨#[97, 47, 120]⟩, .int .i64 2, .string ⟨#[98]⟩, .int .i64 2] 49)).alloc (.cells #[.int .i64 1, .int .i64 0, .int .i64 0, .int .i64 0, .int .i64 0, .slice none 0 0, .slice none 0 0, .int .i64 0, .slice none 0 0, .string ⟨#[]⟩, .int .i64 0, .int .i64 0, .int .i64 1, .int .i64 0, .int .i64 0, .int .i64 0, .int .i64 0, .slice none 0 0, .slice none 0 0, .int .i64 0, .slice none 0 0, .string ⟨#[]⟩, .int .i64 0, .int .i64 0, .int .i64 2, .int .i64 0, .int .i64 0, .int .i64 0, .int .i64 0, .slice none 0 0, .slice none 0 0, .int .i64 3, .slice none 0 0, .string ⟨#[]⟩, .int .i64 0, .int .i64 0] 47)).alloc (.cells #[.slice (some ⟨w.heap.size + 1 + 1, 0, none⟩) 4 4, .slice (some ⟨w.heap.size + 1 + 1 + 1, 0, none⟩) 3 3] 25)).alloc (.cells #[.string ⟨#[98]⟩, .int .i64 0, .string ⟨#[97, 47, 120]⟩, .int .i64 0, .string ⟨#[]⟩, .int .i64 2, .string ⟨#[97]⟩, .int .i64 1] 49)).alloc (.cells #[.int .i64 2, .int .i64 0, .int .i64 0, .int .i64 0, .int .i64 0, .slice none 0 0, .slice none 0 0, .int .i64 3, .slice none 0 0, .string ⟨#[]⟩, .int .i64 0, .int .i64 0, .int .i64 1, .int .i64 0, .int .i64 0, .int .i64 0, .int .i64 0, .slice none 0 0, .slice none 0 0, .int .i64 0, .slice none 0 0, .string ⟨#[]⟩, .int .i64 0, .int .i64 0, .int .i64 1, .int .i64 0, .int .i64 0, .int .i64 0, .int .i64 0, .slice none 0 0, .slice none 0 0, .int .i64 0, .slice none 0 0, .string ⟨#[]⟩, .int .i64 0, .int .i64 0] 47)).alloc (.cells #[.slice (some ⟨w.heap.size + 1 + 1 + 1 + 1 + 1, 0, none⟩) 4 4, .slice (some ⟨w.heap.size + 1 + 1 + 1 + 1 + 1 + 1, 0, none⟩) 3 3] 25)) := by
  have e1 := lay_row flatE 49 ((w.alloc (.cells #[.int .i64 1, .int .i64 0, .int .i64 0, .int .i64 0, .int .i64 0, .slice none 0 0, .slice none 0 0, .int .i64 0, .slice none 0 0, .string ⟨#[]⟩, .int .i64 0, .int .i64 0] 47)).alloc (.cells #[.int .i64 2, .int .i64 0, .int .i64 0, .int .i64 0, .int .i64 0, .slice none 0 0, .slice none 0 0, .int .i64 3, .slice none 0 0, .string ⟨#[]⟩, .int .i64 0, .int .i64 0] 47)) tT.1 (by decide)
  have e2 := lay_row flatN 47 (((w.alloc (.cells #[.int .i64 1, .int .i64 0, .int .i64 0, .int .i64 0, .int .i64 0, .slice none 0 0, .slice none 0 0, .int .i64 0, .slice none 0 0, .string ⟨#[]⟩, .int .i64 0, .int .i64 0] 47)).alloc (.cells #[.int .i64 2, .int .i64 0, .int .i64 0, .int .i64 0, .int .i64 0, .slice none 0 0, .slice none 0 0, .int .i64 3, .slice none 0 0, .string ⟨#[]⟩, .int .i64 0, .int .i64 0] 47)).alloc (.cells #[.string ⟨#[]⟩, .int .i64 0, .string ⟨#[97]⟩, .int .i64 1, .string ⟨#[97, 47, 120]⟩, .int .i64 2, .string ⟨#[98]⟩, .int .i64 2] 49)) [⟨⟨1, ⟨0, 0, 0, 0, [], []⟩, 0, [], ⟨#[]⟩, 0, 0⟩, (none, 0, 0), (none, 0, 0), (none, 0, 0)⟩, ⟨⟨1, ⟨0, 0, 0, 0, [], []⟩, 0, [], ⟨#[]⟩, 0, 0⟩, (none, 0, 0), (none, 0, 0), (none, 0, 0)⟩, ⟨⟨2, ⟨0, 0, 0, 0, [], []⟩, 3, [], ⟨#[]⟩, 0, 0⟩, (none, 0, 0), (none, 0, 0), (none, 0, 0)⟩] (by decide)
  have b1 := BoxT.new ((((w.alloc (.cells #[.int .i64 1, .int .i64 0, .int .i64 0, .int .i64 0, .int .i64 0, .slice none 0 0, .slice none 0 0, .int .i64 0, .slice none 0 0, .string ⟨#[]⟩, .int .i64 0, .int .i64 0] 47)).alloc (.cells #[.int .i64 2, .int .i64 0, .int .i64 0, .int .i64 0, .int .i64 0, .slice none 0 0, .slice none 0 0, .int .i64 3, .slice none 0 0, .string ⟨#[]⟩, .int .i64 0, .int .i64 0] 47)).alloc (.cells #[.string ⟨#[]⟩, .int .i64 0, .string ⟨#[97]⟩, .int .i64 1, .string ⟨#[97, 47, 120]⟩, .int .i64 2, .string ⟨#[98]⟩, .int .i64 2] 49)).alloc (.cells #[.int .i64 1, .int .i64 0, .int .i64 0, .int .i64 0, .int .i64 0, .slice none 0 0, .slice none 0 0, .int .i64 0, .slice none 0 0, .string ⟨#[]⟩, .int .i64 0, .int .i64 0, .int .i64 1, .int .i64 0, .int .i64 0, .int .i64 0, .int .i64 0, .slice none 0 0, .slice none 0 0, .int .i64 0, .slice none 0 0, .string ⟨#[]⟩, .int .i64 0, .int .i64 0, .int .i64 2, .int .i64 0, .int .i64 0, .int .i64 0, .int .i64 0, .slice none 0 0, .slice none 0 0, .int .i64 3, .slice none 0 0, .string ⟨#[]⟩, .int .i64 0, .int .i64 0] 47)) (.slice (some ⟨w.heap.size + 1 + 1, 0, none⟩) 4 4) (.slice (some ⟨w.heap.size + 1 + 1 + 1, 0, none⟩) 3 3)
  have e3 := lay_row flatE 49 (((((w.alloc (.cells #[.int .i64 1, .int .i64 0, .int .i64 0, .int .i64 0, .int .i64 0, .slice none 0 0, .slice none 0 0, .int .i64 0, .slice none 0 0, .string ⟨#[]⟩, .int .i64 0, .int .i64 0] 47)).alloc (.cells #[.int .i64 2, .int .i64 0, .int .i64 0, .int .i64 0, .int .i64 0, .slice none 0 0, .slice none 0 0, .int .i64 3, .slice none 0 0, .string ⟨#[]⟩, .int .i64 0, .int .i64 0] 47)).alloc (.cells #[.string ⟨#[]⟩, .int .i64 0, .string ⟨#[97]⟩, .int .i64 1, .string ⟨#[97, 47, 120]⟩, .int .i64 2, .string ⟨#[98]⟩, .int .i64 2] 49)).alloc (.cells #[.int .i64 1, .int .i64 0, .int .i64 0, .int .i64 0, .int .i64 0, .slice none 0 0, .slice none 0 0, .int .i64 0, .slice none 0 0, .string ⟨#[]⟩, .int .i64 0, .int .i64 0, .int .i64 1, .int .i64 0, .int .i64 0, .int .i64 0, .int .i64 0, .slice none 0 0, .slice none 0 0, .int .i64 0, .slice none 0 0, .string ⟨#[]⟩, .int .i64 0, .int .i64 0, .int .i64 2, .int .i64 0, .int .i64 0, .int .i64 0, .int .i64 0, .slice none 0 0, .slice none 0 0, .int .i64 3, .slice none 0 0, .string ⟨#[]⟩, .int .i64 0, .int .i64 0] 47)).alloc (.cells #[.slice (some ⟨w.heap.size + 1 + 1, 0, none⟩) 4 4, .slice (some ⟨w.heap.size + 1 + 1 + 1, 0, none⟩) 3 3] 25)) tU.1 (by decide)
  have e4 := lay_row flatN 47 ((((((w.alloc (.cells #[.int .i64 1, .int .i64 0, .int .i64 0, .int .i64 0, .int .i64 0, .slice none 0 0, .slice none 0 0, .int .i64 0, .slice none 0 0, .string ⟨#[]⟩, .int .i64 0, .int .i64 0] 47)).alloc (.cells #[.int .i64 2, .int .i64 0, .int .i64 0, .int .i64 0, .int .i64 0, .slice none 0 0, .slice none 0 0, .int .i64 3, .slice none 0 0, .string ⟨#[]⟩, .int .i64 0, .int .i64 0] 47)).alloc (.cells #[.string ⟨#[]⟩, .int .i64 0, .string ⟨#[97]⟩, .int .i64 1, .string ⟨#[97, 47, 120]⟩, .int .i64 2, .string ⟨#[98]⟩, .int .i64 2] 49)).alloc (.cells #[.int .i64 1, .int .i64 0, .int .i64 0, .int .i64 0, .int .i64 0, .slice none 0 0, .slice none 0 0, .int .i64 0, .slice none 0 0, .string ⟨#[]⟩, .int .i64 0, .int .i64 0, .int .i64 1, .int .i64 0, .int .i64 0, .int .i64 0, .int .i64 0, .slice none 0 0, .slice none 0 0, .int .i64 0, .slice none 0 0, .string ⟨#[]⟩, .int .i64 0, .int .i64 0, .int .i64 2, .int .i64 0, .int .i64 0, .int .i64 0, .int .i64 0, .slice none 0 0, .slice none 0 0, .int .i64 3, .slice none 0 0, .string ⟨#[]⟩, .int .i64 0, .int .i64 0] 47)).alloc (.cells #[.slice (some ⟨w.heap.size + 1 + 1, 0, none⟩) 4 4, .slice (some ⟨w.heap.size + 1 + 1 + 1, 0, none⟩) 3 3] 25)).alloc (.cells #[.string ⟨#[98]⟩, .int .i64 0, .string ⟨#[97, 47, 120]⟩, .int .i64 0, .string ⟨#[]⟩, .int .i64 2, .string ⟨#[97]⟩, .int .i64 1] 49)) [⟨⟨2, ⟨0, 0, 0, 0, [], []⟩, 3, [], ⟨#[]⟩, 0, 0⟩, (none, 0, 0), (none, 0, 0), (none, 0, 0)⟩, ⟨⟨1, ⟨0, 0, 0, 0, [], []⟩, 0, [], ⟨#[]⟩, 0, 0⟩, (none, 0, 0), (none, 0, 0), (none, 0, 0)⟩, ⟨⟨1, ⟨0, 0, 0, 0, [], []⟩, 0, [], ⟨#[]⟩, 0, 0⟩, (none, 0, 0), (none, 0, 0), (none, 0, 0)⟩] (by decide)
  have b2 := BoxT.new (((((((w.alloc (.cells #[.int .i64 1, .int .i64 0, .int .i64 0, .int .i64 0, .int .i64 0, .slice none 0 0, .slice none 0 0, .int .i64 0, .slice none 0 0, .string ⟨#[]⟩, .int .i64 0, .int .i64 0] 47)).alloc (.cells #[.int .i64 2, .int .i64 0, .int .i64 0, .int .i64 0, .int .i64 0, .slice none 0 0, .slice none 0 0, .int .i64 3, .slice none 0 0, .string ⟨#[]⟩, .int .i64 0, .int .i64 0] 47)).alloc (.cells #[.string ⟨#[]⟩, .int .i64 0, .string ⟨#[97]⟩, .int .i64 1, .string ⟨#[97, 47, 120]⟩, .int .i64 2, .string ⟨#[98]⟩, .int .i64 2] 49)).alloc (.cells #[.int .i64 1, .int .i64 0, .int .i64 0, .int .i64 0, .int .i64 0, .slice none 0 0, .slice none 0 0, .int .i64 0, .slice none 0 0, .string ⟨#[]⟩, .int .i64 0, .int .i64 0, .int .i64 1, .int .i64 0, .int .i64 0, .int .i64 0, .int .i64 0, .slice none 0 0, .slice none 0 0, .int .i64 0, .slice none 0 0, .string ⟨#[]⟩, .int .i64 0, .int .i64 0, .int .i64 2, .int .i64 0, .int .i64 0, .int .i64 0, .int .i64 0, .slice none 0 0, .slice none 0 0, .int .i64 3, .slice none 0 0, .string ⟨#[]⟩, .int .i64 0, .int .i64 0] 47)).alloc (.cells #[.slice (some ⟨w.heap.size + 1 + 1, 0, none⟩) 4 4, .slice (some ⟨w.heap.size + 1 + 1 + 1, 0, none⟩) 3 3] 25)).alloc (.cells #[.string ⟨#[98]⟩, .int .i64 0, .string ⟨#[97, 47, 120]⟩, .int .i64 0, .string ⟨#[]⟩, .int .i64 2, .string ⟨#[97]⟩, .int .i64 1] 49)).alloc (.cells #[.int .i64 2, .int .i64 0, .int .i64 0, .int .i64 0, .int .i64 0, .slice none 0 0, .slice none 0 0, .int .i64 3, .slice none 0 0, .string ⟨#[]⟩, .int .i64 0, .int .i64 0, .int .i64 1, .int .i64 0, .int .i64 0, .int .i64 0, .int .i64 0, .slice none 0 0, .slice none 0 0, .int .i64 0, .slice none 0 0, .string ⟨#[]⟩, .int .i64 0, .int .i64 0, .int .i64 1, .int .i64 0, .int .i64 0, .int .i64 0, .int .i64 0, .slice none 0 0, .slice none 0 0, .int .i64 0, .slice none 0 0, .string ⟨#[]⟩, .int .i64 0, .int .i64 0] 47)) (.slice (some ⟨w.heap.size + 1 + 1 + 1 + 1 + 1, 0, none⟩) 4 4) (.slice (some ⟨w.heap.size + 1 + 1 + 1 + 1 + 1 + 1, 0, none⟩) 3 3)
  simp only [World.size_alloc] at e1 e2 b1 e3 e4 b2
  refine ⟨⟨_, _, rfl, RowAt.keep e1 ((((((Q.refl _).alloc _).alloc _).alloc _).alloc _).alloc _), _, RowAt.keep e2 (((((Q.refl _).alloc _).alloc _).alloc _).alloc _), rfl, ?_⟩, ⟨_, _, rfl, RowAt.keep e3 (((Q.refl _).alloc _).alloc _), _, RowAt.keep e4 ((Q.refl _).alloc _), rfl, ?_⟩, b1.keep ((((Q.refl _).alloc _).alloc _).alloc _), b2, ?_⟩
  · intro x hx
    simp only [List.mem_cons, List.not_mem_nil, or_false] at hx
    rcases hx with rfl | rfl | rfl <;> exact in_nil _ _ _
  · intro x hx
    simp only [List.mem_cons, List.not_mem_nil, or_false] at hx
    rcases hx with rfl | rfl | rfl <;> exact in_nil _ _ _
  · exact (((((((((Q.refl w).alloc _).alloc _).alloc _).alloc _).alloc _).alloc _).alloc _).alloc _)

/-! ### The calls, at these trees -/
theorem fitN_plain (k s : Int) : Nd.Fit ⟨k, ⟨0, 0, 0, 0, [], []⟩, s, [], ⟨#[]⟩, 0, 0⟩ ∧ (⟨k, ⟨0, 0, 0, 0, [], []⟩, s, [], ⟨#[]⟩, 0, 0⟩ : Nd).target.size ≤ 1000000 := ⟨⟨Nat.zero_le _, Nat.zero_le _, Nat.zero_le _, fun p hp => by cases hp⟩, Nat.zero_le _⟩
theorem fits_T : Fits tT := ⟨by decide, by decide, by decide +kernel, fun n hn => by
  simp only [tT, List.mem_cons, List.not_mem_nil, or_false] at hn
  rcases hn with rfl | rfl | rfl <;> exact fitN_plain _ _⟩
theorem fits_U : Fits tU := ⟨by decide, by decide, by decide +kernel, fun n hn => by
  simp only [tU, List.mem_cons, List.not_mem_nil, or_false] at hn
  rcases hn with rfl | rfl | rfl <;> exact fitN_plain _ _⟩
theorem fits_Z : Fits ([], []) := ⟨by decide, by decide, (fun e he => by cases he), (fun n hn => by cases hn)⟩
theorem row_one (v : World) (n : Nat) (hn : n = v.heap.size) (s : ByteArray) : RowAt cellsS 1 (v.alloc (.cells #[.string s] 9)) (.slice (some ⟨n, 0, none⟩) 1 1) [s] := by
  subst hn
  exact lay_row flatS 9 v [s] (by simp [maxLen])
theorem norm_told (v : Value) (w : World) (h : TreeAt w v tU) : Calls Tryz.prog 11 #[v] w fun e w' => ∃ A c B d, e = .returned (.tuple #[.agg #[.slice A 4 c, .slice B 3 d], .int .i64 0]) ∧ TreeAt w' (.agg #[.slice A 4 c, .slice B 3 d]) tT ∧ Q w w' := by
  refine (norm_any v tU w h fits_U).mono ?_
  rintro e w' ⟨v', rfl, ht, q⟩
  rw [n_u] at ht ⊢
  obtain ⟨A, c, B, d, rfl⟩ := ht.form
  exact ⟨A, c, B, d, rfl, ht.at_, q⟩
theorem treeAt_form {w : World} {v : Value} {t : Tree} (h : TreeAt w v t) : ∃ A c B d, v = .agg #[.slice A t.1.length c, .slice B t.2.length d] := by
  obtain ⟨ve, vn, rfl, h1, h2⟩ := h
  obtain ⟨A, c, rfl⟩ := h1.form
  obtain ⟨B, d, rfl⟩ := h2.form
  exact ⟨A, c, B, d, rfl⟩
theorem part_b_told (v u : Value) (w : World) (h : TreeAt w v tT) (hu : RowAt cellsS 1 w u [⟨#[98]⟩]) : Calls Tryz.prog 13 #[v, u] w fun e w' => ∃ A c B d, e = .returned (.tuple #[.agg #[.slice A 2 c, .slice B 2 d], .int .i64 0]) ∧ Q w w' := by
  refine (part_any v u tT [⟨#[98]⟩] w h fits_T hu (by decide) (by decide +kernel)).mono ?_
  rintro e w' ⟨v', rfl, ht, q⟩
  rw [p_b] at ht ⊢
  obtain ⟨A, c, B, d, rfl⟩ := treeAt_form ht
  exact ⟨A, c, B, d, rfl, q⟩
theorem part_c_told (v u : Value) (w : World) (h : TreeAt w v tT) (hu : RowAt cellsS 1 w u [⟨#[99]⟩]) : Calls Tryz.prog 13 #[v, u] w fun e w' => ∃ A c B d, e = .returned (.tuple #[.agg #[.slice A 0 c, .slice B 0 d], .int .i64 7]) ∧ Q w w' := by
  refine (part_any v u tT [⟨#[99]⟩] w h fits_T hu (by decide) (by decide +kernel)).mono ?_
  rintro e w' ⟨v', rfl, ht, q⟩
  rw [p_c] at ht ⊢
  obtain ⟨A, c, B, d, rfl⟩ := treeAt_form ht
  exact ⟨A, c, B, d, rfl, q⟩
theorem find_told (v : Value) (w : World) (h : TreeAt w v tT) : Calls Tryz.prog 15 #[v, .string ⟨#[98]⟩] w fun e w' => e = .returned (.tuple #[.int .i64 2, .bool true]) ∧ Q w w' := by
  refine (find_any v tT ⟨#[98]⟩ w h).mono ?_
  rintro e w' ⟨rfl, q⟩
  rw [f_b]
  exact ⟨rfl, q.q⟩
theorem class_told (v : Value) (w : World) (h : TreeAt w v tT) : Calls Tryz.prog 25 #[v, .string ⟨#[98]⟩] w fun e w' => ∃ g c, e = .returned (.slice (some ⟨g, 0, none⟩) 2 c) ∧ w'.cell? ⟨g, 0, none⟩ = some (.string ⟨#[97, 47, 120]⟩) ∧ Q w w' := by
  refine (class_any v tT ⟨#[98]⟩ w h fits_T).mono ?_
  rintro e w' ⟨v', rfl, ho, q⟩
  rw [c_b] at ho
  obtain ⟨g, c, rfl, _, _, hc⟩ := ho.strs.at_ (by decide)
  exact ⟨g, c, rfl, hc 0 (by decide), q⟩
theorem kids_told (v : Value) (w : World) (h : TreeAt w v tT) : Calls Tryz.prog 23 #[v, .string ⟨#[]⟩] w fun e w' => ∃ A c, e = .returned (.slice A 2 c) ∧ Q w w' := by
  refine (kids_any v tT ⟨#[]⟩ w h fits_T).mono ?_
  rintro e w' ⟨v', rfl, ho, q⟩
  obtain ⟨A, c, rfl⟩ := OwnR.form flatS ho
  exact ⟨A, c, by rw [k_r], q⟩
theorem may_told (v : Value) (t : Tree) (b : Bool) (w : World) (h : TreeAt w v t) (hf : Fits t) (hb : mayT t.1 t.2 = b) : Calls Tryz.prog 17 #[v] w fun e w' => e = .returned (.bool b) ∧ Q w w' := by
  rw [← hb]
  exact may_any v t w h hf
theorem bytes_told (v : Value) (w : World) (h : TreeAt w v tT) : Calls Tryz.prog 27 #[v] w fun e w' => e = .returned (.int .i64 0) ∧ Q w w' := by
  have := bytes_any v tT w h fits_T
  rw [b_t] at this
  exact this
theorem same_told (v u : Value) (w : World) (h : TreeAt w v tT) (k : TreeAt w u tU) : Calls Tryz.prog 20 #[v, u] w fun e w' => e = .returned (.bool true) ∧ Q w w' := by
  have := same_any v u tT tU w h k fits_T fits_U
  rw [s_tu] at this
  exact this
theorem alike_told (v u : Value) (w : World) (h : TreeAt w v tT) (k : TreeAt w u tT) : Calls Tryz.prog 19 #[v, u] w fun e w' => e = .returned (.bool true) ∧ Q w w' := by
  have := alike_any v u tT tT w h k
  rw [show alikeT tT tT = true from decide_eq_true rfl] at this
  exact this
set_option maxRecDepth 100000 in
set_option maxHeartbeats 16000000 in
theorem told_any (w : World) : Calls Tryz.prog 10 #[] w fun e w' => e = .returned (.bool true) ∧ Q w w' := by
  obtain ⟨hT, hU, bt, bu, q0⟩ := told_start w
  go_enter Tryz.func10, Tryz.ntmps10
  go_wp2_with fail
  generalize ((((((((w.alloc (.cells #[.int .i64 1, .int .i64 0, .int .i64 0, .int .i64 0, .int .i64 0, .slice none 0 0, .slice none 0 0, .int .i64 0, .slice none 0 0, .string ⟨#[]⟩, .int .i64 0, .int .i64 0] 47)).alloc (.cells #[.int .i64 2, .int .i64 0, .int .i64 0, .int .i64 0, .int .i64 0, .slice none 0 0, .slice none 0 0, .int .i64 3, .slice none 0 0, .string ⟨#[]⟩, .int .i64 0, .int .i64 0] 47)).alloc (.cells #[.string ⟨#[]⟩, .int .i64 0, .string ⟨#[97]⟩, .int .i64 1, .string ⟨#[97, 47, 120]⟩, .int .i64 2, .string ⟨#[98]⟩, .int .i64 2] 49)).alloc (.cells #[.int .i64 1, .int .i64 0, .int .i64 0, .int .i64 0, .int .i64 0, .slice none 0 0, .slice none 0 0, .int .i64 0, .slice none 0 0, .string ⟨#[]⟩, .int .i64 0, .int .i64 0, .int .i64 1, .int .i64 0, .int .i64 0, .int .i64 0, .int .i64 0, .slice none 0 0, .slice none 0 0, .int .i64 0, .slice none 0 0, .string ⟨#[]⟩, .int .i64 0, .int .i64 0, .int .i64 2, .int .i64 0, .int .i64 0, .int .i64 0, .int .i64 0, .slice none 0 0, .slice none 0 0, .int .i64 3, .slice none 0 0, .string ⟨#[]⟩, .int .i64 0, .int .i64 0] 47)).alloc (.cells #[.slice (some ⟨w.heap.size + 1 + 1, 0, none⟩) 4 4, .slice (some ⟨w.heap.size + 1 + 1 + 1, 0, none⟩) 3 3] 25)).alloc (.cells #[.string ⟨#[98]⟩, .int .i64 0, .string ⟨#[97, 47, 120]⟩, .int .i64 0, .string ⟨#[]⟩, .int .i64 2, .string ⟨#[97]⟩, .int .i64 1] 49)).alloc (.cells #[.int .i64 2, .int .i64 0, .int .i64 0, .int .i64 0, .int .i64 0, .slice none 0 0, .slice none 0 0, .int .i64 3, .slice none 0 0, .string ⟨#[]⟩, .int .i64 0, .int .i64 0, .int .i64 1, .int .i64 0, .int .i64 0, .int .i64 0, .int .i64 0, .slice none 0 0, .slice none 0 0, .int .i64 0, .slice none 0 0, .string ⟨#[]⟩, .int .i64 0, .int .i64 0, .int .i64 1, .int .i64 0, .int .i64 0, .int .i64 0, .int .i64 0, .slice none 0 0, .slice none 0 0, .int .i64 0, .slice none 0 0, .string ⟨#[]⟩, .int .i64 0, .int .i64 0] 47)).alloc (.cells #[.slice (some ⟨w.heap.size + 1 + 1 + 1 + 1 + 1, 0, none⟩) 4 4, .slice (some ⟨w.heap.size + 1 + 1 + 1 + 1 + 1 + 1, 0, none⟩) 3 3] 25)) = w8 at *
  have HT := Lib.hid (fun w' (q : Q w8 w') => hT.keep q)
  have HU := Lib.hid (fun w' (q : Q w8 w') => hU.keep q)
  have BT := Lib.hid (fun w' (q : Q w8 w') => (And.intro (bt.keep q).cells (bt.keep q).lt))
  have BU := Lib.hid (fun w' (q : Q w8 w') => (And.intro (bu.keep q).cells (bu.keep q).lt))
  clear bt bu hT
  refine (norm_told _ _ hU).mono ?_
  rintro e w9 ⟨A1, c1, A2, c2, rfl, tn, q9⟩
  obtain ⟨⟨t0, t1⟩, tl⟩ := BT.out _ q9
  have bn := BoxT.new w9 (.slice A1 4 c1) (.slice A2 3 c2)
  have TN := Lib.hid (fun w' (q : Q w9 w') => tn.keep q)
  clear tn hU
  go_wp2_with fail
  refine (part_b_told _ _ _ (HT.out _ ((q9.alloc _).alloc _)) (row_one _ _ (by simp) _)).mono ?_
  rintro e wB ⟨A3, c3, A4, c4, rfl, qB⟩
  have QB := ((q9.alloc (.cells #[.slice A1 4 c1, .slice A2 3 c2] 25)).alloc (.cells #[.string ⟨#[98]⟩] 9)).trans qB
  have NB := ((Q.refl (w9.alloc (.cells #[.slice A1 4 c1, .slice A2 3 c2] 25))).alloc (.cells #[.string ⟨#[98]⟩] 9)).trans qB
  have RB := ((Q.refl w9).alloc (.cells #[.slice A1 4 c1, .slice A2 3 c2] 25)).trans NB
  clear t0 t1 tl
  obtain ⟨⟨t0, t1⟩, tl⟩ := BT.out _ QB
  have bp := BoxT.new wB (.slice A3 2 c3) (.slice A4 2 c4)
  go_wp2_with fail
  refine (part_c_told _ _ _ (HT.out _ ((QB.alloc _).alloc _)) (row_one _ _ (by simp) _)).mono ?_
  rintro e wC ⟨A5, c5, A6, c6, rfl, qC⟩
  have PC := ((Q.refl (wB.alloc (.cells #[.slice A3 2 c3, .slice A4 2 c4] 25))).alloc (.cells #[.string ⟨#[99]⟩] 9)).trans qC
  have BC := ((Q.refl wB).alloc (.cells #[.slice A3 2 c3, .slice A4 2 c4] 25)).trans PC
  have QC := QB.trans BC
  have NC := NB.trans BC
  have RC := RB.trans BC
  clear t0 t1 tl qC qB BC QB RB
  obtain ⟨⟨t0, t1⟩, tl⟩ := BT.out _ QC
  go_wp2_with fail
  refine (find_told _ _ (HT.out _ (QC.alloc _))).mono ?_
  rintro e wF ⟨rfl, qF⟩
  have CF := ((Q.refl wC).alloc (.cells #[.slice A5 0 c5, .slice A6 0 c6] 25)).trans qF
  have QF := QC.trans CF
  have NF := NC.trans CF
  have PF := PC.trans CF
  have RF := RC.trans CF
  clear t0 t1 tl qF CF QC NC PC RC
  obtain ⟨⟨t0, t1⟩, tl⟩ := BT.out _ QF
  go_wp2_with fail
  refine (class_told _ _ (HT.out _ QF)).mono ?_
  rintro e wG ⟨gc, cc, rfl, hgc, qG⟩
  have QG := QF.trans qG
  have NG := NF.trans qG
  have PG := PF.trans qG
  have RG := RF.trans qG
  have HB := Lib.hid (fun w' (q : Q wG w') => (And.intro (bn.keep (NG.trans q)).cells (bp.keep (PG.trans q)).cells))
  have HC := Lib.hid (fun w' (q : Q wG w') => q.cell hgc)
  have TG := Lib.hid (fun w' (q : Q wG w') => HT.out _ (QG.trans q))
  have UG := Lib.hid (fun w' (q : Q wG w') => HU.out _ (QG.trans q))
  have TM := Lib.hid (fun w' (q : Q wG w') => TN.out _ (RG.trans q))
  have BTG := Lib.hid (fun w' (q : Q wG w') => (BT.out _ (QG.trans q)).1)
  have BUG := Lib.hid (fun w' (q : Q wG w') => (BU.out _ (QG.trans q)).1)
  have QW := QG
  clear t0 t1 tl qG QF NF PF RF HT HU TN bn bp BT BU QG NG PG RG hgc
  have r0 := Q.refl wG
  obtain ⟨t0, t1⟩ := BTG.out _ r0
  obtain ⟨u0, u1⟩ := BUG.out _ r0
  obtain ⟨⟨n0, n1⟩, p0, p1⟩ := HB.out _ r0
  have k0 := HC.out _ r0
  go_wp2_with fail
  refine (may_told _ tT true _ (TG.out _ r0) fits_T m_t).mono ?_
  rintro e wH ⟨rfl, r10⟩
  have r1 := Q.trans r0 r10
  clear t0 t1 u0 u1 n0 n1 p0 p1 k0 r10
  obtain ⟨t0, t1⟩ := BTG.out _ r1
  obtain ⟨u0, u1⟩ := BUG.out _ r1
  obtain ⟨⟨n0, n1⟩, p0, p1⟩ := HB.out _ r1
  have k0 := HC.out _ r1
  go_wp2_with fail
  refine (may_told _ tU false _ (UG.out _ r1) fits_U m_u).mono ?_
  rintro e wI ⟨rfl, r20⟩
  have r2 := Q.trans r1 r20
  clear t0 t1 u0 u1 n0 n1 p0 p1 k0 r20
  obtain ⟨t0, t1⟩ := BTG.out _ r2
  obtain ⟨u0, u1⟩ := BUG.out _ r2
  obtain ⟨⟨n0, n1⟩, p0, p1⟩ := HB.out _ r2
  have k0 := HC.out _ r2
  go_wp2_with fail
  refine (alike_told _ _ _ (TM.out _ r2) (TG.out _ r2)).mono ?_
  rintro e wJ ⟨rfl, r30⟩
  have r3 := Q.trans r2 r30
  clear t0 t1 u0 u1 n0 n1 p0 p1 k0 r30
  obtain ⟨t0, t1⟩ := BTG.out _ r3
  obtain ⟨u0, u1⟩ := BUG.out _ r3
  obtain ⟨⟨n0, n1⟩, p0, p1⟩ := HB.out _ r3
  have k0 := HC.out _ r3
  go_wp2_with fail
  refine (same_told _ _ _ (TG.out _ r3) (UG.out _ r3)).mono ?_
  rintro e wK ⟨rfl, r40⟩
  have r4 := Q.trans r3 r40
  clear t0 t1 u0 u1 n0 n1 p0 p1 k0 r40
  obtain ⟨t0, t1⟩ := BTG.out _ r4
  obtain ⟨u0, u1⟩ := BUG.out _ r4
  obtain ⟨⟨n0, n1⟩, p0, p1⟩ := HB.out _ r4
  have k0 := HC.out _ r4
  go_wp2_with fail
  refine (kids_told _ _ (TG.out _ r4)).mono ?_
  rintro e wL ⟨A7, c7, rfl, r50⟩
  have r5 := Q.trans r4 r50
  clear t0 t1 u0 u1 n0 n1 p0 p1 k0 r50
  obtain ⟨t0, t1⟩ := BTG.out _ r5
  obtain ⟨u0, u1⟩ := BUG.out _ r5
  obtain ⟨⟨n0, n1⟩, p0, p1⟩ := HB.out _ r5
  have k0 := HC.out _ r5
  go_wp2_with fail
  refine (bytes_told _ _ (TG.out _ r5)).mono ?_
  rintro e wM ⟨rfl, r60⟩
  have r6 := Q.trans r5 r60
  clear t0 t1 u0 u1 n0 n1 p0 p1 k0 r60
  obtain ⟨t0, t1⟩ := BTG.out _ r6
  obtain ⟨u0, u1⟩ := BUG.out _ r6
  obtain ⟨⟨n0, n1⟩, p0, p1⟩ := HB.out _ r6
  have k0 := HC.out _ r6
  go_wp2_with fail
  refine (may_told _ ([], []) false _ (TreeAt.nil_ _) fits_Z m_z).mono ?_
  rintro e wN ⟨rfl, r70⟩
  have r7 := Q.trans r6 r70
  clear t0 t1 u0 u1 n0 n1 p0 p1 k0 r70
  go_wp2
  go_ret
  exact ⟨rfl, (q0.trans QW).trans r7⟩
end Go.Proofs.YtgbenepapajieaaGreat.Tr
