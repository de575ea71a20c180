/-
  Lists of numbers that came in.
-/
import Derived.Test.YtgbenepapajieaaGreatTFind
import Derived.Test.YtgbenepapajieaaGreatOpenM
import Derived.Deep.Slices
namespace Go.Proofs.YtgbenepapajieaaGreat.Tr
open Go.RowKit

set_option maxRecDepth 100000 in
theorem open_list {H : Type} {enc : TypeId × Value → H} {w : World} {base : Nat} {sp : Nat → Bool} {held : Bool} {v : Value} {d : DataW H} {p : List MemPlace} (hv : ∃ a len cap, v = .slice a len cap)
    (h : DataW.Trod enc Tryz.prog w base sp held 39 v d p) : ∃ l, RowAt cellsI 1 w v l := by
  obtain ⟨fuel, h⟩ := h
  obtain ⟨a, len, cap, rfl⟩ := hv
  obtain ⟨l, hl, _⟩ := open_row flatI (fun _ => True) Tryz.underlying39 (by kernel_rfl) (fun {n c D} h => by
    obtain ⟨n0, e0, _, _⟩ := DataW.trod_int Tryz.underlying3 h
    exact ⟨n0, e0, trivial⟩) h
  exact ⟨l, hl⟩
end Go.Proofs.YtgbenepapajieaaGreat.Tr
