/-
  Words on memory and texts: what a call leaves below, a slice that reads as a list of texts, paths as byte arrays.
-/
import Derived.Test.YtafekepgnockjaaRows
import Derived.Test.YtafekepgnockjaaMath
import Derived.WalkKit
import Derived.WalkSpells
import Derived.WalkLawsBesides
import Derived.WalkSmall
import Derived.ScopeJumps
import Derived.WalkMore
import Derived.Lib.Hide
namespace Go.Proofs.Ytafekepgnockjaa
open Go.RowKit
open Pth

/-- What a call that makes memory leaves: all that was there is as it was. -/
def Q (w w' : World) : Prop := Below w.heap.size w w'
theorem Q.refl (w : World) : Q w w := Below.refl _ _
theorem Q.trans {a b c : World} (h : Q a b) (k : Q b c) : Q a c := Below.trans h (Below.mono k h.size)
theorem Q.drew {a w : World} (h : Q a w) : Q a w.drew := Below.drew h
theorem Q.drewN {a w : World} (h : Q a w) (n : Nat) : Q a (w.drewN n) := below_drewN h n
theorem Q.alloc {a w : World} (h : Q a w) (o : Obj) : Q a (w.alloc o) := Below.alloc h h.size o
theorem Q.cell {w w' : World} (h : Q w w') {b o : Nat} {v : Value} (hc : w.cell? ⟨b, o, none⟩ = some v) : w'.cell? ⟨b, o, none⟩ = some v :=
  (Below.cell h (p := ⟨b, o, none⟩) (World.block_lt_of_cell? w _ hc)).trans hc

def mkB (l : List UInt8) : ByteArray := ⟨l.toArray⟩
theorem mkB_data (s : ByteArray) : mkB s.data.toList = s := rfl
theorem mkB_list (l : List UInt8) : (mkB l).data.toList = l := rfl
theorem extract_mkB (s : ByteArray) (a b : Nat) : s.extract a b = mkB ((s.data.toList.drop a).take (b - a)) := ByteArray.extract_mk s.data.toList a b

/-- A slice value that reads as these texts. -/
def StrsAt (w : World) (v : Value) (ls : List ByteArray) : Prop :=
  (ls = [] ∧ v = .slice none 0 0) ∨
  ∃ g cap, v = .slice (some ⟨g, 0, none⟩) ls.length cap ∧ ls.length ≤ cap ∧ cap ≤ maxLen ∧ ∀ i (h : i < ls.length), w.cell? ⟨g, i, none⟩ = some (.string ls[i])
theorem StrsAt.nil_ (w : World) : StrsAt w (.slice none 0 0) [] := .inl ⟨rfl, rfl⟩
theorem StrsAt.form {w : World} {v : Value} {ls : List ByteArray} (h : StrsAt w v ls) : ∃ A c, v = .slice A ls.length c := by
  rcases h with ⟨rfl, rfl⟩ | ⟨g, cap, rfl, _⟩
  · exact ⟨_, _, rfl⟩
  · exact ⟨_, _, rfl⟩
theorem StrsAt.at_ {w : World} {v : Value} {ls : List ByteArray} (h : StrsAt w v ls) (hn : 0 < ls.length) : ∃ g cap, v = .slice (some ⟨g, 0, none⟩) ls.length cap ∧ ls.length ≤ cap ∧ cap ≤ maxLen ∧ ∀ i (h : i < ls.length), w.cell? ⟨g, i, none⟩ = some (.string ls[i]) := by
  rcases h with ⟨rfl, rfl⟩ | h
  · simp at hn
  · exact h
theorem StrsAt.keep {w w' : World} {v : Value} {ls : List ByteArray} (h : StrsAt w v ls) (q : Q w w') : StrsAt w' v ls := by
  rcases h with h | ⟨g, cap, e, h1, h2, h3⟩
  · exact .inl h
  · exact .inr ⟨g, cap, e, h1, h2, fun i hi => q.cell (h3 i hi)⟩
theorem StrsAt.of_own {w : World} {base : Nat} {e : TypeId} {v : Value} {ls : List ByteArray} (h : w.ownsRow base e 1 v ls.length (ls.map Value.string)) : StrsAt w v ls := by
  rcases h.2 with ⟨rfl, hn⟩ | ⟨g, cap, cur, rfl, hb, hg, h1, h2, h3, h4⟩
  · exact .inl ⟨List.eq_nil_of_length_eq_zero hn, rfl⟩
  · refine .inr ⟨g, cap, rfl, h1, h2, fun i hi => ?_⟩
    have := h.cells (g := g) rfl i (.string ls[i]) (by simp [hi])
    simpa [Addr.add_lit] using this

/-! ### The words of paths over byte arrays -/
def endB (s : ByteArray) (i : Nat) : Nat := endL s.data.toList i
def nameB (s : ByteArray) : Bool := nameL s.data.toList
def mayB (s : ByteArray) : Bool := mayL s.data.toList
def partsB (s : ByteArray) : List ByteArray := (partsL s.data.toList).map mkB
def cutB (s : ByteArray) : List ByteArray := (cutL s.data.toList).map mkB
def depthB (s : ByteArray) : Int := depthL s.data.toList
def lastB (s : ByteArray) : ByteArray := mkB (lastL s.data.toList)
def parentB (s : ByteArray) : ByteArray := mkB (parentL s.data.toList)
def hasParentB (s : ByteArray) : Bool := hasParentL s.data.toList
def joinB (a b : ByteArray) : ByteArray := mkB (joinL a.data.toList b.data.toList)
def joinErrB (a b : ByteArray) : Int := joinErrL a.data.toList b.data.toList
def underB (s top : ByteArray) : Bool := underL s.data.toList top.data.toList
def lessB (a b : ByteArray) : Bool := lessL a.data.toList b.data.toList

theorem ret_int {k : IntKind} {a b : Int} (h : a = b) : Ending.returned (.int k a) = .returned (.int k b) := by rw [h]
theorem ret_bool {a b : Bool} (h : a = b) : Ending.returned (.bool a) = .returned (.bool b) := by rw [h]
theorem ret_string {a b : ByteArray} (h : a = b) : Ending.returned (.string a) = .returned (.string b) := by rw [h]
theorem u8_eq {c : UInt8} (v : UInt8) (h : c = v) : ((c.toNat : Int) == (v.toNat : Int)) = true := by rw [h]; simp
theorem u8_ne {c : UInt8} (v : UInt8) (h : c ≠ v) : ((c.toNat : Int) == (v.toNat : Int)) = false :=
  beq_eq_false_iff_ne.2 fun e => h (UInt8.toNat_inj.1 (by omega))

/-- A scope whose jumps go back to one label: the way into it may use what the rounds give. -/
theorem wp_scope_goto {P : Program} {a : Act} {w : World} {Q : Exit → Act → World → Prop} {c rest : Code} (l : Nat) (J : Act → World → Prop) (μ : Act → World → Nat) (hf : findLabel c l = some (.seq .skip rest))
    (first : Hid (∀ a w, J a w → rest.wp P (Exit.jump l J Q) a w) → c.wp P (Exit.jump l J Q) a w)
    (pass : ∀ a w, J a w → rest.wp P (Exit.jump l (fun a' w' => J a' w' ∧ μ a' w' < μ a w) Q) a w) : (Code.scope c).wp P Q a w :=
  wp_scope_jumps l J μ hf (first fun a w h => wp_mono (pass a w h) fun e a w q => by cases e <;> first | exact q | exact ⟨q.1, q.2.1⟩)
    fun a w h => wp_seq (wp_skip (pass a w h))
end Go.Proofs.Ytafekepgnockjaa
