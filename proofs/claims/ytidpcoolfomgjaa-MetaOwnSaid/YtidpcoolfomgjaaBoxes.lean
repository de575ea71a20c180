/-
  Blocks that hold metadata: stored to as a whole, apart from each other.
-/
import Derived.Test.YtidpcoolfomgjaaCopy
import Derived.Test.YtidpcoolfomgjaaInv
namespace Go.Proofs.Ytidpcoolfomgjaa
open Go.RowKit

/-- All but one block is as it was. -/
structure Upd (w w' : World) (p : Nat) : Prop where
  os : w'.os = w.os
  tape : w'.tape = w.tape
  output : w'.output = w.output
  size : w'.heap.size = w.heap.size
  far : ∀ g, g ≠ p → w'.heap[g]? = w.heap[g]?
theorem Upd.refl (w : World) (p : Nat) : Upd w w p := ⟨rfl, rfl, rfl, rfl, fun _ _ => rfl⟩
theorem Upd.cell {w w' : World} {p : Nat} (h : Upd w w' p) (i : Nat) (u : Value) : Upd w (w'.setCell ⟨p, i, none⟩ u) p :=
  ⟨h.os, h.tape, h.output, by rw [World.size_setCell]; exact h.size, fun g hg => (heap_setCell_far w' ⟨p, i, none⟩ u hg).trans (h.far g hg)⟩
theorem Upd.q {a w w' : World} {p : Nat} (h : Upd w w' p) (q : Q a w) (hp : a.heap.size ≤ p) : Q a w' :=
  ⟨h.os.trans q.os, h.tape.trans q.tape, h.output.trans q.output, by rw [h.size]; exact q.size, fun g hg => (h.far g (by omega)).trans (q.block g hg)⟩
theorem Upd.own {α : Type} {cs : α → List Value} {k : Nat} {E : TypeId} {w w' : World} {B p : Nat} {v : Value} {l : List α} (h : Upd w w' p) (o : OwnR E cs k w B v l) (hv : v.ownBlock ≠ some p) : OwnR E cs k w' B v l :=
  o.other fun g hg => h.far g (by rintro rfl; exact hv hg)
theorem Upd.box {w w' : World} {p g : Nat} {cs : Array Value} (h : Upd w w' p) (b : Box w g cs) (hg : g ≠ p) : Box w' g cs := b.other (h.far g hg)

/-- The blocks that a value leads to at once. -/
def vblocks : Value → List Nat
  | .agg cs => cs.toList.filterMap Value.ownBlock
  | .pointer (some a) => [a.block]
  | _ => []
theorem vblocks_meta (m : Mt) (va vl : Value) : vblocks (metaV m va vl) = va.ownBlock.toList ++ vl.ownBlock.toList := by
  show List.filterMap Value.ownBlock [va, vl] = _
  rw [List.filterMap_cons, List.filterMap_cons, List.filterMap_nil]
  generalize Value.ownBlock va = x
  generalize Value.ownBlock vl = y
  cases x <;> cases y <;> rfl
/-- They are new, and there. -/
def Bd (B : Nat) (w : World) (u : Value) : Prop := ∀ g ∈ vblocks u, B ≤ g ∧ g < w.heap.size
theorem Bd.keep {B : Nat} {w w' : World} {u : Value} (h : Bd B w u) (hs : w.heap.size ≤ w'.heap.size) : Bd B w' u := fun g hg => ⟨(h g hg).1, by have := (h g hg).2; omega⟩
def Dj (u v : Value) : Prop := ∀ g ∈ vblocks u, ∀ h ∈ vblocks v, g ≠ h
theorem Dj.symm {u v : Value} (h : Dj u v) : Dj v u := fun a ha b hb e => h b hb a ha e.symm
theorem Dj.new {B C : Nat} {w w' : World} {u v : Value} (h : Bd B w u) (k : Bd C w' v) (hC : w.heap.size ≤ C) : Dj u v := fun a ha b hb e => by
  have := (h a ha).2
  have := (k b hb).1
  omega
theorem OwnM.bd {w : World} {B : Nat} {v : Value} {m : Mt} (h : OwnM w B v m) : Bd B w v := by
  obtain ⟨va, vl, rfl, h1, h2⟩ := h
  intro g hg
  rw [vblocks_meta, List.mem_append, Option.mem_toList, Option.mem_toList] at hg
  rcases hg with hg | hg
  · exact h1.lt g hg
  · exact h2.lt g hg
theorem OwnM.keep {w w' : World} {B : Nat} {v : Value} {m : Mt} (h : OwnM w B v m) (q : Q w w') : OwnM w' B v m := by
  obtain ⟨va, vl, e, h1, h2⟩ := h
  exact ⟨va, vl, e, OwnR.keep h1 q, OwnR.keep h2 q⟩
theorem OwnM.mono {w : World} {B C : Nat} {v : Value} {m : Mt} (h : OwnM w B v m) (hB : C ≤ B) : OwnM w C v m := by
  obtain ⟨va, vl, e, h1, h2⟩ := h
  exact ⟨va, vl, e, OwnR.mono h1 hB, OwnR.mono h2 hB⟩
theorem OwnM.upd {w w' : World} {B p : Nat} {v : Value} {m : Mt} (h : OwnM w B v m) (u : Upd w w' p) (hp : p ∉ vblocks v) : OwnM w' B v m := by
  obtain ⟨va, vl, rfl, h1, h2⟩ := h
  rw [vblocks_meta, List.mem_append, Option.mem_toList, Option.mem_toList] at hp
  exact ⟨va, vl, rfl, u.own h1 fun e => hp (.inl e), u.own h2 fun e => hp (.inr e)⟩
/-- The two rows of a copy are two blocks. -/
theorem own_two {w : World} {B C : Nat} {va vl : Value} {a : List Attr} {l : List Ace} (h1 : OwnT w B va a) (h2 : OwnA w C vl l) (g : Nat) (hg : va.ownBlock = some g) : vl.ownBlock ≠ some g := by
  intro hl
  rcases h1.2 with ⟨rfl, _⟩ | ⟨g1, c1, cur1, rfl, _, hh1, _⟩
  · cases hg
  · cases hg
    rcases h2.2 with ⟨rfl, _⟩ | ⟨g2, c2, cur2, rfl, _, hh2, _⟩
    · cases hl
    · cases hl
      rw [hh1] at hh2
      simp at hh2

theorem size6 {cs : Array Value} (h : cs.size = 6) : ∃ c0 c1 c2 c3 c4 c5, cs = #[c0, c1, c2, c3, c4, c5] := by
  obtain ⟨l⟩ := cs
  match l, h with
  | [c0, c1, c2, c3, c4, c5], _ => exact ⟨c0, c1, c2, c3, c4, c5, rfl⟩
/-- Metadata is stored into a block. -/
theorem box_store {w : World} {p : Nat} {c0 c1 c2 c3 c4 c5 : Value} (h : Box w p #[c0, c1, c2, c3, c4, c5]) (u0 u1 u2 u3 u4 u5 : Value) :
    Box ((((((w.setCell ⟨p, 0, none⟩ u0).setCell ⟨p, 1, none⟩ u1).setCell ⟨p, 2, none⟩ u2).setCell ⟨p, 3, none⟩ u3).setCell ⟨p, 4, none⟩ u4).setCell ⟨p, 5, none⟩ u5) p #[u0, u1, u2, u3, u4, u5] ∧
    Upd w ((((((w.setCell ⟨p, 0, none⟩ u0).setCell ⟨p, 1, none⟩ u1).setCell ⟨p, 2, none⟩ u2).setCell ⟨p, 3, none⟩ u3).setCell ⟨p, 4, none⟩ u4).setCell ⟨p, 5, none⟩ u5) p := by
  constructor
  · have y := ((((((h.set 0 u0).set 1 u1).set 2 u2).set 3 u3).set 4 u4).set 5 u5)
    simp only [List.setIfInBounds_toArray, List.set_cons_succ, List.set_cons_zero] at y
    exact y
  · exact ((((((Upd.refl w p).cell 0 u0).cell 1 u1).cell 2 u2).cell 3 u3).cell 4 u4).cell 5 u5
end Go.Proofs.Ytidpcoolfomgjaa
