/-
  Lists of extents in memory; the contracts of Same, Has, May.
-/
import Derived.Test.YtheobpilmphdjaaEFns
import Derived.Deep.QuietTactic
import Derived.BigQuiet
namespace Go.Proofs.Ytheobpilmphdjaa.Ex
open Go.RowKit
open Rng

/-- A slice value that reads as these extents. -/
def ExtsAt (w : World) (v : Value) (ls : List X) : Prop :=
  (ls = [] ∧ v = .slice none 0 0) ∨
  ∃ g og cap, v = .slice (some ⟨g, og, none⟩) ls.length cap ∧ ls.length ≤ cap ∧ cap ≤ maxLen ∧ ∀ i (h : i < ls.length), w.cell? ⟨g, og + i, none⟩ = some (E ls[i])
theorem ExtsAt.nil_ (w : World) : ExtsAt w (.slice none 0 0) [] := .inl ⟨rfl, rfl⟩
theorem ExtsAt.form {w : World} {v : Value} {ls : List X} (h : ExtsAt w v ls) : ∃ A c, v = .slice A ls.length c := by
  rcases h with ⟨rfl, rfl⟩ | ⟨g, og, cap, rfl, _⟩
  · exact ⟨_, _, rfl⟩
  · exact ⟨_, _, rfl⟩
theorem ExtsAt.len {w : World} {v : Value} {ls : List X} (h : ExtsAt w v ls) : ls.length ≤ maxLen := by
  rcases h with ⟨rfl, rfl⟩ | ⟨g, og, cap, rfl, h1, h2, _⟩
  · simp
  · omega
theorem ExtsAt.at_ {w : World} {v : Value} {ls : List X} (h : ExtsAt w v ls) (hn : 0 < ls.length) : ∃ g og cap, v = .slice (some ⟨g, og, none⟩) ls.length cap ∧ ls.length ≤ cap ∧ cap ≤ maxLen ∧ ∀ i (h : i < ls.length), w.cell? ⟨g, og + i, none⟩ = some (E ls[i]) := by
  rcases h with ⟨rfl, rfl⟩ | h
  · simp at hn
  · exact h
theorem ExtsAt.keep {w w' : World} {v : Value} {ls : List X} (h : ExtsAt w v ls) (q : Q w w') : ExtsAt w' v ls := by
  rcases h with h | ⟨g, og, cap, e, h1, h2, h3⟩
  · exact .inl h
  · exact .inr ⟨g, og, cap, e, h1, h2, fun i hi => q.cell (h3 i hi)⟩
theorem ExtsAt.of_own {w : World} {base : Nat} {e : TypeId} {v : Value} {ls : List X} (h : w.ownsRow base e 1 v ls.length (ls.map E)) : ExtsAt w v ls := by
  rcases h.2 with ⟨rfl, hn⟩ | ⟨g, cap, cur, rfl, hb, hg, h1, h2, h3, h4⟩
  · exact .inl ⟨List.eq_nil_of_length_eq_zero hn, rfl⟩
  · refine .inr ⟨g, 0, cap, rfl, h1, h2, fun i hi => ?_⟩
    have := h.cells (g := g) rfl i (E ls[i]) (by simp [hi])
    simpa [Addr.add_lit] using this

/-! ### Same -/
theorem same_head {a b : List X} (h : a.length = b.length) {k : Nat} (hk : k < a.length) (hs : a.take k = b.take k) (h1 : a[k] = b[k]) : a.take (k + 1) = b.take (k + 1) := by
  rw [List.take_succ_eq_append_getElem hk, List.take_succ_eq_append_getElem (by omega : k < b.length), hs, h1]
theorem same_no {a b : List X} {k : Nat} (hk : k < a.length) (hk' : k < b.length) (h1 : ¬ a[k] = b[k]) : ¬ a = b := by
  intro e
  subst e
  exact h1 rfl

/-! ### Has -/
def hit (p : Int) (x : X) : Bool := decide ((x.1 : Int) ≤ p ∧ p < (x.1 + (cutN x).2 : Nat))
def hasB (l : List X) (p : Int) : Bool := l.any (hit p)
theorem has_no {l : List X} {p : Int} {k : Nat} (hk : k < l.length) (hs : hasB (l.take k) p = false) (h1 : hit p l[k] = false) : hasB (l.take (k + 1)) p = false := by
  unfold hasB at *
  rw [List.take_succ_eq_append_getElem hk, List.any_append, hs]
  simp [h1]
theorem has_yes {l : List X} {p : Int} {k : Nat} (hk : k < l.length) (h1 : hit p l[k] = true) : hasB l p = true :=
  List.any_eq_true.2 ⟨_, List.getElem_mem hk, h1⟩
theorem has_mem {l : List X} (hu : Upto M l) (p : Nat) : hasB l (p : Int) = true ↔ Mem p l := by
  have hc : ∀ x ∈ l, (cutN x).2 = x.2 := fun x hx => by have := hu x hx; unfold cutN; simp only; omega
  unfold hasB
  rw [List.any_eq_true]
  constructor
  · rintro ⟨x, hx, h⟩
    have := of_decide_eq_true h
    rw [hc x hx] at this
    exact ⟨x, hx, by unfold In; omega⟩
  · rintro ⟨x, hx, h1, h2⟩
    refine ⟨x, hx, decide_eq_true ?_⟩
    rw [hc x hx]
    omega
theorem cutN_ok {x : X} (h : x.1 ≤ M ∧ x.2 ≤ M) : (cutN x).1 = x.1 ∧ (cutN x).1 ≤ M ∧ (cutN x).2 ≤ M := by
  refine ⟨rfl, h.1, ?_⟩
  show min (x.1 + x.2) M - x.1 ≤ M
  omega

end Go.Proofs.Ytheobpilmphdjaa.Ex
