/-
  Slices of flat structs, whatever the struct: read, of the call's own, appended to.
-/
import Derived.Test.YtheobpilmphdjaaGreatBase
import Derived.Laws.OwnMore
import Derived.Deep.Onto
import Derived.Lib.OwnBridge
import Derived.Deep.AppendLies
namespace Go.Proofs.YtheobpilmphdjaaGreat
open Go.RowKit

/-- How a struct lies in memory: so many cells. -/
structure Flat {α : Type} (cs : α → List Value) (k : Nat) : Prop where
  len : ∀ x, (cs x).length = k
  one : ∀ x, ∀ u ∈ cs x, u.oneCell' = true
  pos : 0 < k
def flatR {α : Type} (cs : α → List Value) (l : List α) : List Value := l.flatMap cs
section
variable {α : Type} {cs : α → List Value} {k : Nat}
theorem flatR_len (F : Flat cs k) (l : List α) : (flatR cs l).length = l.length * k := by
  induction l with
  | nil => simp [flatR]
  | cons x r ih => rw [flatR, List.flatMap_cons, List.length_append, ← flatR, ih, F.len, List.length_cons, Nat.succ_mul]; omega
theorem flatR_add (l m : List α) : flatR cs (l ++ m) = flatR cs l ++ flatR cs m := List.flatMap_append
theorem flatR_at (F : Flat cs k) : ∀ (l : List α) (i c : Nat) (hi : i < l.length), c < k → (flatR cs l)[i * k + c]? = (cs l[i])[c]?
  | x :: r, 0, c, _, hc => by
    rw [flatR, List.flatMap_cons, List.getElem?_append_left (by rw [F.len]; omega)]
    simp
  | x :: r, i + 1, c, hi, hc => by
    have e : (i + 1) * k + c = k + (i * k + c) := by rw [Nat.succ_mul]; omega
    rw [flatR, List.flatMap_cons, List.getElem?_append_right (by rw [F.len]; omega)]
    have := flatR_at F r i c (by simpa using hi) hc
    rw [flatR] at this
    rw [show (i + 1) * k + c - (cs x).length = i * k + c by rw [F.len]; omega, this]
    rfl
theorem flatR_one (F : Flat cs k) (l : List α) : ∀ u ∈ flatR cs l, u.oneCell' = true := by
  intro u hu
  obtain ⟨x, _, hx⟩ := List.mem_flatMap.1 hu
  exact F.one x u hx

/-- A slice value that reads as these. -/
def RowAt (cs : α → List Value) (k : Nat) (w : World) (v : Value) (l : List α) : Prop :=
  (l = [] ∧ ∃ a cap, v = .slice a 0 cap ∧ (a = none → cap = 0)) ∨
  ∃ g o cap, v = .slice (some ⟨g, o, none⟩) l.length cap ∧ l.length ≤ cap ∧ cap ≤ maxLen ∧ ∀ i (h : i < l.length) c u, (cs l[i])[c]? = some u → w.cell? ⟨g, o + i * k + c, none⟩ = some u
theorem RowAt.nil_ (w : World) : RowAt cs k w (.slice none 0 0) [] := .inl ⟨rfl, _, _, rfl, fun _ => rfl⟩
theorem RowAt.form {w : World} {v : Value} {l : List α} (h : RowAt cs k w v l) : ∃ A c, v = .slice A l.length c := by
  rcases h with ⟨rfl, a, c, rfl, _⟩ | ⟨g, o, cap, rfl, _⟩
  · exact ⟨_, _, rfl⟩
  · exact ⟨_, _, rfl⟩
theorem RowAt.len {w : World} {v : Value} {l : List α} (h : RowAt cs k w v l) : l.length ≤ maxLen := by
  rcases h with ⟨rfl, a, c, rfl, _⟩ | ⟨g, o, cap, rfl, h1, h2, _⟩
  · simp
  · omega
theorem RowAt.at_ {w : World} {v : Value} {l : List α} (h : RowAt cs k w v l) (hn : 0 < l.length) : ∃ g o cap, v = .slice (some ⟨g, o, none⟩) l.length cap ∧ l.length ≤ cap ∧ cap ≤ maxLen ∧ ∀ i (h : i < l.length) c u, (cs l[i])[c]? = some u → w.cell? ⟨g, o + i * k + c, none⟩ = some u := by
  rcases h with ⟨rfl, a, c, rfl, _⟩ | h
  · simp at hn
  · exact h
theorem RowAt.keep {w w' : World} {v : Value} {l : List α} (h : RowAt cs k w v l) (q : Q w w') : RowAt cs k w' v l := by
  rcases h with h | ⟨g, o, cap, e, h1, h2, h3⟩
  · exact .inl h
  · exact .inr ⟨g, o, cap, e, h1, h2, fun i hi c u hu => q.cell (h3 i hi c u hu)⟩

/-- A row of the call's own. -/
def OwnR (E : TypeId) (cs : α → List Value) (k : Nat) (w : World) (B : Nat) (v : Value) (l : List α) : Prop := w.ownsRow B E k v l.length (flatR cs l)
theorem OwnR.row {E : TypeId} (F : Flat cs k) {w : World} {B : Nat} {v : Value} {l : List α} (h : OwnR E cs k w B v l) : RowAt cs k w v l := by
  rcases h.2 with ⟨rfl, hn⟩ | ⟨g, cap, cur, rfl, hb, hg, h1, h2, h3, h4⟩
  · exact .inl ⟨List.eq_nil_of_length_eq_zero hn, _, _, rfl, fun _ => rfl⟩
  · refine .inr ⟨g, 0, cap, rfl, h1, h2, fun i hi c u hu => ?_⟩
    have hc : c < k := by
      rcases Nat.lt_or_ge c k with h | h
      · exact h
      · rw [List.getElem?_eq_none (by rw [F.len]; exact h)] at hu; cases hu
    have := h.cells (g := g) rfl (i * k + c) u (by rw [flatR_at F l i c hi hc]; exact hu)
    rw [Addr.add_lit] at this
    rw [Nat.add_assoc]
    exact this
theorem OwnR.nil_ (E : TypeId) (w : World) (B : Nat) : OwnR E cs k w B (.slice none 0 0) [] := ⟨by simp [flatR], .inl ⟨rfl, rfl⟩⟩
theorem OwnR.form {E : TypeId} (F : Flat cs k) {w : World} {B : Nat} {v : Value} {l : List α} (h : OwnR E cs k w B v l) : ∃ A c, v = .slice A l.length c := (h.row F).form
theorem OwnR.mono {E : TypeId} {w : World} {B B' : Nat} {v : Value} {l : List α} (h : OwnR E cs k w B v l) (hB : B' ≤ B) : OwnR E cs k w B' v l := World.ownsRow.mono h hB
theorem OwnR.lt {E : TypeId} {w : World} {B : Nat} {v : Value} {l : List α} (h : OwnR E cs k w B v l) (g : Nat) (hg : v.ownBlock = some g) : B ≤ g ∧ g < w.heap.size := World.ownsRow.lt h g hg
theorem OwnR.grew {E : TypeId} {w w' : World} {B : Nat} {v : Value} {l : List α} (h : OwnR E cs k w B v l) (g : Grew w w') : OwnR E cs k w' B v l := by
  obtain ⟨p, os, rfl⟩ := g
  obtain ⟨hl, h0 | ⟨g, cap, cur, hv, hb, hh, r⟩⟩ := h
  · exact ⟨hl, .inl h0⟩
  · have hg : g < w.heap.size := by
      rcases Nat.lt_or_ge g w.heap.size with h1 | h1
      · exact h1
      · rw [Array.getElem?_eq_none h1] at hh
        cases hh
    exact ⟨hl, .inr ⟨g, cap, cur, hv, hb, by show (w.heap ++ os)[g]? = _; rw [Array.getElem?_append_left hg]; exact hh, r⟩⟩
/-- .. below which all is as it was. -/
theorem OwnR.keep {E : TypeId} {w w' : World} {B : Nat} {v : Value} {l : List α} (h : OwnR E cs k w B v l) (q : Q w w') : OwnR E cs k w' B v l := by
  obtain ⟨hl, h0 | ⟨g, cap, cur, hv, hb, hh, r⟩⟩ := h
  · exact ⟨hl, .inl h0⟩
  · have hg : g < w.heap.size := by
      rcases Nat.lt_or_ge g w.heap.size with h1 | h1
      · exact h1
      · rw [Array.getElem?_eq_none h1] at hh
        cases hh
    exact ⟨hl, .inr ⟨g, cap, cur, hv, hb, (q.block g hg).trans hh, r⟩⟩
/-- An empty row that is not nil. -/
theorem own_empty (E : TypeId) (w : World) (B : Nat) (hB : B ≤ w.heap.size) : OwnR E cs k (w.alloc (.cells #[] E)) B (.slice (some ⟨w.heap.size, 0, none⟩) 0 0) [] :=
  ⟨by simp [flatR], .inr ⟨w.heap.size, 0, #[], rfl, hB, by show (w.heap.push _)[w.heap.size]? = _; simp, Nat.le_refl _, by unfold maxLen; omega, by simp, by simp [flatR]⟩⟩
theorem own_one (F : Flat cs k) (E : TypeId) (w : World) (B : Nat) (hB : B ≤ w.heap.size) (x : α) : OwnR E cs k (w.alloc (.cells (cs x).toArray E)) B (.slice (some ⟨w.heap.size, 0, none⟩) 1 1) [x] :=
  ⟨by rw [flatR_len F], .inr ⟨w.heap.size, 1, (cs x).toArray, rfl, hB, by show (w.heap.push _)[w.heap.size]? = _; simp, Nat.le_refl _, by unfold maxLen; omega, by simp [F.len], by simp [flatR, F.len, List.take_of_length_le]⟩⟩

theorem row_take {w : World} {g o n cap : Nat} {l : List α} {j : Nat} (h : RowAt cs k w (.slice (some ⟨g, o, none⟩) n cap) l) (hk : j ≤ l.length) (hc : j ≤ cap) : RowAt cs k w (.slice (some ⟨g, o, none⟩) j cap) (l.take j) := by
  rcases h with ⟨rfl, a, c, e, _⟩ | ⟨g', o', cap', e, h1, h2, h3⟩
  · exact .inl ⟨by simp, _, _, by rw [show j = 0 by simpa using hk], fun e => by cases e⟩
  · cases e
    refine .inr ⟨g, o, cap, by rw [List.length_take, Nat.min_eq_left hk], by rw [List.length_take]; omega, h2, fun i hi => ?_⟩
    have hi' : i < l.length := by rw [List.length_take] at hi; omega
    rw [List.getElem_take]
    exact h3 i hi'
theorem row_drop {w : World} {g o n cap : Nat} {l : List α} {j : Nat} (h : RowAt cs k w (.slice (some ⟨g, o, none⟩) n cap) l) (hn : n = l.length) (hk : j ≤ l.length) (o' cap' : Nat) (ho : j < l.length → o' = o + j * k) (hc : l.length - j ≤ cap') (hc' : cap' ≤ maxLen) : RowAt cs k w (.slice (some ⟨g, o', none⟩) (n - j) cap') (l.drop j) := by
  by_cases e : j = l.length
  · exact .inl ⟨by rw [e]; simp, _, _, by rw [hn, e, Nat.sub_self], fun e => by cases e⟩
  · have hlt : j < l.length := by omega
    obtain rfl := ho hlt
    obtain ⟨g', o', cap2, e, h1, h2, h3⟩ := h.at_ (by omega)
    cases e
    refine .inr ⟨g, o + j * k, cap', by rw [List.length_drop], by rw [List.length_drop]; omega, hc', fun i hi => ?_⟩
    rw [List.length_drop] at hi
    rw [List.getElem_drop, show o + j * k + i * k = o + (j + i) * k by rw [Nat.add_mul]; omega]
    exact h3 (j + i) (by omega)
theorem row_cells (F : Flat cs k) {w : World} {g o : Nat} {l : List α} (hc : ∀ i (h : i < l.length) c u, (cs l[i])[c]? = some u → w.cell? ⟨g, o + i * k + c, none⟩ = some u) :
    ∀ j u, (flatR cs l)[j]? = some u → w.cell? ((⟨g, o, none⟩ : Addr).add j) = some u := by
  intro j u hu
  have hk := F.pos
  have hj : j < l.length * k := by
    rw [← flatR_len F]
    rcases Nat.lt_or_ge j (flatR cs l).length with h | h
    · exact h
    · rw [List.getElem?_eq_none h] at hu; cases hu
  have hi : j / k < l.length := (Nat.div_lt_iff_lt_mul hk).2 hj
  have hjd : j / k * k + j % k = j := by rw [Nat.mul_comm]; exact Nat.div_add_mod j k
  rw [← hjd, flatR_at F l (j / k) (j % k) hi (Nat.mod_lt _ hk)] at hu
  rw [Addr.add_lit]
  have := hc (j / k) hi _ u hu
  rw [Nat.add_assoc, hjd] at this
  exact this

/-- append of a slice that reads as these to an own row. -/
theorem run_append_row {P : Program} {S E : TypeId} {i0 : TypeInfo} {z : Value} {bytes : Nat} (F : Flat cs k) (hS : P.underlying S = some (.slice E)) (hi0 : P.info? E = some i0) (hz0 : i0.zero = some z) (hz1 : i0.size = k) (hz2 : i0.bytes = bytes) (hzs : z.cells.size = k) (hby : bytes ≤ 1000000)
    {w : World} (ty : TypeId) (B : Nat) (v : Value) (l : List α) (hown : OwnR E cs k w B v l) (vx : Value) (m : List α) (he : RowAt cs k w vx m) (hnl : l.length + m.length ≤ 100000) (hbase : B ≤ w.heap.size) :
    ∃ v' w', (Builtin.append_ #[S, S] ty #[v, vx]).run P w = .ok v' w' ∧ OwnR E cs k w' B v' (l ++ m) ∧ w.grownBy w' v.ownBlock ∧ (v' = .slice none 0 0 → l ++ m = []) := by
  have he' : m = [] ∧ vx = .slice none 0 0 ∨ ∃ A cap, vx = .slice (some A) m.length cap ∧ ∀ j u, (flatR cs m)[j]? = some u → w.cell? (A.add j) = some u := by
    rcases he with ⟨rfl, a, c, rfl, ha⟩ | ⟨g, o, cap, rfl, h1, h2, h3⟩
    · cases a with
      | none => rw [ha rfl]; exact .inl ⟨rfl, rfl⟩
      | some A => exact .inr ⟨A, c, rfl, fun j u hu => by simp [flatR] at hu⟩
    · exact .inr ⟨_, cap, rfl, row_cells F h3⟩
  rcases he' with ⟨rfl, rfl⟩ | ⟨A, cap, rfl, h3⟩
  · have hr := run_append_owned_none (P := P) w B S ty E i0 k hS hi0 v l.length (flatR cs l) hown
    refine ⟨v, w, hr, by rw [List.append_nil]; exact hown, ⟨rfl, rfl, rfl, Nat.le_refl _, fun _ _ _ => rfl⟩, ?_⟩
    rintro rfl
    rcases hown.2 with ⟨_, h⟩ | ⟨g, cap, cur, e, _⟩
    · rw [List.append_nil]; exact List.eq_nil_of_length_eq_zero h
    · cases e
  · have hr := run_append_own (P := P) w B S ty E i0 _ k bytes hS hi0 hz0 hz1 hz2 hzs F.pos v l.length (flatR cs l) hown A m.length cap (flatR cs m) (flatR_len F m) h3 (flatR_one F m) (by unfold maxLen; omega) (Nat.le_trans (Nat.mul_le_mul hnl hby) (by decide)) hbase
    obtain ⟨v', w', hr, a2, a3, a4⟩ := hr
    refine ⟨v', w', hr, by unfold OwnR; rw [List.length_append, flatR_add]; exact a2, a3, fun e => ?_⟩
    obtain ⟨rfl, hm⟩ := a4.1 e
    rcases hown.2 with ⟨_, h⟩ | ⟨g, cap, cur, e, _⟩
    · rw [List.eq_nil_of_length_eq_zero h, List.eq_nil_of_length_eq_zero hm]; rfl
    · cases e
end
end Go.Proofs.YtheobpilmphdjaaGreat
