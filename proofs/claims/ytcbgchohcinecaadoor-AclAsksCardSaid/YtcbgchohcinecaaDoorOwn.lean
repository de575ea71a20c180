/-
  Rows of entries that a call owns: read, appended to.
-/
import Derived.Test.YtcbgchohcinecaaDoorMem
import Derived.Laws.OwnMore
import Derived.Deep.Onto
import Derived.Lib.OwnBridge
import Derived.Shelf.SlSortCmp.NoneTotal
namespace Go.Proofs.YtcbgchohcinecaaDoor
open Go.RowKit Go.Sort

def cells3 (x : Ace) : List Value := [.int .i64 x.1, .int .i64 x.2.1, .int .i64 x.2.2]
def flatA (l : List Ace) : List Value := l.flatMap cells3
theorem flatA_len (l : List Ace) : (flatA l).length = l.length * 3 := by
  induction l with
  | nil => rfl
  | cons x r ih => rw [flatA, List.flatMap_cons, List.length_append, ← flatA, ih]; simp [cells3]; omega
theorem flatA_add (l m : List Ace) : flatA (l ++ m) = flatA l ++ flatA m := List.flatMap_append
theorem flatA_at : ∀ (l : List Ace) (i c : Nat) (hi : i < l.length), c < 3 → (flatA l)[i * 3 + c]? = (cells3 l[i])[c]?
  | x :: r, 0, c, _, hc => by
    rw [flatA, List.flatMap_cons, List.getElem?_append_left (by simp [cells3]; omega)]
    simp
  | x :: r, i + 1, c, hi, hc => by
    rw [flatA, List.flatMap_cons, List.getElem?_append_right (by simp [cells3]; omega)]
    have := flatA_at r i c (by simpa using hi) hc
    rw [flatA] at this
    rw [show (i + 1) * 3 + c - (cells3 x).length = i * 3 + c by simp [cells3]; omega, this]
    rfl
/-- A row of entries of the call's own. -/
def OwnA (w : World) (B : Nat) (v : Value) (l : List Ace) : Prop := w.ownsRow B 33 3 v l.length (flatA l)
theorem OwnA.aces {w : World} {B : Nat} {v : Value} {l : List Ace} (h : OwnA w B v l) : AcesAt w v l := by
  rcases h.2 with ⟨rfl, hn⟩ | ⟨g, cap, cur, rfl, hb, hg, h1, h2, h3, h4⟩
  · exact .inl ⟨List.eq_nil_of_length_eq_zero hn, _, _, rfl, fun _ => rfl⟩
  · refine .inr ⟨g, 0, cap, rfl, h1, h2, fun i hi => ?_⟩
    have hc := h.cells (g := g) rfl
    have a0 := hc (i * 3 + 0) (.int .i64 l[i].1) (by rw [flatA_at l i 0 hi (by omega)]; rfl)
    have a1 := hc (i * 3 + 1) (.int .i64 l[i].2.1) (by rw [flatA_at l i 1 hi (by omega)]; rfl)
    have a2 := hc (i * 3 + 2) (.int .i64 l[i].2.2) (by rw [flatA_at l i 2 hi (by omega)]; rfl)
    simp only [Addr.add_lit, Nat.zero_add, Nat.add_zero] at a0 a1 a2
    simp only [Nat.zero_add]
    exact ⟨a0, a1, a2⟩
theorem OwnA.nil_ (w : World) (B : Nat) : OwnA w B (.slice none 0 0) [] := ⟨rfl, .inl ⟨rfl, rfl⟩⟩
theorem info_ace : (Tryd.prog.info? 33).map (fun i => (i.zero, i.size, i.bytes)) = some (some (.agg #[.int .i64 0, .int .i64 0, .int .i64 0]), 3, 24) := by kernel_rfl

theorem aces_cells {w : World} {g o : Nat} {l : List Ace} (hc : ∀ i (h : i < l.length), w.cell? ⟨g, o + i * 3, none⟩ = some (.int .i64 l[i].1) ∧ w.cell? ⟨g, o + i * 3 + 1, none⟩ = some (.int .i64 l[i].2.1) ∧ w.cell? ⟨g, o + i * 3 + 2, none⟩ = some (.int .i64 l[i].2.2)) :
    ∀ j u, (flatA l)[j]? = some u → w.cell? ((⟨g, o, none⟩ : Addr).add j) = some u := by
  intro j u hu
  have hj : j < l.length * 3 := by
    rw [← flatA_len]
    rcases Nat.lt_or_ge j (flatA l).length with h | h
    · exact h
    · rw [List.getElem?_eq_none h] at hu; cases hu
  have hi : j / 3 < l.length := by omega
  have hjd : j = j / 3 * 3 + j % 3 := by omega
  obtain ⟨a0, a1, a2⟩ := hc (j / 3) hi
  rw [hjd, flatA_at l (j / 3) (j % 3) hi (by omega)] at hu
  rw [Addr.add_lit]
  have h3 : j % 3 = 0 ∨ j % 3 = 1 ∨ j % 3 = 2 := by omega
  rcases h3 with h | h | h
  · rw [h] at hu
    rw [show o + j = o + j / 3 * 3 by omega, a0]
    exact hu
  · rw [h] at hu
    rw [show o + j = o + j / 3 * 3 + 1 by omega, a1]
    exact hu
  · rw [h] at hu
    rw [show o + j = o + j / 3 * 3 + 2 by omega, a2]
    exact hu
theorem flatA_one (l : List Ace) : ∀ u ∈ flatA l, u.oneCell' = true := by
  intro u hu
  obtain ⟨x, _, hx⟩ := List.mem_flatMap.1 hu
  simp only [cells3, List.mem_cons, List.not_mem_nil, or_false] at hx
  rcases hx with rfl | rfl | rfl <;> rfl

/-- append of a slice that reads as these entries to an own row. -/
theorem run_append_aces {w : World} (ty : TypeId) (B : Nat) (v : Value) (l : List Ace) (hown : OwnA w B v l) (vx : Value) (m : List Ace) (he : AcesAt w vx m) (hnl : l.length + m.length ≤ 100000) (hbase : B ≤ w.heap.size) :
    ∃ v' w', (Builtin.append_ #[22, 22] ty #[v, vx]).run Tryd.prog w = .ok v' w' ∧ OwnA w' B v' (l ++ m) ∧ w.grownBy w' v.ownBlock ∧ (v' = .slice none 0 0 → l ++ m = []) := by
  obtain ⟨i0, hi0, hz0, hz1, hz2⟩ := info_parts info_ace
  have he' : m = [] ∧ vx = .slice none 0 0 ∨ ∃ A cap, vx = .slice (some A) m.length cap ∧ ∀ j u, (flatA m)[j]? = some u → w.cell? (A.add j) = some u := by
    rcases he with ⟨rfl, a, c, rfl, ha⟩ | ⟨g, o, cap, rfl, h1, h2, h3⟩
    · cases a with
      | none => rw [ha rfl]; exact .inl ⟨rfl, rfl⟩
      | some A => exact .inr ⟨A, c, rfl, fun j u hu => by cases hu⟩
    · exact .inr ⟨_, cap, rfl, aces_cells h3⟩
  rcases he' with ⟨rfl, rfl⟩ | ⟨A, cap, rfl, h3⟩
  · have hr := run_append_owned_none (P := Tryd.prog) w B 22 ty 33 i0 3 Tryd.underlying22 hi0 v l.length (flatA l) hown
    refine ⟨v, w, hr, by rw [List.append_nil]; exact hown, ⟨rfl, rfl, rfl, Nat.le_refl _, fun _ _ _ => rfl⟩, ?_⟩
    rintro rfl
    rcases hown.2 with ⟨_, h⟩ | ⟨g, cap, cur, e, _⟩
    · rw [List.append_nil]; exact List.eq_nil_of_length_eq_zero h
    · cases e
  · have hr := run_append_own (P := Tryd.prog) w B 22 ty 33 i0 _ 3 24 Tryd.underlying22 hi0 hz0 hz1 hz2 rfl (by decide) v l.length (flatA l) hown A m.length cap (flatA m) (flatA_len m) h3 (flatA_one m) (by unfold maxLen; omega) (by omega) hbase
    obtain ⟨v', w', hr, a2, a3, a4⟩ := hr
    refine ⟨v', w', hr, by unfold OwnA; rw [List.length_append, flatA_add]; exact a2, a3, fun e => ?_⟩
    obtain ⟨rfl, hm⟩ := a4.1 e
    rcases hown.2 with ⟨_, h⟩ | ⟨g, cap, cur, e, _⟩
    · rw [List.eq_nil_of_length_eq_zero h, List.eq_nil_of_length_eq_zero hm]; rfl
    · cases e
/-- .. at an operation that is wanted. -/
theorem wpList_append_aces {ops : Array Oper} {rest : List Oper} {o : Oper} {a : Act} {Q0 : Exit → Act → World → Prop} {w : World} (hw : Region.wanted o (yielded ops a.tmps) = true) (s x : Operand)
    (ho : o.op = .call { callee := .builtin .append, args := #[s, x], argTypes := #[22, 22] })
    (B : Nat) (v : Value) (l : List Ace) (hs : a.eval s = v) (hown : OwnA w B v l) (vx : Value) (m : List Ace) (hx : a.eval x = vx) (he : AcesAt w vx m) (hnl : l.length + m.length ≤ 100000) (hbase : B ≤ w.heap.size)
    (h : ∀ v' w', OwnA w' B v' (l ++ m) → w.grownBy w' v.ownBlock → (v' = .slice none 0 0 → l ++ m = []) → wpList Tryd.prog ops Q0 rest (a.put o.dst v') w') : wpList Tryd.prog ops Q0 (o :: rest) a w := by
  obtain ⟨v', w', hr, a2, a3, a4⟩ := run_append_aces o.type B v l hown vx m he hnl hbase
  refine wpList_step fun K hK => ?_
  rw [if_pos hw]
  unfold Oper.wp execOp
  simp only [ho, resolve, invoke, builtin, Sem.run_bind, Sem.run_pure, Result.andThen_ok, List.map_toArray, List.map_cons, List.map_nil, hs, hx, hr]
  exact hK _ _ (h v' w' a2 a3 a4)
theorem OwnA.form {w : World} {B : Nat} {v : Value} {l : List Ace} (h : OwnA w B v l) : ∃ A c, v = .slice A l.length c := h.aces.form
theorem OwnA.mono {w : World} {B B' : Nat} {v : Value} {l : List Ace} (h : OwnA w B v l) (hB : B' ≤ B) : OwnA w B' v l := World.ownsRow.mono h hB

/-! ### The words of the sort -/
theorem flatK_at (d : Array Ace) (i c : Nat) (hi : i < d.size) (hc : c < 3) : (flatK cells3 3 d)[i * 3 + c]! = (cells3 d[i])[c]! := by
  rw [get_flatK cells3 3 d (i * 3 + c) (by omega)]
  rw [show (i * 3 + c) / 3 = i by omega, show (i * 3 + c) % 3 = c by omega, getElem!_pos d i hi]
theorem holds_aces {w : World} {g : Nat} {d : Array Ace} (h : HoldsK cells3 3 w g 0 d) : ∀ i (hi : i < d.toList.length), w.cell? ⟨g, 0 + i * 3, none⟩ = some (.int .i64 d.toList[i].1) ∧ w.cell? ⟨g, 0 + i * 3 + 1, none⟩ = some (.int .i64 d.toList[i].2.1) ∧ w.cell? ⟨g, 0 + i * 3 + 2, none⟩ = some (.int .i64 d.toList[i].2.2) := by
  intro i hi
  have hi' : i < d.size := by simpa using hi
  have hz : (flatK cells3 3 d).size = d.size * 3 := size_flatK cells3 3 d
  have a0 := (h (i * 3 + 0) (by omega)).1
  have a1 := (h (i * 3 + 1) (by omega)).1
  have a2 := (h (i * 3 + 2) (by omega)).1
  rw [flatK_at d i 0 hi' (by omega)] at a0
  rw [flatK_at d i 1 hi' (by omega)] at a1
  rw [flatK_at d i 2 hi' (by omega)] at a2
  simp only [Array.getElem_toList]
  simp only [Nat.zero_add, Nat.add_zero] at a0 a1 a2 ⊢
  exact ⟨a0, a1, a2⟩
theorem holds_of_own {w : World} {B : Nat} {v : Value} {l : List Ace} (h : OwnA w B v l) (hv : v ≠ .slice none 0 0) :
    ∃ g cap, v = .slice (some ⟨g, 0, none⟩) l.length cap ∧ B ≤ g ∧ g < w.heap.size ∧ l.length ≤ cap ∧ cap ≤ maxLen ∧ HoldsK cells3 3 w g 0 l.toArray := by
  rcases h.2 with ⟨e0, _⟩ | ⟨g, cap, cur, rfl, hb, hg, hn, hm, hs, ht⟩
  · exact absurd e0 hv
  · have hlt : g < w.heap.size := by
      rcases Nat.lt_or_ge g w.heap.size with h' | h'
      · exact h'
      · rw [Array.getElem?_eq_none h'] at hg; cases hg
    refine ⟨g, cap, rfl, hb, hlt, hn, hm, fun j hj => ?_⟩
    have hj' : j < l.length * 3 := by rw [size_flatK] at hj; simpa using hj
    refine ⟨?_, by simp [World.frozen?, hg]⟩
    have hc := h.cells (g := g) rfl j
    have hi : j / 3 < l.length := by omega
    have hjd : j = j / 3 * 3 + j % 3 := by omega
    have e1 : (flatA l)[j]? = (cells3 l[j / 3])[j % 3]? := by
      conv => lhs; rw [hjd]
      exact flatA_at l (j / 3) (j % 3) hi (by omega)
    have e2 : (flatK cells3 3 l.toArray)[j]! = (cells3 l[j / 3])[j % 3]! := by
      conv => lhs; rw [hjd]
      rw [flatK_at l.toArray (j / 3) (j % 3) (by simpa using hi) (by omega)]
      rfl
    have h3 : j % 3 < (cells3 l[j / 3]).length := by simp [cells3]; omega
    have := hc ((cells3 l[j / 3])[j % 3]) (by rw [e1, List.getElem?_eq_getElem h3])
    rw [Addr.add_lit] at this
    rw [this, e2, id_eq, getElem!_pos (cells3 l[j / 3]) (j % 3) h3]
end Go.Proofs.YtcbgchohcinecaaDoor
