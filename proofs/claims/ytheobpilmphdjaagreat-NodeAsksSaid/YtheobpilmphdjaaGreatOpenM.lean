/-
  Metadata that came in.
-/
import Derived.Test.YtheobpilmphdjaaGreatCopy
import Derived.ProofKit
import Derived.OpenShut
import Derived.Deep.Slices
import Derived.ChangeShapes
namespace Go.Proofs.YtheobpilmphdjaaGreat
open Go.RowKit Go.WideShapes

set_option maxRecDepth 100000 in
theorem own : ownKnob Tryz.prog.godebug = none := by kernel_rfl
set_option maxRecDepth 100000 in
theorem laidOut : laidOutB Tryz.prog = true := by kernel_rfl

/-- A number that is an int. -/
def FitsI (n : Int) : Prop := -9223372036854775808 ≤ n ∧ n ≤ 9223372036854775807
set_option maxRecDepth 100000 in
theorem fits_wf {n : Int} (h : (Lit.int .i64 n).wf = true) : FitsI n := by
  simp [Lit.wf] at h
  have m0 : IntKind.i64.min = -9223372036854775808 := by decide
  have m1 : IntKind.i64.max = 9223372036854775807 := by decide
  rw [m0] at h
  first | exact h | (rw [m1] at h; exact h)

set_option maxRecDepth 100000 in
theorem spot_none {w : World} {x : Addr} {v : Value} (h : w.cell? x = some v) : ∃ g o, x = ⟨g, o, none⟩ := by
  obtain ⟨g, o, s⟩ := x
  cases s with
  | none => exact ⟨g, o, rfl⟩
  | some s =>
    unfold World.cell? at h
    simp at h
    split at h <;> cases h

section
variable {H : Type} {enc : TypeId × Value → H} {w : World} {base : Nat} {sp : Nat → Bool} {held : Bool} {n : Nat}
set_option maxRecDepth 100000 in
theorem ace_trod {cs : List Value} {D : DataW H × List MemPlace} (h : DataW.trod enc Tryz.prog w base sp held n 87 cs = some D) : ∃ x : Ace, cs = cells3 x ∧ Fits x := by
  obtain ⟨xs, k, rfl, _, hl, hxl, hf⟩ := DataW.trod_struct Tryz.underlying87 h
  have ca : Tryz.prog.cellsOf 87 = 3 := by kernel_rfl
  have ci : Tryz.prog.cellsOf 3 = 1 := by kernel_rfl
  rw [ca] at hl
  match cs, hl with
  | [v0, v1, v2], _ =>
    match xs, hxl with
    | [y0, y1, y2], _ =>
      have g0 := hf 0 _ rfl
      have g1 := hf 1 _ rfl
      have g2 := hf 2 _ rfl
      simp [ci] at g0 g1 g2
      obtain ⟨n0, e0, _, w0⟩ := DataW.trod_int Tryz.underlying3 g0
      obtain ⟨n1, e1, _, w1⟩ := DataW.trod_int Tryz.underlying3 g1
      obtain ⟨n2, e2, _, w2⟩ := DataW.trod_int Tryz.underlying3 g2
      cases e0
      cases e1
      cases e2
      exact ⟨(n0, n1, n2), rfl, fits_wf w0, fits_wf w1, fits_wf w2⟩
set_option maxRecDepth 100000 in
theorem attr_trod {cs : List Value} {D : DataW H × List MemPlace} (h : DataW.trod enc Tryz.prog w base sp held n 66 cs = some D) : ∃ x : Attr, cs = cellsT x := by
  obtain ⟨xs, k, rfl, _, hl, hxl, hf⟩ := DataW.trod_struct Tryz.underlying66 h
  have ca : Tryz.prog.cellsOf 66 = 2 := by kernel_rfl
  have ci : Tryz.prog.cellsOf 9 = 1 := by kernel_rfl
  rw [ca] at hl
  match cs, hl with
  | [v0, v1], _ =>
    match xs, hxl with
    | [y0, y1], _ =>
      have g0 := hf 0 _ rfl
      have g1 := hf 1 _ rfl
      simp [ci] at g0 g1
      obtain ⟨n0, e0, _, _⟩ := DataW.trod_string Tryz.underlying9 g0
      obtain ⟨n1, e1, _, _⟩ := DataW.trod_string Tryz.underlying9 g1
      cases e0
      cases e1
      exact ⟨(n0, n1), rfl⟩
end

/-- A slice of flat structs that came in. -/
theorem open_row {α : Type} [Inhabited α] {cs : α → List Value} {k : Nat} (F : Flat cs k) (R : α → Prop) {P : Program} {S E : TypeId} (hS : P.underlying S = some (.slice E)) (hE : P.cellsOf E = k) {H : Type} {enc : TypeId × Value → H} {w : World} {base : Nat} {sp : Nat → Bool} {held : Bool}
    (each : ∀ {n : Nat} {c : List Value} {D : DataW H × List MemPlace}, DataW.trod enc P w base sp held n E c = some D → ∃ x, c = cs x ∧ R x)
    {fuel : Nat} {v : Value} {x : DataW H × List MemPlace} (h : DataW.trod enc P w base sp held fuel S [v] = some x) : ∃ l, RowAt cs k w v l ∧ ∀ x ∈ l, R x := by
  rcases Go.Deep.open_slice hS h with ⟨e, _⟩ | ⟨A, len, cap, m, n, D, Pl, e, _, hl, hm, hmm, _, hx⟩
  · cases e
    exact ⟨[], RowAt.nil_ _, fun x hx => by cases hx⟩
  · cases e
    have hmc : len ≤ m := by rw [hmm]; split <;> omega
    by_cases h0 : len = 0
    · subst h0
      exact ⟨[], .inl ⟨rfl, _, _, rfl, fun e => by cases e⟩, fun x hx => by cases hx⟩
    · have one : ∀ i, i < len → ∃ y : α, (∀ j, j < k → w.cell? ((A.add (i * k)).add j) = (cs y)[j]?) ∧ R y := by
        intro i hi
        obtain ⟨c', h1, h2⟩ := hx i (by omega)
        rw [hE] at h1
        obtain ⟨y, rfl, hy⟩ := each h2
        exact ⟨y, (World.cells?_some h1).2.2, hy⟩
      obtain ⟨V, hV⟩ := Go.Deep.choose_lt one
      obtain ⟨g, o, rfl⟩ : ∃ g o, A = ⟨g, o, none⟩ := by
        have h0 := (hV 0 (by omega)).1 0 F.pos
        have hc : ∃ u, (cs (V 0))[0]? = some u := ⟨(cs (V 0))[0]'(by rw [F.len]; exact F.pos), List.getElem?_eq_getElem _⟩
        obtain ⟨u, hu⟩ := hc
        obtain ⟨g, o, s⟩ := A
        cases s with
        | none => exact ⟨g, o, rfl⟩
        | some s =>
          obtain ⟨g', o', e⟩ := spot_none (h0.trans hu)
          unfold Addr.add at e
          simp at e
      refine ⟨(List.range len).map V, .inr ⟨g, o, cap, by simp, by rw [List.length_map, List.length_range]; exact hl, hm, fun i hi c u hu => ?_⟩, ?_⟩
      · have hi' : i < len := by simpa using hi
        simp only [List.getElem_map, List.getElem_range] at hu
        have hc : c < k := by
          rcases Nat.lt_or_ge c k with h | h
          · exact h
          · rw [List.getElem?_eq_none (by rw [F.len]; exact h)] at hu; cases hu
        have q0 := (hV i hi').1 c hc
        simp only [Addr.add_lit] at q0
        rw [q0]
        exact hu
      · intro z hz
        obtain ⟨i, hi, rfl⟩ := List.mem_map.1 hz
        exact (hV i (List.mem_range.1 hi)).2

def FitsM (m : Mt) : Prop := FitsI m.mode ∧ FitsI m.uid ∧ FitsI m.gid ∧ FitsI m.time ∧ ∀ x ∈ m.acl, Fits x
set_option maxRecDepth 100000 in
theorem open_meta {H : Type} {enc : TypeId × Value → H} {w : World} {r : Reach} {b0 base : Nat} {sp : Nat → Bool} {held : Bool} {v : Value} {d : DataW H} {p : List MemPlace} (hv : Value.okWide Tryz.prog w r b0 25 v)
    (h : DataW.Trod enc Tryz.prog w base sp held 25 v d p) : ∃ m, MetaAt w v m ∧ FitsM m := by
  obtain ⟨cs, rfl, hsz⟩ := okWide_struct Tryz.underlying25 hv
  obtain ⟨fuel, h⟩ := h
  obtain ⟨xs, k, rfl, _, hl, hxl, hf⟩ := DataW.trod_struct Tryz.underlying25 h
  have ca : Tryz.prog.cellsOf 25 = 6 := by kernel_rfl
  have ci : Tryz.prog.cellsOf 3 = 1 := by kernel_rfl
  have ck : Tryz.prog.cellsOf 2 = 1 := by kernel_rfl
  have ct : Tryz.prog.cellsOf 22 = 1 := by kernel_rfl
  have cl : Tryz.prog.cellsOf 23 = 1 := by kernel_rfl
  rw [ca] at hsz
  obtain ⟨cs⟩ := cs
  match cs, hsz with
  | [v0, v1, v2, v3, v4, v5], _ =>
    match xs, hxl with
    | [y0, y1, y2, y3, y4, y5], _ =>
      have g0 := hf 0 _ rfl
      have g1 := hf 1 _ rfl
      have g2 := hf 2 _ rfl
      have g3 := hf 3 _ rfl
      have g4 := hf 4 _ rfl
      have g5 := hf 5 _ rfl
      simp [Value.cells, ci, ck, ct, cl] at g0 g1 g2 g3 g4 g5
      obtain ⟨n0, e0, _, w0⟩ := DataW.trod_int Tryz.underlying3 g0
      obtain ⟨n1, e1, _, w1⟩ := DataW.trod_int Tryz.underlying3 g1
      obtain ⟨n2, e2, _, w2⟩ := DataW.trod_int Tryz.underlying3 g2
      obtain ⟨n3, e3, _, w3⟩ := DataW.trod_int Tryz.underlying2 g3
      cases e0
      cases e1
      cases e2
      cases e3
      obtain ⟨la, ha, _⟩ := open_row flatT (fun _ => True) Tryz.underlying22 (by kernel_rfl) (fun h => by obtain ⟨x, hx⟩ := attr_trod h; exact ⟨x, hx, trivial⟩) g4
      obtain ⟨ll, hl, hfl⟩ := open_row flat3 Fits Tryz.underlying23 (by kernel_rfl) (fun h => ace_trod h) g5
      exact ⟨⟨n0, n1, n2, n3, la, ll⟩, ⟨v4, v5, rfl, ha, hl.aces⟩, fits_wf w0, fits_wf w1, fits_wf w2, fits_wf w3, hfl⟩
end Go.Proofs.YtheobpilmphdjaaGreat
