/-
  Trees and lists of strings that came in.
-/
import Derived.Test.YtgbenepapajieaaGreatTFind
import Derived.Test.YtgbenepapajieaaGreatNRefN
namespace Go.Proofs.YtgbenepapajieaaGreat.Tr
open Go.RowKit Go.WideShapes
open Go.Proofs.YtgbenepapajieaaGreat.Nd (Nd mayN sumP nodeV NodeAt PcsAt cellsP flatP piece_trod metaC_trod)

section
variable {H : Type} {enc : TypeId × Value → H} {w : World} {base : Nat} {sp : Nat → Bool} {held : Bool} {n : Nat}
set_option maxRecDepth 100000 in
theorem ent_trod {cs : List Value} {D : DataW H × List MemPlace} (h : DataW.trod enc Tryz.prog w base sp held n 49 cs = some D) : ∃ x : Ent, cs = cellsE x ∧ True := by
  obtain ⟨xs, k, rfl, _, hl, hxl, hf⟩ := DataW.trod_struct Tryz.underlying49 h
  have ca : Tryz.prog.cellsOf 49 = 2 := by kernel_rfl
  have ci : Tryz.prog.cellsOf 9 = 1 := by kernel_rfl
  have ck : Tryz.prog.cellsOf 3 = 1 := by kernel_rfl
  rw [ca] at hl
  match cs, hl with
  | [v0, v1], _ =>
    match xs, hxl with
    | [y0, y1], _ =>
      have g0 := hf 0 _ rfl
      have g1 := hf 1 _ rfl
      simp [ci, ck] at g0 g1
      obtain ⟨n0, e0, _, _⟩ := DataW.trod_string Tryz.underlying9 g0
      obtain ⟨n1, e1, _, _⟩ := DataW.trod_int Tryz.underlying3 g1
      cases e0
      cases e1
      exact ⟨(n0, n1), rfl, trivial⟩
set_option maxRecDepth 100000 in
theorem nodeC_trod {cs : List Value} {D : DataW H × List MemPlace} (h : DataW.trod enc Tryz.prog w base sp held n 47 cs = some D) : ∃ x : NV, cs = cellsN x ∧ InN w x := by
  obtain ⟨xs, k, rfl, _, hl, hxl, hf⟩ := DataW.trod_struct Tryz.underlying47 h
  have ca : Tryz.prog.cellsOf 47 = 12 := by kernel_rfl
  have cm : Tryz.prog.cellsOf 44 = 6 := by kernel_rfl
  have ci : Tryz.prog.cellsOf 3 = 1 := by kernel_rfl
  have ck : Tryz.prog.cellsOf 2 = 1 := by kernel_rfl
  have cp : Tryz.prog.cellsOf 45 = 1 := by kernel_rfl
  have cs' : Tryz.prog.cellsOf 9 = 1 := by kernel_rfl
  rw [ca] at hl
  match cs, hl with
  | [v0, v1, v2, v3, v4, v5, v6, v7, v8, v9, v10, v11], _ =>
    match xs, hxl with
    | [y0, y1, y2, y3, y4, y5, y6], _ =>
      have g0 := hf 0 _ rfl
      have g1 := hf 1 _ rfl
      have g2 := hf 2 _ rfl
      have g3 := hf 3 _ rfl
      have g4 := hf 4 _ rfl
      have g5 := hf 5 _ rfl
      have g6 := hf 6 _ rfl
      simp [ci, ck, cp, cs', cm] at g0 g1 g2 g3 g4 g5 g6
      obtain ⟨n0, e0, _, w0⟩ := DataW.trod_int Tryz.underlying3 g0
      obtain ⟨m, va, vl, e1, hm1, hm2⟩ := metaC_trod g1
      obtain ⟨n2, e2, _, w2⟩ := DataW.trod_int Tryz.underlying2 g2
      obtain ⟨lp, hp, _⟩ := open_row flatP (fun _ => True) Tryz.underlying45 (by kernel_rfl) (fun h => by obtain ⟨x, hx, _⟩ := piece_trod h; exact ⟨x, hx, trivial⟩) g3
      obtain ⟨n4, e4, _, _⟩ := DataW.trod_string Tryz.underlying9 g4
      obtain ⟨n5, e5, _, w5⟩ := DataW.trod_int Tryz.underlying3 g5
      obtain ⟨n6, e6, _, w6⟩ := DataW.trod_int Tryz.underlying3 g6
      cases e0
      cases e1
      cases e2
      cases e4
      cases e5
      cases e6
      obtain ⟨A1, c1, rfl⟩ := hm1.form
      obtain ⟨A2, c2, rfl⟩ := hm2.form
      obtain ⟨A3, c3, rfl⟩ := RowAt.form hp
      exact ⟨⟨⟨n0, m, n2, lp, n4, n5, n6⟩, (A1, _, c1), (A2, _, c2), (A3, _, c3)⟩, rfl, hm1, hm2, hp⟩
end
set_option maxRecDepth 100000 in
theorem open_strs {H : Type} {enc : TypeId × Value → H} {w : World} {base : Nat} {sp : Nat → Bool} {held : Bool} {v : Value} {d : DataW H} {p : List MemPlace} (hv : ∃ a len cap, v = .slice a len cap)
    (h : DataW.Trod enc Tryz.prog w base sp held 26 v d p) : ∃ l, RowAt cellsS 1 w v l := by
  obtain ⟨fuel, h⟩ := h
  obtain ⟨a, len, cap, rfl⟩ := hv
  obtain ⟨l, hl, _⟩ := open_row flatS (fun _ => True) Tryz.underlying26 (by kernel_rfl) (fun {n c D} h => by
    obtain ⟨n0, e0, _, _⟩ := DataW.trod_string Tryz.underlying9 h
    exact ⟨n0, e0, trivial⟩) h
  exact ⟨l, hl⟩
instance : Inhabited NV := ⟨⟨⟨0, ⟨0, 0, 0, 0, [], []⟩, 0, [], ⟨#[]⟩, 0, 0⟩, (none, 0, 0), (none, 0, 0), (none, 0, 0)⟩⟩
set_option maxRecDepth 100000 in
theorem open_tree {H : Type} {enc : TypeId × Value → H} {w : World} {r : Reach} {b0 base : Nat} {sp : Nat → Bool} {held : Bool} {v : Value} {d : DataW H} {p : List MemPlace} (hv : Value.okWide Tryz.prog w r b0 25 v)
    (h : DataW.Trod enc Tryz.prog w base sp held 25 v d p) : ∃ t : Tree, TreeAt w v t := by
  obtain ⟨cs, rfl, hsz⟩ := okWide_struct Tryz.underlying25 hv
  obtain ⟨fuel, h⟩ := h
  obtain ⟨xs, k, rfl, _, hl, hxl, hf⟩ := DataW.trod_struct Tryz.underlying25 h
  have ca : Tryz.prog.cellsOf 25 = 2 := by kernel_rfl
  have ce : Tryz.prog.cellsOf 22 = 1 := by kernel_rfl
  have cn : Tryz.prog.cellsOf 23 = 1 := by kernel_rfl
  rw [ca] at hsz
  obtain ⟨cs⟩ := cs
  match cs, hsz with
  | [v0, v1], _ =>
    match xs, hxl with
    | [y0, y1], _ =>
      have g0 := hf 0 _ rfl
      have g1 := hf 1 _ rfl
      simp [Value.cells, ce, cn] at g0 g1
      obtain ⟨es, he, _⟩ := open_row flatE (fun _ => True) Tryz.underlying22 (by kernel_rfl) (fun h => ent_trod h) g0
      obtain ⟨ts, hn, hi⟩ := open_row flatN (InN w) Tryz.underlying23 (by kernel_rfl) (fun h => nodeC_trod h) g1
      exact ⟨(es, ts.map (·.n)), _, _, rfl, he, ts, hn, rfl, hi⟩
end Go.Proofs.YtgbenepapajieaaGreat.Tr
