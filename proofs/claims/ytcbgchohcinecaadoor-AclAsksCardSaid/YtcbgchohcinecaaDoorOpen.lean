/-
  A slice of entries that came in.
-/
import Derived.Test.YtcbgchohcinecaaDoorTold
import Derived.ProofKit
import Derived.OpenShut
import Derived.Deep.Slices
import Derived.ChangeShapes
namespace Go.Proofs.YtcbgchohcinecaaDoor
open Go.RowKit

theorem norm_exists {l : List Ace} (e : normC l = 0) : NormR l (l.mergeSort fun x y => decide (¬ ltA y x)) := by
  have hp := List.mergeSort_perm l fun x y => decide (¬ ltA y x)
  have hs : (l.mergeSort fun x y => decide (¬ ltA y x)).Pairwise fun x y => decide (¬ ltA y x) = true :=
    List.pairwise_mergeSort (fun a b c h1 h2 => by simp only [decide_eq_true_eq] at *; unfold ltA at *; omega) (fun a b => by
      by_cases h : ltA b a
      · have : ¬ ltA a b := by unfold ltA at *; omega
        simp [this]
      · simp [h]) l
  refine normR_zero e hp ((once_rise hp (hs.imp fun h => by simpa using h)).2 ?_)
  by_cases h1 : AllOk l
  · by_cases h2 : Once l
    · exact h2
    · rw [normC_exist h1 h2] at e; omega
  · rw [normC_arg h1] at e; omega

theorem ace_trod {H : Type} {enc : TypeId × Value → H} {w : World} {base : Nat} {sp : Nat → Bool} {held : Bool} {n : Nat} {cs : List Value} {D : DataW H × List MemPlace} (h : DataW.trod enc Tryd.prog w base sp held n 33 cs = some D) :
    ∃ x : Ace, cs = cells3 x ∧ Fits x := by
  obtain ⟨xs, k, rfl, _, hl, hxl, hf⟩ := DataW.trod_struct Tryd.underlying33 h
  have ca : Tryd.prog.cellsOf 33 = 3 := by kernel_rfl
  have ci : Tryd.prog.cellsOf 3 = 1 := by kernel_rfl
  rw [ca] at hl
  match cs, hl with
  | [v0, v1, v2], _ =>
    match xs, hxl with
    | [y0, y1, y2], _ =>
      have g0 := hf 0 _ rfl
      have g1 := hf 1 _ rfl
      have g2 := hf 2 _ rfl
      simp [ci] at g0 g1 g2
      obtain ⟨n0, e0, _, w0⟩ := DataW.trod_int Tryd.underlying3 g0
      obtain ⟨n1, e1, _, w1⟩ := DataW.trod_int Tryd.underlying3 g1
      obtain ⟨n2, e2, _, w2⟩ := DataW.trod_int Tryd.underlying3 g2
      cases e0
      cases e1
      cases e2
      refine ⟨(n0, n1, n2), rfl, ?_⟩
      simp [Lit.wf] at w0 w1 w2
      have m0 : IntKind.i64.min = -9223372036854775808 := by decide
      rw [m0] at w0 w1 w2
      exact ⟨w0, w1, w2⟩
theorem open_aces {H : Type} {enc : TypeId × Value → H} {w : World} {a : Option Addr} {len cap fuel : Nat} {cs : List Value} {x : DataW H × List MemPlace} (h : DataW.trod enc Tryd.prog w 0 (fun _ => true) true fuel 22 cs = some x) (hcs : cs = [.slice a len cap]) :
    ∃ l, AcesAt w (.slice a len cap) l ∧ ∀ x ∈ l, Fits x := by
  have ca : Tryd.prog.cellsOf 33 = 3 := by kernel_rfl
  rcases Go.Deep.open_slice Tryd.underlying22 h with ⟨e, _⟩ | ⟨A, l0, c0, m, n, D, Pl, e, _, hl, hm, hmm, _, hx⟩
  · rw [hcs] at e
    cases e
    exact ⟨[], AcesAt.nil_ _, fun x hx => by cases hx⟩
  · rw [hcs] at e
    cases e
    have hmc : m = cap := by rw [hmm]; rfl
    by_cases h0 : len = 0
    · subst h0
      exact ⟨[], .inl ⟨rfl, _, _, rfl, fun e => by cases e⟩, fun x hx => by cases hx⟩
    · have each : ∀ i, i < len → ∃ y : Ace, (∀ j, j < 3 → w.cell? ((A.add (i * 3)).add j) = (cells3 y)[j]?) ∧ Fits y := by
        intro i hi
        obtain ⟨cs', h1, h2⟩ := hx i (by omega)
        rw [ca] at h1
        obtain ⟨y, rfl, hy⟩ := ace_trod h2
        exact ⟨y, (World.cells?_some h1).2.2, hy⟩
      obtain ⟨V, hV⟩ := Go.Deep.choose_lt each
      obtain ⟨g, o, rfl⟩ : ∃ g o, A = ⟨g, o, none⟩ := by
        have h0 := (hV 0 (by omega)).1 0 (by omega)
        obtain ⟨g, o, s⟩ := A
        cases s with
        | none => exact ⟨g, o, rfl⟩
        | some s =>
          obtain ⟨g', o', e⟩ := spot_none (h0.trans rfl)
          unfold Addr.add at e
          simp at e
      refine ⟨(List.range len).map V, .inr ⟨g, o, cap, by simp, by rw [List.length_map, List.length_range]; exact hl, hm, fun i hi => ?_⟩, ?_⟩
      · have hi' : i < len := by simpa using hi
        have q0 := (hV i hi').1 0 (by omega)
        have q1 := (hV i hi').1 1 (by omega)
        have q2 := (hV i hi').1 2 (by omega)
        simp only [Addr.add_lit, Nat.add_zero] at q0 q1 q2
        simp only [List.getElem_map, List.getElem_range]
        exact ⟨q0, q1, q2⟩
      · intro z hz
        obtain ⟨i, hi, rfl⟩ := List.mem_map.1 hz
        exact (hV i (List.mem_range.1 hi)).2
end Go.Proofs.YtcbgchohcinecaaDoor
