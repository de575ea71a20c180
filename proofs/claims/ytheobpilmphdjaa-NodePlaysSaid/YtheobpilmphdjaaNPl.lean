/-
  For the law NodePlays: steps that came in, the two arrays, what a file's bytes are step by step.
-/
import Derived.Test.YtheobpilmphdjaaNHas
import Derived.Test.YtheobpilmphdjaaNOpen
namespace Go.Proofs.Ytheobpilmphdjaa.Nd
open Go.RowKit Go.WideShapes
open Go.Proofs.Ytheobpilmphdjaa.Ex.Rng
open Go.Proofs.Ytheobpilmphdjaa.Ex (E ExtsAt)

/-! ### Steps -/
abbrev Op3 := Int × Int × ByteArray
def cellsO (x : Op3) : List Value := [.int .i64 x.1, .int .i64 x.2.1, .string x.2.2]
theorem flatO : Flat cellsO 3 where
  len _ := rfl
  one x u hu := by
    simp only [cellsO, List.mem_cons, List.not_mem_nil, or_false] at hu
    rcases hu with rfl | rfl | rfl <;> rfl
  pos := by decide
abbrev OpsAt (w : World) (v : Value) (l : List Op3) : Prop := RowAt cellsO 3 w v l
theorem _root_.Go.Proofs.Ytheobpilmphdjaa.RowAt.atO {w : World} {v : Value} {l : List Op3} (h : OpsAt w v l) (hn : 0 < l.length) : ∃ g o cap, v = .slice (some ⟨g, o, none⟩) l.length cap ∧ l.length ≤ cap ∧ cap ≤ maxLen ∧ ∀ i (h : i < l.length), w.cell? ⟨g, o + i * 3, none⟩ = some (.int .i64 l[i].1) ∧ w.cell? ⟨g, o + i * 3 + 1, none⟩ = some (.int .i64 l[i].2.1) ∧ w.cell? ⟨g, o + i * 3 + 2, none⟩ = some (.string l[i].2.2) := by
  obtain ⟨g, o, cap, e, h1, h2, h3⟩ := h.at_ hn
  exact ⟨g, o, cap, e, h1, h2, fun i hi => ⟨by have := h3 i hi 0 (.int .i64 l[i].1) rfl; rwa [Nat.add_zero] at this, h3 i hi 1 (.int .i64 l[i].2.1) rfl, h3 i hi 2 (.string l[i].2.2) rfl⟩⟩
section
variable {H : Type} {enc : TypeId × Value → H} {w : World} {base : Nat} {sp : Nat → Bool} {held : Bool} {n : Nat}
set_option maxRecDepth 100000 in
theorem op_trod {cs : List Value} {D : DataW H × List MemPlace} (h : DataW.trod enc Try.prog w base sp held n 34 cs = some D) : ∃ x : Op3, cs = cellsO x ∧ True := by
  obtain ⟨xs, k, rfl, _, hl, hxl, hf⟩ := DataW.trod_struct Try.underlying34 h
  have ca : Try.prog.cellsOf 34 = 3 := by kernel_rfl
  have ci : Try.prog.cellsOf 3 = 1 := by kernel_rfl
  have ck : Try.prog.cellsOf 2 = 1 := by kernel_rfl
  have ct : Try.prog.cellsOf 9 = 1 := by kernel_rfl
  rw [ca] at hl
  match cs, hl with
  | [v0, v1, v2], _ =>
    match xs, hxl with
    | [y0, y1, y2], _ =>
      have g0 := hf 0 _ rfl
      have g1 := hf 1 _ rfl
      have g2 := hf 2 _ rfl
      simp [ci, ck, ct] at g0 g1 g2
      obtain ⟨n0, e0, _, _⟩ := DataW.trod_int Try.underlying3 g0
      obtain ⟨n1, e1, _, _⟩ := DataW.trod_int Try.underlying2 g1
      obtain ⟨n2, e2, _, _⟩ := DataW.trod_string Try.underlying9 g2
      cases e0
      cases e1
      cases e2
      exact ⟨(n0, n1, n2), rfl, trivial⟩
end
set_option maxRecDepth 100000 in
theorem open_ops {H : Type} {enc : TypeId × Value → H} {w : World} {base : Nat} {sp : Nat → Bool} {held : Bool} {v : Value} {d : DataW H} {p : List MemPlace} (hv : ∃ a len cap, v = .slice a len cap)
    (h : DataW.Trod enc Try.prog w base sp held 22 v d p) : ∃ l, OpsAt w v l ∧ True := by
  obtain ⟨fuel, h⟩ := h
  obtain ⟨a, len, cap, rfl⟩ := hv
  obtain ⟨l, hl, _⟩ := open_row flatO (fun _ => True) Try.underlying22 (by kernel_rfl) (fun h => op_trod h) h
  exact ⟨l, hl, trivial⟩

/-! ### Rows of one-celled values in a block -/
def RowG (T : TypeId) (w : World) (g : Nat) (vs : List Value) : Prop := w.heap[g]? = some (.cells vs.toArray T (0, 0))
theorem RowG.lt {T : TypeId} {w : World} {g : Nat} {vs : List Value} (h : RowG T w g vs) : g < w.heap.size := by
  rcases Nat.lt_or_ge g w.heap.size with h' | h'
  · exact h'
  · unfold RowG at h; rw [Array.getElem?_eq_none h'] at h; cases h
theorem RowG.other {T : TypeId} {w w' : World} {g : Nat} {vs : List Value} (h : RowG T w g vs) (q : w'.heap[g]? = w.heap[g]?) : RowG T w' g vs := q.trans h
theorem RowG.keep {T : TypeId} {w w' : World} {g : Nat} {vs : List Value} (h : RowG T w g vs) (q : Q w w') : RowG T w' g vs := h.other (q.block g h.lt)
theorem RowG.far {T : TypeId} {w w' : World} {g g2 : Nat} {vs : List Value} (h : RowG T w g vs) (f : Far g2 w w') (hn : g ≠ g2) : RowG T w' g vs := h.other (f.2 g h.lt hn)
theorem RowG.cell {T : TypeId} {w : World} {g : Nat} {vs : List Value} (h : RowG T w g vs) (j : Nat) (hj : j < vs.length) : w.cell? ⟨g, j, none⟩ = some vs[j] := by
  unfold RowG at h
  simp [World.cell?, h, hj]
theorem RowG.cell? {T : TypeId} {w : World} {g : Nat} {vs : List Value} (h : RowG T w g vs) (j : Nat) (u : Value) (hc : w.cell? ⟨g, j, none⟩ = some u) : u ∈ vs := by
  unfold RowG at h
  have : vs[j]? = some u := by simpa [World.cell?, h] using hc
  exact List.mem_of_getElem? this
theorem RowG.soft {T : TypeId} {w : World} {g : Nat} {vs : List Value} (h : RowG T w g vs) (j : Nat) : w.frozen? ⟨g, j, none⟩ = false := by
  unfold RowG at h
  simp [World.frozen?, h]
theorem RowG.set {T : TypeId} {w : World} {g : Nat} {vs : List Value} (h : RowG T w g vs) (i : Nat) (u : Value) : RowG T (w.setCell ⟨g, i, none⟩ u) g (vs.set i u) := by
  unfold RowG World.setCell at *
  simp [Array.getElem?_modify, h]
theorem RowG.new (T : TypeId) (w : World) (vs : List Value) : RowG T (w.alloc (.cells vs.toArray T)) w.heap.size vs := by
  show (w.heap.push _)[w.heap.size]? = _
  simp
/-- Pieces lie in no block whose cells are none of theirs. -/
theorem pcs_far {w w' : World} {v : Value} {d : List Pc} {g : Nat} (h : PcsAt w v d) (f : Far g w w') (hn : ∀ o a s, w.cell? ⟨g, o, none⟩ = some (.int .i64 a) → w.cell? ⟨g, o + 1, none⟩ = some (.string s) → False) : PcsAt w' v d := by
  rcases h with h | ⟨b, o, cap, e, h1, h2, h3⟩
  · exact .inl h
  · refine .inr ⟨b, o, cap, e, h1, h2, fun i hi c u hu => ?_⟩
    have hb : b ≠ g := by
      rintro rfl
      have c0 := h3 i hi 0 (.int .i64 d[i].1) rfl
      have c1 := h3 i hi 1 (.string d[i].2) rfl
      exact hn _ _ _ c0 c1
    exact f.cell hb (h3 i hi c u hu)
theorem nil_any {α : Type} {cs : α → List Value} {k : Nat} {w w' : World} {v : Value} (h : RowAt cs k w v []) : RowAt cs k w' v [] := by
  rcases h with h | ⟨b, o, cap, e, h1, h2, h3⟩
  · exact .inl h
  · exact .inr ⟨b, o, cap, e, h1, h2, fun i hi => by cases hi⟩
theorem far_u8 {T : TypeId} {w : World} {g : Nat} {bs : List UInt8} (h : RowG T w g (bs.map byteV)) : ∀ o a s, w.cell? ⟨g, o, none⟩ = some (.int .i64 a) → w.cell? ⟨g, o + 1, none⟩ = some (.string s) → False := by
  intro o a s _ h2
  obtain ⟨b, _, hb⟩ := List.mem_map.1 (h.cell? _ _ h2)
  cases hb
theorem far_bool {T : TypeId} {w : World} {g : Nat} {bs : List Bool} (h : RowG T w g (bs.map Value.bool)) : ∀ o a s, w.cell? ⟨g, o, none⟩ = some (.int .i64 a) → w.cell? ⟨g, o + 1, none⟩ = some (.string s) → False := by
  intro o a s _ h2
  obtain ⟨b, _, hb⟩ := List.mem_map.1 (h.cell? _ _ h2)
  cases hb
theorem far_node {w : World} {g : Nat} {c0 c1 c2 c3 c4 c7 c10 c11 : Int} {s9 : ByteArray} {A5 A6 A8 : Option Addr} {n5 k5 n6 k6 n8 k8 : Nat}
    (h : BoxN w g #[.int .i64 c0, .int .i64 c1, .int .i64 c2, .int .i64 c3, .int .i64 c4, .slice A5 n5 k5, .slice A6 n6 k6, .int .i64 c7, .slice A8 n8 k8, .string s9, .int .i64 c10, .int .i64 c11]) : ∀ o a s, w.cell? ⟨g, o, none⟩ = some (.int .i64 a) → w.cell? ⟨g, o + 1, none⟩ = some (.string s) → False := by
  intro o a s h1 h2
  obtain ⟨k0, k1, k2, k3, k4, k5, k6, k7, k8, k9, k10, k11⟩ := h.cells
  have ho : o + 1 < 12 := by
    unfold BoxN at h
    rcases Nat.lt_or_ge (o + 1) 12 with h' | h'
    · exact h'
    · simp only [World.cell?, h] at h2
      rw [Array.getElem?_eq_none (by simpa using h')] at h2
      cases h2
  have : o = 0 ∨ o = 1 ∨ o = 2 ∨ o = 3 ∨ o = 4 ∨ o = 5 ∨ o = 6 ∨ o = 7 ∨ o = 8 ∨ o = 9 ∨ o = 10 := by omega
  rcases this with rfl | rfl | rfl | rfl | rfl | rfl | rfl | rfl | rfl | rfl | rfl
  · rw [k1] at h2; cases h2
  · rw [k2] at h2; cases h2
  · rw [k3] at h2; cases h2
  · rw [k4] at h2; cases h2
  · rw [k5] at h2; cases h2
  · rw [k6] at h2; cases h2
  · rw [k7] at h2; cases h2
  · rw [k8] at h2; cases h2
  · rw [k8] at h1; cases h1
  · rw [k10] at h2; cases h2
  · rw [k11] at h2; cases h2

/-! ### The bytes, step by step -/
def tab {α : Type} (f : Nat → α) : List α := (List.range 600).map f
theorem tab_len {α : Type} (f : Nat → α) : (tab f).length = 600 := by simp [tab]
theorem tab_at {α : Type} (f : Nat → α) (i : Nat) (h : i < (tab f).length) : (tab f)[i] = f i := by simp [tab]
theorem tab_set {α : Type} (f : Nat → α) (i : Nat) (u : α) : (tab f).set i u = tab fun q => if q = i then u else f q := by
  refine List.ext_getElem (by simp [tab]) fun j h1 h2 => ?_
  rw [List.getElem_set, tab_at, tab_at]
  by_cases h : i = j
  · rw [if_pos h, if_pos h.symm]
  · rw [if_neg h, if_neg (fun k => h k.symm)]
theorem tab_map {α β : Type} (f : Nat → α) (g : α → β) : (tab f).map g = tab fun q => g (f q) := by simp [tab]
theorem tab_congr {α : Type} {f g : Nat → α} (h : ∀ q, q < 600 → f q = g q) : tab f = tab g := List.map_congr_left fun q hq => h q (List.mem_range.1 hq)
def bsOf (d : List Pc) : List UInt8 := tab fun q => (byteOf d q).getD 0
def isOf (d : List Pc) : List Bool := tab fun q => (byteOf d q).isSome
/-- After j bytes of s have come at a. -/
def midB (d : List Pc) (a : Nat) (s : ByteArray) (j : Nat) : List UInt8 := tab fun q => if a ≤ q ∧ q < a + j then s.data.getD (q - a) 0 else (byteOf d q).getD 0
def midI (d : List Pc) (a j : Nat) : List Bool := tab fun q => if a ≤ q ∧ q < a + j then true else (byteOf d q).isSome
theorem midB_zero (d : List Pc) (a : Nat) (s : ByteArray) : midB d a s 0 = bsOf d := tab_congr fun q _ => by rw [if_neg (by omega)]
theorem midI_zero (d : List Pc) (a : Nat) : midI d a 0 = isOf d := tab_congr fun q _ => by rw [if_neg (by omega)]
theorem midB_step (d : List Pc) (a : Nat) (s : ByteArray) (j : Nat) : (midB d a s j).set (a + j) (s.data.getD j 0) = midB d a s (j + 1) := by
  unfold midB
  rw [tab_set]
  refine tab_congr fun q _ => ?_
  by_cases h : q = a + j
  · rw [if_pos h, if_pos (by omega), h, Nat.add_sub_cancel_left]
  · rw [if_neg h]
    by_cases h2 : a ≤ q ∧ q < a + j
    · rw [if_pos h2, if_pos (by omega)]
    · rw [if_neg h2, if_neg (by omega)]
theorem midI_step (d : List Pc) (a j : Nat) : (midI d a j).set (a + j) true = midI d a (j + 1) := by
  unfold midI
  rw [tab_set]
  refine tab_congr fun q _ => ?_
  by_cases h : q = a + j
  · rw [if_pos h, if_pos (by omega)]
  · rw [if_neg h]
    by_cases h2 : a ≤ q ∧ q < a + j
    · rw [if_pos h2, if_pos (by omega)]
    · rw [if_neg h2, if_neg (by omega)]
/-- What was written at a. -/
def Wrote (d d' : List Pc) (a : Nat) (s : ByteArray) : Prop := ∀ q, byteOf d' q = if a ≤ q ∧ q < a + s.size then some (s.data.getD (q - a) 0) else byteOf d q
theorem midB_end {d d' : List Pc} {a : Nat} {s : ByteArray} (h : Wrote d d' a s) : midB d a s s.size = bsOf d' := tab_congr fun q _ => by
  rw [h q]
  by_cases h2 : a ≤ q ∧ q < a + s.size
  · rw [if_pos h2, if_pos h2]; rfl
  · rw [if_neg h2, if_neg h2]
theorem midI_end {d d' : List Pc} {a : Nat} {s : ByteArray} (h : Wrote d d' a s) : midI d a s.size = isOf d' := tab_congr fun q _ => by
  rw [h q]
  by_cases h2 : a ≤ q ∧ q < a + s.size
  · rw [if_pos h2, if_pos h2]; rfl
  · rw [if_neg h2, if_neg h2]
/-- After the places from a to j have been cleared. -/
def gonB (d : List Pc) (a j : Nat) : List UInt8 := tab fun q => if a ≤ q ∧ q < j then 0 else (byteOf d q).getD 0
def gonI (d : List Pc) (a j : Nat) : List Bool := tab fun q => if a ≤ q ∧ q < j then false else (byteOf d q).isSome
theorem gonB_zero (d : List Pc) (a : Nat) : gonB d a a = bsOf d := tab_congr fun q _ => by rw [if_neg (by omega)]
theorem gonI_zero (d : List Pc) (a : Nat) : gonI d a a = isOf d := tab_congr fun q _ => by rw [if_neg (by omega)]
theorem gonB_step (d : List Pc) (a j : Nat) (h0 : a ≤ j) : (gonB d a j).set j 0 = gonB d a (j + 1) := by
  unfold gonB
  rw [tab_set]
  refine tab_congr fun q _ => ?_
  by_cases h : q = j
  · rw [if_pos h, if_pos (by omega)]
  · rw [if_neg h]
    by_cases h2 : a ≤ q ∧ q < j
    · rw [if_pos h2, if_pos (by omega)]
    · rw [if_neg h2, if_neg (by omega)]
theorem gonI_step (d : List Pc) (a j : Nat) (h0 : a ≤ j) : (gonI d a j).set j false = gonI d a (j + 1) := by
  unfold gonI
  rw [tab_set]
  refine tab_congr fun q _ => ?_
  by_cases h : q = j
  · rw [if_pos h, if_pos (by omega)]
  · rw [if_neg h]
    by_cases h2 : a ≤ q ∧ q < j
    · rw [if_pos h2, if_pos (by omega)]
    · rw [if_neg h2, if_neg (by omega)]
theorem gon_end (d : List Pc) (a : Nat) : gonB d a 600 = bsOf (clipP d 0 (a : Int)) ∧ gonI d a 600 = isOf (clipP d 0 (a : Int)) := by
  constructor
  · refine tab_congr fun q hq => ?_
    rw [clipP_byte]
    by_cases h : q < a
    · rw [if_neg (by omega), if_pos (by omega)]
    · rw [if_pos (by omega), if_neg (by omega)]; rfl
  · refine tab_congr fun q hq => ?_
    rw [clipP_byte]
    by_cases h : q < a
    · rw [if_neg (by omega), if_pos (by omega)]
    · rw [if_pos (by omega), if_neg (by omega)]; rfl
/-- One write: the answer, the bytes, or too many pieces. -/
theorem play_write {sz a : Nat} {d : List Pc} {s : ByteArray} (h : VF (sz : Int) d) (hz : sz ≤ 540) (ha : a < 500) (hs : s.size ≤ 40) :
    (writeN (F (sz : Int) d) (a : Int) s = (F (sz : Int) d, 13) ∧ 1 < d.length) ∨
    ∃ (sz' : Nat) (d' : List Pc), writeN (F (sz : Int) d) (a : Int) s = (F (sz' : Int) d', 0) ∧ VF (sz' : Int) d' ∧ sz' ≤ 540 ∧ Wrote d d' a s ∧ (sz' : Int) = if 0 < s.size then max (sz : Int) ((a : Int) + (s.size : Int)) else (sz : Int) := by
  by_cases h0 : s.size = 0
  · refine .inr ⟨sz, d, writeF_nil h (by omega) (by omega) h0, h, hz, fun q => by rw [if_neg (by omega)], by rw [if_neg (by omega)]⟩
  · have hw := wData_wf (a := (a : Int)) h.wf (by omega) (Nat.pos_of_ne_zero h0)
    have hb := fun q => wData_byte (a := (a : Int)) h.wf h.top (by omega) (Nat.pos_of_ne_zero h0) q
    have hends : ∀ p ∈ wData d (a : Int) s, p.1 + (p.2.size : Int) ≤ 540 := ends_of hw fun q hq => by
      rw [hb q] at hq
      by_cases hp : PIn q ((a : Int), s)
      · unfold PIn at hp; simp only at hp; omega
      · rw [if_neg hp] at hq
        obtain ⟨p, hp1, hp2⟩ := byteOf_some.1 hq
        have := h.ends p hp1
        unfold PIn at hp2
        omega
    have hsum : sumP (wData d (a : Int) s) ≤ 4000 := by
      have key : ∀ (l : List Pc) (lo : Int), WF l → (∀ p ∈ l, lo ≤ p.1 ∧ p.1 + (p.2.size : Int) ≤ 540) → lo ≤ 540 → (sumP l : Int) ≤ 540 - lo := by
        intro l
        induction l with
        | nil => intro lo _ _ h; simp [sumP]; omega
        | cons x r ih =>
          intro lo h1 h2 h3
          have hx := h2 x (by simp)
          have hr := (List.pairwise_cons.1 h1.2).1
          have := ih (x.1 + (x.2.size : Int)) h1.tail (fun p hp => ⟨by have := hr p hp; omega, (h2 p (List.mem_cons_of_mem _ hp)).2⟩) hx.2
          simp only [sumP]
          omega
      have := key _ 0 hw (fun p hp => ⟨(hw.1 p hp).1, hends p hp⟩) (by omega)
      omega
    by_cases hl : (wData d (a : Int) s).length ≤ 16
    · refine .inr ⟨max sz (a + s.size), wData d (a : Int) s, ?_, ?_, by omega, fun q => ?_, by rw [if_pos (by omega)]; omega⟩
      · rw [writeF h (by omega) (by omega) (Nat.pos_of_ne_zero h0) hl hsum]
        congr 2
        omega
      · have := vf_write h (a := (a : Int)) (by omega) (by omega) (Nat.pos_of_ne_zero h0) hl hsum
        rwa [show max (sz : Int) ((a : Int) + (s.size : Int)) = ((max sz (a + s.size) : Nat) : Int) by omega] at this
      · rw [hb q]
        by_cases hp : a ≤ q ∧ q < a + s.size
        · rw [if_pos hp, if_pos (by unfold PIn; simp only; omega)]
          unfold byteP
          simp only
          rw [show ((q : Int) - (a : Int)).toNat = q - a by omega]
        · rw [if_neg hp, if_neg (by unfold PIn; simp only; omega)]
    · left
      constructor
      · unfold writeN
        rw [if_pos ⟨F_file h, decide_eq_true (by omega)⟩, if_neg (by omega), if_neg h0, if_pos (.inl (by show 16 < (wData d (a : Int) s).length; omega))]
      · have hj : ∀ (l out : List Pc), (l.foldl joinStep out).length ≤ out.length + l.length := by
          intro l
          induction l with
          | nil => intro out; simp
          | cons p r ih =>
            intro out
            rw [List.foldl_cons]
            have := ih (joinStep out p)
            have : (joinStep out p).length ≤ out.length + 1 := by
              rcases last_case out with rfl | ⟨o, x, rfl⟩
              · simp [join_nil]
              · rw [join_last]; split <;> simp
            simp only [List.length_cons]
            omega
        have h1 := hj (wList d (a : Int) s) []
        have h2 := clipP_len d 0 (a : Int)
        have h3 := clipP_len d ((a : Int) + (s.size : Int)) 1099511627777
        have h4 : (wData d (a : Int) s).length ≤ (wList d (a : Int) s).length := by simpa [wData, joinP] using h1
        have h5 : (wList d (a : Int) s).length = (clipP d 0 (a : Int)).length + 1 + (clipP d ((a : Int) + (s.size : Int)) 1099511627777).length := by simp [wList]; omega
        omega
theorem play_cut {sz a : Nat} {d : List Pc} (h : VF (sz : Int) d) (ha : a < 500) : cutNd (F (sz : Int) d) (a : Int) = (F (a : Int) (clipP d 0 (a : Int)), 0) ∧ VF (a : Int) (clipP d 0 (a : Int)) := ⟨cutF h (by omega) (by omega), vf_cut h (by omega) (by omega)⟩
theorem play_read {sz : Nat} {d : List Pc} (h : VF (sz : Int) d) (hz : sz ≤ 540) : readN (F (sz : Int) d) 0 600 = (⟨((bsOf d).take sz).toArray⟩, 0) := by
  rw [readF h (by omega) (by omega) (by omega), show limN 0 = 0 from rfl, show limN (min 600 ((sz : Int) - 0)) = sz by unfold limN M; omega]
  congr 2
  unfold txt bsOf tab
  rw [← List.map_take, List.take_range, Nat.min_eq_left (by omega)]
  refine congrArg ByteArray.mk (congrArg List.toArray (List.map_congr_left fun i _ => ?_))
  rw [Nat.zero_add]
theorem play_has {sz : Nat} {d : List Pc} (h : VF (sz : Int) d) (p : Nat) : hasP (d.map xOf) p = (byteOf d p).isSome := by
  unfold hasP
  rw [Bool.eq_iff_iff, decide_eq_true_eq, some_iff h.ok]
theorem play_val {sz : Nat} {d : List Pc} (h : VF (sz : Int) d) : Val (d.map xOf) ∧ Upto M (d.map xOf) := by
  rw [map_xOf h.ok]
  refine ⟨h.wf.val, fun x hx => ?_⟩
  obtain ⟨p, hp, rfl⟩ := List.mem_map.1 hx
  have := h.ok p hp
  unfold PcOk at this
  show p.1.toNat + p.2.size ≤ M
  unfold M
  omega
end Go.Proofs.Ytheobpilmphdjaa.Nd
