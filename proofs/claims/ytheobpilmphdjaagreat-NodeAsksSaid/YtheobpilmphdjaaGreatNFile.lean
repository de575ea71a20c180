/-
  Valid files as plain mathematics; what Write, Cut and Read answer.
-/
import Derived.Test.YtheobpilmphdjaaGreatNOwn
namespace Go.Proofs.YtheobpilmphdjaaGreat.Nd
open Go.RowKit
open Go.Proofs.YtheobpilmphdjaaGreat.Ex.Rng

theorem mayGo_true : ∀ {l : List X} {last s : Int}, Ex.mayGo last l s = true → Val l ∧ (∀ x ∈ l, last < (x.1 : Int) ∧ (x.1 : Int) + x.2 ≤ s) ∧ last ≤ s
  | [], _, _, h => ⟨Val.nil_, by simp, of_decide_eq_true h⟩
  | x :: r, last, s, h => by
    unfold Ex.mayGo at h
    rw [Bool.and_eq_true, decide_eq_true_eq] at h
    obtain ⟨⟨h1, h2⟩, h3⟩ := h
    obtain ⟨a, b, c⟩ := mayGo_true h3
    refine ⟨⟨fun y hy => ?_, List.pairwise_cons.2 ⟨fun y hy => by have := (b y hy).1; omega, a.2⟩⟩, fun y hy => ?_, by omega⟩
    · rcases List.mem_cons.1 hy with rfl | hy
      · omega
      · exact a.1 y hy
    · rcases List.mem_cons.1 hy with rfl | hy
      · exact ⟨h2, c⟩
      · have := b y hy; exact ⟨by omega, this.2⟩
theorem sumP_mem {l : List Pc} {p : Pc} (h : p ∈ l) : p.2.size ≤ sumP l := by
  induction l with
  | nil => cases h
  | cons x r ih =>
    simp only [sumP]
    rcases List.mem_cons.1 h with rfl | h
    · omega
    · have := ih h; omega
/-- The pieces of a valid file of this size. -/
structure VF (s : Int) (d : List Pc) : Prop where
  len : d.length ≤ 16
  sum : sumP d ≤ 4000
  wf : WF d
  ends : ∀ p ∈ d, p.1 + (p.2.size : Int) ≤ s
  s0 : 0 ≤ s
  s1 : s ≤ 1099511627776
theorem lim_in {s : Int} : s = lim s ↔ 0 ≤ s ∧ s ≤ 1099511627776 := by
  unfold lim limN M
  omega
theorem contentB_vf {s : Int} {d : List Pc} (h : contentB s d = true) : VF s d := by
  unfold contentB at h
  simp only [Bool.and_eq_true, decide_eq_true_eq] at h
  obtain ⟨⟨⟨h1, h2⟩, h3⟩, h4⟩ := h
  unfold Ex.mayB at h4
  simp only [Bool.and_eq_true, decide_eq_true_eq] at h4
  obtain ⟨h4, h5⟩ := h4
  have ho : ∀ p ∈ d, 0 ≤ p.1 ∧ p.1 ≤ 1099511627776 := fun p hp => of_decide_eq_true (List.all_eq_true.1 h3 p hp)
  have hx : d.map xOf = d.map xN := List.map_congr_left fun p hp => by
    have h6 := ho p hp
    have h7 := sumP_mem hp
    unfold xOf xN limN M
    refine Prod.ext ?_ ?_
    · simp only; omega
    · simp only; omega
  rw [hx] at h5
  obtain ⟨a, b, _⟩ := mayGo_true h5
  have hs := lim_in.1 h4
  refine ⟨by omega, by omega, ⟨fun p hp => ⟨(ho p hp).1, a.1 (xN p) (List.mem_map.2 ⟨p, hp, rfl⟩)⟩, ?_⟩, fun p hp => ?_, hs.1, hs.2⟩
  · have := a.2
    rw [List.pairwise_map] at this
    refine List.Pairwise.imp_of_mem ?_ this
    intro x y hx hy hxy
    have h8 := ho x hx
    have h9 := ho y hy
    have hxy' : x.1.toNat + x.2.size < y.1.toNat := hxy
    omega
  · have h8 := (b (xN p) (List.mem_map.2 ⟨p, hp, rfl⟩)).2
    have h9 := ho p hp
    have h8' : (p.1.toNat : Int) + p.2.size ≤ s := h8
    omega
theorem contentB_of {s : Int} {d : List Pc} (h : VF s d) : contentB s d = true := by
  obtain ⟨h1, h2, h3, h4, h5, h6⟩ := h
  have ho : ∀ p ∈ d, PcOk p := fun p hp => ⟨(h3.1 p hp).1, by have := h4 p hp; omega⟩
  unfold contentB Ex.mayB
  rw [map_xOf ho]
  have e1 : d.all (fun p => offB p.1) = true := List.all_eq_true.2 fun p hp => decide_eq_true (by have := ho p hp; unfold PcOk at this; omega)
  have e2 : Ex.mayGo (-1) (d.map xN) s = true := Ex.mayGo_val h3.val (fun x hx => by omega) (by omega) (fun x hx => by
    obtain ⟨p, hp, rfl⟩ := List.mem_map.1 hx
    have a := (h3.1 p hp).1
    have b := h4 p hp
    show (p.1.toNat : Int) + (p.2.size : Nat) ≤ s
    omega)
  rw [e1, e2]
  have := lim_in.2 ⟨h5, h6⟩
  simp [← this]
  omega
theorem VF.ok {s : Int} {d : List Pc} (h : VF s d) : ∀ p ∈ d, PcOk p := fun p hp => ⟨(h.wf.1 p hp).1, by have := h.ends p hp; have := h.s1; omega⟩
theorem VF.top {s : Int} {d : List Pc} (h : VF s d) : ∀ p ∈ d, p.1 + (p.2.size : Int) ≤ 1099511627776 := fun p hp => (h.ok p hp).2
theorem VF.small {s : Int} {d : List Pc} (h : VF s d) : Small d := ⟨by have := h.len; omega, fun p hp => by have := sumP_mem hp; have := h.sum; omega⟩
theorem fileB_vf {n : Nd} (h : fileB n = true) : n.kind = 2 ∧ VF n.size n.data := by
  unfold fileB at h
  rw [Bool.and_eq_true, beq_iff_eq] at h
  obtain ⟨h1, h2⟩ := h
  refine ⟨h1, contentB_vf ?_⟩
  unfold mayN at h2
  rw [if_neg (by omega), if_pos h1] at h2
  simp only [Bool.and_eq_true] at h2
  exact h2.1.1.1.1
theorem fileB_set {n : Nd} {s : Int} {d : List Pc} (h : fileB n = true) (hv : VF s d) : fileB { n with size := s, data := d } = true := by
  unfold fileB at h ⊢
  rw [Bool.and_eq_true, beq_iff_eq] at h ⊢
  obtain ⟨h1, h2⟩ := h
  refine ⟨h1, ?_⟩
  unfold mayN at h2 ⊢
  rw [if_neg (by omega), if_pos h1] at h2
  simp only
  rw [if_neg (by omega), if_pos h1, contentB_of hv]
  simp only [Bool.and_eq_true] at h2 ⊢
  exact ⟨⟨⟨⟨trivial, h2.1.1.1.2⟩, h2.1.1.2⟩, h2.1.2⟩, h2.2⟩

/-! ### The answers -/
def writeN (n : Nd) (a : Int) (s : ByteArray) : Nd × Int :=
  if fileB n = true ∧ offB a = true then
    if 1099511627776 < a + (s.size : Int) then (n, 2)
    else if s.size = 0 then (n, 0)
    else if 16 < (wData n.data a s).length ∨ 4000 < sumP (wData n.data a s) then (n, 13)
    else ({ n with data := wData n.data a s, size := max n.size (a + (s.size : Int)) }, 0)
  else (n, 1)
def cutNd (n : Nd) (s : Int) : Nd × Int := if fileB n = true ∧ offB s = true then ({ n with data := clipP n.data 0 s, size := s }, 0) else (n, 1)
def readN (n : Nd) (a long : Int) : ByteArray × Int := if fileB n = true ∧ 0 ≤ a ∧ 0 ≤ long ∧ long ≤ 4000 then (txt n.data (limN a) (limN (min long (n.size - a))), 0) else (⟨#[]⟩, 1)
/-- What bounds a node for the machine. -/
structure Fit (n : Nd) : Prop where
  at_ : n.mt.attrs.length ≤ 10000
  ac : n.mt.acl.length ≤ 10000
  da : Small n.data

/-! ### Blocks from here to there are as they were -/
def Band (lo hi : Nat) (w w' : World) : Prop := hi ≤ w'.heap.size ∧ ∀ b, lo ≤ b → b < hi → w'.heap[b]? = w.heap[b]?
theorem Band.start (lo : Nat) (w : World) : Band lo w.heap.size w w := ⟨Nat.le_refl _, fun _ _ _ => rfl⟩
theorem Band.q {lo hi : Nat} {w a b : World} (h : Band lo hi w a) (q : Q a b) : Band lo hi w b := ⟨Nat.le_trans h.1 q.size, fun x h1 h2 => (q.block x (Nat.lt_of_lt_of_le h2 h.1)).trans (h.2 x h1 h2)⟩
theorem Band.far {lo hi g : Nat} {w a b : World} (h : Band lo hi w a) (f : Far g a b) (hg : g < lo ∨ hi ≤ g) : Band lo hi w b := ⟨Nat.le_trans h.1 f.1, fun x h1 h2 => (f.2 x (Nat.lt_of_lt_of_le h2 h.1) (by omega)).trans (h.2 x h1 h2)⟩
theorem Band.row {α : Type} {cs : α → List Value} {k : Nat} {T : TypeId} {lo : Nat} {w w' : World} {v : Value} {l : List α} (b : Band lo w.heap.size w w') (h : OwnR T cs k w lo v l) : OwnR T cs k w' lo v l :=
  h.other fun g hg => b.2 g (h.lt g hg).1 (h.lt g hg).2

/-- Where Write, Cut stand: the argument's block, the result's, the copy's. -/
structure St (w w2 W : World) (V Z R : Array Value) : Prop where
  q : Q w W
  x : BoxN W w.heap.size V
  y : BoxN W (w.heap.size + 1) Z
  o : BoxN W w2.heap.size R
  b : Band (w.heap.size + 2) w2.heap.size w2 W
theorem St.keep {w w2 W W' : World} {V Z R : Array Value} (h : St w w2 W V Z R) (q : Q W W') : St w w2 W' V Z R := ⟨h.q.trans q, h.x.keep q, h.y.keep q, h.o.keep q, h.b.q q⟩
end Go.Proofs.YtheobpilmphdjaaGreat.Nd
