/-
  Two copies are made and laid into two variables, in whatever order: what holds on the way.
-/
import Derived.Test.YtidpcoolfomgjaaBoxes
namespace Go.Proofs.Ytidpcoolfomgjaa
open Go.RowKit

def metaCells (m : Mt) (va vl : Value) : Array Value := #[.int .i64 m.mode, .int .i64 m.uid, .int .i64 m.gid, .int .i64 m.time, va, vl]
/-- The operations: 0, 2 the loads; 1, 3 the copies; 4, 5 the variables; 6, 7 the stores. -/
structure I3 (m : Mt) (w0 : World) (mv : Value) (c : Nat → Bool) (u3 u4 u11 u12 u13 u14 : Value) (w : World) : Prop where
  q : Q w0 w
  l0 : c 0 = true → u11 = mv
  l2 : c 2 = true → u13 = mv
  k1 : c 1 = true → OwnM w w0.heap.size u12 m
  k3 : c 3 = true → OwnM w w0.heap.size u14 m
  p4 : c 4 = true → ∃ p cs, u3 = .pointer (some ⟨p, 0, none⟩) ∧ w0.heap.size ≤ p ∧ Box w p cs ∧ cs.size = 6
  p5 : c 5 = true → ∃ p cs, u4 = .pointer (some ⟨p, 0, none⟩) ∧ w0.heap.size ≤ p ∧ Box w p cs ∧ cs.size = 6
  d13 : c 1 = true → c 3 = true → Dj u12 u14
  d14 : c 1 = true → c 4 = true → Dj u12 u3
  d15 : c 1 = true → c 5 = true → Dj u12 u4
  d34 : c 3 = true → c 4 = true → Dj u14 u3
  d35 : c 3 = true → c 5 = true → Dj u14 u4
  d45 : c 4 = true → c 5 = true → Dj u3 u4
  o6 : c 6 = true → c 1 = true ∧ c 4 = true
  o7 : c 7 = true → c 3 = true ∧ c 5 = true
  s6 : c 6 = true → ∃ p va vl, u3 = .pointer (some ⟨p, 0, none⟩) ∧ u12 = metaV m va vl ∧ Box w p (metaCells m va vl)
  s7 : c 7 = true → ∃ p va vl, u4 = .pointer (some ⟨p, 0, none⟩) ∧ u14 = metaV m va vl ∧ Box w p (metaCells m va vl)
theorem vblocks_ptr (p : Nat) : vblocks (.pointer (some ⟨p, 0, none⟩)) = [p] := rfl
theorem bd_ptr {w : World} {B p : Nat} {cs : Array Value} (hB : B ≤ p) (b : Box w p cs) : Bd B w (.pointer (some ⟨p, 0, none⟩)) := by
  intro g hg
  rw [vblocks_ptr, List.mem_singleton] at hg
  subst hg
  exact ⟨hB, b.lt⟩
section
variable {m : Mt} {w0 : World} {mv : Value} {c : Nat → Bool} {u3 u4 u11 u12 u13 u14 : Value} {w w' : World}
theorem I3.b1 (h : I3 m w0 mv c u3 u4 u11 u12 u13 u14 w) (k : c 1 = true) : Bd w0.heap.size w u12 := (h.k1 k).bd
theorem I3.b3 (h : I3 m w0 mv c u3 u4 u11 u12 u13 u14 w) (k : c 3 = true) : Bd w0.heap.size w u14 := (h.k3 k).bd
theorem I3.b4 (h : I3 m w0 mv c u3 u4 u11 u12 u13 u14 w) (k : c 4 = true) : Bd w0.heap.size w u3 := by
  obtain ⟨p, cs, rfl, h1, h2, _⟩ := h.p4 k
  exact bd_ptr h1 h2
theorem I3.b5 (h : I3 m w0 mv c u3 u4 u11 u12 u13 u14 w) (k : c 5 = true) : Bd w0.heap.size w u4 := by
  obtain ⟨p, cs, rfl, h1, h2, _⟩ := h.p5 k
  exact bd_ptr h1 h2
theorem I3.start (hq : Q w0 w) : I3 m w0 mv (fun _ => false) u3 u4 u11 u12 u13 u14 w :=
  ⟨hq, fun k => (by cases k), fun k => (by cases k), fun k => (by cases k), fun k => (by cases k), fun k => (by cases k), fun k => (by cases k), fun k => (by cases k), fun k => (by cases k), fun k => (by cases k), fun k => (by cases k), fun k => (by cases k), fun k => (by cases k), fun k => (by cases k), fun k => (by cases k), fun k => (by cases k), fun k => (by cases k)⟩
theorem I3.add0 (h : I3 m w0 mv c u3 u4 u11 u12 u13 u14 w) : I3 m w0 mv (upon c 0) u3 u4 mv u12 u13 u14 w := by
  obtain ⟨h0, h1, h2, h3, h4, h5, h6, h7, h8, h9, h10, h11, h12, h13, h14, h15, h16⟩ := h
  exact ⟨h0, fun _ => rfl, fun k => h2 (by simpa [upon] using k), fun k => h3 (by simpa [upon] using k), fun k => h4 (by simpa [upon] using k), fun k => h5 (by simpa [upon] using k), fun k => h6 (by simpa [upon] using k), fun k k' => h7 (by simpa [upon] using k) (by simpa [upon] using k'), fun k k' => h8 (by simpa [upon] using k) (by simpa [upon] using k'), fun k k' => h9 (by simpa [upon] using k) (by simpa [upon] using k'), fun k k' => h10 (by simpa [upon] using k) (by simpa [upon] using k'), fun k k' => h11 (by simpa [upon] using k) (by simpa [upon] using k'), fun k k' => h12 (by simpa [upon] using k) (by simpa [upon] using k'), fun k => by have := h13 (by simpa [upon] using k); simpa [upon] using this, fun k => by have := h14 (by simpa [upon] using k); simpa [upon] using this, fun k => h15 (by simpa [upon] using k), fun k => h16 (by simpa [upon] using k)⟩
theorem I3.add2 (h : I3 m w0 mv c u3 u4 u11 u12 u13 u14 w) : I3 m w0 mv (upon c 2) u3 u4 u11 u12 mv u14 w := by
  obtain ⟨h0, h1, h2, h3, h4, h5, h6, h7, h8, h9, h10, h11, h12, h13, h14, h15, h16⟩ := h
  exact ⟨h0, fun k => h1 (by simpa [upon] using k), fun _ => rfl, fun k => h3 (by simpa [upon] using k), fun k => h4 (by simpa [upon] using k), fun k => h5 (by simpa [upon] using k), fun k => h6 (by simpa [upon] using k), fun k k' => h7 (by simpa [upon] using k) (by simpa [upon] using k'), fun k k' => h8 (by simpa [upon] using k) (by simpa [upon] using k'), fun k k' => h9 (by simpa [upon] using k) (by simpa [upon] using k'), fun k k' => h10 (by simpa [upon] using k) (by simpa [upon] using k'), fun k k' => h11 (by simpa [upon] using k) (by simpa [upon] using k'), fun k k' => h12 (by simpa [upon] using k) (by simpa [upon] using k'), fun k => by have := h13 (by simpa [upon] using k); simpa [upon] using this, fun k => by have := h14 (by simpa [upon] using k); simpa [upon] using this, fun k => h15 (by simpa [upon] using k), fun k => h16 (by simpa [upon] using k)⟩
theorem I3.grow (h : I3 m w0 mv c u3 u4 u11 u12 u13 u14 w) (q : Q w w') : I3 m w0 mv c u3 u4 u11 u12 u13 u14 w' := by
  refine ⟨h.q.trans q, h.l0, h.l2, fun k => (h.k1 k).keep q, fun k => (h.k3 k).keep q, fun k => ?_, fun k => ?_, h.d13, h.d14, h.d15, h.d34, h.d35, h.d45, h.o6, h.o7, fun k => ?_, fun k => ?_⟩
  · obtain ⟨p, cs, e, h1, h2, h3⟩ := h.p4 k
    exact ⟨p, cs, e, h1, h2.keep q, h3⟩
  · obtain ⟨p, cs, e, h1, h2, h3⟩ := h.p5 k
    exact ⟨p, cs, e, h1, h2.keep q, h3⟩
  · obtain ⟨p, va, vl, e, h1, h2⟩ := h.s6 k
    exact ⟨p, va, vl, e, h1, h2.keep q⟩
  · obtain ⟨p, va, vl, e, h1, h2⟩ := h.s7 k
    exact ⟨p, va, vl, e, h1, h2.keep q⟩
theorem I3.add1 (h : I3 m w0 mv c u3 u4 u11 u12 u13 u14 w) (hc : c 1 = false) (q : Q w w') {v : Value} (hv : OwnM w' w.heap.size v m) : I3 m w0 mv (upon c 1) u3 u4 u11 v u13 u14 w' := by
  have g := h.grow q
  have n6 : ¬ c 6 = true := fun k => absurd (h.o6 k).1 (by simp [hc])
  have b := hv.bd
  have e3 : c 3 = true → Dj v u14 := fun k => (Dj.new (h.b3 k) b (Nat.le_refl _)).symm
  have e4 : c 4 = true → Dj v u3 := fun k => (Dj.new (h.b4 k) b (Nat.le_refl _)).symm
  have e5 : c 5 = true → Dj v u4 := fun k => (Dj.new (h.b5 k) b (Nat.le_refl _)).symm
  have hv' := hv.mono h.q.size
  obtain ⟨h0, h1, h2, h3, h4, h5, h6, h7, h8, h9, h10, h11, h12, h13, h14, h15, h16⟩ := g
  exact ⟨h0, fun k => h1 (by simpa [upon] using k), fun k => h2 (by simpa [upon] using k), fun _ => hv', fun k => h4 (by simpa [upon] using k), fun k => h5 (by simpa [upon] using k), fun k => h6 (by simpa [upon] using k), fun _ k => e3 (by simpa [upon] using k), fun _ k => e4 (by simpa [upon] using k), fun _ k => e5 (by simpa [upon] using k), fun k k' => h10 (by simpa [upon] using k) (by simpa [upon] using k'), fun k k' => h11 (by simpa [upon] using k) (by simpa [upon] using k'), fun k k' => h12 (by simpa [upon] using k) (by simpa [upon] using k'), fun k => absurd (by simpa [upon] using k) n6, fun k => by have := h14 (by simpa [upon] using k); simpa [upon] using this, fun k => absurd (by simpa [upon] using k) n6, fun k => h16 (by simpa [upon] using k)⟩
theorem I3.add3 (h : I3 m w0 mv c u3 u4 u11 u12 u13 u14 w) (hc : c 3 = false) (q : Q w w') {v : Value} (hv : OwnM w' w.heap.size v m) : I3 m w0 mv (upon c 3) u3 u4 u11 u12 u13 v w' := by
  have g := h.grow q
  have n7 : ¬ c 7 = true := fun k => absurd (h.o7 k).1 (by simp [hc])
  have b := hv.bd
  have e1 : c 1 = true → Dj u12 v := fun k => Dj.new (h.b1 k) b (Nat.le_refl _)
  have e4 : c 4 = true → Dj v u3 := fun k => (Dj.new (h.b4 k) b (Nat.le_refl _)).symm
  have e5 : c 5 = true → Dj v u4 := fun k => (Dj.new (h.b5 k) b (Nat.le_refl _)).symm
  have hv' := hv.mono h.q.size
  obtain ⟨h0, h1, h2, h3, h4, h5, h6, h7, h8, h9, h10, h11, h12, h13, h14, h15, h16⟩ := g
  exact ⟨h0, fun k => h1 (by simpa [upon] using k), fun k => h2 (by simpa [upon] using k), fun k => h3 (by simpa [upon] using k), fun _ => hv', fun k => h5 (by simpa [upon] using k), fun k => h6 (by simpa [upon] using k), fun k _ => e1 (by simpa [upon] using k), fun k k' => h8 (by simpa [upon] using k) (by simpa [upon] using k'), fun k k' => h9 (by simpa [upon] using k) (by simpa [upon] using k'), fun _ k => e4 (by simpa [upon] using k), fun _ k => e5 (by simpa [upon] using k), fun k k' => h12 (by simpa [upon] using k) (by simpa [upon] using k'), fun k => by have := h13 (by simpa [upon] using k); simpa [upon] using this, fun k => absurd (by simpa [upon] using k) n7, fun k => h15 (by simpa [upon] using k), fun k => absurd (by simpa [upon] using k) n7⟩
theorem I3.add4 (h : I3 m w0 mv c u3 u4 u11 u12 u13 u14 w) (hc : c 4 = false) (cs : Array Value) (hs : cs.size = 6) : I3 m w0 mv (upon c 4) (.pointer (some ⟨w.heap.size, 0, none⟩)) u4 u11 u12 u13 u14 (w.alloc (.cells cs 25)) := by
  have g := h.grow ((Q.refl w).alloc (.cells cs 25))
  have n6 : ¬ c 6 = true := fun k => absurd (h.o6 k).2 (by simp [hc])
  have bx := Box.new w cs
  have b := bd_ptr (Nat.le_refl w.heap.size) bx
  have e1 : c 1 = true → Dj u12 (.pointer (some ⟨w.heap.size, 0, none⟩)) := fun k => Dj.new (h.b1 k) b (Nat.le_refl _)
  have e3 : c 3 = true → Dj u14 (.pointer (some ⟨w.heap.size, 0, none⟩)) := fun k => Dj.new (h.b3 k) b (Nat.le_refl _)
  have e5 : c 5 = true → Dj (.pointer (some ⟨w.heap.size, 0, none⟩)) u4 := fun k => (Dj.new (h.b5 k) b (Nat.le_refl _)).symm
  have hp := h.q.size
  have e : ∃ p cs', (Value.pointer (some ⟨w.heap.size, 0, none⟩)) = .pointer (some ⟨p, 0, none⟩) ∧ w0.heap.size ≤ p ∧ Box (w.alloc (.cells cs 25)) p cs' ∧ cs'.size = 6 := ⟨_, _, rfl, hp, bx, hs⟩
  obtain ⟨h0, h1, h2, h3, h4, h5, h6, h7, h8, h9, h10, h11, h12, h13, h14, h15, h16⟩ := g
  exact ⟨h0, fun k => h1 (by simpa [upon] using k), fun k => h2 (by simpa [upon] using k), fun k => h3 (by simpa [upon] using k), fun k => h4 (by simpa [upon] using k), fun _ => e, fun k => h6 (by simpa [upon] using k),
    fun k k' => h7 (by simpa [upon] using k) (by simpa [upon] using k'), fun k _ => e1 (by simpa [upon] using k), fun k k' => h9 (by simpa [upon] using k) (by simpa [upon] using k'), fun k _ => e3 (by simpa [upon] using k), fun k k' => h11 (by simpa [upon] using k) (by simpa [upon] using k'), fun _ k => e5 (by simpa [upon] using k),
    fun k => absurd (by simpa [upon] using k) n6, fun k => by have := h14 (by simpa [upon] using k); simpa [upon] using this, fun k => absurd (by simpa [upon] using k) n6, fun k => h16 (by simpa [upon] using k)⟩
theorem I3.add5 (h : I3 m w0 mv c u3 u4 u11 u12 u13 u14 w) (hc : c 5 = false) (cs : Array Value) (hs : cs.size = 6) : I3 m w0 mv (upon c 5) u3 (.pointer (some ⟨w.heap.size, 0, none⟩)) u11 u12 u13 u14 (w.alloc (.cells cs 25)) := by
  have g := h.grow ((Q.refl w).alloc (.cells cs 25))
  have n7 : ¬ c 7 = true := fun k => absurd (h.o7 k).2 (by simp [hc])
  have bx := Box.new w cs
  have b := bd_ptr (Nat.le_refl w.heap.size) bx
  have e1 : c 1 = true → Dj u12 (.pointer (some ⟨w.heap.size, 0, none⟩)) := fun k => Dj.new (h.b1 k) b (Nat.le_refl _)
  have e3 : c 3 = true → Dj u14 (.pointer (some ⟨w.heap.size, 0, none⟩)) := fun k => Dj.new (h.b3 k) b (Nat.le_refl _)
  have e4 : c 4 = true → Dj u3 (.pointer (some ⟨w.heap.size, 0, none⟩)) := fun k => Dj.new (h.b4 k) b (Nat.le_refl _)
  have hp := h.q.size
  have e : ∃ p cs', (Value.pointer (some ⟨w.heap.size, 0, none⟩)) = .pointer (some ⟨p, 0, none⟩) ∧ w0.heap.size ≤ p ∧ Box (w.alloc (.cells cs 25)) p cs' ∧ cs'.size = 6 := ⟨_, _, rfl, hp, bx, hs⟩
  obtain ⟨h0, h1, h2, h3, h4, h5, h6, h7, h8, h9, h10, h11, h12, h13, h14, h15, h16⟩ := g
  exact ⟨h0, fun k => h1 (by simpa [upon] using k), fun k => h2 (by simpa [upon] using k), fun k => h3 (by simpa [upon] using k), fun k => h4 (by simpa [upon] using k), fun k => h5 (by simpa [upon] using k), fun _ => e,
    fun k k' => h7 (by simpa [upon] using k) (by simpa [upon] using k'), fun k k' => h8 (by simpa [upon] using k) (by simpa [upon] using k'), fun k _ => e1 (by simpa [upon] using k), fun k k' => h10 (by simpa [upon] using k) (by simpa [upon] using k'), fun k _ => e3 (by simpa [upon] using k), fun k _ => e4 (by simpa [upon] using k),
    fun k => by have := h13 (by simpa [upon] using k); simpa [upon] using this, fun k => absurd (by simpa [upon] using k) n7, fun k => h15 (by simpa [upon] using k), fun k => absurd (by simpa [upon] using k) n7⟩
theorem I3.upd (h : I3 m w0 mv c u3 u4 u11 u12 u13 u14 w) {p : Nat} (u : Upd w w' p) (hp : w0.heap.size ≤ p) (n1 : c 1 = true → p ∉ vblocks u12) (n3 : c 3 = true → p ∉ vblocks u14) :
    Q w0 w' ∧ (c 1 = true → OwnM w' w0.heap.size u12 m) ∧ (c 3 = true → OwnM w' w0.heap.size u14 m) :=
  ⟨u.q h.q hp, fun k => (h.k1 k).upd u (n1 k), fun k => (h.k3 k).upd u (n3 k)⟩
theorem dj_ptr {u : Value} {p : Nat} (h : Dj u (.pointer (some ⟨p, 0, none⟩))) : p ∉ vblocks u := fun k => h p k p (by rw [vblocks_ptr]; simp) rfl
theorem dj_ptrs {p g : Nat} (h : Dj (.pointer (some ⟨p, 0, none⟩)) (.pointer (some ⟨g, 0, none⟩))) : p ≠ g := h p (by rw [vblocks_ptr]; simp) g (by rw [vblocks_ptr]; simp)
theorem I3.add6 (h : I3 m w0 mv c u3 u4 u11 u12 u13 u14 w) (k1 : c 1 = true) (k4 : c 4 = true) {p : Nat} (e : u3 = .pointer (some ⟨p, 0, none⟩)) (u : Upd w w' p) {va vl : Value} (ev : u12 = metaV m va vl) (b : Box w' p (metaCells m va vl)) : I3 m w0 mv (upon c 6) u3 u4 u11 u12 u13 u14 w' := by
  obtain ⟨p', cs, e', hp, hb, hs⟩ := h.p4 k4
  rw [e] at e'
  cases e'
  have n1 : c 1 = true → p ∉ vblocks u12 := fun k => dj_ptr (by rw [← e]; exact h.d14 k k4)
  have n3 : c 3 = true → p ∉ vblocks u14 := fun k => dj_ptr (by rw [← e]; exact h.d34 k k4)
  obtain ⟨a0, a1, a3⟩ := h.upd u hp n1 n3
  have far : ∀ {p' : Nat}, c 5 = true → u4 = .pointer (some ⟨p', 0, none⟩) → p' ≠ p := fun {p'} k e' => (dj_ptrs (by rw [← e, ← e']; exact h.d45 k4 k)).symm
  exact ⟨a0, fun k => h.l0 (by simpa [upon] using k), fun k => h.l2 (by simpa [upon] using k), fun k => a1 (by simpa [upon] using k), fun k => a3 (by simpa [upon] using k), fun _ => ⟨p, _, e, hp, b, rfl⟩,
    fun k => by
      have k' : c 5 = true := by simpa [upon] using k
      obtain ⟨p', cs', e1, h1, h2, h3⟩ := h.p5 k'
      exact ⟨p', cs', e1, h1, u.box h2 (far k' e1), h3⟩,
    fun k k' => h.d13 (by simpa [upon] using k) (by simpa [upon] using k'), fun k k' => h.d14 (by simpa [upon] using k) (by simpa [upon] using k'), fun k k' => h.d15 (by simpa [upon] using k) (by simpa [upon] using k'), fun k k' => h.d34 (by simpa [upon] using k) (by simpa [upon] using k'), fun k k' => h.d35 (by simpa [upon] using k) (by simpa [upon] using k'), fun k k' => h.d45 (by simpa [upon] using k) (by simpa [upon] using k'),
    fun _ => by simp [upon, k1, k4], fun k => by have := h.o7 (by simpa [upon] using k); simpa [upon] using this, fun _ => ⟨p, va, vl, e, ev, b⟩,
    fun k => by
      have k' : c 7 = true := by simpa [upon] using k
      obtain ⟨p', va', vl', e1, e2, h2⟩ := h.s7 k'
      exact ⟨p', va', vl', e1, e2, u.box h2 (far (h.o7 k').2 e1)⟩⟩
theorem I3.add7 (h : I3 m w0 mv c u3 u4 u11 u12 u13 u14 w) (k3 : c 3 = true) (k5 : c 5 = true) {p : Nat} (e : u4 = .pointer (some ⟨p, 0, none⟩)) (u : Upd w w' p) {va vl : Value} (ev : u14 = metaV m va vl) (b : Box w' p (metaCells m va vl)) : I3 m w0 mv (upon c 7) u3 u4 u11 u12 u13 u14 w' := by
  obtain ⟨p', cs, e', hp, hb, hs⟩ := h.p5 k5
  rw [e] at e'
  cases e'
  have n1 : c 1 = true → p ∉ vblocks u12 := fun k => dj_ptr (by rw [← e]; exact h.d15 k k5)
  have n3 : c 3 = true → p ∉ vblocks u14 := fun k => dj_ptr (by rw [← e]; exact h.d35 k k5)
  obtain ⟨a0, a1, a3⟩ := h.upd u hp n1 n3
  have far : ∀ {p' : Nat}, c 4 = true → u3 = .pointer (some ⟨p', 0, none⟩) → p' ≠ p := fun {p'} k e' => dj_ptrs (by rw [← e, ← e']; exact h.d45 k k5)
  exact ⟨a0, fun k => h.l0 (by simpa [upon] using k), fun k => h.l2 (by simpa [upon] using k), fun k => a1 (by simpa [upon] using k), fun k => a3 (by simpa [upon] using k),
    fun k => by
      have k' : c 4 = true := by simpa [upon] using k
      obtain ⟨p', cs', e1, h1, h2, h3⟩ := h.p4 k'
      exact ⟨p', cs', e1, h1, u.box h2 (far k' e1), h3⟩,
    fun _ => ⟨p, _, e, hp, b, rfl⟩,
    fun k k' => h.d13 (by simpa [upon] using k) (by simpa [upon] using k'), fun k k' => h.d14 (by simpa [upon] using k) (by simpa [upon] using k'), fun k k' => h.d15 (by simpa [upon] using k) (by simpa [upon] using k'), fun k k' => h.d34 (by simpa [upon] using k) (by simpa [upon] using k'), fun k k' => h.d35 (by simpa [upon] using k) (by simpa [upon] using k'), fun k k' => h.d45 (by simpa [upon] using k) (by simpa [upon] using k'),
    fun k => by have := h.o6 (by simpa [upon] using k); simpa [upon] using this, fun _ => by simp [upon, k3, k5],
    fun k => by
      have k' : c 6 = true := by simpa [upon] using k
      obtain ⟨p', va', vl', e1, e2, h2⟩ := h.s6 k'
      exact ⟨p', va', vl', e1, e2, u.box h2 (far (h.o6 k').2 e1)⟩,
    fun _ => ⟨p, va, vl, e, ev, b⟩⟩
end

/-- Two copies lie in two blocks, apart from each other in all; what was done to the first one's rows. -/
structure TwoAt (m : Mt) (la : List Attr) (ll : List Ace) (w0 w : World) (p r : Nat) (va vl vb lb : Value) : Prop where
  q : Q w0 w
  hp : w0.heap.size ≤ p
  hr : w0.heap.size ≤ r
  ne : p ≠ r
  bp : Box w p (metaCells m va vl)
  br : Box w r (metaCells m vb lb)
  oa : OwnT w w0.heap.size va la
  ol : OwnA w w0.heap.size vl ll
  ob : OwnT w w0.heap.size vb m.attrs
  om : OwnA w w0.heap.size lb m.acl
  dj : Dj (metaV m va vl) (metaV m vb lb)
  pa : p ∉ vblocks (metaV m va vl)
  pb : p ∉ vblocks (metaV m vb lb)
  ra : r ∉ vblocks (metaV m va vl)
  rb : r ∉ vblocks (metaV m vb lb)
theorem TwoAt.keep {m : Mt} {la : List Attr} {ll : List Ace} {w0 w w' : World} {p r : Nat} {va vl vb lb : Value} (h : TwoAt m la ll w0 w p r va vl vb lb) (q : Q w w') : TwoAt m la ll w0 w' p r va vl vb lb :=
  ⟨h.q.trans q, h.hp, h.hr, h.ne, h.bp.keep q, h.br.keep q, OwnR.keep h.oa q, OwnR.keep h.ol q, OwnR.keep h.ob q, OwnR.keep h.om q, h.dj, h.pa, h.pb, h.ra, h.rb⟩
theorem flatR_set {α : Type} {cs : α → List Value} {k : Nat} (F : Flat cs k) : ∀ (l : List α) (i c : Nat) (x : α) (u : Value) (hi : i < l.length), c < k → cs x = (cs l[i]).set c u → flatR cs (l.set i x) = (flatR cs l).set (i * k + c) u
  | y :: l, 0, c, x, u, _, hc, e => by
    simp only [List.getElem_cons_zero] at e
    rw [List.set_cons_zero, flatR, flatR, List.flatMap_cons, List.flatMap_cons, e, Nat.zero_mul, Nat.zero_add, List.set_append_left _ _ (by rw [F.len]; exact hc)]
  | y :: l, i + 1, c, x, u, hi, hc, e => by
    have := flatR_set F l i c x u (by simpa using hi) hc (by simpa using e)
    rw [flatR, flatR] at this
    rw [List.set_cons_succ, flatR, flatR, List.flatMap_cons, List.flatMap_cons, this, List.set_append_right _ _ (by rw [F.len, Nat.succ_mul]; omega)]
    congr 1
    rw [F.len, Nat.succ_mul]
    congr 1
    omega
theorem OwnR.set {α : Type} {cs : α → List Value} {k : Nat} {E : TypeId} (F : Flat cs k) {w : World} {B g n cap : Nat} {l : List α} (h : OwnR E cs k w B (.slice (some ⟨g, 0, none⟩) n cap) l) (i c : Nat) (x : α) (u : Value) (hi : i < l.length) (hc : c < k) (e : cs x = (cs l[i]).set c u) :
    OwnR E cs k (w.setCell ⟨g, i * k + c, none⟩ u) B (.slice (some ⟨g, 0, none⟩) n cap) (l.set i x) := by
  obtain ⟨A, c', ef⟩ := h.form F
  cases ef
  have := (World.ownsRow.stored h (i * k + c) u).1
  unfold OwnR
  rw [flatR_set F l i c x u hi hc e, List.length_set]
  exact this
theorem not_blk {m : Mt} {va vl : Value} {g x : Nat} (h : x ∉ vblocks (metaV m va vl)) (hg : va.ownBlock = some g ∨ vl.ownBlock = some g) : x ≠ g := by
  rintro rfl
  apply h
  rw [vblocks_meta, List.mem_append, Option.mem_toList, Option.mem_toList]
  exact hg
theorem dj_blk {m : Mt} {va vl vb lb : Value} (h : Dj (metaV m va vl) (metaV m vb lb)) {g x : Nat} (hg : va.ownBlock = some g ∨ vl.ownBlock = some g) (hx : vb.ownBlock = some x ∨ lb.ownBlock = some x) : x ≠ g := by
  refine (h g ?_ x ?_).symm
  · rw [vblocks_meta, List.mem_append, Option.mem_toList, Option.mem_toList]; exact hg
  · rw [vblocks_meta, List.mem_append, Option.mem_toList, Option.mem_toList]; exact hx
theorem OwnR.far {α : Type} {cs : α → List Value} {k : Nat} {E : TypeId} {w : World} {B : Nat} {v : Value} {l : List α} (h : OwnR E cs k w B v l) (p : Addr) (u : Value) (hp : ∀ x, v.ownBlock = some x → x ≠ p.block) : OwnR E cs k (w.setCell p u) B v l :=
  h.other fun g hg => heap_setCell_far w p u (hp g hg)
/-- A name of the first copy is turned. -/
theorem TwoAt.setA {m : Mt} {la : List Attr} {ll : List Ace} {w0 w : World} {p r g n cap : Nat} {vl vb lb : Value} (h : TwoAt m la ll w0 w p r (.slice (some ⟨g, 0, none⟩) n cap) vl vb lb) (i : Nat) (hi : i < la.length) (s : ByteArray) :
    TwoAt m (la.set i (s, la[i].2)) ll w0 (w.setCell ⟨g, i * 2 + 0, none⟩ (.string s)) p r (.slice (some ⟨g, 0, none⟩) n cap) vl vb lb := by
  have hg : (Value.slice (some ⟨g, 0, none⟩) n cap).ownBlock = some g := rfl
  have hb := (OwnR.lt h.oa g hg).1
  exact ⟨Below.setCell h.q (p := ⟨g, i * 2 + 0, none⟩) hb _, h.hp, h.hr, h.ne, h.bp.other (heap_setCell_far _ _ _ (not_blk h.pa (.inl hg))), h.br.other (heap_setCell_far _ _ _ (not_blk h.ra (.inl hg))),
    OwnR.set flatT h.oa i 0 _ _ hi (by omega) rfl, OwnR.far h.ol _ _ (fun x hx e => own_two h.oa h.ol g hg (by rw [hx]; exact congrArg some e)), OwnR.far h.ob _ _ (fun x hx => dj_blk h.dj (.inl hg) (.inl hx)), OwnR.far h.om _ _ (fun x hx => dj_blk h.dj (.inl hg) (.inr hx)),
    h.dj, h.pa, h.pb, h.ra, h.rb⟩
/-- The permissions of an entry of the first copy are turned. -/
theorem TwoAt.setL {m : Mt} {la : List Attr} {ll : List Ace} {w0 w : World} {p r g n cap : Nat} {va vb lb : Value} (h : TwoAt m la ll w0 w p r va (.slice (some ⟨g, 0, none⟩) n cap) vb lb) (i : Nat) (hi : i < ll.length) (z : Int) :
    TwoAt m la (ll.set i (ll[i].1, ll[i].2.1, z)) w0 (w.setCell ⟨g, i * 3 + 2, none⟩ (.int .i64 z)) p r va (.slice (some ⟨g, 0, none⟩) n cap) vb lb := by
  have hg : (Value.slice (some ⟨g, 0, none⟩) n cap).ownBlock = some g := rfl
  have hb := (OwnR.lt h.ol g hg).1
  exact ⟨Below.setCell h.q (p := ⟨g, i * 3 + 2, none⟩) hb _, h.hp, h.hr, h.ne, h.bp.other (heap_setCell_far _ _ _ (not_blk h.pa (.inr hg))), h.br.other (heap_setCell_far _ _ _ (not_blk h.ra (.inr hg))),
    OwnR.far h.oa _ _ (fun x hx e => own_two h.oa h.ol x hx (by rw [hg]; exact congrArg some e.symm)), OwnR.set flat3 h.ol i 2 _ _ hi (by omega) rfl, OwnR.far h.ob _ _ (fun x hx => dj_blk h.dj (.inr hg) (.inl hx)), OwnR.far h.om _ _ (fun x hx => dj_blk h.dj (.inr hg) (.inr hx)),
    h.dj, h.pa, h.pb, h.ra, h.rb⟩
end Go.Proofs.Ytidpcoolfomgjaa
