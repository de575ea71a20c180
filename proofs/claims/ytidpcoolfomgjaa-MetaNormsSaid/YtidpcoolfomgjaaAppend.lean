/-
  append to a row of the call's own, with word of where the new row lies.
-/
import Derived.Test.YtidpcoolfomgjaaAttr
import Derived.Test.YtidpcoolfomgjaaInv
namespace Go.Proofs.Ytidpcoolfomgjaa
open Go.RowKit

/-- Not in one block. -/
def oDj (u v : Value) : Prop := ∀ g, u.ownBlock = some g → v.ownBlock ≠ some g
theorem oDj.symm {u v : Value} (h : oDj u v) : oDj v u := fun g hv hu => h g hu hv
theorem run_append_ats_at {w : World} (ty : TypeId) (B : Nat) (v : Value) (l : List Attr) (hown : OwnT w B v l) (vx : Value) (m : List Attr) (he : AtsAt w vx m) (hnl : l.length + m.length ≤ 100000) (hbase : B ≤ w.heap.size) :
    ∃ v' w', (Builtin.append_ #[22, 22] ty #[v, vx]).run Try.prog w = .ok v' w' ∧ OwnT w' B v' (l ++ m) ∧ w.grownBy w' v.ownBlock ∧ (v'.ownBlock = v.ownBlock ∨ v'.ownBlock = some w.heap.size) := by
  obtain ⟨i0, hi0, hz0, hz1, hz2⟩ := info_parts info_attr
  have he' : m = [] ∧ vx = .slice none 0 0 ∨ ∃ A cap, vx = .slice (some A) m.length cap ∧ ∀ j u, (flatR cellsT m)[j]? = some u → w.cell? (A.add j) = some u := by
    rcases he with ⟨rfl, a, c, rfl, ha⟩ | ⟨g, o, cap, rfl, h1, h2, h3⟩
    · cases a with
      | none => rw [ha rfl]; exact .inl ⟨rfl, rfl⟩
      | some A => exact .inr ⟨A, c, rfl, fun j u hu => by simp [flatR] at hu⟩
    · exact .inr ⟨_, cap, rfl, row_cells flatT h3⟩
  rcases he' with ⟨rfl, rfl⟩ | ⟨A, cap, rfl, h3⟩
  · have hr := run_append_owned_none (P := Try.prog) w B 22 ty 36 i0 2 Try.underlying22 hi0 v l.length (flatR cellsT l) hown
    exact ⟨v, w, hr, by rw [List.append_nil]; exact hown, ⟨rfl, rfl, rfl, Nat.le_refl _, fun _ _ _ => rfl⟩, .inl rfl⟩
  · have hr := run_append_own_at (P := Try.prog) w B 22 ty 36 i0 _ 2 32 Try.underlying22 hi0 hz0 hz1 hz2 rfl (by decide) v l.length (flatR cellsT l) hown A m.length cap (flatR cellsT m) (flatR_len flatT m) h3 (flatR_one flatT m) (by unfold maxLen; omega) (Nat.le_trans (Nat.mul_le_mul hnl (Nat.le_refl 32)) (by decide)) hbase
    obtain ⟨v', w', hr, a2, a3, _, a5⟩ := hr
    exact ⟨v', w', hr, by unfold OwnT OwnR; rw [List.length_append, flatR_add]; exact a2, a3, a5⟩
/-- .. at the operation. -/
theorem wp_append_ats {o : Oper} {a : Act} {K : Act → World → Prop} {Q0 : Exit → Act → World → Prop} {w : World} (s x : Operand)
    (ho : o.op = .call { callee := .builtin .append, args := #[s, x], argTypes := #[22, 22] })
    (B : Nat) (v : Value) (l : List Attr) (hs : a.eval s = v) (hown : OwnT w B v l) (vx : Value) (m : List Attr) (hx : a.eval x = vx) (he : AtsAt w vx m) (hnl : l.length + m.length ≤ 100000) (hbase : B ≤ w.heap.size)
    (h : ∀ v' w', OwnT w' B v' (l ++ m) → w.grownBy w' v.ownBlock → (v'.ownBlock = v.ownBlock ∨ v'.ownBlock = some w.heap.size) → K (a.put o.dst v') w') : Oper.wp Try.prog o a w K Q0 := by
  obtain ⟨v', w', hr, a2, a3, a4⟩ := run_append_ats_at o.type B v l hown vx m he hnl hbase
  unfold Oper.wp execOp
  simp only [ho, resolve, invoke, builtin, Sem.run_bind, Sem.run_pure, Result.andThen_ok, List.map_toArray, List.map_cons, List.map_nil, hs, hx, hr]
  exact h v' w' a2 a3 a4

/-- The operations: 0, 6 the rows' values; 1, 4 the attribute; 2, 5 the slices of one; 3, 7 the appends; 8, 9 the variables. -/
structure I12 (x : Attr) (la lb : List Attr) (w0 : World) (bx : Nat) (va vb : Value) (c : Nat → Bool) (u3 u4 u52 u53 u54 u55 u56 u57 u58 u59 : Value) (w : World) : Prop where
  q : Q w0 w
  x0 : w.cell? ⟨bx, 0, none⟩ = some (.string x.1)
  x1 : w.cell? ⟨bx, 1, none⟩ = some (.string x.2)
  l0 : c 0 = true → u52 = va
  l1 : c 1 = true → u53 = aggT x
  l4 : c 4 = true → u56 = aggT x
  l6 : c 6 = true → u58 = vb
  a0 : c 3 = false → OwnT w w0.heap.size va la
  a1 : c 3 = true → OwnT w w0.heap.size u55 (la ++ [x])
  b0 : c 7 = false → OwnT w w0.heap.size vb lb
  b1 : c 7 = true → OwnT w w0.heap.size u59 (x :: lb)
  k2 : c 2 = true → c 3 = false → OwnT w w0.heap.size u54 [x]
  k5 : c 5 = true → c 7 = false → OwnT w w0.heap.size u57 [x]
  ax : ∀ g, (bif c 3 then u55 else va).ownBlock = some g → g ≠ bx
  bb : ∀ g, (bif c 7 then u59 else vb).ownBlock = some g → g ≠ bx
  d7x : c 5 = true → c 7 = false → ∀ g, u57.ownBlock = some g → g ≠ bx
  dab : oDj (bif c 3 then u55 else va) (bif c 7 then u59 else vb)
  da7 : c 5 = true → c 7 = false → oDj (bif c 3 then u55 else va) u57
  d47 : c 2 = true → c 3 = false → c 5 = true → c 7 = false → oDj u57 u54
  o3 : c 3 = true → c 0 = true
  o7 : c 7 = true → c 6 = true
  o8 : c 8 = true → c 3 = true
  o9 : c 9 = true → c 7 = true
  s3 : c 8 = false → u3 = va
  s4 : c 9 = false → u4 = vb
  t3 : c 8 = true → u3 = u55
  t4 : c 9 = true → u4 = u59
/-! ### I12's steps -/
section
variable {x : Attr} {la lb : List Attr} {w0 : World} {bx : Nat} {va vb : Value} {c : Nat → Bool} {u3 u4 u52 u53 u54 u55 u56 u57 u58 u59 : Value} {w w' : World}
theorem I12.ownA (h : I12 x la lb w0 bx va vb c u3 u4 u52 u53 u54 u55 u56 u57 u58 u59 w) : OwnT w w0.heap.size (bif c 3 then u55 else va) (bif c 3 then la ++ [x] else la) := by
  cases hc : c 3 with
  | true => exact h.a1 hc
  | false => exact h.a0 hc
theorem I12.ownB (h : I12 x la lb w0 bx va vb c u3 u4 u52 u53 u54 u55 u56 u57 u58 u59 w) : OwnT w w0.heap.size (bif c 7 then u59 else vb) (bif c 7 then x :: lb else lb) := by
  cases hc : c 7 with
  | true => exact h.b1 hc
  | false => exact h.b0 hc
theorem I12.ltx (h : I12 x la lb w0 bx va vb c u3 u4 u52 u53 u54 u55 u56 u57 u58 u59 w) : bx < w.heap.size := World.block_lt_of_cell? w _ h.x0
theorem I12.start (hq : Q w0 w) (h0 : w.cell? ⟨bx, 0, none⟩ = some (.string x.1)) (h1 : w.cell? ⟨bx, 1, none⟩ = some (.string x.2)) (oa : OwnT w w0.heap.size va la) (ob : OwnT w w0.heap.size vb lb)
    (ha : ∀ g, va.ownBlock = some g → g ≠ bx) (hb : ∀ g, vb.ownBlock = some g → g ≠ bx) (hd : oDj va vb) : I12 x la lb w0 bx va vb (fun _ => false) va vb u52 u53 u54 u55 u56 u57 u58 u59 w :=
  ⟨hq, h0, h1, fun k => (by cases k), fun k => (by cases k), fun k => (by cases k), fun k => (by cases k), fun _ => oa, fun k => (by cases k), fun _ => ob, fun k => (by cases k), fun k => (by cases k), fun k => (by cases k), ha, hb, fun k => (by cases k), hd, fun k => (by cases k), fun k => (by cases k), fun k => (by cases k), fun k => (by cases k), fun k => (by cases k), fun k => (by cases k), fun _ => rfl, fun _ => rfl, fun k => (by cases k), fun k => (by cases k)⟩
theorem I12.grow (h : I12 x la lb w0 bx va vb c u3 u4 u52 u53 u54 u55 u56 u57 u58 u59 w) (q : Q w w') : I12 x la lb w0 bx va vb c u3 u4 u52 u53 u54 u55 u56 u57 u58 u59 w' :=
  ⟨h.q.trans q, q.cell h.x0, q.cell h.x1, h.l0, h.l1, h.l4, h.l6, fun k => OwnR.keep (h.a0 k) q, fun k => OwnR.keep (h.a1 k) q, fun k => OwnR.keep (h.b0 k) q, fun k => OwnR.keep (h.b1 k) q, fun k k' => OwnR.keep (h.k2 k k') q, fun k k' => OwnR.keep (h.k5 k k') q, h.ax, h.bb, h.d7x, h.dab, h.da7, h.d47, h.o3, h.o7, h.o8, h.o9, h.s3, h.s4, h.t3, h.t4⟩
theorem I12.add0 (h : I12 x la lb w0 bx va vb c u3 u4 u52 u53 u54 u55 u56 u57 u58 u59 w) : I12 x la lb w0 bx va vb (upon c 0) u3 u4 va u53 u54 u55 u56 u57 u58 u59 w := by
  have e3 : upon c 0 3 = c 3 := by simp [upon]
  have e7 : upon c 0 7 = c 7 := by simp [upon]
  exact ⟨h.q, h.x0, h.x1, fun _ => rfl, fun k => h.l1 (by simpa [upon] using k), fun k => h.l4 (by simpa [upon] using k), fun k => h.l6 (by simpa [upon] using k), fun k => h.a0 (by simpa [upon] using k), fun k => h.a1 (by simpa [upon] using k), fun k => h.b0 (by simpa [upon] using k), fun k => h.b1 (by simpa [upon] using k), fun k k' => h.k2 (by simpa [upon] using k) (by simpa [upon] using k'), fun k k' => h.k5 (by simpa [upon] using k) (by simpa [upon] using k'), by rw [e3]; exact h.ax, by rw [e7]; exact h.bb, fun k k' => h.d7x (by simpa [upon] using k) (by simpa [upon] using k'), by rw [e3, e7]; exact h.dab, fun k k' => by rw [e3]; exact h.da7 (by simpa [upon] using k) (by simpa [upon] using k'), fun k k' l l' => h.d47 (by simpa [upon] using k) (by simpa [upon] using k') (by simpa [upon] using l) (by simpa [upon] using l'), fun _ => by simp [upon], fun k => by have := h.o7 (by simpa [upon] using k); simpa [upon] using this, fun k => by have := h.o8 (by simpa [upon] using k); simpa [upon] using this, fun k => by have := h.o9 (by simpa [upon] using k); simpa [upon] using this, fun k => h.s3 (by simpa [upon] using k), fun k => h.s4 (by simpa [upon] using k), fun k => h.t3 (by simpa [upon] using k), fun k => h.t4 (by simpa [upon] using k)⟩
theorem I12.add1 (h : I12 x la lb w0 bx va vb c u3 u4 u52 u53 u54 u55 u56 u57 u58 u59 w) : I12 x la lb w0 bx va vb (upon c 1) u3 u4 u52 (aggT x) u54 u55 u56 u57 u58 u59 w := by
  have e3 : upon c 1 3 = c 3 := by simp [upon]
  have e7 : upon c 1 7 = c 7 := by simp [upon]
  exact ⟨h.q, h.x0, h.x1, fun k => h.l0 (by simpa [upon] using k), fun _ => rfl, fun k => h.l4 (by simpa [upon] using k), fun k => h.l6 (by simpa [upon] using k), fun k => h.a0 (by simpa [upon] using k), fun k => h.a1 (by simpa [upon] using k), fun k => h.b0 (by simpa [upon] using k), fun k => h.b1 (by simpa [upon] using k), fun k k' => h.k2 (by simpa [upon] using k) (by simpa [upon] using k'), fun k k' => h.k5 (by simpa [upon] using k) (by simpa [upon] using k'), by rw [e3]; exact h.ax, by rw [e7]; exact h.bb, fun k k' => h.d7x (by simpa [upon] using k) (by simpa [upon] using k'), by rw [e3, e7]; exact h.dab, fun k k' => by rw [e3]; exact h.da7 (by simpa [upon] using k) (by simpa [upon] using k'), fun k k' l l' => h.d47 (by simpa [upon] using k) (by simpa [upon] using k') (by simpa [upon] using l) (by simpa [upon] using l'), fun k => by have := h.o3 (by simpa [upon] using k); simpa [upon] using this, fun k => by have := h.o7 (by simpa [upon] using k); simpa [upon] using this, fun k => by have := h.o8 (by simpa [upon] using k); simpa [upon] using this, fun k => by have := h.o9 (by simpa [upon] using k); simpa [upon] using this, fun k => h.s3 (by simpa [upon] using k), fun k => h.s4 (by simpa [upon] using k), fun k => h.t3 (by simpa [upon] using k), fun k => h.t4 (by simpa [upon] using k)⟩
theorem I12.add4 (h : I12 x la lb w0 bx va vb c u3 u4 u52 u53 u54 u55 u56 u57 u58 u59 w) : I12 x la lb w0 bx va vb (upon c 4) u3 u4 u52 u53 u54 u55 (aggT x) u57 u58 u59 w := by
  have e3 : upon c 4 3 = c 3 := by simp [upon]
  have e7 : upon c 4 7 = c 7 := by simp [upon]
  exact ⟨h.q, h.x0, h.x1, fun k => h.l0 (by simpa [upon] using k), fun k => h.l1 (by simpa [upon] using k), fun _ => rfl, fun k => h.l6 (by simpa [upon] using k), fun k => h.a0 (by simpa [upon] using k), fun k => h.a1 (by simpa [upon] using k), fun k => h.b0 (by simpa [upon] using k), fun k => h.b1 (by simpa [upon] using k), fun k k' => h.k2 (by simpa [upon] using k) (by simpa [upon] using k'), fun k k' => h.k5 (by simpa [upon] using k) (by simpa [upon] using k'), by rw [e3]; exact h.ax, by rw [e7]; exact h.bb, fun k k' => h.d7x (by simpa [upon] using k) (by simpa [upon] using k'), by rw [e3, e7]; exact h.dab, fun k k' => by rw [e3]; exact h.da7 (by simpa [upon] using k) (by simpa [upon] using k'), fun k k' l l' => h.d47 (by simpa [upon] using k) (by simpa [upon] using k') (by simpa [upon] using l) (by simpa [upon] using l'), fun k => by have := h.o3 (by simpa [upon] using k); simpa [upon] using this, fun k => by have := h.o7 (by simpa [upon] using k); simpa [upon] using this, fun k => by have := h.o8 (by simpa [upon] using k); simpa [upon] using this, fun k => by have := h.o9 (by simpa [upon] using k); simpa [upon] using this, fun k => h.s3 (by simpa [upon] using k), fun k => h.s4 (by simpa [upon] using k), fun k => h.t3 (by simpa [upon] using k), fun k => h.t4 (by simpa [upon] using k)⟩
theorem I12.add6 (h : I12 x la lb w0 bx va vb c u3 u4 u52 u53 u54 u55 u56 u57 u58 u59 w) : I12 x la lb w0 bx va vb (upon c 6) u3 u4 u52 u53 u54 u55 u56 u57 vb u59 w := by
  have e3 : upon c 6 3 = c 3 := by simp [upon]
  have e7 : upon c 6 7 = c 7 := by simp [upon]
  exact ⟨h.q, h.x0, h.x1, fun k => h.l0 (by simpa [upon] using k), fun k => h.l1 (by simpa [upon] using k), fun k => h.l4 (by simpa [upon] using k), fun _ => rfl, fun k => h.a0 (by simpa [upon] using k), fun k => h.a1 (by simpa [upon] using k), fun k => h.b0 (by simpa [upon] using k), fun k => h.b1 (by simpa [upon] using k), fun k k' => h.k2 (by simpa [upon] using k) (by simpa [upon] using k'), fun k k' => h.k5 (by simpa [upon] using k) (by simpa [upon] using k'), by rw [e3]; exact h.ax, by rw [e7]; exact h.bb, fun k k' => h.d7x (by simpa [upon] using k) (by simpa [upon] using k'), by rw [e3, e7]; exact h.dab, fun k k' => by rw [e3]; exact h.da7 (by simpa [upon] using k) (by simpa [upon] using k'), fun k k' l l' => h.d47 (by simpa [upon] using k) (by simpa [upon] using k') (by simpa [upon] using l) (by simpa [upon] using l'), fun k => by have := h.o3 (by simpa [upon] using k); simpa [upon] using this, fun _ => by simp [upon], fun k => by have := h.o8 (by simpa [upon] using k); simpa [upon] using this, fun k => by have := h.o9 (by simpa [upon] using k); simpa [upon] using this, fun k => h.s3 (by simpa [upon] using k), fun k => h.s4 (by simpa [upon] using k), fun k => h.t3 (by simpa [upon] using k), fun k => h.t4 (by simpa [upon] using k)⟩
theorem I12.add2 (h : I12 x la lb w0 bx va vb c u3 u4 u52 u53 u54 u55 u56 u57 u58 u59 w) : I12 x la lb w0 bx va vb (upon c 2) u3 u4 u52 u53 (.slice (some ⟨w.heap.size, 0, none⟩) 1 1) u55 u56 u57 u58 u59 (w.alloc (.cells #[.string x.1, .string x.2] 36)) := by
  have e3 : upon c 2 3 = c 3 := by simp [upon]
  have e7 : upon c 2 7 = c 7 := by simp [upon]
  have g := h.grow ((Q.refl w).alloc (.cells #[.string x.1, .string x.2] 36))
  exact ⟨g.q, g.x0, g.x1, fun k => g.l0 (by simpa [upon] using k), fun k => g.l1 (by simpa [upon] using k), fun k => g.l4 (by simpa [upon] using k), fun k => g.l6 (by simpa [upon] using k), fun k => g.a0 (by simpa [upon] using k), fun k => g.a1 (by simpa [upon] using k), fun k => g.b0 (by simpa [upon] using k), fun k => g.b1 (by simpa [upon] using k), fun _ _ => own_one flatT _ w _ h.q.size x, fun k k' => g.k5 (by simpa [upon] using k) (by simpa [upon] using k'), by rw [e3]; exact g.ax, by rw [e7]; exact g.bb, fun k k' => g.d7x (by simpa [upon] using k) (by simpa [upon] using k'), by rw [e3, e7]; exact g.dab, fun k k' => by rw [e3]; exact g.da7 (by simpa [upon] using k) (by simpa [upon] using k'), fun _ _ l l' => fun g hg e => by cases e; exact absurd (OwnR.lt (h.k5 (by simpa [upon] using l) (by simpa [upon] using l')) _ hg).2 (Nat.lt_irrefl _), fun k => by have := g.o3 (by simpa [upon] using k); simpa [upon] using this, fun k => by have := g.o7 (by simpa [upon] using k); simpa [upon] using this, fun k => by have := g.o8 (by simpa [upon] using k); simpa [upon] using this, fun k => by have := g.o9 (by simpa [upon] using k); simpa [upon] using this, fun k => g.s3 (by simpa [upon] using k), fun k => g.s4 (by simpa [upon] using k), fun k => g.t3 (by simpa [upon] using k), fun k => g.t4 (by simpa [upon] using k)⟩
theorem I12.add5 (h : I12 x la lb w0 bx va vb c u3 u4 u52 u53 u54 u55 u56 u57 u58 u59 w) : I12 x la lb w0 bx va vb (upon c 5) u3 u4 u52 u53 u54 u55 u56 (.slice (some ⟨w.heap.size, 0, none⟩) 1 1) u58 u59 (w.alloc (.cells #[.string x.1, .string x.2] 36)) := by
  have e3 : upon c 5 3 = c 3 := by simp [upon]
  have e7 : upon c 5 7 = c 7 := by simp [upon]
  have g := h.grow ((Q.refl w).alloc (.cells #[.string x.1, .string x.2] 36))
  exact ⟨g.q, g.x0, g.x1, fun k => g.l0 (by simpa [upon] using k), fun k => g.l1 (by simpa [upon] using k), fun k => g.l4 (by simpa [upon] using k), fun k => g.l6 (by simpa [upon] using k), fun k => g.a0 (by simpa [upon] using k), fun k => g.a1 (by simpa [upon] using k), fun k => g.b0 (by simpa [upon] using k), fun k => g.b1 (by simpa [upon] using k), fun k k' => g.k2 (by simpa [upon] using k) (by simpa [upon] using k'), fun _ _ => own_one flatT _ w _ h.q.size x, by rw [e3]; exact g.ax, by rw [e7]; exact g.bb, fun _ _ g hg => by cases hg; exact Nat.ne_of_gt h.ltx, by rw [e3, e7]; exact g.dab, fun _ _ => by rw [e3]; exact fun g hg e => by cases e; exact absurd (OwnR.lt h.ownA _ hg).2 (Nat.lt_irrefl _), fun k k' _ _ => fun g hg e => by cases hg; exact absurd (OwnR.lt (h.k2 (by simpa [upon] using k) (by simpa [upon] using k')) _ e).2 (Nat.lt_irrefl _), fun k => by have := g.o3 (by simpa [upon] using k); simpa [upon] using this, fun k => by have := g.o7 (by simpa [upon] using k); simpa [upon] using this, fun k => by have := g.o8 (by simpa [upon] using k); simpa [upon] using this, fun k => by have := g.o9 (by simpa [upon] using k); simpa [upon] using this, fun k => g.s3 (by simpa [upon] using k), fun k => g.s4 (by simpa [upon] using k), fun k => g.t3 (by simpa [upon] using k), fun k => g.t4 (by simpa [upon] using k)⟩
theorem kept {v u : Value} {B : Nat} {l : List Attr} (o : OwnT w B u l) (hg : w.grownBy w' v.ownBlock) (d : oDj v u) : OwnT w' B u l := by
  refine World.ownsRow.kept o hg ?_
  by_cases e : u.ownBlock = none
  · exact .inl e
  · refine .inr fun e2 => ?_
    obtain ⟨g, hu⟩ := Option.ne_none_iff_exists'.1 e
    exact d g (e2.symm.trans hu) hu
theorem I12.add3 (h : I12 x la lb w0 bx va vb c u3 u4 u52 u53 u54 u55 u56 u57 u58 u59 w) (hc : c 3 = false) (c0 : c 0 = true) {v : Value} (o : OwnT w' w0.heap.size v (la ++ [x])) (hg : w.grownBy w' va.ownBlock) (hv : v.ownBlock = va.ownBlock ∨ v.ownBlock = some w.heap.size) : I12 x la lb w0 bx va vb (upon c 3) u3 u4 u52 u53 u54 v u56 u57 u58 u59 w' := by
  have n8 : ¬ c 8 = true := fun k => by rw [h.o8 k] at hc; cases hc
  have e3 : upon c 3 3 = true := by simp [upon]
  have e7 : upon c 3 7 = c 7 := by simp [upon]
  have ax := h.ax
  have dab := h.dab
  have da7 := h.da7
  have oA := h.ownA
  rw [hc] at ax dab da7 oA
  simp only [cond_false] at ax dab da7 oA
  have q : Q w0 w' := Below.grown h.q hg h.q.size fun g hg => (OwnR.lt oA g hg).1
  have hx0 := hg.cell h.x0 (fun e => ax bx e.symm rfl)
  have hx1 := hg.cell h.x1 (fun e => ax bx e.symm rfl)
  have hax : ∀ g, v.ownBlock = some g → g ≠ bx := by
    intro g hg'
    rcases hv with e | e
    · exact ax g (e ▸ hg')
    · rw [e] at hg'
      cases hg'
      exact Nat.ne_of_gt h.ltx
  have far : ∀ {u : Value} {B : Nat} {l : List Attr}, OwnT w B u l → oDj va u → oDj v u := fun {u B l} ou d g hg' => by
    rcases hv with e | e
    · exact d g (e ▸ hg')
    · rw [e] at hg'
      cases hg'
      exact fun e2 => absurd (OwnR.lt ou _ e2).2 (Nat.lt_irrefl _)
  exact ⟨q, hx0, hx1, fun k => h.l0 (by simpa [upon] using k), fun k => h.l1 (by simpa [upon] using k), fun k => h.l4 (by simpa [upon] using k), fun k => h.l6 (by simpa [upon] using k), fun k => absurd k (by simp [upon]), fun _ => o, fun k => kept (h.b0 (by simpa [upon] using k)) hg (by have := dab; rw [show c 7 = false from (by simpa [upon] using k)] at this; exact this), fun k => kept (h.b1 (by simpa [upon] using k)) hg (by have := dab; rw [show c 7 = true from (by simpa [upon] using k)] at this; exact this), fun _ k => absurd k (by simp [upon]), fun k k' => kept (h.k5 (by simpa [upon] using k) (by simpa [upon] using k')) hg (da7 (by simpa [upon] using k) (by simpa [upon] using k')), by rw [e3]; exact hax, by rw [e7]; exact h.bb, fun k k' => h.d7x (by simpa [upon] using k) (by simpa [upon] using k'), by rw [e3, e7]; exact far h.ownB dab, fun k k' => by rw [e3]; exact far (h.k5 (by simpa [upon] using k) (by simpa [upon] using k')) (da7 (by simpa [upon] using k) (by simpa [upon] using k')), fun _ k => absurd k (by simp [upon]), fun _ => by simp [upon, c0], fun k => by have := h.o7 (by simpa [upon] using k); simpa [upon] using this, fun _ => by simp [upon], fun k => by have := h.o9 (by simpa [upon] using k); simpa [upon] using this, fun k => h.s3 (by simpa [upon] using k), fun k => h.s4 (by simpa [upon] using k), fun k => absurd (by simpa [upon] using k) n8, fun k => h.t4 (by simpa [upon] using k)⟩
theorem I12.add7 (h : I12 x la lb w0 bx va vb c u3 u4 u52 u53 u54 u55 u56 u57 u58 u59 w) (hc : c 7 = false) (c5 : c 5 = true) (c6 : c 6 = true) {v : Value} (o : OwnT w' w0.heap.size v (x :: lb)) (hg : w.grownBy w' u57.ownBlock) (hv : v.ownBlock = u57.ownBlock ∨ v.ownBlock = some w.heap.size) : I12 x la lb w0 bx va vb (upon c 7) u3 u4 u52 u53 u54 u55 u56 u57 u58 v w' := by
  have n9 : ¬ c 9 = true := fun k => by rw [h.o9 k] at hc; cases hc
  have e7 : upon c 7 7 = true := by simp [upon]
  have e3 : upon c 7 3 = c 3 := by simp [upon]
  have d7x := h.d7x c5 hc
  have da7 := h.da7 c5 hc
  have o7 := h.k5 c5 hc
  have d47 : c 2 = true → c 3 = false → oDj u57 u54 := fun k k' => h.d47 k k' c5 hc
  have q : Q w0 w' := Below.grown h.q hg h.q.size fun g hg => (OwnR.lt o7 g hg).1
  have hx0 := hg.cell h.x0 (fun e => d7x bx e.symm rfl)
  have hx1 := hg.cell h.x1 (fun e => d7x bx e.symm rfl)
  have hbx : ∀ g, v.ownBlock = some g → g ≠ bx := by
    intro g hg'
    rcases hv with e | e
    · exact d7x g (e ▸ hg')
    · rw [e] at hg'
      cases hg'
      exact Nat.ne_of_gt h.ltx
  have hab : oDj (bif c 3 then u55 else va) v := by
    intro g hA hB
    rcases hv with e | e
    · exact da7 g hA (e ▸ hB)
    · rw [e] at hB
      cases hB
      exact absurd (OwnR.lt h.ownA _ hA).2 (Nat.lt_irrefl _)
  exact ⟨q, hx0, hx1, fun k => h.l0 (by simpa [upon] using k), fun k => h.l1 (by simpa [upon] using k), fun k => h.l4 (by simpa [upon] using k), fun k => h.l6 (by simpa [upon] using k), fun k => kept (h.a0 (by simpa [upon] using k)) hg (by have := da7.symm; rw [show c 3 = false from (by simpa [upon] using k)] at this; exact this), fun k => kept (h.a1 (by simpa [upon] using k)) hg (by have := da7.symm; rw [show c 3 = true from (by simpa [upon] using k)] at this; exact this), fun k => absurd k (by simp [upon]), fun _ => o, fun k k' => kept (h.k2 (by simpa [upon] using k) (by simpa [upon] using k')) hg (d47 (by simpa [upon] using k) (by simpa [upon] using k')), fun _ k => absurd k (by simp [upon]), by rw [e3]; exact h.ax, by rw [e7]; exact hbx, fun _ k => absurd k (by simp [upon]), by rw [e3, e7]; exact hab, fun _ k => absurd k (by simp [upon]), fun _ _ _ k => absurd k (by simp [upon]), fun k => by have := h.o3 (by simpa [upon] using k); simpa [upon] using this, fun _ => by simp [upon, c6], fun k => by have := h.o8 (by simpa [upon] using k); simpa [upon] using this, fun _ => by simp [upon], fun k => h.s3 (by simpa [upon] using k), fun k => h.s4 (by simpa [upon] using k), fun k => h.t3 (by simpa [upon] using k), fun k => absurd (by simpa [upon] using k) n9⟩
theorem I12.add8 (h : I12 x la lb w0 bx va vb c u3 u4 u52 u53 u54 u55 u56 u57 u58 u59 w) (c3 : c 3 = true) : I12 x la lb w0 bx va vb (upon c 8) u55 u4 u52 u53 u54 u55 u56 u57 u58 u59 w := by
  have e3 : upon c 8 3 = c 3 := by simp [upon]
  have e7 : upon c 8 7 = c 7 := by simp [upon]
  exact ⟨h.q, h.x0, h.x1, fun k => h.l0 (by simpa [upon] using k), fun k => h.l1 (by simpa [upon] using k), fun k => h.l4 (by simpa [upon] using k), fun k => h.l6 (by simpa [upon] using k), fun k => h.a0 (by simpa [upon] using k), fun k => h.a1 (by simpa [upon] using k), fun k => h.b0 (by simpa [upon] using k), fun k => h.b1 (by simpa [upon] using k), fun k k' => h.k2 (by simpa [upon] using k) (by simpa [upon] using k'), fun k k' => h.k5 (by simpa [upon] using k) (by simpa [upon] using k'), by rw [e3]; exact h.ax, by rw [e7]; exact h.bb, fun k k' => h.d7x (by simpa [upon] using k) (by simpa [upon] using k'), by rw [e3, e7]; exact h.dab, fun k k' => by rw [e3]; exact h.da7 (by simpa [upon] using k) (by simpa [upon] using k'), fun k k' l l' => h.d47 (by simpa [upon] using k) (by simpa [upon] using k') (by simpa [upon] using l) (by simpa [upon] using l'), fun k => by have := h.o3 (by simpa [upon] using k); simpa [upon] using this, fun k => by have := h.o7 (by simpa [upon] using k); simpa [upon] using this, fun _ => by simp [upon, c3], fun k => by have := h.o9 (by simpa [upon] using k); simpa [upon] using this, fun k => absurd k (by simp [upon]), fun k => h.s4 (by simpa [upon] using k), fun _ => rfl, fun k => h.t4 (by simpa [upon] using k)⟩
theorem I12.add9 (h : I12 x la lb w0 bx va vb c u3 u4 u52 u53 u54 u55 u56 u57 u58 u59 w) (c7 : c 7 = true) : I12 x la lb w0 bx va vb (upon c 9) u3 u59 u52 u53 u54 u55 u56 u57 u58 u59 w := by
  have e3 : upon c 9 3 = c 3 := by simp [upon]
  have e7 : upon c 9 7 = c 7 := by simp [upon]
  exact ⟨h.q, h.x0, h.x1, fun k => h.l0 (by simpa [upon] using k), fun k => h.l1 (by simpa [upon] using k), fun k => h.l4 (by simpa [upon] using k), fun k => h.l6 (by simpa [upon] using k), fun k => h.a0 (by simpa [upon] using k), fun k => h.a1 (by simpa [upon] using k), fun k => h.b0 (by simpa [upon] using k), fun k => h.b1 (by simpa [upon] using k), fun k k' => h.k2 (by simpa [upon] using k) (by simpa [upon] using k'), fun k k' => h.k5 (by simpa [upon] using k) (by simpa [upon] using k'), by rw [e3]; exact h.ax, by rw [e7]; exact h.bb, fun k k' => h.d7x (by simpa [upon] using k) (by simpa [upon] using k'), by rw [e3, e7]; exact h.dab, fun k k' => by rw [e3]; exact h.da7 (by simpa [upon] using k) (by simpa [upon] using k'), fun k k' l l' => h.d47 (by simpa [upon] using k) (by simpa [upon] using k') (by simpa [upon] using l) (by simpa [upon] using l'), fun k => by have := h.o3 (by simpa [upon] using k); simpa [upon] using this, fun k => by have := h.o7 (by simpa [upon] using k); simpa [upon] using this, fun k => by have := h.o8 (by simpa [upon] using k); simpa [upon] using this, fun _ => by simp [upon, c7], fun k => h.s3 (by simpa [upon] using k), fun k => absurd k (by simp [upon]), fun k => h.t3 (by simpa [upon] using k), fun _ => rfl⟩
end
end Go.Proofs.Ytidpcoolfomgjaa
