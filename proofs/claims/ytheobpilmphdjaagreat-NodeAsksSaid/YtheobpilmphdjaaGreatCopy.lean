/-
  The contract of meta.Copy: equal metadata, in memory of its own.
-/
import Derived.Test.YtheobpilmphdjaaGreatDiff
namespace Go.Proofs.YtheobpilmphdjaaGreat
open Go.RowKit

/-! ### Entries as a flat row -/
def cells3 (x : Ace) : List Value := [.int .i64 x.1, .int .i64 x.2.1, .int .i64 x.2.2]
theorem flat3 : Flat cells3 3 where
  len _ := rfl
  one x u hu := by
    simp only [cells3, List.mem_cons, List.not_mem_nil, or_false] at hu
    rcases hu with rfl | rfl | rfl <;> rfl
  pos := by decide
abbrev OwnA (w : World) (B : Nat) (v : Value) (l : List Ace) : Prop := OwnR 87 cells3 3 w B v l
theorem AcesAt.row {w : World} {v : Value} {l : List Ace} (h : AcesAt w v l) : RowAt cells3 3 w v l := by
  rcases h with h | ⟨g, o, cap, e, h1, h2, h3⟩
  · exact .inl h
  · refine .inr ⟨g, o, cap, e, h1, h2, fun i hi c u hu => ?_⟩
    obtain ⟨c0, c1, c2⟩ := h3 i hi
    match c, hu with
    | 0, hu => cases hu; exact c0
    | 1, hu => cases hu; exact c1
    | 2, hu => cases hu; exact c2
theorem RowAt.aces {w : World} {v : Value} {l : List Ace} (h : RowAt cells3 3 w v l) : AcesAt w v l := by
  rcases h with h | ⟨g, o, cap, e, h1, h2, h3⟩
  · exact .inl h
  · exact .inr ⟨g, o, cap, e, h1, h2, fun i hi => ⟨by simpa using h3 i hi 0 _ rfl, h3 i hi 1 _ rfl, h3 i hi 2 _ rfl⟩⟩
theorem info_ace : (Tryz.prog.info? 87).map (fun i => (i.zero, i.size, i.bytes)) = some (some (.agg #[.int .i64 0, .int .i64 0, .int .i64 0]), 3, 24) := by kernel_rfl
theorem run_append_aces {w : World} (ty : TypeId) (B : Nat) (v : Value) (l : List Ace) (hown : OwnA w B v l) (vx : Value) (m : List Ace) (he : AcesAt w vx m) (hnl : l.length + m.length ≤ 100000) (hbase : B ≤ w.heap.size) :
    ∃ v' w', (Builtin.append_ #[23, 23] ty #[v, vx]).run Tryz.prog w = .ok v' w' ∧ OwnA w' B v' (l ++ m) ∧ w.grownBy w' v.ownBlock ∧ (v' = .slice none 0 0 → l ++ m = []) := by
  obtain ⟨i0, hi0, hz0, hz1, hz2⟩ := info_parts info_ace
  exact run_append_row flat3 Tryz.underlying23 hi0 hz0 hz1 hz2 rfl (by decide) ty B v l hown vx m he.row hnl hbase
/-- .. at an operation that is wanted. -/
theorem wpList_append_aces {ops : Array Oper} {rest : List Oper} {o : Oper} {a : Act} {Q0 : Exit → Act → World → Prop} {w : World} (hw : Region.wanted o (yielded ops a.tmps) = true) (s x : Operand)
    (ho : o.op = .call { callee := .builtin .append, args := #[s, x], argTypes := #[23, 23] })
    (B : Nat) (v : Value) (l : List Ace) (hs : a.eval s = v) (hown : OwnA w B v l) (vx : Value) (m : List Ace) (hx : a.eval x = vx) (he : AcesAt w vx m) (hnl : l.length + m.length ≤ 100000) (hbase : B ≤ w.heap.size)
    (h : ∀ v' w', OwnA w' B v' (l ++ m) → w.grownBy w' v.ownBlock → (v' = .slice none 0 0 → l ++ m = []) → wpList Tryz.prog ops Q0 rest (a.put o.dst v') w') : wpList Tryz.prog ops Q0 (o :: rest) a w := by
  obtain ⟨v', w', hr, a2, a3, a4⟩ := run_append_aces o.type B v l hown vx m he hnl hbase
  refine wpList_step fun K hK => ?_
  rw [if_pos hw]
  unfold Oper.wp execOp
  simp only [ho, resolve, invoke, builtin, Sem.run_bind, Sem.run_pure, Result.andThen_ok, List.map_toArray, List.map_cons, List.map_nil, hs, hx, hr]
  exact hK _ _ (h v' w' a2 a3 a4)

/-! ### A row of its own is untouched by what happens in other blocks -/
theorem OwnR.other {α : Type} {cs : α → List Value} {k : Nat} {E : TypeId} {w w' : World} {B : Nat} {v : Value} {l : List α} (h : OwnR E cs k w B v l) (q : ∀ g, v.ownBlock = some g → w'.heap[g]? = w.heap[g]?) : OwnR E cs k w' B v l := by
  obtain ⟨hl, h0 | ⟨g, cap, cur, rfl, hb, hh, r⟩⟩ := h
  · exact ⟨hl, .inl h0⟩
  · exact ⟨hl, .inr ⟨g, cap, cur, rfl, hb, (q g rfl).trans hh, r⟩⟩
theorem heap_setCell_far (w : World) (p : Addr) (u : Value) {g : Nat} (hne : g ≠ p.block) : (w.setCell p u).heap[g]? = w.heap[g]? := by
  unfold World.setCell
  simp [Array.getElem?_modify, Ne.symm hne]
theorem OwnR.setCell {α : Type} {cs : α → List Value} {k : Nat} {E : TypeId} {w : World} {B : Nat} {v : Value} {l : List α} (h : OwnR E cs k w B v l) (p : Addr) (u : Value) (hp : p.block < B) : OwnR E cs k (w.setCell p u) B v l := by
  refine h.other fun g hg => ?_
  have h1 := h.lt g hg
  exact heap_setCell_far w p u (by omega)

/-- A block of six cells. -/
def Box (w : World) (g : Nat) (cs : Array Value) : Prop := w.heap[g]? = some (.cells cs 25 (0, 0))
theorem Box.cells {w : World} {g : Nat} {c0 c1 c2 c3 c4 c5 : Value} (h : Box w g #[c0, c1, c2, c3, c4, c5]) :
    w.cell? ⟨g, 0, none⟩ = some c0 ∧ w.cell? ⟨g, 1, none⟩ = some c1 ∧ w.cell? ⟨g, 2, none⟩ = some c2 ∧ w.cell? ⟨g, 3, none⟩ = some c3 ∧ w.cell? ⟨g, 4, none⟩ = some c4 ∧ w.cell? ⟨g, 5, none⟩ = some c5 := by
  unfold Box at h
  simp [World.cell?, h]
theorem Box.soft {w : World} {g : Nat} {cs : Array Value} (h : Box w g cs) (o : Nat) : w.frozen? ⟨g, o, none⟩ = false := by
  unfold Box at h
  simp [World.frozen?, h]
theorem Box.lt {w : World} {g : Nat} {cs : Array Value} (h : Box w g cs) : g < w.heap.size := by
  rcases Nat.lt_or_ge g w.heap.size with h' | h'
  · exact h'
  · unfold Box at h; rw [Array.getElem?_eq_none h'] at h; cases h
theorem Box.set {w : World} {g : Nat} {cs : Array Value} (h : Box w g cs) (i : Nat) (u : Value) : Box (w.setCell ⟨g, i, none⟩ u) g (cs.setIfInBounds i u) := by
  unfold Box World.setCell at *
  simp [Array.getElem?_modify, h]
theorem Box.other {w w' : World} {g : Nat} {cs : Array Value} (h : Box w g cs) (q : w'.heap[g]? = w.heap[g]?) : Box w' g cs := q.trans h
theorem Box.keep {w w' : World} {g : Nat} {cs : Array Value} (h : Box w g cs) (q : Q w w') : Box w' g cs := h.other (q.block g h.lt)
theorem Box.new (w : World) (cs : Array Value) : Box (w.alloc (.cells cs 25)) w.heap.size cs := by
  show (w.heap.push _)[w.heap.size]? = _
  simp

/-- What Copy makes: metadata whose rows are the call's own. -/
def OwnM (w : World) (B : Nat) (v : Value) (m : Mt) : Prop := ∃ va vl, v = metaV m va vl ∧ OwnT w B va m.attrs ∧ OwnA w B vl m.acl
theorem OwnM.at_ {w : World} {B : Nat} {v : Value} {m : Mt} (h : OwnM w B v m) : MetaAt w v m := by
  obtain ⟨va, vl, e, h1, h2⟩ := h
  exact ⟨va, vl, e, h1.row flatT, (h2.row flat3).aces⟩

set_option maxRecDepth 100000 in
set_option maxHeartbeats 4000000 in
theorem copy_any (v : Value) (m : Mt) (w : World) (h : MetaAt w v m) (h1 : m.attrs.length ≤ 10000) (h2 : m.acl.length ≤ 10000) :
    Calls Tryz.prog 48 #[v] w fun e w' => ∃ v', e = .returned v' ∧ OwnM w' w.heap.size v' m ∧ Q w w' := by
  obtain ⟨va, vl, rfl, ha, hl⟩ := h
  obtain ⟨mode, uid, gid, time, attrs, acl⟩ := m
  unfold metaV
  simp only at ha hl h1 h2 ⊢
  go_enter Tryz.func48, Tryz.ntmps48
  have hw := (((Q.refl w).alloc (.cells #[.int .i64 mode, .int .i64 uid, .int .i64 gid, .int .i64 time, va, vl] 25)).alloc (.cells #[.int .i64 0, .int .i64 0, .int .i64 0, .int .i64 0, .slice none 0 0, .slice none 0 0] 25))
  have x1 := (Box.new w #[.int .i64 mode, .int .i64 uid, .int .i64 gid, .int .i64 time, va, vl]).keep ((Q.refl _).alloc (.cells #[.int .i64 0, .int .i64 0, .int .i64 0, .int .i64 0, .slice none 0 0, .slice none 0 0] 25))
  have y1 := Box.new (w.alloc (.cells #[.int .i64 mode, .int .i64 uid, .int .i64 gid, .int .i64 time, va, vl] 25)) #[.int .i64 0, .int .i64 0, .int .i64 0, .int .i64 0, .slice none 0 0, .slice none 0 0]
  rw [World.size_alloc] at y1
  go_wp2_with (at_builtin; refine wpList_append_ats rfl (.const (.slice none 0 0)) (.tmp 4) rfl (w.heap.size + 2) _ [] rfl (OwnR.nil_ _ _ _) va attrs rfl (ha.keep hw) (by simp; omega) (by simp) ?_)
  intro v2 w2 hown2 hg2 _
  replace hown2 : OwnT w2 (w.heap.size + 2) v2 attrs := hown2
  obtain ⟨A2, n2, hv2⟩ := hown2.form flatT
  subst hv2
  have q2 : Q w w2 := Below.grown hw hg2 hw.size fun g hg => by cases hg
  have p2 := Below.grown (Q.refl _) hg2 (Nat.le_refl _) fun g hg => by cases hg
  replace x1 := x1.keep p2
  replace y1 := y1.keep p2
  have s2 := p2.size
  rw [World.size_alloc, World.size_alloc] at s2
  clear hg2 p2 hw
  have x2 := x1.set 4 (.slice A2 attrs.length n2)
  have y2 : Box (w2.setCell ⟨w.heap.size, 4, none⟩ (.slice A2 attrs.length n2)) (w.heap.size + 1) _ := y1.other (heap_setCell_far _ _ _ (by simp))
  have o2 : OwnT (w2.setCell ⟨w.heap.size, 4, none⟩ (.slice A2 attrs.length n2)) (w.heap.size + 2) (.slice A2 attrs.length n2) attrs := OwnR.setCell hown2 ⟨w.heap.size, 4, none⟩ (.slice A2 attrs.length n2) (by simp)
  replace q2 : Q w (w2.setCell ⟨w.heap.size, 4, none⟩ (.slice A2 attrs.length n2)) := Below.setCell q2 (p := ⟨w.heap.size, 4, none⟩) (Nat.le_refl _) (.slice A2 attrs.length n2)
  have s3 : w.heap.size + 2 ≤ (w2.setCell ⟨w.heap.size, 4, none⟩ (.slice A2 attrs.length n2)).heap.size := by rw [World.size_setCell]; omega
  simp only [List.setIfInBounds_toArray, List.set_cons_succ, List.set_cons_zero] at x2
  have f1 := x1.soft 4
  obtain ⟨-, -, -, -, e4, e5⟩ := x1.cells
  obtain ⟨-, -, -, -, -, k5⟩ := x2.cells
  have g1 := x2.soft
  clear x1 y1 hown2
  go_wp2_with (at_builtin; refine wpList_append_aces rfl (.const (.slice none 0 0)) (.tmp 8) rfl (w.heap.size + 2) _ [] rfl (OwnR.nil_ _ _ _) vl acl rfl (hl.keep q2) (by simp; omega) s3 ?_)
  intro v3 w3 hown3 hg3 _
  replace hown3 : OwnA w3 (w.heap.size + 2) v3 acl := hown3
  obtain ⟨A3, n3, hv3⟩ := hown3.form flat3
  subst hv3
  have q3 : Q w w3 := Below.grown q2 hg3 q2.size fun g hg => by cases hg
  have p3 := Below.grown (Q.refl _) hg3 (Nat.le_refl _) fun g hg => by cases hg
  replace x2 := x2.keep p3
  replace y2 := y2.keep p3
  replace o2 := o2.keep p3
  have s3' := Nat.le_trans s3 p3.size
  clear hg3 p3 q2 e4 e5 k5 g1 f1
  have x3 := x2.set 5 (.slice A3 acl.length n3)
  have y3 : Box (w3.setCell ⟨w.heap.size, 5, none⟩ (.slice A3 acl.length n3)) (w.heap.size + 1) _ := y2.other (heap_setCell_far _ _ _ (by simp))
  have o3 : OwnT (w3.setCell ⟨w.heap.size, 5, none⟩ (.slice A3 acl.length n3)) (w.heap.size + 2) (.slice A2 attrs.length n2) attrs := OwnR.setCell o2 ⟨w.heap.size, 5, none⟩ (.slice A3 acl.length n3) (by simp)
  have l3 : OwnA (w3.setCell ⟨w.heap.size, 5, none⟩ (.slice A3 acl.length n3)) (w.heap.size + 2) (.slice A3 acl.length n3) acl := OwnR.setCell hown3 ⟨w.heap.size, 5, none⟩ (.slice A3 acl.length n3) (by simp)
  replace q3 : Q w (w3.setCell ⟨w.heap.size, 5, none⟩ (.slice A3 acl.length n3)) := Below.setCell q3 (p := ⟨w.heap.size, 5, none⟩) (Nat.le_refl _) (.slice A3 acl.length n3)
  simp only [List.setIfInBounds_toArray, List.set_cons_succ, List.set_cons_zero] at x3
  obtain ⟨-, -, -, -, -, e5⟩ := x2.cells
  have f2 := x2.soft 5
  obtain ⟨k0, k1, k2, k3, k4, k5⟩ := x3.cells
  obtain ⟨m0, m1, m2, m3, m4, m5⟩ := y3.cells
  have g1 := x3.soft
  have g2 := y3.soft
  clear x2 y2 o2 hown3
  go_wp2_with fail
  generalize w3.setCell ⟨w.heap.size, 5, none⟩ (.slice A3 acl.length n3) = w4 at *
  have y4 := ((((((y3.set 0 (.int .i64 mode)).set 1 (.int .i64 uid)).set 2 (.int .i64 gid)).set 3 (.int .i64 time)).set 4 (.slice A2 attrs.length n2)).set 5 (.slice A3 acl.length n3))
  simp only [List.setIfInBounds_toArray, List.set_cons_succ, List.set_cons_zero] at y4
  have hset : ∀ (a : World) (i : Nat) (u : Value), Q w a → Q w (a.setCell ⟨w.heap.size + 1, i, none⟩ u) := fun a i u h => Below.setCell h (p := ⟨w.heap.size + 1, i, none⟩) (Nat.le_succ _) u
  have q4 := hset _ 5 (.slice A3 acl.length n3) (hset _ 4 (.slice A2 attrs.length n2) (hset _ 3 (.int .i64 time) (hset _ 2 (.int .i64 gid) (hset _ 1 (.int .i64 uid) (hset _ 0 (.int .i64 mode) q3)))))
  have hT : ∀ (a : World) (i : Nat) (u : Value), OwnT a (w.heap.size + 2) (.slice A2 attrs.length n2) attrs → OwnT (a.setCell ⟨w.heap.size + 1, i, none⟩ u) (w.heap.size + 2) (.slice A2 attrs.length n2) attrs := fun a i u h => OwnR.setCell h ⟨w.heap.size + 1, i, none⟩ u (by simp)
  have hL : ∀ (a : World) (i : Nat) (u : Value), OwnA a (w.heap.size + 2) (.slice A3 acl.length n3) acl → OwnA (a.setCell ⟨w.heap.size + 1, i, none⟩ u) (w.heap.size + 2) (.slice A3 acl.length n3) acl := fun a i u h => OwnR.setCell h ⟨w.heap.size + 1, i, none⟩ u (by simp)
  have o4 := hT _ 5 (.slice A3 acl.length n3) (hT _ 4 (.slice A2 attrs.length n2) (hT _ 3 (.int .i64 time) (hT _ 2 (.int .i64 gid) (hT _ 1 (.int .i64 uid) (hT _ 0 (.int .i64 mode) o3)))))
  have l4 := hL _ 5 (.slice A3 acl.length n3) (hL _ 4 (.slice A2 attrs.length n2) (hL _ 3 (.int .i64 time) (hL _ 2 (.int .i64 gid) (hL _ 1 (.int .i64 uid) (hL _ 0 (.int .i64 mode) l3)))))
  clear k0 k1 k2 k3 k4 k5 m0 m1 m2 m3 m4 m5 g1 g2 x3 y3 o3 l3 hset hT hL e5 f2
  generalize ((((((w4.setCell ⟨w.heap.size + 1, 0, none⟩ (.int .i64 mode)).setCell ⟨w.heap.size + 1, 1, none⟩ (.int .i64 uid)).setCell ⟨w.heap.size + 1, 2, none⟩ (.int .i64 gid)).setCell ⟨w.heap.size + 1, 3, none⟩ (.int .i64 time)).setCell ⟨w.heap.size + 1, 4, none⟩ (.slice A2 attrs.length n2)).setCell ⟨w.heap.size + 1, 5, none⟩ (.slice A3 acl.length n3)) = w5 at *
  obtain ⟨k0, k1, k2, k3, k4, k5⟩ := y4.cells
  refine bodyPost_ret (v := .agg #[.int .i64 mode, .int .i64 uid, .int .i64 gid, .int .i64 time, .slice A2 attrs.length n2, .slice A3 acl.length n3]) (by simp [results, Tryz.results48, go_sem, k0, k1, k2, k3, k4, k5]) rfl ?_
  exact ⟨_, rfl, ⟨_, _, rfl, o4.mono (by omega), l4.mono (by omega)⟩, q4⟩
end Go.Proofs.YtheobpilmphdjaaGreat
