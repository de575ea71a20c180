/-
  append to rows of strings, numbers, entries and nodes, met in a region that draws its order; blocks by their types. The contract of tree.number.
-/
import Derived.Test.YtgbenepapajieaaGreatTEqual
namespace Go.Proofs.YtgbenepapajieaaGreat.Tr
open Go.RowKit
open Go.Proofs.YtgbenepapajieaaGreat.Nd (Nd mayN sumP nodeV NodeAt PcsAt OwnP)

theorem step_append_str {ops : Array Oper} {o : Oper} {a : Act} {w : World} {K : Act → World → Prop} {Q0 : Exit → Act → World → Prop} {E : Prop} (hgd : o.guard = none) (s x : Operand)
    (ho : o.op = .call { callee := .builtin .append, args := #[s, x], argTypes := #[26, 26] })
    (B : Nat) (v : Value) (l : List ByteArray) (hs : a.eval s = v) (hown : OwnS w B v l) (vx : Value) (m : List ByteArray) (hx : a.eval x = vx) (he : RowAt cellsS 1 w vx m) (hnl : l.length + m.length ≤ 100000) (hbase : B ≤ w.heap.size)
    (h : ∀ v' w', OwnS w' B v' (l ++ m) → w.grownBy w' v.ownBlock → K (a.put o.dst v') w') :
    if Region.wanted o (yielded ops a.tmps) = true then Oper.wp Tryz.prog o a w K Q0 else E := by
  have hw : Region.wanted o (yielded ops a.tmps) = true := by simp [Region.wanted, hgd]
  rw [if_pos hw]
  obtain ⟨v', w', hr, a2, a3, _⟩ := run_append_str o.type B v l hown vx m he hnl hbase
  unfold Oper.wp execOp
  simp only [ho, resolve, invoke, builtin, Sem.run_bind, Sem.run_pure, Result.andThen_ok, List.map_toArray, List.map_cons, List.map_nil, hs, hx, hr]
  exact h v' w' a2 a3
theorem step_append_int {ops : Array Oper} {o : Oper} {a : Act} {w : World} {K : Act → World → Prop} {Q0 : Exit → Act → World → Prop} {E : Prop} (hgd : o.guard = none) (s x : Operand)
    (ho : o.op = .call { callee := .builtin .append, args := #[s, x], argTypes := #[39, 39] })
    (B : Nat) (v : Value) (l : List Int) (hs : a.eval s = v) (hown : OwnI w B v l) (vx : Value) (m : List Int) (hx : a.eval x = vx) (he : RowAt cellsI 1 w vx m) (hnl : l.length + m.length ≤ 100000) (hbase : B ≤ w.heap.size)
    (h : ∀ v' w', OwnI w' B v' (l ++ m) → w.grownBy w' v.ownBlock → K (a.put o.dst v') w') :
    if Region.wanted o (yielded ops a.tmps) = true then Oper.wp Tryz.prog o a w K Q0 else E := by
  have hw : Region.wanted o (yielded ops a.tmps) = true := by simp [Region.wanted, hgd]
  rw [if_pos hw]
  obtain ⟨v', w', hr, a2, a3, _⟩ := run_append_int o.type B v l hown vx m he hnl hbase
  unfold Oper.wp execOp
  simp only [ho, resolve, invoke, builtin, Sem.run_bind, Sem.run_pure, Result.andThen_ok, List.map_toArray, List.map_cons, List.map_nil, hs, hx, hr]
  exact h v' w' a2 a3
theorem step_append_ent {ops : Array Oper} {o : Oper} {a : Act} {w : World} {K : Act → World → Prop} {Q0 : Exit → Act → World → Prop} {E : Prop} (hgd : o.guard = none) (s x : Operand)
    (ho : o.op = .call { callee := .builtin .append, args := #[s, x], argTypes := #[22, 22] })
    (B : Nat) (v : Value) (l : List Ent) (hs : a.eval s = v) (hown : OwnE w B v l) (vx : Value) (m : List Ent) (hx : a.eval x = vx) (he : RowAt cellsE 2 w vx m) (hnl : l.length + m.length ≤ 100000) (hbase : B ≤ w.heap.size)
    (h : ∀ v' w', OwnE w' B v' (l ++ m) → w.grownBy w' v.ownBlock → K (a.put o.dst v') w') :
    if Region.wanted o (yielded ops a.tmps) = true then Oper.wp Tryz.prog o a w K Q0 else E := by
  have hw : Region.wanted o (yielded ops a.tmps) = true := by simp [Region.wanted, hgd]
  rw [if_pos hw]
  obtain ⟨v', w', hr, a2, a3, _⟩ := run_append_ent o.type B v l hown vx m he hnl hbase
  unfold Oper.wp execOp
  simp only [ho, resolve, invoke, builtin, Sem.run_bind, Sem.run_pure, Result.andThen_ok, List.map_toArray, List.map_cons, List.map_nil, hs, hx, hr]
  exact h v' w' a2 a3
theorem step_append_node {ops : Array Oper} {o : Oper} {a : Act} {w : World} {K : Act → World → Prop} {Q0 : Exit → Act → World → Prop} {E : Prop} (hgd : o.guard = none) (s x : Operand)
    (ho : o.op = .call { callee := .builtin .append, args := #[s, x], argTypes := #[23, 23] })
    (B : Nat) (v : Value) (l : List NV) (hs : a.eval s = v) (hown : OwnN w B v l) (vx : Value) (m : List NV) (hx : a.eval x = vx) (he : RowAt cellsN 12 w vx m) (hnl : l.length + m.length ≤ 100000) (hbase : B ≤ w.heap.size)
    (h : ∀ v' w', OwnN w' B v' (l ++ m) → w.grownBy w' v.ownBlock → K (a.put o.dst v') w') :
    if Region.wanted o (yielded ops a.tmps) = true then Oper.wp Tryz.prog o a w K Q0 else E := by
  have hw : Region.wanted o (yielded ops a.tmps) = true := by simp [Region.wanted, hgd]
  rw [if_pos hw]
  obtain ⟨v', w', hr, a2, a3, _⟩ := run_append_node o.type B v l hown vx m he hnl hbase
  unfold Oper.wp execOp
  simp only [ho, resolve, invoke, builtin, Sem.run_bind, Sem.run_pure, Result.andThen_ok, List.map_toArray, List.map_cons, List.map_nil, hs, hx, hr]
  exact h v' w' a2 a3

/-! ### Blocks by their types -/
/-- Blocks of other types than these are as they were. -/
def Typ (Ts : List TypeId) (w w' : World) : Prop := w.heap.size ≤ w'.heap.size ∧ ∀ (g : Nat) (cs : Array Value) (E : TypeId) (f : Nat × Nat), w.heap[g]? = some (Obj.cells cs E f) → E ∉ Ts → w'.heap[g]? = w.heap[g]?
theorem heap_lt {w : World} {g : Nat} {o : Obj} (h : w.heap[g]? = some o) : g < w.heap.size := by
  rcases Nat.lt_or_ge g w.heap.size with h' | h'
  · exact h'
  · rw [Array.getElem?_eq_none h'] at h; cases h
theorem Typ.refl (Ts : List TypeId) (w : World) : Typ Ts w w := ⟨Nat.le_refl _, fun _ _ _ _ _ _ => rfl⟩
theorem Typ.trans {Ts : List TypeId} {a b c : World} (h : Typ Ts a b) (k : Typ Ts b c) : Typ Ts a c :=
  ⟨Nat.le_trans h.1 k.1, fun g cs E f h1 h2 => by
    have e1 := h.2 g cs E f h1 h2
    rw [k.2 g cs E f (by rw [e1]; exact h1) h2, e1]⟩
theorem Typ.of_q {Ts : List TypeId} {w w' : World} (q : Q w w') : Typ Ts w w' := ⟨q.size, fun g _ _ _ h _ => q.block g (heap_lt h)⟩
theorem Typ.grown {Ts : List TypeId} {α : Type} {E : TypeId} {cs : α → List Value} {k : Nat} {w w' : World} {B : Nat} {v : Value} {l : List α} (h : OwnR E cs k w B v l) (hg : w.grownBy w' v.ownBlock) (hE : E ∈ Ts) : Typ Ts w w' := by
  refine ⟨hg.size, fun g c T f h1 h2 => hg.block g (heap_lt h1) ?_⟩
  intro e
  rcases h.2 with ⟨rfl, _⟩ | ⟨g', cap, cur, rfl, _, hh, _⟩
  · simp [Value.ownBlock] at e
  · simp only [Value.ownBlock, Option.some.injEq] at e
    subst e
    rw [hh] at h1
    cases h1
    exact h2 hE
theorem Typ.set {Ts : List TypeId} {T : TypeId} {w : World} {b : Nat} {cs : Array Value} {f : Nat × Nat} (h : w.heap[b]? = some (.cells cs T f)) (hT : T ∈ Ts) (i : Nat) (u : Value) : Typ Ts w (w.setCell ⟨b, i, none⟩ u) := by
  refine ⟨by simp, fun g c E f' h1 h2 => ?_⟩
  by_cases e : g = b
  · subst e
    rw [h] at h1
    cases h1
    exact absurd hT h2
  · exact Below.heap_setCell w ⟨b, i, none⟩ u g e
theorem _root_.Go.Proofs.YtgbenepapajieaaGreat.OwnR.typ {Ts : List TypeId} {α : Type} {E : TypeId} {cs : α → List Value} {k : Nat} {w w' : World} {B : Nat} {v : Value} {l : List α} (h : OwnR E cs k w B v l) (t : Typ Ts w w') (hE : E ∉ Ts) : OwnR E cs k w' B v l := by
  obtain ⟨hl, h0 | ⟨g, cap, cur, hv, hb, hh, r⟩⟩ := h
  · exact ⟨hl, .inl h0⟩
  · exact ⟨hl, .inr ⟨g, cap, cur, hv, hb, (t.2 g cur E (0, 0) hh hE).trans hh, r⟩⟩
/-- A block that holds a tree. -/
def BoxT (w : World) (g : Nat) (c0 c1 : Value) : Prop := w.heap[g]? = some (.cells #[c0, c1] 25 (0, 0))
theorem BoxT.cells {w : World} {g : Nat} {c0 c1 : Value} (h : BoxT w g c0 c1) : w.cell? ⟨g, 0, none⟩ = some c0 ∧ w.cell? ⟨g, 1, none⟩ = some c1 := by
  unfold BoxT at h
  constructor <;> (unfold World.cell?; simp only [h]; rfl)
theorem BoxT.soft {w : World} {g : Nat} {c0 c1 : Value} (h : BoxT w g c0 c1) (i : Nat) : w.frozen? ⟨g, i, none⟩ = false := by
  unfold BoxT at h
  simp [World.frozen?, h]
theorem BoxT.lt {w : World} {g : Nat} {c0 c1 : Value} (h : BoxT w g c0 c1) : g < w.heap.size := heap_lt h
theorem BoxT.new (w : World) (c0 c1 : Value) : BoxT (w.alloc (.cells #[c0, c1] 25)) w.heap.size c0 c1 := by
  show (w.heap.push _)[w.heap.size]? = _
  simp
theorem BoxT.keep {w w' : World} {g : Nat} {c0 c1 : Value} (h : BoxT w g c0 c1) (q : Q w w') : BoxT w' g c0 c1 := (q.block g h.lt).trans h
theorem BoxT.typ {Ts : List TypeId} {w w' : World} {g : Nat} {c0 c1 : Value} (h : BoxT w g c0 c1) (t : Typ Ts w w') (hT : 25 ∉ Ts) : BoxT w' g c0 c1 := (t.2 g _ _ _ h hT).trans h
theorem BoxT.set0 {w : World} {g : Nat} {c0 c1 : Value} (h : BoxT w g c0 c1) (u : Value) : BoxT (w.setCell ⟨g, 0, none⟩ u) g u c1 := by
  unfold BoxT World.setCell at *
  simp [Array.getElem?_modify, h]
theorem BoxT.set1 {w : World} {g : Nat} {c0 c1 : Value} (h : BoxT w g c0 c1) (u : Value) : BoxT (w.setCell ⟨g, 1, none⟩ u) g c0 u := by
  unfold BoxT World.setCell at *
  simp [Array.getElem?_modify, h]
theorem BoxT.other {w : World} {g b : Nat} {c0 c1 : Value} (h : BoxT w g c0 c1) (hn : g ≠ b) (i : Nat) (u : Value) : BoxT (w.setCell ⟨b, i, none⟩ u) g c0 c1 := (Below.heap_setCell w ⟨b, i, none⟩ u g hn).trans h
theorem q_set {w0 w : World} (h : Q w0 w) {g : Nat} (hg : w0.heap.size ≤ g) (i : Nat) (u : Value) : Q w0 (w.setCell ⟨g, i, none⟩ u) := Below.setCell h (p := ⟨g, i, none⟩) hg u
end Go.Proofs.YtgbenepapajieaaGreat.Tr
namespace Go.Proofs.YtgbenepapajieaaGreat.Tr
open Go.RowKit
open Go.Proofs.YtgbenepapajieaaGreat.Nd (Nd mayN sumP nodeV NodeAt PcsAt)
open Go.Proofs.YtgbenepapajieaaGreat.Pa (lessB parentB hasParentB lastB underB joinB StrsAt)
open Go.Proofs.YtgbenepapajieaaGreat.Nd (OwnP)

/-! ### Numbers as they come up -/
theorem olds_append (o : List Int) (l m : List Ent) : olds o (l ++ m) = olds (olds o l) m := by
  induction l generalizing o with
  | nil => rfl
  | cons e r ih =>
    simp only [List.cons_append, olds]
    split <;> exact ih _
theorem olds_sub (o : List Int) (l : List Ent) : ∀ x ∈ o, x ∈ olds o l := by
  induction l generalizing o with
  | nil => intro x h; exact h
  | cons e r ih =>
    intro x h
    simp only [olds]
    split
    · exact ih _ x h
    · exact ih _ x (List.mem_append_left _ h)
theorem olds_mem (o : List Int) (l : List Ent) : ∀ e ∈ l, e.2 ∈ olds o l := by
  induction l generalizing o with
  | nil => intro e h; cases h
  | cons x r ih =>
    intro e h
    simp only [olds]
    split
    · rename_i hx
      rcases List.mem_cons.1 h with rfl | h
      · exact olds_sub _ _ _ hx
      · exact ih _ e h
    · rcases List.mem_cons.1 h with rfl | h
      · exact olds_sub _ _ _ (List.mem_append_right _ (List.mem_singleton.2 rfl))
      · exact ih _ e h
theorem olds_take {l : List Ent} {k : Nat} (hk : k < l.length) : olds [] (l.take (k + 1)) = if l[k].2 ∈ olds [] (l.take k) then olds [] (l.take k) else olds [] (l.take k) ++ [l[k].2] := by
  rw [List.take_succ_eq_append_getElem hk, olds_append]
  simp only [olds]
theorem numEnts_snoc (o : List Int) {l : List Ent} {k : Nat} (hk : k < l.length) : numEnts o (l.take (k + 1)) = numEnts o (l.take k) ++ [(l[k].1, (o.idxOf l[k].2 : Int))] := by
  unfold numEnts
  rw [List.take_succ_eq_append_getElem hk, List.map_append]
  rfl
theorem numEnts_grow {o : List Int} {x : Int} {l : List Ent} (h : ∀ e ∈ l, e.2 ∈ o) : numEnts (o ++ [x]) l = numEnts o l := by
  unfold numEnts
  refine List.map_congr_left fun e he => ?_
  rw [List.idxOf_append, if_pos (h e he)]
theorem idx_new {o : List Int} {x : Int} (h : x ∉ o) : (o ++ [x]).idxOf x = o.length := by
  rw [List.idxOf_append, if_neg h, List.idxOf_cons_self, Nat.zero_add]
theorem nodeAt_in {ns : List Nd} {m : Nat} (h : m < ns.length) : nodeAt ns (m : Int) = ns[m] := by
  unfold nodeAt
  simp [h]

/-! ### What the loop holds -/
def InO (w : World) (B : Nat) (x : NV) : Prop := OwnT w B (slv x.a) x.n.mt.attrs ∧ OwnA w B (slv x.l) x.n.mt.acl ∧ OwnP w B (slv x.d) x.n.data
theorem InO.in_ {w : World} {B : Nat} {x : NV} (h : InO w B x) : InN w x := ⟨OwnR.row flatT h.1, (OwnR.row flat3 h.2.1).aces, OwnR.row Nd.flatP h.2.2⟩
theorem InO.typ {Ts : List TypeId} {w w' : World} {B : Nat} {x : NV} (h : InO w B x) (t : Typ Ts w w') (h1 : 78 ∉ Ts) (h2 : 80 ∉ Ts) (h3 : 87 ∉ Ts) : InO w' B x := ⟨OwnR.typ h.1 t h1, OwnR.typ h.2.1 t h2, OwnR.typ h.2.2 t h3⟩
theorem InO.mono {w : World} {B B' : Nat} {x : NV} (h : InO w B x) (k : B' ≤ B) : InO w B' x := ⟨OwnR.mono h.1 k, OwnR.mono h.2.1 k, OwnR.mono h.2.2 k⟩
theorem own_nv {w : World} {B : Nat} {v : Value} {n : Nd} (h : Nd.OwnN w B v n) : ∃ x : NV, x.n = n ∧ v = .agg (cellsN x).toArray ∧ InO w B x := by
  obtain ⟨va, vl, vd, rfl, h1, h2, h3⟩ := h
  obtain ⟨A, c, rfl⟩ := OwnR.form flatT h1
  obtain ⟨B', d, rfl⟩ := OwnR.form flat3 h2
  obtain ⟨C, e, rfl⟩ := OwnR.form Nd.flatP h3
  exact ⟨⟨n, (A, _, c), (B', _, d), (C, _, e)⟩, rfl, rfl, h1, h2, h3⟩
/-- A call of a Go function as one step of a region that draws. -/
theorem step_go {P : Program} {ops : Array Oper} {o : Oper} {a : Act} {w : World} {K : Act → World → Prop} {Q0 : Exit → Act → World → Prop} {E : Prop} (hgd : o.guard = none) (f : FuncId) (x : Operand) (t : TypeId)
    (ho : o.op = .call { callee := .value (.func f), args := #[x], argTypes := #[t] }) (vx : Value) (hx : a.eval x = vx)
    (eg : ∀ args w, (callFunc f args).run P w = .ok (.enter f args) w) {R : Ending → World → Prop} (hc : Calls P f #[vx] w R)
    (h : ∀ e w', R e w' → ∃ v, e = .returned v ∧ K (a.put o.dst v) w') : if Region.wanted o (yielded ops a.tmps) = true then Oper.wp P o a w K Q0 else E := by
  have hw : Region.wanted o (yielded ops a.tmps) = true := by simp [Region.wanted, hgd]
  rw [if_pos hw]
  unfold Oper.wp execOp
  have hf : a.eval (.func f) = .func (.func f) #[] #[] := rfl
  simp only [ho, resolve, invoke, Deferred.ofValue, Sem.run_bind, Sem.run_pure, Result.andThen_ok, List.map_toArray, List.map_cons, List.map_nil, hx, hf, Array.append_empty, eg]
  refine hc.mono fun e w' hr => ?_
  obtain ⟨v, rfl, hk⟩ := h e w' hr
  exact hk
theorem ents_built (w : World) (p : ByteArray) (z : Int) : EntsAt ((w.alloc (.cells #[.string p, .int .i64 z] 49)).drew) (.slice (some ⟨w.heap.size, 0, none⟩) 1 1) [(p, z)] :=
  RowAt.keep ((own_one flatE 49 w w.heap.size (Nat.le_refl _) (p, z)).row flatE) ((Q.refl _).drew)
/-- A tree whose rows are the call's own. -/
def TreeOwn (w : World) (B : Nat) (v : Value) (t : Tree) : Prop := ∃ (vE vN : Value) (rs : List NV), v = .agg #[vE, vN] ∧ OwnE w B vE t.1 ∧ OwnN w B vN rs ∧ rs.map (·.n) = t.2 ∧ ∀ x ∈ rs, InO w B x
theorem TreeOwn.at_ {w : World} {B : Nat} {v : Value} {t : Tree} (h : TreeOwn w B v t) : TreeAt w v t := by
  obtain ⟨vE, vN, rs, e, h1, h2, h3, h4⟩ := h
  exact ⟨vE, vN, e, OwnR.row flatE h1, rs, OwnR.row flatN h2, h3, fun x hx => (h4 x hx).in_⟩
theorem TreeOwn.typ {Ts : List TypeId} {w w' : World} {B : Nat} {v : Value} {t : Tree} (h : TreeOwn w B v t) (tt : Typ Ts w w') (k : 49 ∉ Ts ∧ 47 ∉ Ts ∧ 78 ∉ Ts ∧ 80 ∉ Ts ∧ 87 ∉ Ts) : TreeOwn w' B v t := by
  obtain ⟨vE, vN, rs, e, h1, h2, h3, h4⟩ := h
  exact ⟨vE, vN, rs, e, OwnR.typ h1 tt k.1, OwnR.typ h2 tt k.2.1, h3, fun x hx => (h4 x hx).typ tt k.2.2.1 k.2.2.2.1 k.2.2.2.2⟩
theorem TreeOwn.keep {w w' : World} {B : Nat} {v : Value} {t : Tree} (h : TreeOwn w B v t) (q : Q w w') : TreeOwn w' B v t := h.typ (Typ.of_q (Ts := []) q) (by simp)
theorem TreeOwn.mono {w : World} {B B' : Nat} {v : Value} {t : Tree} (h : TreeOwn w B v t) (k : B' ≤ B) : TreeOwn w B' v t := by
  obtain ⟨vE, vN, rs, e, h1, h2, h3, h4⟩ := h
  exact ⟨vE, vN, rs, e, OwnR.mono h1 k, OwnR.mono h2 k, h3, fun x hx => (h4 x hx).mono k⟩
theorem TreeOwn.form {w : World} {B : Nat} {v : Value} {t : Tree} (h : TreeOwn w B v t) : ∃ A c C d, v = .agg #[.slice A t.1.length c, .slice C t.2.length d] := by
  obtain ⟨vE, vN, rs, e, h1, h2, h3, h4⟩ := h
  obtain ⟨A, c, rfl⟩ := OwnR.form flatE h1
  obtain ⟨C, d, rfl⟩ := OwnR.form flatN h2
  exact ⟨A, c, C, d, by rw [e, ← h3, List.length_map]⟩
structure NumJ (w w' : World) (vo vE vN : Value) (o : List Int) (oe : List Ent) (rs : List NV) : Prop where
  q : Q w w'
  res : BoxT w' w.heap.size (.slice none 0 0) (.slice none 0 0)
  box : BoxT w' (w.heap.size + 1) vE vN
  ro : OwnI w' (w.heap.size + 2) vo o
  re : OwnE w' (w.heap.size + 2) vE oe
  rn : OwnN w' (w.heap.size + 2) vN rs
  inn : ∀ x ∈ rs, InO w' (w.heap.size + 2) x
theorem NumJ.size {w w' : World} {vo vE vN : Value} {o : List Int} {oe : List Ent} {rs : List NV} (h : NumJ w w' vo vE vN o oe rs) : w.heap.size + 2 ≤ w'.heap.size := h.box.lt
theorem NumJ.keep {w w' w2 : World} {vo vE vN : Value} {o : List Int} {oe : List Ent} {rs : List NV} (h : NumJ w w' vo vE vN o oe rs) (q : Q w' w2) : NumJ w w2 vo vE vN o oe rs :=
  ⟨h.q.trans q, h.res.keep q, h.box.keep q, OwnR.keep h.ro q, OwnR.keep h.re q, OwnR.keep h.rn q, fun x hx => (h.inn x hx).typ (Typ.of_q (Ts := []) q) (by simp) (by simp) (by simp)⟩
/-- A number more in old. -/
theorem NumJ.old {w w' w2 : World} {vo vE vN v2 : Value} {o o2 : List Int} {oe : List Ent} {rs : List NV} (h : NumJ w w' vo vE vN o oe rs) (hg : w'.grownBy w2 vo.ownBlock) (h2 : OwnI w2 (w.heap.size + 2) v2 o2) : NumJ w w2 v2 vE vN o2 oe rs := by
  have t : Typ [3] w' w2 := Typ.grown h.ro hg (by simp)
  exact ⟨Below.grown h.q hg h.q.size fun g e => by have := (OwnR.lt h.ro g e).1; omega, h.res.typ t (by decide), h.box.typ t (by decide), h2, OwnR.typ h.re t (by decide), OwnR.typ h.rn t (by decide), fun x hx => (h.inn x hx).typ t (by decide) (by decide) (by decide)⟩
/-- An entry more. -/
theorem NumJ.ent {w w' w2 : World} {vo vE vN v2 : Value} {o : List Int} {oe oe2 : List Ent} {rs : List NV} (h : NumJ w w' vo vE vN o oe rs) (hg : w'.grownBy w2 vE.ownBlock) (h2 : OwnE w2 (w.heap.size + 2) v2 oe2) : NumJ w (w2.setCell ⟨w.heap.size + 1, 0, none⟩ v2) vo v2 vN o oe2 rs := by
  have t : Typ [49, 25] w' w2 := Typ.grown h.re hg (by simp)
  have tE : Typ [49] w' w2 := Typ.grown h.re hg (by simp)
  have hb := h.box.typ tE (by decide)
  have hr := h.res.typ tE (by decide)
  have ts : Typ [49, 25] w2 (w2.setCell ⟨w.heap.size + 1, 0, none⟩ v2) := Typ.set hb (by simp) 0 v2
  have tT : Typ [25] w2 (w2.setCell ⟨w.heap.size + 1, 0, none⟩ v2) := Typ.set hb (by simp) 0 v2
  have tt := t.trans ts
  have q2 : Q w w2 := Below.grown h.q hg h.q.size fun g e => by have := (OwnR.lt h.re g e).1; omega
  exact ⟨q_set q2 (by omega) 0 v2, hr.other (by omega) 0 v2, hb.set0 v2, OwnR.typ h.ro tt (by decide), OwnR.typ h2 tT (by decide), OwnR.typ h.rn tt (by decide), fun x hx => (h.inn x hx).typ tt (by decide) (by decide) (by decide)⟩
/-- A node more. -/
theorem NumJ.node {w w' w2 : World} {vo vE vN v2 : Value} {o : List Int} {oe : List Ent} {rs : List NV} {x : NV} (h : NumJ w w' vo vE vN o oe rs) (hg : w'.grownBy w2 vN.ownBlock) (h2 : OwnN w2 (w.heap.size + 2) v2 (rs ++ [x])) (hx : InO w' (w.heap.size + 2) x) : NumJ w (w2.setCell ⟨w.heap.size + 1, 1, none⟩ v2) vo vE v2 o oe (rs ++ [x]) := by
  have t : Typ [47, 25] w' w2 := Typ.grown h.rn hg (by simp)
  have tE : Typ [47] w' w2 := Typ.grown h.rn hg (by simp)
  have hb := h.box.typ tE (by decide)
  have hr := h.res.typ tE (by decide)
  have ts : Typ [47, 25] w2 (w2.setCell ⟨w.heap.size + 1, 1, none⟩ v2) := Typ.set hb (by simp) 1 v2
  have tT : Typ [25] w2 (w2.setCell ⟨w.heap.size + 1, 1, none⟩ v2) := Typ.set hb (by simp) 1 v2
  have tt := t.trans ts
  have q2 : Q w w2 := Below.grown h.q hg h.q.size fun g e => by have := (OwnR.lt h.rn g e).1; omega
  refine ⟨q_set q2 (by omega) 1 v2, hr.other (by omega) 1 v2, hb.set1 v2, OwnR.typ h.ro tt (by decide), OwnR.typ h.re tt (by decide), OwnR.typ h2 tT (by decide), fun y hy => ?_⟩
  rcases List.mem_append.1 hy with hy | hy
  · exact (h.inn y hy).typ tt (by decide) (by decide) (by decide)
  · rw [List.mem_singleton.1 hy]
    exact hx.typ tt (by decide) (by decide) (by decide)
theorem nodes_built (w : World) (x : NV) : RowAt cellsN 12 (w.alloc (.cells #[.int .i64 x.n.kind, .int .i64 x.n.mt.mode, .int .i64 x.n.mt.uid, .int .i64 x.n.mt.gid, .int .i64 x.n.mt.time, .slice x.a.1 x.a.2.1 x.a.2.2, .slice x.l.1 x.l.2.1 x.l.2.2, .int .i64 x.n.size, .slice x.d.1 x.d.2.1 x.d.2.2, .string x.n.target, .int .i64 x.n.major, .int .i64 x.n.minor] 47)) (.slice (some ⟨w.heap.size, 0, none⟩) 1 1) [x] :=
  (own_one flatN 47 w w.heap.size (Nat.le_refl _) x).row flatN
theorem treeOwn_nv (v : Value) (n : Nd) (w : World) (h : NodeAt w v n) (hf : Nd.Fit n) :
    Calls Tryz.prog 66 #[v] w fun e w' => ∃ x : NV, x.n = n ∧ e = .returned (.agg #[.int .i64 x.n.kind, .int .i64 x.n.mt.mode, .int .i64 x.n.mt.uid, .int .i64 x.n.mt.gid, .int .i64 x.n.mt.time, .slice x.a.1 x.a.2.1 x.a.2.2, .slice x.l.1 x.l.2.1 x.l.2.2, .int .i64 x.n.size, .slice x.d.1 x.d.2.1 x.d.2.2, .string x.n.target, .int .i64 x.n.major, .int .i64 x.n.minor]) ∧ InO w' w.heap.size x ∧ Q w w' :=
  (Nd.treeOwn_any v n w h hf.at_ hf.ac hf.da.1).mono fun e w' ⟨v', he, ho, q⟩ => by
    obtain ⟨x, h1, rfl, h3⟩ := own_nv ho
    exact ⟨x, h1, he, h3, q⟩
set_option maxRecDepth 100000 in
set_option maxHeartbeats 8000000 in
theorem number_any (v u : Value) (l : List Ent) (ns : List Nd) (w : World) (he : EntsAt w v l) (hn : NodesAt w u ns) (hp : Placed l ns.length) (hl : l.length ≤ 20000) (hf : ∀ n ∈ ns, Nd.Fit n ∧ n.target.size ≤ 1000000) :
    Calls Tryz.prog 36 #[v, u] w fun e w' => ∃ v', e = .returned v' ∧ TreeOwn w' w.heap.size v' (numT l ns) ∧ Q w w' := by
  have ll := he.len
  obtain ⟨A, c, rfl⟩ := he.form
  obtain ⟨B, dd, rfl⟩ := hn.form
  have l2 := hn.len
  unfold maxLen at ll l2
  go_enter Tryz.func36, Tryz.ntmps36
  go_wp2
  refine wp_scope_goto 0 (fun a' w' => ∃ (k : Nat) (vo vE vN : Value) (o : List Int) (rs : List NV) (u8 u9 u10 u11 u12 u13 u14 u15 u16 u17 u18 u19 u20 u21 u22 u23 u24 u25 u26 u27 u28 u29 u30 u31 u32 u33 u34 u35 u36 u37 u38 u39 u40 u41 u42 u43 u44 u45 u46 u47 u48 u49 u50 u51 u52 u53 u54 u55 u56 u57 u58 u59 u60 : Value), a' = { tmps := #[.slice A l.length c, .slice B ns.length dd, undef, undef, .pointer (some ⟨w.heap.size, 0, none⟩), .pointer (some ⟨w.heap.size + 1, 0, none⟩), vo, .int .i64 k, u8, u9, u10, u11, u12, u13, u14, u15, u16, u17, u18, u19, u20, u21, u22, u23, u24, u25, u26, u27, u28, u29, u30, u31, u32, u33, u34, u35, u36, u37, u38, u39, u40, u41, u42, u43, u44, u45, u46, u47, u48, u49, u50, u51, u52, u53, u54, u55, u56, u57, u58, u59, u60], defers := [] } ∧ k ≤ l.length ∧ NumJ w w' vo vE vN o (numEnts o (l.take k)) rs ∧ o.length ≤ k ∧ rs.length ≤ k ∧ Hid (o = olds [] (l.take k)) ∧ Hid (rs.map (·.n) = o.map (nodeAt ns))) (fun a' _ => l.length - (intOf (a'.tmps.getD 7 undef)).toNat) rfl ?_ ?_
  · intro hh
    go_wp2
    go_step3
    rename_i hK
    refine hK _ _ (hh.out _ _ ⟨0, _, _, _, [], [], _, _, _, _, _, _, _, _, _, _, _, _, _, _, _, _, _, _, _, _, _, _, _, _, _, _, _, _, _, _, _, _, _, _, _, _, _, _, _, _, _, _, _, _, _, _, _, _, _, _, _, _, _, rfl, by omega, ⟨((Q.refl w).alloc _).alloc _, (BoxT.new w _ _).keep ((Q.refl _).alloc _), ?_, OwnR.nil_ _ _ _, OwnR.nil_ _ _ _, OwnR.nil_ _ _ _, fun x hx => by cases hx⟩, by simp, by simp, rfl, rfl⟩)
    have := BoxT.new (w.alloc (.cells #[.slice none 0 0, .slice none 0 0] 25)) (.slice none 0 0) (.slice none 0 0)
    rwa [World.size_alloc] at this
  · rintro a' w' ⟨k, vo, vE, vN, o, rs, u8, u9, u10, u11, u12, u13, u14, u15, u16, u17, u18, u19, u20, u21, u22, u23, u24, u25, u26, u27, u28, u29, u30, u31, u32, u33, u34, u35, u36, u37, u38, u39, u40, u41, u42, u43, u44, u45, u46, u47, u48, u49, u50, u51, u52, u53, u54, u55, u56, u57, u58, u59, u60, rfl, hk, hj, hol, hrl, HO, HR⟩
    have hq := hj.q
    by_cases hlt : k < l.length
    · have t1 : ((k : Int) == (l.length : Int)) = false := beq_eq_false_iff_ne.2 (by omega)
      have HE := Lib.hid (fun w' (q : Q w w') => he.keep q)
      obtain ⟨g, og, _, ea, _, _, hc⟩ := (he.keep hq).at_ (by omega)
      cases ea
      obtain ⟨c1, c2⟩ := hc k hlt
      have HC : Hid (∀ w', Q w w' → w'.cell? ⟨g, og + k * 2, none⟩ = some (.string l[k].1) ∧ w'.cell? ⟨g, og + k * 2 + 1, none⟩ = some (.int .i64 l[k].2)) := fun w' q => by
        obtain ⟨g2, og2, _, ea, _, _, hc⟩ := (he.keep q).at_ (by omega)
        cases ea
        exact hc k hlt
      have hpk := hp _ (List.getElem_mem hlt)
      have E1 : Hid (l[k].2 ∈ o → o = olds [] (l.take (k + 1)) ∧ numEnts o (l.take (k + 1)) = numEnts o (l.take k) ++ [(l[k].1, (o.idxOf l[k].2 : Int))]) := fun h => by
        refine ⟨?_, numEnts_snoc o hlt⟩
        rw [olds_take hlt, ← HO.out, if_pos h]
      have E2 : Hid (l[k].2 ∉ o → o ++ [l[k].2] = olds [] (l.take (k + 1)) ∧ numEnts (o ++ [l[k].2]) (l.take (k + 1)) = numEnts o (l.take k) ++ [(l[k].1, (o.length : Int))]) := fun h => by
        refine ⟨?_, ?_⟩
        · rw [olds_take hlt, ← HO.out, if_neg h]
        · rw [numEnts_snoc _ hlt, idx_new h, numEnts_grow (fun e he => by rw [HO.out]; exact olds_mem _ _ e he)]
      have hlen : (numEnts o (l.take k)).length ≤ k := by unfold numEnts; rw [List.length_map, List.length_take]; omega
      generalize numEnts o (l.take k) = oe at *
      have lt2 : (k : Int) < (l.length : Int) := by omega
      clear hc HO
      generalize l[k] = x at *
      obtain ⟨xp, z⟩ := x
      simp only at c1 c2 E1 E2 hpk HC
      have HI := Lib.hid (fun w h => index_any vo o z w h)
      have hro := OwnR.row flatI hj.ro
      obtain ⟨Ao, co, rfl⟩ := hro.form
      by_cases hz : z ∈ o
      · have EE := Lib.hid (E1.out hz)
        have hi : idxI o z = ((o.idxOf z : Nat) : Int) := if_pos hz
        rw [hi] at HI
        have t2 : decide (((o.idxOf z : Nat) : Int) < 0) = false := decide_eq_false (by omega)
        clear E1 E2 hz hi
        go_wp2_with fail
        refine (HI.out _ hro).mono ?_
        rintro e w1 ⟨rfl, rfl⟩
        generalize o.idxOf z = ix at *
        have hbx := hj.box.cells
        obtain ⟨b0, b1⟩ := hbx
        have hjo := Lib.hid hj
        have hbl := hj.box.lt
        have hgb := World.block_lt_of_cell? w1 _ c1
        clear hj
        go_wp2_with fail
        go_region_law (first | (refine step_append_ent rfl (.tmp 48) (.tmp 56) rfl (w.heap.size + 2) vE oe (by simp [Act.eval]) (OwnR.keep hjo.out.re (((Q.refl w1).alloc _).drew)) (.slice (some ⟨w1.heap.size, 0, none⟩) 1 1) [(xp, (ix : Int))] (by simp [Act.eval]) (ents_built w1 xp ix) (by simp; omega) (by have := hjo.out.size; show _ ≤ (w1.alloc _).heap.size; rw [World.size_alloc]; omega) ?_; intro v9 w9 hown9 hg9; have hj9 := Lib.hid (hjo.out.keep (((Q.refl w1).alloc (.cells #[.string xp, .int .i64 (ix : Int)] 49)).drew)); obtain ⟨m0, m1⟩ := (hj9.out.box.typ (Typ.grown (Ts := [49]) hj9.out.re hg9 (by simp)) (by decide)).cells; have ms := (hj9.out.box.typ (Typ.grown (Ts := [49]) hj9.out.re hg9 (by simp)) (by decide)).soft; obtain ⟨A9, n9, rfl⟩ := OwnR.form flatE hown9))
        all_goals
          have hjz := hj9.out.ent hg9 hown9
          rw [show (oe ++ [(xp, (ix : Int))]).length = oe.length + 1 by simp] at hjz
          clear hj9 hg9 hown9 m0 m1 ms
          go_wp2
          go_step3
          exact ⟨rfl, ⟨k + 1, _, _, _, o, rs, _, _, _, _, _, _, _, _, _, _, _, _, _, _, _, _, _, _, _, _, _, _, _, _, _, _, _, _, _, _, _, _, _, _, _, _, _, _, _, _, _, _, _, _, _, _, _, _, _, _, _, _, _, rfl, by omega, by rw [EE.out.2]; exact hjz, by omega, by omega, EE.out.1, HR⟩, by simp [intOf]; omega⟩
      · have EE := Lib.hid (E2.out hz)
        have hi : idxI o z = -1 := idx_none hz
        rw [hi] at HI
        obtain ⟨m, rfl⟩ : ∃ m : Nat, z = m := ⟨z.toNat, by omega⟩
        have hm : m < ns.length := by omega
        have lt3 : (m : Int) < (ns.length : Int) := by omega
        have nn3 : (0 : Int) ≤ (m : Int) := by omega
        have wr3 : IntKind.i64.wrap (m : Int) = m := IntWalk.i64_in _ (by omega)
        clear E1 E2 hz hi
        go_wp2_with fail
        refine (HI.out _ hro).mono ?_
        rintro e w1 ⟨rfl, rfl⟩
        have hszA := hj.size
        have hgb0 := World.block_lt_of_cell? w1 _ c1
        go_wp2_with (at_builtin; refine wpList_append_int rfl (.tmp 25) (.tmp 31) rfl (w.heap.size + 2) _ o rfl (OwnR.keep hj.ro ((Q.refl w1).alloc _)) _ [(m : Int)] rfl ((own_one flatI 3 w1 w1.heap.size (Nat.le_refl _) (m : Int)).row flatI) (by simp; omega) (by rw [World.size_alloc]; omega) ?_)
        intro v3 w3 hown3 hg3 _
        have hj1 := (hj.keep ((Q.refl w1).alloc (.cells #[.int .i64 (m : Int)] 3))).old hg3 hown3
        clear hj hg3 hown3 c1 c2 hro HI hgb0 hq
        have hol2 : (o ++ [(m : Int)]).length ≤ k + 1 := by simp; omega
        have HR2 : Hid (∀ x : NV, x.n = nodeAt ns (m : Int) → (rs ++ [x]).map (·.n) = (o ++ [(m : Int)]).map (nodeAt ns)) := fun x h => by rw [List.map_append, List.map_append, HR.out]; simp [h]
        rw [nodeAt_in hm] at HR2
        generalize o ++ [(m : Int)] = o2 at *
        generalize o.length = ix at *
        have hq1 := hj1.q
        obtain ⟨c1, c2⟩ : w3.cell? ⟨g, og + k * 2, none⟩ = some (.string xp) ∧ w3.cell? ⟨g, og + k * 2 + 1, none⟩ = some (.int .i64 (m : Int)) := HC.out _ hq1
        obtain ⟨gn, on, _, ea, _, _, hcn⟩ := (hn.keep hq1).at3 (by omega)
        cases ea
        obtain ⟨A1, A2, A3, n1, m1, n2, m2, n3, m3, hN, d0, d1, d2, d3, d4, d5, d6, d7, d8, d9, d10, d11⟩ := hcn m hm
        have HW := Lib.hid (fun w' (q : Q w3 w') => treeOwn_nv _ ns[m] w' (hN.keep q) (hf _ (List.getElem_mem hm)).1)
        unfold nodeV at HW
        obtain ⟨b0, b1⟩ := hj1.box.cells
        have hbl := hj1.box.lt
        have hgb := World.block_lt_of_cell? w3 _ c1
        have hgd := World.block_lt_of_cell? w3 _ d0
        have hjo := Lib.hid hj1
        clear hj1 hcn hN hn
        generalize ns[m] = y at *
        have eOwn : ∀ args w, (callFunc 66 args).run Tryz.prog w = .ok (.enter 66 args) w := enters_of Tryz.func66 (by kernel_rfl) rfl
        go_wp2_with fail
        go_region_law (first
          | (refine step_go rfl 66 (.tmp 42) 47 rfl _ (by simp [Act.eval]) eOwn (HW.out _ (by first | exact (Q.refl _).drew | exact Q.refl _)) ?_; rintro e w4 ⟨x, hxn0, rfl, hxo, q4⟩; have hxn := Lib.hid hxn0; clear hxn0; refine ⟨_, rfl, ?_⟩; have b1x := q4.cell b1; have hblx := Nat.lt_of_lt_of_le hbl q4.size; have hjp := Lib.hid (hjo.out.keep (Q.trans ((Q.refl w3).drew) q4)))
          | (refine step_append_node rfl (.tmp 34) (.tmp 44) rfl (w.heap.size + 2) vN rs (by simp [Act.eval]) (OwnR.keep hjp.out.rn (by first | exact ((Q.refl w4).alloc _).drew | exact ((Q.refl w4).alloc _))) (.slice (some ⟨w4.heap.size, 0, none⟩) 1 1) [x] (by simp [Act.eval]) (by first | exact nodes_built w4 x | exact RowAt.keep (nodes_built w4 x) ((Q.refl _).drew)) (by simp; omega) (by have := hjp.out.size; show _ ≤ (w4.alloc _).heap.size; rw [World.size_alloc]; omega) ?_; intro v5 w5 hown5 hg5; have hjq := Lib.hid (hjp.out.keep ((Q.refl w4).alloc (.cells #[.int .i64 x.n.kind, .int .i64 x.n.mt.mode, .int .i64 x.n.mt.uid, .int .i64 x.n.mt.gid, .int .i64 x.n.mt.time, .slice x.a.1 x.a.2.1 x.a.2.2, .slice x.l.1 x.l.2.1 x.l.2.2, .int .i64 x.n.size, .slice x.d.1 x.d.2.1 x.d.2.2, .string x.n.target, .int .i64 x.n.major, .int .i64 x.n.minor] 47))); obtain ⟨m0, m1⟩ := (hjq.out.box.typ (Typ.grown (Ts := [47]) hjq.out.rn hg5 (by simp)) (by decide)).cells; have ms := (hjq.out.box.typ (Typ.grown (Ts := [47]) hjq.out.rn hg5 (by simp)) (by decide)).soft; obtain ⟨A5, n5, rfl⟩ := OwnR.form flatN hown5))
        all_goals
          have hxq : InO (w4.alloc (.cells #[.int .i64 x.n.kind, .int .i64 x.n.mt.mode, .int .i64 x.n.mt.uid, .int .i64 x.n.mt.gid, .int .i64 x.n.mt.time, .slice x.a.1 x.a.2.1 x.a.2.2, .slice x.l.1 x.l.2.1 x.l.2.2, .int .i64 x.n.size, .slice x.d.1 x.d.2.1 x.d.2.2, .string x.n.target, .int .i64 x.n.major, .int .i64 x.n.minor] 47)) (w.heap.size + 2) x := (hxo.mono (by have := hjo.out.size; show _ ≤ w3.heap.size; omega)).typ (Typ.of_q (Ts := []) ((Q.refl w4).alloc _)) (by simp) (by simp) (by simp)
          have hj2 := hjq.out.node hg5 hown5 hxq
          rw [show (rs ++ [x]).length = rs.length + 1 by simp] at hj2
          have HR3 := Lib.hid (HR2.out x hxn.out)
          have hrl2 : (rs ++ [x]).length ≤ k + 1 := by simp; omega
          obtain ⟨c1, c2⟩ := HC.out _ hj2.q
          clear HR2 HW hjq hg5 hown5 hxq hxo m0 m1 ms hjp q4 b1x hblx hjo b0 b1 hbl hgb hgd
          generalize rs ++ [x] = rs2 at *
          generalize (w5.setCell ⟨w.heap.size + 1, 1, none⟩ (.slice A5 (rs.length + 1) n5)) = w6 at *
          generalize Value.slice A5 (rs.length + 1) n5 = vN2 at *
          have hbx := hj2.box.cells
          obtain ⟨b0, b1⟩ := hbx
          have hjo := Lib.hid hj2
          have hbl := hj2.box.lt
          have hgb := World.block_lt_of_cell? w6 _ c1
          clear hj2
          go_wp2_with fail
          go_region_law (first | (refine step_append_ent rfl (.tmp 48) (.tmp 56) rfl (w.heap.size + 2) vE oe (by simp [Act.eval]) (OwnR.keep hjo.out.re (((Q.refl w6).alloc _).drew)) (.slice (some ⟨w6.heap.size, 0, none⟩) 1 1) [(xp, (ix : Int))] (by simp [Act.eval]) (ents_built w6 xp ix) (by simp; omega) (by have := hjo.out.size; show _ ≤ (w6.alloc _).heap.size; rw [World.size_alloc]; omega) ?_; intro v9 w9 hown9 hg9; have hj9 := Lib.hid (hjo.out.keep (((Q.refl w6).alloc (.cells #[.string xp, .int .i64 (ix : Int)] 49)).drew)); obtain ⟨m0, m1⟩ := (hj9.out.box.typ (Typ.grown (Ts := [49]) hj9.out.re hg9 (by simp)) (by decide)).cells; have ms := (hj9.out.box.typ (Typ.grown (Ts := [49]) hj9.out.re hg9 (by simp)) (by decide)).soft; obtain ⟨A9, n9, rfl⟩ := OwnR.form flatE hown9))
          all_goals
            have hjz := hj9.out.ent hg9 hown9
            rw [show (oe ++ [(xp, (ix : Int))]).length = oe.length + 1 by simp] at hjz
            clear hj9 hg9 hown9 m0 m1 ms
            go_wp2
            go_step3
            exact ⟨rfl, ⟨k + 1, _, _, _, o2, rs2, _, _, _, _, _, _, _, _, _, _, _, _, _, _, _, _, _, _, _, _, _, _, _, _, _, _, _, _, _, _, _, _, _, _, _, _, _, _, _, _, _, _, _, _, _, _, _, _, _, _, _, _, _, rfl, by omega, by rw [EE.out.2]; exact hjz, hol2, hrl2, EE.out.1, HR3⟩, by simp [intOf]; omega⟩
    · have t1 : ((k : Int) == (l.length : Int)) = true := beq_iff_eq.2 (by omega)
      have ek : l.take k = l := List.take_of_length_le (by omega)
      rw [ek] at HO hj
      have HN : Hid (numT l ns = (numEnts o l, rs.map (·.n))) := by
        show _ = _
        unfold numT
        rw [← HO.out, HR.out]
      obtain ⟨b0, b1⟩ := hj.box.cells
      obtain ⟨r0, r1⟩ := hj.res.cells
      have hrs := hj.res.soft
      have hrlt := hj.res.lt
      have hqq := hj.q
      have hjh := Lib.hid hj
      obtain ⟨A1, n1, rfl⟩ := OwnR.form flatE hj.re
      obtain ⟨A2, n2, rfl⟩ := OwnR.form flatN hj.rn
      clear hj
      go_wp2
      have hz : BoxT ((w'.setCell ⟨w.heap.size, 0, none⟩ (.slice A1 (numEnts o l).length n1)).setCell ⟨w.heap.size, 1, none⟩ (.slice A2 rs.length n2)) w.heap.size (.slice A1 (numEnts o l).length n1) (.slice A2 rs.length n2) := (hjh.out.res.set0 _).set1 _
      have tt : Typ [25] w' ((w'.setCell ⟨w.heap.size, 0, none⟩ (.slice A1 (numEnts o l).length n1)).setCell ⟨w.heap.size, 1, none⟩ (.slice A2 rs.length n2)) := (Typ.set hjh.out.res (by simp) 0 _).trans (Typ.set (hjh.out.res.set0 _) (by simp) 1 _)
      have qz : Q w ((w'.setCell ⟨w.heap.size, 0, none⟩ (.slice A1 (numEnts o l).length n1)).setCell ⟨w.heap.size, 1, none⟩ (.slice A2 rs.length n2)) := q_set (q_set hqq (Nat.le_refl _) 0 _) (Nat.le_refl _) 1 _
      obtain ⟨z0, z1⟩ := hz.cells
      simp only [Exit.jump]
      refine bodyPost_ret (v := .agg #[.slice A1 (numEnts o l).length n1, .slice A2 rs.length n2]) (by simp [results, Tryz.results36, go_sem, z0, z1]) rfl ?_
      exact ⟨_, rfl, ⟨_, _, rs, rfl, by rw [HN.out]; exact OwnR.mono (OwnR.typ hjh.out.re tt (by decide)) (by omega), OwnR.mono (OwnR.typ hjh.out.rn tt (by decide)) (by omega), by rw [HN.out], fun x hx => ((hjh.out.inn x hx).typ tt (by decide) (by decide) (by decide)).mono (by omega)⟩, qz⟩
end Go.Proofs.YtgbenepapajieaaGreat.Tr
