/-
  The contract of the document's NormTree.
-/
import Derived.Test.YtgbenepapajieaaGreatTRefO
import Derived.Test.YtgbenepapajieaaGreatTRefT
import Derived.Test.YtgbenepapajieaaGreatPRef3
import Derived.Test.YtgbenepapajieaaGreatTNum
namespace Go.Proofs.YtgbenepapajieaaGreat.Tr
open Go.RowKit
open Go.Proofs.YtgbenepapajieaaGreat.Nd (Nd mayN sumP nodeV NodeAt PcsAt)
open Go.Proofs.YtgbenepapajieaaGreat.Pa (lessB parentB hasParentB lastB underB joinB)

/-- What the first loop has put in order. -/
structure Put (es : List Ent) (n i : Nat) (m : List Ent) : Prop where
  perm : m.Perm (es.take i)
  srt : m.Pairwise fun x y => lessB y.1 x.1 = false
  ok : ∀ e ∈ es.take i, entOk n e = true
  len : m.length = i
def TailE (x : Ent) (m : List Ent) (k : Nat) : Prop := ∀ j (h : j < m.length), k ≤ j → lessB x.1 m[j].1 = true
theorem TailE.start (x : Ent) (m : List Ent) : TailE x m m.length := fun j h hk => by omega
theorem TailE.step {x : Ent} {m : List Ent} {k : Nat} (hk : k < m.length) (h : TailE x m (k + 1)) (h1 : lessB x.1 m[k].1 = true) : TailE x m k := fun j hj hjk => by
  by_cases e : j = k
  · subst e; exact h1
  · exact h j hj (by omega)
theorem Put.start (es : List Ent) (n : Nat) : Put es n 0 [] := ⟨List.Perm.refl _, List.Pairwise.nil, fun e he => by simp at he, rfl⟩
theorem Put.next {es : List Ent} {n i : Nat} {m : List Ent} {k : Nat} (hi : i < es.length) (h : Put es n i m) (ho : entOk n es[i] = true) (hk : k ≤ m.length) (ht : TailE es[i] m k) (hb : ∀ h : 0 < k, lessB es[i].1 (m[k - 1]'(by omega)).1 = false) : Put es n (i + 1) (m.take k ++ [es[i]] ++ m.drop k) where
  perm := by
    rw [List.take_succ_eq_append_getElem hi]
    exact put_perm h.perm
  srt := put_sorted hk h.srt ht hb
  ok e he := by
    rw [List.take_succ_eq_append_getElem hi] at he
    rcases List.mem_append.1 he with he | he
    · exact h.ok e he
    · rw [List.mem_singleton.1 he]; exact ho
  len := by
    have := h.len
    simp only [List.length_append, List.length_take, List.length_drop, List.length_cons, List.length_nil]
    omega
theorem Put.mem {es : List Ent} {n i : Nat} {m : List Ent} (h : Put es n i m) {j : Nat} (hj : j < m.length) : m[j] ∈ es := List.mem_of_mem_take (h.perm.mem_iff.1 (List.getElem_mem hj))
theorem ents_box (w : World) (p : ByteArray) (z : Int) : EntsAt (w.alloc (.cells #[.string p, .int .i64 z] 49)) (.slice (some ⟨w.heap.size, 0, none⟩) 1 1) [(p, z)] :=
  (own_one flatE 49 w w.heap.size (Nat.le_refl _) (p, z)).row flatE

/-! ### The second loop -/
/-- What stands at each number: 0, or its place among those that have come up, plus one. -/
def atL (n : Nat) (o : List Int) : List Nat := (List.range n).map fun z : Nat => if (z : Int) ∈ o then o.idxOf (z : Int) + 1 else 0
theorem atL_len (n : Nat) (o : List Int) : (atL n o).length = n := by simp [atL]
theorem atL_nil (n : Nat) : atL n [] = List.replicate n 0 := by
  unfold atL
  refine List.ext_getElem (by simp) fun i h1 h2 => by simp
theorem atL_in {n : Nat} {o : List Int} {y : Nat} (h : y < (atL n o).length) (hy : (y : Int) ∈ o) : (atL n o)[y] = o.idxOf (y : Int) + 1 := by simp [atL, hy]
theorem atL_out {n : Nat} {o : List Int} {y : Nat} (h : y < (atL n o).length) (hy : (y : Int) ∉ o) : (atL n o)[y] = 0 := by simp [atL, hy]
theorem atL_snoc {n : Nat} {o : List Int} {y : Nat} (hy : (y : Int) ∉ o) : atL n (o ++ [(y : Int)]) = (atL n o).set y (o.length + 1) := by
  refine List.ext_getElem (by simp [atL]) fun i h1 h2 => ?_
  rw [List.getElem_set]
  by_cases e : y = i
  · subst e
    rw [if_pos rfl, atL_in _ (by simp), idx_new hy]
  · rw [if_neg e]
    by_cases hi : (i : Int) ∈ o
    · rw [atL_in _ (List.mem_append_left _ hi), atL_in _ hi, List.idxOf_append, if_pos hi]
    · rw [atL_out _ (by simp [hi]; omega), atL_out _ hi]
structure NumK (w5 w' : World) (vE vN : Value) (vs : List Nat) (oe : List Ent) (rs : List NV) : Prop where
  q : Q w5 w'
  box : BoxT w' w5.heap.size vE vN
  row : RowI w' (w5.heap.size + 1) vs
  re : OwnE w' (w5.heap.size + 2) vE oe
  rn : OwnN w' (w5.heap.size + 2) vN rs
theorem RowI.typ {Ts : List TypeId} {w w' : World} {g : Nat} {vs : List Nat} (h : RowI w g vs) (t : Typ Ts w w') (hT : 3 ∉ Ts) : RowI w' g vs := (t.2 g _ _ _ h hT).trans h
section
variable {w5 w' w2 : World} {vE vN : Value} {vs : List Nat} {oe : List Ent} {rs : List NV}
theorem NumK.size (h : NumK w5 w' vE vN vs oe rs) : w5.heap.size + 2 ≤ w'.heap.size := h.row.lt
theorem NumK.keep (h : NumK w5 w' vE vN vs oe rs) (q : Q w' w2) : NumK w5 w2 vE vN vs oe rs :=
  ⟨h.q.trans q, h.box.keep q, h.row.keep q, OwnR.keep h.re q, OwnR.keep h.rn q⟩
theorem NumK.at_ (h : NumK w5 w' vE vN vs oe rs) (i u : Nat) : NumK w5 (w'.setCell ⟨w5.heap.size + 1, i, none⟩ (.int .i64 (u : Nat))) vE vN (vs.set i u) oe rs := by
  have t : Typ [3] w' (w'.setCell ⟨w5.heap.size + 1, i, none⟩ (.int .i64 (u : Nat))) := Typ.set h.row (by simp) i _
  exact ⟨q_set h.q (by omega) i _, h.box.typ t (by decide), h.row.set i u, OwnR.typ h.re t (by decide), OwnR.typ h.rn t (by decide)⟩
theorem NumK.ent {v2 : Value} {oe2 : List Ent} (h : NumK w5 w' vE vN vs oe rs) (hg : w'.grownBy w2 vE.ownBlock) (h2 : OwnE w2 (w5.heap.size + 2) v2 oe2) : NumK w5 (w2.setCell ⟨w5.heap.size, 0, none⟩ v2) v2 vN vs oe2 rs := by
  have t : Typ [49, 25] w' w2 := Typ.grown h.re hg (by simp)
  have tE : Typ [49] w' w2 := Typ.grown h.re hg (by simp)
  have hb := h.box.typ tE (by decide)
  have ts : Typ [49, 25] w2 (w2.setCell ⟨w5.heap.size, 0, none⟩ v2) := Typ.set hb (by simp) 0 v2
  have tT : Typ [25] w2 (w2.setCell ⟨w5.heap.size, 0, none⟩ v2) := Typ.set hb (by simp) 0 v2
  have tt := t.trans ts
  have q2 : Q w5 w2 := Below.grown h.q hg h.q.size fun g e => by have := (OwnR.lt h.re g e).1; omega
  exact ⟨q_set q2 (Nat.le_refl _) 0 v2, hb.set0 v2, h.row.typ tt (by decide), OwnR.typ h2 tT (by decide), OwnR.typ h.rn tt (by decide)⟩
theorem NumK.node {v2 : Value} {rs2 : List NV} (h : NumK w5 w' vE vN vs oe rs) (hg : w'.grownBy w2 vN.ownBlock) (h2 : OwnN w2 (w5.heap.size + 2) v2 rs2) : NumK w5 (w2.setCell ⟨w5.heap.size, 1, none⟩ v2) vE v2 vs oe rs2 := by
  have t : Typ [47, 25] w' w2 := Typ.grown h.rn hg (by simp)
  have tE : Typ [47] w' w2 := Typ.grown h.rn hg (by simp)
  have hb := h.box.typ tE (by decide)
  have ts : Typ [47, 25] w2 (w2.setCell ⟨w5.heap.size, 1, none⟩ v2) := Typ.set hb (by simp) 1 v2
  have tT : Typ [25] w2 (w2.setCell ⟨w5.heap.size, 1, none⟩ v2) := Typ.set hb (by simp) 1 v2
  have tt := t.trans ts
  have q2 : Q w5 w2 := Below.grown h.q hg h.q.size fun g e => by have := (OwnR.lt h.rn g e).1; omega
  exact ⟨q_set q2 (Nat.le_refl _) 1 v2, hb.set1 v2, h.row.typ tt (by decide), OwnR.typ h.re tt (by decide), OwnR.typ h2 tT (by decide)⟩
end
theorem nodesAt_rows {w : World} {v : Value} {ns : List Nd} (h : NodesAt w v ns) : ∃ ts : List NV, ts.length = ns.length ∧ (∀ i (h : i < ts.length) (h' : i < ns.length), ts[i].n = ns[i]) ∧ (∀ x ∈ ts, InN w x) ∧ RowAt cellsN 12 w v ts := by
  obtain ⟨ts, h1, rfl, h3⟩ := h
  exact ⟨ts, by simp, fun i h h' => by simp, h3, h1⟩

/-! ### The last region of a round, by itself -/
def firstReg : Code → Option Nat
  | .region i _ _ => some i
  | .seq a _ => firstReg a
  | .block _ c => firstReg c
  | .loop c => firstReg c
  | .scope c => firstReg c
  | _ => none
/-- The greatest part of a text that begins with this region. -/
def findReg (k : Nat) : Code → Option Code
  | .seq a b => if firstReg (.seq a b) = some k then some (.seq a b) else match findReg k a with
    | some c => some c
    | none => findReg k b
  | .cond _ a b => match findReg k a with
    | some c => some c
    | none => findReg k b
  | .block _ c => findReg k c
  | .loop c => findReg k c
  | .scope c => findReg k c
  | .region i o m => if i = k then some (.region i o m) else none
  | _ => none
noncomputable def n22 : Code := (Tryz.f12.body.bind (findReg 22)).getD .skip
set_option maxRecDepth 100000 in
set_option maxHeartbeats 8000000 in
theorem n22_any {w5 wr : World} {vE vN : Value} {vs : List Nat} {oe : List Ent} {rs : List NV} {Q0 : Exit → Act → World → Prop} (g og mlen cM nlen k y ix : Nat) (p0 : ByteArray) (c0 c1 c2 c3 c5 c6 c7 c8 c13 c14 c15 c16 c17 c18 c19 c20 c21 c22 c23 c24 c25 c26 c27 c28 c29 c30 c31 c32 c33 c34 c35 c36 c37 c38 c39 c40 c41 c42 c43 c44 c45 c46 c47 c48 c49 c50 c51 c52 c53 c54 c55 c56 c57 c58 c59 c60 c61 c62 c63 c64 c65 c66 c67 c68 c69 c70 c71 c72 c73 c74 c75 c76 c77 c78 c79 c80 c81 c82 c83 c84 c85 c86 c87 c88 c89 c90 c91 c92 c93 c94 c95 c96 c97 c98 c99 c100 c101 c102 c103 c104 c105 c106 c107 c108 c109 c110 c111 c112 c113 c114 c115 c116 c117 c118 c119 c120 c121 c122 c123 c124 c125 c126 c127 c128 c129 : Value)
    (hj : NumK w5 wr vE vN vs oe rs) (cp : wr.cell? ⟨g, og + k * 2, none⟩ = some (.string p0)) (ca : wr.cell? ⟨w5.heap.size + 1, y, none⟩ = some (.int .i64 ((ix : Int) + 1))) (lt2 : (k : Int) < (mlen : Int)) (lt3 : (y : Int) < (nlen : Int)) (hoe : oe.length ≤ 90000) (hix : ix < 100000)
    (hexit : ∀ (d109 d110 d111 d112 d113 d114 d115 d116 d117 d118 d119 d120 d121 d122 d123 d124 v2 : Value) (w' : World), NumK w5 w' v2 vN vs (oe ++ [(p0, (ix : Int))]) rs → Q0 .normal ⟨#[c0, c1, c2, c3, .slice (some ⟨g, og, none⟩) mlen cM, c5, c6, c7, c8, .pointer (some ⟨w5.heap.size, 0, none⟩), .slice (some ⟨w5.heap.size + 1, 0, none⟩) nlen nlen, .int .i64 (k : Nat), .int .i64 (y : Nat), c13, c14, c15, c16, c17, c18, c19, c20, c21, c22, c23, c24, c25, c26, c27, c28, c29, c30, c31, c32, c33, c34, c35, c36, c37, c38, c39, c40, c41, c42, c43, c44, c45, c46, c47, c48, c49, c50, c51, c52, c53, c54, c55, c56, c57, c58, c59, c60, c61, c62, c63, c64, c65, c66, c67, c68, c69, c70, c71, c72, c73, c74, c75, c76, c77, c78, c79, c80, c81, c82, c83, c84, c85, c86, c87, c88, c89, c90, c91, c92, c93, c94, c95, c96, c97, c98, c99, c100, c101, c102, c103, c104, c105, c106, c107, c108, d109, d110, d111, d112, d113, d114, d115, d116, d117, d118, d119, d120, d121, d122, d123, d124, c125, c126, c127, c128, c129], []⟩ w') :
    Code.wp Tryz.prog n22 Q0 ⟨#[c0, c1, c2, c3, .slice (some ⟨g, og, none⟩) mlen cM, c5, c6, c7, c8, .pointer (some ⟨w5.heap.size, 0, none⟩), .slice (some ⟨w5.heap.size + 1, 0, none⟩) nlen nlen, .int .i64 (k : Nat), .int .i64 (y : Nat), c13, c14, c15, c16, c17, c18, c19, c20, c21, c22, c23, c24, c25, c26, c27, c28, c29, c30, c31, c32, c33, c34, c35, c36, c37, c38, c39, c40, c41, c42, c43, c44, c45, c46, c47, c48, c49, c50, c51, c52, c53, c54, c55, c56, c57, c58, c59, c60, c61, c62, c63, c64, c65, c66, c67, c68, c69, c70, c71, c72, c73, c74, c75, c76, c77, c78, c79, c80, c81, c82, c83, c84, c85, c86, c87, c88, c89, c90, c91, c92, c93, c94, c95, c96, c97, c98, c99, c100, c101, c102, c103, c104, c105, c106, c107, c108, c109, c110, c111, c112, c113, c114, c115, c116, c117, c118, c119, c120, c121, c122, c123, c124, c125, c126, c127, c128, c129], []⟩ wr := by
  have mixed : Tryz.prog.follows .mixedOrders = true := by kernel_rfl
  have HX := Lib.hid hexit
  clear hexit
  have nn3 : (0 : Int) ≤ (y : Int) := by omega
  have w5s : IntKind.i64.wrap (ix : Int) = ix := IntWalk.i64_in _ (by omega)
  obtain ⟨b2, b3⟩ := hj.box.cells
  have hjo := Lib.hid hj
  have hbl := hj.box.lt
  have hgb := World.block_lt_of_cell? wr _ cp
  have hra := hj.row.lt
  clear hj
  refine Code.wp_mono (Q := Exit.then (fun a w => Q0 .normal a w) (fun _ _ _ => False)) ?_ ?_
  · intro e a w h
    cases e <;> first | exact h | exact h.elim
  conv => arg 2; whnf
  go_region_law (first | (refine step_append_ent rfl (.tmp 110) (.tmp 122) rfl (w5.heap.size + 2) vE oe (by simp [Act.eval]) (OwnR.keep hjo.out.re (((Q.refl wr).alloc _).drew)) (.slice (some ⟨wr.heap.size, 0, none⟩) 1 1) [(p0, (ix : Int))] (by simp [Act.eval]) (ents_built wr p0 ix) (by simp; omega) (by have := hjo.out.size; show _ ≤ (wr.alloc _).heap.size; rw [World.size_alloc]; omega) ?_; intro v9 w9 hown9 hg9; have hj9 := Lib.hid (hjo.out.keep (((Q.refl wr).alloc (.cells #[.string p0, .int .i64 (ix : Int)] 49)).drew)); obtain ⟨m0, m1⟩ := (hj9.out.box.typ (Typ.grown (Ts := [49]) hj9.out.re hg9 (by simp)) (by decide)).cells; have ms := (hj9.out.box.typ (Typ.grown (Ts := [49]) hj9.out.re hg9 (by simp)) (by decide)).soft; obtain ⟨A9, n9, rfl⟩ := OwnR.form flatE hown9))
  all_goals
    have hjz := hj9.out.ent hg9 hown9
    rw [show (oe ++ [(p0, (ix : Int))]).length = oe.length + 1 by simp] at hjz
    have HZ := Lib.hid hjz
    clear hj9 hg9 hown9 m0 m1 ms hjz
    go_wp2
    exact HX.out _ _ _ _ _ _ _ _ _ _ _ _ _ _ _ _ _ _ HZ.out
def NormPostR (t : Tree) (w : World) (e : Ending) (w' : World) : Prop := ∃ v, e = .returned (.tuple #[v, .int .i64 (resC (normT t.1 t.2))]) ∧ TreeAt w' v (resT (normT t.1 t.2)) ∧ Q w w'
/-- The rows are the call's own, the nodes those that came in. -/
def NormPostO (es : List Ent) (ts : List NV) (w : World) (e : Ending) (w' : World) : Prop := ∃ (vE vN : Value) (rs : List NV), e = .returned (.tuple #[.agg #[vE, vN], .int .i64 (resC (normT es (ts.map (·.n))))]) ∧
  OwnE w' w.heap.size vE (resT (normT es (ts.map (·.n)))).1 ∧ OwnN w' w.heap.size vN rs ∧ rs.map (·.n) = (resT (normT es (ts.map (·.n)))).2 ∧ (∀ x ∈ rs, x ∈ ts) ∧ Q w w'
set_option maxRecDepth 100000 in
set_option maxHeartbeats 8000000 in
theorem rNormO_any (ve vn : Value) (es : List Ent) (ts : List NV) (w : World) (he : EntsAt w ve es) (hr : RowAt cellsN 12 w vn ts) (hti : ∀ x ∈ ts, InN w x) (hf : Fits (es, ts.map (·.n))) :
    Calls Tryz.prog 12 #[.agg #[ve, vn]] w (NormPostO es ts w) := by
  unfold NormPostO
  have mixed : Tryz.prog.follows .mixedOrders = true := by kernel_rfl
  have hn : NodesAt w vn (ts.map (·.n)) := ⟨ts, hr, rfl, hti⟩
  have htl : ts.length = (ts.map (·.n)).length := (List.length_map _).symm
  have htn : ∀ i (h : i < ts.length) (h' : i < (ts.map (·.n)).length), ts[i].n = (ts.map (·.n))[i] := fun i h h' => by simp
  generalize ts.map (·.n) = ns at *
  have he20 := hf.ents
  have hpa := hf.path
  have hn20 := hf.nodes
  simp only at he20 hpa hn20
  have HFit : Hid (∀ r : List Ent, Placed es ns.length → r.Perm es → Fits (numT r ns)) := fun r hp hr => fits_numT hf hp hr
  obtain ⟨A, c, rfl⟩ := he.form
  obtain ⟨B, d, rfl⟩ := hn.form
  have x1 := BoxT.new w (.slice A es.length c) (.slice B ns.length d)
  have y1 := BoxT.new (w.alloc (.cells #[.slice A es.length c, .slice B ns.length d] 25)) (.slice none 0 0) (.slice none 0 0)
  rw [World.size_alloc] at y1
  replace x1 := x1.keep ((Q.refl _).alloc (.cells #[.slice none 0 0, .slice none 0 0] 25))
  have q1 : Q w ((w.alloc (.cells #[.slice A es.length c, .slice B ns.length d] 25)).alloc (.cells #[.slice none 0 0, .slice none 0 0] 25)) := ((Q.refl w).alloc _).alloc _
  have HE : Hid (∀ w', Q w w' → EntsAt w' (.slice A es.length c) es) := fun w' q => he.keep q
  have HN : Hid (∀ w', Q w w' → NodesAt w' (.slice B ns.length d) ns) := fun w' q => hn.keep q
  have HTI := Lib.hid hti
  have HTN := Lib.hid htn
  have HTR := Lib.hid (fun w' (q : Q w w') => hr.keep q)
  have HTL := Lib.hid htl
  clear hf he hn hti htn hr htl
  go_enter Tryz.func12, Tryz.ntmps12
  go_wp2
  have hw1 : Hid (((w.alloc (.cells #[.slice A es.length c, .slice B ns.length d] 25)).alloc (.cells #[.slice none 0 0, .slice none 0 0] 25)).heap.size = w.heap.size + 2) := by
    show _ = _
    rw [World.size_alloc, World.size_alloc]
  generalize (w.alloc (.cells #[.slice A es.length c, .slice B ns.length d] 25)).alloc (.cells #[.slice none 0 0, .slice none 0 0] 25) = w1 at *
  go_loopw [4, 5] (fun lv iv wr => ∃ (i : Nat) (m : List Ent), iv = .int .i64 i ∧ i ≤ es.length ∧ Q w1 wr ∧ OwnE wr w1.heap.size lv m ∧ Hid (Put es ns.length i m)) (fun _ iv _ => es.length - (intOf iv).toNat)
  case atStart => exact ⟨0, [], rfl, by omega, Q.refl _, OwnR.nil_ _ _ _, Put.start _ _⟩
  case round =>
    obtain ⟨i, m, rfl, hi, hq, hown, H⟩ := hrel
    have hqw := q1.trans hq
    obtain ⟨b0, b1⟩ := (x1.keep hq).cells
    have hsz := hq.size
    have hszw : w.heap.size + 2 ≤ w1.heap.size := Nat.le_of_eq hw1.out.symm
    by_cases hlt : i < es.length
    · have lt2 : (i : Int) < (es.length : Int) := by omega
      obtain ⟨g, o, _, ea, _, _, hc⟩ := (HE.out _ hqw).at_ (by omega)
      cases ea
      obtain ⟨c1, c2⟩ := hc i hlt
      have hx := hpa _ (List.getElem_mem hlt)
      have En : Hid (entOk ns.length es[i] = false → normT es ns = none) := fun h => norm_bad (List.getElem_mem hlt) h
      have Hn : Hid (entOk ns.length es[i] = true → ∀ k, k ≤ m.length → TailE es[i] m k → (∀ (h : 0 < k) (h' : k ≤ m.length), lessB es[i].1 (m[k - 1]'(by omega)).1 = false) → Put es ns.length (i + 1) (m.take k ++ [es[i]] ++ m.drop k)) := fun ho k hk ht hb => H.out.next hlt ho hk ht (fun h => hb h hk)
      have hml : m.length ≤ 20000 := by have := H.out.len; omega
      have hmp : Hid (∀ j (h : j < m.length), m[j].1.size ≤ 90000) := fun j h => hpa _ (H.out.mem h)
      have HM : Hid (∀ w, Calls Tryz.prog 38 #[.string es[i].1] w fun e w' => e = .returned (.bool (Pa.mayB es[i].1)) ∧ Grew w w') := fun w => (Pa.rmay_any es[i].1 w (by omega)).mono fun e w' h => ⟨h.1, h.2.grew⟩
      have eb := box_at wr (.string es[i].1) (.int .i64 es[i].2) 49
      have hq2 : Q w1 (wr.alloc (.cells #[.string es[i].1, .int .i64 es[i].2] 49)) := hq.alloc _
      have hown2 : OwnE (wr.alloc (.cells #[.string es[i].1, .int .i64 es[i].2] 49)) w1.heap.size u4 m := OwnR.keep hown ((Q.refl wr).alloc _)
      have hbe : wr.heap.size < (wr.alloc (.cells #[.string es[i].1, .int .i64 es[i].2] 49)).heap.size := by rw [World.size_alloc]; omega
      clear hc H hown
      generalize es[i] = x at *
      obtain ⟨p0, z⟩ := x
      simp only at c1 c2 hx HM eb hq2 hown2 hbe
      obtain ⟨hE1, hE2⟩ := eb
      have b1x := ((Q.refl wr).alloc (.cells #[.string p0, .int .i64 z] 49)).cell b1
      cases hm : Pa.mayB p0
      · rw [hm] at HM
        have EE := Lib.hid (En.out (by simp [entOk, hm]))
        clear En Hn
        go_wp2_with fail
        refine (HM.out _).mono ?_
        rintro e w3 ⟨rfl, g3⟩
        have yb := y1.keep (hq2.trans g3.q)
        have qz := q1.trans (hq2.trans g3.q)
        have ys := yb.soft
        obtain ⟨y0, y0'⟩ := yb.cells
        go_wp2
        have yz : BoxT ((w3.setCell ⟨w.heap.size + 1, 0, none⟩ (.slice none 0 0)).setCell ⟨w.heap.size + 1, 1, none⟩ (.slice none 0 0)) (w.heap.size + 1) (.slice none 0 0) (.slice none 0 0) := (yb.set0 _).set1 _
        have qe : Q w ((w3.setCell ⟨w.heap.size + 1, 0, none⟩ (.slice none 0 0)).setCell ⟨w.heap.size + 1, 1, none⟩ (.slice none 0 0)) := q_set (q_set qz (Nat.le_succ _) 0 _) (Nat.le_succ _) 1 _
        obtain ⟨z0, z1⟩ := yz.cells
        refine bodyPost_ret (v := .tuple #[.agg #[.slice none 0 0, .slice none 0 0], .int .i64 1]) (by simp [results, Tryz.results12, go_sem, z0, z1]) rfl ?_
        exact ⟨_, _, [], by rw [EE.out]; rfl, by rw [EE.out]; exact OwnR.nil_ _ _ _, OwnR.nil_ _ _ _, by rw [EE.out]; rfl, fun x hx => (by cases hx), by first | exact qe | exact qz⟩
      rw [hm] at HM
      by_cases hz0 : z < 0
      · have t3 := decide_eq_true hz0
        have EE := Lib.hid (En.out (by simp [entOk]; intro _ h; omega))
        clear En Hn
        go_wp2_with fail
        refine (HM.out _).mono ?_
        rintro e w3 ⟨rfl, g3⟩
        have hE1' := g3.q.cell hE1
        have hE2' := g3.q.cell hE2
        have yb := y1.keep (hq2.trans g3.q)
        have qz := q1.trans (hq2.trans g3.q)
        have ys := yb.soft
        obtain ⟨y0, y0'⟩ := yb.cells
        go_wp2
        have yz : BoxT ((w3.setCell ⟨w.heap.size + 1, 0, none⟩ (.slice none 0 0)).setCell ⟨w.heap.size + 1, 1, none⟩ (.slice none 0 0)) (w.heap.size + 1) (.slice none 0 0) (.slice none 0 0) := (yb.set0 _).set1 _
        have qe : Q w ((w3.setCell ⟨w.heap.size + 1, 0, none⟩ (.slice none 0 0)).setCell ⟨w.heap.size + 1, 1, none⟩ (.slice none 0 0)) := q_set (q_set qz (Nat.le_succ _) 0 _) (Nat.le_succ _) 1 _
        obtain ⟨z0, z1⟩ := yz.cells
        refine bodyPost_ret (v := .tuple #[.agg #[.slice none 0 0, .slice none 0 0], .int .i64 1]) (by simp [results, Tryz.results12, go_sem, z0, z1]) rfl ?_
        exact ⟨_, _, [], by rw [EE.out]; rfl, by rw [EE.out]; exact OwnR.nil_ _ _ _, OwnR.nil_ _ _ _, by rw [EE.out]; rfl, fun x hx => (by cases hx), by first | exact qe | exact qz⟩
      have t3 := decide_eq_false hz0
      by_cases hz1 : (ns.length : Int) ≤ z
      · have t4 := decide_eq_true hz1
        have EE := Lib.hid (En.out (by simp [entOk]; intro _ _; omega))
        clear En Hn
        go_wp2_with fail
        refine (HM.out _).mono ?_
        rintro e w3 ⟨rfl, g3⟩
        have hE1' := g3.q.cell hE1
        have hE2' := g3.q.cell hE2
        have b1' := g3.q.cell b1x
        have yb := y1.keep (hq2.trans g3.q)
        have qz := q1.trans (hq2.trans g3.q)
        have ys := yb.soft
        obtain ⟨y0, y0'⟩ := yb.cells
        go_wp2
        have yz : BoxT ((w3.setCell ⟨w.heap.size + 1, 0, none⟩ (.slice none 0 0)).setCell ⟨w.heap.size + 1, 1, none⟩ (.slice none 0 0)) (w.heap.size + 1) (.slice none 0 0) (.slice none 0 0) := (yb.set0 _).set1 _
        have qe : Q w ((w3.setCell ⟨w.heap.size + 1, 0, none⟩ (.slice none 0 0)).setCell ⟨w.heap.size + 1, 1, none⟩ (.slice none 0 0)) := q_set (q_set qz (Nat.le_succ _) 0 _) (Nat.le_succ _) 1 _
        obtain ⟨z0, z1⟩ := yz.cells
        refine bodyPost_ret (v := .tuple #[.agg #[.slice none 0 0, .slice none 0 0], .int .i64 1]) (by simp [results, Tryz.results12, go_sem, z0, z1]) rfl ?_
        exact ⟨_, _, [], by rw [EE.out]; rfl, by rw [EE.out]; exact OwnR.nil_ _ _ _, OwnR.nil_ _ _ _, by rw [EE.out]; rfl, fun x hx => (by cases hx), by first | exact qe | exact qz⟩
      have t4 := decide_eq_false hz1
      have N := Lib.hid (Hn.out (by simp [entOk, hm]; omega))
      clear Hn En hm
      go_wp2_with fail
      refine (HM.out _).mono ?_
      rintro e w3 ⟨rfl, g3⟩
      have hE1' := g3.q.cell hE1
      have hE2' := g3.q.cell hE2
      have b1' := g3.q.cell b1x
      have hown3 : OwnE w3 w1.heap.size u4 m := OwnR.keep hown2 g3.q
      have hq3 := hq2.trans g3.q
      have hbe3 : wr.heap.size < w3.heap.size := Nat.lt_of_lt_of_le hbe g3.q.size
      have hf : (∃ gm cm, u4 = .slice (some ⟨gm, 0, none⟩) m.length cm ∧ m.length ≤ cm ∧ cm ≤ maxLen) ∨ u4 = .slice none 0 0 ∧ m = [] := by
        rcases hown3.2 with ⟨e, hn⟩ | ⟨gm, cm, cur, e, _, _, h1, h2, _⟩
        · exact .inr ⟨e, List.eq_nil_of_length_eq_zero hn⟩
        · exact .inl ⟨gm, cm, e, h1, h2⟩
      clear c1 c2 hown2 hq2 hE1 hE2 b0 b1 b1x hqw hbe g3 HM
      generalize wr.heap.size = be at *
      rcases hf with ⟨gm, cm, rfl, hcm, hcm2⟩ | ⟨rfl, rfl⟩
      · unfold maxLen at hcm2
        go_wp2_with fail
        go_loopw [7] (fun kv wi => ∃ k : Nat, kv = .int .i64 k ∧ k ≤ m.length ∧ Grew w3 wi ∧ Hid (TailE (p0, z) m k)) (fun kv _ => (intOf kv).toNat)
        case atStart => exact ⟨m.length, rfl, Nat.le_refl _, Grew.refl _, TailE.start (p0, z) m⟩
        case round =>
          obtain ⟨k, rfl, hk, g2, T⟩ := hrel
          have c1 := g2.q.cell hE1'
          have c2 := g2.q.cell hE2'
          have hgb := World.block_lt_of_cell? wr _ c1
          have f1 := cell_grown (a := ⟨be, 0, none⟩) hgb c1
          have f2 := cell_grown (a := ⟨be, 1, none⟩) hgb c2
          by_cases h0 : k = 0
          · subst h0
            have E : Hid (Put es ns.length (i + 1) ([] ++ [(p0, z)] ++ m)) := Lib.hid (by
              have := N.out 0 (by omega) T.out (fun h => by omega)
              simpa using this)
            clear T
            go_wp2_with fail
            (refine wp_region_quiet_grown (by assumption) (by kernel_rfl) ?_; (repeat (go_big_quiet_step (fail))); refine wpQuiet_nil ?_; intro _ hw'; obtain ⟨⟨nq, osq⟩, hw2⟩ := hw'; subst hw2)
            have hqW := hq3.trans (g2.trans ⟨_, _, rfl⟩ : Grew w3 (Go.Sort.grow (wr.drewN nq) osq)).q
            have hownW : OwnE (Go.Sort.grow (wr.drewN nq) osq) w1.heap.size (.slice (some ⟨gm, 0, none⟩) m.length cm) m := OwnR.keep hown3 (g2.trans ⟨_, _, rfl⟩ : Grew w3 (Go.Sort.grow (wr.drewN nq) osq)).q
            have ca1 := f1 nq osq
            have ca2 := f2 nq osq
            clear f1 f2 c1 c2 hgb g2
            generalize Go.Sort.grow (wr.drewN nq) osq = wr at *
            have hszW := hqW.size
            have mk : EntsAt wr (.slice (some ⟨gm, 0, none⟩) 0 cm) [] := .inl ⟨rfl, _, _, rfl, fun e => by cases e⟩
            have hd : ∀ w', Q wr w' → EntsAt w' (.slice (some ⟨gm, 0, none⟩) m.length cm) m := fun w' q => (OwnR.row flatE hownW).keep q
            have hle : (0 : Int) ≤ (m.length : Int) := by omega
            go_wp2_with (at_builtin; refine wpList_append_ent rfl (.tmp 60) (.tmp 63) rfl wr.heap.size _ [] rfl (own_empty 49 wr _ (Nat.le_refl _)) _ ([]) rfl (mk.keep ((Q.refl wr).alloc _)) (by simp; try omega) (by rw [World.size_alloc]; omega) ?_)
            intro v3 w3 hown3 hg3
            try intro _
            replace hown3 : OwnE w3 wr.heap.size v3 ([]) := hown3
            have q3 : Q wr w3 := Below.grown ((Q.refl wr).alloc _) hg3 (by rw [World.size_alloc]; omega) fun g hg => by cases hg; exact Nat.le_refl _
            have hsz3 := q3.size
            clear hg3 mk
            have r1 := q3.cell ca1
            have r2 := q3.cell ca2
            clear ca1 ca2
            go_wp2_with fail
            go_region_law (first
              | (refine step_append_ent rfl (.tmp 65) (.tmp 67) rfl wr.heap.size v3 ([]) (by simp [Act.eval]) (OwnR.keep hown3 (((Q.refl w3).alloc _).drew)) (.slice (some ⟨w3.heap.size, 0, none⟩) 1 1) [(p0, z)] (by simp [Act.eval]) (ents_built w3 p0 z) (by simp; try omega) (by show _ ≤ (w3.alloc _).heap.size; rw [World.size_alloc]; omega) ?_; intro v5 w5 hown5 hg5)
              | (refine step_append_ent rfl (.tmp 68) (.tmp 71) rfl wr.heap.size v5 (([]) ++ [(p0, z)]) (by simp [Act.eval]) hown5 (.slice (some ⟨gm, 0, none⟩) m.length cm) (m) (by simp [Act.eval]) (hd w5 (Below.grown ((q3.alloc _).drew) hg5 ((q3.alloc _).drew.size) fun g hg => (OwnR.lt hown3 g hg).1)) (by simp; try omega) ((Below.grown ((q3.alloc _).drew) hg5 ((q3.alloc _).drew.size) fun g hg => (OwnR.lt hown3 g hg).1 : Q wr w5).size) ?_; intro v6 w6 hown6 hg6))
            all_goals
              have q5 : Q wr w5 := Below.grown ((q3.alloc _).drew) hg5 ((q3.alloc _).drew.size) fun g hg => (OwnR.lt hown3 g hg).1
              have q6 : Q wr w6 := Below.grown q5 hg6 q5.size fun g hg => (OwnR.lt hown5 g hg).1
              have hown7 : OwnE w6 w1.heap.size v6 (([]) ++ [(p0, z)] ++ (m)) := OwnR.mono hown6 hszW
              clear hown6 hown5 hg6 hg5 hown3 hd q5 q3
              go_wp2
              go_roundw
              case rel => exact ⟨i + 1, _, by go_num, by omega, hqW.trans q6, hown7, E⟩
              case measure => simp [intOf]; omega
          · obtain ⟨j, rfl⟩ : ∃ j, k = j + 1 := ⟨k - 1, by omega⟩
            obtain ⟨gm2, om, cm2, eM, _, _, hmc⟩ := EntsAt.at_ ((OwnR.row flatE hown3).keep g2.q) (by omega)
            cases eM
            obtain ⟨d1, d2⟩ := hmc j (by omega)
            have hgd := World.block_lt_of_cell? wr _ d1
            have f3 : ∀ n os, (Go.Sort.grow (wr.drewN n) os).cell? ⟨gm, j * 2, none⟩ = some (.string (m[j]'(by omega)).1) := by
              have := cell_grown (a := ⟨gm, 0 + j * 2, none⟩) hgd d1
              simpa using this
            have hy := hmp.out j (by omega)
            have Tn : Hid (lessB p0 (m[j]'(by omega)).1 = true → TailE (p0, z) m j) := fun h => T.out.step (by omega) h
            have NX : Hid (lessB p0 (m[j]'(by omega)).1 = false → Put es ns.length (i + 1) (m.take (j + 1) ++ [(p0, z)] ++ m.drop (j + 1))) := fun hb => N.out (j + 1) hk T.out (fun h h' => by simpa using hb)
            have HL := Lib.hid (fun w => (Pa.rless_any p0 (m[j]'(by omega)).1 w (by omega) (by omega)).mono fun e w' (h : e = .returned (.bool (lessB p0 (m[j]'(by omega)).1)) ∧ Pa.Q w w') => (⟨h.1, h.2.grew⟩ : e = .returned (.bool (lessB p0 (m[j]'(by omega)).1)) ∧ Grew w w'))
            clear hmc T d1 d2
            generalize (m[j]'(by omega)).1 = y at *
            have wr2 : IntKind.i64.wrap (j : Int) = j := IntWalk.i64_in _ (by omega)
            have nn2 : (0 : Int) ≤ (j : Int) := by omega
            have nn3 : (0 : Int) ≤ (j : Int) + 1 := by omega
            have t5 : decide ((0 : Int) < (j : Int) + 1) = true := decide_eq_true (by omega)
            have lt3 : (j : Int) < (m.length : Int) := by omega
            rw [show ((j + 1 : Nat) : Int) = (j : Int) + 1 from rfl] at *
            cases hx2 : lessB p0 y
            · rw [hx2] at HL
              have E := Lib.hid (NX.out hx2)
              clear hx2 Tn NX
              go_wp2_with fail
              (refine wp_region_quiet_grown (by assumption) (by kernel_rfl) ?_; (repeat (go_big_quiet_step ((go_at_call 32; exact Grew.calls (HL.out _))))); refine wpQuiet_nil ?_; intro _ hw'; obtain ⟨⟨nq, osq⟩, hw2⟩ := hw'; subst hw2)
              have hqW := hq3.trans (g2.trans ⟨_, _, rfl⟩ : Grew w3 (Go.Sort.grow (wr.drewN nq) osq)).q
              have hownW : OwnE (Go.Sort.grow (wr.drewN nq) osq) w1.heap.size (.slice (some ⟨gm, 0, none⟩) m.length cm) m := OwnR.keep hown3 (g2.trans ⟨_, _, rfl⟩ : Grew w3 (Go.Sort.grow (wr.drewN nq) osq)).q
              have ca1 := f1 nq osq
              have ca2 := f2 nq osq
              clear f1 f2 f3 c1 c2 hgb hgd HL g2
              generalize Go.Sort.grow (wr.drewN nq) osq = wr at *
              have hszW := hqW.size
              have mk : EntsAt wr (.slice (some ⟨gm, 0, none⟩) (j + 1) cm) (m.take (j + 1)) := row_take (OwnR.row flatE hownW) hk (by omega)
              have hd : ∀ w', Q wr w' → EntsAt w' (.slice (if cm = j + 1 then some ⟨gm, 0, none⟩ else some ⟨gm, (j + 1) * 2, none⟩) (m.length - (j + 1)) (cm - (j + 1))) (m.drop (j + 1)) := fun w' q => by
                split
                · exact row_drop ((OwnR.row flatE hownW).keep q) rfl hk _ _ (fun _ => by omega) (by omega) (by unfold maxLen; omega)
                · exact row_drop ((OwnR.row flatE hownW).keep q) rfl hk _ _ (fun _ => by omega) (by omega) (by unfold maxLen; omega)
              have hle : (j : Int) + 1 ≤ (m.length : Int) := by omega
              go_wp2_with (at_builtin; refine wpList_append_ent rfl (.tmp 60) (.tmp 63) rfl wr.heap.size _ [] rfl (own_empty 49 wr _ (Nat.le_refl _)) _ (m.take (j + 1)) rfl (mk.keep ((Q.refl wr).alloc _)) (by simp; try omega) (by rw [World.size_alloc]; omega) ?_)
              intro v3 w3 hown3 hg3
              try intro _
              replace hown3 : OwnE w3 wr.heap.size v3 (m.take (j + 1)) := hown3
              have q3 : Q wr w3 := Below.grown ((Q.refl wr).alloc _) hg3 (by rw [World.size_alloc]; omega) fun g hg => by cases hg; exact Nat.le_refl _
              have hsz3 := q3.size
              clear hg3 mk
              have r1 := q3.cell ca1
              have r2 := q3.cell ca2
              clear ca1 ca2
              go_wp2_with fail
              go_region_law (first
                | (refine step_append_ent rfl (.tmp 65) (.tmp 67) rfl wr.heap.size v3 (m.take (j + 1)) (by simp [Act.eval]) (OwnR.keep hown3 (((Q.refl w3).alloc _).drew)) (.slice (some ⟨w3.heap.size, 0, none⟩) 1 1) [(p0, z)] (by simp [Act.eval]) (ents_built w3 p0 z) (by simp; try omega) (by show _ ≤ (w3.alloc _).heap.size; rw [World.size_alloc]; omega) ?_; intro v5 w5 hown5 hg5)
                | (refine step_append_ent rfl (.tmp 68) (.tmp 71) rfl wr.heap.size v5 ((m.take (j + 1)) ++ [(p0, z)]) (by simp [Act.eval]) hown5 (.slice (if cm = j + 1 then some ⟨gm, 0, none⟩ else some ⟨gm, (j + 1) * 2, none⟩) (m.length - (j + 1)) (cm - (j + 1))) (m.drop (j + 1)) (by simp [Act.eval]) (hd w5 (Below.grown ((q3.alloc _).drew) hg5 ((q3.alloc _).drew.size) fun g hg => (OwnR.lt hown3 g hg).1)) (by simp; try omega) ((Below.grown ((q3.alloc _).drew) hg5 ((q3.alloc _).drew.size) fun g hg => (OwnR.lt hown3 g hg).1 : Q wr w5).size) ?_; intro v6 w6 hown6 hg6))
              all_goals
                have q5 : Q wr w5 := Below.grown ((q3.alloc _).drew) hg5 ((q3.alloc _).drew.size) fun g hg => (OwnR.lt hown3 g hg).1
                have q6 : Q wr w6 := Below.grown q5 hg6 q5.size fun g hg => (OwnR.lt hown5 g hg).1
                have hown7 : OwnE w6 w1.heap.size v6 ((m.take (j + 1)) ++ [(p0, z)] ++ (m.drop (j + 1))) := OwnR.mono hown6 hszW
                clear hown6 hown5 hg6 hg5 hown3 hd q5 q3
                go_wp2
                go_roundw
                case rel => exact ⟨i + 1, _, by go_num, by omega, hqW.trans q6, hown7, E⟩
                case measure => simp [intOf]; omega
            · rw [hx2] at HL
              have E := Lib.hid (Tn.out hx2)
              clear hx2 Tn NX
              go_wp2_with fail
              (refine wp_region_quiet_grown (by assumption) (by kernel_rfl) ?_; (repeat (go_big_quiet_step ((go_at_call 32; exact Grew.calls (HL.out _))))); refine wpQuiet_nil ?_; intro _ hw'; obtain ⟨⟨nq, osq⟩, hw2⟩ := hw'; subst hw2)
              go_wp2
              go_roundw
              case rel => exact ⟨j, by go_num, by omega, g2.trans ⟨_, _, rfl⟩, E⟩
              case measure => simp [intOf]
      · have E0 : Hid (Put es ns.length (i + 1) ([] ++ [(p0, z)] ++ [])) := Lib.hid (by
          have := N.out 0 (by omega) (TailE.start (p0, z) []) (fun h => by omega)
          simpa using this)
        go_wp2_with fail
        go_loopw [7] (fun kv wi => kv = .int .i64 0 ∧ wi = w3) (fun kv _ => (intOf kv).toNat)
        case atStart => exact ⟨rfl, rfl⟩
        case round =>
          obtain ⟨rfl, rfl⟩ := hrel
          have E := E0
          have hgb := World.block_lt_of_cell? wr _ hE1'
          have f1 := cell_grown (a := ⟨be, 0, none⟩) hgb hE1'
          have f2 := cell_grown (a := ⟨be, 1, none⟩) hgb hE2'
          go_wp2_with fail
          (refine wp_region_quiet_grown (by assumption) (by kernel_rfl) ?_; (repeat (go_big_quiet_step (fail))); refine wpQuiet_nil ?_; intro _ hw'; obtain ⟨⟨nq, osq⟩, hw2⟩ := hw'; subst hw2)
          have hqW := hq3.trans (Grew.q ⟨_, _, rfl⟩ : Q wr (Go.Sort.grow (wr.drewN nq) osq))
          have ca1 := f1 nq osq
          have ca2 := f2 nq osq
          clear f1 f2 hE1' hE2' hgb hown3 hq3 b1' hbe3
          generalize Go.Sort.grow (wr.drewN nq) osq = wr at *
          have hszW := hqW.size
          have mk : EntsAt wr (.slice none 0 0) [] := EntsAt.nil_ _
          have hd : ∀ w', Q wr w' → EntsAt w' (.slice none 0 0) [] := fun w' _ => EntsAt.nil_ _
          go_wp2_with (at_builtin; refine wpList_append_ent rfl (.tmp 60) (.tmp 63) rfl wr.heap.size _ [] rfl (own_empty 49 wr _ (Nat.le_refl _)) _ ([]) rfl (mk.keep ((Q.refl wr).alloc _)) (by simp; try omega) (by rw [World.size_alloc]; omega) ?_)
          intro v3 w3 hown3 hg3
          try intro _
          replace hown3 : OwnE w3 wr.heap.size v3 ([]) := hown3
          have q3 : Q wr w3 := Below.grown ((Q.refl wr).alloc _) hg3 (by rw [World.size_alloc]; omega) fun g hg => by cases hg; exact Nat.le_refl _
          have hsz3 := q3.size
          clear hg3 mk
          have r1 := q3.cell ca1
          have r2 := q3.cell ca2
          clear ca1 ca2
          go_wp2_with fail
          go_region_law (first
            | (refine step_append_ent rfl (.tmp 65) (.tmp 67) rfl wr.heap.size v3 ([]) (by simp [Act.eval]) (OwnR.keep hown3 (((Q.refl w3).alloc _).drew)) (.slice (some ⟨w3.heap.size, 0, none⟩) 1 1) [(p0, z)] (by simp [Act.eval]) (ents_built w3 p0 z) (by simp; try omega) (by show _ ≤ (w3.alloc _).heap.size; rw [World.size_alloc]; omega) ?_; intro v5 w5 hown5 hg5)
            | (refine step_append_ent rfl (.tmp 68) (.tmp 71) rfl wr.heap.size v5 (([]) ++ [(p0, z)]) (by simp [Act.eval]) hown5 (.slice none 0 0) ([]) (by simp [Act.eval]) (hd w5 (Below.grown ((q3.alloc _).drew) hg5 ((q3.alloc _).drew.size) fun g hg => (OwnR.lt hown3 g hg).1)) (by simp; try omega) ((Below.grown ((q3.alloc _).drew) hg5 ((q3.alloc _).drew.size) fun g hg => (OwnR.lt hown3 g hg).1 : Q wr w5).size) ?_; intro v6 w6 hown6 hg6))
          all_goals
            have q5 : Q wr w5 := Below.grown ((q3.alloc _).drew) hg5 ((q3.alloc _).drew.size) fun g hg => (OwnR.lt hown3 g hg).1
            have q6 : Q wr w6 := Below.grown q5 hg6 q5.size fun g hg => (OwnR.lt hown5 g hg).1
            have hown7 : OwnE w6 w1.heap.size v6 (([]) ++ [(p0, z)] ++ ([])) := OwnR.mono hown6 hszW
            clear hown6 hown5 hg6 hg5 hown3 hd q5 q3
            go_wp2
            go_roundw
            case rel => exact ⟨i + 1, _, by go_num, by omega, hqW.trans q6, hown7, E⟩
            case measure => simp [intOf]; omega
    · obtain rfl : i = es.length := by omega
      have hPm : m.Perm es := by have := H.out.perm; rwa [List.take_length] at this
      have hOk : ∀ e ∈ es, entOk ns.length e = true := by have := H.out.ok; rwa [List.take_length] at this
      have HNF := Lib.hid (norm_ref (ns := ns) hPm H.out.srt hOk)
      have hpl : Placed es ns.length := fun e he => by
        have := hOk e he
        unfold entOk at this
        simp only [Bool.and_eq_true, decide_eq_true_eq] at this
        exact ⟨this.1.2, this.2⟩
      have hplm : Hid (∀ (j : Nat) (h : j < m.length), 0 ≤ m[j].2 ∧ m[j].2 < (ns.length : Int)) := fun j h => hpl _ (hPm.mem_iff.1 (List.getElem_mem h))
      have HF2 := Lib.hid (HFit.out m hpl hPm)
      have hml : m.length ≤ 20000 := by have := H.out.len; omega
      clear H hpl hOk hPm HFit hi hlt hpa
      have hqw5 := q1.trans hq
      have HL5 : Hid (∀ w', Q wr w' → EntsAt w' u4 m) := fun w' q => (OwnR.row flatE hown).keep q
      have hx5 : Hid (∀ w', Q wr w' → BoxT w' w.heap.size (.slice A es.length c) (.slice B ns.length d)) := fun w' q => x1.keep (hq.trans q)
      have hy5 : Hid (∀ w', Q wr w' → BoxT w' (w.heap.size + 1) (.slice none 0 0) (.slice none 0 0)) := fun w' q => y1.keep (hq.trans q)
      obtain ⟨M, cM, rfl⟩ := OwnR.form flatE hown
      have HTR5 : Hid (∀ w', Q wr w' → RowAt cellsN 12 w' (.slice B ns.length d) ts) := fun w' q => HTR.out w' (hqw5.trans q)
      clear hown x1 y1 HTR hw1 HE HN
      have hwr2 : w.heap.size + 2 ≤ wr.heap.size := by omega
      clear hszw hsz q1 hq
      obtain ⟨bb0, bb1⟩ := (hx5.out _ (Q.refl _)).cells
      have bb1x := ((Q.refl wr).alloc (.cells #[.slice none 0 0, .slice none 0 0] 25)).cell bb1
      have mk := makeI ns.length (by omega)
      rw [show ((List.replicate ns.length (0 : Nat)).map natV).toArray = ((atL ns.length []).map natV).toArray by rw [atL_nil]] at mk
      have hI := RowI.new (wr.alloc (.cells #[.slice none 0 0, .slice none 0 0] 25)) (atL ns.length [])
      rw [World.size_alloc] at hI
      have hbx : BoxT ((wr.alloc (.cells #[.slice none 0 0, .slice none 0 0] 25)).alloc (.cells ((atL ns.length []).map natV).toArray 3)) wr.heap.size (.slice none 0 0) (.slice none 0 0) := (BoxT.new wr _ _).keep ((Q.refl _).alloc _)
      have hj0 : NumK wr ((wr.alloc (.cells #[.slice none 0 0, .slice none 0 0] 25)).alloc (.cells ((atL ns.length []).map natV).toArray 3)) (.slice none 0 0) (.slice none 0 0) (atL ns.length []) [] [] := ⟨((Q.refl wr).alloc _).alloc _, hbx, hI, OwnR.nil_ _ _ _, OwnR.nil_ _ _ _⟩
      clear hbx hI
      generalize hZ : ((atL ns.length []).map natV).toArray = Z at mk hj0
      clear bb0
      go_wp2
      generalize hw5 : wr = w5 at *
      clear hw5
      go_loopw [11] (fun iv wr => ∃ (k : Nat) (vE vN : Value) (o : List Int) (rs : List NV), iv = .int .i64 k ∧ k ≤ m.length ∧ NumK w5 wr vE vN (atL ns.length o) (numEnts o (m.take k)) rs ∧ o.length ≤ k ∧ Hid (rs.length = o.length ∧ rs.map (·.n) = o.map (nodeAt ns) ∧ ∀ x ∈ rs, x ∈ ts) ∧ Hid (o = olds [] (m.take k))) (fun iv _ => m.length - (intOf iv).toNat)
      case atStart => exact ⟨0, _, _, [], [], rfl, by omega, hj0, by simp, ⟨rfl, rfl, fun x hx => by cases hx⟩, rfl⟩
      case round =>
        obtain ⟨k, vE, vN, o, rs, rfl, hk, hj, hol, HR, HO⟩ := hrel
        clear hj0 mk hZ bb1 bb1x
        have hq5 := hj.q
        by_cases hlt : k < m.length
        · have lt2 : (k : Int) < (m.length : Int) := by omega
          obtain ⟨g, og, _, ea, _, _, hc⟩ := (HL5.out _ hq5).at_ (by omega)
          cases ea
          have hpk := hplm.out k hlt
          have HC : Hid (∀ w', Q w5 w' → w'.cell? ⟨g, og + k * 2, none⟩ = some (.string m[k].1) ∧ w'.cell? ⟨g, og + k * 2 + 1, none⟩ = some (.int .i64 m[k].2)) := fun w' q => by
            obtain ⟨g2, og2, _, ea, _, _, hc⟩ := (HL5.out _ q).at_ (by omega)
            cases ea
            exact hc k hlt
          have E1 : Hid (m[k].2 ∈ o → o = olds [] (m.take (k + 1)) ∧ atL ns.length o = atL ns.length o ∧ numEnts o (m.take (k + 1)) = numEnts o (m.take k) ++ [(m[k].1, (o.idxOf m[k].2 : Int))]) := fun h => by
            refine ⟨?_, rfl, numEnts_snoc o hlt⟩
            rw [olds_take hlt, ← HO.out, if_pos h]
          have E2 : Hid (m[k].2 ∉ o → o ++ [m[k].2] = olds [] (m.take (k + 1)) ∧ atL ns.length (o ++ [m[k].2]) = atL ns.length (o ++ [m[k].2]) ∧ numEnts (o ++ [m[k].2]) (m.take (k + 1)) = numEnts o (m.take k) ++ [(m[k].1, (o.length : Int))]) := fun h => by
            refine ⟨?_, rfl, ?_⟩
            · rw [olds_take hlt, ← HO.out, if_neg h]
            · rw [numEnts_snoc _ hlt, idx_new h, numEnts_grow (fun e he => by rw [HO.out]; exact olds_mem _ _ e he)]
          have hlen : (numEnts o (m.take k)).length ≤ k := by unfold numEnts; rw [List.length_map, List.length_take]; omega
          generalize numEnts o (m.take k) = oe at *
          clear hc HO
          generalize m[k] = x at *
          obtain ⟨p0, z⟩ := x
          simp only at E1 E2 hpk HC
          obtain ⟨y, rfl⟩ : ∃ y : Nat, z = (y : Int) := ⟨z.toNat, by omega⟩
          have hyn : y < ns.length := by omega
          have lt3 : (y : Int) < (ns.length : Int) := by omega
          have nn3 : (0 : Int) ≤ (y : Int) := by omega
          have hyl : y < (atL ns.length o).length := by rw [atL_len]; omega
          obtain ⟨cp, cz⟩ := HC.out _ hq5
          have ca := hj.row.cell y hyl
          have hgb0 := World.block_lt_of_cell? wr _ cp
          by_cases hz : (y : Int) ∈ o
          · have EE := Lib.hid (E1.out hz)
            rw [atL_in hyl hz] at ca
            have hio : o.idxOf (y : Int) < o.length := List.idxOf_lt_length_of_mem hz
            generalize o.idxOf (y : Int) = ix at *
            have t5 : (((ix + 1 : Nat) : Int) == 0) = false := beq_eq_false_iff_ne.2 (by omega)
            rw [show ((ix + 1 : Nat) : Int) = (ix : Int) + 1 from rfl] at t5 ca
            have w5s : IntKind.i64.wrap (ix : Int) = ix := IntWalk.i64_in _ (by omega)
            clear E1 E2 hz hyl
            go_wp2_with fail
            have HJ22 := Lib.hid hj
            have hgb := World.block_lt_of_cell? wr _ cp
            clear hj
            go_wp2_with fail
            refine n22_any (g := g) (og := og) (mlen := m.length) (cM := cM) (nlen := ns.length) (k := k) (y := y) (ix := ix) (p0 := p0) _ _ _ _ _ _ _ _ _ _ _ _ _ _ _ _ _ _ _ _ _ _ _ _ _ _ _ _ _ _ _ _ _ _ _ _ _ _ _ _ _ _ _ _ _ _ _ _ _ _ _ _ _ _ _ _ _ _ _ _ _ _ _ _ _ _ _ _ _ _ _ _ _ _ _ _ _ _ _ _ _ _ _ _ _ _ _ _ _ _ _ _ _ _ _ _ _ _ _ _ _ _ _ _ _ _ _ _ _ _ _ _ _ _ _ _ _ _ _ _ _ _ _ _ _ HJ22.out cp ca lt2 lt3 (by omega) (by omega) ?_
            intro e109 e110 e111 e112 e113 e114 e115 e116 e117 e118 e119 e120 e121 e122 e123 e124 v2 w9 hjz
            have HZ := Lib.hid hjz
            clear hjz HJ22
            go_wp2
            go_roundw
            case rel => exact ⟨k + 1, _, _, o, rs, by go_num, by omega, (by rw [EE.out.2.2]; exact HZ.out), by omega, HR, EE.out.1⟩
            case measure => simp [intOf]; omega
          · have EE0 := Lib.hid (E2.out hz)
            rw [atL_out hyl hz] at ca
            have EA := Lib.hid (atL_snoc (n := ns.length) hz)
            have t5 : (((0 : Nat) : Int) == 0) = true := rfl
            have hyt : y < ts.length := by have := HTL.out; omega
            obtain ⟨gn, on, cn, en, _, _, hcn⟩ := (HTR5.out _ hq5).at_ (by omega)
            rw [HTL.out] at en
            cases en
            have hxn : Hid (ts[y].n = nodeAt ns (y : Int)) := by
              show _ = _
              rw [HTN.out y hyt hyn, nodeAt_in hyn]
            have hxi : Hid (ts[y] ∈ ts) := List.getElem_mem hyt
            obtain ⟨d0, d1, d2, d3, d4, d5, d6, d7, d8, d9, d10, d11⟩ : _ ∧ _ ∧ _ ∧ _ ∧ _ ∧ _ ∧ _ ∧ _ ∧ _ ∧ _ ∧ _ ∧ _ := ⟨hcn y hyt 0 _ rfl, hcn y hyt 1 _ rfl, hcn y hyt 2 _ rfl, hcn y hyt 3 _ rfl, hcn y hyt 4 _ rfl, hcn y hyt 5 _ rfl, hcn y hyt 6 _ rfl, hcn y hyt 7 _ rfl, hcn y hyt 8 _ rfl, hcn y hyt 9 _ rfl, hcn y hyt 10 _ rfl, hcn y hyt 11 _ rfl⟩
            have d0 : wr.cell? ⟨gn, on + y * 12, none⟩ = some (.int .i64 ts[y].n.kind) := d0
            clear hcn
            generalize ts[y] = x at *
            unfold slv at d5 d6 d8
            have hgd := World.block_lt_of_cell? wr _ d0
            obtain ⟨bx0, bx1⟩ := (hx5.out _ hq5).cells
            obtain ⟨b2, b3⟩ := hj.box.cells
            have hjo := Lib.hid hj
            have hbl := hj.box.lt
            have hbl0 : w.heap.size < wr.heap.size := by omega
            have hrl : Hid (rs.length ≤ k) := by have := HR.out.1; show rs.length ≤ k; omega
            clear hj
            go_wp2_with fail
            go_region_law (first | (refine step_append_node rfl (.tmp 94) (.tmp 100) rfl (w5.heap.size + 2) vN rs (by simp [Act.eval]) (OwnR.keep hjo.out.rn (by first | exact ((Q.refl wr).alloc _).drew | exact ((Q.refl wr).alloc _))) (.slice (some ⟨wr.heap.size, 0, none⟩) 1 1) [x] (by simp [Act.eval]) (by first | exact nodes_built wr x | exact RowAt.keep (nodes_built wr x) ((Q.refl _).drew)) (by have := hrl.out; simp; omega) (by have := hjo.out.size; show _ ≤ (wr.alloc _).heap.size; rw [World.size_alloc]; omega) ?_; intro v7 w7 hown7 hg7; have hjq := Lib.hid (hjo.out.keep (((Q.refl wr).alloc (.cells #[.int .i64 x.n.kind, .int .i64 x.n.mt.mode, .int .i64 x.n.mt.uid, .int .i64 x.n.mt.gid, .int .i64 x.n.mt.time, .slice x.a.1 x.a.2.1 x.a.2.2, .slice x.l.1 x.l.2.1 x.l.2.2, .int .i64 x.n.size, .slice x.d.1 x.d.2.1 x.d.2.2, .string x.n.target, .int .i64 x.n.major, .int .i64 x.n.minor] 47)).drew)); obtain ⟨m0, m1⟩ := (hjq.out.box.typ (Typ.grown (Ts := [47]) hjq.out.rn hg7 (by simp)) (by decide)).cells; have ms := (hjq.out.box.typ (Typ.grown (Ts := [47]) hjq.out.rn hg7 (by simp)) (by decide)).soft; obtain ⟨A7, n7, rfl⟩ := OwnR.form flatN hown7))
            all_goals
              have hj2 := hjq.out.node hg7 hown7
              rw [show (rs ++ [x]).length = rs.length + 1 by simp] at hj2
              have HR3 : Hid ((rs ++ [x]).length = (o ++ [(y : Int)]).length ∧ (rs ++ [x]).map (·.n) = (o ++ [(y : Int)]).map (nodeAt ns) ∧ ∀ x' ∈ rs ++ [x], x' ∈ ts) := by
                refine ⟨by have := HR.out.1; simp; omega, by rw [List.map_append, List.map_append, HR.out.2.1]; simp [hxn.out], fun x' hx' => ?_⟩
                rcases List.mem_append.1 hx' with hx' | hx'
                · exact HR.out.2.2 x' hx'
                · rw [List.mem_singleton.1 hx']; exact hxi.out
              have hrs : rs.length = o.length := HR.out.1
              have hix : rs.length < 20000 := by omega
              have hol2 : (o ++ [(y : Int)]).length ≤ k + 1 := by simp; omega
              have HS : Hid (∀ W, NumK w5 W vE (.slice A7 (rs.length + 1) n7) (atL ns.length o) oe (rs ++ [x]) → NumK w5 (W.setCell ⟨w5.heap.size + 1, y, none⟩ (.int .i64 ((rs.length : Int) + 1))) vE (.slice A7 (rs.length + 1) n7) (atL ns.length (o ++ [(y : Int)])) oe (rs ++ [x])) := fun W h => by
                rw [EA.out, ← hrs]
                exact h.at_ y (rs.length + 1)
              have EE : Hid (o ++ [(y : Int)] = olds [] (m.take (k + 1)) ∧ True ∧ numEnts (o ++ [(y : Int)]) (m.take (k + 1)) = oe ++ [(p0, (rs.length : Int))]) := by rw [hrs]; exact EE0.out
              have hcy : Hid (∀ W, RowI W (w5.heap.size + 1) (atL ns.length (o ++ [(y : Int)])) → W.cell? ⟨w5.heap.size + 1, y, none⟩ = some (.int .i64 ((rs.length : Int) + 1))) := fun W h => by
                have hl : y < (atL ns.length (o ++ [(y : Int)])).length := by rw [atL_len]; omega
                have := h.cell y hl
                rw [atL_in hl (by simp), idx_new hz, ← hrs] at this
                exact this
              clear hjq hg7 hown7 m0 m1 ms hjo d0 d1 d2 d3 d4 d5 d6 d7 d8 d9 d10 d11 bx0 bx1 b2 b3 hbl hbl0 hgd cp cz ca hgb0 E1 E2 EE0 EA hz hyl HR hxn hxi hrl
              have w5s : IntKind.i64.wrap (rs.length : Int) = rs.length := IntWalk.i64_in _ (by omega)
              have w6s : IntKind.i64.wrap ((rs.length : Int) + 1) = (rs.length : Int) + 1 := IntWalk.i64_in _ (by omega)
              generalize o ++ [(y : Int)] = o2 at *
              generalize rs ++ [x] = rs2 at *
              generalize (w7.setCell ⟨w5.heap.size, 1, none⟩ (.slice A7 (rs.length + 1) n7)) = wr at *
              obtain ⟨b2, b3⟩ := hj2.box.cells
              have hra := hj2.row.soft y
              have hca0 := hj2.row.cell y (by rw [atL_len]; omega)
              have hj := HS.out _ hj2
              clear HS hrs
              generalize rs.length = ix at *
              have hq6 := hj.q
              obtain ⟨cp, cz⟩ := HC.out _ hq6
              have ca := hcy.out _ hj.row
              clear hcy
              go_wp2_with fail
              generalize hWR : (wr.setCell ⟨w5.heap.size + 1, y, none⟩ (.int .i64 ((ix : Int) + 1))) = wr at *
              clear hWR hra hca0 hj2 b2 b3
              generalize Value.slice A7 (ix + 1) n7 = vN at *
              have HJ22 := Lib.hid hj
              have hgb := World.block_lt_of_cell? wr _ cp
              clear hj
              go_wp2_with fail
              refine n22_any (g := g) (og := og) (mlen := m.length) (cM := cM) (nlen := ns.length) (k := k) (y := y) (ix := ix) (p0 := p0) _ _ _ _ _ _ _ _ _ _ _ _ _ _ _ _ _ _ _ _ _ _ _ _ _ _ _ _ _ _ _ _ _ _ _ _ _ _ _ _ _ _ _ _ _ _ _ _ _ _ _ _ _ _ _ _ _ _ _ _ _ _ _ _ _ _ _ _ _ _ _ _ _ _ _ _ _ _ _ _ _ _ _ _ _ _ _ _ _ _ _ _ _ _ _ _ _ _ _ _ _ _ _ _ _ _ _ _ _ _ _ _ _ _ _ _ _ _ _ _ _ _ _ _ _ HJ22.out cp ca lt2 lt3 (by omega) (by omega) ?_
              intro e109 e110 e111 e112 e113 e114 e115 e116 e117 e118 e119 e120 e121 e122 e123 e124 v2 w9 hjz
              have HZ := Lib.hid hjz
              clear hjz HJ22
              go_wp2
              go_roundw
              case rel => exact ⟨k + 1, _, _, o2, rs2, by go_num, by omega, (by rw [EE.out.2.2]; exact HZ.out), hol2, HR3, EE.out.1⟩
              case measure => simp [intOf]; omega
        · have ek : m.take k = m := List.take_of_length_le (by omega)
          rw [ek] at HO hj
          have HNN : Hid (numT m ns = (numEnts o m, rs.map (·.n))) := by
            show _ = _
            unfold numT
            rw [← HO.out, HR.out.2.1]
          have lt2 : ¬ (k : Int) < (m.length : Int) := by omega
          have hT : TreeAt wr (.agg #[vE, vN]) (numT m ns) := by
            rw [HNN.out]
            exact ⟨_, _, rfl, OwnR.row flatE hj.re, rs, OwnR.row flatN hj.rn, rfl, fun x hx => (HTI.out x (HR.out.2.2 x hx)).keep (hqw5.trans hq5)⟩
          have HTK := Lib.hid (fun w' (q : Q wr w') => hT.keep q)
          have HM := Lib.hid (rMayT_any _ (numT m ns) wr hT HF2.out)
          obtain ⟨b2, b3⟩ := hj.box.cells
          have hjb := hj.box
          obtain ⟨A1, n1, rfl⟩ := OwnR.form flatE hj.re
          obtain ⟨A2, n2, rfl⟩ := OwnR.form flatN hj.rn
          rw [may_same] at HM
          have HNF2 : Hid (normT es ns = if mayT (numT m ns).1 (numT m ns).2 = true then some (numT m ns) else none) := HNF
          have hre := hj.re
          have hrn := hj.rn
          have HI : Hid (∀ x ∈ rs, x ∈ ts) := HR.out.2.2
          clear hT hj HNF HR HO HF2
          have hqz := hqw5.trans hq5
          cases hmm : mayT (numT m ns).1 (numT m ns).2
          · rw [hmm] at HM HNF2
            have EE : Hid (normT es ns = none) := by
              have := HNF2.out
              show normT es ns = none
              simpa using this
            clear HNF2 hmm
            go_wp2_with fail
            refine (HM.out).mono ?_
            rintro e w8 ⟨rfl, q8⟩
            have yb := (hy5.out _ (hq5.trans q8))
            have qz := hqz.trans q8
            have ys := yb.soft
            obtain ⟨y0, y0'⟩ := yb.cells
            go_wp2
            have yz : BoxT ((w8.setCell ⟨w.heap.size + 1, 0, none⟩ (.slice none 0 0)).setCell ⟨w.heap.size + 1, 1, none⟩ (.slice none 0 0)) (w.heap.size + 1) (.slice none 0 0) (.slice none 0 0) := (yb.set0 _).set1 _
            have qe : Q w ((w8.setCell ⟨w.heap.size + 1, 0, none⟩ (.slice none 0 0)).setCell ⟨w.heap.size + 1, 1, none⟩ (.slice none 0 0)) := q_set (q_set qz (Nat.le_succ _) 0 _) (Nat.le_succ _) 1 _
            obtain ⟨z0, z1⟩ := yz.cells
            refine bodyPost_ret (v := .tuple #[.agg #[.slice none 0 0, .slice none 0 0], .int .i64 1]) (by simp [results, Tryz.results12, go_sem, z0, z1]) rfl ?_
            exact ⟨_, _, [], by rw [EE.out]; rfl, by rw [EE.out]; exact OwnR.nil_ _ _ _, OwnR.nil_ _ _ _, by rw [EE.out]; rfl, fun x hx => (by cases hx), by first | exact qe | exact qz⟩
          · rw [hmm] at HM HNF2
            have EE : Hid (normT es ns = some (numT m ns)) := by
              have := HNF2.out
              show normT es ns = some (numT m ns)
              simpa using this
            clear HNF2 hmm
            go_wp2_with fail
            refine (HM.out).mono ?_
            rintro e w8 ⟨rfl, q8⟩
            have yb := (hy5.out _ (hq5.trans q8))
            have qz := hqz.trans q8
            replace b2 := q8.cell b2
            replace b3 := q8.cell b3
            have hre8 := OwnR.keep hre q8
            have hrn8 := OwnR.keep hrn q8
            have ys := yb.soft
            obtain ⟨y0, y0'⟩ := yb.cells
            go_wp2
            have yz : BoxT ((w8.setCell ⟨w.heap.size + 1, 0, none⟩ (.slice A1 (numEnts o m).length n1)).setCell ⟨w.heap.size + 1, 1, none⟩ (.slice A2 rs.length n2)) (w.heap.size + 1) (.slice A1 (numEnts o m).length n1) (.slice A2 rs.length n2) := (yb.set0 _).set1 _
            have qe : Q w ((w8.setCell ⟨w.heap.size + 1, 0, none⟩ (.slice A1 (numEnts o m).length n1)).setCell ⟨w.heap.size + 1, 1, none⟩ (.slice A2 rs.length n2)) := q_set (q_set qz (Nat.le_succ _) 0 _) (Nat.le_succ _) 1 _
            obtain ⟨z0, z1⟩ := yz.cells
            refine bodyPost_ret (v := .tuple #[.agg #[.slice A1 (numEnts o m).length n1, .slice A2 rs.length n2], .int .i64 0]) (by simp [results, Tryz.results12, go_sem, z0, z1]) rfl ?_
            have tt : Typ [25] w8 ((w8.setCell ⟨w.heap.size + 1, 0, none⟩ (.slice A1 (numEnts o m).length n1)).setCell ⟨w.heap.size + 1, 1, none⟩ (.slice A2 rs.length n2)) := (Typ.set yb (by simp) 0 _).trans (Typ.set (yb.set0 _) (by simp) 1 _)
            exact ⟨_, _, rs, by rw [EE.out]; rfl, by rw [EE.out]; show OwnE _ _ _ (numT m ns).1; rw [HNN.out]; exact OwnR.mono (OwnR.typ hre8 tt (by decide)) (by omega), OwnR.mono (OwnR.typ hrn8 tt (by decide)) (by omega), by rw [EE.out]; show _ = (numT m ns).2; rw [HNN.out], HI.out, qe⟩
theorem rNormT_any (v : Value) (t : Tree) (w : World) (h : TreeAt w v t) (hf : Fits t) :
    Calls Tryz.prog 12 #[v] w (NormPostR t w) := by
  obtain ⟨es, ns⟩ := t
  obtain ⟨ve, vn, rfl, he, ts, hr, rfl, hi⟩ := h
  refine (rNormO_any ve vn es ts w he hr hi hf).mono fun e w' ⟨vE, vN, rs, h1, h2, h3, h4, h5, h6⟩ => ?_
  exact ⟨_, h1, ⟨_, _, rfl, OwnR.row flatE h2, rs, OwnR.row flatN h3, h4, fun x hx => (hi x (h5 x hx)).keep h6⟩, h6⟩
end Go.Proofs.YtgbenepapajieaaGreat.Tr
