/-
  The contracts of the document's SameTree and PartOf.
-/
import Derived.Test.YtgbenepapajieaaGreatTRefN
import Derived.Test.YtgbenepapajieaaGreatTRef
import Derived.Test.YtgbenepapajieaaGreatPRef3
namespace Go.Proofs.YtgbenepapajieaaGreat.Tr
open Go.RowKit
open Go.Proofs.YtgbenepapajieaaGreat.Nd (Nd mayN sumP nodeV NodeAt PcsAt)
open Go.Proofs.YtgbenepapajieaaGreat.Pa (lessB parentB hasParentB lastB underB joinB)

set_option maxRecDepth 100000 in
set_option maxHeartbeats 4000000 in
theorem rSameT_any (v v' : Value) (a b : Tree) (w : World) (h : TreeAt w v a) (h' : TreeAt w v' b) (hf : Fits a) (hf' : Fits b) :
    Calls Tryz.prog 21 #[v, v'] w fun e w' => e = .returned (.bool (sameT (normT a.1 a.2) (normT b.1 b.2))) ∧ Q w w' := by
  have HA : Hid (∀ w', Q w w' → Calls Tryz.prog 12 #[v] w' (NormPostR a w')) := fun w' q => rNormT_any v a w' (h.keep q) hf
  have HB : Hid (∀ w', Q w w' → Calls Tryz.prog 12 #[v'] w' (NormPostR b w')) := fun w' q => rNormT_any v' b w' (h'.keep q) hf'
  rw [sameT_alike]
  obtain ⟨ve, vn, rfl, he, hn⟩ := h
  obtain ⟨ve', vn', rfl, he', hn'⟩ := h'
  obtain ⟨A, c, rfl⟩ := he.form
  obtain ⟨B, d, rfl⟩ := hn.form
  obtain ⟨A', c', rfl⟩ := he'.form
  obtain ⟨B', d', rfl⟩ := hn'.form
  clear he hn he' hn' hf hf'
  unfold NormPostR at HA HB
  generalize a.1.length = l1 at *
  generalize a.2.length = l2 at *
  generalize b.1.length = l3 at *
  generalize b.2.length = l4 at *
  generalize resC (normT a.1 a.2) = ca at *
  generalize resC (normT b.1 b.2) = cb at *
  generalize resT (normT a.1 a.2) = ta at *
  generalize resT (normT b.1 b.2) = tb at *
  have b1 := box_at w (.slice A l1 c) (.slice B l2 d) 25
  have b2 := box_at (w.alloc (.cells #[.slice A l1 c, .slice B l2 d] 25)) (.slice A' l3 c') (.slice B' l4 d') 25
  rw [World.size_alloc] at b2
  have q0 : Q w ((w.alloc (.cells #[.slice A l1 c, .slice B l2 d] 25)).alloc (.cells #[.slice A' l3 c', .slice B' l4 d'] 25)) := ((Q.refl w).alloc _).alloc _
  go_enter Tryz.func21, Tryz.ntmps21
  go_wp2_with fail
  refine (HA.out _ q0).mono ?_
  rintro e w1 ⟨x, rfl, tx, q1⟩
  have TX : Hid (∀ w', Q w1 w' → TreeAt w' x ta) := fun w' q => tx.keep q
  obtain ⟨xe, xn, rfl, kx, ky⟩ := tx
  obtain ⟨A1, m1, rfl⟩ := kx.form
  obtain ⟨A2, m2, rfl⟩ := ky.form
  clear kx ky
  generalize ta.1.length = n1 at *
  generalize ta.2.length = n2 at *
  obtain ⟨b3, b4⟩ : w1.cell? ⟨w.heap.size + 1, 0, none⟩ = some (.slice A' l3 c') ∧ w1.cell? ⟨w.heap.size + 1, 1, none⟩ = some (.slice B' l4 d') := ⟨q1.cell b2.1, q1.cell b2.2⟩
  have hlt := World.block_lt_of_cell? w1 _ b3
  have b5 := box_at w1 (.slice A1 n1 m1) (.slice A2 n2 m2) 25
  go_wp2_with fail
  refine (HB.out _ ((q0.trans q1).alloc _)).mono ?_
  rintro e w2 ⟨y, rfl, ty, q2⟩
  have TY : Hid (∀ w', Q w2 w' → TreeAt w' y tb) := fun w' q => ty.keep q
  obtain ⟨ye, yn, rfl, kx, ky⟩ := ty
  obtain ⟨A3, m3, rfl⟩ := kx.form
  obtain ⟨A4, m4, rfl⟩ := ky.form
  clear kx ky
  generalize tb.1.length = n3 at *
  generalize tb.2.length = n4 at *
  have q3 := ((q0.trans q1).alloc (.cells #[.slice A1 n1 m1, .slice A2 n2 m2] 25)).trans q2
  obtain ⟨e1, e2⟩ : w2.cell? ⟨w1.heap.size, 0, none⟩ = some (.slice A1 n1 m1) ∧ w2.cell? ⟨w1.heap.size, 1, none⟩ = some (.slice A2 n2 m2) := ⟨q2.cell b5.1, q2.cell b5.2⟩
  have hlt2 := World.block_lt_of_cell? w2 _ e1
  have b6 := box_at w2 (.slice A3 n3 m3) (.slice A4 n4 m4) 25
  have e1' := ((Q.refl w2).alloc (.cells #[.slice A3 n3 m3, .slice A4 n4 m4] 25)).cell e1
  have e2' := ((Q.refl w2).alloc (.cells #[.slice A3 n3 m3, .slice A4 n4 m4] 25)).cell e2
  have HL := Lib.hid (alike_any _ _ ta tb (w2.alloc (.cells #[.slice A3 n3 m3, .slice A4 n4 m4] 25)) (TX.out _ ((((Q.refl w1).alloc _).trans q2).alloc _)) (TY.out _ ((Q.refl w2).alloc _)))
  by_cases h1 : ca = 0
  · have t1 : (ca == 0) = true := beq_iff_eq.2 h1
    by_cases h2 : cb = 0
    · have t2 : (cb == 0) = true := beq_iff_eq.2 h2
      have EE : Hid ((decide (ca = 0) && decide (cb = 0) && decide (ta = tb)) = alikeT ta tb) := by
        show _ = _
        rw [decide_eq_true h1, decide_eq_true h2]
        rfl
      clear h1 h2
      go_wp2_with fail
      refine HL.out.mono ?_
      rintro e w4 ⟨rfl, q4⟩
      go_wp2
      go_ret
      exact ⟨ret_bool EE.out.symm, (q3.alloc _).trans q4⟩
    · have t2 : (cb == 0) = false := beq_eq_false_iff_ne.2 h2
      have EE : Hid ((decide (ca = 0) && decide (cb = 0) && decide (ta = tb)) = false) := by
        show _ = _
        rw [decide_eq_false h2]
        simp
      clear h1 h2
      go_wp2
      go_ret
      exact ⟨ret_bool EE.out.symm, q3.alloc _⟩
  · have t1 : (ca == 0) = false := beq_eq_false_iff_ne.2 h1
    have EE : Hid ((decide (ca = 0) && decide (cb = 0) && decide (ta = tb)) = false) := by
      show _ = _
      rw [decide_eq_false h1]
      simp
    clear h1
    go_wp2
    go_ret
    exact ⟨ret_bool EE.out.symm, q3.alloc _⟩

/-! ### PartOf -/
theorem partE_take {es : List Ent} (tops : List ByteArray) {k : Nat} (hk : k < es.length) : partE (es.take (k + 1)) tops = partE (es.take k) tops ++ (if neededB tops es[k] then [es[k]] else []) := by
  unfold partE
  exact filter_snoc hk
/-- What is needed so far. -/
def needK (tops : List ByteArray) (p : ByteArray) (k : Nat) : Bool := decide (p = ⟨#[]⟩) || (tops.take k).any fun t => underB p t || underB t p
theorem needK_zero (tops : List ByteArray) (p : ByteArray) : needK tops p 0 = decide (p = ⟨#[]⟩) := by simp [needK]
theorem needK_succ {tops : List ByteArray} (p : ByteArray) {k : Nat} (hk : k < tops.length) : needK tops p (k + 1) = (needK tops p k || (underB p tops[k] || underB tops[k] p)) := by
  unfold needK
  rw [List.take_succ_eq_append_getElem hk, List.any_append]
  simp [Bool.or_assoc]
theorem needK_all {tops : List ByteArray} (e : Ent) {k : Nat} (hk : tops.length ≤ k) : needK tops e.1 k = neededB tops e := by
  unfold needK neededB
  rw [List.take_of_length_le hk]
structure PJ (w5 w' : World) (vE vN : Value) (oe : List Ent) : Prop where
  q : Q w5 w'
  box : BoxT w' w5.heap.size vE vN
  re : OwnE w' (w5.heap.size + 1) vE oe
theorem PJ.keep {w5 w' w2 : World} {vE vN : Value} {oe : List Ent} (h : PJ w5 w' vE vN oe) (q : Q w' w2) : PJ w5 w2 vE vN oe := ⟨h.q.trans q, h.box.keep q, OwnR.keep h.re q⟩
theorem PJ.ent {w5 w' w2 : World} {vE vN v2 : Value} {oe oe2 : List Ent} (h : PJ w5 w' vE vN oe) (hg : w'.grownBy w2 vE.ownBlock) (h2 : OwnE w2 (w5.heap.size + 1) v2 oe2) : PJ w5 (w2.setCell ⟨w5.heap.size, 0, none⟩ v2) v2 vN oe2 := by
  have tE : Typ [49] w' w2 := Typ.grown h.re hg (by simp)
  have hb := h.box.typ tE (by decide)
  have tT : Typ [25] w2 (w2.setCell ⟨w5.heap.size, 0, none⟩ v2) := Typ.set hb (by simp) 0 v2
  have q2 : Q w5 w2 := Below.grown h.q hg h.q.size fun g e => by have := (OwnR.lt h.re g e).1; omega
  exact ⟨q_set q2 (Nat.le_refl _) 0 v2, hb.set0 v2, OwnR.typ h2 tT (by decide)⟩
def PartPostR (t : Tree) (tops : List ByteArray) (w : World) (e : Ending) (w' : World) : Prop := ∃ v, e = .returned (.tuple #[v, .int .i64 (partT t.1 t.2 tops).2]) ∧ TreeAt w' v (partT t.1 t.2 tops).1 ∧ Q w w'
set_option maxRecDepth 100000 in
set_option maxHeartbeats 8000000 in
theorem rPartOf_any (v u : Value) (t : Tree) (tops : List ByteArray) (w : World) (h : TreeAt w v t) (hf : Fits t) (hl : RowAt cellsS 1 w u tops) (hl2 : tops.length ≤ 100000) (hts : ∀ x ∈ tops, x.size ≤ 90000) :
    Calls Tryz.prog 14 #[v, u] w (PartPostR t tops w) := by
  unfold PartPostR
  have mixed : Tryz.prog.follows .mixedOrders = true := by kernel_rfl
  have HM : Hid (∀ w', Q w w' → Calls Tryz.prog 18 #[v] w' fun e w'' => e = .returned (.bool (mayT t.1 t.2)) ∧ Q w' w'') := fun w' q => by
    have := rMayT_any v t w' (h.keep q) hf
    rwa [may_same] at this
  have HFd : Hid (∀ w' p, Q w w' → Calls Tryz.prog 16 #[v, .string p] w' fun e w'' => e = .returned (.tuple #[.int .i64 ((findE t.1 p).getD 0), .bool (findE t.1 p).isSome]) ∧ Grew w' w'') := fun w' p q => rFind_any v t p w' (h.keep q)
  have HS : Hid (∀ w', Q w w' → RowAt cellsS 1 w' u tops) := fun w' q => hl.keep q
  obtain ⟨es, ns⟩ := t
  obtain ⟨ve, vn, rfl, he, hn⟩ := h
  simp only at he hn hf HM HFd ⊢
  have he20 := hf.ents
  have hpa := hf.path
  have hnd := hf.node
  have hn20 := hf.nodes
  simp only at he20 hpa hn20 hnd
  have HFit : Hid (Fits (partE es tops, ns)) := ⟨Nat.le_trans (List.length_filter_le _ _) he20, hn20, fun e he => hpa e (List.mem_filter.1 he).1, hnd⟩
  obtain ⟨A, c, rfl⟩ := he.form
  obtain ⟨B, d, rfl⟩ := hn.form
  obtain ⟨S, cS, rfl⟩ := hl.form
  have HNO : Hid (∀ w' vE oe, Q w w' → EntsAt w' vE oe → Fits (oe, ns) → Calls Tryz.prog 12 #[.agg #[vE, .slice B ns.length d]] w' fun e w'' => ∃ (vE' vN' : Value) (rs : List NV), e = .returned (.tuple #[.agg #[vE', vN'], .int .i64 (resC (normT oe ns))]) ∧ OwnE w'' w'.heap.size vE' (resT (normT oe ns)).1 ∧ OwnN w'' w'.heap.size vN' rs ∧ rs.map (·.n) = (resT (normT oe ns)).2 ∧ (∀ x ∈ rs, InN w x) ∧ Q w' w'') := fun w' vE oe q hE hF => by
    obtain ⟨ts, hr, hmap, hi⟩ := hn
    have := rNormO_any vE (.slice B ns.length d) oe ts w' hE (hr.keep q) (fun x hx => (hi x hx).keep q) (by rw [hmap]; exact hF)
    unfold NormPostO at this
    rw [hmap] at this
    exact this.mono fun e w'' ⟨a, b, rs, h1, h2, h3, h4, h5, h6⟩ => ⟨a, b, rs, h1, h2, h3, h4, fun x hx => hi x (h5 x hx), h6⟩
  have x1 := BoxT.new w (.slice A es.length c) (.slice B ns.length d)
  have y1 := BoxT.new (w.alloc (.cells #[.slice A es.length c, .slice B ns.length d] 25)) (.slice none 0 0) (.slice none 0 0)
  rw [World.size_alloc] at y1
  replace x1 := x1.keep ((Q.refl _).alloc (.cells #[.slice none 0 0, .slice none 0 0] 25))
  have q1 : Q w ((w.alloc (.cells #[.slice A es.length c, .slice B ns.length d] 25)).alloc (.cells #[.slice none 0 0, .slice none 0 0] 25)) := ((Q.refl w).alloc _).alloc _
  have HE : Hid (∀ w', Q w w' → EntsAt w' (.slice A es.length c) es) := fun w' q => he.keep q
  have HN : Hid (∀ w', Q w w' → NodesAt w' (.slice B ns.length d) ns) := fun w' q => hn.keep q
  have HTS := Lib.hid hts
  have HPA := Lib.hid hpa
  clear hf he hn hl hts hpa hnd
  have hw1 : Hid (((w.alloc (.cells #[.slice A es.length c, .slice B ns.length d] 25)).alloc (.cells #[.slice none 0 0, .slice none 0 0] 25)).heap.size = w.heap.size + 2) := by
    show _ = _
    rw [World.size_alloc, World.size_alloc]
  obtain ⟨b0, b1⟩ := x1.cells
  have hlw := x1.lt
  cases hmt : mayT es ns
  · rw [hmt] at HM
    have EE : Hid (partT es ns tops = (([], []), 1)) := part_arg (t := (es, ns)) hmt
    clear hmt
    go_enter Tryz.func14, Tryz.ntmps14
    go_wp2_with fail
    refine (HM.out _ q1).mono ?_
    rintro e w3 ⟨rfl, q3⟩
    have yb := y1.keep q3
    have qz := q1.trans q3
    have ys := yb.soft
    obtain ⟨y0, y0'⟩ := yb.cells
    go_wp2
    have yz : BoxT ((w3.setCell ⟨w.heap.size + 1, 0, none⟩ (.slice none 0 0)).setCell ⟨w.heap.size + 1, 1, none⟩ (.slice none 0 0)) (w.heap.size + 1) (.slice none 0 0) (.slice none 0 0) := (yb.set0 _).set1 _
    have qe : Q w ((w3.setCell ⟨w.heap.size + 1, 0, none⟩ (.slice none 0 0)).setCell ⟨w.heap.size + 1, 1, none⟩ (.slice none 0 0)) := q_set (q_set qz (Nat.le_succ _) 0 _) (Nat.le_succ _) 1 _
    obtain ⟨z0, z1⟩ := yz.cells
    refine bodyPost_ret (v := .tuple #[.agg #[.slice none 0 0, .slice none 0 0], .int .i64 1]) (by simp [results, Tryz.results14, go_sem, z0, z1]) rfl ?_
    exact ⟨_, by rw [EE.out], by rw [EE.out]; exact TreeAt.nil_ _, by first | exact qe | exact qz⟩
  rw [hmt] at HM
  have EP : Hid (partT es ns tops = if hasB es tops then (resT (normT (partE es tops) ns), resC (normT (partE es tops) ns)) else (([], []), 7)) := by
    show _ = _
    unfold partT
    rw [hmt]
    rfl
  clear hmt
  go_enter Tryz.func14, Tryz.ntmps14
  go_wp2_with fail
  refine (HM.out _ q1).mono ?_
  rintro e w3 ⟨rfl, q3⟩
  replace x1 := x1.keep q3
  replace y1 := y1.keep q3
  have q1z := q1.trans q3
  have hsz3 := q3.size
  have hs3 : w.heap.size + 2 ≤ w3.heap.size := by have := hw1.out; omega
  clear q1 b0 b1 hlw hw1 hsz3 q3
  go_wp2_with fail
  go_loopw [6] (fun iv wr => ∃ i : Nat, iv = .int .i64 i ∧ i ≤ tops.length ∧ Q w3 wr ∧ Hid (∀ j (h : j < tops.length), j < i → (findE es tops[j]).isSome = true)) (fun iv _ => tops.length - (intOf iv).toNat)
  case atStart => exact ⟨0, rfl, by omega, Q.refl _, fun j _ h => by omega⟩
  case round =>
    obtain ⟨i, rfl, hi, hq, H⟩ := hrel
    obtain ⟨b0, b1⟩ := (x1.keep hq).cells
    have hbl := (x1.keep hq).lt
    by_cases hlt : i < tops.length
    · have lt2 : (i : Int) < (tops.length : Int) := by omega
      obtain ⟨gs, os, cs, ea, _, _, hc⟩ := (HS.out _ (q1z.trans hq)).at_ (by omega)
      cases ea
      have ct := hc i hlt 0 _ rfl
      rw [show os + i * 1 + 0 = os + i by omega] at ct
      have HG := Lib.hid (fun w' (q : Q w w') => HFd.out w' tops[i] q)
      have EN : Hid ((findE es tops[i]).isSome = false → hasB es tops = false) := fun h => by
        unfold hasB
        rw [Bool.eq_false_iff]
        intro hh
        have := List.all_eq_true.1 hh tops[i] (List.getElem_mem hlt)
        rw [h] at this
        cases this
      have EY : Hid ((findE es tops[i]).isSome = true → ∀ j (h : j < tops.length), j < i + 1 → (findE es tops[j]).isSome = true) := fun h j hj hji => by
        by_cases e : j = i
        · subst e; exact h
        · exact H.out j hj (by omega)
      clear hc H
      generalize tops[i] = s at *
      have hgs := World.block_lt_of_cell? wr _ ct
      have f0 := cell_grown (a := ⟨w.heap.size, 0, none⟩) hbl b0
      have f1 := cell_grown (a := ⟨w.heap.size, 1, none⟩) hbl b1
      have f2 := cell_grown (a := ⟨gs, os + i, none⟩) hgs ct
      cases hfs : findE es s with
      | none =>
        rw [hfs] at HG
        simp only [Option.getD_none, Option.isSome_none] at HG
        have EE : Hid (partT es ns tops = (([], []), 7)) := by
          show _ = _
          rw [EP.out, EN.out (by rw [hfs]; rfl)]
          rfl
        clear EN EY hfs EP
        go_wp2_with fail
        (refine wp_region_quiet_grown (by assumption) (by kernel_rfl) ?_; (repeat (go_big_quiet_step ((go_at_call 16; exact Grew.calls (HG.out _ ((q1z.trans hq).trans (Grew.q ⟨_, _, rfl⟩))))))); refine wpQuiet_nil ?_; intro _ hw'; obtain ⟨⟨nq, osq⟩, hw2⟩ := hw'; subst hw2)
        have yb := y1.keep (hq.trans (Grew.q ⟨nq, osq, rfl⟩))
        have qz := (q1z.trans hq).trans (Grew.q ⟨nq, osq, rfl⟩)
        generalize Go.Sort.grow (wr.drewN nq) osq = w4 at *
        have ys := yb.soft
        obtain ⟨y0, y0'⟩ := yb.cells
        go_wp2
        have yz : BoxT ((w4.setCell ⟨w.heap.size + 1, 0, none⟩ (.slice none 0 0)).setCell ⟨w.heap.size + 1, 1, none⟩ (.slice none 0 0)) (w.heap.size + 1) (.slice none 0 0) (.slice none 0 0) := (yb.set0 _).set1 _
        have qe : Q w ((w4.setCell ⟨w.heap.size + 1, 0, none⟩ (.slice none 0 0)).setCell ⟨w.heap.size + 1, 1, none⟩ (.slice none 0 0)) := q_set (q_set qz (Nat.le_succ _) 0 _) (Nat.le_succ _) 1 _
        obtain ⟨z0, z1⟩ := yz.cells
        refine bodyPost_ret (v := .tuple #[.agg #[.slice none 0 0, .slice none 0 0], .int .i64 7]) (by simp [results, Tryz.results14, go_sem, z0, z1]) rfl ?_
        exact ⟨_, by rw [EE.out], by rw [EE.out]; exact TreeAt.nil_ _, by first | exact qe | exact qz⟩
      | some z =>
        rw [hfs] at HG
        simp only [Option.getD_some, Option.isSome_some] at HG
        have E := Lib.hid (EY.out (by rw [hfs]; rfl))
        clear EN EY hfs
        go_wp2_with fail
        (refine wp_region_quiet_grown (by assumption) (by kernel_rfl) ?_; (repeat (go_big_quiet_step ((go_at_call 16; exact Grew.calls (HG.out _ ((q1z.trans hq).trans (Grew.q ⟨_, _, rfl⟩))))))); refine wpQuiet_nil ?_; intro _ hw'; obtain ⟨⟨nq, osq⟩, hw2⟩ := hw'; subst hw2)
        go_wp2
        go_roundw
        case rel => exact ⟨i + 1, by go_num, by omega, hq.trans (Grew.q ⟨nq, osq, rfl⟩), E⟩
        case measure => simp [intOf]; omega
    · have lt2 : ¬ (i : Int) < (tops.length : Int) := by omega
      have hhas : hasB es tops = true := List.all_eq_true.2 fun t ht => by
        obtain ⟨j, hj, rfl⟩ := List.getElem_of_mem ht
        exact H.out j hj (by omega)
      have EE : Hid (partT es ns tops = (resT (normT (partE es tops) ns), resC (normT (partE es tops) ns))) := by
        show _ = _
        rw [EP.out, hhas]
        rfl
      clear EP hhas H
      have q5z := q1z.trans hq
      have HE5 : Hid (∀ w', Q wr w' → EntsAt w' (.slice A es.length c) es) := fun w' q => HE.out _ (q5z.trans q)
      have HS5 : Hid (∀ w', Q wr w' → RowAt cellsS 1 w' (.slice S tops.length cS) tops) := fun w' q => HS.out _ (q5z.trans q)
      have hx5 : Hid (∀ w', Q wr w' → BoxT w' w.heap.size (.slice A es.length c) (.slice B ns.length d)) := fun w' q => x1.keep (hq.trans q)
      have hy5 : Hid (∀ w', Q wr w' → BoxT w' (w.heap.size + 1) (.slice none 0 0) (.slice none 0 0)) := fun w' q => y1.keep (hq.trans q)
      have hwr2 : w.heap.size + 2 ≤ wr.heap.size := Nat.le_trans hs3 hq.size
      have hj0 : PJ wr (wr.alloc (.cells #[.slice none 0 0, .slice B ns.length d] 25)) (.slice none 0 0) (.slice B ns.length d) [] := ⟨(Q.refl wr).alloc _, BoxT.new wr _ _, OwnR.nil_ _ _ _⟩
      clear HE HS x1 y1 hq q1z hs3 HFd HM
      go_wp2_with fail
      generalize hw5 : wr = w5 at *
      clear hw5 b0 b1 hbl
      go_loopw [10] (fun iv wr => ∃ (k : Nat) (vE : Value), iv = .int .i64 k ∧ k ≤ es.length ∧ PJ w5 wr vE (.slice B ns.length d) (partE (es.take k) tops)) (fun iv _ => es.length - (intOf iv).toNat)
      case atStart => exact ⟨0, _, rfl, by omega, hj0⟩
      case round =>
        clear hj0
        obtain ⟨k, vE, rfl, hk, hj⟩ := hrel
        have hq := hj.q
        obtain ⟨b0, b1⟩ := (hx5.out _ hq).cells
        have hbl := (hx5.out _ hq).lt
        by_cases hlk : k < es.length
        · have lt3 : (k : Int) < (es.length : Int) := by omega
          obtain ⟨g, o, _, ea, _, _, hc⟩ := (HE5.out _ hq).at_ (by omega)
          cases ea
          have kp : Hid (∀ w', Q w5 w' → w'.cell? ⟨g, o + k * 2, none⟩ = some (.string es[k].1) ∧ w'.cell? ⟨g, o + k * 2 + 1, none⟩ = some (.int .i64 es[k].2)) := fun w' q => by
            obtain ⟨g2, o2, _, ea, _, _, hc⟩ := (HE5.out _ q).at_ (by omega)
            cases ea
            exact hc k hlk
          have hps := HPA.out _ (List.getElem_mem hlk)
          have ET := Lib.hid (partE_take tops hlk)
          have EA : Hid (∀ j, tops.length ≤ j → needK tops es[k].1 j = neededB tops es[k]) := fun j hj => needK_all es[k] hj
          have hoe : (partE (es.take k) tops).length ≤ k := by
            have := List.length_filter_le (neededB tops) (es.take k)
            rw [List.length_take] at this
            unfold partE
            omega
          generalize partE (es.take k) tops = oe at *
          clear hc
          generalize es[k] = x at *
          obtain ⟨p0, z⟩ := x
          simp only at kp hps EA
          obtain ⟨c1, c2⟩ := kp.out _ hq
          have hg1 := World.block_lt_of_cell? wr _ c1
          have hemp : Hid (p0.toList.isEmpty = needK tops p0 0) := by
            show _ = _
            rw [needK_zero]
            by_cases e : p0 = ⟨#[]⟩
            · rw [emp_yes e, decide_eq_true e]
            · rw [emp_no e, decide_eq_false e]
          generalize hb0 : p0.toList.isEmpty = bb0 at *
          go_wp2_with fail
          generalize hw6 : wr = w6 at *
          clear hw6
          go_loopw [12, 13] (fun bv kv wi => ∃ j : Nat, bv = .bool (needK tops p0 j) ∧ kv = .int .i64 j ∧ j ≤ tops.length ∧ Q w6 wi) (fun _ kv _ => tops.length - (intOf kv).toNat)
          case atStart => exact ⟨0, by first | rw [hemp.out] | (rw [hb0, hemp.out]) | rfl, rfl, by omega, Q.refl _⟩
          case round =>
            obtain ⟨j, rfl, rfl, hjl, hqi⟩ := hrel
            by_cases hlj : j < tops.length
            · have lt4 : (j : Int) < (tops.length : Int) := by omega
              obtain ⟨gs, os, cs, ea, _, _, hc⟩ := (HS5.out _ (hq.trans hqi)).at_ (by omega)
              cases ea
              have ct := hc j hlj 0 _ rfl
              rw [show os + j * 1 + 0 = os + j by omega] at ct
              have ct2 : Hid (∀ w', Q wr w' → w'.cell? ⟨gs, os + j, none⟩ = some (.string tops[j])) := fun w' q => q.cell ct
              have hsz := HTS.out _ (List.getElem_mem hlj)
              have EK := Lib.hid (needK_succ p0 hlj)
              have HU1 := Lib.hid (fun w => Pa.runder_any p0 tops[j] w (by omega) (by omega))
              have HU2 := Lib.hid (fun w => Pa.runder_any tops[j] p0 w (by omega) (by omega))
              clear hc
              generalize tops[j] = s at *
              generalize needK tops p0 j = bk at *
              cases bk with
              | true =>
                have E : Hid (needK tops p0 (j + 1) = true) := by
                  have := EK.out
                  rwa [Bool.true_or] at this
                go_wp2
                go_roundw
                case rel => exact ⟨j + 1, by rw [E.out], by go_num, by omega, hqi⟩
                case measure => simp [intOf]; omega
              | false =>
                cases u1 : underB p0 s with
                | true =>
                  rw [u1] at HU1
                  have E : Hid (needK tops p0 (j + 1) = true) := by
                    have := EK.out
                    rwa [u1, Bool.true_or, Bool.or_true] at this
                  clear u1
                  go_wp2_with fail
                  refine (HU1.out _).mono ?_
                  rintro e w8 ⟨rfl, q8⟩
                  replace q8 := q8.1
                  go_wp2
                  go_roundw
                  case rel => exact ⟨j + 1, by rw [E.out], by go_num, by omega, hqi.trans q8⟩
                  case measure => simp [intOf]; omega
                | false =>
                  rw [u1] at HU1
                  have E : Hid (needK tops p0 (j + 1) = underB s p0) := by
                    have := EK.out
                    rwa [u1, Bool.false_or, Bool.false_or] at this
                  clear u1
                  go_wp2_with fail
                  refine (HU1.out _).mono ?_
                  rintro e w8 ⟨rfl, q8⟩
                  replace q8 := q8.1
                  have ct8 := ct2.out _ q8
                  go_wp2_with fail
                  refine (HU2.out _).mono ?_
                  rintro e w9 ⟨rfl, q9⟩
                  replace q9 := q9.1
                  go_wp2
                  go_roundw
                  case rel => exact ⟨j + 1, by rw [E.out], by go_num, by omega, (hqi.trans q8).trans q9⟩
                  case measure => simp [intOf]; omega
            · have lt4 : ¬ (j : Int) < (tops.length : Int) := by omega
              have EJ := EA.out j (by omega)
              rw [EJ]
              replace hj := hj.keep hqi
              have hqj := hj.q
              have hjh := Lib.hid hj
              clear EA hemp hq hqi b0 b1 hbl c1 c2 hg1
              cases hnb : neededB tops (p0, z) with
              | false =>
                rw [hnb] at ET
                have E := ET.out
                rw [if_neg (by simp), List.append_nil] at E
                have E := Lib.hid E
                clear hnb ET
                go_wp2
                go_roundw
                case rel => exact ⟨k + 1, vE, by go_num, by omega, by rw [E.out]; exact hjh.out⟩
                case measure => simp [intOf]; omega
              | true =>
                rw [hnb] at ET
                have E := ET.out
                rw [if_pos rfl] at E
                have E := Lib.hid E
                clear hnb ET hj
                obtain ⟨b0, b1⟩ := (hx5.out _ hqj).cells
                have hbl := (hx5.out _ hqj).lt
                obtain ⟨c1, c2⟩ := kp.out _ hqj
                have hg1 := World.block_lt_of_cell? wr _ c1
                obtain ⟨b2, b3⟩ := hjh.out.box.cells
                have hbl2 := hjh.out.box.lt
                go_wp2_with fail
                go_region_law (first | (refine step_append_ent rfl (.tmp 79) (.tmp 85) rfl (w5.heap.size + 1) vE oe (by simp [Act.eval]) (OwnR.keep hjh.out.re (((Q.refl wr).alloc _).drew)) (.slice (some ⟨wr.heap.size, 0, none⟩) 1 1) [(p0, z)] (by simp [Act.eval]) (ents_built wr p0 z) (by simp; omega) (by have := hjh.out.box.lt; show _ ≤ (wr.alloc _).heap.size; rw [World.size_alloc]; omega) ?_; intro v9 w9 hown9 hg9; have hj9 := Lib.hid (hjh.out.keep (((Q.refl wr).alloc (.cells #[.string p0, .int .i64 z] 49)).drew)); obtain ⟨m0, m1⟩ := (hj9.out.box.typ (Typ.grown (Ts := [49]) hj9.out.re hg9 (by simp)) (by decide)).cells; have ms := (hj9.out.box.typ (Typ.grown (Ts := [49]) hj9.out.re hg9 (by simp)) (by decide)).soft; obtain ⟨A9, n9, rfl⟩ := OwnR.form flatE hown9))
                all_goals
                  have hjz := hj9.out.ent hg9 hown9
                  rw [show (oe ++ [(p0, z)]).length = oe.length + 1 by simp] at hjz
                  clear hj9 hg9 hown9 m0 m1 ms
                  go_wp2
                  go_roundw
                  case rel => exact ⟨k + 1, _, by go_num, by omega, by rw [E.out]; exact hjz⟩
                  case measure => simp [intOf]; omega
        · have lt3 : ¬ (k : Int) < (es.length : Int) := by omega
          have ek : es.take k = es := List.take_of_length_le (by omega)
          rw [ek] at hj
          obtain ⟨b2, b3⟩ := hj.box.cells
          have hbl2 := hj.box.lt
          obtain ⟨A3, c3, rfl⟩ := OwnR.form flatE hj.re
          have q5w := q5z.trans hq
          have HC := Lib.hid (HNO.out wr (.slice A3 (partE es tops).length c3) (partE es tops) q5w (OwnR.row flatE hj.re) HFit.out)
          clear hj HNO
          generalize (partE es tops).length = n3 at *
          generalize resC (normT (partE es tops) ns) = rc at *
          generalize resT (normT (partE es tops) ns) = rt at *
          go_wp2_with fail
          refine HC.out.mono ?_
          rintro e w8 ⟨vE8, vN8, rs, rfl, hre, hrn, hmap, hin, q8⟩
          have yb := hy5.out _ (hq.trans q8)
          have qz := q5w.trans q8
          have HIN := Lib.hid hin
          have HMP := Lib.hid hmap
          clear hin hmap
          have ys := yb.soft
          obtain ⟨y0, y0'⟩ := yb.cells
          obtain ⟨A8, c8, rfl⟩ := OwnR.form flatE hre
          obtain ⟨B8, d8, rfl⟩ := OwnR.form flatN hrn
          have HRE := Lib.hid hre
          have HRN := Lib.hid hrn
          clear hre hrn
          generalize hl8 : rt.1.length = l8 at *
          go_wp2
          have yz : BoxT ((w8.setCell ⟨w.heap.size + 1, 0, none⟩ (.slice A8 l8 c8)).setCell ⟨w.heap.size + 1, 1, none⟩ (.slice B8 rs.length d8)) (w.heap.size + 1) (.slice A8 l8 c8) (.slice B8 rs.length d8) := (yb.set0 _).set1 _
          have qe : Q w ((w8.setCell ⟨w.heap.size + 1, 0, none⟩ (.slice A8 l8 c8)).setCell ⟨w.heap.size + 1, 1, none⟩ (.slice B8 rs.length d8)) := q_set (q_set qz (Nat.le_succ _) 0 _) (Nat.le_succ _) 1 _
          have tt : Typ [25] w8 ((w8.setCell ⟨w.heap.size + 1, 0, none⟩ (.slice A8 l8 c8)).setCell ⟨w.heap.size + 1, 1, none⟩ (.slice B8 rs.length d8)) := (Typ.set yb (by simp) 0 _).trans (Typ.set (yb.set0 _) (by simp) 1 _)
          obtain ⟨z0, z1⟩ := yz.cells
          refine bodyPost_ret (v := .tuple #[.agg #[.slice A8 l8 c8, .slice B8 rs.length d8], .int .i64 rc]) (by simp [results, Tryz.results14, go_sem, z0, z1]) rfl ?_
          exact ⟨_, by rw [EE.out], by rw [EE.out]; exact ⟨_, _, rfl, OwnR.row flatE (OwnR.typ HRE.out tt (by decide)), rs, OwnR.row flatN (OwnR.typ HRN.out tt (by decide)), HMP.out, fun x hx => (HIN.out x hx).keep qe⟩, qe⟩
end Go.Proofs.YtgbenepapajieaaGreat.Tr
