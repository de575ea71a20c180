/-
  The document's MayTree walked.
-/
import Derived.Test.YtgbenepapajieaaGreatTRefO
import Derived.Test.YtgbenepapajieaaGreatTRef
import Derived.Test.YtgbenepapajieaaGreatTMay
import Derived.Test.YtgbenepapajieaaGreatNRefY
namespace Go.Proofs.YtgbenepapajieaaGreat.Tr
open Go.RowKit
open Go.Proofs.YtgbenepapajieaaGreat.Nd (Nd mayN sumP nodeV NodeAt PcsAt)
open Go.Proofs.YtgbenepapajieaaGreat.Pa (lessB parentB hasParentB lastB underB joinB StrsAt)

/-! ### A row of numbers of the call's own -/
def natV (n : Nat) : Value := .int .i64 (n : Int)
def RowI (w : World) (g : Nat) (vs : List Nat) : Prop := w.heap[g]? = some (.cells (vs.map natV).toArray 3 (0, 0))
theorem RowI.lt {w : World} {g : Nat} {vs : List Nat} (h : RowI w g vs) : g < w.heap.size := by
  rcases Nat.lt_or_ge g w.heap.size with h' | h'
  · exact h'
  · unfold RowI at h; rw [Array.getElem?_eq_none h'] at h; cases h
theorem RowI.keep {w w' : World} {g : Nat} {vs : List Nat} (h : RowI w g vs) (q : Q w w') : RowI w' g vs := (q.block g h.lt).trans h
theorem RowI.cell {w : World} {g : Nat} {vs : List Nat} (h : RowI w g vs) (j : Nat) (hj : j < vs.length) : w.cell? ⟨g, j, none⟩ = some (.int .i64 (vs[j] : Nat)) := by
  unfold RowI at h
  simp [World.cell?, h, hj, natV]
theorem RowI.soft {w : World} {g : Nat} {vs : List Nat} (h : RowI w g vs) (j : Nat) : w.frozen? ⟨g, j, none⟩ = false := by
  unfold RowI at h
  simp [World.frozen?, h]
theorem RowI.set {w : World} {g : Nat} {vs : List Nat} (h : RowI w g vs) (i u : Nat) : RowI (w.setCell ⟨g, i, none⟩ (.int .i64 (u : Nat))) g (vs.set i u) := by
  unfold RowI World.setCell at *
  simp [Array.getElem?_modify, h, List.map_set, natV]
theorem RowI.new (w : World) (vs : List Nat) : RowI (w.alloc (.cells (vs.map natV).toArray 3)) w.heap.size vs := by
  show (w.heap.push _)[w.heap.size]? = _
  simp
theorem emp_yes {a : ByteArray} (h : a = ⟨#[]⟩) : a.toList.isEmpty = true := by rw [h]; decide +kernel
theorem emp_no {a : ByteArray} (h : a ≠ ⟨#[]⟩) : a.toList.isEmpty = false := by
  cases e : a.toList.isEmpty with
  | false => rfl
  | true =>
    exfalso
    refine h ?_
    have := tl_eq a ⟨#[]⟩
    rw [List.isEmpty_iff.1 e, show ByteArray.toList ⟨#[]⟩ = [] by decide +kernel] at this
    simpa using this
theorem madeI (n : Nat) : madeCells #[.int .i64 0] n = ((List.replicate n (0 : Nat)).map natV).toArray := by
  refine Array.ext (by simp [madeCells]) fun i h1 h2 => ?_
  simp [madeCells, natV, Nat.mod_one]
theorem makeI (n : Nat) (h : n ≤ 1000000) (w : World) : (Instr.makeSlice 39 (.int .i64 (n : Int)) (.int .i64 (n : Int))).run Tryz.prog w = .ok (.slice (some ⟨w.heap.size, 0, none⟩) n n) (w.alloc (.cells ((List.replicate n (0 : Nat)).map natV).toArray 3)) := by
  rw [run_make_row' 39 3 (.int .i64 0) 8 Tryz.underlying39 info_int rfl .i64 .i64 n (by omega) (by omega) w, madeI]
theorem Q.setAt {w0 w : World} (h : Q w0 w) {g : Nat} (hg : w0.heap.size ≤ g) (i : Nat) (u : Value) : Q w0 (w.setCell ⟨g, i, none⟩ u) := Below.setCell h (p := ⟨g, i, none⟩) hg u

/-! ### What the loops keep -/
def cnts (l : List Ent) (n : Nat) : List Nat := (List.range n).map (cnt l)
theorem cnts_len (l : List Ent) (n : Nat) : (cnts l n).length = n := by simp [cnts]
theorem cnts_at {l : List Ent} {n j : Nat} (h : j < (cnts l n).length) : (cnts l n)[j] = cnt l j := by simp [cnts]
theorem cnts_nil (n : Nat) : cnts [] n = List.replicate n 0 := by
  refine List.ext_getElem (by simp [cnts]) fun j h1 h2 => ?_
  rw [cnts_at h1, List.getElem_replicate]
  rfl
theorem cnt_take {l : List Ent} {k : Nat} (hk : k < l.length) (j : Nat) : cnt (l.take (k + 1)) j = cnt (l.take k) j + if l[k].2 = (j : Int) then 1 else 0 := by
  unfold cnt
  rw [List.take_succ_eq_append_getElem hk, List.countP_append]
  simp [List.countP_cons]
theorem cnts_step {l : List Ent} {n k y : Nat} (hk : k < l.length) (hy : l[k].2 = (y : Int)) : cnts (l.take (k + 1)) n = (cnts (l.take k) n).set y (cnt (l.take k) y + 1) := by
  refine List.ext_getElem (by simp [cnts]) fun j h1 h2 => ?_
  rw [cnts_at h1, cnt_take hk, List.getElem_set, hy]
  by_cases e : y = j
  · subst e; rw [if_pos rfl, if_pos rfl]
  · rw [if_neg (by omega), if_neg e, cnts_at, Nat.add_zero]
theorem cnt_le (l : List Ent) (j : Nat) : cnt l j ≤ l.length := List.countP_le_length
theorem dMay_none {es : List Ent} {ns : List Nd} (h : es.length < 1) : dMay es ns = false := by
  unfold dMay
  rw [decide_eq_false (by omega : ¬ 1 ≤ es.length)]
  rfl
theorem dMay_many {es : List Ent} {ns : List Nd} (h : 100 < es.length) : dMay es ns = false := by
  unfold dMay
  rw [decide_eq_false (by omega : ¬ es.length ≤ 100), Bool.and_false]
  rfl
theorem first_at {es : List Ent} (h : 0 < es.length) : firstE es = es[0] := by
  cases es with
  | nil => cases h
  | cons e r => rfl
theorem dMay_first {es : List Ent} {ns : List Nd} (h : 0 < es.length) (h1 : es[0].1 ≠ ⟨#[]⟩) : dMay es ns = false := by
  unfold dMay
  rw [first_at h, decide_eq_false h1]
  simp
theorem dMay_run {es : List Ent} {ns : List Nd} (h : drun es ns none 0 es = false) : dMay es ns = false := by
  unfold dMay
  rw [h]
  simp
theorem dMay_nodes {es : List Ent} {ns : List Nd} (h : nrun es 0 ns = false) : dMay es ns = false := by
  unfold dMay
  rw [h]
  simp
theorem drun_stop {es : List Ent} {ns : List Nd} {k u : Nat} (hk : k < es.length) (h : drun es ns (prevO es k) u (es.drop k) = drun es ns none 0 es) (h1 : stepOk es ns (prevO es k) u es[k] = false) : dMay es ns = false := by
  refine dMay_run ?_
  rw [← h, List.drop_eq_getElem_cons hk]
  unfold drun
  rw [h1]
  rfl
theorem prev_succ {es : List Ent} {k : Nat} (hk : k < es.length) : prevO es (k + 1) = some es[k].1 := by simp [prevO, hk]
theorem drun_next {es : List Ent} {ns : List Nd} {k u : Nat} (hk : k < es.length) (h : drun es ns (prevO es k) u (es.drop k) = drun es ns none 0 es) (h1 : stepOk es ns (prevO es k) u es[k] = true) : drun es ns (prevO es (k + 1)) (upN u es[k]) (es.drop (k + 1)) = drun es ns none 0 es := by
  rw [prev_succ hk, ← h, List.drop_eq_getElem_cons hk]
  conv => rhs; unfold drun
  rw [h1]
  rfl
theorem nrun_stop {es : List Ent} {ns : List Nd} {k : Nat} (hk : k < ns.length) (h : nrun es k (ns.drop k) = nrun es 0 ns) (h1 : nodeOk es k ns[k] = false) : dMay es ns = false := by
  refine dMay_nodes ?_
  rw [← h, List.drop_eq_getElem_cons hk]
  unfold nrun
  rw [h1]
  rfl
theorem nrun_next {es : List Ent} {ns : List Nd} {k : Nat} (hk : k < ns.length) (h : nrun es k (ns.drop k) = nrun es 0 ns) (h1 : nodeOk es k ns[k] = true) : nrun es (k + 1) (ns.drop (k + 1)) = nrun es 0 ns := by
  rw [← h, List.drop_eq_getElem_cons hk]
  conv => rhs; unfold nrun
  rw [h1]
  rfl
/-- When both loops are through. -/
theorem dMay_end {es : List Ent} {ns : List Nd} (h0 : 0 < es.length) (h1 : es.length ≤ 100) (h2 : es[0].1 = ⟨#[]⟩) (h3 : drun es ns none 0 es = true) (h4 : nrun es 0 ns = true) :
    ∃ y : Nat, es[0].2 = (y : Int) ∧ ∃ hy : y < ns.length, dMay es ns = (ns[y].kind == 1) := by
  have hd := (drun_iff es ns es none 0).1 h3
  obtain ⟨v, hv⟩ := Option.isSome_iff_exists.1 hd.2.1
  obtain ⟨a1, a2, a3, a4, a5⟩ := dnum_facts es 0 v (Nat.zero_le _) hv
  have p := a5 es[0] (List.getElem_mem h0)
  obtain ⟨y, hy⟩ : ∃ y : Nat, es[0].2 = (y : Int) := ⟨es[0].2.toNat, by omega⟩
  have hyl : y < ns.length := by
    rcases Nat.lt_or_ge y ns.length with h | h
    · exact h
    · have := a4 y (by omega)
      have : 0 < cnt es y := List.countP_pos_iff.2 ⟨es[0], List.getElem_mem h0, by simp [hy]⟩
      omega
  refine ⟨y, hy, hyl, ?_⟩
  unfold dMay
  rw [first_at h0, decide_eq_true h1, decide_eq_true (show 1 ≤ es.length by omega), decide_eq_true h2, h3, h4, hy]
  simp only [Bool.true_and, Int.toNat_natCast, isd_get hyl]
  rw [Bool.eq_iff_iff]
  simp
set_option maxRecDepth 100000 in
set_option maxHeartbeats 4000000 in
theorem rMayT_any (v : Value) (t : Tree) (w : World) (h : TreeAt w v t) (hf : Fits t) :
    Calls Tryz.prog 18 #[v] w fun e w' => e = .returned (.bool (dMay t.1 t.2)) ∧ Q w w' := by
  have HF := Lib.hid (fun w p h => rFind_any v t p w h)
  have hp := hf.path
  have hnd := hf.node
  have he20 := hf.ents
  have hn20 := hf.nodes
  obtain ⟨es, ns⟩ := t
  obtain ⟨ve, vn, rfl, he, hn⟩ := h
  simp only at he hn ⊢
  have ll := he.len
  have l2 := hn.len
  obtain ⟨A, c, rfl⟩ := he.form
  obtain ⟨B, d, rfl⟩ := hn.form
  unfold maxLen at ll l2
  simp only at hp hnd he20 hn20
  clear hf
  have bx := box_at w (.slice A es.length c) (.slice B ns.length d) 25
  have g1 : Grew w (w.alloc (.cells #[.slice A es.length c, .slice B ns.length d] 25)) := Grew.alloc _ _
  have hbl : w.heap.size < (w.alloc (.cells #[.slice A es.length c, .slice B ns.length d] 25)).heap.size := by rw [World.size_alloc]; omega
  obtain ⟨b0, b1⟩ := bx
  by_cases hz : es.length < 1
  · have E := Lib.hid (dMay_none (ns := ns) hz)
    have t1 : decide ((es.length : Int) < 1) = true := decide_eq_true (by omega)
    clear hp hnd he hn HF
    go_enter Tryz.func18, Tryz.ntmps18
    go_wp2
    go_ret
    exact ⟨ret_bool E.out.symm, g1.q⟩
  have t1 : decide ((es.length : Int) < 1) = false := decide_eq_false (by omega)
  by_cases hm100 : 100 < es.length
  · have E := Lib.hid (dMay_many (ns := ns) hm100)
    have t2 : decide ((100 : Int) < (es.length : Int)) = true := decide_eq_true (by omega)
    clear hp hnd he hn HF
    go_enter Tryz.func18, Tryz.ntmps18
    go_wp2
    go_ret
    exact ⟨ret_bool E.out.symm, g1.q⟩
  have t2 : decide ((100 : Int) < (es.length : Int)) = false := decide_eq_false (by omega)
  obtain ⟨ge, og, _, ea, _, _, hce⟩ := (he.keep g1.q).at_ (by omega)
  cases ea
  obtain ⟨f1, f2⟩ := hce 0 (by omega)
  rw [show og + 0 * 2 = og by omega] at f1 f2
  by_cases hfe : es[0].1 = ⟨#[]⟩
  · have mk := makeI ns.length (by omega)
    rw [show ((List.replicate ns.length (0 : Nat)).map natV).toArray = ((cnts (es.take 0) ns.length).map natV).toArray by rw [List.take_zero, cnts_nil]] at mk
    have hI := RowI.new (w.alloc (.cells #[.slice (some ⟨ge, og, none⟩) es.length c, .slice B ns.length d] 25)) (cnts (es.take 0) ns.length)
    have t3 := emp_yes hfe
    generalize hX : es[0].1 = x0 at f1 t3
    generalize hZ : ((cnts (es.take 0) ns.length).map natV).toArray = Z at mk hI
    clear hce
    go_enter Tryz.func18, Tryz.ntmps18
    go_wp2
    rw [World.size_alloc] at hI
    have hw1 : Hid (w.heap.size + 1 = (w.alloc (.cells #[.slice (some ⟨ge, og, none⟩) es.length c, .slice B ns.length d] 25)).heap.size) := (World.size_alloc _ _).symm
    generalize w.alloc (.cells #[.slice (some ⟨ge, og, none⟩) es.length c, .slice B ns.length d] 25) = w1 at *
    go_loopw [3, 5] (fun nx i wr => ∃ k u : Nat, nx = .int .i64 (u : Nat) ∧ i = .int .i64 k ∧ k ≤ es.length ∧ u ≤ k ∧ Q w1 wr ∧ RowI wr (w.heap.size + 1) (cnts (es.take k) ns.length) ∧ Hid (drun es ns (prevO es k) u (es.drop k) = drun es ns none 0 es)) (fun _ i _ => es.length - (intOf i).toNat)
    case atStart => exact ⟨0, 0, rfl, rfl, by omega, by omega, (Q.refl _).alloc _, hI, rfl⟩
    case round =>
      obtain ⟨k, u, rfl, rfl, hk, huk, hq, hI, H⟩ := hrel
      have hcb0 := hq.cell b0
      have hcb1 := hq.cell b1
      by_cases hlt : k < es.length
      · have lt2 : (k : Int) < (es.length : Int) := by omega
        obtain ⟨g, og2, _, ea, _, _, hc⟩ := (he.keep (g1.q.trans hq)).at_ (by omega)
        cases ea
        obtain ⟨c1, c2⟩ := hc k hlt
        have hx := hp _ (List.getElem_mem hlt)
        have HT : Hid (∀ w', Q w w' → TreeAt w' (.agg #[.slice (some ⟨ge, og, none⟩) es.length c, .slice B ns.length d]) (es, ns)) := fun w' q => ⟨_, _, rfl, he.keep q, hn.keep q⟩
        have En : Hid (stepOk es ns (prevO es k) u es[k] = false → dMay es ns = false) := drun_stop hlt H.out
        have Ey : Hid (stepOk es ns (prevO es k) u es[k] = true → drun es ns (prevO es (k + 1)) (upN u es[k]) (es.drop (k + 1)) = drun es ns none 0 es) := drun_next hlt H.out
        have HST : Hid (∀ y : Nat, es[k].2 = (y : Int) → cnts (es.take (k + 1)) ns.length = (cnts (es.take k) ns.length).set y (cnt (es.take k) y + 1)) := fun y h => cnts_step hlt h
        have eb := box_at wr (.string es[k].1) (.int .i64 es[k].2) 49
        have hq2 : Q w1 (wr.alloc (.cells #[.string es[k].1, .int .i64 es[k].2] 49)) := hq.alloc _
        have hI2 := hI.keep ((Q.refl wr).alloc (.cells #[.string es[k].1, .int .i64 es[k].2] 49))
        have HM : Hid (∀ w, Calls Tryz.prog 38 #[.string es[k].1] w fun e w' => e = .returned (.bool (Pa.mayB es[k].1)) ∧ Grew w w') := fun w => (Pa.rmay_any es[k].1 w (by omega)).mono fun e w' h => ⟨h.1, h.2.grew⟩
        have HPR := Lib.hid (fun w => Pa.rparent_any es[k].1 w (by omega))
        have hwgt : w.heap.size + 1 < wr.heap.size := hI.lt
        by_cases hk0 : k = 0
        · have ep : prevO es k = none := by subst hk0; rfl
          rw [ep] at En Ey
          have t0 : decide ((0 : Int) < (k : Int)) = false := decide_eq_false (by omega)
          have t0n : decide (0 < k) = false := decide_eq_false (by omega)
          have t0m : ¬ 0 < k := by omega
          clear hc hk0 ep
          have mixed : Tryz.prog.follows .mixedOrders = true := by kernel_rfl
          clear hX f1 f2 t3 H
          generalize es[k] = x at *
          obtain ⟨p0, n0⟩ := x
          simp only at En Ey HST eb hq2 hI2 HM HPR c1 c2 hx
          obtain ⟨hE1, hE2⟩ := eb
          have hbe : wr.heap.size < (wr.alloc (.cells #[.string p0, .int .i64 n0] 49)).heap.size := by rw [World.size_alloc]; omega
          have hbw : w.heap.size < (wr.alloc (.cells #[.string p0, .int .i64 n0] 49)).heap.size := by rw [World.size_alloc]; omega
          have q0 := cell_grown (a := ⟨wr.heap.size, 0, none⟩) hbe hE1
          have q1 := cell_grown (a := ⟨wr.heap.size, 1, none⟩) hbe hE2
          have q2 := cell_grown (a := ⟨w.heap.size, 0, none⟩) hbw (((Q.refl wr).alloc _).cell hcb0)
          have q3 := cell_grown (a := ⟨w.heap.size, 1, none⟩) hbw (((Q.refl wr).alloc _).cell hcb1)
          cases hm : Pa.mayB p0
          · rw [hm] at HM
            have E := Lib.hid (En.out (by simp [stepOk, hm]))
            clear En Ey
            go_wp2
            (refine wp_region_quiet_grown (by assumption) (by kernel_rfl) ?_; (repeat (go_big_quiet_step (first | (go_at_call 38; exact Grew.calls (HM.out _))))); refine wpQuiet_nil ?_; intro _ hw'; obtain ⟨⟨nq, osq⟩, hw2⟩ := hw'; subst hw2)
            go_wp2
            go_ret
            exact ⟨ret_bool E.out.symm, g1.q.trans (hq2.trans (Grew.q ⟨nq, osq, rfl⟩))⟩
          · rw [hm] at HM
            by_cases h0 : n0 < 0
            · have t3 := decide_eq_true h0
              have h0' : ¬ 0 ≤ n0 := by omega
              have E := Lib.hid (En.out (by simp [stepOk, h0']))
              clear En Ey
              go_wp2
              (refine wp_region_quiet_grown (by assumption) (by kernel_rfl) ?_; (repeat (go_big_quiet_step (first | (go_at_call 38; exact Grew.calls (HM.out _))))); refine wpQuiet_nil ?_; intro _ hw'; obtain ⟨⟨nq, osq⟩, hw2⟩ := hw'; subst hw2)
              go_wp2
              go_ret
              exact ⟨ret_bool E.out.symm, g1.q.trans (hq2.trans (Grew.q ⟨nq, osq, rfl⟩))⟩
            · have t3 := decide_eq_false h0
              obtain ⟨y, rfl⟩ : ∃ y : Nat, n0 = (y : Int) := ⟨n0.toNat, by omega⟩
              by_cases h1 : u < y
              · have t4 : decide ((u : Int) < (y : Int)) = true := decide_eq_true (by omega)
                have h1' : ¬ y ≤ u := by omega
                have E := Lib.hid (En.out (by simp [stepOk, h1']))
                clear En Ey
                go_wp2
                (refine wp_region_quiet_grown (by assumption) (by kernel_rfl) ?_; (repeat (go_big_quiet_step (first | (go_at_call 38; exact Grew.calls (HM.out _))))); refine wpQuiet_nil ?_; intro _ hw'; obtain ⟨⟨nq, osq⟩, hw2⟩ := hw'; subst hw2)
                go_wp2
                go_ret
                exact ⟨ret_bool E.out.symm, g1.q.trans (hq2.trans (Grew.q ⟨nq, osq, rfl⟩))⟩
              · have t4 : decide ((u : Int) < (y : Int)) = false := decide_eq_false (by omega)
                by_cases h2 : ns.length ≤ y
                · have t5 : decide ((ns.length : Int) ≤ (y : Int)) = true := decide_eq_true (by omega)
                  have h2' : ¬ y < ns.length := by omega
                  have E := Lib.hid (En.out (by simp [stepOk, h2']))
                  clear En Ey
                  go_wp2
                  (refine wp_region_quiet_grown (by assumption) (by kernel_rfl) ?_; (repeat (go_big_quiet_step (first | (go_at_call 38; exact Grew.calls (HM.out _))))); refine wpQuiet_nil ?_; intro _ hw'; obtain ⟨⟨nq, osq⟩, hw2⟩ := hw'; subst hw2)
                  go_wp2
                  go_ret
                  exact ⟨ret_bool E.out.symm, g1.q.trans (hq2.trans (Grew.q ⟨nq, osq, rfl⟩))⟩
                · have t5 : decide ((ns.length : Int) ≤ (y : Int)) = false := decide_eq_false (by omega)
                  have ES : stepOk es ns (none) u (p0, (y : Int)) = upOk es ns (p0, (y : Int)) := by
                    unfold stepOk
                    rw [hm, decide_eq_true (show (0 : Int) ≤ ((p0, (y : Int)) : Ent).2 by simp), decide_eq_true (show ((p0, (y : Int)) : Ent).2 ≤ (u : Int) by simp; omega), decide_eq_true (show ((p0, (y : Int)) : Ent).2 < (ns.length : Int) by simp; omega)]
                    simp
                  rw [ES] at Ey En
                  clear ES hm h0
                  go_wp2_with fail
                  (refine wp_region_quiet_grown (by assumption) (by kernel_rfl) ?_; (repeat (go_big_quiet_step (first | (go_at_call 38; exact Grew.calls (HM.out _))))); refine wpQuiet_nil ?_; intro _ hw'; obtain ⟨⟨nq, osq⟩, hw2⟩ := hw'; subst hw2)
                  have hq3 := hq2.trans (Grew.q ⟨nq, osq, rfl⟩ : Q (wr.alloc (.cells #[.string p0, .int .i64 (y : Int)] 49)) _)
                  replace hE1 := (Grew.q ⟨nq, osq, rfl⟩ : Q (wr.alloc (.cells #[.string p0, .int .i64 (y : Int)] 49)) _).cell hE1
                  replace hE2 := (Grew.q ⟨nq, osq, rfl⟩ : Q (wr.alloc (.cells #[.string p0, .int .i64 (y : Int)] 49)) _).cell hE2
                  have hI := hI2.keep (Grew.q ⟨nq, osq, rfl⟩ : Q (wr.alloc (.cells #[.string p0, .int .i64 (y : Int)] 49)) _)
                  clear hq2
                  generalize Go.Sort.grow ((wr.alloc (.cells #[.string p0, .int .i64 (y : Int)] 49)).drewN nq) osq = w3 at *
                  by_cases hyu : y = u
                  · subst hyu
                    rw [show upN y (p0, (y : Int)) = y + 1 by simp [upN]] at Ey
                    have hyn : y < ns.length := by omega
                    have hcl : cnt (es.take k) y ≤ k := Nat.le_trans (cnt_le _ _) (by rw [List.length_take]; omega)
                    have hcI : w3.cell? ⟨w.heap.size + 1, y, none⟩ = some (.int .i64 (cnt (es.take k) y : Nat)) := by
                      have hl : y < (cnts (es.take k) ns.length).length := by rw [cnts_len]; omega
                      have := hI.cell y hl
                      rwa [cnts_at hl] at this
                    have hso := hI.soft y
                    have hIs : RowI (w3.setCell ⟨w.heap.size + 1, y, none⟩ (.int .i64 ((cnt (es.take k) y : Nat) + 1))) (w.heap.size + 1) (cnts (es.take (k + 1)) ns.length) := by
                      rw [HST.out y rfl]
                      exact hI.set y (cnt (es.take k) y + 1)
                    generalize cnt (es.take k) y = cy at *
                    have hwc : IntKind.i64.wrap ((cy : Int) + 1) = (cy : Int) + 1 := IntWalk.i64_in _ (by omega)
                    have hwu : IntKind.i64.wrap ((y : Int) + 1) = (y : Int) + 1 := IntWalk.i64_in _ (by omega)
                    have hqs : Q w1 (w3.setCell ⟨w.heap.size + 1, y, none⟩ (.int .i64 ((cy : Int) + 1))) := Q.setAt hq3 (Nat.le_of_eq hw1.out.symm) y _
                    have hE1s : (w3.setCell ⟨w.heap.size + 1, y, none⟩ (.int .i64 ((cy : Int) + 1))).cell? ⟨wr.heap.size, 0, none⟩ = some (.string p0) := (Nd.Far.setCell _ _ _ _).cell (by omega) hE1
                    have lt3 : (y : Int) < (ns.length : Int) := by omega
                    clear hI
                    cases hup : hasParentB p0
                    · rw [hup] at HPR
                      go_wp2_with fail
                      refine (HPR.out _).mono ?_
                      rintro e w5 ⟨rfl, q5⟩
                      replace q5 := q5.1
                      have hQ5 := hqs.trans q5
                      have hI5 := hIs.keep q5
                      clear hqs hIs hE1s hcI hso
                      have E := Lib.hid (Ey.out (by simp [upOk, hup]))
                      clear Ey En
                      go_wp2
                      go_roundw
                      case rel => exact ⟨k + 1, y + 1, by go_num, by go_num, by omega, by omega, hQ5, hI5, E⟩
                      case measure => simp [intOf]; omega
                    · rw [hup] at HPR
                      go_wp2_with fail
                      refine (HPR.out _).mono ?_
                      rintro e w5 ⟨rfl, q5⟩
                      replace q5 := q5.1
                      have hQ5 := hqs.trans q5
                      have hI5 := hIs.keep q5
                      clear hqs hIs hE1s hcI hso
                      have b50 := hQ5.cell b0
                      have b51 := hQ5.cell b1
                      have HG := Lib.hid (HF.out w5 (parentB p0) (HT.out _ (g1.q.trans hQ5)))
                      cases hm : findE es (parentB p0)
                      · rw [hm] at HG
                        simp only [Option.getD_none, Option.isSome_none] at HG
                        go_wp2_with fail
                        refine HG.out.mono ?_
                        rintro e w6 ⟨rfl, q6⟩
                        have hQ6 := hQ5.trans q6.q
                        have hI6 := hI5.keep q6.q
                        replace b50 := q6.q.cell b50
                        replace b51 := q6.q.cell b51
                        clear hI5 hQ5 HG
                        have E := Lib.hid (En.out (by simp [upOk, hup, hm]))
                        clear Ey En hm hup
                        go_wp2
                        go_ret
                        exact ⟨ret_bool E.out.symm, g1.q.trans hQ6⟩
                      · rename_i m
                        rw [hm] at HG
                        simp only [Option.getD_some, Option.isSome_some] at HG
                        by_cases m0 : m < 0
                        · have t6 := decide_eq_true m0
                          have m0' : ¬ 0 ≤ m := by omega
                          go_wp2_with fail
                          refine HG.out.mono ?_
                          rintro e w6 ⟨rfl, q6⟩
                          have hQ6 := hQ5.trans q6.q
                          have hI6 := hI5.keep q6.q
                          replace b50 := q6.q.cell b50
                          replace b51 := q6.q.cell b51
                          clear hI5 hQ5 HG
                          have E := Lib.hid (En.out (by simp [upOk, hup, hm]; exact fun a => absurd a (by omega)))
                          clear Ey En hm hup
                          go_wp2
                          go_ret
                          exact ⟨ret_bool E.out.symm, g1.q.trans hQ6⟩
                        have t6 := decide_eq_false m0
                        obtain ⟨z, rfl⟩ : ∃ z : Nat, m = (z : Int) := ⟨m.toNat, by omega⟩
                        by_cases m1 : ns.length ≤ z
                        · have t7 : decide ((ns.length : Int) ≤ (z : Int)) = true := decide_eq_true (by omega)
                          have m1' : ¬ z < ns.length := by omega
                          go_wp2_with fail
                          refine HG.out.mono ?_
                          rintro e w6 ⟨rfl, q6⟩
                          have hQ6 := hQ5.trans q6.q
                          have hI6 := hI5.keep q6.q
                          replace b50 := q6.q.cell b50
                          replace b51 := q6.q.cell b51
                          clear hI5 hQ5 HG
                          have E := Lib.hid (En.out (by simp [upOk, hup, hm, m1']))
                          clear Ey En hm hup
                          go_wp2
                          go_ret
                          exact ⟨ret_bool E.out.symm, g1.q.trans hQ6⟩
                        have t7 : decide ((ns.length : Int) ≤ (z : Int)) = false := decide_eq_false (by omega)
                        have hzn : z < ns.length := by omega
                        have lt7 : (z : Int) < (ns.length : Int) := by omega
                        have hid := isd_get hzn
                        go_wp2_with fail
                        refine HG.out.mono ?_
                        rintro e w6 ⟨rfl, q6⟩
                        have hQ6 := hQ5.trans q6.q
                        have hI6 := hI5.keep q6.q
                        replace b50 := q6.q.cell b50
                        replace b51 := q6.q.cell b51
                        clear hI5 hQ5 HG
                        obtain ⟨gn, on, _, en, _, _, hcn⟩ := (hn.keep (g1.q.trans hQ6)).at_ (by omega)
                        cases en
                        obtain ⟨_, _, _, _, k0, _⟩ := hcn z hzn
                        clear hcn hn HT HF
                        generalize ns[z] = nz at *
                        by_cases hk1 : nz.kind = 1
                        · have t8 : (nz.kind == 1) = true := beq_iff_eq.2 hk1
                          have E := Lib.hid (Ey.out (by simp [upOk, hup, hm, hid, hk1, hzn]))
                          clear Ey En
                          go_wp2
                          go_roundw
                          case rel => exact ⟨k + 1, y + 1, by go_num, by go_num, by omega, by omega, hQ6, hI6, E⟩
                          case measure => simp [intOf]; omega
                        · have t8 : (nz.kind == 1) = false := beq_eq_false_iff_ne.2 hk1
                          have E := Lib.hid (En.out (by simp [upOk, hup, hm, hid, hk1]))
                          clear Ey En hm hup
                          go_wp2
                          go_ret
                          exact ⟨ret_bool E.out.symm, g1.q.trans hQ6⟩
                  · exfalso; omega
        · obtain ⟨j, rfl⟩ : ∃ j, k = j + 1 := ⟨k - 1, by omega⟩
          obtain ⟨d1, _⟩ := hc j (by omega)
          rw [prev_succ (show j < es.length by omega)] at En Ey
          have hy := hp _ (List.getElem_mem (show j < es.length by omega))
          have HC : Hid (∀ w, Calls Tryz.prog 32 #[.string es[j].1, .string es[j + 1].1] w fun e w' => e = .returned (.bool (lessB es[j].1 es[j + 1].1)) ∧ Grew w w') := fun w => (Pa.rless_any es[j].1 es[j + 1].1 w (by omega) (by omega)).mono fun e w' h => ⟨h.1, h.2.grew⟩
          have t0 : decide ((0 : Int) < (j : Int) + 1) = true := decide_eq_true (by omega)
          have lt3 : (j : Int) < (es.length : Int) := by omega
          have lt4 : (j : Int) + 1 < (es.length : Int) := by omega
          have nn3 : (0 : Int) ≤ (j : Int) := by omega
          have nn4 : (0 : Int) ≤ (j : Int) + 1 := by omega
          have wr3 : IntKind.i64.wrap (j : Int) = j := IntWalk.i64_in _ (by omega)
          have wr4 : IntKind.i64.wrap ((j : Int) + 1) = (j : Int) + 1 := IntWalk.i64_in _ (by omega)
          clear hc hk0
          have mixed : Tryz.prog.follows .mixedOrders = true := by kernel_rfl
          clear hX f1 f2 t3 H
          generalize es[j + 1] = x at *
          generalize es[j].1 = y0 at *
          obtain ⟨p0, n0⟩ := x
          simp only at En Ey HST eb hq2 hI2 HM HPR c1 c2 hx
          obtain ⟨hE1, hE2⟩ := eb
          have hbe : wr.heap.size < (wr.alloc (.cells #[.string p0, .int .i64 n0] 49)).heap.size := by rw [World.size_alloc]; omega
          have hbw : w.heap.size < (wr.alloc (.cells #[.string p0, .int .i64 n0] 49)).heap.size := by rw [World.size_alloc]; omega
          have q0 := cell_grown (a := ⟨wr.heap.size, 0, none⟩) hbe hE1
          have q1 := cell_grown (a := ⟨wr.heap.size, 1, none⟩) hbe hE2
          have q2 := cell_grown (a := ⟨w.heap.size, 0, none⟩) hbw (((Q.refl wr).alloc _).cell hcb0)
          have q3 := cell_grown (a := ⟨w.heap.size, 1, none⟩) hbw (((Q.refl wr).alloc _).cell hcb1)
          have q4 := cell_grown (a := ⟨ge, og + j * 2, none⟩) (Nat.lt_trans (World.block_lt_of_cell? wr _ d1) hbe) (((Q.refl wr).alloc _).cell d1)
          cases hm : Pa.mayB p0
          · rw [hm] at HM
            have E := Lib.hid (En.out (by simp [stepOk, hm]))
            clear En Ey
            go_wp2
            (refine wp_region_quiet_grown (by assumption) (by kernel_rfl) ?_; (repeat (go_big_quiet_step (first | (go_at_call 38; exact Grew.calls (HM.out _)) | (go_at_call 32; exact Grew.calls (HC.out _))))); refine wpQuiet_nil ?_; intro _ hw'; obtain ⟨⟨nq, osq⟩, hw2⟩ := hw'; subst hw2)
            go_wp2
            go_ret
            exact ⟨ret_bool E.out.symm, g1.q.trans (hq2.trans (Grew.q ⟨nq, osq, rfl⟩))⟩
          · rw [hm] at HM
            cases hl : lessB y0 p0
            · rw [hl] at HC
              have E := Lib.hid (En.out (by simp [stepOk, hm, hl]))
              clear En Ey
              go_wp2
              (refine wp_region_quiet_grown (by assumption) (by kernel_rfl) ?_; (repeat (go_big_quiet_step (first | (go_at_call 38; exact Grew.calls (HM.out _)) | (go_at_call 32; exact Grew.calls (HC.out _))))); refine wpQuiet_nil ?_; intro _ hw'; obtain ⟨⟨nq, osq⟩, hw2⟩ := hw'; subst hw2)
              go_wp2
              go_ret
              exact ⟨ret_bool E.out.symm, g1.q.trans (hq2.trans (Grew.q ⟨nq, osq, rfl⟩))⟩
            · rw [hl] at HC
              by_cases h0 : n0 < 0
              · have t3 := decide_eq_true h0
                have h0' : ¬ 0 ≤ n0 := by omega
                have E := Lib.hid (En.out (by simp [stepOk, h0']))
                clear En Ey
                go_wp2
                (refine wp_region_quiet_grown (by assumption) (by kernel_rfl) ?_; (repeat (go_big_quiet_step (first | (go_at_call 38; exact Grew.calls (HM.out _)) | (go_at_call 32; exact Grew.calls (HC.out _))))); refine wpQuiet_nil ?_; intro _ hw'; obtain ⟨⟨nq, osq⟩, hw2⟩ := hw'; subst hw2)
                go_wp2
                go_ret
                exact ⟨ret_bool E.out.symm, g1.q.trans (hq2.trans (Grew.q ⟨nq, osq, rfl⟩))⟩
              · have t3 := decide_eq_false h0
                obtain ⟨y, rfl⟩ : ∃ y : Nat, n0 = (y : Int) := ⟨n0.toNat, by omega⟩
                by_cases h1 : u < y
                · have t4 : decide ((u : Int) < (y : Int)) = true := decide_eq_true (by omega)
                  have h1' : ¬ y ≤ u := by omega
                  have E := Lib.hid (En.out (by simp [stepOk, h1']))
                  clear En Ey
                  go_wp2
                  (refine wp_region_quiet_grown (by assumption) (by kernel_rfl) ?_; (repeat (go_big_quiet_step (first | (go_at_call 38; exact Grew.calls (HM.out _)) | (go_at_call 32; exact Grew.calls (HC.out _))))); refine wpQuiet_nil ?_; intro _ hw'; obtain ⟨⟨nq, osq⟩, hw2⟩ := hw'; subst hw2)
                  go_wp2
                  go_ret
                  exact ⟨ret_bool E.out.symm, g1.q.trans (hq2.trans (Grew.q ⟨nq, osq, rfl⟩))⟩
                · have t4 : decide ((u : Int) < (y : Int)) = false := decide_eq_false (by omega)
                  by_cases h2 : ns.length ≤ y
                  · have t5 : decide ((ns.length : Int) ≤ (y : Int)) = true := decide_eq_true (by omega)
                    have h2' : ¬ y < ns.length := by omega
                    have E := Lib.hid (En.out (by simp [stepOk, h2']))
                    clear En Ey
                    go_wp2
                    (refine wp_region_quiet_grown (by assumption) (by kernel_rfl) ?_; (repeat (go_big_quiet_step (first | (go_at_call 38; exact Grew.calls (HM.out _)) | (go_at_call 32; exact Grew.calls (HC.out _))))); refine wpQuiet_nil ?_; intro _ hw'; obtain ⟨⟨nq, osq⟩, hw2⟩ := hw'; subst hw2)
                    go_wp2
                    go_ret
                    exact ⟨ret_bool E.out.symm, g1.q.trans (hq2.trans (Grew.q ⟨nq, osq, rfl⟩))⟩
                  · have t5 : decide ((ns.length : Int) ≤ (y : Int)) = false := decide_eq_false (by omega)
                    have ES : stepOk es ns (some y0) u (p0, (y : Int)) = upOk es ns (p0, (y : Int)) := by
                      unfold stepOk
                      rw [hm, decide_eq_true (show (0 : Int) ≤ ((p0, (y : Int)) : Ent).2 by simp), decide_eq_true (show ((p0, (y : Int)) : Ent).2 ≤ (u : Int) by simp; omega), decide_eq_true (show ((p0, (y : Int)) : Ent).2 < (ns.length : Int) by simp; omega)]
                      simp [hl]
                    rw [ES] at Ey En
                    clear ES hm h0 hl
                    go_wp2_with fail
                    (refine wp_region_quiet_grown (by assumption) (by kernel_rfl) ?_; (repeat (go_big_quiet_step (first | (go_at_call 38; exact Grew.calls (HM.out _)) | (go_at_call 32; exact Grew.calls (HC.out _))))); refine wpQuiet_nil ?_; intro _ hw'; obtain ⟨⟨nq, osq⟩, hw2⟩ := hw'; subst hw2)
                    have hq3 := hq2.trans (Grew.q ⟨nq, osq, rfl⟩ : Q (wr.alloc (.cells #[.string p0, .int .i64 (y : Int)] 49)) _)
                    replace hE1 := (Grew.q ⟨nq, osq, rfl⟩ : Q (wr.alloc (.cells #[.string p0, .int .i64 (y : Int)] 49)) _).cell hE1
                    replace hE2 := (Grew.q ⟨nq, osq, rfl⟩ : Q (wr.alloc (.cells #[.string p0, .int .i64 (y : Int)] 49)) _).cell hE2
                    have hI := hI2.keep (Grew.q ⟨nq, osq, rfl⟩ : Q (wr.alloc (.cells #[.string p0, .int .i64 (y : Int)] 49)) _)
                    clear hq2
                    generalize Go.Sort.grow ((wr.alloc (.cells #[.string p0, .int .i64 (y : Int)] 49)).drewN nq) osq = w3 at *
                    by_cases hyu : y = u
                    · subst hyu
                      rw [show upN y (p0, (y : Int)) = y + 1 by simp [upN]] at Ey
                      have hyn : y < ns.length := by omega
                      have hcl : cnt (es.take (j + 1)) y ≤ j + 1 := Nat.le_trans (cnt_le _ _) (by rw [List.length_take]; omega)
                      have hcI : w3.cell? ⟨w.heap.size + 1, y, none⟩ = some (.int .i64 (cnt (es.take (j + 1)) y : Nat)) := by
                        have hl : y < (cnts (es.take (j + 1)) ns.length).length := by rw [cnts_len]; omega
                        have := hI.cell y hl
                        rwa [cnts_at hl] at this
                      have hso := hI.soft y
                      have hIs : RowI (w3.setCell ⟨w.heap.size + 1, y, none⟩ (.int .i64 ((cnt (es.take (j + 1)) y : Nat) + 1))) (w.heap.size + 1) (cnts (es.take (j + 1 + 1)) ns.length) := by
                        rw [HST.out y rfl]
                        exact hI.set y (cnt (es.take (j + 1)) y + 1)
                      generalize cnt (es.take (j + 1)) y = cy at *
                      have hwc : IntKind.i64.wrap ((cy : Int) + 1) = (cy : Int) + 1 := IntWalk.i64_in _ (by omega)
                      have hwu : IntKind.i64.wrap ((y : Int) + 1) = (y : Int) + 1 := IntWalk.i64_in _ (by omega)
                      have hqs : Q w1 (w3.setCell ⟨w.heap.size + 1, y, none⟩ (.int .i64 ((cy : Int) + 1))) := Q.setAt hq3 (Nat.le_of_eq hw1.out.symm) y _
                      have hE1s : (w3.setCell ⟨w.heap.size + 1, y, none⟩ (.int .i64 ((cy : Int) + 1))).cell? ⟨wr.heap.size, 0, none⟩ = some (.string p0) := (Nd.Far.setCell _ _ _ _).cell (by omega) hE1
                      have lt3 : (y : Int) < (ns.length : Int) := by omega
                      clear hI
                      cases hup : hasParentB p0
                      · rw [hup] at HPR
                        go_wp2_with fail
                        refine (HPR.out _).mono ?_
                        rintro e w5 ⟨rfl, q5⟩
                        replace q5 := q5.1
                        have hQ5 := hqs.trans q5
                        have hI5 := hIs.keep q5
                        clear hqs hIs hE1s hcI hso
                        have E := Lib.hid (Ey.out (by simp [upOk, hup]))
                        clear Ey En
                        go_wp2
                        go_roundw
                        case rel => exact ⟨j + 1 + 1, y + 1, by go_num, by go_num, by omega, by omega, hQ5, hI5, E⟩
                        case measure => simp [intOf]; omega
                      · rw [hup] at HPR
                        go_wp2_with fail
                        refine (HPR.out _).mono ?_
                        rintro e w5 ⟨rfl, q5⟩
                        replace q5 := q5.1
                        have hQ5 := hqs.trans q5
                        have hI5 := hIs.keep q5
                        clear hqs hIs hE1s hcI hso
                        have b50 := hQ5.cell b0
                        have b51 := hQ5.cell b1
                        have HG := Lib.hid (HF.out w5 (parentB p0) (HT.out _ (g1.q.trans hQ5)))
                        cases hm : findE es (parentB p0)
                        · rw [hm] at HG
                          simp only [Option.getD_none, Option.isSome_none] at HG
                          go_wp2_with fail
                          refine HG.out.mono ?_
                          rintro e w6 ⟨rfl, q6⟩
                          have hQ6 := hQ5.trans q6.q
                          have hI6 := hI5.keep q6.q
                          replace b50 := q6.q.cell b50
                          replace b51 := q6.q.cell b51
                          clear hI5 hQ5 HG
                          have E := Lib.hid (En.out (by simp [upOk, hup, hm]))
                          clear Ey En hm hup
                          go_wp2
                          go_ret
                          exact ⟨ret_bool E.out.symm, g1.q.trans hQ6⟩
                        · rename_i m
                          rw [hm] at HG
                          simp only [Option.getD_some, Option.isSome_some] at HG
                          by_cases m0 : m < 0
                          · have t6 := decide_eq_true m0
                            have m0' : ¬ 0 ≤ m := by omega
                            go_wp2_with fail
                            refine HG.out.mono ?_
                            rintro e w6 ⟨rfl, q6⟩
                            have hQ6 := hQ5.trans q6.q
                            have hI6 := hI5.keep q6.q
                            replace b50 := q6.q.cell b50
                            replace b51 := q6.q.cell b51
                            clear hI5 hQ5 HG
                            have E := Lib.hid (En.out (by simp [upOk, hup, hm]; exact fun a => absurd a (by omega)))
                            clear Ey En hm hup
                            go_wp2
                            go_ret
                            exact ⟨ret_bool E.out.symm, g1.q.trans hQ6⟩
                          have t6 := decide_eq_false m0
                          obtain ⟨z, rfl⟩ : ∃ z : Nat, m = (z : Int) := ⟨m.toNat, by omega⟩
                          by_cases m1 : ns.length ≤ z
                          · have t7 : decide ((ns.length : Int) ≤ (z : Int)) = true := decide_eq_true (by omega)
                            have m1' : ¬ z < ns.length := by omega
                            go_wp2_with fail
                            refine HG.out.mono ?_
                            rintro e w6 ⟨rfl, q6⟩
                            have hQ6 := hQ5.trans q6.q
                            have hI6 := hI5.keep q6.q
                            replace b50 := q6.q.cell b50
                            replace b51 := q6.q.cell b51
                            clear hI5 hQ5 HG
                            have E := Lib.hid (En.out (by simp [upOk, hup, hm, m1']))
                            clear Ey En hm hup
                            go_wp2
                            go_ret
                            exact ⟨ret_bool E.out.symm, g1.q.trans hQ6⟩
                          have t7 : decide ((ns.length : Int) ≤ (z : Int)) = false := decide_eq_false (by omega)
                          have hzn : z < ns.length := by omega
                          have lt7 : (z : Int) < (ns.length : Int) := by omega
                          have hid := isd_get hzn
                          go_wp2_with fail
                          refine HG.out.mono ?_
                          rintro e w6 ⟨rfl, q6⟩
                          have hQ6 := hQ5.trans q6.q
                          have hI6 := hI5.keep q6.q
                          replace b50 := q6.q.cell b50
                          replace b51 := q6.q.cell b51
                          clear hI5 hQ5 HG
                          obtain ⟨gn, on, _, en, _, _, hcn⟩ := (hn.keep (g1.q.trans hQ6)).at_ (by omega)
                          cases en
                          obtain ⟨_, _, _, _, k0, _⟩ := hcn z hzn
                          clear hcn hn HT HF
                          generalize ns[z] = nz at *
                          by_cases hk1 : nz.kind = 1
                          · have t8 : (nz.kind == 1) = true := beq_iff_eq.2 hk1
                            have E := Lib.hid (Ey.out (by simp [upOk, hup, hm, hid, hk1, hzn]))
                            clear Ey En
                            go_wp2
                            go_roundw
                            case rel => exact ⟨j + 1 + 1, y + 1, by go_num, by go_num, by omega, by omega, hQ6, hI6, E⟩
                            case measure => simp [intOf]; omega
                          · have t8 : (nz.kind == 1) = false := beq_eq_false_iff_ne.2 hk1
                            have E := Lib.hid (En.out (by simp [upOk, hup, hm, hid, hk1]))
                            clear Ey En hm hup
                            go_wp2
                            go_ret
                            exact ⟨ret_bool E.out.symm, g1.q.trans hQ6⟩
                    · have t5b : ((y : Int) == (u : Int)) = false := beq_eq_false_iff_ne.2 (by omega)
                      rw [show upN u (p0, (y : Int)) = u by simp [upN]; omega] at Ey
                      have hyn : y < ns.length := by omega
                      have hcl : cnt (es.take (j + 1)) y ≤ j + 1 := Nat.le_trans (cnt_le _ _) (by rw [List.length_take]; omega)
                      have hcI : w3.cell? ⟨w.heap.size + 1, y, none⟩ = some (.int .i64 (cnt (es.take (j + 1)) y : Nat)) := by
                        have hl : y < (cnts (es.take (j + 1)) ns.length).length := by rw [cnts_len]; omega
                        have := hI.cell y hl
                        rwa [cnts_at hl] at this
                      have hso := hI.soft y
                      have hIs : RowI (w3.setCell ⟨w.heap.size + 1, y, none⟩ (.int .i64 ((cnt (es.take (j + 1)) y : Nat) + 1))) (w.heap.size + 1) (cnts (es.take (j + 1 + 1)) ns.length) := by
                        rw [HST.out y rfl]
                        exact hI.set y (cnt (es.take (j + 1)) y + 1)
                      generalize cnt (es.take (j + 1)) y = cy at *
                      have hwc : IntKind.i64.wrap ((cy : Int) + 1) = (cy : Int) + 1 := IntWalk.i64_in _ (by omega)
                      have hwu : IntKind.i64.wrap ((u : Int) + 1) = (u : Int) + 1 := IntWalk.i64_in _ (by omega)
                      have hqs : Q w1 (w3.setCell ⟨w.heap.size + 1, y, none⟩ (.int .i64 ((cy : Int) + 1))) := Q.setAt hq3 (Nat.le_of_eq hw1.out.symm) y _
                      have hE1s : (w3.setCell ⟨w.heap.size + 1, y, none⟩ (.int .i64 ((cy : Int) + 1))).cell? ⟨wr.heap.size, 0, none⟩ = some (.string p0) := (Nd.Far.setCell _ _ _ _).cell (by omega) hE1
                      have lt3 : (y : Int) < (ns.length : Int) := by omega
                      clear hI
                      cases hup : hasParentB p0
                      · rw [hup] at HPR
                        go_wp2_with fail
                        refine (HPR.out _).mono ?_
                        rintro e w5 ⟨rfl, q5⟩
                        replace q5 := q5.1
                        have hQ5 := hqs.trans q5
                        have hI5 := hIs.keep q5
                        clear hqs hIs hE1s hcI hso
                        have E := Lib.hid (Ey.out (by simp [upOk, hup]))
                        clear Ey En
                        go_wp2
                        go_roundw
                        case rel => exact ⟨j + 1 + 1, u, by go_num, by go_num, by omega, by omega, hQ5, hI5, E⟩
                        case measure => simp [intOf]; omega
                      · rw [hup] at HPR
                        go_wp2_with fail
                        refine (HPR.out _).mono ?_
                        rintro e w5 ⟨rfl, q5⟩
                        replace q5 := q5.1
                        have hQ5 := hqs.trans q5
                        have hI5 := hIs.keep q5
                        clear hqs hIs hE1s hcI hso
                        have b50 := hQ5.cell b0
                        have b51 := hQ5.cell b1
                        have HG := Lib.hid (HF.out w5 (parentB p0) (HT.out _ (g1.q.trans hQ5)))
                        cases hm : findE es (parentB p0)
                        · rw [hm] at HG
                          simp only [Option.getD_none, Option.isSome_none] at HG
                          go_wp2_with fail
                          refine HG.out.mono ?_
                          rintro e w6 ⟨rfl, q6⟩
                          have hQ6 := hQ5.trans q6.q
                          have hI6 := hI5.keep q6.q
                          replace b50 := q6.q.cell b50
                          replace b51 := q6.q.cell b51
                          clear hI5 hQ5 HG
                          have E := Lib.hid (En.out (by simp [upOk, hup, hm]))
                          clear Ey En hm hup
                          go_wp2
                          go_ret
                          exact ⟨ret_bool E.out.symm, g1.q.trans hQ6⟩
                        · rename_i m
                          rw [hm] at HG
                          simp only [Option.getD_some, Option.isSome_some] at HG
                          by_cases m0 : m < 0
                          · have t6 := decide_eq_true m0
                            have m0' : ¬ 0 ≤ m := by omega
                            go_wp2_with fail
                            refine HG.out.mono ?_
                            rintro e w6 ⟨rfl, q6⟩
                            have hQ6 := hQ5.trans q6.q
                            have hI6 := hI5.keep q6.q
                            replace b50 := q6.q.cell b50
                            replace b51 := q6.q.cell b51
                            clear hI5 hQ5 HG
                            have E := Lib.hid (En.out (by simp [upOk, hup, hm]; exact fun a => absurd a (by omega)))
                            clear Ey En hm hup
                            go_wp2
                            go_ret
                            exact ⟨ret_bool E.out.symm, g1.q.trans hQ6⟩
                          have t6 := decide_eq_false m0
                          obtain ⟨z, rfl⟩ : ∃ z : Nat, m = (z : Int) := ⟨m.toNat, by omega⟩
                          by_cases m1 : ns.length ≤ z
                          · have t7 : decide ((ns.length : Int) ≤ (z : Int)) = true := decide_eq_true (by omega)
                            have m1' : ¬ z < ns.length := by omega
                            go_wp2_with fail
                            refine HG.out.mono ?_
                            rintro e w6 ⟨rfl, q6⟩
                            have hQ6 := hQ5.trans q6.q
                            have hI6 := hI5.keep q6.q
                            replace b50 := q6.q.cell b50
                            replace b51 := q6.q.cell b51
                            clear hI5 hQ5 HG
                            have E := Lib.hid (En.out (by simp [upOk, hup, hm, m1']))
                            clear Ey En hm hup
                            go_wp2
                            go_ret
                            exact ⟨ret_bool E.out.symm, g1.q.trans hQ6⟩
                          have t7 : decide ((ns.length : Int) ≤ (z : Int)) = false := decide_eq_false (by omega)
                          have hzn : z < ns.length := by omega
                          have lt7 : (z : Int) < (ns.length : Int) := by omega
                          have hid := isd_get hzn
                          go_wp2_with fail
                          refine HG.out.mono ?_
                          rintro e w6 ⟨rfl, q6⟩
                          have hQ6 := hQ5.trans q6.q
                          have hI6 := hI5.keep q6.q
                          replace b50 := q6.q.cell b50
                          replace b51 := q6.q.cell b51
                          clear hI5 hQ5 HG
                          obtain ⟨gn, on, _, en, _, _, hcn⟩ := (hn.keep (g1.q.trans hQ6)).at_ (by omega)
                          cases en
                          obtain ⟨_, _, _, _, k0, _⟩ := hcn z hzn
                          clear hcn hn HT HF
                          generalize ns[z] = nz at *
                          by_cases hk1 : nz.kind = 1
                          · have t8 : (nz.kind == 1) = true := beq_iff_eq.2 hk1
                            have E := Lib.hid (Ey.out (by simp [upOk, hup, hm, hid, hk1, hzn]))
                            clear Ey En
                            go_wp2
                            go_roundw
                            case rel => exact ⟨j + 1 + 1, u, by go_num, by go_num, by omega, by omega, hQ6, hI6, E⟩
                            case measure => simp [intOf]; omega
                          · have t8 : (nz.kind == 1) = false := beq_eq_false_iff_ne.2 hk1
                            have E := Lib.hid (En.out (by simp [upOk, hup, hm, hid, hk1]))
                            clear Ey En hm hup
                            go_wp2
                            go_ret
                            exact ⟨ret_bool E.out.symm, g1.q.trans hQ6⟩
      · have lt2 : ¬ (k : Int) < (es.length : Int) := by omega
        have E1 : Hid (drun es ns none 0 es = true) := by
          have := H.out
          rw [List.drop_of_length_le (by omega)] at this
          exact this.symm
        rw [List.take_of_length_le (by omega)] at hI
        clear H
        go_wp2
        go_loopw [11] (fun i w2 => ∃ m : Nat, i = .int .i64 m ∧ m ≤ ns.length ∧ Q w1 w2 ∧ RowI w2 (w.heap.size + 1) (cnts es ns.length) ∧ Hid (nrun es m (ns.drop m) = nrun es 0 ns)) (fun i _ => ns.length - (intOf i).toNat)
        case atStart => exact ⟨0, rfl, by omega, hq, hI, rfl⟩
        case round =>
          clear hcb0 hcb1 hI hq
          obtain ⟨m, rfl, hm, hq, hI, H⟩ := hrel
          have hcb0 := hq.cell b0
          have hcb1 := hq.cell b1
          by_cases hlt2 : m < ns.length
          · have lt3 : (m : Int) < (ns.length : Int) := by omega
            obtain ⟨gn, on, _, en, _, _, hcn⟩ := (hn.keep (g1.q.trans hq)).at_ (by omega)
            cases en
            obtain ⟨va, vl, vd, hN, c0, c1, c2, c3, c4, c5, c6, c7, c8, c9, c10, c11⟩ := hcn m hlt2
            have hnx := hnd _ (List.getElem_mem hlt2)
            have En : Hid (nodeOk es m ns[m] = false → dMay es ns = false) := nrun_stop hlt2 H.out
            have Ey : Hid (nodeOk es m ns[m] = true → nrun es (m + 1) (ns.drop (m + 1)) = nrun es 0 ns) := nrun_next hlt2 H.out
            have hl : m < (cnts es ns.length).length := by rw [cnts_len]; omega
            have hcI := hI.cell m hl
            rw [cnts_at hl] at hcI
            clear hcn H hl hX
            generalize ns[m] = x at *
            have HB := Lib.hid (Nd.rMayN_any _ x wr hN hnx.1.da hnx.2)
            unfold nodeV at HB
            unfold nodeOk at En Ey
            clear hN
            cases hmx : mayN x
            · rw [hmx] at HB
              have E := Lib.hid (En.out (by simp [hmx]))
              clear En Ey hmx
              go_wp2_with fail
              refine HB.out.mono ?_
              rintro e w3 ⟨rfl, q3⟩
              have hQ := hq.trans q3
              clear c0 c1 c2 c3 c4 c5 c6 c7 c8 c9 c10 c11 HB
              go_wp2
              go_ret
              exact ⟨ret_bool E.out.symm, g1.q.trans hQ⟩
            · rw [hmx] at HB En Ey
              clear hmx
              go_wp2_with fail
              refine HB.out.mono ?_
              rintro e w3 ⟨rfl, q3⟩
              have hQ := hq.trans q3
              have hI3 := hI.keep q3
              replace hcb0 := q3.cell hcb0
              replace hcb1 := q3.cell hcb1
              replace c0 := q3.cell c0
              replace hcI := q3.cell hcI
              clear c1 c2 c3 c4 c5 c6 c7 c8 c9 c10 c11 HB hI hq
              generalize cnt es m = cz at *
              by_cases hc0 : cz = 0
              · have E := Lib.hid (En.out (by simp [hc0]))
                have t5 : ((cz : Int) == 0) = true := beq_iff_eq.2 (by omega)
                clear En Ey hc0
                go_wp2
                go_ret
                exact ⟨ret_bool E.out.symm, g1.q.trans hQ⟩
              · have t5 : ((cz : Int) == 0) = false := beq_eq_false_iff_ne.2 (by omega)
                by_cases hk1 : x.kind = 1
                · have t6 : (x.kind == 1) = true := beq_iff_eq.2 hk1
                  by_cases hc1 : cz = 1
                  · have E := Lib.hid (Ey.out (by simp [hc1]))
                    have t7 : ((cz : Int) == 1) = true := beq_iff_eq.2 (by omega)
                    clear En Ey hc0 hk1 hc1
                    go_wp2
                    go_roundw
                    case rel => exact ⟨m + 1, by go_num, by omega, hQ, hI3, E⟩
                    case measure => simp [intOf]; omega
                  · have E := Lib.hid (En.out (by simp [hc1, hk1]))
                    have t7 : ((cz : Int) == 1) = false := beq_eq_false_iff_ne.2 (by omega)
                    clear En Ey hc0 hk1 hc1
                    go_wp2
                    go_ret
                    exact ⟨ret_bool E.out.symm, g1.q.trans hQ⟩
                · have E := Lib.hid (Ey.out (by simp [hc0, hk1]))
                  have t6 : (x.kind == 1) = false := beq_eq_false_iff_ne.2 hk1
                  clear En Ey hc0 hk1
                  go_wp2
                  go_roundw
                  case rel => exact ⟨m + 1, by go_num, by omega, hQ, hI3, E⟩
                  case measure => simp [intOf]; omega
          · have lt3 : ¬ (m : Int) < (ns.length : Int) := by omega
            have E2 : nrun es 0 ns = true := by
              have := H.out
              rw [List.drop_of_length_le (by omega)] at this
              exact this.symm
            obtain ⟨y, hy1, hyl, EE⟩ := dMay_end (by omega) (by omega) hfe E1.out E2
            have E := Lib.hid EE
            rw [hy1] at f2
            have mixed : Tryz.prog.follows .mixedOrders = true := by kernel_rfl
            have hbw : w.heap.size < wr.heap.size := by have := hI.lt; omega
            have hf2 := hq.cell f2
            obtain ⟨gn, on, _, en, _, _, hcn⟩ := (hn.keep (g1.q.trans hq)).at_ (by omega)
            cases en
            obtain ⟨_, _, _, _, k0, _⟩ := hcn y hyl
            have lt4 : (0 : Int) < (es.length : Int) := by omega
            have lt5 : (y : Int) < (ns.length : Int) := by omega
            have hwy : IntKind.i64.wrap (y : Int) = y := IntWalk.i64_in _ (by omega)
            have nny : (0 : Int) ≤ (y : Int) := by omega
            have q0 := cell_grown (a := ⟨w.heap.size, 0, none⟩) hbw hcb0
            have q1 := cell_grown (a := ⟨w.heap.size, 1, none⟩) hbw hcb1
            have q2 := cell_grown (World.block_lt_of_cell? wr _ hf2) hf2
            have q3 := cell_grown (World.block_lt_of_cell? wr _ k0) k0
            clear hcn hX E1 E2 EE H hfe hy1
            generalize ns[y] = x at *
            go_wp2
            (refine wp_region_quiet_grown (by assumption) (by kernel_rfl) ?_; (repeat (go_big_quiet_step (fail))); refine wpQuiet_nil ?_; intro _ hw'; obtain ⟨⟨nq, osq⟩, hw2⟩ := hw'; subst hw2)
            go_wp2
            go_ret
            exact ⟨ret_bool E.out.symm, g1.q.trans (hq.trans (Grew.q ⟨nq, osq, rfl⟩))⟩
  · have E := Lib.hid (dMay_first (ns := ns) (by omega) hfe)
    have t3 := emp_no hfe
    have lt2 : (0 : Int) < (es.length : Int) := by omega
    clear hp hnd he hn HF hce
    generalize es[0] = x at *
    go_enter Tryz.func18, Tryz.ntmps18
    go_wp2
    go_ret
    exact ⟨ret_bool E.out.symm, g1.q⟩
end Go.Proofs.YtgbenepapajieaaGreat.Tr
