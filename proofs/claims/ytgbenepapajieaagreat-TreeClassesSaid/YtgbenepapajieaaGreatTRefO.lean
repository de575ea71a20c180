/-
  The contract of tree.Part. The document's MayTree as plain mathematics: it is what the code's May says. The document's NormTree as plain mathematics: a sorted list, numbered, that may be.
-/
import Derived.Test.YtgbenepapajieaaGreatTNeed
import Derived.Test.YtgbenepapajieaaGreatTMem
namespace Go.Proofs.YtgbenepapajieaaGreat.Tr
open Go.RowKit
open Go.Proofs.YtgbenepapajieaaGreat.Nd (Nd mayN sumP nodeV NodeAt PcsAt)
open Go.Proofs.YtgbenepapajieaaGreat.Pa (lessB parentB hasParentB lastB underB joinB StrsAt)

theorem need_eq (tops us : List ByteArray) (h : ∀ x, x ∈ us ↔ x ∈ tops) (e : Ent) : needT e.1 us = neededB tops e := by
  unfold needT neededB needF
  rw [Bool.or_comm, Bool.eq_iff_iff]
  simp only [Bool.or_eq_true, List.any_eq_true, h]
theorem hasB_same (es : List Ent) (tops us : List ByteArray) (h : ∀ x, x ∈ us ↔ x ∈ tops) : hasB es us = hasB es tops := by
  unfold hasB
  rw [Bool.eq_iff_iff, List.all_eq_true, List.all_eq_true]
  simp only [h]
theorem BoxT.below {w w' : World} {B g : Nat} {c0 c1 : Value} (h : BoxT w g c0 c1) (b : Below B w w') (hg : g < B) : BoxT w' g c0 c1 := (b.block g hg).trans h
def PartPost (t : Tree) (tops : List ByteArray) (w : World) (e : Ending) (w' : World) : Prop := ∃ v, e = .returned (.tuple #[v, .int .i64 (partT t.1 t.2 tops).2]) ∧ TreeAt w' v (partT t.1 t.2 tops).1 ∧ Q w w'
theorem part_arg {t : Tree} {tops : List ByteArray} (h : mayT t.1 t.2 = false) : partT t.1 t.2 tops = (([], []), 1) := by unfold partT; rw [h]; rfl
theorem part_none {t : Tree} {tops : List ByteArray} (h : mayT t.1 t.2 = true) (k : hasB t.1 tops = false) : partT t.1 t.2 tops = (([], []), 7) := by unfold partT; rw [h, k]; rfl
theorem part_norm {t : Tree} {tops : List ByteArray} (h : mayT t.1 t.2 = true) (k : hasB t.1 tops = true) : partT t.1 t.2 tops = (resT (normT (partE t.1 tops) t.2), resC (normT (partE t.1 tops) t.2)) := by unfold partT; rw [h, k]; rfl
set_option maxRecDepth 100000 in
set_option maxHeartbeats 16000000 in
theorem part_any (v u : Value) (t : Tree) (tops : List ByteArray) (w : World) (h : TreeAt w v t) (hf : Fits t) (hl : RowAt cellsS 1 w u tops) (hl2 : tops.length ≤ 100000) (hts : ∀ x ∈ tops, x.size ≤ 90000) :
    Calls Tryz.prog 13 #[v, u] w (PartPost t tops w) := by
  have HM := Lib.hid (fun w h => may_any v t w h hf)
  have HH := Lib.hid (fun (w : World) (u : Value) (us : List ByteArray) h k => has_any v u t us w h hf k)
  have P1 := Lib.hid (@part_arg t tops)
  have P2 := Lib.hid (@part_none t tops)
  have P3 := Lib.hid (@part_norm t tops)
  have hff := Lib.hid hf
  unfold PartPost
  obtain ⟨es, ns⟩ := t
  obtain ⟨ve, vn, rfl, he, hn⟩ := h
  simp only at he hn hf ⊢
  have ll := he.len
  have l2 := hn.len
  obtain ⟨A, c, rfl⟩ := he.form
  obtain ⟨B, d, rfl⟩ := hn.form
  unfold maxLen at ll l2
  have he20 := hf.ents
  have hpa := hf.path
  simp only at he20 hpa
  obtain ⟨C, k0, rfl⟩ := hl.form
  have x1 := BoxT.new w (.slice A es.length c) (.slice B ns.length d)
  have y1 := BoxT.new (w.alloc (.cells #[.slice A es.length c, .slice B ns.length d] 25)) (.slice none 0 0) (.slice none 0 0)
  rw [World.size_alloc] at y1
  replace x1 := x1.keep ((Q.refl _).alloc (.cells #[.slice none 0 0, .slice none 0 0] 25))
  have q1 : Q w ((w.alloc (.cells #[.slice A es.length c, .slice B ns.length d] 25)).alloc (.cells #[.slice none 0 0, .slice none 0 0] 25)) := ((Q.refl w).alloc _).alloc _
  have HT : Hid (∀ w', Q w w' → TreeAt w' (.agg #[.slice A es.length c, .slice B ns.length d]) (es, ns)) := fun w' q => ⟨_, _, rfl, he.keep q, hn.keep q⟩
  have HE : Hid (∀ w', Q w w' → EntsAt w' (.slice A es.length c) es) := fun w' q => he.keep q
  have HN : Hid (∀ w', Q w w' → NodesAt w' (.slice B ns.length d) ns) := fun w' q => hn.keep q
  have HL : Hid (∀ w', Q w w' → RowAt cellsS 1 w' (.slice C tops.length k0) tops) := fun w' q => hl.keep q
  clear hf he hn hl
  cases hm : mayT es ns
  · have EE := Lib.hid (P1.out hm)
    rw [show mayT (es, ns).1 (es, ns).2 = false from hm] at HM
    clear hm P1 P2 P3 HH hff
    go_enter Tryz.func13, Tryz.ntmps13
    go_wp2
    go_step3
    go_wp2_with fail
    refine (HM.out _ (HT.out _ q1)).mono ?_
    rintro e w2 ⟨rfl, q2⟩
    have y2 := y1.keep q2
    have q3 := q1.trans q2
    clear y1 x1 q1
    have g2 := y2.soft
    obtain ⟨y0, y0'⟩ := y2.cells
    go_wp2
    have yz : BoxT ((w2.setCell ⟨w.heap.size + 1, 0, none⟩ (.slice none 0 0)).setCell ⟨w.heap.size + 1, 1, none⟩ (.slice none 0 0)) (w.heap.size + 1) (.slice none 0 0) (.slice none 0 0) := (y2.set0 _).set1 _
    have qz : Q w ((w2.setCell ⟨w.heap.size + 1, 0, none⟩ (.slice none 0 0)).setCell ⟨w.heap.size + 1, 1, none⟩ (.slice none 0 0)) := q_set (q_set q3 (Nat.le_succ _) 0 _) (Nat.le_succ _) 1 _
    obtain ⟨z0, z1⟩ := yz.cells
    try simp only [Exit.noGoto_ret]
    refine bodyPost_ret (v := .tuple #[.agg #[.slice none 0 0, .slice none 0 0], .int .i64 1]) (by simp [results, Tryz.results13, go_sem, z0, z1]) rfl ?_
    exact ⟨_, by rw [EE.out], by rw [EE.out]; exact TreeAt.nil_ _, qz⟩
  · rw [show mayT (es, ns).1 (es, ns).2 = true from hm] at HM
    cases hh : hasB es tops
    · have EE := Lib.hid (P2.out hm hh)
      have hh' := Lib.hid hh
      clear hm hh P1 P2 P3 hff
      go_enter Tryz.func13, Tryz.ntmps13
      go_wp2
      go_step3
      go_wp2_with fail
      refine (HM.out _ (HT.out _ q1)).mono ?_
      rintro e w2 ⟨rfl, q2⟩
      have y2 := y1.keep q2
      have x2 := x1.keep q2
      have q3 := q1.trans q2
      clear y1 x1 q1
      go_wp2_with fail
      refine (values_any _ _ _ _).mono ?_
      rintro e w3 ⟨rfl, rfl⟩
      have bx := Boxed.new w2 26 (.slice C tops.length k0)
      go_wp2_with fail
      refine (sortedStrs_any _ _ tops _ (HL.out _ (q3.alloc _)) hl2 bx.lt bx.cell).mono ?_
      rintro e w4 ⟨v4, ts, rfl, ho4, q4, Hp⟩
      have q5 := (q3.alloc (.cells #[.slice C tops.length k0] 26)).trans q4
      have hts4 := Hp.out.length_eq
      have x4 := x2.keep (((Q.refl w2).alloc (.cells #[.slice C tops.length k0] 26)).trans q4)
      have y4 := y2.keep (((Q.refl w2).alloc (.cells #[.slice C tops.length k0] 26)).trans q4)
      have hq3s := q3.size
      have hx2 := y2.lt
      go_wp2_with fail
      refine (compact_any v4 ts _ _ ho4 (by omega) q4.size).mono ?_
      rintro e w5 ⟨v5, us, rfl, hr5, b5, hl5, Hu⟩
      have q6 : Q w w5 := Below.trans q5 (Below.mono b5 (by rw [World.size_alloc]; omega))
      have x5 := x4.below b5 (by rw [World.size_alloc]; omega)
      have y5 := y4.below b5 (by rw [World.size_alloc]; omega)
      have Hus : Hid (∀ x, x ∈ us ↔ x ∈ tops) := fun x => (Hu.out x).trans Hp.out.mem_iff
      have HH5 := Lib.hid (HH.out w5 v5 us (HT.out _ q6) hr5)
      rw [hasB_same es tops us Hus.out] at HH5
      obtain ⟨A5, k5, rfl⟩ := hr5.form
      obtain ⟨xx0, xx1⟩ := x5.cells
      clear b5 hl5 Hu Hp hts4 ho4 q4 q5 bx x4 y4 x2 y2 hq3s hx2
      rw [hh'.out] at HH5
      go_wp2_with fail
      refine HH5.out.mono ?_
      rintro e w6 ⟨rfl, g6⟩
      have y6 := y5.keep g6.q
      have q7 := q6.trans g6.q
      clear xx0 xx1 x5 y5
      have g2 := y6.soft
      obtain ⟨y0, y0'⟩ := y6.cells
      go_wp2
      have yz : BoxT ((w6.setCell ⟨w.heap.size + 1, 0, none⟩ (.slice none 0 0)).setCell ⟨w.heap.size + 1, 1, none⟩ (.slice none 0 0)) (w.heap.size + 1) (.slice none 0 0) (.slice none 0 0) := (y6.set0 _).set1 _
      have qz : Q w ((w6.setCell ⟨w.heap.size + 1, 0, none⟩ (.slice none 0 0)).setCell ⟨w.heap.size + 1, 1, none⟩ (.slice none 0 0)) := q_set (q_set q7 (Nat.le_succ _) 0 _) (Nat.le_succ _) 1 _
      obtain ⟨z0, z1⟩ := yz.cells
      try simp only [Exit.noGoto_ret]
      refine bodyPost_ret (v := .tuple #[.agg #[.slice none 0 0, .slice none 0 0], .int .i64 7]) (by simp [results, Tryz.results13, go_sem, z0, z1]) rfl ?_
      exact ⟨_, by rw [EE.out], by rw [EE.out]; exact TreeAt.nil_ _, qz⟩
    · have PN := Lib.hid (P3.out hm hh)
      have hh' := Lib.hid hh
      clear hm hh P1 P2 P3
      go_enter Tryz.func13, Tryz.ntmps13
      go_wp2
      refine wp_scope_goto 0 (fun a' w' => ∃ (wC : World) (k : Nat) (vt vE : Value) (us : List ByteArray) (oe : List Ent) (u8 u9 u10 u11 u12 u13 u14 u15 u16 u17 u18 u19 u20 u21 u22 u23 u24 u25 u26 u27 u28 u29 u30 u31 u32 u33 u34 u35 u36 u37 u38 u39 u40 u41 u42 u43 u44 u45 u46 u47 u48 u49 u50 u51 u52 : Value), a' = { tmps := #[.agg #[.slice A es.length c, .slice B ns.length d], vt, .pointer (some ⟨w.heap.size, 0, none⟩), undef, .pointer (some ⟨w.heap.size + 1, 0, none⟩), .int .i64 0, .pointer (some ⟨wC.heap.size, 0, none⟩), .int .i64 k, u8, u9, u10, u11, u12, u13, u14, u15, u16, u17, u18, u19, u20, u21, u22, u23, u24, u25, u26, u27, u28, u29, u30, u31, u32, u33, u34, u35, u36, u37, u38, u39, u40, u41, u42, u43, u44, u45, u46, u47, u48, u49, u50, u51, u52], defers := [] } ∧ Q w wC ∧ BoxT wC w.heap.size (.slice A es.length c) (.slice B ns.length d) ∧ BoxT wC (w.heap.size + 1) (.slice none 0 0) (.slice none 0 0) ∧ RowAt cellsS 1 wC vt us ∧ Hid (∀ x, x ∈ us ↔ x ∈ tops) ∧ hasB es tops = true ∧ Q wC w' ∧ BoxT w' wC.heap.size vE (.slice B ns.length d) ∧ OwnE w' (wC.heap.size + 1) vE oe ∧ k ≤ es.length ∧ oe.length ≤ k ∧ Hid (oe = partE (es.take k) tops)) (fun a' _ => es.length - (intOf (a'.tmps.getD 7 undef)).toNat) rfl ?_ ?_
      · intro hhh
        go_wp2_with fail
        refine (HM.out _ (HT.out _ q1)).mono ?_
        rintro e w2 ⟨rfl, q2⟩
        have y2 := y1.keep q2
        have x2 := x1.keep q2
        have q3 := q1.trans q2
        clear y1 x1 q1
        go_wp2_with fail
        refine (values_any _ _ _ _).mono ?_
        rintro e w3 ⟨rfl, rfl⟩
        have bx := Boxed.new w2 26 (.slice C tops.length k0)
        go_wp2_with fail
        refine (sortedStrs_any _ _ tops _ (HL.out _ (q3.alloc _)) hl2 bx.lt bx.cell).mono ?_
        rintro e w4 ⟨v4, ts, rfl, ho4, q4, Hp⟩
        have q5 := (q3.alloc (.cells #[.slice C tops.length k0] 26)).trans q4
        have hts4 := Hp.out.length_eq
        have x4 := x2.keep (((Q.refl w2).alloc (.cells #[.slice C tops.length k0] 26)).trans q4)
        have y4 := y2.keep (((Q.refl w2).alloc (.cells #[.slice C tops.length k0] 26)).trans q4)
        have hq3s := q3.size
        have hx2 := y2.lt
        go_wp2_with fail
        refine (compact_any v4 ts _ _ ho4 (by omega) q4.size).mono ?_
        rintro e w5 ⟨v5, us, rfl, hr5, b5, hl5, Hu⟩
        have q6 : Q w w5 := Below.trans q5 (Below.mono b5 (by rw [World.size_alloc]; omega))
        have x5 := x4.below b5 (by rw [World.size_alloc]; omega)
        have y5 := y4.below b5 (by rw [World.size_alloc]; omega)
        have Hus : Hid (∀ x, x ∈ us ↔ x ∈ tops) := fun x => (Hu.out x).trans Hp.out.mem_iff
        have HH5 := Lib.hid (HH.out w5 v5 us (HT.out _ q6) hr5)
        rw [hasB_same es tops us Hus.out] at HH5
        obtain ⟨A5, k5, rfl⟩ := hr5.form
        obtain ⟨xx0, xx1⟩ := x5.cells
        clear b5 hl5 Hu Hp hts4 ho4 q4 q5 bx x4 y4 x2 y2 hq3s hx2
        rw [hh'.out] at HH5
        go_wp2_with fail
        refine HH5.out.mono ?_
        rintro e w6 ⟨rfl, g6⟩
        have y6 := y5.keep g6.q
        have x6 := x5.keep g6.q
        have q7 := q6.trans g6.q
        have hr6 := hr5.keep g6.q
        clear xx0 xx1 x5 y5 hr5
        obtain ⟨xx0, xx1⟩ := x6.cells
        have hx6 := x6.lt
        go_wp2
        go_step3
        rename_i hK
        exact hK _ _ (hhh.out _ _ ⟨w6, 0, _, _, us, [], _, _, _, _, _, _, _, _, _, _, _, _, _, _, _, _, _, _, _, _, _, _, _, _, _, _, _, _, _, _, _, _, _, _, _, _, _, _, _, _, _, _, _, _, _, rfl, q7, x6, y6, hr6, Hus, hh'.out, (Q.refl w6).alloc _, BoxT.new w6 _ _, OwnR.nil_ _ _ _, by omega, by simp, rfl⟩)
      · rintro a' w' ⟨wC, k, vt, vE, us, oe, u8, u9, u10, u11, u12, u13, u14, u15, u16, u17, u18, u19, u20, u21, u22, u23, u24, u25, u26, u27, u28, u29, u30, u31, u32, u33, u34, u35, u36, u37, u38, u39, u40, u41, u42, u43, u44, u45, u46, u47, u48, u49, u50, u51, u52, rfl, qC, xC, yC, hrC, Hus, hhC, hq, hb, ho, hk, hol, H⟩
        clear x1 y1 q1 HM HH hh'
        obtain ⟨A5, k5, rfl⟩ := hrC.form
        have hqw := qC.trans hq
        have xw := xC.keep hq
        have yw := yC.keep hq
        have hCs := xC.lt
        have hCs2 := yC.lt
        obtain ⟨xx0, xx1⟩ := xw.cells
        obtain ⟨bb0, bb1⟩ := hb.cells
        by_cases hlt : k < es.length
        · have t1 : ((k : Int) == (es.length : Int)) = false := beq_eq_false_iff_ne.2 (by omega)
          obtain ⟨g, og, _, ea, _, _, hc⟩ := (HE.out _ hqw).at_ (by omega)
          cases ea
          obtain ⟨c1, c2⟩ := hc k hlt
          have hx := hpa _ (List.getElem_mem hlt)
          have E0 : Hid (partE (es.take (k + 1)) tops = oe ++ (if needT es[k].1 us then [es[k]] else [])) := by
            show _ = _
            rw [need_eq tops us Hus.out, H.out]
            unfold partE
            rw [filter_snoc hlt]
          have hus : ∀ t ∈ us, t.size ≤ 90000 := fun t ht => hts t ((Hus.out t).1 ht)
          have HNd := Lib.hid (fun (w'' : World) (q : Q w' w'') => needed_any es[k].1 _ us w'' ((hrC.keep hq).keep q) hx hus)
          have lt2 : (k : Int) < (es.length : Int) := by omega
          clear hc H hx
          generalize es[k] = x at *
          obtain ⟨xp, z⟩ := x
          simp only at c1 c2 E0 HNd
          cases hn : needT xp us
          · rw [hn] at HNd
            have E1 : Hid (oe = partE (es.take (k + 1)) tops) := (E0.out.trans (by rw [hn]; exact List.append_nil _)).symm
            clear hn E0
            go_wp2_with fail
            refine (HNd.out _ (Q.refl _)).mono ?_
            rintro e w1 ⟨rfl, q1⟩
            replace q1 := q1.1
            have hb1 := hb.keep q1
            have ho1 := OwnR.keep ho q1
            clear c1 c2 xx0 xx1 bb0 bb1 hb ho HNd
            go_wp2
            go_step3
            exact ⟨rfl, ⟨wC, k + 1, _, vE, us, oe, _, _, _, _, _, _, _, _, _, _, _, _, _, _, _, _, _, _, _, _, _, _, _, _, _, _, _, _, _, _, _, _, _, _, _, _, _, _, _, _, _, _, _, _, _, rfl, qC, xC, yC, hrC, Hus, hhC, hq.trans q1, hb1, ho1, by omega, by omega, E1⟩, by simp [intOf]; omega⟩
          · rw [hn] at HNd
            have E1 : Hid (oe ++ [(xp, z)] = partE (es.take (k + 1)) tops) := (E0.out.trans (by rw [hn]; rfl)).symm
            clear hn E0
            go_wp2_with fail
            refine (HNd.out _ (Q.refl _)).mono ?_
            rintro e w1 ⟨rfl, q1⟩
            replace q1 := q1.1
            have hb1 := hb.keep q1
            have ho1 := OwnR.keep ho q1
            have hq1 := hq.trans q1
            obtain ⟨c3, c4⟩ := And.intro (q1.cell c1) (q1.cell c2)
            obtain ⟨xx2, xx3⟩ := (xw.keep q1).cells
            obtain ⟨bb2, bb3⟩ := hb1.cells
            clear c1 c2 xx0 xx1 bb0 bb1 hb ho HNd xw yw
            have hgb := World.block_lt_of_cell? w1 _ c3
            have hgx := World.block_lt_of_cell? w1 _ xx2
            have hgo := hb1.lt
            have hsz : wC.heap.size + 1 ≤ w1.heap.size := hgo
            have HB1 := Lib.hid hb1
            have HO1 := Lib.hid ho1
            clear hb1 ho1
            go_wp2_with fail
            go_region_law (first | (refine step_append_ent rfl (.tmp 42) (.tmp 48) rfl (wC.heap.size + 1) vE oe (by simp [Act.eval]) (OwnR.keep HO1.out (((Q.refl w1).alloc _).drew)) (.slice (some ⟨w1.heap.size, 0, none⟩) 1 1) [(xp, z)] (by simp [Act.eval]) (ents_built w1 xp z) (by simp; omega) (by show _ ≤ (w1.alloc _).heap.size; rw [World.size_alloc]; omega) ?_; intro v9 w9 hown9 hg9; have hb9 := ((HB1.out.keep ((Q.refl w1).alloc (.cells #[.string xp, .int .i64 z] 49)).drew).typ (Typ.grown (Ts := [49]) (OwnR.keep HO1.out (((Q.refl w1).alloc (.cells #[.string xp, .int .i64 z] 49)).drew)) hg9 (by simp)) (by decide)); obtain ⟨m0, m1⟩ := hb9.cells; have ms := hb9.soft; obtain ⟨A9, n9, rfl⟩ := OwnR.form flatE hown9))
            all_goals
              have q9 : Q wC w9 := Below.grown ((hq1.alloc _).drew) hg9 ((hq1.alloc (.cells #[.string xp, .int .i64 z] 49)).drew).size fun g hg => by have := (OwnR.lt HO1.out g hg).1; omega
              have qz := q_set q9 (Nat.le_refl _) 0 (.slice A9 (oe ++ [(xp, z)]).length n9)
              have hbz := hb9.set0 (.slice A9 (oe ++ [(xp, z)]).length n9)
              have hoz := OwnR.typ hown9 (Typ.set (Ts := [25]) hb9 (by simp) 0 (.slice A9 (oe ++ [(xp, z)]).length n9)) (by decide)
              have hlz : (oe ++ [(xp, z)]).length ≤ k + 1 := by simp; omega
              rw [show (oe ++ [(xp, z)]).length = oe.length + 1 by simp] at qz hbz hoz
              clear hb9 m0 m1 ms hg9 hown9 q9
              go_wp2
              go_step3
              exact ⟨rfl, ⟨wC, k + 1, _, _, us, oe ++ [(xp, z)], _, _, _, _, _, _, _, _, _, _, _, _, _, _, _, _, _, _, _, _, _, _, _, _, _, _, _, _, _, _, _, _, _, _, _, _, _, _, _, _, _, _, _, _, _, rfl, qC, xC, yC, hrC, Hus, hhC, qz, hbz, hoz, by omega, hlz, E1⟩, by simp [intOf]; omega⟩
        · have t1 : ((k : Int) == (es.length : Int)) = true := beq_iff_eq.2 (by omega)
          have E1 : oe = partE es tops := by
            have := H.out
            rwa [List.take_of_length_le (by omega)] at this
          have hfo : Fits (oe, ns) := ⟨by show oe.length ≤ _; omega, hff.out.nodes, fun e he => by
            rw [E1] at he
            exact hpa e (List.mem_filter.1 he).1, hff.out.node⟩
          have hto : TreeAt w' (.agg #[vE, .slice B ns.length d]) (oe, ns) := ⟨_, _, rfl, OwnR.row flatE ho, HN.out _ hqw⟩
          have HNo := Lib.hid (norm_any _ _ w' hto hfo)
          have EE := Lib.hid PN.out
          rw [← E1] at EE
          obtain ⟨A7, n7, rfl⟩ := OwnR.form flatE ho
          clear H E1 hfo hto ho hff HN HE HL HT PN hrC Hus
          go_wp2_with fail
          unfold NormPost at HNo
          refine HNo.out.mono ?_
          rintro e w8 ⟨v8, rfl, t8, q8⟩
          have y8 := yw.keep q8
          have q9 := hqw.trans q8
          obtain ⟨A8, m8, B8, n8, rfl⟩ := t8.form
          have g2 := y8.soft
          obtain ⟨y0, y0'⟩ := y8.cells
          clear HNo xx0 xx1 bb0 bb1 yw xw hb
          generalize resT (normT oe ns) = tr at *
          generalize resC (normT oe ns) = cr at *
          go_wp2
          have yz : BoxT ((w8.setCell ⟨w.heap.size + 1, 0, none⟩ (.slice A8 tr.1.length m8)).setCell ⟨w.heap.size + 1, 1, none⟩ (.slice B8 tr.2.length n8)) (w.heap.size + 1) (.slice A8 tr.1.length m8) (.slice B8 tr.2.length n8) := (y8.set0 _).set1 _
          have tt : Typ [25] w8 ((w8.setCell ⟨w.heap.size + 1, 0, none⟩ (.slice A8 tr.1.length m8)).setCell ⟨w.heap.size + 1, 1, none⟩ (.slice B8 tr.2.length n8)) := (Typ.set y8 (by simp) 0 _).trans (Typ.set (y8.set0 _) (by simp) 1 _)
          have qz : Q w ((w8.setCell ⟨w.heap.size + 1, 0, none⟩ (.slice A8 tr.1.length m8)).setCell ⟨w.heap.size + 1, 1, none⟩ (.slice B8 tr.2.length n8)) := q_set (q_set q9 (Nat.le_succ _) 0 _) (Nat.le_succ _) 1 _
          obtain ⟨z0, z1⟩ := yz.cells
          simp only [Exit.jump]
          refine bodyPost_ret (v := .tuple #[.agg #[.slice A8 tr.1.length m8, .slice B8 tr.2.length n8], .int .i64 cr]) (by simp [results, Tryz.results13, go_sem, z0, z1]) rfl ?_
          exact ⟨_, by rw [EE.out], by rw [EE.out]; exact (t8.typ tt (by decide)).at_, qz⟩
end Go.Proofs.YtgbenepapajieaaGreat.Tr
namespace Go.Proofs.YtgbenepapajieaaGreat.Tr
open Go.RowKit
open Go.Proofs.YtgbenepapajieaaGreat.Nd (Nd mayN sumP)
open Go.Proofs.YtgbenepapajieaaGreat.Pa (lessB parentB hasParentB lastB underB joinB)

def cnt (l : List Ent) (k : Nat) : Nat := l.countP fun e => decide (e.2 = (k : Int))
theorem cnt_cons (e : Ent) (l : List Ent) (k : Nat) : cnt (e :: l) k = cnt l k + if e.2 = (k : Int) then 1 else 0 := by
  unfold cnt
  rw [List.countP_cons]
  simp
def upN (u : Nat) (e : Ent) : Nat := if e.2 = (u : Int) then u + 1 else u
/-- The numbers alone. -/
def dnum (n : Nat) : Nat → List Ent → Option Nat
  | u, [] => some u
  | u, e :: r => if 0 ≤ e.2 ∧ e.2 ≤ (u : Int) ∧ e.2 < (n : Int) then dnum n (upN u e) r else none
theorem dnum_facts {n : Nat} : ∀ (l : List Ent) (u v : Nat), u ≤ n → dnum n u l = some v → u ≤ v ∧ v ≤ n ∧ (∀ k, u ≤ k → k < v → 1 ≤ cnt l k) ∧ (∀ k, v ≤ k → cnt l k = 0) ∧ (∀ e ∈ l, 0 ≤ e.2) := by
  intro l
  induction l with
  | nil =>
    intro u v hu h
    cases h
    exact ⟨Nat.le_refl _, hu, fun k a b => by omega, fun k _ => rfl, fun e he => by cases he⟩
  | cons e r ih =>
    intro u v hu h
    unfold dnum at h
    split at h
    · rename_i h1
      have hu' : upN u e ≤ n := by unfold upN; split <;> omega
      obtain ⟨a1, a2, a3, a4, a5⟩ := ih _ _ hu' h
      have hle : u ≤ upN u e := by unfold upN; split <;> omega
      refine ⟨by omega, a2, fun k k1 k2 => ?_, fun k k1 => ?_, fun x hx => ?_⟩
      · rw [cnt_cons]
        by_cases hk : e.2 = (k : Int)
        · rw [if_pos hk]; omega
        · rw [if_neg hk]
          have : upN u e ≤ k := by
            unfold upN
            split
            · rename_i h2; rw [h2] at hk; omega
            · exact k1
          have := a3 k this k2
          omega
      · rw [cnt_cons, a4 k k1, if_neg]
        intro hk
        unfold upN at a1
        split at a1 <;> omega
      · rcases List.mem_cons.1 hx with rfl | hx
        · exact h1.1
        · exact a5 x hx
    · cases h
theorem numb_dnum {ns : List Nd} : ∀ (l : List Ent) (u v : Nat), u ≤ ns.length → (numb ns u l = some v ↔ dnum ns.length u l = some v ∧ (∀ k, isd ns k = true → k < u → cnt l k = 0) ∧ (∀ k, isd ns k = true → u ≤ k → cnt l k ≤ 1)) := by
  intro l
  induction l with
  | nil =>
    intro u v hu
    show some u = some v ↔ some u = some v ∧ _
    exact ⟨fun h => ⟨h, fun _ _ _ => rfl, fun _ _ _ => Nat.zero_le _⟩, fun h => h.1⟩
  | cons e r ih =>
    intro u v hu
    unfold numb dnum
    by_cases h1 : e.2 = (u : Int) ∧ u < ns.length
    · rw [if_pos h1, if_pos ⟨by omega, by omega, by omega⟩, show upN u e = u + 1 by unfold upN; rw [if_pos h1.1], ih (u + 1) v h1.2]
      refine and_congr_right fun hd => ⟨fun ⟨p, q⟩ => ⟨fun k hk hl => ?_, fun k hk hl => ?_⟩, fun ⟨p, q⟩ => ⟨fun k hk hl => ?_, fun k hk hl => ?_⟩⟩
      · rw [cnt_cons, p k hk (by omega), if_neg (by omega)]
      · rw [cnt_cons]
        by_cases hku : k = u
        · subst hku
          rw [p k hk (by omega)]
          split <;> omega
        · rw [if_neg (by omega)]
          have := q k hk (by omega)
          omega
      · have h2 := p k hk
        have h3 := q k hk
        rw [cnt_cons] at h2 h3
        by_cases hku : k = u
        · subst hku
          have := h3 (by omega)
          rw [if_pos h1.1] at this
          omega
        · have := h2 (by omega)
          omega
      · have := q k hk (by omega)
        rw [cnt_cons] at this
        omega
    · rw [if_neg h1]
      by_cases h2 : e.2 < 0 ∨ (u : Int) ≤ e.2 ∨ isd ns e.2.toNat = true
      · rw [if_pos h2]
        refine ⟨fun h => (by cases h), fun ⟨hd, p, q⟩ => ?_⟩
        exfalso
        split at hd
        · rename_i h3
          have h4 : e.2 ≠ (u : Int) := fun h => h1 ⟨h, by omega⟩
          rcases h2 with h | h | h
          · omega
          · omega
          · have := p _ h (by omega)
            rw [cnt_cons, if_pos (by omega)] at this
            omega
        · cases hd
      · rw [if_neg h2, if_pos ⟨by omega, by omega, by omega⟩, show upN u e = u by unfold upN; rw [if_neg (by omega)], ih u v hu]
        have hno : ∀ k, isd ns k = true → ¬ e.2 = (k : Int) := fun k hk he => h2 (.inr (.inr (by rw [he]; exact hk)))
        refine and_congr_right fun hd => ⟨fun ⟨p, q⟩ => ⟨fun k hk hl => ?_, fun k hk hl => ?_⟩, fun ⟨p, q⟩ => ⟨fun k hk hl => ?_, fun k hk hl => ?_⟩⟩
        · rw [cnt_cons, if_neg (hno k hk), p k hk hl]
        · rw [cnt_cons, if_neg (hno k hk)]
          exact q k hk hl
        · have := p k hk hl
          rw [cnt_cons] at this
          omega
        · have := q k hk hl
          rw [cnt_cons] at this
          omega

/-! ### The document's loop -/
/-- An entry's parent is a directory. -/
def upOk (es : List Ent) (ns : List Nd) (e : Ent) : Bool := !hasParentB e.1 || match findE es (parentB e.1) with | some m => decide (0 ≤ m) && decide (m < (ns.length : Int)) && isd ns m.toNat | none => false
def stepOk (es : List Ent) (ns : List Nd) (q : Option ByteArray) (u : Nat) (e : Ent) : Bool :=
  Pa.mayB e.1 && (match q with | none => true | some q => lessB q e.1) && decide (0 ≤ e.2) && decide (e.2 ≤ (u : Int)) && decide (e.2 < (ns.length : Int)) && upOk es ns e
def drun (es : List Ent) (ns : List Nd) : Option ByteArray → Nat → List Ent → Bool
  | _, _, [] => true
  | q, u, e :: r => stepOk es ns q u e && drun es ns (some e.1) (upN u e) r
def nodeOk (es : List Ent) (k : Nat) (n : Nd) : Bool := mayN n && decide (cnt es k ≠ 0) && (decide (n.kind ≠ 1) || decide (cnt es k = 1))
def nrun (es : List Ent) : Nat → List Nd → Bool
  | _, [] => true
  | k, n :: r => nodeOk es k n && nrun es (k + 1) r
def firstE (es : List Ent) : Ent := es.head?.getD (⟨#[47]⟩, -1)
def dMay (es : List Ent) (ns : List Nd) : Bool := decide (1 ≤ es.length) && decide (es.length ≤ 100) && decide ((firstE es).1 = ⟨#[]⟩) && drun es ns none 0 es && nrun es 0 ns && isd ns (firstE es).2.toNat
theorem drun_iff (es : List Ent) (ns : List Nd) : ∀ (l : List Ent) (q : Option ByteArray) (u : Nat), drun es ns q u l = true ↔ rise q l = true ∧ (dnum ns.length u l).isSome = true ∧ l.all (upOk es ns) = true := by
  intro l
  induction l with
  | nil => intro q u; simp [drun, rise, dnum]
  | cons e r ih =>
    intro q u
    unfold drun rise dnum
    rw [Bool.and_eq_true, ih, List.all_cons]
    unfold stepOk
    simp only [Bool.and_eq_true, decide_eq_true_eq]
    by_cases h : 0 ≤ e.2 ∧ e.2 ≤ (u : Int) ∧ e.2 < (ns.length : Int)
    · rw [if_pos h]
      constructor
      · rintro ⟨⟨⟨⟨⟨⟨a, b⟩, _⟩, _⟩, _⟩, f⟩, g1, g2, g3⟩
        exact ⟨⟨⟨a, b⟩, g1⟩, g2, f, g3⟩
      · rintro ⟨⟨⟨a, b⟩, g1⟩, g2, f, g3⟩
        exact ⟨⟨⟨⟨⟨⟨a, b⟩, h.1⟩, h.2.1⟩, h.2.2⟩, f⟩, g1, g2, g3⟩
    · rw [if_neg h]
      constructor
      · rintro ⟨⟨⟨⟨⟨⟨a, b⟩, c⟩, d⟩, e1⟩, f⟩, _⟩
        exact absurd ⟨c, d, e1⟩ h
      · rintro ⟨_, g2, _⟩
        cases g2
theorem nrun_iff (es : List Ent) : ∀ (l : List Nd) (k : Nat), nrun es k l = true ↔ ∀ j (h : j < l.length), nodeOk es (k + j) l[j] = true := by
  intro l
  induction l with
  | nil => intro k; simp [nrun]
  | cons n r ih =>
    intro k
    unfold nrun
    rw [Bool.and_eq_true, ih]
    constructor
    · rintro ⟨a, b⟩ j hj
      cases j with
      | zero => exact a
      | succ j =>
        have := b j (by simpa using hj)
        rwa [show k + 1 + j = k + (j + 1) by omega] at this
    · intro h
      refine ⟨h 0 (by simp), fun j hj => ?_⟩
      have := h (j + 1) (by simpa using hj)
      rwa [show k + (j + 1) = k + 1 + j by omega] at this
theorem isd_lt {ns : List Nd} {k : Nat} (h : isd ns k = true) : k < ns.length := by
  unfold isd at h
  split at h
  · rename_i n hn
    exact (List.getElem?_eq_some_iff.1 hn).1
  · cases h
theorem isd_get {ns : List Nd} {k : Nat} (h : k < ns.length) : isd ns k = decide (ns[k].kind = 1) := by
  unfold isd
  rw [List.getElem?_eq_getElem h]
  rfl
theorem nohas : hasParentB ⟨#[]⟩ = false := by decide +kernel
theorem parent_any_none {e : ByteArray} (h : e = ⟨#[]⟩) : hasParentB e = false := by rw [h]; exact nohas
/-- The document's answer is the code's. -/
theorem may_same (es : List Ent) (ns : List Nd) : dMay es ns = mayT es ns := by
  rw [Bool.eq_iff_iff]
  unfold dMay mayT numE housed
  simp only [Bool.and_eq_true, decide_eq_true_eq]
  rw [drun_iff, nrun_iff]
  constructor
  · rintro ⟨⟨⟨⟨⟨h1, h2⟩, h3⟩, h4, h5, h6⟩, h7⟩, h8⟩
    obtain ⟨v, hv⟩ := Option.isSome_iff_exists.1 h5
    obtain ⟨a1, a2, a3, a4, a5⟩ := dnum_facts es 0 v (Nat.zero_le _) hv
    have hnode : ∀ j (h : j < ns.length), mayN ns[j] = true ∧ cnt es j ≠ 0 ∧ (ns[j].kind = 1 → cnt es j = 1) := fun j hj => by
      have := h7 j hj
      unfold nodeOk at this
      simp only [Bool.and_eq_true, Bool.or_eq_true, decide_eq_true_eq, Nat.zero_add] at this
      exact ⟨this.1.1, this.1.2, fun h => this.2.resolve_left fun hh => hh h⟩
    have hvl : v = ns.length := by
      rcases Nat.lt_or_ge v ns.length with h | h
      · exact absurd (a4 v (Nat.le_refl _)) (hnode v h).2.1
      · omega
    subst hvl
    obtain ⟨e0, r, rfl⟩ : ∃ e0 r, es = e0 :: r := by
      cases es with
      | nil => simp at h1
      | cons e0 r => exact ⟨e0, r, rfl⟩
    have h3' : e0.1 = ⟨#[]⟩ := h3
    have h8' : isd ns e0.2.toNat = true := h8
    refine ⟨⟨⟨⟨h2, h4⟩, ?_⟩, ?_⟩, ?_, ?_⟩
    · rw [numb_dnum _ _ _ (Nat.zero_le _)]
      exact ⟨hv, fun k _ h => by omega, fun k hk _ => by
        have hl := isd_lt hk
        rw [isd_get hl, decide_eq_true_eq] at hk
        exact Nat.le_of_eq ((hnode k hl).2.2 hk)⟩
    · rw [List.all_eq_true]
      intro n hn
      obtain ⟨j, hj, rfl⟩ := List.getElem_of_mem hn
      exact (hnode j hj).1
    · unfold isDir findE
      rw [if_pos h3']
      exact h8'
    · rw [List.all_eq_true]
      intro e he
      have he' : e ∈ r := by simpa using he
      have hR := (rise_iff _).1 h4
      have hlt := (List.pairwise_cons.1 hR.2).1 e he'
      have hup := List.all_eq_true.1 h6 e (List.mem_cons_of_mem _ he')
      have hne : hasParentB e.1 = true := by
        cases hh : hasParentB e.1 with
        | true => rfl
        | false =>
          exfalso
          unfold hasParentB Pa.Pth.hasParentL at hh
          simp only [Bool.not_eq_false', List.isEmpty_iff] at hh
          unfold lessB Pa.Pth.lessL at hlt
          rw [hh] at hlt
          cases hq : Pa.Pth.partsL e0.1.data.toList <;> rw [hq] at hlt <;> cases hlt
      unfold houseB
      rw [hne, Bool.true_and]
      unfold upOk at hup
      rw [hne, Bool.not_true, Bool.false_or] at hup
      unfold isDir
      split at hup
      · rename_i m hm
        rw [hm]
        simp only [Bool.and_eq_true] at hup
        exact hup.2
      · cases hup
  · rintro ⟨⟨⟨⟨h2, h4⟩, h5⟩, h6⟩, h7, h8⟩
    have h5' := h5
    rw [numb_dnum _ _ _ (Nat.zero_le _)] at h5
    obtain ⟨hv, _, hc⟩ := h5
    obtain ⟨a1, a2, a3, a4, a5⟩ := dnum_facts es 0 _ (Nat.zero_le _) hv
    have hdir : ∀ p, isDir es ns p = true → ∃ m, findE es p = some m ∧ 0 ≤ m ∧ m < (ns.length : Int) ∧ isd ns m.toNat = true := by
      intro p hp
      unfold isDir at hp
      split at hp
      · rename_i m hm
        have h0 := a5 _ (findE_mem hm)
        have := isd_lt hp
        simp only at h0
        exact ⟨m, hm, h0, by omega, hp⟩
      · cases hp
    obtain ⟨m, hm, m0, m1, m2⟩ := hdir _ h7
    obtain ⟨e0, r, rfl⟩ : ∃ e0 r, es = e0 :: r := by
      cases es with
      | nil => cases hm
      | cons e0 r => exact ⟨e0, r, rfl⟩
    have h8' : ∀ e ∈ r, houseB (e0 :: r) ns e = true := fun e he => List.all_eq_true.1 h8 e (by simpa using he)
    have h3 : e0.1 = ⟨#[]⟩ := by
      by_cases h : e0.1 = ⟨#[]⟩
      · exact h
      · exfalso
        unfold findE at hm
        rw [if_neg h] at hm
        have := h8' _ (findE_mem hm)
        unfold houseB at this
        rw [show ((⟨#[]⟩ : ByteArray), m).1 = ⟨#[]⟩ from rfl, nohas] at this
        cases this
    have hm0 : m = e0.2 := by
      unfold findE at hm
      rw [if_pos h3] at hm
      exact (Option.some.inj hm).symm
    refine ⟨⟨⟨⟨⟨by simp, h2⟩, h3⟩, h4, by rw [hv]; rfl, ?_⟩, fun j hj => ?_⟩, by rw [← show m = (firstE (e0 :: r)).2 from hm0]; exact m2⟩
    · rw [List.all_eq_true]
      intro e he
      unfold upOk
      rcases List.mem_cons.1 he with rfl | he
      · rw [parent_any_none h3]; rfl
      · have := h8' e he
        unfold houseB at this
        rw [Bool.and_eq_true] at this
        obtain ⟨m', hm', q0, q1, q2⟩ := hdir _ this.2
        rw [this.1, hm']
        simp [q0, q1, q2]
    · unfold nodeOk
      simp only [Bool.and_eq_true, Bool.or_eq_true, decide_eq_true_eq, Nat.zero_add]
      have hcj := a3 j (Nat.zero_le _) hj
      refine ⟨⟨List.all_eq_true.1 h6 _ (List.getElem_mem hj), by omega⟩, ?_⟩
      by_cases hk : ns[j].kind = 1
      · right
        have := hc j (by rw [isd_get hj, decide_eq_true_eq]; exact hk) (Nat.zero_le _)
        omega
      · exact .inl hk
end Go.Proofs.YtgbenepapajieaaGreat.Tr
namespace Go.Proofs.YtgbenepapajieaaGreat.Tr
open Go.RowKit
open Go.Proofs.YtgbenepapajieaaGreat.Nd (Nd mayN sumP)
open Go.Proofs.YtgbenepapajieaaGreat.Pa (lessB parentB hasParentB lastB underB joinB)

/-- An entry that the document's NormTree takes. -/
def entOk (n : Nat) (e : Ent) : Bool := Pa.mayB e.1 && decide (0 ≤ e.2) && decide (e.2 < (n : Int))
theorem norm_bad {es : List Ent} {ns : List Nd} {e : Ent} (he : e ∈ es) (h : entOk ns.length e = false) : normT es ns = none := by
  unfold normT
  rw [if_neg]
  rintro ⟨_, hp, hm⟩
  have hr := numT_rising hm
  have hk : Pa.mayB e.1 = true := hr.1 e ((isort_perm es).mem_iff.2 he)
  have hq := List.all_eq_true.1 hp e he
  unfold entOk at h
  rw [hk, Bool.true_and] at h
  rw [h] at hq
  cases hq
theorem norm_ref {es r : List Ent} {ns : List Nd} (hp : r.Perm es) (hs : r.Pairwise fun x y => lessB y.1 x.1 = false) (hall : ∀ e ∈ es, entOk ns.length e = true) :
    normT es ns = if mayN2 (numT r ns) then some (numT r ns) else none := by
  obtain ⟨h1, h2⟩ := may_sorted (ns := ns) hp hs
  have hpl : placed es ns = true := by
    unfold placed
    rw [List.all_eq_true]
    intro e he
    have := hall e he
    unfold entOk at this
    simp only [Bool.and_eq_true] at this ⊢
    exact ⟨this.1.2, this.2⟩
  unfold normT
  by_cases hm : mayN2 (numT r ns) = true
  · have e1 := h2 hm
    have hl : es.length ≤ 100 := by
      have := hm
      unfold mayN2 mayT at this
      simp only [Bool.and_eq_true, decide_eq_true_eq] at this
      have h4 := this.1.1.1.1
      unfold numT numEnts at h4
      simp only [List.length_map] at h4
      rw [← hp.length_eq]
      exact h4
    rw [if_pos hm, if_pos ⟨hl, hpl, by rw [← h1]; exact hm⟩, e1]
  · rw [if_neg hm, if_neg]
    rintro ⟨_, _, h3⟩
    rw [← h1] at h3
    exact hm h3
theorem sameT_alike (x y : Option (List Ent × List Nd)) : sameT x y = (decide (resC x = 0) && decide (resC y = 0) && decide (resT x = resT y)) := by
  unfold sameT resC resT
  cases x <;> cases y <;> simp
/-- One entry is put in its place. -/
theorem put_sorted {l : List Ent} {e : Ent} {k : Nat} (hk : k ≤ l.length) (hs : l.Pairwise fun x y => lessB y.1 x.1 = false) (ha : ∀ j (h : j < l.length), k ≤ j → lessB e.1 l[j].1 = true) (hb : ∀ h : 0 < k, lessB e.1 (l[k - 1]'(by omega)).1 = false) :
    (l.take k ++ [e] ++ l.drop k).Pairwise fun x y => lessB y.1 x.1 = false := by
  have hs2 := hs
  rw [← List.take_append_drop k l, List.pairwise_append] at hs2
  have hbefore : ∀ x ∈ l.take k, lessB e.1 x.1 = false := by
    intro x hx
    obtain ⟨j, hj, rfl⟩ := List.getElem_of_mem hx
    rw [List.length_take] at hj
    rw [List.getElem_take]
    by_cases hjk : j = k - 1
    · subst hjk; exact hb (by omega)
    · exact lessB_ntrans (hb (by omega)) (List.pairwise_iff_getElem.1 hs j (k - 1) (by omega) (by omega) (by omega))
  have hafter : ∀ x ∈ l.drop k, lessB x.1 e.1 = false := by
    intro x hx
    obtain ⟨j, hj, rfl⟩ := List.getElem_of_mem hx
    rw [List.length_drop] at hj
    rw [List.getElem_drop]
    exact lessB_asymm (ha (k + j) (by omega) (by omega))
  rw [List.append_assoc, List.pairwise_append]
  refine ⟨hs2.1, List.pairwise_append.2 ⟨List.pairwise_singleton _ _, hs2.2.1, fun a ha b hb => ?_⟩, fun a ha b hb => ?_⟩
  · rw [List.mem_singleton.1 ha]
    exact hafter b hb
  · rcases List.mem_append.1 hb with hb | hb
    · rw [List.mem_singleton.1 hb]
      exact hbefore a ha
    · exact hs2.2.2 a ha b hb
theorem put_perm {l m : List Ent} {e : Ent} {k : Nat} (h : l.Perm m) : (l.take k ++ [e] ++ l.drop k).Perm (m ++ [e]) := by
  have h1 : (l.take k ++ [e] ++ l.drop k).Perm (e :: l) := by
    rw [List.append_assoc]
    refine (List.perm_middle (l₁ := l.take k) (a := e) (l₂ := l.drop k)).trans ?_
    rw [List.take_append_drop]
  exact h1.trans ((List.Perm.cons e h).trans (List.perm_append_singleton e m).symm)
end Go.Proofs.YtgbenepapajieaaGreat.Tr
