/-
  The contracts of tree.Kids, Class, Bytes. The contracts of tree.compare, rising, nodes, placed.
-/
import Derived.Test.YtgbenepapajieaaGreatTFind
namespace Go.Proofs.YtgbenepapajieaaGreat.Tr
open Go.RowKit
open Go.Proofs.YtgbenepapajieaaGreat.Nd (Nd mayN sumP nodeV NodeAt PcsAt)
open Go.Proofs.YtgbenepapajieaaGreat.Pa (lessB parentB hasParentB lastB underB joinB StrsAt)
set_option maxRecDepth 100000 in
set_option maxHeartbeats 2000000 in
theorem kids_any (v : Value) (t : Tree) (p : ByteArray) (w : World) (h : TreeAt w v t) (hf : Fits t) :
    Calls Tryz.prog 23 #[v, .string p] w fun e w' => ∃ v', e = .returned v' ∧ OwnS w' w.heap.size v' (kidsE t.1 p) ∧ Q w w' := by
  obtain ⟨es, ns⟩ := t
  obtain ⟨ve, vn, rfl, he, hn⟩ := h
  simp only at he hn hf ⊢
  have ll := he.len
  have l2 := hn.len
  obtain ⟨A, c, rfl⟩ := he.form
  obtain ⟨B, d, rfl⟩ := hn.form
  unfold maxLen at ll l2
  have hp := hf.path
  have he20 := hf.ents
  simp only at hp he20
  clear hf hn
  go_enter Tryz.func23, Tryz.ntmps23
  go_wp2
  refine wp_scope_goto 0 (fun a' w' => ∃ (wb : World) (b k : Nat) (vo : Value) (o : List ByteArray) (u7 u8 u9 u10 u11 u12 u13 u14 u15 u16 u17 u18 u19 u20 u21 u22 u23 u24 u25 u26 u27 u28 u29 u30 u31 u32 u33 u34 u35 u36 u37 u38 u39 u40 u41 u42 : Value), a' = { tmps := #[.agg #[.slice A es.length c, .slice B ns.length d], .string p, .pointer (some ⟨b, 0, none⟩), undef, .slice none 0 0, vo, .int .i64 k, u7, u8, u9, u10, u11, u12, u13, u14, u15, u16, u17, u18, u19, u20, u21, u22, u23, u24, u25, u26, u27, u28, u29, u30, u31, u32, u33, u34, u35, u36, u37, u38, u39, u40, u41, u42], defers := [] } ∧ Q w wb ∧ wb.cell? ⟨b, 0, none⟩ = some (.slice A es.length c) ∧ Q wb w' ∧ k ≤ es.length ∧ OwnS w' wb.heap.size vo o ∧ o.length ≤ k ∧ Hid (o = kidsE (es.take k) p)) (fun a' _ => es.length - (intOf (a'.tmps.getD 6 undef)).toNat) rfl ?_ ?_
  · intro hh
    go_wp2
    go_step3
    rename_i hK
    exact hK _ _ (hh.out _ _ ⟨_, w.heap.size, 0, _, [], _, _, _, _, _, _, _, _, _, _, _, _, _, _, _, _, _, _, _, _, _, _, _, _, _, _, _, _, _, _, _, _, _, _, _, _, rfl, (Q.refl w).alloc _, (box_at _ _ _ _).1, Q.refl _, by omega, OwnR.nil_ _ _ _, by simp, rfl⟩)
  · rintro a' w' ⟨wb, b, k, vo, o, u7, u8, u9, u10, u11, u12, u13, u14, u15, u16, u17, u18, u19, u20, u21, u22, u23, u24, u25, u26, u27, u28, u29, u30, u31, u32, u33, u34, u35, u36, u37, u38, u39, u40, u41, u42, rfl, q0, hcb0, hq, hk, hown, hol, H⟩
    have hcb := hq.cell hcb0
    by_cases hlt : k < es.length
    · have t1 : ((k : Int) == (es.length : Int)) = false := beq_eq_false_iff_ne.2 (by omega)
      obtain ⟨g, og, _, ea, _, _, hc⟩ := ((he.keep q0).keep hq).at_ (by omega)
      cases ea
      obtain ⟨c1, c2⟩ := hc k hlt
      have hx := hp _ (List.getElem_mem hlt)
      have E0 : Hid (kidsE (es.take (k + 1)) p = o ++ (if kidB p es[k] then [lastB es[k].1] else [])) := by
        show _ = _
        rw [H.out]
        unfold kidsE
        rw [filter_snoc hlt, List.map_append]
        congr 1
        split <;> rfl
      clear hc H
      generalize es[k] = x at *
      have HP := Lib.hid (fun w => Pa.parent_any x.1 w (by unfold maxLen; omega))
      have HL := Lib.hid (fun w => Pa.last_any x.1 w (by unfold maxLen; omega))
      have hg := World.block_lt_of_cell? w' _ c1
      have hb := World.block_lt_of_cell? w' _ hcb
      by_cases hx : kidB p x = true
      · have E1 : Hid (kidsE (es.take (k + 1)) p = o ++ [lastB x.1]) := E0.out.trans (by rw [if_pos hx])
        unfold kidB at hx
        rw [Bool.and_eq_true, decide_eq_true_eq] at hx
        rw [hx.1, hx.2] at HP
        have t2 : (p.toList == p.toList) = true := beq_self_eq_true _
        clear hx E0
        go_wp2_with fail
        refine (HP.out _).mono ?_
        rintro e w1 ⟨rfl, q1⟩
        replace q1 := q1.1
        replace hcb := q1.cell hcb
        replace c1 := q1.cell c1
        replace hown := OwnR.keep hown q1
        replace hq := hq.trans q1
        clear q1 HP hg hb
        go_wp2_with fail
        refine (HL.out _).mono ?_
        rintro e w2 ⟨rfl, q2⟩
        replace q2 := q2.1
        replace hown := OwnR.keep hown q2
        replace hq := hq.trans q2
        clear q2 HL c1 c2 hcb
        have hsz := hq.size
        go_wp2_with (at_builtin; refine wpList_append_str rfl (.tmp 31) (.tmp 39) rfl wb.heap.size _ o rfl (hown.grew (Grew.alloc _ _)) _ [lastB x.1] rfl ((own_one flatS 9 w2 w2.heap.size (Nat.le_refl _) (lastB x.1)).row flatS) (by simp; omega) (by rw [World.size_alloc]; omega) ?_)
        intro v3 w3 hown3 hg3 _
        have hq3 : Q wb w3 := Below.grown (hq.alloc _) hg3 (by rw [World.size_alloc]; omega) fun g hg => (hown.lt g hg).1
        have hl3 : (o ++ [lastB x.1]).length ≤ k + 1 := by simp; omega
        generalize o ++ [lastB x.1] = o3 at hown3 E1 hl3
        clear hg3 hown hsz
        go_wp2
        go_step3
        exact ⟨rfl, ⟨wb, b, k + 1, v3, o3, _, _, _, _, _, _, _, _, _, _, _, _, _, _, _, _, _, _, _, _, _, _, _, _, _, _, _, _, _, _, _, _, _, _, _, _, rfl, q0, hcb0, hq3, by omega, hown3, hl3, E1.out.symm⟩, by simp [intOf]; omega⟩
      · have E1 : Hid (o = kidsE (es.take (k + 1)) p) := (E0.out.trans (by rw [if_neg hx, List.append_nil])).symm
        clear HL E0
        unfold kidB at hx
        cases hh : hasParentB x.1
        · rw [hh] at HP
          clear hx hh
          go_wp2_with fail
          refine (HP.out _).mono ?_
          rintro e w1 ⟨rfl, q1⟩
          replace q1 := q1.1
          replace hown := OwnR.keep hown q1
          replace hq := hq.trans q1
          clear q1 HP hg hb c1 c2 hcb
          go_wp2
          go_step3
          exact ⟨rfl, ⟨wb, b, k + 1, vo, o, _, _, _, _, _, _, _, _, _, _, _, _, _, _, _, _, _, _, _, _, _, _, _, _, _, _, _, _, _, _, _, _, _, _, _, _, rfl, q0, hcb0, hq, by omega, hown, by omega, E1⟩, by simp [intOf]; omega⟩
        · rw [hh] at HP
          rw [hh, Bool.true_and, decide_eq_true_eq] at hx
          have t2 := b_tln hx
          clear hx hh
          go_wp2_with fail
          refine (HP.out _).mono ?_
          rintro e w1 ⟨rfl, q1⟩
          replace q1 := q1.1
          replace hown := OwnR.keep hown q1
          replace hq := hq.trans q1
          clear q1 HP hg hb c1 c2 hcb
          go_wp2
          go_step3
          exact ⟨rfl, ⟨wb, b, k + 1, vo, o, _, _, _, _, _, _, _, _, _, _, _, _, _, _, _, _, _, _, _, _, _, _, _, _, _, _, _, _, _, _, _, _, _, _, _, _, rfl, q0, hcb0, hq, by omega, hown, by omega, E1⟩, by simp [intOf]; omega⟩
    · have t1 : ((k : Int) == (es.length : Int)) = true := beq_iff_eq.2 (by omega)
      have E1 : Hid (o = kidsE es p) := by
        have := H.out
        rwa [List.take_of_length_le (by omega)] at this
      clear H
      go_wp2
      simp only [Exit.jump]
      go_ret
      exact ⟨_, rfl, by rw [← E1.out]; exact OwnR.mono hown q0.size, q0.trans hq⟩
set_option maxRecDepth 100000 in
set_option maxHeartbeats 2000000 in
theorem class_any (v : Value) (t : Tree) (p : ByteArray) (w : World) (h : TreeAt w v t) (hf : Fits t) :
    Calls Tryz.prog 25 #[v, .string p] w fun e w' => ∃ v', e = .returned v' ∧ OwnS w' w.heap.size v' (classT t.1 p) ∧ Q w w' := by
  have HF := Lib.hid (fun w h => find_any v t p w h)
  obtain ⟨es, ns⟩ := t
  obtain ⟨ve, vn, rfl, he, hn⟩ := h
  simp only at he hn hf ⊢
  have ll := he.len
  have l2 := hn.len
  obtain ⟨A, c, rfl⟩ := he.form
  obtain ⟨B, d, rfl⟩ := hn.form
  unfold maxLen at ll l2
  have he20 := hf.ents
  simp only at he20
  have HT : Hid (∀ w', Q w w' → TreeAt w' (.agg #[.slice A es.length c, .slice B ns.length d]) (es, ns)) := fun w' q => ⟨_, _, rfl, he.keep q, hn.keep q⟩
  clear hf hn
  cases hm : findE es p with
  | none =>
    have E : Hid (classT es p = []) := (by unfold classT; rw [hm] : classT es p = [])
    rw [show findE (es, ns).1 p = none from hm] at HF
    clear hm
    go_enter Tryz.func25, Tryz.ntmps25
    go_wp2
    go_step3
    go_wp2_with fail
    refine (HF.out _ (HT.out _ ((Q.refl w).alloc _))).mono ?_
    rintro e w1 ⟨rfl, q1⟩
    replace q1 := q1.q
    go_wp2
    try simp only [Exit.noGoto_ret]
    go_ret
    exact ⟨_, rfl, by rw [E.out]; exact OwnR.nil_ _ _ _, ((Q.refl w).alloc _).trans q1⟩
  | some m =>
    have E : Hid (classT es p = classE es m) := (by unfold classT; rw [hm] : classT es p = classE es m)
    rw [show findE (es, ns).1 p = some m from hm] at HF
    clear hm
    go_enter Tryz.func25, Tryz.ntmps25
    go_wp2
    refine wp_scope_goto 0 (fun a' w' => ∃ (wb : World) (b k : Nat) (vo : Value) (o : List ByteArray) (u9 u10 u11 u12 u13 u14 u15 u16 u17 u18 u19 u20 u21 u22 u23 u24 u25 u26 u27 u28 u29 u30 u31 u32 u33 u34 u35 u36 u37 u38 u39 u40 u41 : Value), a' = { tmps := #[.agg #[.slice A es.length c, .slice B ns.length d], .string p, .pointer (some ⟨b, 0, none⟩), undef, .slice none 0 0, .int .i64 m, .bool true, vo, .int .i64 k, u9, u10, u11, u12, u13, u14, u15, u16, u17, u18, u19, u20, u21, u22, u23, u24, u25, u26, u27, u28, u29, u30, u31, u32, u33, u34, u35, u36, u37, u38, u39, u40, u41], defers := [] } ∧ Q w wb ∧ wb.cell? ⟨b, 0, none⟩ = some (.slice A es.length c) ∧ Q wb w' ∧ k ≤ es.length ∧ OwnS w' wb.heap.size vo o ∧ o.length ≤ k ∧ Hid (o = classE (es.take k) m)) (fun a' _ => es.length - (intOf (a'.tmps.getD 8 undef)).toNat) rfl ?_ ?_
    · intro hh
      go_wp2_with fail
      refine (HF.out _ (HT.out _ ((Q.refl w).alloc _))).mono ?_
      rintro e w1 ⟨rfl, q1⟩
      replace q1 := q1.q
      go_wp2
      go_step3
      rename_i hK
      exact hK _ _ (hh.out _ _ ⟨_, w.heap.size, 0, _, [], _, _, _, _, _, _, _, _, _, _, _, _, _, _, _, _, _, _, _, _, _, _, _, _, _, _, _, _, _, _, _, _, _, rfl, (Q.refl w).alloc _, (box_at _ _ _ _).1, q1, by omega, OwnR.nil_ _ _ _, by simp, rfl⟩)
    · rintro a' w' ⟨wb, b, k, vo, o, u9, u10, u11, u12, u13, u14, u15, u16, u17, u18, u19, u20, u21, u22, u23, u24, u25, u26, u27, u28, u29, u30, u31, u32, u33, u34, u35, u36, u37, u38, u39, u40, u41, rfl, q0, hcb0, hq, hk, hown, hol, H⟩
      have hcb := hq.cell hcb0
      by_cases hlt : k < es.length
      · have t1 : ((k : Int) == (es.length : Int)) = false := beq_eq_false_iff_ne.2 (by omega)
        obtain ⟨g, og, _, ea, _, _, hc⟩ := ((he.keep q0).keep hq).at_ (by omega)
        cases ea
        obtain ⟨c1, c2⟩ := hc k hlt
        have E0 : Hid (classE (es.take (k + 1)) m = o ++ (if decide (es[k].2 = m) then [es[k].1] else [])) := by
          have H' := H.out
          show _ = _
          rw [H']
          unfold classE
          rw [filter_snoc hlt, List.map_append]
          congr 1
          split <;> rfl
        clear hc H
        generalize es[k] = x at *
        have hg := World.block_lt_of_cell? w' _ c1
        have hb := World.block_lt_of_cell? w' _ hcb
        by_cases hx : x.2 = m
        · have E1 : Hid (classE (es.take (k + 1)) m = o ++ [x.1]) := E0.out.trans (by rw [if_pos (decide_eq_true hx)])
          have t2 : (x.2 == m) = true := beq_iff_eq.2 hx
          have hsz := hq.size
          clear hx E0
          go_wp2_with (at_builtin; refine wpList_append_str rfl (.tmp 31) (.tmp 38) rfl wb.heap.size _ o rfl (hown.grew (Grew.alloc _ _)) _ [x.1] rfl ((own_one flatS 9 w' w'.heap.size (Nat.le_refl _) x.1).row flatS) (by simp; omega) (by rw [World.size_alloc]; omega) ?_)
          intro v3 w3 hown3 hg3 _
          have hq3 : Q wb w3 := Below.grown (hq.alloc _) hg3 (by rw [World.size_alloc]; omega) fun g hg => (hown.lt g hg).1
          have hl3 : (o ++ [x.1]).length ≤ k + 1 := by simp; omega
          generalize o ++ [x.1] = o3 at hown3 E1 hl3
          clear hg3 hown hsz c1 c2 hcb
          go_wp2
          go_step3
          exact ⟨rfl, ⟨wb, b, k + 1, v3, o3, _, _, _, _, _, _, _, _, _, _, _, _, _, _, _, _, _, _, _, _, _, _, _, _, _, _, _, _, _, _, _, _, _, rfl, q0, hcb0, hq3, by omega, hown3, hl3, E1.out.symm⟩, by simp [intOf]; omega⟩
        · have E1 : Hid (o = classE (es.take (k + 1)) m) := (E0.out.trans (by rw [if_neg (by simp [hx]), List.append_nil])).symm
          have t2 : (x.2 == m) = false := beq_eq_false_iff_ne.2 hx
          clear hx E0
          go_wp2
          go_step3
          exact ⟨rfl, ⟨wb, b, k + 1, vo, o, _, _, _, _, _, _, _, _, _, _, _, _, _, _, _, _, _, _, _, _, _, _, _, _, _, _, _, _, _, _, _, _, _, rfl, q0, hcb0, hq, by omega, hown, by omega, E1⟩, by simp [intOf]; omega⟩
      · have t1 : ((k : Int) == (es.length : Int)) = true := beq_iff_eq.2 (by omega)
        have E1 : Hid (o = classE es m) := by
          have := H.out
          rwa [List.take_of_length_le (by omega)] at this
        clear H
        go_wp2
        simp only [Exit.jump]
        go_ret
        exact ⟨_, rfl, by rw [E.out, ← E1.out]; exact OwnR.mono hown q0.size, q0.trans hq⟩
theorem sumN_take {ns : List Nd} {k : Nat} (hk : k < ns.length) : sumN (ns.take (k + 1)) = sumN (ns.take k) + sumP ns[k].data := by
  unfold sumN
  rw [List.take_succ_eq_append_getElem hk, List.map_append, List.sum_append]
  simp
theorem sumP_le {l : List Nd.Pc} (h : Nd.Small l) : sumP l ≤ 1000000000 := by
  have key : ∀ m : List Nd.Pc, (∀ p ∈ m, p.2.size ≤ 100000) → sumP m ≤ m.length * 100000 := by
    intro m
    induction m with
    | nil => intro _; simp [sumP]
    | cons x r ih =>
      intro h
      have h1 := ih fun p hp => h p (List.mem_cons_of_mem _ hp)
      have h2 := h x List.mem_cons_self
      have h3 : sumP (x :: r) = x.2.size + sumP r := rfl
      rw [h3, List.length_cons, Nat.succ_mul]
      omega
  have := key l h.2
  have := h.1
  omega
set_option maxRecDepth 100000 in
set_option maxHeartbeats 2000000 in
theorem bytes_any (v : Value) (t : Tree) (w : World) (h : TreeAt w v t) (hf : Fits t) :
    Calls Tryz.prog 27 #[v] w fun e w' => e = .returned (.int .i64 (sumN t.2 : Nat)) ∧ Q w w' := by
  obtain ⟨es, ns⟩ := t
  obtain ⟨ve, vn, rfl, he, hn⟩ := h
  simp only at he hn hf ⊢
  have ll := he.len
  have l2 := hn.len
  obtain ⟨A, c, rfl⟩ := he.form
  obtain ⟨B, d, rfl⟩ := hn.form
  unfold maxLen at ll l2
  have hf2 := hf.node
  have hn20 := hf.nodes
  simp only at hf2 hn20
  clear hf he
  go_enter Tryz.func27, Tryz.ntmps27
  go_wp2
  refine wp_scope_goto 0 (fun a' w' => ∃ (b k s : Nat) (u5 u6 u7 u8 u9 u10 u11 u12 u13 u14 u15 u16 u17 u18 u19 u20 : Value), a' = { tmps := #[.agg #[.slice A es.length c, .slice B ns.length d], .pointer (some ⟨b, 0, none⟩), .int .i64 0, .int .i64 k, .int .i64 (s : Nat), u5, u6, u7, u8, u9, u10, u11, u12, u13, u14, u15, u16, u17, u18, u19, u20], defers := [] } ∧ Q w w' ∧ w'.cell? ⟨b, 1, none⟩ = some (.slice B ns.length d) ∧ k ≤ ns.length ∧ s ≤ k * 1000000000 ∧ Hid (s = sumN (ns.take k))) (fun a' _ => ns.length - (intOf (a'.tmps.getD 3 undef)).toNat) rfl ?_ ?_
  · intro hh
    go_wp2
    go_step3
    rename_i hK
    exact hK _ _ (hh.out _ _ ⟨w.heap.size, 0, 0, _, _, _, _, _, _, _, _, _, _, _, _, _, _, _, _, rfl, (Q.refl w).alloc _, (box_at _ _ _ _).2, by omega, by omega, rfl⟩)
  · rintro a' w' ⟨b, k, s, u5, u6, u7, u8, u9, u10, u11, u12, u13, u14, u15, u16, u17, u18, u19, u20, rfl, hq, hcb, hk, hs, H⟩
    by_cases hlt : k < ns.length
    · have t1 : ((k : Int) == (ns.length : Int)) = false := beq_eq_false_iff_ne.2 (by omega)
      obtain ⟨g, og, _, ea, _, _, hc⟩ := (hn.keep hq).at_ (by omega)
      cases ea
      obtain ⟨va, vl, vd, hN, c0, c1, c2, c3, c4, c5, c6, c7, c8, c9, c10, c11⟩ := hc k hlt
      have hx := (hf2 _ (List.getElem_mem hlt)).1.da
      have hb := sumP_le hx
      have E1 : Hid (s + sumP ns[k].data = sumN (ns.take (k + 1))) := (by rw [sumN_take hlt, H.out] : s + sumP ns[k].data = sumN (ns.take (k + 1)))
      clear hc H
      generalize ns[k] = x at *
      have HB := Lib.hid (Nd.bytes_any _ x w' hN hx)
      unfold nodeV at HB
      have hw : IntKind.i64.wrap ((s : Int) + (sumP x.data : Nat)) = ((s + sumP x.data : Nat) : Int) := by rw [← Int.natCast_add]; exact IntWalk.i64_in _ (by omega)
      have hs2 : s + sumP x.data ≤ (k + 1) * 1000000000 := by omega
      generalize s + sumP x.data = s2 at *
      generalize sumP x.data = s3 at *
      have lt2 : (k : Int) < (ns.length : Int) := by omega
      go_wp2_with fail
      refine HB.out.mono ?_
      rintro e w1 ⟨rfl, q1⟩
      have hcb2 := q1.cell hcb
      clear hcb c0 c1 c2 c3 c4 c5 c6 c7 c8 c9 c10 c11 hN HB
      go_wp2
      go_step3
      exact ⟨rfl, ⟨b, k + 1, s2, _, _, _, _, _, _, _, _, _, _, _, _, _, _, _, _, rfl, hq.trans q1, hcb2, by omega, hs2, E1⟩, by simp [intOf]; omega⟩
    · have t1 : ((k : Int) == (ns.length : Int)) = true := beq_iff_eq.2 (by omega)
      have E1 : Hid (s = sumN ns) := by
        have := H.out
        rwa [List.take_of_length_le (by omega)] at this
      clear H
      go_wp2
      simp only [Exit.jump]
      go_ret
      exact ⟨ret_int (by rw [E1.out]), hq⟩
end Go.Proofs.YtgbenepapajieaaGreat.Tr
namespace Go.Proofs.YtgbenepapajieaaGreat.Tr
open Go.RowKit
open Go.Proofs.YtgbenepapajieaaGreat.Nd (Nd mayN sumP nodeV NodeAt PcsAt)
open Go.Proofs.YtgbenepapajieaaGreat.Pa (lessB parentB hasParentB lastB underB joinB StrsAt)

def cmpE (x y : Ent) : Int := if lessB x.1 y.1 then -1 else if lessB y.1 x.1 then 1 else 0
theorem cmpE_lt {x y : Ent} : cmpE x y < 0 ↔ lessB x.1 y.1 = true := by
  unfold cmpE
  cases lessB x.1 y.1 <;> cases lessB y.1 x.1 <;> simp
set_option maxRecDepth 100000 in
set_option maxHeartbeats 1000000 in
theorem compare_any (x y : Ent) (w : World) (hx : x.1.size ≤ maxLen) (hy : y.1.size ≤ maxLen) :
    Calls Tryz.prog 68 #[aggE x, aggE y] w fun e w' => e = .returned (.int .i64 (cmpE x y)) ∧ Pa.Q w w' := by
  have H1 := Lib.hid (fun w => Pa.less_any x.1 y.1 w hx hy)
  have H2 := Lib.hid (fun w => Pa.less_any y.1 x.1 w hy hx)
  have E0 : Hid (cmpE x y = if lessB x.1 y.1 then -1 else if lessB y.1 x.1 then 1 else 0) := rfl
  obtain ⟨p, i⟩ := x
  obtain ⟨q, j⟩ := y
  unfold aggE
  simp only at H1 H2 E0 ⊢
  cases h1 : lessB p q
  · rw [h1] at H1 E0
    cases h2 : lessB q p
    · rw [h2] at H2 E0
      clear h1 h2
      go_enter Tryz.func68, Tryz.ntmps68
      go_wp2_with fail
      refine (H1.out _).mono ?_
      rintro e w1 ⟨rfl, q1⟩
      have c1 := q1.cell (((Pa.Q.refl _).alloc _).cell (box_at w (.string p) (.int .i64 i) 49).1)
      have c2 := (box_at (w.alloc (.cells #[.string p, .int .i64 i] 49)) (.string q) (.int .i64 j) 49).1
      rw [World.size_alloc] at c2
      replace c2 := q1.cell c2
      go_wp2_with fail
      refine (H2.out _).mono ?_
      rintro e w2 ⟨rfl, q2⟩
      go_wp2
      go_ret
      exact ⟨ret_int E0.out.symm, (((Pa.Q.refl w).alloc _).alloc _).trans (q1.trans q2)⟩
    · rw [h2] at H2 E0
      clear h1 h2
      go_enter Tryz.func68, Tryz.ntmps68
      go_wp2_with fail
      refine (H1.out _).mono ?_
      rintro e w1 ⟨rfl, q1⟩
      have c1 := q1.cell (((Pa.Q.refl _).alloc _).cell (box_at w (.string p) (.int .i64 i) 49).1)
      have c2 := (box_at (w.alloc (.cells #[.string p, .int .i64 i] 49)) (.string q) (.int .i64 j) 49).1
      rw [World.size_alloc] at c2
      replace c2 := q1.cell c2
      go_wp2_with fail
      refine (H2.out _).mono ?_
      rintro e w2 ⟨rfl, q2⟩
      go_wp2
      go_ret
      exact ⟨ret_int E0.out.symm, (((Pa.Q.refl w).alloc _).alloc _).trans (q1.trans q2)⟩
  · rw [h1] at H1 E0
    clear h1 H2
    go_enter Tryz.func68, Tryz.ntmps68
    go_wp2_with fail
    refine (H1.out _).mono ?_
    rintro e w1 ⟨rfl, q1⟩
    go_wp2
    go_ret
    exact ⟨ret_int E0.out.symm, (((Pa.Q.refl w).alloc _).alloc _).trans q1⟩

/-- The path ahead of place k. -/
def prevO (l : List Ent) (k : Nat) : Option ByteArray := if k = 0 then none else (l[k - 1]?).map (·.1)
theorem rise_no {l : List Ent} {k : Nat} (hk : k < l.length) (h : rise (prevO l k) (l.drop k) = rise none l) (h1 : Pa.mayB l[k].1 = false) : rise none l = false := by
  rw [← h, List.drop_eq_getElem_cons hk]
  simp [rise, h1]
theorem rise_first {l : List Ent} (hk : 0 < l.length) (h : rise (prevO l 0) (l.drop 0) = rise none l) (h1 : Pa.mayB l[0].1 = true) : rise (prevO l (0 + 1)) (l.drop (0 + 1)) = rise none l := by
  rw [← h, List.drop_eq_getElem_cons hk]
  simp [rise, h1, prevO, hk]
theorem rise_next {l : List Ent} {k : Nat} (hk : k + 1 < l.length) (h : rise (prevO l (k + 1)) (l.drop (k + 1)) = rise none l) (h1 : Pa.mayB l[k + 1].1 = true) (h2 : lessB l[k].1 l[k + 1].1 = true) : rise (prevO l (k + 1 + 1)) (l.drop (k + 1 + 1)) = rise none l := by
  rw [← h, List.drop_eq_getElem_cons hk]
  have e1 : prevO l (k + 1) = some l[k].1 := by simp [prevO, show k < l.length by omega]
  have e2 : prevO l (k + 1 + 1) = some l[k + 1].1 := by simp [prevO, hk]
  rw [e1, e2]
  simp [rise, h1, h2]
theorem rise_stop {l : List Ent} {k : Nat} (hk : k + 1 < l.length) (h : rise (prevO l (k + 1)) (l.drop (k + 1)) = rise none l) (h2 : lessB l[k].1 l[k + 1].1 = false) : rise none l = false := by
  rw [← h, List.drop_eq_getElem_cons hk]
  have e1 : prevO l (k + 1) = some l[k].1 := by simp [prevO, show k < l.length by omega]
  rw [e1]
  simp [rise, h2]
set_option maxRecDepth 100000 in
set_option maxHeartbeats 2000000 in
theorem rising_any (v : Value) (l : List Ent) (w : World) (h : EntsAt w v l) (hp : ∀ e ∈ l, e.1.size ≤ 90000) :
    Calls Tryz.prog 44 #[v] w fun e w' => e = .returned (.bool (rise none l)) ∧ Pa.Q w w' := by
  have ll := h.len
  obtain ⟨A, c, rfl⟩ := h.form
  unfold maxLen at ll
  go_enter Tryz.func44, Tryz.ntmps44
  go_wp2
  refine wp_scope_goto 0 (fun a' w' => ∃ (k : Nat) (u4 u5 u6 u7 u8 u9 u10 u11 u12 u13 u14 u15 u16 u17 u18 u19 u20 u21 u22 u23 u24 u25 u26 u27 u28 u29 u30 u31 u32 u33 : Value), a' = { tmps := #[.slice A l.length c, undef, .bool false, .int .i64 k, u4, u5, u6, u7, u8, u9, u10, u11, u12, u13, u14, u15, u16, u17, u18, u19, u20, u21, u22, u23, u24, u25, u26, u27, u28, u29, u30, u31, u32, u33], defers := [] } ∧ Pa.Q w w' ∧ k ≤ l.length ∧ Hid (rise (prevO l k) (l.drop k) = rise none l)) (fun a' _ => l.length - (intOf (a'.tmps.getD 3 undef)).toNat) rfl ?_ ?_
  · intro hh
    go_wp2
    go_step3
    rename_i hK
    exact hK _ _ (hh.out _ _ ⟨0, _, _, _, _, _, _, _, _, _, _, _, _, _, _, _, _, _, _, _, _, _, _, _, _, _, _, _, _, _, _, rfl, Pa.Q.refl _, by omega, rfl⟩)
  · rintro a' w' ⟨k, u4, u5, u6, u7, u8, u9, u10, u11, u12, u13, u14, u15, u16, u17, u18, u19, u20, u21, u22, u23, u24, u25, u26, u27, u28, u29, u30, u31, u32, u33, rfl, hq, hk, H⟩
    by_cases hlt : k < l.length
    · have t1 : ((k : Int) == (l.length : Int)) = false := beq_eq_false_iff_ne.2 (by omega)
      obtain ⟨g, og, _, ea, _, _, hc⟩ := (h.keep hq.1).at_ (by omega)
      cases ea
      have hx := hp _ (List.getElem_mem hlt)
      have mixed : Tryz.prog.follows .mixedOrders = true := by kernel_rfl
      have HM : Hid (∀ w, Calls Tryz.prog 74 #[.string l[k].1] w fun e w' => e = .returned (.bool (Pa.mayB l[k].1)) ∧ Grew w w') := fun w => (Pa.may_any l[k].1 w (by unfold maxLen; omega)).mono fun e w' h => ⟨h.1, h.2.grew⟩
      obtain ⟨c1, c2⟩ := hc k hlt
      have hgb := World.block_lt_of_cell? w' _ c1
      have b1 := cell_grown (a := ⟨g, og + k * 2, none⟩) hgb c1
      have b2 := cell_grown (a := ⟨g, og + k * 2 + 1, none⟩) hgb c2
      have lt2 : (k : Int) < (l.length : Int) := by omega
      have nn2 : (0 : Int) ≤ (k : Int) := by omega
      have wr2 : IntKind.i64.wrap (k : Int) = k := IntWalk.i64_in _ (by omega)
      cases hm : Pa.mayB l[k].1
      · have E : Hid (rise none l = false) := rise_no hlt H.out hm
        rw [hm] at HM
        clear hm hc H h
        generalize l[k] = x at *
        go_wp2
        (refine wp_region_quiet_grown (by assumption) (by kernel_rfl) ?_; (repeat (go_big_quiet_step ((go_at_call 74; exact Grew.calls (HM.out _))))); refine wpQuiet_nil ?_; intro _ hw'; obtain ⟨⟨nq, osq⟩, hw2⟩ := hw'; subst hw2)
        go_wp2
        simp only [Exit.jump]
        go_ret
        exact ⟨ret_bool E.out.symm, hq.trans (Grew.pa ⟨nq, osq, rfl⟩)⟩
      · rw [hm] at HM
        by_cases hk0 : k = 0
        · have E : Hid (rise (prevO l (k + 1)) (l.drop (k + 1)) = rise none l) := by
            subst hk0
            exact rise_first hlt H.out hm
          have t0 : decide ((0 : Int) < (k : Int)) = false := decide_eq_false (by omega)
          have t0n : decide (0 < k) = false := decide_eq_false (by omega)
          have t0m : ¬ 0 < k := by omega
          clear hm hc H h hk0
          generalize l[k] = x at *
          go_wp2
          (refine wp_region_quiet_grown (by assumption) (by kernel_rfl) ?_; (repeat (go_big_quiet_step ((go_at_call 74; exact Grew.calls (HM.out _))))); refine wpQuiet_nil ?_; intro _ hw'; obtain ⟨⟨nq, osq⟩, hw2⟩ := hw'; subst hw2)
          go_wp2
          go_step3
          exact ⟨rfl, ⟨k + 1, _, _, _, _, _, _, _, _, _, _, _, _, _, _, _, _, _, _, _, _, _, _, _, _, _, _, _, _, _, _, rfl, hq.trans (Grew.pa ⟨nq, osq, rfl⟩), by omega, E⟩, by simp [intOf]; omega⟩
        · obtain ⟨j, rfl⟩ : ∃ j, k = j + 1 := ⟨k - 1, by omega⟩
          obtain ⟨d1, d2⟩ := hc j (by omega)
          have hy := hp _ (List.getElem_mem (show j < l.length by omega))
          have HC : Hid (∀ w, Calls Tryz.prog 68 #[aggE l[j], aggE l[j + 1]] w fun e w' => e = .returned (.int .i64 (cmpE l[j] l[j + 1])) ∧ Grew w w') := fun w => (compare_any l[j] l[j + 1] w (by unfold maxLen; omega) (by unfold maxLen; omega)).mono fun e w' h => ⟨h.1, h.2.grew⟩
          unfold aggE at HC
          have hlt0 := @cmpE_lt l[j] l[j + 1]
          have Ey : Hid (lessB l[j].1 l[j + 1].1 = true → rise (prevO l (j + 1 + 1)) (l.drop (j + 1 + 1)) = rise none l) := rise_next hlt H.out hm
          have En : Hid (lessB l[j].1 l[j + 1].1 = false → rise none l = false) := rise_stop hlt H.out
          clear hm hc H h
          generalize l[j + 1] = x at *
          generalize l[j] = y at *
          generalize cmpE y x = r at *
          have t0 : decide ((0 : Int) < (j : Int) + 1) = true := decide_eq_true (by omega)
          have e1 := cell_grown (a := ⟨g, og + j * 2, none⟩) hgb d1
          have e2 := cell_grown (a := ⟨g, og + j * 2 + 1, none⟩) hgb d2
          have lt3 : (j : Int) < (l.length : Int) := by omega
          have lt4 : (j : Int) + 1 < (l.length : Int) := by omega
          have nn3 : (0 : Int) ≤ (j : Int) := by omega
          have nn4 : (0 : Int) ≤ (j : Int) + 1 := by omega
          have wr3 : IntKind.i64.wrap (j : Int) = j := IntWalk.i64_in _ (by omega)
          have wr4 : IntKind.i64.wrap ((j : Int) + 1) = (j : Int) + 1 := IntWalk.i64_in _ (by omega)
          cases hl : lessB y.1 x.1
          · have E := Lib.hid (En.out hl)
            have t3 : decide ((0 : Int) ≤ r) = true := decide_eq_true (by
              rcases Int.lt_or_le r 0 with h | h
              · rw [hlt0.1 h] at hl; cases hl
              · exact h)
            clear hlt0 hl En Ey
            go_wp2
            (refine wp_region_quiet_grown (by assumption) (by kernel_rfl) ?_; (repeat (go_big_quiet_step (first | (go_at_call 74; exact Grew.calls (HM.out _)) | (go_at_call 68; exact Grew.calls (HC.out _))))); refine wpQuiet_nil ?_; intro _ hw'; obtain ⟨⟨nq, osq⟩, hw2⟩ := hw'; subst hw2)
            go_wp2
            simp only [Exit.jump]
            go_ret
            exact ⟨ret_bool E.out.symm, hq.trans (Grew.pa ⟨nq, osq, rfl⟩)⟩
          · have E := Lib.hid (Ey.out hl)
            have t3 : decide ((0 : Int) ≤ r) = false := decide_eq_false (by have := hlt0.2 hl; omega)
            clear hlt0 hl En Ey
            go_wp2
            (refine wp_region_quiet_grown (by assumption) (by kernel_rfl) ?_; (repeat (go_big_quiet_step (first | (go_at_call 74; exact Grew.calls (HM.out _)) | (go_at_call 68; exact Grew.calls (HC.out _))))); refine wpQuiet_nil ?_; intro _ hw'; obtain ⟨⟨nq, osq⟩, hw2⟩ := hw'; subst hw2)
            go_wp2
            go_step3
            exact ⟨rfl, ⟨j + 1 + 1, _, _, _, _, _, _, _, _, _, _, _, _, _, _, _, _, _, _, _, _, _, _, _, _, _, _, _, _, _, _, rfl, hq.trans (Grew.pa ⟨nq, osq, rfl⟩), by omega, E⟩, by simp [intOf]; omega⟩
    · have t1 : ((k : Int) == (l.length : Int)) = true := beq_iff_eq.2 (by omega)
      have E : Hid (rise none l = true) := by
        have := H.out
        rw [List.drop_of_length_le (by omega)] at this
        show _ = _
        rw [← this]
        cases prevO l k <;> rfl
      clear H h
      go_wp2
      simp only [Exit.jump]
      go_ret
      exact ⟨ret_bool E.out.symm, hq⟩
theorem all_here {α : Type} {f : α → Bool} {l : List α} {k : Nat} (hk : k < l.length) (h : (l.drop k).all f = l.all f) (h1 : f l[k] = true) : (l.drop (k + 1)).all f = l.all f := by
  rw [← h, List.drop_eq_getElem_cons hk, List.all_cons, h1, Bool.true_and]
theorem all_stop {α : Type} {f : α → Bool} {l : List α} {k : Nat} (hk : k < l.length) (h1 : f l[k] = false) : l.all f = false := by
  cases h : l.all f with
  | false => rfl
  | true => rw [List.all_eq_true] at h; rw [h _ (List.getElem_mem hk)] at h1; cases h1
theorem all_end {α : Type} {f : α → Bool} {l : List α} {k : Nat} (hk : l.length ≤ k) (h : (l.drop k).all f = l.all f) : l.all f = true := by
  rw [← h, List.drop_of_length_le hk]
  rfl
set_option maxRecDepth 100000 in
set_option maxHeartbeats 2000000 in
theorem nodes_any (v : Value) (l : List Nd) (w : World) (h : NodesAt w v l) (hf : ∀ n ∈ l, Nd.Fit n ∧ n.target.size ≤ 1000000) :
    Calls Tryz.prog 46 #[v] w fun e w' => e = .returned (.bool (l.all mayN)) ∧ Q w w' := by
  have ll := h.len
  obtain ⟨A, c, rfl⟩ := h.form
  unfold maxLen at ll
  go_enter Tryz.func46, Tryz.ntmps46
  go_wp2
  refine wp_scope_goto 0 (fun a' w' => ∃ (k : Nat) (u4 u5 u6 u7 u8 u9 u10 u11 u12 u13 u14 u15 : Value), a' = { tmps := #[.slice A l.length c, undef, .bool false, .int .i64 k, u4, u5, u6, u7, u8, u9, u10, u11, u12, u13, u14, u15], defers := [] } ∧ Q w w' ∧ k ≤ l.length ∧ Hid ((l.drop k).all mayN = l.all mayN)) (fun a' _ => l.length - (intOf (a'.tmps.getD 3 undef)).toNat) rfl ?_ ?_
  · intro hh
    go_wp2
    go_step3
    rename_i hK
    exact hK _ _ (hh.out _ _ ⟨0, _, _, _, _, _, _, _, _, _, _, _, _, rfl, Q.refl _, by omega, rfl⟩)
  · rintro a' w' ⟨k, u4, u5, u6, u7, u8, u9, u10, u11, u12, u13, u14, u15, rfl, hq, hk, H⟩
    by_cases hlt : k < l.length
    · have t1 : ((k : Int) == (l.length : Int)) = false := beq_eq_false_iff_ne.2 (by omega)
      obtain ⟨g, og, _, ea, _, _, hc⟩ := (h.keep hq).at_ (by omega)
      cases ea
      obtain ⟨va, vl, vd, hN, c0, c1, c2, c3, c4, c5, c6, c7, c8, c9, c10, c11⟩ := hc k hlt
      have HM := Lib.hid (Nd.may_any _ l[k] w' hN (hf _ (List.getElem_mem hlt)).1.da)
      unfold nodeV at HM
      have lt2 : (k : Int) < (l.length : Int) := by omega
      cases hm : mayN l[k]
      · have E : Hid (l.all mayN = false) := all_stop hlt hm
        rw [hm] at HM
        clear hm hc H h hN
        generalize l[k] = x at *
        go_wp2_with fail
        refine HM.out.mono ?_
        rintro e w1 ⟨rfl, q1⟩
        go_wp2
        simp only [Exit.jump]
        go_ret
        exact ⟨ret_bool E.out.symm, hq.trans q1⟩
      · rw [hm] at HM
        have E : Hid ((l.drop (k + 1)).all mayN = l.all mayN) := all_here hlt H.out hm
        clear hm hc H h hN
        generalize l[k] = x at *
        go_wp2_with fail
        refine HM.out.mono ?_
        rintro e w1 ⟨rfl, q1⟩
        go_wp2
        go_step3
        exact ⟨rfl, ⟨k + 1, _, _, _, _, _, _, _, _, _, _, _, _, rfl, hq.trans q1, by omega, E⟩, by simp [intOf]; omega⟩
    · have t1 : ((k : Int) == (l.length : Int)) = true := beq_iff_eq.2 (by omega)
      have E : Hid (l.all mayN = true) := all_end (by omega) H.out
      clear H h
      go_wp2
      simp only [Exit.jump]
      go_ret
      exact ⟨ret_bool E.out.symm, hq⟩
end Go.Proofs.YtgbenepapajieaaGreat.Tr
