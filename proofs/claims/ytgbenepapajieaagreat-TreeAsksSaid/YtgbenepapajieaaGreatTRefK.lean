/-
  The document's Kids, Class.
-/
import Derived.Test.YtgbenepapajieaaGreatTRef
import Derived.Test.YtgbenepapajieaaGreatTFind
import Derived.Test.YtgbenepapajieaaGreatTRise
namespace Go.Proofs.YtgbenepapajieaaGreat.Tr
open Go.RowKit
open Go.Proofs.YtgbenepapajieaaGreat.Nd (Nd mayN sumP nodeV NodeAt PcsAt)
open Go.Proofs.YtgbenepapajieaaGreat.Pa (lessB parentB hasParentB lastB underB joinB StrsAt)
set_option maxRecDepth 100000 in
set_option maxHeartbeats 2000000 in
theorem rKids_any (v : Value) (t : Tree) (p : ByteArray) (w : World) (h : TreeAt w v t) (hf : Fits t) :
    Calls Tryz.prog 24 #[v, .string p] w fun e w' => ∃ v', e = .returned v' ∧ OwnS w' w.heap.size v' (kidsE t.1 p) ∧ Q w w' := by
  have hp := hf.path
  have he20 := hf.ents
  obtain ⟨es, ns⟩ := t
  obtain ⟨ve, vn, rfl, he, hn⟩ := h
  simp only at he hn ⊢
  have ll := he.len
  have l2 := hn.len
  obtain ⟨A, c, rfl⟩ := he.form
  obtain ⟨B, d, rfl⟩ := hn.form
  unfold maxLen at ll l2
  simp only at hp he20
  clear hf hn
  go_enter Tryz.func24, Tryz.ntmps24
  go_wp2
  have bx := box_at w (.slice A es.length c) (.slice B ns.length d) 25
  have g1 : Grew w (w.alloc (.cells #[.slice A es.length c, .slice B ns.length d] 25)) := Grew.alloc _ _
  have hbl : w.heap.size < (w.alloc (.cells #[.slice A es.length c, .slice B ns.length d] 25)).heap.size := by rw [World.size_alloc]; omega
  generalize w.alloc (.cells #[.slice A es.length c, .slice B ns.length d] 25) = w1 at *
  go_loopw [5, 6] (fun l i wr => ∃ (k : Nat) (o : List ByteArray), i = .int .i64 k ∧ k ≤ es.length ∧ Q w1 wr ∧ OwnS wr w1.heap.size l o ∧ o.length ≤ k ∧ Hid (o = kidsE (es.take k) p)) (fun _ i _ => es.length - (intOf i).toNat)
  case atStart => exact ⟨0, [], rfl, by omega, Q.refl _, OwnR.nil_ _ _ _, by simp, rfl⟩
  case round =>
    obtain ⟨k, o, rfl, hk, hq, hown, hol, H⟩ := hrel
    have hcb := hq.cell bx.1
    have q0 := g1.q
    by_cases hlt : k < es.length
    · have t1 : (k : Int) < (es.length : Int) := by omega
      obtain ⟨g, og, _, ea, _, _, hc⟩ := ((he.keep q0).keep hq).at_ (by omega)
      cases ea
      obtain ⟨c1, c2⟩ := hc k hlt
      have hx := hp _ (List.getElem_mem hlt)
      have E0 : Hid (kidsE (es.take (k + 1)) p = o ++ (if kidB p es[k] then [lastB es[k].1] else [])) := by
        show _ = _
        rw [H.out]
        unfold kidsE
        rw [filter_snoc hlt, List.map_append]
        congr 1
        split <;> rfl
      clear hc H
      generalize es[k] = x at *
      have HP := Lib.hid (fun w => Pa.rparent_any x.1 w (by omega))
      have HL := Lib.hid (fun w => Pa.rlast_any x.1 w (by omega))
      by_cases hx : kidB p x = true
      · have E1 : Hid (kidsE (es.take (k + 1)) p = o ++ [lastB x.1]) := E0.out.trans (by rw [if_pos hx])
        unfold kidB at hx
        rw [Bool.and_eq_true, decide_eq_true_eq] at hx
        rw [hx.1, hx.2] at HP
        have t2 : (p.toList == p.toList) = true := beq_self_eq_true _
        clear hx E0
        go_wp2_with fail
        refine (HP.out _).mono ?_
        rintro e w2 ⟨rfl, q1⟩
        replace q1 := q1.1
        replace hcb := q1.cell hcb
        replace c1 := q1.cell c1
        replace hown := OwnR.keep hown q1
        replace hq := hq.trans q1
        clear q1 HP
        go_wp2_with fail
        refine (HL.out _).mono ?_
        rintro e w3 ⟨rfl, q2⟩
        replace q2 := q2.1
        replace hown := OwnR.keep hown q2
        replace hq := hq.trans q2
        clear q2 HL c1 c2 hcb
        have hsz := hq.size
        go_wp2_with (at_builtin; refine wpList_append_str rfl (.tmp 32) (.tmp 40) rfl w1.heap.size _ o rfl (hown.grew (Grew.alloc _ _)) _ [lastB x.1] rfl ((own_one flatS 9 w3 w3.heap.size (Nat.le_refl _) (lastB x.1)).row flatS) (by simp; omega) (by rw [World.size_alloc]; omega) ?_)
        intro v4 w4 hown3 hg3 _
        have hl3 : (o ++ [lastB x.1]).length ≤ k + 1 := by simp; omega
        have hq3 : Q w1 w4 := Below.grown (hq.alloc _) hg3 (by rw [World.size_alloc]; omega) fun g hg => (hown.lt g hg).1
        generalize o ++ [lastB x.1] = o3 at hown3 E1 hl3
        clear hg3 hown hsz
        go_wp2
        go_roundw
        case rel => exact ⟨k + 1, o3, by go_num, by omega, hq3, hown3, hl3, E1.out.symm⟩
        case measure => simp [intOf]; omega
      · have E1 : Hid (o = kidsE (es.take (k + 1)) p) := (E0.out.trans (by rw [if_neg hx, List.append_nil])).symm
        clear HL E0
        unfold kidB at hx
        cases hh : hasParentB x.1
        · rw [hh] at HP
          clear hx hh
          go_wp2_with fail
          refine (HP.out _).mono ?_
          rintro e w2 ⟨rfl, q1⟩
          replace q1 := q1.1
          replace hown := OwnR.keep hown q1
          replace hq := hq.trans q1
          clear q1 HP c1 c2 hcb
          go_wp2
          go_roundw
          case rel => exact ⟨k + 1, o, by go_num, by omega, hq, hown, by omega, E1⟩
          case measure => simp [intOf]; omega
        · rw [hh] at HP
          rw [hh, Bool.true_and, decide_eq_true_eq] at hx
          have t2 := b_tln hx
          clear hx hh
          go_wp2_with fail
          refine (HP.out _).mono ?_
          rintro e w2 ⟨rfl, q1⟩
          replace q1 := q1.1
          replace hown := OwnR.keep hown q1
          replace hq := hq.trans q1
          clear q1 HP c1 c2 hcb
          go_wp2
          go_roundw
          case rel => exact ⟨k + 1, o, by go_num, by omega, hq, hown, by omega, E1⟩
          case measure => simp [intOf]; omega
    · have E1 : Hid (o = kidsE es p) := by
        have := H.out
        rwa [List.take_of_length_le (by omega)] at this
      clear H
      go_wp2
      go_ret
      exact ⟨_, rfl, by rw [← E1.out]; exact OwnR.mono hown q0.size, q0.trans hq⟩
set_option maxRecDepth 100000 in
set_option maxHeartbeats 2000000 in
theorem rClass_any (v : Value) (t : Tree) (p : ByteArray) (w : World) (h : TreeAt w v t) (hf : Fits t) :
    Calls Tryz.prog 26 #[v, .string p] w fun e w' => ∃ v', e = .returned v' ∧ OwnS w' w.heap.size v' (classT t.1 p) ∧ Q w w' := by
  have HF := Lib.hid (fun w h => rFind_any v t p w h)
  have he20 := hf.ents
  obtain ⟨es, ns⟩ := t
  obtain ⟨ve, vn, rfl, he, hn⟩ := h
  simp only at he hn ⊢
  have ll := he.len
  have l2 := hn.len
  obtain ⟨A, c, rfl⟩ := he.form
  obtain ⟨B, d, rfl⟩ := hn.form
  unfold maxLen at ll l2
  simp only at he20
  have HT : Hid (∀ w', Q w w' → TreeAt w' (.agg #[.slice A es.length c, .slice B ns.length d]) (es, ns)) := fun w' q => ⟨_, _, rfl, he.keep q, hn.keep q⟩
  clear hf hn
  cases hm : findE es p with
  | none =>
    have E : Hid (classT es p = []) := (by unfold classT; rw [hm] : classT es p = [])
    rw [show findE (es, ns).1 p = none from hm] at HF
    clear hm
    go_enter Tryz.func26, Tryz.ntmps26
    go_wp2_with fail
    refine (HF.out _ (HT.out _ ((Q.refl w).alloc _))).mono ?_
    rintro e w1 ⟨rfl, q1⟩
    replace q1 := q1.q
    have hcb := q1.cell (box_at w (.slice A es.length c) (.slice B ns.length d) 25).1
    replace q1 := ((Q.refl w).alloc _).trans q1
    go_wp2
    go_loopw [7, 8] (fun l i wr => l = .slice none 0 0 ∧ i = .int .i64 0 ∧ wr = w1) (fun _ _ _ => 0)
    case atStart => exact ⟨rfl, rfl, rfl⟩
    case round =>
      obtain ⟨rfl, rfl, rfl⟩ := hrel
      by_cases hlt : 0 < es.length
      · have t1 : (0 : Int) < (es.length : Int) := by omega
        go_wp2
        go_ret
        exact ⟨_, rfl, by rw [E.out]; exact OwnR.nil_ _ _ _, q1⟩
      · have t1 : ¬ (0 : Int) < (es.length : Int) := by omega
        go_wp2
        go_ret
        exact ⟨_, rfl, by rw [E.out]; exact OwnR.nil_ _ _ _, q1⟩
  | some m =>
    have E : Hid (classT es p = classE es m) := (by unfold classT; rw [hm] : classT es p = classE es m)
    rw [show findE (es, ns).1 p = some m from hm] at HF
    clear hm
    go_enter Tryz.func26, Tryz.ntmps26
    go_wp2_with fail
    refine (HF.out _ (HT.out _ ((Q.refl w).alloc _))).mono ?_
    rintro e w1 ⟨rfl, q1⟩
    replace q1 := q1.q
    have hcb1 := q1.cell (box_at w (.slice A es.length c) (.slice B ns.length d) 25).1
    replace q1 := ((Q.refl w).alloc _).trans q1
    go_wp2
    go_loopw [7, 8] (fun l i wr => ∃ (k : Nat) (o : List ByteArray), i = .int .i64 k ∧ k ≤ es.length ∧ Q w1 wr ∧ OwnS wr w1.heap.size l o ∧ o.length ≤ k ∧ Hid (o = classE (es.take k) m)) (fun _ i _ => es.length - (intOf i).toNat)
    case atStart => exact ⟨0, [], rfl, by omega, Q.refl _, OwnR.nil_ _ _ _, by simp, rfl⟩
    case round =>
      obtain ⟨k, o, rfl, hk, hq, hown, hol, H⟩ := hrel
      have hcb := hq.cell hcb1
      by_cases hlt : k < es.length
      · have t1 : (k : Int) < (es.length : Int) := by omega
        obtain ⟨g, og, _, ea, _, _, hc⟩ := ((he.keep q1).keep hq).at_ (by omega)
        cases ea
        obtain ⟨c1, c2⟩ := hc k hlt
        have E0 : Hid (classE (es.take (k + 1)) m = o ++ (if decide (es[k].2 = m) then [es[k].1] else [])) := by
          have H' := H.out
          show _ = _
          rw [H']
          unfold classE
          rw [filter_snoc hlt, List.map_append]
          congr 1
          split <;> rfl
        clear hc H
        generalize es[k] = x at *
        by_cases hx : x.2 = m
        · have E1 : Hid (classE (es.take (k + 1)) m = o ++ [x.1]) := E0.out.trans (by rw [if_pos (decide_eq_true hx)])
          have t2 : (x.2 == m) = true := beq_iff_eq.2 hx
          have hsz := hq.size
          clear hx E0
          go_wp2_with (at_builtin; refine wpList_append_str rfl (.tmp 33) (.tmp 40) rfl w1.heap.size _ o rfl (hown.grew (Grew.alloc _ _)) _ [x.1] rfl ((own_one flatS 9 wr wr.heap.size (Nat.le_refl _) x.1).row flatS) (by simp; omega) (by rw [World.size_alloc]; omega) ?_)
          intro v3 w3 hown3 hg3 _
          have hq3 : Q w1 w3 := Below.grown (hq.alloc _) hg3 (by rw [World.size_alloc]; omega) fun g hg => (hown.lt g hg).1
          have hl3 : (o ++ [x.1]).length ≤ k + 1 := by simp; omega
          generalize o ++ [x.1] = o3 at hown3 E1 hl3
          clear hg3 hown hsz c1 c2 hcb
          go_wp2
          go_roundw
          case rel => exact ⟨k + 1, o3, by go_num, by omega, hq3, hown3, hl3, E1.out.symm⟩
          case measure => simp [intOf]; omega
        · have E1 : Hid (o = classE (es.take (k + 1)) m) := (E0.out.trans (by rw [if_neg (by simp [hx]), List.append_nil])).symm
          have t2 : (x.2 == m) = false := beq_eq_false_iff_ne.2 hx
          clear hx E0
          go_wp2
          go_roundw
          case rel => exact ⟨k + 1, o, by go_num, by omega, hq, hown, by omega, E1⟩
          case measure => simp [intOf]; omega
      · have t1 : ¬ (k : Int) < (es.length : Int) := by omega
        have E1 : Hid (o = classE es m) := by
          have := H.out
          rwa [List.take_of_length_le (by omega)] at this
        clear H
        go_wp2
        go_ret
        exact ⟨_, rfl, by rw [E.out, ← E1.out]; exact OwnR.mono hown q1.size, q1.trans hq⟩
end Go.Proofs.YtgbenepapajieaaGreat.Tr
