/-
  The contracts of acl.entries, acl.rising acl.masked and acl.May.
-/
import Derived.Test.YtheobpilmphdjaaGreatCmp
namespace Go.Proofs.YtheobpilmphdjaaGreat
open Go.RowKit

set_option maxRecDepth 100000 in
set_option maxHeartbeats 1000000 in
theorem entries_any (v : Value) (l : List Ace) (w : World) (h : AcesAt w v l) :
    Calls Tryz.prog 79 #[v] w fun e w' => e = .returned (.bool (decide (AllOk l))) ∧ Grew w w' := by
  have ll := h.len
  obtain ⟨A, c, rfl⟩ := h.form
  unfold maxLen at ll
  go_enter Tryz.func79, Tryz.ntmps79
  go_wp2
  refine wp_scope_goto 0 (fun a' w' => Grew w w' ∧ ∃ (k : Nat) (u4 u5 u6 u7 u8 u9 u10 u11 u12 u13 u14 u15 : Value), a' = { tmps := #[.slice A l.length c, undef, .bool false, .int .i64 k, u4, u5, u6, u7, u8, u9, u10, u11, u12, u13, u14, u15], defers := [] } ∧ k ≤ l.length ∧ Hid (AllOk (l.take k))) (fun a' _ => l.length - (intOf (a'.tmps.getD 3 undef)).toNat) rfl ?_ ?_
  · intro hh
    go_wp2
    go_step3
    rename_i hK
    exact hK _ _ (hh.out _ _ ⟨Grew.refl _, 0, _, _, _, _, _, _, _, _, _, _, _, _, rfl, by omega, fun x hx => by cases hx⟩)
  · rintro a' w' ⟨hq, k, u4, u5, u6, u7, u8, u9, u10, u11, u12, u13, u14, u15, rfl, hk, H⟩
    by_cases hlt : k < l.length
    · have t1 : ((k : Int) == (l.length : Int)) = false := beq_eq_false_iff_ne.2 (by omega)
      obtain ⟨g, o, _, ea, _, _, hc⟩ := (h.keep hq.q).at_ (by omega)
      cases ea
      obtain ⟨c1, c2, c3⟩ := hc k hlt
      have En : Hid (¬ OkA l[k] → ¬ AllOk l) := allOk_not hlt
      have Ey : Hid (OkA l[k] → AllOk (l.take (k + 1))) := allOk_step hlt H.out
      have HE := Lib.hid (fun w => entry_any l[k] w)
      clear hc h H
      generalize l[k] = x at *
      by_cases hx : OkA x
      · rw [decide_eq_true hx] at HE
        have E := Lib.hid (Ey.out hx)
        clear hx En Ey
        go_wp2_with fail
        refine (HE.out _).mono ?_
        rintro e w1 ⟨rfl, hq1⟩
        go_wp2
        go_step3
        exact ⟨rfl, ⟨hq.trans hq1, k + 1, _, _, _, _, _, _, _, _, _, _, _, _, rfl, hlt, E⟩, by simp [intOf]; omega⟩
      · rw [decide_eq_false hx] at HE
        have E := Lib.hid (En.out hx)
        clear hx En Ey
        go_wp2_with fail
        refine (HE.out _).mono ?_
        rintro e w1 ⟨rfl, hq1⟩
        go_wp2
        simp only [Exit.jump]
        go_ret
        exact ⟨ret_bool (b_false E.out), hq.trans hq1⟩
    · have t1 : ((k : Int) == (l.length : Int)) = true := beq_iff_eq.2 (by omega)
      have E := Lib.hid (allOk_end (by omega) H.out)
      clear H
      go_wp2
      simp only [Exit.jump]
      go_ret
      exact ⟨ret_bool (b_true E.out), hq⟩

set_option maxRecDepth 100000 in
set_option maxHeartbeats 2000000 in
theorem rising_any (v : Value) (l : List Ace) (w : World) (h : AcesAt w v l) :
    Calls Tryz.prog 80 #[v] w fun e w' => e = .returned (.bool (decide (Rise l))) ∧ Grew w w' := by
  have ll := h.len
  obtain ⟨A, c, rfl⟩ := h.form
  unfold maxLen at ll
  go_enter Tryz.func80, Tryz.ntmps80
  go_wp2
  refine wp_scope_goto 0 (fun a' w' => Grew w w' ∧ ∃ (k : Nat) (u4 u5 u6 u7 u8 u9 u10 u11 u12 u13 u14 u15 u16 u17 u18 u19 u20 : Value), a' = { tmps := #[.slice A l.length c, undef, .bool false, .int .i64 ((k : Int) + 1), u4, u5, u6, u7, u8, u9, u10, u11, u12, u13, u14, u15, u16, u17, u18, u19, u20], defers := [] } ∧ k ≤ l.length ∧ Hid (UpTo l (k + 1))) (fun a' _ => l.length + 1 - (intOf (a'.tmps.getD 3 undef)).toNat) rfl ?_ ?_
  · intro hh
    go_wp2
    go_step3
    rename_i hK
    exact hK _ _ (hh.out _ _ ⟨Grew.refl _, 0, _, _, _, _, _, _, _, _, _, _, _, _, _, _, _, _, _, rfl, by omega, UpTo.start l⟩)
  · rintro a' w' ⟨hq, k, u4, u5, u6, u7, u8, u9, u10, u11, u12, u13, u14, u15, u16, u17, u18, u19, u20, rfl, hk, H⟩
    by_cases hlt : k + 1 < l.length
    · have t1 : decide ((l.length : Int) ≤ (k : Int) + 1) = false := decide_eq_false (by omega)
      obtain ⟨g, o, _, ea, _, _, hc⟩ := (h.keep hq.q).at_ (by omega)
      cases ea
      obtain ⟨c1, c2, c3⟩ := hc k (by omega)
      obtain ⟨d1, d2, d3⟩ := hc (k + 1) hlt
      have En : Hid (¬ ltA l[k] l[k + 1] → ¬ Rise l) := Rise.not hlt
      have Ey : Hid (ltA l[k] l[k + 1] → UpTo l (k + 2)) := UpTo.step hlt H.out
      have HE := Lib.hid (fun w => compare_any l[k] l[k + 1] w)
      have hcm := cmpA_lt l[k] l[k + 1]
      clear hc h H
      generalize l[k] = x at *
      generalize l[k + 1] = y at *
      generalize cmpA x y = r at *
      have hgb := World.block_lt_of_cell? w' _ c1
      have lt2 : (k : Int) < (l.length : Int) := by omega
      have lt3 : (k : Int) + 1 < (l.length : Int) := by omega
      have nn2 : (0 : Int) ≤ (k : Int) := by omega
      have nn3 : (0 : Int) ≤ (k : Int) + 1 := by omega
      have wr2 : IntKind.i64.wrap (k : Int) = k := IntWalk.i64_in _ (by omega)
      have mixed : Tryz.prog.follows .mixedOrders = true := by kernel_rfl
      have b1 := cell_grown (a := ⟨g, o + k * 3, none⟩) hgb c1
      have b2 := cell_grown (a := ⟨g, o + k * 3 + 1, none⟩) hgb c2
      have b3 := cell_grown (a := ⟨g, o + k * 3 + 2, none⟩) hgb c3
      have e1 := cell_grown (a := ⟨g, o + (k + 1) * 3, none⟩) hgb d1
      have e2 := cell_grown (a := ⟨g, o + (k + 1) * 3 + 1, none⟩) hgb d2
      have e3 := cell_grown (a := ⟨g, o + (k + 1) * 3 + 2, none⟩) hgb d3
      by_cases hx : ltA x y
      · have t2 : decide (0 ≤ r) = false := decide_eq_false (by have := hcm.2 hx; omega)
        have E := Lib.hid (Ey.out hx)
        clear hx En Ey hcm
        go_wp2_with fail
        go_quiet_grown (first | (go_at_call 93; exact Grew.calls (HE.out _)))
        go_wp2
        go_step3
        exact ⟨rfl, ⟨hq.trans ⟨_, _, rfl⟩, k + 1, _, _, _, _, _, _, _, _, _, _, _, _, _, _, _, _, _, rfl, by omega, E⟩, by simp [intOf]; omega⟩
      · have t2 : decide (0 ≤ r) = true := decide_eq_true (by have := mt hcm.1 hx; omega)
        have E := Lib.hid (En.out hx)
        clear hx En Ey hcm
        go_wp2_with fail
        go_quiet_grown (first | (go_at_call 93; exact Grew.calls (HE.out _)))
        go_wp2
        simp only [Exit.jump]
        go_ret
        exact ⟨ret_bool (b_false E.out), hq.trans ⟨_, _, rfl⟩⟩
    · have t1 : decide ((l.length : Int) ≤ (k : Int) + 1) = true := decide_eq_true (by omega)
      have E := Lib.hid (H.out.rise (by omega))
      clear H
      go_wp2
      simp only [Exit.jump]
      go_ret
      exact ⟨ret_bool (b_true E.out), hq⟩

set_option maxRecDepth 100000 in
set_option maxHeartbeats 1000000 in
theorem masked_any (v : Value) (l : List Ace) (w : World) (h : AcesAt w v l) :
    Calls Tryz.prog 81 #[v] w fun e w' => e = .returned (.bool (lastM l)) ∧ w' = w := by
  have ll := h.len
  unfold maxLen at ll
  by_cases h0 : l.length = 0
  · obtain rfl := List.eq_nil_of_length_eq_zero h0
    obtain ⟨A, c, rfl⟩ := h.form
    go_enter Tryz.func81, Tryz.ntmps81
    go_wp2
    go_ret
    exact ⟨rfl, rfl⟩
  · obtain ⟨k, hk⟩ : ∃ k, l.length = k + 1 := ⟨l.length - 1, by omega⟩
    obtain ⟨g, o, cap, rfl, _, _, hc⟩ := h.at_ (by omega)
    obtain ⟨c1, c2, c3⟩ := hc k (by omega)
    have E := Lib.hid (show lastM l = ((l[k]'(by omega)).1 == 3) by unfold lastM; rw [last_at hk])
    generalize l[k]'(by omega) = x at *
    rw [hk]
    rw [hk] at ll
    clear hc h hk h0
    have t0 : ((k : Int) + 1 == 0) = false := beq_eq_false_iff_ne.2 (by omega)
    have wr2 : IntKind.i64.wrap (k : Int) = k := IntWalk.i64_in _ (by omega)
    have lt2 : (k : Int) < (k : Int) + 1 := by omega
    go_enter Tryz.func81, Tryz.ntmps81
    go_wp2
    go_ret
    exact ⟨ret_bool E.out.symm, rfl⟩

set_option maxRecDepth 100000 in
set_option maxHeartbeats 1000000 in
theorem may_any (v : Value) (l : List Ace) (w : World) (h : AcesAt w v l) :
    Calls Tryz.prog 62 #[v] w fun e w' => e = .returned (.bool (mayB l)) ∧ Grew w w' := by
  have ll := h.len
  unfold maxLen at ll
  obtain ⟨A, c, rfl⟩ := h.form
  by_cases h0 : l.length ≤ 16
  · have t0 : decide ((l.length : Int) ≤ 16) = true := decide_eq_true (by omega)
    have HE := Lib.hid (fun w (h : AcesAt w (.slice A l.length c) l) => entries_any _ l w h)
    by_cases h1 : AllOk l
    · rw [decide_eq_true h1] at HE
      have HR := Lib.hid (fun w (h : AcesAt w (.slice A l.length c) l) => rising_any _ l w h)
      by_cases h2 : Rise l
      · rw [decide_eq_true h2] at HR
        have HM := Lib.hid (fun w (h : AcesAt w (.slice A l.length c) l) => masked_any _ l w h)
        have E := Lib.hid (show lastM l = mayB l by
          have := lastM_eq h1 h2
          unfold mayB
          rw [Bool.eq_iff_iff, decide_eq_true_eq]
          constructor
          · exact fun e => ⟨h0, h1, h2, by rw [this, e]; rfl⟩
          · exact fun e => by have e := e.2.2.2; rw [this] at e; simpa using e)
        clear h0 h1 h2
        go_enter Tryz.func62, Tryz.ntmps62
        go_wp2_with fail
        refine (HE.out _ h).mono ?_
        rintro e w1 ⟨rfl, q1⟩
        replace h := h.keep q1.q
        go_wp2_with fail
        refine (HR.out _ h).mono ?_
        rintro e w2 ⟨rfl, q2⟩
        replace h := h.keep q2.q
        go_wp2_with fail
        refine (HM.out _ h).mono ?_
        rintro e w3 ⟨rfl, rfl⟩
        generalize lastM l = b at *
        go_wp2
        all_goals
          go_ret
          exact ⟨ret_bool E.out, q1.trans q2⟩
      · rw [decide_eq_false h2] at HR
        have E := Lib.hid (show mayB l = false from decide_eq_false fun h => h2 h.2.2.1)
        clear h0 h1 h2
        go_enter Tryz.func62, Tryz.ntmps62
        go_wp2_with fail
        refine (HE.out _ h).mono ?_
        rintro e w1 ⟨rfl, q1⟩
        replace h := h.keep q1.q
        go_wp2_with fail
        refine (HR.out _ h).mono ?_
        rintro e w2 ⟨rfl, q2⟩
        go_wp2
        go_ret
        exact ⟨ret_bool E.out.symm, q1.trans q2⟩
    · rw [decide_eq_false h1] at HE
      have E := Lib.hid (show mayB l = false from decide_eq_false fun h => h1 h.2.1)
      clear h0 h1
      go_enter Tryz.func62, Tryz.ntmps62
      go_wp2_with fail
      refine (HE.out _ h).mono ?_
      rintro e w1 ⟨rfl, q1⟩
      go_wp2
      go_ret
      exact ⟨ret_bool E.out.symm, q1⟩
  · have t0 : decide ((l.length : Int) ≤ 16) = false := decide_eq_false (by omega)
    have E := Lib.hid (show mayB l = false from decide_eq_false fun h => h0 h.1)
    clear h0
    go_enter Tryz.func62, Tryz.ntmps62
    go_wp2
    go_ret
    exact ⟨ret_bool E.out.symm, Grew.refl _⟩
end Go.Proofs.YtheobpilmphdjaaGreat
