/-
  The contracts of the document's own functions: needs, MayAcl.
-/
import Derived.Test.YtheobpilmphdjaaGreatMem
namespace Go.Proofs.YtheobpilmphdjaaGreat
open Go.RowKit

theorem noM_step {l : List Ace} {k : Nat} (hk : k < l.length) (h : ¬ HasM (l.take k)) (h1 : ¬ l[k].1 = 3) : ¬ HasM (l.take (k + 1)) := by
  rintro ⟨x, hx, h3⟩
  rw [List.take_succ_eq_append_getElem hk] at hx
  rcases List.mem_append.1 hx with hx | hx
  · exact h ⟨x, hx, h3⟩
  · rw [List.mem_singleton.1 hx] at h3
    exact h1 h3
theorem needs_no {l : List Ace} {k : Nat} (hk : k < l.length) (h1 : l[k].1 = 3) : needsB l = false :=
  decide_eq_false fun h => h.2 ⟨_, List.getElem_mem hk, h1⟩
theorem needs_end {l : List Ace} {k : Nat} (hk : l.length ≤ k) (h : ¬ HasM (l.take k)) : needsB l = decide ((0 : Int) < (l.length : Int)) := by
  rw [List.take_of_length_le hk] at h
  unfold needsB
  rw [decide_eq_decide]
  constructor
  · intro e
    have := List.length_pos_iff.2 e.1
    omega
  · exact fun e => ⟨List.length_pos_iff.1 (by omega), h⟩

set_option maxRecDepth 100000 in
set_option maxHeartbeats 1000000 in
theorem needs_any (v : Value) (l : List Ace) (w : World) (h : AcesAt w v l) :
    Calls Tryz.prog 84 #[v] w fun e w' => e = .returned (.bool (needsB l)) ∧ w' = w := by
  have ll := h.len
  obtain ⟨A, c, rfl⟩ := h.form
  unfold maxLen at ll
  go_enter Tryz.func84, Tryz.ntmps84
  go_wp2
  go_loopw [3] (fun i wr => ∃ k : Nat, i = .int .i64 k ∧ k ≤ l.length ∧ wr = w ∧ Hid (¬ HasM (l.take k))) (fun i _ => l.length - (intOf i).toNat)
  case atStart => exact ⟨0, rfl, by omega, rfl, by rintro ⟨x, hx, _⟩; cases hx⟩
  case round =>
    obtain ⟨k, rfl, hk, rfl, H⟩ := hrel
    by_cases hlt : k < l.length
    · obtain ⟨g, o, _, ea, _, _, hc⟩ := h.at_ (by omega)
      cases ea
      obtain ⟨c1, c2, c3⟩ := hc k hlt
      have En : Hid (l[k].1 = 3 → needsB l = false) := needs_no hlt
      have Ey : Hid (¬ l[k].1 = 3 → ¬ HasM (l.take (k + 1))) := noM_step hlt H.out
      clear hc h H
      generalize l[k] = x at *
      by_cases h3 : x.1 = 3
      · have t1 : (x.1 == 3) = true := beq_iff_eq.2 h3
        have E := Lib.hid (En.out h3)
        clear h3 En Ey
        go_wp2
        go_ret
        exact ⟨ret_bool E.out.symm, rfl⟩
      · have t1 : (x.1 == 3) = false := beq_eq_false_iff_ne.2 h3
        have E := Lib.hid (Ey.out h3)
        clear h3 En Ey
        go_wp2
        go_roundw
        case rel => exact ⟨k + 1, by go_num, by omega, trivial, E⟩
        case measure => simp [intOf]; omega
    · have E := Lib.hid (needs_end (by omega) H.out)
      clear H
      go_wp2
      all_goals
        go_ret
        exact ⟨ret_bool (by rw [E.out]; first | exact b_true (by omega) | exact b_false (by omega) | exact b_iff (by omega)), rfl⟩

theorem may_no_ok {l : List Ace} {k : Nat} (hk : k < l.length) (h1 : ¬ OkA l[k]) : mayB l = false := decide_eq_false fun h => allOk_not hk h1 h.2.1
theorem may_no_lt {l : List Ace} {k : Nat} (hk : k + 1 < l.length) (h1 : ¬ ltA l[k] l[k + 1]) : mayB l = false := decide_eq_false fun h => Rise.not hk h1 h.2.2.1
theorem may_end {l : List Ace} {k : Nat} (hk : l.length ≤ k) (h : AllOk (l.take k)) (h1 : UpTo l k) : mayB l = (decide ((l.length : Int) ≤ 16) && !needsB l) := by
  have a := allOk_end hk h
  have b := h1.rise hk
  unfold mayB
  rw [Bool.eq_iff_iff]
  simp only [decide_eq_true_eq, Bool.and_eq_true, Bool.not_eq_true']
  constructor
  · exact fun e => ⟨by omega, e.2.2.2⟩
  · exact fun e => ⟨by omega, a, b, e.2⟩

set_option maxRecDepth 100000 in
set_option maxHeartbeats 2000000 in
theorem mayRef_any (v : Value) (l : List Ace) (w : World) (h : AcesAt w v l) :
    Calls Tryz.prog 64 #[v] w fun e w' => e = .returned (.bool (mayB l)) ∧ Grew w w' := by
  have ll := h.len
  obtain ⟨A, c, rfl⟩ := h.form
  unfold maxLen at ll
  have mixed : Tryz.prog.follows .mixedOrders = true := by kernel_rfl
  go_enter Tryz.func64, Tryz.ntmps64
  go_wp2
  go_loopw [3] (fun i wr => ∃ k : Nat, i = .int .i64 k ∧ k ≤ l.length ∧ Grew w wr ∧ Hid (AllOk (l.take k)) ∧ Hid (UpTo l k)) (fun i _ => l.length - (intOf i).toNat)
  case atStart => exact ⟨0, rfl, by omega, Grew.refl _, (fun x hx => by cases hx), UpTo.zero l⟩
  case round =>
    obtain ⟨k, rfl, hk, hq, H, U⟩ := hrel
    by_cases hlt : k < l.length
    · obtain ⟨g, o, _, ea, _, _, hc⟩ := (h.keep hq.q).at_ (by omega)
      cases ea
      obtain ⟨c1, c2, c3⟩ := hc k hlt
      have hgb := World.block_lt_of_cell? wr _ c1
      have lt2 : (k : Int) < (l.length : Int) := by omega
      have b1 := cell_grown (a := ⟨g, o + k * 3, none⟩) hgb c1
      have b2 := cell_grown (a := ⟨g, o + k * 3 + 1, none⟩) hgb c2
      have b3 := cell_grown (a := ⟨g, o + k * 3 + 2, none⟩) hgb c3
      have En : Hid (¬ OkA l[k] → mayB l = false) := may_no_ok hlt
      have Ey : Hid (OkA l[k] → AllOk (l.take (k + 1))) := allOk_step hlt H.out
      have HE := Lib.hid (fun w => ace_any l[k] w)
      by_cases hx : OkA l[k]
      · rw [decide_eq_true hx] at HE
        have E := Lib.hid (Ey.out hx)
        clear hx En Ey H
        by_cases h0 : k = 0
        · subst h0
          have U1 : Hid (UpTo l 1) := UpTo.start l
          clear hc h U
          generalize l[0] = x at *
          replace b1 : ∀ n os, (Go.Sort.grow (wr.drewN n) os).cell? ⟨g, o, none⟩ = some (.int .i64 x.1) := by simpa using b1
          replace b2 : ∀ n os, (Go.Sort.grow (wr.drewN n) os).cell? ⟨g, o + 1, none⟩ = some (.int .i64 x.2.1) := by simpa using b2
          replace b3 : ∀ n os, (Go.Sort.grow (wr.drewN n) os).cell? ⟨g, o + 2, none⟩ = some (.int .i64 x.2.2) := by simpa using b3
          have lt2 : (0 : Int) < (l.length : Int) := by omega
          go_wp2_with fail
          (refine wp_region_quiet_grown (by assumption) (by kernel_rfl) ?_; (repeat (go_big_quiet_step (first | (go_at_call 82; exact Grew.calls (HE.out _))))); refine wpQuiet_nil ?_; intro _ hw'; obtain ⟨⟨nq, osq⟩, hw2⟩ := hw'; subst hw2)
          go_wp2
          go_roundw
          case rel => exact ⟨0 + 1, by go_num, by omega, hq.trans ⟨_, _, rfl⟩, E, U1⟩
          case measure => simp [intOf]; omega
        · obtain ⟨j, rfl⟩ : ∃ j, k = j + 1 := ⟨k - 1, by omega⟩
          obtain ⟨d1, d2, d3⟩ := hc j (by omega)
          have e1 := cell_grown (a := ⟨g, o + j * 3, none⟩) hgb d1
          have e2 := cell_grown (a := ⟨g, o + j * 3 + 1, none⟩) hgb d2
          have e3 := cell_grown (a := ⟨g, o + j * 3 + 2, none⟩) hgb d3
          have En : Hid (¬ ltA l[j] l[j + 1] → mayB l = false) := may_no_lt hlt
          have Ey : Hid (ltA l[j] l[j + 1] → UpTo l (j + 2)) := UpTo.step hlt U.out
          have HL := Lib.hid (fun w => less_any l[j] l[j + 1] w)
          clear hc h U
          generalize l[j + 1] = x at *
          generalize l[j] = y at *
          have wr2 : IntKind.i64.wrap (j : Int) = j := IntWalk.i64_in _ (by omega)
          have nn2 : (0 : Int) ≤ (j : Int) := by omega
          have nn3 : (0 : Int) ≤ (j : Int) + 1 := by omega
          have t3 : decide ((0 : Int) < (j : Int) + 1) = true := decide_eq_true (by omega)
          have lt3 : (j : Int) < (l.length : Int) := by omega
          rw [show ((j + 1 : Nat) : Int) = (j : Int) + 1 from rfl] at *
          by_cases hx : ltA y x
          · rw [decide_eq_true hx] at HL
            have U1 := Lib.hid (Ey.out hx)
            clear hx En Ey
            go_wp2_with fail
            (refine wp_region_quiet_grown (by assumption) (by kernel_rfl) ?_; (repeat (go_big_quiet_step (first | (go_at_call 82; exact Grew.calls (HE.out _)) | (go_at_call 83; exact Grew.calls (HL.out _))))); refine wpQuiet_nil ?_; intro _ hw'; obtain ⟨⟨nq, osq⟩, hw2⟩ := hw'; subst hw2)
            go_wp2
            go_roundw
            case rel => exact ⟨j + 1 + 1, by go_num, by omega, hq.trans ⟨_, _, rfl⟩, E, U1⟩
            case measure => simp [intOf]; omega
          · rw [decide_eq_false hx] at HL
            have U1 := Lib.hid (En.out hx)
            clear hx En Ey
            go_wp2_with fail
            (refine wp_region_quiet_grown (by assumption) (by kernel_rfl) ?_; (repeat (go_big_quiet_step (first | (go_at_call 82; exact Grew.calls (HE.out _)) | (go_at_call 83; exact Grew.calls (HL.out _))))); refine wpQuiet_nil ?_; intro _ hw'; obtain ⟨⟨nq, osq⟩, hw2⟩ := hw'; subst hw2)
            go_wp2
            go_ret
            exact ⟨ret_bool U1.out.symm, hq.trans ⟨_, _, rfl⟩⟩
      · rw [decide_eq_false hx] at HE
        have E := Lib.hid (En.out hx)
        clear hx En Ey H U hc h
        generalize l[k] = x at *
        go_wp2_with fail
        (refine wp_region_quiet_grown (by assumption) (by kernel_rfl) ?_; (repeat (go_big_quiet_step (first | (go_at_call 82; exact Grew.calls (HE.out _))))); refine wpQuiet_nil ?_; intro _ hw'; obtain ⟨⟨nq, osq⟩, hw2⟩ := hw'; subst hw2)
        go_wp2
        go_ret
        exact ⟨ret_bool E.out.symm, hq.trans ⟨_, _, rfl⟩⟩
    · have E := Lib.hid (may_end (by omega) H.out U.out)
      have HN := Lib.hid (needs_any _ l wr (h.keep hq.q))
      generalize needsB l = n at *
      clear H U h
      by_cases h16 : l.length ≤ 16
      · have t1 : decide ((l.length : Int) ≤ 16) = true := decide_eq_true (by omega)
        rw [t1] at E
        clear h16
        go_wp2_with fail
        refine HN.out.mono ?_
        rintro e w1 ⟨rfl, rfl⟩
        go_wp2
        all_goals
          go_ret
          exact ⟨ret_bool (by have := E.out; simp_all), hq⟩
      · have t1 : decide ((l.length : Int) ≤ 16) = false := decide_eq_false (by omega)
        rw [t1] at E
        clear h16
        go_wp2_with fail
        go_ret
        exact ⟨ret_bool (by have := E.out; simp_all), hq⟩
end Go.Proofs.YtheobpilmphdjaaGreat
