/-
  For whatever numbers: a normal row has just the places of the extents, may be, and is its own; holes have all others below the size. No condition.
-/
import Derived.Test.YtgpnhhfmfdbmdaaLawFacts
import Derived.ShutString
import Derived.ChangeOld
import Derived.Deep.DeepCutAuto
namespace Go.Proofs.Ytgpnhhfmfdbmdaa.places
open Go.ChangeShapes Go.WideShapes Go.ChangeAt Go.RowKit
open Go.ChangeMaps (open_string shut_string)
open Rng

theorem own : ownKnob Try.prog.godebug = none := by kernel_rfl
theorem laidOut : laidOutB Try.prog = true := by kernel_rfl

theorem in_next {l : List X} {p k : Nat} {b : Bool} (hk : k < l.length) (H : b = true ↔ Mem p (l.take k)) (c : Bool) (hc : c = (b || decide (In p l[k]))) : c = true ↔ Mem p (l.take (k + 1)) := by
  rw [take_mem l k hk, ← H, hc, Bool.or_eq_true, decide_eq_true_eq]

set_option maxRecDepth 100000 in
set_option maxHeartbeats 8000000 in
theorem walk (a : Option Addr) (len cap : Nat) (zs : List Int) (u : Int) (w : World) (hr : IsRow .i64 w a len cap zs) (_ : (Lit.int .i64 u).wf = true) :
    Calls Try.prog 3 #[.slice a len cap, .int .i64 u] w fun e w' => e = .returned (.bool true) ∧ Q w w' := by
  obtain ⟨s, hs⟩ : ∃ s : Nat, (IntKind.u64.wrap u).tmod 301 = (s : Int) := ⟨_, (Int.toNat_of_nonneg (Int.tmod_nonneg _ (wrap_u64_nonneg u))).symm⟩
  have ls : s < 301 := by
    have := Int.emod_lt_of_pos (IntKind.u64.wrap u) (show (0 : Int) < 301 by omega)
    rw [Int.tmod_eq_emod_of_nonneg (wrap_u64_nonneg u)] at hs
    omega
  go_enter Try.func3, Try.ntmps3
  go_wp2_with fail
  refine (row_any a len cap zs _ hr).mono ?_
  rintro e w1 ⟨va, l, rfl, hown1, hq1, hl20, Hsm⟩
  have hua : Upto M l := small_max Hsm.out
  have hxa := ExtsAt.of_own hown1
  clear hown1 hr
  go_wp2_with fail
  refine (norm_any va l _ hxa hua.ok (by omega)).mono ?_
  rintro e w2 ⟨vn, n, rfl, hown2, hq2, Hn⟩
  have hnl : n.length ≤ 20 := by have := Hn.out.2.2.2; omega
  have hxn := ExtsAt.of_own hown2
  have hun : Upto M n := Hn.out.2.1
  replace hxa := hxa.keep hq2
  replace hq1 := hq1.trans hq2
  clear hown2 hq2
  go_wp2_with fail
  refine (holes_any va l (s : Int) _ hxa hua.ok (by omega)).mono ?_
  rintro e w3 ⟨vh, h, rfl, hown3, hq3, Hh⟩
  replace Hh : Hid (IsHoles l s h) := by
    have := Hh.out
    rwa [limN_nat s (by unfold M; omega)] at this
  have hhl : h.length ≤ 21 := by have := Hh.out.2.2.2; omega
  have hxh := ExtsAt.of_own hown3
  have huh : Upto M h := Hh.out.2.1.mono (by unfold M; omega)
  replace hxa := hxa.keep hq3
  replace hxn := hxn.keep hq3
  replace hq1 := hq1.trans hq3
  clear hown3 hq3 hs
  have m1 : mayB n 400 = true := may_val (s := 400) (by unfold M; omega) Hn.out.1 ((norm_upto (small_upto Hsm.out) Hn.out).mono (by omega))
  have m2 : mayB h (s : Int) = true := may_val (by unfold M; omega) Hh.out.1 Hh.out.2.1
  go_wp2_with fail
  refine (may_any vn n 400 _ hxn hun.ok).mono ?_
  rintro e w4 ⟨rfl, hq4⟩
  rw [m1]
  replace hxa := hxa.keep hq4
  replace hxn := hxn.keep hq4
  replace hxh := hxh.keep hq4
  replace hq1 := hq1.trans hq4
  clear hq4 m1
  go_wp2_with fail
  refine (norm_any vn n _ hxn hun.ok (by omega)).mono ?_
  rintro e w5 ⟨vr, r, rfl, hown5, hq5, Hr⟩
  obtain rfl := norm_self Hn.out.1 hun Hr.out
  replace hxa := hxa.keep hq5
  replace hxn := hxn.keep hq5
  replace hxh := hxh.keep hq5
  replace hq1 := hq1.trans hq5
  go_wp2_with fail
  refine (same_any vr vn r r _ (ExtsAt.of_own hown5) hxn hun.ok hun.ok).mono ?_
  rintro e w6 ⟨rfl, hq6⟩
  rw [decide_self]
  replace hxa := hxa.keep hq6
  replace hxn := hxn.keep hq6
  replace hxh := hxh.keep hq6
  replace hq1 := hq1.trans hq6
  clear hown5 hq5 hq6 Hr
  go_wp2_with fail
  refine (may_any vh h (s : Int) _ hxh huh.ok).mono ?_
  rintro e w7 ⟨rfl, hq7⟩
  rw [m2]
  replace hxa := hxa.keep hq7
  replace hxn := hxn.keep hq7
  replace hxh := hxh.keep hq7
  replace hq1 := hq1.trans hq7
  clear hq7 m2
  have hua := Lib.hid hua
  have hun := Lib.hid hun
  have huh := Lib.hid huh
  obtain ⟨A, ca, rfl⟩ := hxa.form
  go_wp2
  go_loopw [9, 10, 11, 12, 13] (fun p _ _ _ _ wr => ∃ q : Nat, p = .int .i64 q ∧ q ≤ 300 ∧ Q w7 wr) (fun p _ _ _ _ _ => 300 - (intOf p).toNat)
  case atStart => exact ⟨0, rfl, by omega, Q.refl _⟩
  case round =>
    obtain ⟨p, rfl, hp, hq⟩ := hrel
    by_cases hlt : p < 300
    · go_wp2
      go_loopw [10, 11, 12, 13] (fun c i _ _ wi => ∃ (k : Nat) (b : Bool), i = .int .i64 k ∧ c = .bool b ∧ k ≤ l.length ∧ Q w7 wi ∧ Hid (b = true ↔ Mem p (l.take k))) (fun _ i _ _ _ => l.length - (intOf i).toNat)
      case atStart => exact ⟨0, false, rfl, rfl, by omega, hq, by simp [Hid, Mem]⟩
      case round =>
        obtain ⟨k, b, rfl, rfl, hk, hq, H⟩ := hrel
        by_cases hkl : k < l.length
        · obtain ⟨g, _, ea, _, _, hc⟩ := (hxa.keep hq).at_ (by omega)
          cases ea
          have c1 := hc k hkl
          have o1 := hua.out _ (List.getElem_mem hkl)
          have Hn1 : Hid (∀ c : Bool, c = (b || decide (In p l[k])) → (c = true ↔ Mem p (l.take (k + 1)))) := in_next hkl H.out
          clear hc H
          unfold E at c1
          generalize l[k] = z at *
          unfold M at o1
          have v1 : ∀ w, Sem.run Try.prog (convert 30 2 (.float .f64 (fl z.1))) w = .ok (.int .i64 z.1) w := fun w => run_convert_float_int w _ _ _ _ _ _ (by kernel_rfl) (by kernel_rfl) (toInt_fl z.1 (by omega))
          have v2 : ∀ w, Sem.run Try.prog (convert 30 2 (.float .f64 (fl z.2))) w = .ok (.int .i64 z.2) w := fun w => run_convert_float_int w _ _ _ _ _ _ (by kernel_rfl) (by kernel_rfl) (toInt_fl z.2 (by omega))
          go_wp2_with fail
          go_quiet (fail)
          replace hq := hq.drewN nq
          clear v1 v2 c1
          cases b
          · by_cases h1 : z.1 ≤ p
            · have t1 : decide ((z.1 : Int) ≤ (p : Int)) = true := decide_eq_true (by omega)
              by_cases h2 : p < z.1 + z.2
              · have t2 : decide ((p : Int) < (z.1 : Int) + (z.2 : Int)) = true := decide_eq_true (by omega)
                have E1 : Hid (true = true ↔ Mem p (l.take (k + 1))) := Hn1.out true (by rw [decide_eq_true (show In p z from ⟨h1, h2⟩)]; rfl)
                clear Hn1
                go_wp2
                go_roundw
                case rel => exact ⟨k + 1, true, by go_num, rfl, by omega, hq, E1⟩
                case measure => simp [intOf]; omega
              · have t2 : decide ((p : Int) < (z.1 : Int) + (z.2 : Int)) = false := decide_eq_false (by omega)
                have E1 : Hid (false = true ↔ Mem p (l.take (k + 1))) := Hn1.out false (by rw [decide_eq_false (show ¬ In p z from fun h => h2 h.2)]; rfl)
                clear Hn1
                go_wp2
                go_roundw
                case rel => exact ⟨k + 1, false, by go_num, rfl, by omega, hq, E1⟩
                case measure => simp [intOf]; omega
            · have t1 : decide ((z.1 : Int) ≤ (p : Int)) = false := decide_eq_false (by omega)
              have E1 : Hid (false = true ↔ Mem p (l.take (k + 1))) := Hn1.out false (by rw [decide_eq_false (show ¬ In p z from fun h => h1 h.1)]; rfl)
              clear Hn1
              go_wp2
              go_roundw
              case rel => exact ⟨k + 1, false, by go_num, rfl, by omega, hq, E1⟩
              case measure => simp [intOf]; omega
          · have E1 : Hid (true = true ↔ Mem p (l.take (k + 1))) := Hn1.out true rfl
            clear Hn1
            go_wp2
            go_roundw
            case rel => exact ⟨k + 1, true, by go_num, rfl, by omega, hq, E1⟩
            case measure => simp [intOf]; omega
        · have hm : Hid (b = true ↔ Mem p l) := by
            have := H.out
            rwa [List.take_of_length_le (by omega)] at this
          have hb1 : hasB r p = b := Bool.eq_iff_iff.2 (by rw [has_mem hun.out, hm.out, norm_mem hua.out Hn.out])
          have hb2 : hasB l p = b := Bool.eq_iff_iff.2 (by rw [has_mem hua.out, hm.out])
          have hb3 : Hid (hasB h p = (!b && decide (p < s))) := by rw [← hb2]; exact has_holes hua.out (by unfold M; omega) Hh.out p
          clear H hm
          go_wp2_with fail
          refine (has_any vn r p _ (hxn.keep hq) hun.out.ok).mono ?_
          rintro e w8 ⟨rfl, hq8⟩
          rw [hb1]
          replace hq := hq.trans hq8
          clear hq8 hb1
          cases b
          · go_wp2_with fail
            refine (has_any _ l p _ (hxa.keep hq) hua.out.ok).mono ?_
            rintro e w9 ⟨rfl, hq9⟩
            rw [hb2]
            replace hq := hq.trans hq9
            clear hq9 hb2
            go_wp2_with fail
            refine (has_any vh h p _ (hxh.keep hq) huh.out.ok).mono ?_
            rintro e w10 ⟨rfl, hq10⟩
            replace hq := hq.trans hq10
            clear hq10
            by_cases hps : p < s
            · have t1 : decide ((p : Int) < (s : Int)) = true := decide_eq_true (by omega)
              have E1 : hasB h p = true := by rw [hb3.out, decide_eq_true hps]; rfl
              rw [E1]
              clear E1 hb3
              go_wp2
              go_roundw
              case rel => exact ⟨p + 1, by go_num, by omega, hq⟩
              case measure => simp [intOf]; omega
            · have t1 : decide ((p : Int) < (s : Int)) = false := decide_eq_false (by omega)
              have E1 : hasB h p = false := by rw [hb3.out, decide_eq_false hps]; rfl
              rw [E1]
              clear E1 hb3
              go_wp2
              go_roundw
              case rel => exact ⟨p + 1, by go_num, by omega, hq⟩
              case measure => simp [intOf]; omega
          · go_wp2_with fail
            refine (has_any _ l p _ (hxa.keep hq) hua.out.ok).mono ?_
            rintro e w9 ⟨rfl, hq9⟩
            rw [hb2]
            replace hq := hq.trans hq9
            clear hq9 hb2
            go_wp2_with fail
            refine (has_any vh h p _ (hxh.keep hq) huh.out.ok).mono ?_
            rintro e w10 ⟨rfl, hq10⟩
            replace hq := hq.trans hq10
            clear hq10
            have E1 : hasB h p = false := by rw [hb3.out]; rfl
            rw [E1]
            clear E1 hb3
            go_wp2
            go_roundw
            case rel => exact ⟨p + 1, by go_num, by omega, hq⟩
            case measure => simp [intOf]; omega
    · go_wp2_with fail
      refine (told_any _).mono ?_
      rintro e w8 ⟨rfl, hq8⟩
      go_wp2
      go_ret
      exact ⟨rfl, (hq1.trans hq).trans hq8⟩

/-! ### The row -/
set_option maxRecDepth 100000 in
theorem lifted (os : Os) (started : os.Started) (H : Type) (enc : TypeId × Value → H) :
    ReturnsInHanded {} Try.checked os 3 .any (Rows.extentPlacesSpec.pre6 enc Try.prog Try.f3 Rows.extentPlacesRow.domain false) (Rows.extentPlacesSpec.post enc Try.prog Try.f3 false true false false) := by
  refine returnsInHanded_of_change (C := Try.checked) own started (by kernel_rfl) Try.func3
    (ChangeSpec.witness6 (enc := enc) (C := Try.checked) false ⟨#[], #[.slice none 0 0, .int .i64 0], []⟩ 8 (by kernel_rfl) (by kernel_rfl) (by kernel_rfl) (by kernel_rfl)) ?_
  intro W base args ds gs before hval0 hW hcnd _
  have hval : ∀ (j : Nat) t v, Try.f3.params[j]? = some t → args[j]? = some v → Value.okWide Try.prog W .any base t v := hval0
  have hW' := hW
  obtain ⟨p, q, hA0, hV, rfl, hfz, hnd⟩ := hW
  have hA : DataW.TrodAll enc Try.prog W 0 (fun _ => true) true Try.f3.params.toList args.toList ds p := hA0
  rw [Try.params3] at hA hval
  obtain ⟨v0, vs0, d0, ds0, p0, q0, hargs, rfl, rfl, h0, r0⟩ := trodAll_cons hA
  obtain ⟨v1, vs1, d1, ds1, p1, q1, rfl, rfl, rfl, h1, r1⟩ := trodAll_cons r0
  obtain ⟨rfl, rfl, rfl⟩ := trodAll_nil r1
  obtain rfl : args = #[v0, v1] := by cases args; simp_all
  obtain ⟨rfl, rfl⟩ := trodVars_none hV
  obtain ⟨a0, len0, cap0, rfl⟩ := okWide_slice Try.underlying22 (hval 0 22 v0 rfl rfl)
  have k0 := h0
  have lt0 : ∀ x ∈ p0, x.block < W.heap.size := by obtain ⟨m, hm⟩ := k0; exact DataW.trod_lt m _ _ _ hm
  obtain ⟨z0, w0⟩ : ∃ zs, IsRow .i64 W a0 len0 cap0 zs := by
    obtain ⟨fuel, hf⟩ := h0
    rcases open_ints Try.underlying22 Try.underlying3 (by kernel_rfl) hf with ⟨hcs, _⟩ | ⟨x, l, c, zs, hcs, _, hl, hm, hz, _, hcell, hwz⟩
    · simp [Value.cells] at hcs
      obtain ⟨rfl, rfl, rfl⟩ := hcs
      exact ⟨[], .inl ⟨rfl, rfl, rfl, rfl⟩⟩
    · simp [Value.cells] at hcs
      obtain ⟨rfl, rfl, rfl⟩ := hcs
      exact ⟨zs, .inr ⟨_, rfl, hl, hm, by simpa using hz, hcell, hwz⟩⟩
  obtain ⟨a1, rfl, rfl, rfl, w1⟩ := open_int Try.underlying3 (hval 1 3 v1 rfl rfl) h1
  clear hA0 hval0
  refine (walk a0 len0 cap0 z0 a1 W w0 w1).mono fun e W' ⟨he, bel⟩ => ?_
  subst he
  exact ⟨_, rfl, _, _, _, [], _, [], hW', trodAll_mk1 (shut_bool Try.underlying4 _), (trodAll_cons_mk (Below.trod laidOut (by kernel_rfl) (of_decide_eq_true (by kernel_rfl)) k0 bel lt0) (trodAll_cons_mk (shut_int Try.underlying3 w1) trodAll_mk0)), rfl, Below.frame bel _, fun h => by cases h⟩

theorem over : Rows.extentPlacesRow.holds Try.pinned (OpenSpec.ofChange Rows.extentPlacesSpec) :=
  OpenClaim.holds_of_wide 3 Try.f3 rfl rfl rfl rfl rfl rfl rfl ⟨rfl, rfl, rfl, rfl, rfl⟩ rfl rfl rfl rfl rfl (by kernel_rfl) Try.func3 (by kernel_rfl)
    (of_decide_eq_true (by kernel_rfl)) (by unfold Func.isWrapper; first | (rw [if_pos (by decide +kernel)]; kernel_rfl) | (rw [if_neg (by decide +kernel)]; exact ⟨rfl, rfl⟩))
    (fun os started H enc _ => lifted os started H enc)

theorem proved : Rows.ExtentPlacesSaid := over


end Go.Proofs.Ytgpnhhfmfdbmdaa.places
