/-
  For whatever numbers: what Meet hands back has just the places that lie in the extents and in the range, and is its own normal row. No condition.
-/
import Derived.Test.YtgpnhhfmfdbmdaaLawFacts
import Derived.ShutString
import Derived.ChangeOld
import Derived.Deep.DeepCutAuto
namespace Go.Proofs.Ytgpnhhfmfdbmdaa.meets
open Go.ChangeShapes Go.WideShapes Go.ChangeAt Go.RowKit
open Go.ChangeMaps (open_string shut_string)
open Rng

theorem own : ownKnob Try.prog.godebug = none := by kernel_rfl
theorem laidOut : laidOutB Try.prog = true := by kernel_rfl

set_option maxRecDepth 100000 in
set_option maxHeartbeats 4000000 in
theorem walk (a : Option Addr) (len cap : Nat) (zs : List Int) (u v : Int) (w : World) (hr : IsRow .i64 w a len cap zs) (_ : (Lit.int .i64 u).wf = true) (_ : (Lit.int .i64 v).wf = true) :
    Calls Try.prog 4 #[.slice a len cap, .int .i64 u, .int .i64 v] w fun e w' => e = .returned (.bool true) ∧ Q w w' := by
  obtain ⟨x, hx⟩ : ∃ x : Nat, (IntKind.u64.wrap u).tmod 300 = (x : Int) := ⟨_, (Int.toNat_of_nonneg (Int.tmod_nonneg _ (wrap_u64_nonneg u))).symm⟩
  obtain ⟨y, hy⟩ : ∃ y : Nat, (IntKind.u64.wrap v).tmod 100 = (y : Int) := ⟨_, (Int.toNat_of_nonneg (Int.tmod_nonneg _ (wrap_u64_nonneg v))).symm⟩
  have lx : x < 300 := by
    have := Int.emod_lt_of_pos (IntKind.u64.wrap u) (show (0 : Int) < 300 by omega)
    rw [Int.tmod_eq_emod_of_nonneg (wrap_u64_nonneg u)] at hx
    omega
  have ly : y < 100 := by
    have := Int.emod_lt_of_pos (IntKind.u64.wrap v) (show (0 : Int) < 100 by omega)
    rw [Int.tmod_eq_emod_of_nonneg (wrap_u64_nonneg v)] at hy
    omega
  go_enter Try.func4, Try.ntmps4
  go_wp2_with fail
  refine (row_any a len cap zs _ hr).mono ?_
  rintro e w1 ⟨va, l, rfl, hown1, hq1, hl20, Hsm⟩
  have hua : Upto M l := small_max Hsm.out
  have hxa := ExtsAt.of_own hown1
  clear hown1 hr
  go_wp2_with fail
  refine (meet_any va l (x : Int) (y : Int) _ hxa hua.ok (by omega)).mono ?_
  rintro e w2 ⟨vm, m, rfl, hown2, hq2, Hm⟩
  replace Hm : Hid (IsMeet l x (x + y) m) := by
    have := Hm.out
    rwa [limN_nat x (by unfold M; omega), limN_nat y (by unfold M; omega)] at this
  have hml : m.length ≤ 20 := by have := Hm.out.2.2.2; omega
  have hxm := ExtsAt.of_own hown2
  replace hxa := hxa.keep hq2
  replace hq1 := hq1.trans hq2
  have hum : Hid (Upto M m) := Hm.out.2.1
  have hua := Lib.hid hua
  clear hown2 hq2 Hsm hx hy
  go_wp2
  go_loopw [11] (fun i wr => ∃ p : Nat, i = .int .i64 p ∧ p ≤ 300 ∧ Q w2 wr) (fun i _ => 300 - (intOf i).toNat)
  case atStart => exact ⟨0, rfl, by omega, Q.refl _⟩
  case round =>
    obtain ⟨p, rfl, hp, hq⟩ := hrel
    by_cases hlt : p < 300
    · have Hh : Hid (hasB m p = (hasB l p && decide (x ≤ p) && decide (p < x + y))) := has_meet hua.out Hm.out p
      go_wp2_with fail
      refine (has_any vm m p _ (hxm.keep hq) hum.out.ok).mono ?_
      rintro e w3 ⟨rfl, hq3⟩
      go_wp2_with fail
      refine (has_any va l p _ ((hxa.keep hq).keep hq3) hua.out.ok).mono ?_
      rintro e w4 ⟨rfl, hq4⟩
      have hq5 := (hq.trans hq3).trans hq4
      clear hq hq3 hq4
      cases hb : hasB l p
      · have E1 : hasB m p = false := by rw [Hh.out, hb]; rfl
        rw [E1]
        clear hb Hh E1
        go_wp2
        go_roundw
        case rel => exact ⟨p + 1, by go_num, by omega, hq5⟩
        case measure => simp [intOf]; omega
      · by_cases h1 : x ≤ p
        · have t1 : decide ((x : Int) ≤ (p : Int)) = true := decide_eq_true (by omega)
          by_cases h2 : p < x + y
          · have t2 : decide ((p : Int) < (x : Int) + (y : Int)) = true := decide_eq_true (by omega)
            have E1 : hasB m p = true := by rw [Hh.out, hb, decide_eq_true h1, decide_eq_true h2]; rfl
            rw [E1]
            clear hb Hh E1
            go_wp2
            go_roundw
            case rel => exact ⟨p + 1, by go_num, by omega, hq5⟩
            case measure => simp [intOf]; omega
          · have t2 : decide ((p : Int) < (x : Int) + (y : Int)) = false := decide_eq_false (by omega)
            have E1 : hasB m p = false := by rw [Hh.out, hb, decide_eq_true h1, decide_eq_false h2]; rfl
            rw [E1]
            clear hb Hh E1
            go_wp2
            go_roundw
            case rel => exact ⟨p + 1, by go_num, by omega, hq5⟩
            case measure => simp [intOf]; omega
        · have t1 : decide ((x : Int) ≤ (p : Int)) = false := decide_eq_false (by omega)
          have E1 : hasB m p = false := by rw [Hh.out, hb, decide_eq_false h1]; rfl
          rw [E1]
          clear hb Hh E1
          go_wp2
          go_roundw
          case rel => exact ⟨p + 1, by go_num, by omega, hq5⟩
          case measure => simp [intOf]; omega
    · go_wp2_with fail
      refine (told_any _).mono ?_
      rintro e w3 ⟨rfl, hq3⟩
      replace hq := hq.trans hq3
      clear hq3
      go_wp2_with fail
      refine (norm_any vm m _ (hxm.keep hq) hum.out.ok (by omega)).mono ?_
      rintro e w4 ⟨vn, n, rfl, hown4, hq4, Hn⟩
      obtain rfl := norm_self Hm.out.1 hum.out Hn.out
      replace hq := hq.trans hq4
      clear hq4
      go_wp2_with fail
      refine (same_any vn vm n n _ (ExtsAt.of_own hown4) (hxm.keep hq) hum.out.ok hum.out.ok).mono ?_
      rintro e w5 ⟨rfl, hq5⟩
      rw [decide_self]
      clear hown4
      go_wp2
      go_ret
      exact ⟨rfl, (hq1.trans hq).trans hq5⟩

/-! ### The row -/
set_option maxRecDepth 100000 in
theorem lifted (os : Os) (started : os.Started) (H : Type) (enc : TypeId × Value → H) :
    ReturnsInHanded {} Try.checked os 4 .any (Rows.extentMeetsSpec.pre6 enc Try.prog Try.f4 Rows.extentMeetsRow.domain false) (Rows.extentMeetsSpec.post enc Try.prog Try.f4 false true false false) := by
  refine returnsInHanded_of_change (C := Try.checked) own started (by kernel_rfl) Try.func4
    (ChangeSpec.witness6 (enc := enc) (C := Try.checked) false ⟨#[], #[.slice none 0 0, .int .i64 0, .int .i64 0], []⟩ 8 (by kernel_rfl) (by kernel_rfl) (by kernel_rfl) (by kernel_rfl)) ?_
  intro W base args ds gs before hval0 hW hcnd _
  have hval : ∀ (j : Nat) t v, Try.f4.params[j]? = some t → args[j]? = some v → Value.okWide Try.prog W .any base t v := hval0
  have hW' := hW
  obtain ⟨p, q, hA0, hV, rfl, hfz, hnd⟩ := hW
  have hA : DataW.TrodAll enc Try.prog W 0 (fun _ => true) true Try.f4.params.toList args.toList ds p := hA0
  rw [Try.params4] at hA hval
  obtain ⟨v0, vs0, d0, ds0, p0, q0, hargs, rfl, rfl, h0, r0⟩ := trodAll_cons hA
  obtain ⟨v1, vs1, d1, ds1, p1, q1, rfl, rfl, rfl, h1, r1⟩ := trodAll_cons r0
  obtain ⟨v2, vs2, d2, ds2, p2, q2, rfl, rfl, rfl, h2, r2⟩ := trodAll_cons r1
  obtain ⟨rfl, rfl, rfl⟩ := trodAll_nil r2
  obtain rfl : args = #[v0, v1, v2] := by cases args; simp_all
  obtain ⟨rfl, rfl⟩ := trodVars_none hV
  obtain ⟨a0, len0, cap0, rfl⟩ := okWide_slice Try.underlying22 (hval 0 22 v0 rfl rfl)
  have k0 := h0
  have lt0 : ∀ x ∈ p0, x.block < W.heap.size := by obtain ⟨m, hm⟩ := k0; exact DataW.trod_lt m _ _ _ hm
  obtain ⟨z0, w0⟩ : ∃ zs, IsRow .i64 W a0 len0 cap0 zs := by
    obtain ⟨fuel, hf⟩ := h0
    rcases open_ints Try.underlying22 Try.underlying3 (by kernel_rfl) hf with ⟨hcs, _⟩ | ⟨x, l, c, zs, hcs, _, hl, hm, hz, _, hcell, hwz⟩
    · simp [Value.cells] at hcs
      obtain ⟨rfl, rfl, rfl⟩ := hcs
      exact ⟨[], .inl ⟨rfl, rfl, rfl, rfl⟩⟩
    · simp [Value.cells] at hcs
      obtain ⟨rfl, rfl, rfl⟩ := hcs
      exact ⟨zs, .inr ⟨_, rfl, hl, hm, by simpa using hz, hcell, hwz⟩⟩
  obtain ⟨a1, rfl, rfl, rfl, w1⟩ := open_int Try.underlying3 (hval 1 3 v1 rfl rfl) h1
  obtain ⟨a2, rfl, rfl, rfl, w2⟩ := open_int Try.underlying3 (hval 2 3 v2 rfl rfl) h2
  clear hA0 hval0
  refine (walk a0 len0 cap0 z0 a1 a2 W w0 w1 w2).mono fun e W' ⟨he, bel⟩ => ?_
  subst he
  exact ⟨_, rfl, _, _, _, [], _, [], hW', trodAll_mk1 (shut_bool Try.underlying4 _), (trodAll_cons_mk (Below.trod laidOut (by kernel_rfl) (of_decide_eq_true (by kernel_rfl)) k0 bel lt0) (trodAll_cons_mk (shut_int Try.underlying3 w1) (trodAll_cons_mk (shut_int Try.underlying3 w2) trodAll_mk0))), rfl, Below.frame bel _, fun h => by cases h⟩

theorem over : Rows.extentMeetsRow.holds Try.pinned (OpenSpec.ofChange Rows.extentMeetsSpec) :=
  OpenClaim.holds_of_wide 4 Try.f4 rfl rfl rfl rfl rfl rfl rfl ⟨rfl, rfl, rfl, rfl, rfl⟩ rfl rfl rfl rfl rfl (by kernel_rfl) Try.func4 (by kernel_rfl)
    (of_decide_eq_true (by kernel_rfl)) (by unfold Func.isWrapper; first | (rw [if_pos (by decide +kernel)]; kernel_rfl) | (rw [if_neg (by decide +kernel)]; exact ⟨rfl, rfl⟩))
    (fun os started H enc _ => lifted os started H enc)

theorem proved : Rows.ExtentMeetsSaid := over


end Go.Proofs.Ytgpnhhfmfdbmdaa.meets
