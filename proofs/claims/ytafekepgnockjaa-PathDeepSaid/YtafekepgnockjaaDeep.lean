/-
  For every two numbers: a path of up to twelve equal names of 1 to 20 bytes is valid exactly if it has at most eight names and at most a hundred bytes; Depth and Parts agree. No condition.
-/
import Derived.Test.YtafekepgnockjaaTold
import Derived.Test.YtafekepgnockjaaJoined
import Derived.ProofKit
import Derived.OpenShut
import Derived.ShutString
import Derived.Deep.DeepCutAuto
namespace Go.Proofs.Ytafekepgnockjaa.pathDeep
open Go.ChangeShapes Go.WideShapes Go.ChangeAt Go.RowKit
open Go.ChangeMaps (open_string shut_string)
open Pth

theorem own : ownKnob Try.prog.godebug = none := by kernel_rfl

theorem u64_rem (n d : Int) (hd : 0 < d) (hd2 : d ≤ 1000) : ∃ r : Nat, (r : Int) < d ∧ wrap64 ((IntKind.u64.wrap n).tmod d) = (r : Int) := by
  rw [IntWalk.rem_in _ _ (wrap_u64_nonneg n)]
  have h0 := Int.emod_nonneg (IntKind.u64.wrap n) (show d ≠ 0 by omega)
  have h1 := Int.emod_lt_of_pos (IntKind.u64.wrap n) hd
  generalize IntKind.u64.wrap n % d = x at *
  exact ⟨x.toNat, by omega, by rw [IntWalk.wrap64_in x ⟨by omega, by omega⟩]; omega⟩
def xs20 : ByteArray := ⟨#[120, 120, 120, 120, 120, 120, 120, 120, 120, 120, 120, 120, 120, 120, 120, 120, 120, 120, 120, 120]⟩
theorem xs_name : ∀ m : Nat, m < 21 → 1 ≤ m → nameB (xs20.extract 0 m) = true ∧ (xs20.extract 0 m).size = m := by decide +kernel

/-- k times the name x, with slashes between. -/
def repB (x : ByteArray) (k : Nat) : ByteArray := mkB (joinN (List.replicate k x.data.toList))
theorem repB_zero (x : ByteArray) : repB x 0 = ⟨#[]⟩ := rfl
theorem repB_one (x : ByteArray) : repB x 1 = x := rfl
theorem repB_next (x : ByteArray) (k : Nat) (hk : 0 < k) : repB x (k + 1) = repB x k ++ ⟨#[47]⟩ ++ x := by
  refine bs_eq ?_
  rw [data_app, data_app]
  unfold repB
  rw [mkB_list, mkB_list, show List.replicate (k + 1) x.data.toList = List.replicate k x.data.toList ++ [x.data.toList] from List.replicate_succ', joinN_append _ _ (by cases k with | zero => omega | succ k => simp [List.replicate_succ]) (by simp)]
  simp [joinN]
theorem repB_size (x : ByteArray) (k : Nat) : (repB x k).size = k * (x.size + 1) - 1 := by
  induction k with
  | zero => rw [repB_zero, Nat.zero_mul]; rfl
  | succ k ih =>
    by_cases hk : k = 0
    · subst hk; rw [repB_one]; omega
    · rw [repB_next x k (by omega), ByteArray.size_append, ByteArray.size_append, ih]
      show k * (x.size + 1) - 1 + 1 + x.size = (k + 1) * (x.size + 1) - 1
      rw [Nat.add_mul]
      have : 1 ≤ k * (x.size + 1) := Nat.mul_pos (by omega) (by omega)
      omega
theorem rep_all (x : ByteArray) (k : Nat) (h : nameB x = true) : (List.replicate k x.data.toList).all nameL = true := by
  rw [List.all_eq_true]
  intro a ha
  rw [(List.mem_replicate.1 ha).2]
  exact h
theorem repB_may (x : ByteArray) (k : Nat) (h : nameB x = true) : mayB (repB x k) = (decide ((repB x k).size ≤ 100) && decide (k ≤ 8)) := by
  have := may_joinN _ (rep_all x k h)
  rw [List.length_replicate] at this
  unfold mayB repB
  rw [mkB_list, this, size_mkB]
theorem repB_parts (x : ByteArray) (k : Nat) (h : nameB x = true) (hm : mayB (repB x k) = true) : (partsB (repB x k)).length = k := by
  rw [partsB_len]
  unfold mayB repB at *
  rw [mkB_list] at *
  rw [parts_joinN _ (rep_all x k h) hm, List.length_replicate]

set_option maxRecDepth 100000 in
set_option maxHeartbeats 1600000 in
theorem walk (n : Int) (_ : (Lit.int .i64 n).wf = true) (m : Int) (_ : (Lit.int .i64 m).wf = true) (w : World) :
    Calls Try.prog 7 #[.int .i64 n, .int .i64 m] w fun e w' => e = .returned (.bool true) ∧ Q w w' := by
  go_enter Try.func7, Try.ntmps7
  go_upto_region 1 with (fail)
  go_cut [5, 6] (fun a b wx => w = wx ∧ ∃ k m : Nat, a = .int .i64 k ∧ b = .int .i64 m ∧ k < 13 ∧ 1 ≤ m ∧ m ≤ 20)
  case first =>
    go_wp2_with fail
    go_meet
    obtain ⟨r, h1, h2⟩ := u64_rem n 13 (by omega) (by omega)
    obtain ⟨t, h3, h4⟩ := u64_rem m 20 (by omega) (by omega)
    rw [h2, h4, IntWalk.wrap64_in (1 + (t : Int)) ⟨by omega, by omega⟩]
    exact ⟨rfl, r, 1 + t, rfl, by rw [Int.natCast_add]; rfl, by omega, by omega, by omega⟩
  case rest =>
    obtain ⟨rfl, k, m, rfl, rfl, hk, hm1, hm2⟩ := hcut
    go_upto_region 2 with (fail)
    go_cut [7] (fun a wx => w = wx ∧ ∃ x : ByteArray, a = .string x ∧ x.size = m ∧ Hid (nameB x = true))
    case first =>
      have X := Lib.hid (xs_name m (by omega) hm1)
      go_wp2_with fail
      go_meet
      exact ⟨rfl, _, rfl, X.out.2, X.out.1⟩
    case rest =>
      obtain ⟨rfl, x, rfl, hx, HX⟩ := hcut
      subst hx
      go_wp2_with fail
      go_loop [8, 9] (fun s i => ∃ j : Nat, i = .int .i64 j ∧ j ≤ k ∧ s = .string (repB x j)) (fun _ i => k - (intOf i).toNat)
      case atStart => exact ⟨0, rfl, by omega, rfl⟩
      case round =>
        obtain ⟨j, rfl, hj, rfl⟩ := hrel
        have Z := Lib.hid (repB_size x j)
        have zj : (repB x j).size ≤ 1000 := by
          rw [Z.out]
          have : j * (x.size + 1) ≤ 13 * 21 := Nat.mul_le_mul (by omega) (by omega)
          omega
        by_cases hlt : j < k
        · by_cases h0 : j = 0
          · have E := Lib.hid (repB_one x)
            subst h0
            rw [repB_zero]
            clear Z zj
            go_wp2_with fail
            go_round
            case rel => exact ⟨1, rfl, by omega, by first | rfl | exact congrArg Value.string (bs_eq (by rw [data_app]; rfl))⟩
            case measure => simp [intOf]; omega
          · have E := Lib.hid (repB_next x j (by omega))
            have h0' : 0 < j := by omega
            clear Z h0
            generalize repB x j = s at *
            go_wp2_with fail
            go_round
            case rel => exact ⟨j + 1, by go_num, by omega, congrArg Value.string E.out.symm⟩
            case measure => simp [intOf]; omega
        · obtain rfl : j = k := by omega
          clear Z hlt hj
          have E := Lib.hid (repB_may x j HX.out)
          have F := Lib.hid (repB_parts x j HX.out)
          generalize hs : repB x j = s at *
          clear hs
          by_cases h8 : j ≤ 8
          · by_cases h100 : s.size ≤ 100
            · have M : Hid (mayB s = true) := E.out.trans (by simp [h8, h100])
              have D : Hid (depthB s = (j : Int)) := (depthB_yes s M.out).trans (by rw [F.out M.out])
              go_wp2_with fail
              refine (told_any _).mono ?_
              rintro e w1 ⟨rfl, hq⟩
              go_wp2_with fail
              refine (may_is s true _ (by unfold maxLen; omega) M.out).mono ?_
              rintro e w1 ⟨rfl, q1⟩
              replace hq := hq.trans q1
              clear q1
              go_wp2_with fail
              refine (depth_is s j _ (by unfold maxLen; omega) D.out).mono ?_
              rintro e w1 ⟨rfl, q1⟩
              replace hq := hq.trans q1
              clear q1
              go_wp2_with fail
              refine (parts_any s _ (by unfold maxLen; omega)).mono ?_
              rintro e w1 ⟨v, rfl, hv, q1⟩
              replace hq := hq.trans q1
              clear q1
              obtain ⟨A, c, rfl⟩ := hv.form
              rw [F.out M.out] at *
              go_wp2_with fail
              go_ret
              exact ⟨rfl, hq⟩
            · have M : Hid (mayB s = false) := E.out.trans (by simp [h100])
              have D : Hid (depthB s = -1) := depthB_no s M.out
              have P : Hid (partsB s = []) := partsB_no s M.out
              go_wp2_with fail
              refine (told_any _).mono ?_
              rintro e w1 ⟨rfl, hq⟩
              go_wp2_with fail
              refine (may_is s false _ (by unfold maxLen; omega) M.out).mono ?_
              rintro e w1 ⟨rfl, q1⟩
              replace hq := hq.trans q1
              clear q1
              go_wp2_with fail
              refine (depth_is s (-1) _ (by unfold maxLen; omega) D.out).mono ?_
              rintro e w1 ⟨rfl, q1⟩
              replace hq := hq.trans q1
              clear q1
              go_wp2_with fail
              refine (parts_any s _ (by unfold maxLen; omega)).mono ?_
              rintro e w1 ⟨v, rfl, hv, q1⟩
              replace hq := hq.trans q1
              clear q1
              rw [P.out] at hv
              obtain ⟨A, c, rfl⟩ := hv.form
              go_wp2_with fail
              go_ret
              first | exact ⟨rfl, hq⟩ | exact ⟨ret_bool (by rw [decide_eq_false (by omega)]; rfl), hq⟩
          · have M : Hid (mayB s = false) := E.out.trans (by simp [h8])
            have D : Hid (depthB s = -1) := depthB_no s M.out
            have P : Hid (partsB s = []) := partsB_no s M.out
            go_wp2_with fail
            refine (told_any _).mono ?_
            rintro e w1 ⟨rfl, hq⟩
            go_wp2_with fail
            refine (may_is s false _ (by unfold maxLen; omega) M.out).mono ?_
            rintro e w1 ⟨rfl, q1⟩
            replace hq := hq.trans q1
            clear q1
            go_wp2_with fail
            refine (depth_is s (-1) _ (by unfold maxLen; omega) D.out).mono ?_
            rintro e w1 ⟨rfl, q1⟩
            replace hq := hq.trans q1
            clear q1
            go_wp2_with fail
            refine (parts_any s _ (by unfold maxLen; omega)).mono ?_
            rintro e w1 ⟨v, rfl, hv, q1⟩
            replace hq := hq.trans q1
            clear q1
            rw [P.out] at hv
            obtain ⟨A, c, rfl⟩ := hv.form
            go_wp2_with fail
            go_ret
            exact ⟨rfl, hq⟩

/-! ### The row -/
set_option maxRecDepth 100000 in
theorem lifted (os : Os) (started : os.Started) (H : Type) (enc : TypeId × Value → H) :
    ReturnsInHanded {} Try.checked os 7 .any (Rows.pathDeepSpec.pre6 enc Try.prog Try.f7 Rows.pathDeepRow.domain false) (Rows.pathDeepSpec.post enc Try.prog Try.f7 false true false false) := by
  refine returnsInHanded_of_change (C := Try.checked) own started (by kernel_rfl) Try.func7
    (ChangeSpec.witness6 (enc := enc) (C := Try.checked) false ⟨#[], #[.int .i64 0, .int .i64 0], []⟩ 8 (by kernel_rfl) (by kernel_rfl) (by kernel_rfl) (by kernel_rfl)) ?_
  intro W base args ds gs before hval0 hW hcnd _
  have hval : ∀ (j : Nat) t v, Try.f7.params[j]? = some t → args[j]? = some v → Value.okWide Try.prog W .any base t v := hval0
  have hW' := hW
  obtain ⟨p, q, hA0, hV, rfl, hfz, hnd⟩ := hW
  have hA : DataW.TrodAll enc Try.prog W 0 (fun _ => true) true Try.f7.params.toList args.toList ds p := hA0
  rw [Try.params7] at hA hval
  obtain ⟨v0, vs0, d0, ds0, p0, q0, hargs, rfl, rfl, h0, r0⟩ := trodAll_cons hA
  obtain ⟨v1, vs1, d1, ds1, p1, q1, rfl, rfl, rfl, h1, r1⟩ := trodAll_cons r0
  obtain ⟨rfl, rfl, rfl⟩ := trodAll_nil r1
  obtain rfl : args = #[v0, v1] := by cases args; simp_all
  obtain ⟨rfl, rfl⟩ := trodVars_none hV
  obtain ⟨a0, rfl, rfl, rfl, w0⟩ := open_int Try.underlying3 (hval 0 3 v0 rfl rfl) h0
  obtain ⟨a1, rfl, rfl, rfl, w1⟩ := open_int Try.underlying3 (hval 1 3 v1 rfl rfl) h1
  clear hA0 hval0
  simp only [List.append_nil] at hW'
  refine (walk a0 w0 a1 w1 W).mono fun e W' ⟨he, bel⟩ => ?_
  subst he
  exact ⟨_, rfl, _, _, _, [], [], [], hW', trodAll_mk1 (shut_bool Try.underlying4 _), (trodAll_cons_mk (shut_int Try.underlying3 w0) (trodAll_cons_mk (shut_int Try.underlying3 w1) trodAll_mk0)), rfl, Below.frame bel _, fun h => by cases h⟩

theorem over : Rows.pathDeepRow.holds Try.pinned (OpenSpec.ofChange Rows.pathDeepSpec) :=
  OpenClaim.holds_of_wide 7 Try.f7 rfl rfl rfl rfl rfl rfl rfl ⟨rfl, rfl, rfl, rfl, rfl⟩ rfl rfl rfl rfl rfl (by kernel_rfl) Try.func7 (by kernel_rfl)
    (of_decide_eq_true (by kernel_rfl)) (by unfold Func.isWrapper; first | (rw [if_pos (by decide +kernel)]; kernel_rfl) | (rw [if_neg (by decide +kernel)]; exact ⟨rfl, rfl⟩))
    (fun os started H enc _ => lifted os started H enc)

theorem proved : Rows.PathDeepSaid := over

end Go.Proofs.Ytafekepgnockjaa.pathDeep
