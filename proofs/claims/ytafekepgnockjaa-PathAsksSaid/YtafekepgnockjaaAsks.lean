/-
  For every two texts the program's Name, May, Parts, Depth, Last, Parent, Join, Under and Less answer what the document's own answer is (texts of more than 120 bytes ask the examples alone). No condition.
-/
import Derived.Test.YtafekepgnockjaaRef3
import Derived.Test.YtafekepgnockjaaTold
import Derived.ProofKit
import Derived.OpenShut
import Derived.ShutString
namespace Go.Proofs.Ytafekepgnockjaa.pathAsks
open Go.ChangeShapes Go.WideShapes Go.ChangeAt Go.RowKit
open Go.ChangeMaps (open_string shut_string)
open Pth

theorem own : ownKnob Try.prog.godebug = none := by kernel_rfl

set_option maxRecDepth 100000 in
set_option maxHeartbeats 3200000 in
theorem walk_short (a b : ByteArray) (h1 : a.size ≤ 120) (h2 : b.size ≤ 120) (w : World) :
    Calls Try.prog 3 #[.string a, .string b] w fun e w' => e = .returned (.bool true) ∧ Q w w' := by
  go_enter Try.func3, Try.ntmps3
  go_wp2_with fail
  refine (parent_any a _ (by unfold maxLen; omega)).mono ?_
  rintro e w1 ⟨rfl, hq⟩
  go_wp2_with fail
  refine (rparent_any a _ (by omega)).mono ?_
  rintro e w1 ⟨rfl, q1⟩
  replace hq := hq.trans q1
  clear q1
  go_wp2_with fail
  refine (join_any a b _ (by unfold maxLen; omega) (by unfold maxLen; omega)).mono ?_
  rintro e w1 ⟨rfl, q1⟩
  replace hq := hq.trans q1
  clear q1
  go_wp2_with fail
  refine (rjoin_any a b _ (by omega) (by omega)).mono ?_
  rintro e w1 ⟨rfl, q1⟩
  replace hq := hq.trans q1
  clear q1
  go_wp2_with fail
  refine (told_any _).mono ?_
  rintro e w1 ⟨rfl, q1⟩
  replace hq := hq.trans q1
  clear q1
  go_wp2_with fail
  refine (name_any a _ (by unfold maxLen; omega)).mono ?_
  rintro e w1 ⟨rfl, rfl⟩
  go_wp2_with fail
  refine (rname_any a _ (by unfold maxLen; omega)).mono ?_
  rintro e w1 ⟨rfl, rfl⟩
  go_wp2_with fail
  refine (may_any a _ (by unfold maxLen; omega)).mono ?_
  rintro e w1 ⟨rfl, q1⟩
  replace hq := hq.trans q1
  clear q1
  go_wp2_with fail
  refine (rmay_any a _ (by omega)).mono ?_
  rintro e w1 ⟨rfl, q1⟩
  replace hq := hq.trans q1
  clear q1
  go_wp2_with fail
  refine (parts_any a _ (by unfold maxLen; omega)).mono ?_
  rintro e w1 ⟨v1, rfl, hv1, q1⟩
  replace hq := hq.trans q1
  clear q1
  go_wp2_with fail
  refine (rparts_any a _ (by omega)).mono ?_
  rintro e w1 ⟨v2, rfl, hv2, q2⟩
  replace hq := hq.trans q2
  go_wp2_with fail
  refine (texts_same _ _ _ _ (hv1.keep q2) hv2).mono ?_
  rintro e w1 ⟨rfl, q1⟩
  replace hq := hq.trans q1
  clear q1 hv1 hv2 q2
  go_wp2_with fail
  refine (depth_any a _ (by unfold maxLen; omega)).mono ?_
  rintro e w1 ⟨rfl, q1⟩
  replace hq := hq.trans q1
  clear q1
  go_wp2_with fail
  refine (rdepth_any a _ (by omega)).mono ?_
  rintro e w1 ⟨rfl, q1⟩
  replace hq := hq.trans q1
  clear q1
  go_wp2_with fail
  refine (last_any a _ (by unfold maxLen; omega)).mono ?_
  rintro e w1 ⟨rfl, q1⟩
  replace hq := hq.trans q1
  clear q1
  go_wp2_with fail
  refine (rlast_any a _ (by omega)).mono ?_
  rintro e w1 ⟨rfl, q1⟩
  replace hq := hq.trans q1
  clear q1
  go_wp2_with fail
  refine (under_any a b _ (by unfold maxLen; omega) (by unfold maxLen; omega)).mono ?_
  rintro e w1 ⟨rfl, q1⟩
  replace hq := hq.trans q1
  clear q1
  go_wp2_with fail
  refine (runder_any a b _ (by omega) (by omega)).mono ?_
  rintro e w1 ⟨rfl, q1⟩
  replace hq := hq.trans q1
  clear q1
  go_wp2_with fail
  refine (less_any a b _ (by unfold maxLen; omega) (by unfold maxLen; omega)).mono ?_
  rintro e w1 ⟨rfl, q1⟩
  replace hq := hq.trans q1
  clear q1
  go_wp2_with fail
  refine (rless_any a b _ (by omega) (by omega)).mono ?_
  rintro e w1 ⟨rfl, q1⟩
  replace hq := hq.trans q1
  clear q1
  go_wp2_with fail
  go_ret
  exact ⟨rfl, hq⟩

set_option maxRecDepth 100000 in
set_option maxHeartbeats 800000 in
theorem walk (a0 : ByteArray) (a1 : ByteArray) (w : World) :
    Calls Try.prog 3 #[.string a0, .string a1] w fun e w' => e = .returned (.bool true) ∧ Q w w' := by
  by_cases h1 : a0.size ≤ 120
  · by_cases h2 : a1.size ≤ 120
    · exact walk_short a0 a1 h1 h2 w
    · go_enter Try.func3, Try.ntmps3
      go_wp2_with fail
      refine (told_any _).mono ?_
      rintro e w1 ⟨rfl, q1⟩
      go_wp2_with fail
      go_ret
      exact ⟨rfl, q1⟩
  · go_enter Try.func3, Try.ntmps3
    go_wp2_with fail
    refine (told_any _).mono ?_
    rintro e w1 ⟨rfl, q1⟩
    go_wp2_with fail
    go_ret
    exact ⟨rfl, q1⟩

/-! ### The row -/
set_option maxRecDepth 100000 in
theorem lifted (os : Os) (started : os.Started) (H : Type) (enc : TypeId × Value → H) :
    ReturnsInHanded {} Try.checked os 3 .any (Rows.pathAsksSpec.pre6 enc Try.prog Try.f3 Rows.pathAsksRow.domain false) (Rows.pathAsksSpec.post enc Try.prog Try.f3 false true false false) := by
  refine returnsInHanded_of_change (C := Try.checked) own started (by kernel_rfl) Try.func3
    (ChangeSpec.witness6 (enc := enc) (C := Try.checked) false ⟨#[], #[.string ByteArray.empty, .string ByteArray.empty], []⟩ 8 (by kernel_rfl) (by kernel_rfl) (by kernel_rfl) (by kernel_rfl)) ?_
  intro W base args ds gs before hval0 hW hcnd _
  have hval : ∀ (j : Nat) t v, Try.f3.params[j]? = some t → args[j]? = some v → Value.okWide Try.prog W .any base t v := hval0
  have hW' := hW
  obtain ⟨p, q, hA0, hV, rfl, hfz, hnd⟩ := hW
  have hA : DataW.TrodAll enc Try.prog W 0 (fun _ => true) true Try.f3.params.toList args.toList ds p := hA0
  rw [Try.params3] at hA hval
  obtain ⟨v0, vs0, d0, ds0, p0, q0, hargs, rfl, rfl, h0, r0⟩ := trodAll_cons hA
  obtain ⟨v1, vs1, d1, ds1, p1, q1, rfl, rfl, rfl, h1, r1⟩ := trodAll_cons r0
  obtain ⟨rfl, rfl, rfl⟩ := trodAll_nil r1
  obtain rfl : args = #[v0, v1] := by cases args; simp_all
  obtain ⟨rfl, rfl⟩ := trodVars_none hV
  obtain ⟨a0, rfl, rfl, rfl, w0⟩ := open_string Try.underlying9 (hval 0 9 v0 rfl rfl) h0
  obtain ⟨a1, rfl, rfl, rfl, w1⟩ := open_string Try.underlying9 (hval 1 9 v1 rfl rfl) h1
  clear hA0 hval0
  simp only [List.append_nil] at hW'
  refine (walk a0 a1 W).mono fun e W' ⟨he, bel⟩ => ?_
  subst he
  exact ⟨_, rfl, _, _, _, [], [], [], hW', trodAll_mk1 (shut_bool Try.underlying4 _), (trodAll_cons_mk (shut_string Try.underlying9 w0) (trodAll_cons_mk (shut_string Try.underlying9 w1) trodAll_mk0)), rfl, Below.frame bel _, fun h => by cases h⟩

theorem over : Rows.pathAsksRow.holds Try.pinned (OpenSpec.ofChange Rows.pathAsksSpec) :=
  OpenClaim.holds_of_wide 3 Try.f3 rfl rfl rfl rfl rfl rfl rfl ⟨rfl, rfl, rfl, rfl, rfl⟩ rfl rfl rfl rfl rfl (by kernel_rfl) Try.func3 (by kernel_rfl)
    (of_decide_eq_true (by kernel_rfl)) (by unfold Func.isWrapper; first | (rw [if_pos (by decide +kernel)]; kernel_rfl) | (rw [if_neg (by decide +kernel)]; exact ⟨rfl, rfl⟩))
    (fun os started H enc _ => lifted os started H enc)

theorem proved : Rows.PathAsksSaid := over
end Go.Proofs.Ytafekepgnockjaa.pathAsks
