/-
  For every generated path of one to eight names: joining its Parent and its Last name gives the path again, Depth is one more than the Parent's, and the path lies under each of its ancestors but not they under it. No condition.
-/
import Derived.Test.YtafekepgnockjaaJoinFacts
import Derived.OpenShut
import Derived.ShutString
import Derived.ChangeOld
namespace Go.Proofs.Ytafekepgnockjaa.pathJoins
open Go.ChangeShapes Go.WideShapes Go.ChangeAt Go.RowKit
open Go.ChangeMaps (open_string shut_string)
open Pth

theorem own : ownKnob Try.prog.godebug = none := by kernel_rfl
theorem laidOut : laidOutB Try.prog = true := by kernel_rfl

/-- All that is asked of a path of j + 1 names and its parent. -/
structure Facts (p up l : ByteArray) (j : Nat) : Prop where
  parent : parentB p = up ∧ hasParentB p = true
  last : lastB p = l
  join : joinErrB up l = 0 ∧ joinB up l = p
  depth : depthB p = (j : Int) + 1
  updepth : depthB up = (j : Int)
  less : lessB up p = true
  ne : p.toList.isEmpty = false
theorem facts {ns : List (List UInt8)} (h : Good ns) (j : Nat) (hj : ns.length = j + 1) : Facts (preB ns (j + 1)) (preB ns j) (mkB ns[j]) j :=
  ⟨pre_parent h j (by omega), pre_last h j (by omega), pre_join h j (by omega), by rw [pre_depth h _ (by omega)]; rfl, pre_depth h j (by omega), by have := pre_less h j (by omega); rwa [hj] at this, by rw [pre_empty h _ (by omega)]; rfl⟩

set_option maxRecDepth 100000 in
set_option maxHeartbeats 3200000 in
theorem walk (a0 : Option Addr) (len0 cap0 : Nat) (z0 : List Int) (w : World) (w0 : IsRow .i64 w a0 len0 cap0 z0) :
    Calls Try.prog 4 #[.slice a0 len0 cap0] w fun e w' => e = .returned (.bool true) ∧ Q w w' := by
  have l0 := w0.le
  go_enter Try.func4, Try.ntmps4
  go_wp2_with fail
  refine (made_any _ _ _ z0 8 _ w0 (by omega)).mono ?_
  rintro e v1 ⟨rfl, hq⟩
  obtain ⟨hg, hl, he⟩ := made_pre z0 (min len0 8) (by omega) (by omega)
  rw [he]
  clear he w0 l0
  generalize madeN z0 (min len0 8) = ns at *
  generalize min len0 8 = k at *
  subst hl
  have HG := Lib.hid hg
  have h8 := hg.eight
  clear hg
  by_cases h0 : ns.length = 0
  · have t1 : (preB ns ns.length).toList.isEmpty = true := by rw [pre_empty HG.out _ (by omega)]; exact decide_eq_true h0
    clear h0
    go_wp2_with fail
    refine (told_any _).mono ?_
    rintro e v1 ⟨rfl, q1⟩
    go_wp2_with fail
    go_ret
    exact ⟨rfl, hq.trans q1⟩
  obtain ⟨j, hj⟩ : ∃ j, ns.length = j + 1 := ⟨ns.length - 1, by omega⟩
  obtain ⟨l, F0, sl⟩ : ∃ l, Facts (preB ns (j + 1)) (preB ns j) l j ∧ l.size ≤ 100 := by
    refine ⟨_, facts HG.out j hj, ?_⟩
    have := (name_pos (List.all_eq_true.1 HG.out.names _ (List.getElem_mem (show j < ns.length by omega)))).2
    rw [size_mkB]
    omega
  have F := Lib.hid F0
  clear F0
  have t1 := F.out.ne
  rw [hj]
  have HL := Lib.hid hj
  have hj8 : j + 1 ≤ 8 := by omega
  clear hj h0
  have sp := pre_size HG.out (j + 1)
  have su := pre_size HG.out j
  have U0 : Hid (∀ m : Nat, m ≤ j → underB (preB ns (j + 1)) (preB ns m) = true ∧ underB (preB ns m) (preB ns (j + 1)) = false) := fun m hm => by
    have hl := HL.out
    rw [pre_under HG.out _ _ (by omega) (by omega), pre_under HG.out _ _ (by omega) (by omega)]
    exact ⟨decide_eq_true (by omega), decide_eq_false (by omega)⟩
  have U1 : Hid (underB (preB ns (j + 1)) (preB ns (j + 1)) = true) := by
    have hl := HL.out
    exact (pre_under HG.out _ _ (by omega) (by omega)).trans (decide_eq_true (by omega))
  have S : Hid (∀ m : Nat, (preB ns m).size ≤ 100) := pre_size HG.out
  have PN : Hid (∀ m : Nat, m < j → parentB (preB ns (m + 1)) = preB ns m ∧ hasParentB (preB ns (m + 1)) = true) := fun m hm => pre_parent HG.out m (by have hl := HL.out; omega)
  have PE : Hid (preB ns 0 = ⟨#[]⟩) := rfl
  generalize hp : preB ns (j + 1) = p at *
  clear hp HL h8
  go_wp2_with fail
  refine (parent_is p (preB ns j) true _ (by unfold maxLen; omega) F.out.parent.1 F.out.parent.2).mono ?_
  rintro e v1 ⟨rfl, q1⟩
  replace hq := hq.trans q1
  clear q1
  go_wp2_with fail
  refine (last_is p l _ (by unfold maxLen; omega) F.out.last).mono ?_
  rintro e v1 ⟨rfl, q1⟩
  replace hq := hq.trans q1
  clear q1
  go_wp2_with fail
  refine (join_is _ l p 0 _ (by unfold maxLen; omega) (by unfold maxLen; omega) F.out.join.2 F.out.join.1).mono ?_
  rintro e v1 ⟨rfl, q1⟩
  replace hq := hq.trans q1
  clear q1
  go_wp2_with fail
  refine (depth_is _ (j : Int) _ (by unfold maxLen; omega) F.out.updepth).mono ?_
  rintro e v1 ⟨rfl, q1⟩
  replace hq := hq.trans q1
  clear q1
  go_wp2_with fail
  refine (depth_is p ((j : Int) + 1) _ (by unfold maxLen; omega) F.out.depth).mono ?_
  rintro e v1 ⟨rfl, q1⟩
  replace hq := hq.trans q1
  clear q1
  go_wp2_with fail
  refine (less_is _ p true _ (by unfold maxLen; omega) (by unfold maxLen; omega) F.out.less).mono ?_
  rintro e v1 ⟨rfl, q1⟩
  replace hq := hq.trans q1
  clear q1
  go_wp2_with fail
  go_loopw [4, 8] (fun u i wr => ∃ n m : Nat, i = .int .i64 n ∧ u = .string (preB ns m) ∧ n + m = j ∧ Q w wr) (fun u i _ => 9 - (intOf i).toNat)
  case atStart => exact ⟨0, j, rfl, rfl, by omega, hq⟩
  case round =>
    clear hq
    obtain ⟨n, m, rfl, rfl, hm, hq⟩ := hrel
    have sm := S.out m
    have hn9 : n < 9 := by omega
    go_wp2_with fail
    refine (under_is p (preB ns m) true _ (by unfold maxLen; omega) (by unfold maxLen; omega) (U0.out m (by omega)).1).mono ?_
    rintro e v1 ⟨rfl, q1⟩
    replace hq := hq.trans q1
    clear q1
    go_wp2_with fail
    refine (under_is (preB ns m) p false _ (by unfold maxLen; omega) (by unfold maxLen; omega) (U0.out m (by omega)).2).mono ?_
    rintro e v1 ⟨rfl, q1⟩
    replace hq := hq.trans q1
    clear q1
    go_wp2_with fail
    by_cases h0 : m = 0
    · subst h0
      refine (parent_is (preB ns 0) ⟨#[]⟩ false _ (by unfold maxLen; omega) (pre_root ns).2 (pre_root ns).1).mono ?_
      rintro e v1 ⟨rfl, q1⟩
      replace hq := hq.trans q1
      clear q1
      have t2 : (preB ns 0).toList.isEmpty = true := is_empty PE.out
      go_wp2_with fail
      refine (told_any _).mono ?_
      rintro e v1 ⟨rfl, q1⟩
      replace hq := hq.trans q1
      clear q1
      go_wp2_with fail
      refine (under_is p p true _ (by unfold maxLen; omega) (by unfold maxLen; omega) U1.out).mono ?_
      rintro e v1 ⟨rfl, q1⟩
      replace hq := hq.trans q1
      clear q1
      go_wp2_with fail
      go_ret
      exact ⟨rfl, hq⟩
    · obtain ⟨r, rfl⟩ : ∃ r, m = r + 1 := ⟨m - 1, by omega⟩
      refine (parent_is (preB ns (r + 1)) (preB ns r) true _ (by unfold maxLen; omega) (PN.out r (by omega)).1 (PN.out r (by omega)).2).mono ?_
      rintro e v1 ⟨rfl, q1⟩
      replace hq := hq.trans q1
      clear q1
      go_wp2_with fail
      go_roundw
      case rel => exact ⟨n + 1, r, by go_num, rfl, by omega, hq⟩
      case measure => simp [intOf]; omega

/-! ### The row -/
set_option maxRecDepth 100000 in
theorem lifted (os : Os) (started : os.Started) (H : Type) (enc : TypeId × Value → H) :
    ReturnsInHanded {} Try.checked os 4 .any (Rows.pathJoinsSpec.pre6 enc Try.prog Try.f4 Rows.pathJoinsRow.domain false) (Rows.pathJoinsSpec.post enc Try.prog Try.f4 false true false false) := by
  refine returnsInHanded_of_change (C := Try.checked) own started (by kernel_rfl) Try.func4
    (ChangeSpec.witness6 (enc := enc) (C := Try.checked) false ⟨#[], #[.slice none 0 0], []⟩ 8 (by kernel_rfl) (by kernel_rfl) (by kernel_rfl) (by kernel_rfl)) ?_
  intro W base args ds gs before hval0 hW hcnd _
  have hval : ∀ (j : Nat) t v, Try.f4.params[j]? = some t → args[j]? = some v → Value.okWide Try.prog W .any base t v := hval0
  have hW' := hW
  obtain ⟨p, q, hA0, hV, rfl, hfz, hnd⟩ := hW
  have hA : DataW.TrodAll enc Try.prog W 0 (fun _ => true) true Try.f4.params.toList args.toList ds p := hA0
  rw [Try.params4] at hA hval
  obtain ⟨v0, vs0, d0, ds0, p0, q0, hargs, rfl, rfl, h0, r0⟩ := trodAll_cons hA
  obtain ⟨rfl, rfl, rfl⟩ := trodAll_nil r0
  obtain rfl : args = #[v0] := by cases args; simp_all
  obtain ⟨rfl, rfl⟩ := trodVars_none hV
  obtain ⟨a0, len0, cap0, rfl⟩ := okWide_slice Try.underlying34 (hval 0 34 v0 rfl rfl)
  have k0 := h0
  have lt0 : ∀ x ∈ p0, x.block < W.heap.size := by obtain ⟨m, hm⟩ := k0; exact DataW.trod_lt m _ _ _ hm
  obtain ⟨z0, w0⟩ : ∃ zs, IsRow .i64 W a0 len0 cap0 zs := by
    obtain ⟨fuel, hf⟩ := h0
    rcases open_ints Try.underlying34 Try.underlying3 (by kernel_rfl) hf with ⟨hcs, _⟩ | ⟨x, l, c, zs, hcs, _, hl, hm, hz, _, hcell, hwz⟩
    · simp [Value.cells] at hcs
      obtain ⟨rfl, rfl, rfl⟩ := hcs
      exact ⟨[], .inl ⟨rfl, rfl, rfl, rfl⟩⟩
    · simp [Value.cells] at hcs
      obtain ⟨rfl, rfl, rfl⟩ := hcs
      exact ⟨zs, .inr ⟨_, rfl, hl, hm, by simpa using hz, hcell, hwz⟩⟩
  clear hA0 hval0
  refine (walk a0 len0 cap0 z0 W w0).mono fun e W' ⟨he, bel⟩ => ?_
  subst he
  exact ⟨_, rfl, _, _, _, [], _, [], hW', trodAll_mk1 (shut_bool Try.underlying4 _), (trodAll_cons_mk (Below.trod laidOut (by kernel_rfl) (of_decide_eq_true (by kernel_rfl)) k0 bel lt0) trodAll_mk0), rfl, Below.frame bel _, fun h => by cases h⟩

theorem over : Rows.pathJoinsRow.holds Try.pinned (OpenSpec.ofChange Rows.pathJoinsSpec) :=
  OpenClaim.holds_of_wide 4 Try.f4 rfl rfl rfl rfl rfl rfl rfl ⟨rfl, rfl, rfl, rfl, rfl⟩ rfl rfl rfl rfl rfl (by kernel_rfl) Try.func4 (by kernel_rfl)
    (of_decide_eq_true (by kernel_rfl)) (by unfold Func.isWrapper; first | (rw [if_pos (by decide +kernel)]; kernel_rfl) | (rw [if_neg (by decide +kernel)]; exact ⟨rfl, rfl⟩))
    (fun os started H enc _ => lifted os started H enc)

theorem proved : Rows.PathJoinsSaid := over

end Go.Proofs.Ytafekepgnockjaa.pathJoins
