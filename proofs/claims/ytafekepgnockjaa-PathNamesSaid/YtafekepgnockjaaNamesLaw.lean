/-
  For every text: a name is valid exactly if it has 1 to 20 bytes, no slash, no byte 0, and is not one or two dots; Join takes exactly these names, and each is a path of depth 1 (texts of more than 30 bytes ask the examples alone). No condition.
-/
import Derived.Test.YtafekepgnockjaaTold
import Derived.ProofKit
import Derived.OpenShut
import Derived.ShutString
import Derived.Deep.DeepCutAuto
namespace Go.Proofs.Ytafekepgnockjaa.pathNames
open Go.ChangeShapes Go.WideShapes Go.ChangeAt Go.RowKit
open Go.ChangeMaps (open_string shut_string)
open Pth

theorem own : ownKnob Try.prog.godebug = none := by kernel_rfl

theorem vbool {a b : Bool} (h : a = b) : Value.bool a = .bool b := by rw [h]
def headB (s : ByteArray) : Bool := decide (1 ≤ s.size) && decide (s.size ≤ 20) && !(s.toList == [46]) && !(s.toList == [46, 46])
def badTo (s : ByteArray) (k : Nat) : Bool := !(headB s && (s.data.toList.take k).all okByte)
theorem nameB_head (s : ByteArray) : nameB s = (headB s && s.data.toList.all okByte) := by
  unfold nameB nameL headB
  rw [ByteArray.toList_eq, size_list]
theorem badTo_zero (s : ByteArray) : badTo s 0 = !headB s := by unfold badTo; simp
theorem badTo_next (s : ByteArray) (k : Nat) (h : k < s.size) : badTo s (k + 1) = (badTo s k || !okByte s[k]) := by
  unfold badTo
  have hl : k < s.data.toList.length := by rw [size_list]; exact h
  rw [List.take_succ_eq_append_getElem hl, List.all_append]
  have e : s.data.toList[k] = s[k] := rfl
  rw [e]
  cases headB s <;> cases (s.data.toList.take k).all okByte <;> simp
theorem badTo_end (s : ByteArray) (k : Nat) (h : k = s.size) : badTo s k = !nameB s := by
  unfold badTo
  rw [nameB_head, List.take_of_length_le (by rw [size_list]; omega)]
theorem headB_long (s : ByteArray) (h : s.size = 0 ∨ 20 < s.size) : headB s = false := by
  unfold headB
  rcases h with h | h
  · rw [h]; rfl
  · rw [decide_eq_false (p := s.size ≤ 20) (by omega)]; simp
theorem headB_dot (s : ByteArray) (h : s.toList = [46] ∨ s.toList = [46, 46]) : headB s = false := by
  unfold headB
  rcases h with h | h <;> simp [h]
theorem headB_ok (s : ByteArray) (h0 : ¬ s.size = 0) (h1 : ¬ 20 < s.size) (h2 : ¬ s.toList = [46]) (h3 : ¬ s.toList = [46, 46]) : headB s = true := by
  unfold headB
  simp [h2, h3]
  omega

/-! ### A name is a path of depth 1 -/
theorem name_clean {l : List UInt8} (h : nameL l = true) : ∀ c ∈ l, c ≠ 47 := by
  unfold nameL at h
  simp only [Bool.and_eq_true] at h
  intro c hc e
  have := List.all_eq_true.1 h.2 c hc
  subst e
  simp [okByte] at this
theorem name_may {l : List UInt8} (h : nameL l = true) : mayL l = true ∧ partsL l = [l] := by
  have hl := name_long h
  have hc := cutL_none l (name_clean h)
  have h0 : l.isEmpty = false := by cases l with
    | nil => simp at hl
    | cons => rfl
  have hm : mayL l = true := by
    unfold mayL
    rw [h0, hc]
    simp [h]
    omega
  refine ⟨hm, ?_⟩
  unfold partsL
  rw [h0, hm, hc]
  rfl
theorem nameB_may (s : ByteArray) (h : nameB s = true) : mayB s = true ∧ lastB s = s ∧ depthB s = 1 := by
  obtain ⟨h1, h2⟩ := name_may h
  refine ⟨h1, ?_, ?_⟩
  · unfold lastB lastL
    rw [h2]
    exact mkB_data s
  · unfold depthB depthL
    rw [h1, h2]
    rfl
theorem name_join (s : ByteArray) (h : nameB s = true) : joinErrB ⟨#[97]⟩ s = 0 := by
  have hl := name_long h
  have hc := cutL_slash [97] s.data.toList (by simp)
  have hn : nameL [97] = true := by decide
  unfold nameB at h
  rw [cutL_none _ (name_clean h)] at hc
  have hm : mayL (97 :: 47 :: s.data.toList) = true := by
    unfold mayL
    have hc' : cutL (97 :: 47 :: s.data.toList) = [[97], s.data.toList] := hc
    rw [hc', List.all_cons, List.all_cons, h, hn]
    simp at hl ⊢
    omega
  unfold joinErrB joinErrL
  rw [h]
  have e : joinedL (ByteArray.mk #[97]).data.toList s.data.toList = 97 :: 47 :: s.data.toList := rfl
  rw [e, hm]
  rfl

set_option maxRecDepth 100000 in
set_option maxHeartbeats 1600000 in
theorem walk_short (s : ByteArray) (h1 : s.size ≤ 30) (w : World) :
    Calls Try.prog 6 #[.string s] w fun e w' => e = .returned (.bool true) ∧ Q w w' := by
  have E0 := Lib.hid (badTo_zero s)
  go_enter Try.func6, Try.ntmps6
  go_upto_region 3 with (fail)
  go_cut [3] (fun b wx => b = .bool (badTo s 0) ∧ w = wx)
  case first =>
    by_cases g1 : s.size = 0
    · have E := Lib.hid (E0.out.trans (by rw [headB_long s (.inl g1), Bool.not_false]))
      have t1 : ((s.size : Int) == 0) = true := beq_iff_eq.2 (by omega)
      clear g1
      go_wp2_with fail
      go_meet
      exact ⟨vbool E.out.symm, rfl⟩
    have t1 : ((s.size : Int) == 0) = false := beq_eq_false_iff_ne.2 (by omega)
    by_cases g2 : 20 < s.size
    · have E := Lib.hid (E0.out.trans (by rw [headB_long s (.inr g2), Bool.not_false]))
      go_wp2_with fail
      go_meet
      exact ⟨vbool E.out.symm, rfl⟩
    by_cases g3 : s.toList = [46]
    · have E := Lib.hid (E0.out.trans (by rw [headB_dot s (.inl g3), Bool.not_false]))
      have t3 : (s.toList == [46]) = true := beq_iff_eq.2 g3
      clear g3
      go_wp2_with fail
      go_meet
      exact ⟨vbool E.out.symm, rfl⟩
    have t3 : (s.toList == [46]) = false := beq_eq_false_iff_ne.2 g3
    by_cases g4 : s.toList = [46, 46]
    · have E := Lib.hid (E0.out.trans (by rw [headB_dot s (.inr g4), Bool.not_false]))
      have t4 : (s.toList == [46, 46]) = true := beq_iff_eq.2 g4
      clear g3 g4
      go_wp2_with fail
      go_meet
      exact ⟨vbool E.out.symm, rfl⟩
    have t4 : (s.toList == [46, 46]) = false := beq_eq_false_iff_ne.2 g4
    have E := Lib.hid (E0.out.trans (by rw [headB_ok s g1 g2 g3 g4, Bool.not_true]))
    clear g3 g4
    go_wp2_with fail
    go_meet
    exact ⟨vbool ((decide_eq_false (by omega)).trans E.out.symm), rfl⟩
  case rest =>
    obtain ⟨rfl, rfl⟩ := hcut
    go_wp2_with fail
    go_loop [3, 4] (fun b i => ∃ k : Nat, i = .int .i64 k ∧ k ≤ s.size ∧ b = .bool (badTo s k)) (fun _ i => s.size - (intOf i).toNat)
    case atStart => exact ⟨0, rfl, by omega, rfl⟩
    case round =>
      obtain ⟨k, rfl, hk, rfl⟩ := hrel
      by_cases hlt : k < s.size
      · have E := Lib.hid (badTo_next s k hlt)
        cases hb : badTo s k
        · rw [hb, Bool.false_or] at E
          clear hb
          by_cases hc : s[k] = 47
          · have t2 : ((s[k].toNat : Int) == 47) = true := u8_eq 47 hc
            have E := Lib.hid (E.out.trans (by simp [okByte, hc] : (!okByte s[k]) = true))
            clear hc
            go_wp2_with fail
            go_round
            case rel => exact ⟨k + 1, by go_num, hlt, by rw [E.out]⟩
            case measure => simp [intOf]; omega
          have t2 : ((s[k].toNat : Int) == 47) = false := u8_ne 47 hc
          by_cases hd : s[k] = 0
          · have t3 : ((s[k].toNat : Int) == 0) = true := u8_eq 0 hd
            have E := Lib.hid (E.out.trans (by simp [okByte, hd] : (!okByte s[k]) = true))
            clear hc hd
            go_wp2_with fail
            go_round
            case rel => exact ⟨k + 1, by go_num, hlt, by rw [E.out]⟩
            case measure => simp [intOf]; omega
          have t3 : ((s[k].toNat : Int) == 0) = false := u8_ne 0 hd
          have E := Lib.hid (E.out.trans (by simp [okByte, hc, hd] : (!okByte s[k]) = false))
          clear hc hd
          go_wp2_with fail
          go_round
          case rel => exact ⟨k + 1, by go_num, hlt, by rw [E.out]⟩
          case measure => simp [intOf]; omega
        · rw [hb, Bool.true_or] at E
          clear hb
          go_wp2_with fail
          go_round
          case rel => exact ⟨k + 1, by go_num, hlt, by rw [E.out]⟩
          case measure => simp [intOf]; omega
      · rw [badTo_end s k (by omega)]
        cases hn : nameB s
        · rw [Bool.not_false]
          have HJ : Hid (∀ a : ByteArray, joinErrB a s = 1 ∧ joinB a s = ⟨#[]⟩) := fun a => joinB_bad a s (.inr hn)
          have HN := Lib.hid hn
          clear hn
          go_wp2_with fail
          refine (join_is _ s _ 1 _ (by unfold maxLen; decide) (by unfold maxLen; omega) rfl (HJ.out _).1).mono ?_
          rintro e w1 ⟨rfl, hq⟩
          go_wp2_with fail
          refine (told_any _).mono ?_
          rintro e w1 ⟨rfl, q1⟩
          replace hq := hq.trans q1
          clear q1
          go_wp2_with fail
          refine (name_is s false _ (by unfold maxLen; omega) HN.out).mono ?_
          rintro e w1 ⟨rfl, q1⟩
          replace hq := hq.trans q1
          clear q1
          go_wp2_with fail
          go_ret
          exact ⟨rfl, hq⟩
        · rw [Bool.not_true]
          have HJ := Lib.hid (name_join s hn)
          have HM := Lib.hid (nameB_may s hn)
          have HN := Lib.hid hn
          clear hn
          go_wp2_with fail
          refine (join_is _ s _ 0 _ (by unfold maxLen; decide) (by unfold maxLen; omega) rfl HJ.out).mono ?_
          rintro e w1 ⟨rfl, hq⟩
          go_wp2_with fail
          refine (told_any _).mono ?_
          rintro e w1 ⟨rfl, q1⟩
          replace hq := hq.trans q1
          clear q1
          go_wp2_with fail
          refine (name_is s true _ (by unfold maxLen; omega) HN.out).mono ?_
          rintro e w1 ⟨rfl, q1⟩
          replace hq := hq.trans q1
          clear q1
          go_wp2_with fail
          refine (may_is s true _ (by unfold maxLen; omega) HM.out.1).mono ?_
          rintro e w1 ⟨rfl, q1⟩
          replace hq := hq.trans q1
          clear q1
          go_wp2_with fail
          refine (last_is s s _ (by unfold maxLen; omega) HM.out.2.1).mono ?_
          rintro e w1 ⟨rfl, q1⟩
          replace hq := hq.trans q1
          clear q1
          go_wp2_with fail
          refine (depth_is s 1 _ (by unfold maxLen; omega) HM.out.2.2).mono ?_
          rintro e w1 ⟨rfl, q1⟩
          replace hq := hq.trans q1
          clear q1
          go_wp2_with fail
          go_ret
          exact ⟨rfl, hq⟩

set_option maxHeartbeats 800000 in
theorem walk (s : ByteArray) (_ : s.size ≤ maxLen) (w : World) :
    Calls Try.prog 6 #[.string s] w fun e w' => e = .returned (.bool true) ∧ Q w w' := by
  by_cases h1 : s.size ≤ 30
  · exact walk_short s h1 w
  · go_enter Try.func6, Try.ntmps6
    go_wp2_with fail
    refine (told_any _).mono ?_
    rintro e w1 ⟨rfl, q1⟩
    go_wp2_with fail
    go_ret
    exact ⟨rfl, q1⟩

/-! ### The row -/
set_option maxRecDepth 100000 in
theorem lifted (os : Os) (started : os.Started) (H : Type) (enc : TypeId × Value → H) :
    ReturnsInHanded {} Try.checked os 6 .any (Rows.pathNamesSpec.pre6 enc Try.prog Try.f6 Rows.pathNamesRow.domain false) (Rows.pathNamesSpec.post enc Try.prog Try.f6 false true false false) := by
  refine returnsInHanded_of_change (C := Try.checked) own started (by kernel_rfl) Try.func6
    (ChangeSpec.witness6 (enc := enc) (C := Try.checked) false ⟨#[], #[.string ByteArray.empty], []⟩ 8 (by kernel_rfl) (by kernel_rfl) (by kernel_rfl) (by kernel_rfl)) ?_
  intro W base args ds gs before hval0 hW hcnd _
  have hval : ∀ (j : Nat) t v, Try.f6.params[j]? = some t → args[j]? = some v → Value.okWide Try.prog W .any base t v := hval0
  have hW' := hW
  obtain ⟨p, q, hA0, hV, rfl, hfz, hnd⟩ := hW
  have hA : DataW.TrodAll enc Try.prog W 0 (fun _ => true) true Try.f6.params.toList args.toList ds p := hA0
  rw [Try.params6] at hA hval
  obtain ⟨v0, vs0, d0, ds0, p0, q0, hargs, rfl, rfl, h0, r0⟩ := trodAll_cons hA
  obtain ⟨rfl, rfl, rfl⟩ := trodAll_nil r0
  obtain rfl : args = #[v0] := by cases args; simp_all
  obtain ⟨rfl, rfl⟩ := trodVars_none hV
  obtain ⟨a0, rfl, rfl, rfl, w0⟩ := open_string Try.underlying9 (hval 0 9 v0 rfl rfl) h0
  clear hA0 hval0
  simp only [List.append_nil] at hW'
  refine (walk a0 w0 W).mono fun e W' ⟨he, bel⟩ => ?_
  subst he
  exact ⟨_, rfl, _, _, _, [], [], [], hW', trodAll_mk1 (shut_bool Try.underlying4 _), (trodAll_cons_mk (shut_string Try.underlying9 w0) trodAll_mk0), rfl, Below.frame bel _, fun h => by cases h⟩

theorem over : Rows.pathNamesRow.holds Try.pinned (OpenSpec.ofChange Rows.pathNamesSpec) :=
  OpenClaim.holds_of_wide 6 Try.f6 rfl rfl rfl rfl rfl rfl rfl ⟨rfl, rfl, rfl, rfl, rfl⟩ rfl rfl rfl rfl rfl (by kernel_rfl) Try.func6 (by kernel_rfl)
    (of_decide_eq_true (by kernel_rfl)) (by unfold Func.isWrapper; first | (rw [if_pos (by decide +kernel)]; kernel_rfl) | (rw [if_neg (by decide +kernel)]; exact ⟨rfl, rfl⟩))
    (fun os started H enc _ => lifted os started H enc)

theorem proved : Rows.PathNamesSaid := over

end Go.Proofs.Ytafekepgnockjaa.pathNames
