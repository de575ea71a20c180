/-
  For whatever entries: a normal list may be, is its own, and does not hang on the order; with an error it is empty. Condition: the three tables of packages math/bits and strconv read as the program's text lays them (tied by the card).
-/
import Derived.Test.YtcbgchohcinecaaDoorOpen
import Derived.Test.YtcbgchohcinecaaDoorLaid
namespace Go.Proofs.YtcbgchohcinecaaDoor.norms
open Go.ChangeShapes Go.WideShapes Go.ChangeAt Go.WideMaps Go.WideElems Go.RowKit

theorem rev_step {l : List Ace} {k : Nat} (hk : k < l.length) : (l.take (k + 1)).reverse = l[k] :: (l.take k).reverse := by
  rw [List.take_succ_eq_append_getElem hk, List.reverse_append]
  rfl
theorem ownA_one (w : World) (B : Nat) (hB : B ≤ w.heap.size) (x : Ace) : OwnA (w.alloc (.cells #[.int .i64 x.1, .int .i64 x.2.1, .int .i64 x.2.2] 33)) B (.slice (some ⟨w.heap.size, 0, none⟩) 1 1) [x] :=
  ⟨rfl, .inr ⟨w.heap.size, 1, #[.int .i64 x.1, .int .i64 x.2.1, .int .i64 x.2.2], rfl, hB, by show (w.heap.push _)[w.heap.size]? = _; simp, Nat.le_refl _, by unfold maxLen; omega, rfl, rfl⟩⟩

set_option maxHeartbeats 4000000 in
set_option maxRecDepth 100000 in
theorem walk (v : Value) (l : List Ace) (w : World) (hv : AcesAt w v l) (_hf : ∀ x ∈ l, Fits x) (ht : Tab w) :
    Calls Tryd.prog 4 #[v] w fun e w' => e = .returned (.bool true) ∧ Q w w' := by
  have ll := hv.len
  unfold maxLen at ll
  obtain ⟨A, c, rfl⟩ := hv.form
  by_cases h16 : 16 < l.length
  · have t0 : decide ((16 : Int) < (l.length : Int)) = true := decide_eq_true (by omega)
    clear h16
    go_enter Tryd.func4, Tryd.ntmps4
    go_wp2_with fail
    refine (told_any _ ht).mono ?_
    rintro e w1 ⟨rfl, q1⟩
    go_wp2
    go_ret
    exact ⟨rfl, q1⟩
  have t0 : decide ((16 : Int) < (l.length : Int)) = false := decide_eq_false (by omega)
  go_enter Tryd.func4, Tryd.ntmps4
  go_wp2_with fail
  go_loopw [3, 4] (fun rv iv wr => ∃ (k : Nat) (r : List Ace), iv = .int .i64 k ∧ k ≤ l.length ∧ Q w wr ∧ AcesAt wr rv r ∧ Hid (r = (l.take k).reverse)) (fun _ iv _ => l.length - (intOf iv).toNat)
  case atStart => exact ⟨0, [], rfl, by omega, Q.refl _, AcesAt.nil_ _, rfl⟩
  case round =>
    obtain ⟨k, r, rfl, hk, hq, hr, H⟩ := hrel
    have hrl : r.length ≤ 16 := by rw [H.out, List.length_reverse, List.length_take]; omega
    by_cases hlt : k < l.length
    · obtain ⟨g, o, _, ea, _, _, hc⟩ := (hv.keep hq).at_ (by omega)
      cases ea
      obtain ⟨c1, c2, c3⟩ := hc k hlt
      have E : Hid (l[k] :: r = (l.take (k + 1)).reverse) := by
        show _ = _
        rw [rev_step hlt, H.out]
      clear hc hv H
      generalize l[k] = x at *
      have hsz := hq.size
      go_wp2_with (at_builtin; refine wpList_append_aces rfl (.tmp 25) (.tmp 26) rfl wr.heap.size _ [x] rfl (ownA_one wr _ (Nat.le_refl _) x) _ r rfl (hr.keep ((Q.refl _).alloc _)) (by simp; omega) (by rw [World.size_alloc]; omega) ?_)
      intro v2 w2 hown2 hg2
      try intro _
      have q2 : Q wr w2 := Below.grown ((Q.refl wr).alloc _) hg2 (by rw [World.size_alloc]; omega) fun g hg => by cases hg; exact Nat.le_refl _
      have hx2 : AcesAt w2 v2 (x :: r) := hown2.aces
      clear hg2 hown2
      go_wp2
      go_roundw
      case rel => exact ⟨k + 1, _, by go_num, by omega, hq.trans q2, hx2, E⟩
      case measure => simp [intOf]; omega
    · have P : Hid (l.Perm r) := by
        have := H.out
        rw [List.take_of_length_le (by omega)] at this
        rw [this]
        exact (List.reverse_perm l).symm
      have hvw := hv.keep hq
      clear H
      obtain ⟨cd, hcd⟩ : ∃ cd, normC l = cd := ⟨_, rfl⟩
      obtain ⟨n, hn⟩ : ∃ n, NormR l n := by
        by_cases e : normC l = 0
        · exact ⟨_, norm_exists e⟩
        · exact ⟨[], normR_err e⟩
      have N := Lib.hid hn
      have C := Lib.hid hcd
      clear hn hcd
      go_wp2_with fail
      refine (norm_c _ l n cd _ hvw (by omega) C.out N.out).mono ?_
      rintro e w1 ⟨va, rfl, ha, q1⟩
      replace hr := hr.keep q1
      replace hvw := hvw.keep q1
      replace hq := hq.trans q1
      clear q1
      go_wp2_with fail
      refine (norm_c _ r n cd _ hr (by omega) ((normC_perm P.out).symm.trans C.out) (N.out.perm P.out)).mono ?_
      rintro e w2 ⟨vb, rfl, hb, q2⟩
      replace ha := ha.keep q2
      replace hq := hq.trans q2
      clear q2
      have tc : (cd != cd) = false := by rw [bne_eq_false_iff_eq]
      go_wp2_with fail
      refine (same_c _ _ n n true _ ha hb (by simp)).mono ?_
      rintro e w3 ⟨rfl, q3⟩
      replace ha := ha.keep q3
      replace hq := hq.trans q3
      clear q3 hb
      by_cases e0 : cd = 0
      · subst e0
        obtain ⟨F1, F2, F3, F4⟩ := norm_may N.out C.out
        have L := Lib.hid F4
        have F1' := Lib.hid F1
        have F2' := Lib.hid F2
        have F3' := Lib.hid F3
        clear F1 F2 F3 F4
        go_wp2_with fail
        refine (norm_c _ n n 0 _ ha (by have := L.out; omega) F2'.out F3'.out).mono ?_
        rintro e w4 ⟨vc, rfl, hcx, q4⟩
        replace ha := ha.keep q4
        replace hq := hq.trans q4
        clear q4
        go_wp2_with fail
        refine (told_any _ (ht.keep hq)).mono ?_
        rintro e w5 ⟨rfl, q5⟩
        replace ha := ha.keep q5
        replace hcx := hcx.keep q5
        replace hq := hq.trans q5
        clear q5
        go_wp2_with fail
        refine (may_c _ n true _ ha F1'.out).mono ?_
        rintro e w6 ⟨rfl, q6⟩
        replace ha := ha.keep q6
        replace hcx := hcx.keep q6
        replace hq := hq.trans q6
        clear q6
        go_wp2_with fail
        refine (same_c _ _ n n true _ hcx ha (by simp)).mono ?_
        rintro e w7 ⟨rfl, q7⟩
        obtain ⟨A2, c2, rfl⟩ := ha.form
        have hl := L.out
        go_wp2
        go_ret
        exact ⟨rfl, hq.trans q7⟩
      · have t1 : (cd != 0) = true := bne_iff_ne.2 e0
        obtain rfl : n = [] := N.out.2 (by rw [C.out]; exact e0)
        obtain ⟨A2, c2, rfl⟩ := ha.form
        clear e0
        go_wp2_with fail
        refine (told_any _ (ht.keep hq)).mono ?_
        rintro e w4 ⟨rfl, q4⟩
        go_wp2
        go_ret
        exact ⟨rfl, hq.trans q4⟩

/-! ### The row -/
set_option maxRecDepth 100000 in
theorem lifted (os : Os) (started : os.Started) (H : Type) (enc : TypeId × Value → H) :
    ReturnsInHanded {} Tryd.checked os 4 .any (fun w args => (Rows.aclNormsSpec.pre enc Tryd.prog Tryd.f4 [] false w args ∧ laidMetH Tryd.prog laid3 w) ∧ sizedMet enc Tryd.prog Tryd.f4 (OpenSpec.ofChange Rows.aclNormsSpec) false w args)
      (Rows.aclNormsSpec.post enc Tryd.prog Tryd.f4 false true false false) := by
  refine returnsInHanded_of_change_and (C := Tryd.checked) (X := fun w _ => laidMetH Tryd.prog laid3 w) (fun _ _ _ hh h => h.of_heap hh) own started (by kernel_rfl) Tryd.func4
    (ChangeSpec.witness_shaped (enc := enc) (C := Tryd.checked) (os := os) (X := fun w _ => laidMetH Tryd.prog laid3 w) false (World.doorLaid Tryd.prog 24 os) #[.slice none 0 0] 8 rfl (World.shaped_of_RefB (by kernel_rfl) (by kernel_rfl)) (by kernel_rfl) (by kernel_rfl) (by kernel_rfl) (door_met os _)) ?_
  intro W base args ds gs before hval0 hW _ _ hLd _
  have hval : ∀ (j : Nat) t v, Tryd.f4.params[j]? = some t → args[j]? = some v → Value.okWide Tryd.prog W .any base t v := hval0
  have hW' := hW
  obtain ⟨p, q, hA0, hV, rfl, hfz, hnd⟩ := hW
  have hA : DataW.TrodAll enc Tryd.prog W 0 (fun _ => true) true Tryd.f4.params.toList args.toList ds p := hA0
  rw [Tryd.params4] at hA hval
  obtain ⟨v0, vs0, d0, ds0, p0, q0, hargs, rfl, rfl, h0, r0⟩ := trodAll_cons hA
  obtain ⟨rfl, rfl, rfl⟩ := trodAll_nil r0
  obtain rfl : args = #[v0] := by cases args; simp_all
  obtain ⟨rfl, rfl⟩ := trodVars_none hV
  have tab := tab_of_laid hLd
  obtain ⟨a0, len0, cap0, rfl⟩ := okWide_slice Tryd.underlying22 (hval 0 22 v0 rfl rfl)
  have k0 := h0
  have lt0 : ∀ x ∈ p0, x.block < W.heap.size := by obtain ⟨m, hm⟩ := k0; exact DataW.trod_lt m _ _ _ hm
  obtain ⟨fu0, hf0⟩ := h0
  obtain ⟨z0, w0, f0⟩ := open_aces hf0 rfl
  clear hA0 hval0
  try simp only [List.append_nil] at hW'
  refine (walk _ z0 W w0 f0 tab).mono fun e W' ⟨he, bel⟩ => ?_
  subst he
  exact ⟨_, rfl, _, _, _, [], _, [], hW', trodAll_mk1 (shut_bool Tryd.underlying4 _), (trodAll_cons_mk (Below.trod laidOut (by kernel_rfl) (of_decide_eq_true (by kernel_rfl)) k0 bel lt0) trodAll_mk0), rfl, Below.frame bel _, fun h => by cases h⟩

theorem over : Rows.AclNormsSaid :=
  OpenClaim.holds_of_wide 4 Tryd.f4 rfl rfl rfl rfl rfl rfl rfl ⟨rfl, rfl, rfl, rfl, rfl⟩ rfl rfl rfl rfl rfl (by kernel_rfl) Tryd.func4 (by kernel_rfl)
    (of_decide_eq_true (by kernel_rfl)) (by unfold Func.isWrapper; first | (rw [if_pos (by decide +kernel)]; kernel_rfl) | (rw [if_neg (by decide +kernel)]; exact ⟨rfl, rfl⟩))
    (fun os started H enc _ => lifted os started H enc)

theorem proved : Rows.AclNormsCardSaid :=
  Claim7.holds_tied_plain_at .later [] [.data, .data, .data] true Rows.aclNormsCard.stood.harness false
    over (fun _ h => by cases h) (by kernel_rfl) (fun _ h => by cases h) aclNorms_row_tie rfl ⟨rfl, rfl⟩ (by kernel_rfl) (by kernel_rfl)
    (fun f fn hf hfn => by
      obtain rfl : f = 4 := Option.some.inj ((show Tryd.prog.funcNamed "steamer/steamerlaw3.AclNorms" = some 4 by kernel_rfl).symm.trans hf) |>.symm
      obtain rfl : fn = Tryd.f4 := (Option.some.inj (Tryd.func4.symm.trans hfn)).symm
      exact ⟨by kernel_rfl, fun j t ht => by
        rw [Tryd.params4] at ht
        have hm : t ∈ Tryd.f4.params.toList := by rw [Tryd.params4]; simpa using Array.mem_of_getElem? ht
        have hall : (Tryd.f4.params.toList.all fun u => !Tryd.prog.wantsStandIn u) = true := by kernel_rfl
        exact (show Tryd.prog.wantsStandIn t = false by simpa using List.all_eq_true.1 hall t hm)⟩)
    (by kernel_rfl)

end Go.Proofs.YtcbgchohcinecaaDoor.norms
