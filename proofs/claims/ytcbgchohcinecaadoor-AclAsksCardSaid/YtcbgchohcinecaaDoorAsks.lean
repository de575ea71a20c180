/-
  For whatever entries, mode, owners, asker, groups and ask: May, Norm, Lets, Show and Same return what the document's own functions return. Condition: the three tables of packages math/bits and strconv read as the program's text lays them (tied by the card).
-/
import Derived.Test.YtcbgchohcinecaaDoorOpen
import Derived.Test.YtcbgchohcinecaaDoorLaid
import Derived.Test.YtcbgchohcinecaaDoorNormRef
import Derived.Test.YtcbgchohcinecaaDoorLetsRef
import Derived.Test.YtcbgchohcinecaaDoorShowRef
namespace Go.Proofs.YtcbgchohcinecaaDoor.asks
open Go.ChangeShapes Go.WideShapes Go.ChangeAt Go.WideMaps Go.WideElems Go.RowKit

theorem normRef_c (v : Value) (l r : List Ace) (c : Int) (w : World) (h : AcesAt w v l) (hl : l.length ≤ 30000) (hc : normC l = c) (hr : NormR l r) :
    Calls Tryd.prog 9 #[v] w fun e w' => ∃ v', e = .returned (.tuple #[v', .int .i64 c]) ∧ AcesAt w' v' r ∧ Q w w' := by
  refine (normRef_any v l w h hl).mono ?_
  rintro e w' ⟨v', r', rfl, h1, h2, h3⟩
  exact ⟨v', by rw [hc], by rw [hr.uniq h3]; exact h1, h2⟩
theorem mayRef_c (v : Value) (l : List Ace) (b : Bool) (w : World) (h : AcesAt w v l) (hb : mayB l = b) : Calls Tryd.prog 11 #[v] w fun e w' => e = .returned (.bool b) ∧ Q w w' := by
  refine (mayRef_any v l w h).mono ?_
  rintro e w' ⟨rfl, h1⟩
  exact ⟨by rw [hb], h1.q⟩
theorem letsRef_c (v : Value) (l : List Ace) (mode uid gid who : Int) (vg : Value) (gs : List Int) (ask : Int) (b : Bool) (w : World) (h : AcesAt w v l) (hg : IntsAt w vg gs) (hb : letsL l mode uid gid who gs ask = b) :
    Calls Tryd.prog 14 #[v, .int .i64 mode, .int .i64 uid, .int .i64 gid, .int .i64 who, vg, .int .i64 ask] w fun e w' => e = .returned (.bool b) ∧ Q w w' := by
  refine (letsRef_any v l mode uid gid who vg gs ask w h hg).mono ?_
  rintro e w' ⟨rfl, h1⟩
  exact ⟨by rw [hb], h1⟩
theorem sameRef_c (va vb : Value) (a b : List Ace) (r : Bool) (w : World) (ha : AcesAt w va a) (hb : AcesAt w vb b) (hr : decide (a = b) = r) :
    Calls Tryd.prog 12 #[va, vb] w fun e w' => e = .returned (.bool r) ∧ Q w w' := by
  refine (sameRef_any va vb a b w ha hb).mono ?_
  rintro e w' ⟨rfl, h1⟩
  exact ⟨by rw [hr], h1⟩
theorem show_s (v : Value) (l : List Ace) (s : ByteArray) (w : World) (h : AcesAt w v l) (hl : l.length ≤ 10000) (hF : ∀ x ∈ l, Fits x) (ht : Tab w) (hs : mkB (showL l) = s) :
    Calls Tryd.prog 15 #[v] w fun e w' => e = .returned (.string s) ∧ Q w w' := by
  refine (show_any v l w h hl hF ht).mono ?_
  rintro e w' ⟨rfl, h1⟩
  exact ⟨by rw [← hs]; rfl, h1⟩
theorem showRef_s (v : Value) (l : List Ace) (s : ByteArray) (w : World) (h : AcesAt w v l) (hl : l.length ≤ 10000) (hF : ∀ x ∈ l, Fits x) (hs : mkB (showL l) = s) :
    Calls Tryd.prog 16 #[v] w fun e w' => e = .returned (.string s) ∧ Q w w' := by
  refine (showRef_any v l w h hl hF).mono ?_
  rintro e w' ⟨rfl, h1⟩
  exact ⟨by rw [hs], h1⟩
theorem norm_some (l : List Ace) : ∃ n, NormR l n := by
  by_cases e : normC l = 0
  · exact ⟨_, norm_exists e⟩
  · exact ⟨[], normR_err e⟩

set_option maxHeartbeats 4000000 in
set_option maxRecDepth 100000 in
theorem walk (v : Value) (l : List Ace) (u : Value) (ms : List Ace) (mode uid gid who : Int) (vg : Value) (gs : List Int) (ask : Int) (w : World) (hl : AcesAt w v l) (fl : ∀ x ∈ l, Fits x) (hm : AcesAt w u ms) (_fm : ∀ x ∈ ms, Fits x) (hg : IntsAt w vg gs) (ht : Tab w) :
    Calls Tryd.prog 3 #[v, u, .int .i64 mode, .int .i64 uid, .int .i64 gid, .int .i64 who, vg, .int .i64 ask] w fun e w' => e = .returned (.bool true) ∧ Q w w' := by
  have ll := hl.len
  have lm := hm.len
  have lg := hg.len
  unfold maxLen at ll lm lg
  obtain ⟨A, ca, rfl⟩ := hl.form
  obtain ⟨B, cb, rfl⟩ := hm.form
  obtain ⟨D, cd, rfl⟩ := hg.form
  by_cases hbig : 20 < l.length ∨ 20 < ms.length ∨ 6 < gs.length
  · have T := Lib.hid (told_any w ht)
    by_cases h1 : 20 < l.length
    · have t1 : decide ((20 : Int) < (l.length : Int)) = true := decide_eq_true (by omega)
      clear hbig h1
      go_enter Tryd.func3, Tryd.ntmps3
      go_wp2_with fail
      refine T.out.mono ?_
      rintro e w1 ⟨rfl, q1⟩
      go_wp2
      go_ret
      exact ⟨rfl, q1⟩
    have t1 : decide ((20 : Int) < (l.length : Int)) = false := decide_eq_false (by omega)
    by_cases h2 : 20 < ms.length
    · have t2 : decide ((20 : Int) < (ms.length : Int)) = true := decide_eq_true (by omega)
      clear hbig h1 h2
      go_enter Tryd.func3, Tryd.ntmps3
      go_wp2_with fail
      refine T.out.mono ?_
      rintro e w1 ⟨rfl, q1⟩
      go_wp2
      go_ret
      exact ⟨rfl, q1⟩
    have t2 : decide ((20 : Int) < (ms.length : Int)) = false := decide_eq_false (by omega)
    have t3 : decide ((6 : Int) < (gs.length : Int)) = true := decide_eq_true (by omega)
    clear hbig h1 h2
    go_enter Tryd.func3, Tryd.ntmps3
    go_wp2_with fail
    refine T.out.mono ?_
    rintro e w1 ⟨rfl, q1⟩
    go_wp2
    go_ret
    exact ⟨rfl, q1⟩
  have t1 : decide ((20 : Int) < (l.length : Int)) = false := decide_eq_false (by omega)
  have t2 : decide ((20 : Int) < (ms.length : Int)) = false := decide_eq_false (by omega)
  have t3 : decide ((6 : Int) < (gs.length : Int)) = false := decide_eq_false (by omega)
  have L20 : Hid (l.length ≤ 20) := by show _ ≤ _; omega
  clear hbig
  obtain ⟨c0, hc⟩ : ∃ c, normC l = c := ⟨_, rfl⟩
  obtain ⟨n, hn⟩ := norm_some l
  obtain ⟨b1, hb1⟩ : ∃ b, mayB l = b := ⟨_, rfl⟩
  obtain ⟨b2, hb2⟩ : ∃ b, letsL l mode uid gid who gs ask = b := ⟨_, rfl⟩
  obtain ⟨b3, hb3⟩ : ∃ b, letsL n mode uid gid who gs ask = b := ⟨_, rfl⟩
  obtain ⟨b4, hb4⟩ : ∃ b, decide (l = ms) = b := ⟨_, rfl⟩
  obtain ⟨s, hs⟩ : ∃ s, mkB (showL l) = s := ⟨_, rfl⟩
  have C := Lib.hid hc
  have N := Lib.hid hn
  have B1 := Lib.hid hb1
  have B2 := Lib.hid hb2
  have B3 := Lib.hid hb3
  have B4 := Lib.hid hb4
  have S := Lib.hid hs
  clear hc hn hb1 hb2 hb3 hb4 hs
  have hq := Q.refl w
  go_enter Tryd.func3, Tryd.ntmps3
  go_wp2_with fail
  refine (norm_c _ l n c0 _ hl (by have := L20.out; omega) C.out N.out).mono ?_
  rintro e w1 ⟨vx, rfl, hx, qn⟩
  replace hl := hl.keep qn
  replace hm := hm.keep qn
  replace hg := hg.keep qn
  replace hq := hq.trans qn
  clear qn
  go_wp2_with fail
  refine (normRef_c _ l n c0 _ hl (by have := L20.out; omega) C.out N.out).mono ?_
  rintro e w2 ⟨vy, rfl, hy, qn⟩
  replace hl := hl.keep qn
  replace hm := hm.keep qn
  replace hg := hg.keep qn
  replace hx := hx.keep qn
  replace hq := hq.trans qn
  clear qn
  go_wp2_with fail
  refine (told_any _ (ht.keep hq)).mono ?_
  rintro e wn ⟨rfl, qn⟩
  replace hl := hl.keep qn
  replace hm := hm.keep qn
  replace hg := hg.keep qn
  replace hx := hx.keep qn
  replace hy := hy.keep qn
  replace hq := hq.trans qn
  clear qn
  go_wp2_with fail
  refine (may_c _ l b1 _ hl B1.out).mono ?_
  rintro e wn ⟨rfl, qn⟩
  replace hl := hl.keep qn
  replace hm := hm.keep qn
  replace hg := hg.keep qn
  replace hx := hx.keep qn
  replace hy := hy.keep qn
  replace hq := hq.trans qn
  clear qn
  go_wp2_with fail
  refine (mayRef_c _ l b1 _ hl B1.out).mono ?_
  rintro e wn ⟨rfl, qn⟩
  replace hl := hl.keep qn
  replace hm := hm.keep qn
  replace hg := hg.keep qn
  replace hx := hx.keep qn
  replace hy := hy.keep qn
  replace hq := hq.trans qn
  clear qn
  go_wp2_with fail
  refine (sameRef_c _ _ n n true _ hx hy (by simp)).mono ?_
  rintro e wn ⟨rfl, qn⟩
  replace hl := hl.keep qn
  replace hm := hm.keep qn
  replace hg := hg.keep qn
  replace hx := hx.keep qn
  replace hy := hy.keep qn
  replace hq := hq.trans qn
  clear qn
  go_wp2_with fail
  refine (lets_c _ l mode uid gid who _ gs ask b2 _ hl hg B2.out).mono ?_
  rintro e wn ⟨rfl, qn⟩
  replace hl := hl.keep qn
  replace hm := hm.keep qn
  replace hg := hg.keep qn
  replace hx := hx.keep qn
  replace hy := hy.keep qn
  replace hq := hq.trans qn
  clear qn
  go_wp2_with fail
  refine (letsRef_c _ l mode uid gid who _ gs ask b2 _ hl hg B2.out).mono ?_
  rintro e wn ⟨rfl, qn⟩
  replace hl := hl.keep qn
  replace hm := hm.keep qn
  replace hg := hg.keep qn
  replace hx := hx.keep qn
  replace hy := hy.keep qn
  replace hq := hq.trans qn
  clear qn
  go_wp2_with fail
  refine (lets_c _ n mode uid gid who _ gs ask b3 _ hx hg B3.out).mono ?_
  rintro e wn ⟨rfl, qn⟩
  replace hl := hl.keep qn
  replace hm := hm.keep qn
  replace hg := hg.keep qn
  replace hx := hx.keep qn
  replace hy := hy.keep qn
  replace hq := hq.trans qn
  clear qn
  go_wp2_with fail
  refine (letsRef_c _ n mode uid gid who _ gs ask b3 _ hy hg B3.out).mono ?_
  rintro e wn ⟨rfl, qn⟩
  replace hl := hl.keep qn
  replace hm := hm.keep qn
  replace hg := hg.keep qn
  replace hx := hx.keep qn
  replace hy := hy.keep qn
  replace hq := hq.trans qn
  clear qn
  go_wp2_with fail
  refine (show_s _ l s _ hl (by have := L20.out; omega) fl (ht.keep hq) S.out).mono ?_
  rintro e wn ⟨rfl, qn⟩
  replace hl := hl.keep qn
  replace hm := hm.keep qn
  replace hg := hg.keep qn
  replace hx := hx.keep qn
  replace hy := hy.keep qn
  replace hq := hq.trans qn
  clear qn
  go_wp2_with fail
  refine (showRef_s _ l s _ hl (by have := L20.out; omega) fl S.out).mono ?_
  rintro e wn ⟨rfl, qn⟩
  replace hl := hl.keep qn
  replace hm := hm.keep qn
  replace hg := hg.keep qn
  replace hx := hx.keep qn
  replace hy := hy.keep qn
  replace hq := hq.trans qn
  clear qn
  go_wp2_with fail
  refine (same_c _ _ l ms b4 _ hl hm B4.out).mono ?_
  rintro e wn ⟨rfl, qn⟩
  replace hl := hl.keep qn
  replace hm := hm.keep qn
  replace hg := hg.keep qn
  replace hx := hx.keep qn
  replace hy := hy.keep qn
  replace hq := hq.trans qn
  clear qn
  go_wp2_with fail
  refine (sameRef_c _ _ l ms b4 _ hl hm B4.out).mono ?_
  rintro e wn ⟨rfl, qn⟩
  replace hl := hl.keep qn
  replace hm := hm.keep qn
  replace hg := hg.keep qn
  replace hx := hx.keep qn
  replace hy := hy.keep qn
  replace hq := hq.trans qn
  clear qn
  go_wp2
  all_goals
    go_ret
    exact ⟨rfl, hq⟩

/-! ### The row -/
set_option maxRecDepth 100000 in
theorem lifted (os : Os) (started : os.Started) (H : Type) (enc : TypeId × Value → H) :
    ReturnsInHanded {} Tryd.checked os 3 .any (fun w args => (Rows.aclAsksSpec.pre enc Tryd.prog Tryd.f3 [] false w args ∧ laidMetH Tryd.prog laid3 w) ∧ sizedMet enc Tryd.prog Tryd.f3 (OpenSpec.ofChange Rows.aclAsksSpec) false w args)
      (Rows.aclAsksSpec.post enc Tryd.prog Tryd.f3 false true false false) := by
  refine returnsInHanded_of_change_and (C := Tryd.checked) (X := fun w _ => laidMetH Tryd.prog laid3 w) (fun _ _ _ hh h => h.of_heap hh) own started (by kernel_rfl) Tryd.func3
    (ChangeSpec.witness_shaped (enc := enc) (C := Tryd.checked) (os := os) (X := fun w _ => laidMetH Tryd.prog laid3 w) false (World.doorLaid Tryd.prog 24 os) #[.slice none 0 0, .slice none 0 0, .int .i64 0, .int .i64 0, .int .i64 0, .int .i64 0, .slice none 0 0, .int .i64 0] 8 rfl (World.shaped_of_RefB (by kernel_rfl) (by kernel_rfl)) (by kernel_rfl) (by kernel_rfl) (by kernel_rfl) (door_met os _)) ?_
  intro W base args ds gs before hval0 hW _ _ hLd _
  have hval : ∀ (j : Nat) t v, Tryd.f3.params[j]? = some t → args[j]? = some v → Value.okWide Tryd.prog W .any base t v := hval0
  have hW' := hW
  obtain ⟨p, q, hA0, hV, rfl, hfz, hnd⟩ := hW
  have hA : DataW.TrodAll enc Tryd.prog W 0 (fun _ => true) true Tryd.f3.params.toList args.toList ds p := hA0
  rw [Tryd.params3] at hA hval
  obtain ⟨v0, vs0, d0, ds0, p0, q0, hargs, rfl, rfl, h0, r0⟩ := trodAll_cons hA
  obtain ⟨v1, vs1, d1, ds1, p1, q1, rfl, rfl, rfl, h1, r1⟩ := trodAll_cons r0
  obtain ⟨v2, vs2, d2, ds2, p2, q2, rfl, rfl, rfl, h2, r2⟩ := trodAll_cons r1
  obtain ⟨v3, vs3, d3, ds3, p3, q3, rfl, rfl, rfl, h3, r3⟩ := trodAll_cons r2
  obtain ⟨v4, vs4, d4, ds4, p4, q4, rfl, rfl, rfl, h4, r4⟩ := trodAll_cons r3
  obtain ⟨v5, vs5, d5, ds5, p5, q5, rfl, rfl, rfl, h5, r5⟩ := trodAll_cons r4
  obtain ⟨v6, vs6, d6, ds6, p6, q6, rfl, rfl, rfl, h6, r6⟩ := trodAll_cons r5
  obtain ⟨v7, vs7, d7, ds7, p7, q7, rfl, rfl, rfl, h7, r7⟩ := trodAll_cons r6
  obtain ⟨rfl, rfl, rfl⟩ := trodAll_nil r7
  obtain rfl : args = #[v0, v1, v2, v3, v4, v5, v6, v7] := by cases args; simp_all
  obtain ⟨rfl, rfl⟩ := trodVars_none hV
  have tab := tab_of_laid hLd
  obtain ⟨a0, len0, cap0, rfl⟩ := okWide_slice Tryd.underlying22 (hval 0 22 v0 rfl rfl)
  have k0 := h0
  have lt0 : ∀ x ∈ p0, x.block < W.heap.size := by obtain ⟨m, hm⟩ := k0; exact DataW.trod_lt m _ _ _ hm
  obtain ⟨fu0, hf0⟩ := h0
  obtain ⟨z0, w0, f0⟩ := open_aces hf0 rfl
  obtain ⟨a1, len1, cap1, rfl⟩ := okWide_slice Tryd.underlying22 (hval 1 22 v1 rfl rfl)
  have k1 := h1
  have lt1 : ∀ x ∈ p1, x.block < W.heap.size := by obtain ⟨m, hm⟩ := k1; exact DataW.trod_lt m _ _ _ hm
  obtain ⟨fu1, hf1⟩ := h1
  obtain ⟨z1, w1, f1⟩ := open_aces hf1 rfl
  obtain ⟨a2, rfl, rfl, rfl, w2⟩ := open_int Tryd.underlying3 (hval 2 3 v2 rfl rfl) h2
  obtain ⟨a3, rfl, rfl, rfl, w3⟩ := open_int Tryd.underlying3 (hval 3 3 v3 rfl rfl) h3
  obtain ⟨a4, rfl, rfl, rfl, w4⟩ := open_int Tryd.underlying3 (hval 4 3 v4 rfl rfl) h4
  obtain ⟨a5, rfl, rfl, rfl, w5⟩ := open_int Tryd.underlying3 (hval 5 3 v5 rfl rfl) h5
  obtain ⟨a6, len6, cap6, rfl⟩ := okWide_slice Tryd.underlying23 (hval 6 23 v6 rfl rfl)
  have k6 := h6
  have lt6 : ∀ x ∈ p6, x.block < W.heap.size := by obtain ⟨m, hm⟩ := k6; exact DataW.trod_lt m _ _ _ hm
  obtain ⟨z6, w6⟩ : ∃ gs, IntsAt W (.slice a6 len6 cap6) gs := by
    obtain ⟨fuel, hf⟩ := h6
    rcases open_ints Tryd.underlying23 Tryd.underlying3 (by kernel_rfl) hf with ⟨hcs, _⟩ | ⟨x, l, c, zs, hcs, _, hl, hm, hz, _, hcell, hwz⟩
    · simp [Value.cells] at hcs
      obtain ⟨rfl, rfl, rfl⟩ := hcs
      exact ⟨[], IntsAt.nil_ _⟩
    · simp [Value.cells] at hcs
      obtain ⟨rfl, rfl, rfl⟩ := hcs
      exact ⟨_, IntsAt.of_row (.inr ⟨_, rfl, hl, hm, by simpa using hz, hcell, hwz⟩)⟩
  obtain ⟨a7, rfl, rfl, rfl, w7⟩ := open_int Tryd.underlying3 (hval 7 3 v7 rfl rfl) h7
  clear hA0 hval0
  try simp only [List.append_nil] at hW'
  refine (walk _ z0 _ z1 a2 a3 a4 a5 _ z6 a7 W w0 f0 w1 f1 w6 tab).mono fun e W' ⟨he, bel⟩ => ?_
  subst he
  exact ⟨_, rfl, _, _, _, [], _, [], hW', trodAll_mk1 (shut_bool Tryd.underlying4 _), (trodAll_cons_mk (Below.trod laidOut (by kernel_rfl) (of_decide_eq_true (by kernel_rfl)) k0 bel lt0) (trodAll_cons_mk (Below.trod laidOut (by kernel_rfl) (of_decide_eq_true (by kernel_rfl)) k1 bel lt1) (trodAll_cons_mk (shut_int Tryd.underlying3 w2) (trodAll_cons_mk (shut_int Tryd.underlying3 w3) (trodAll_cons_mk (shut_int Tryd.underlying3 w4) (trodAll_cons_mk (shut_int Tryd.underlying3 w5) (trodAll_cons_mk (Below.trod laidOut (by kernel_rfl) (of_decide_eq_true (by kernel_rfl)) k6 bel lt6) (trodAll_cons_mk (shut_int Tryd.underlying3 w7) trodAll_mk0)))))))), rfl, Below.frame bel _, fun h => by cases h⟩

theorem over : Rows.AclAsksSaid :=
  OpenClaim.holds_of_wide 3 Tryd.f3 rfl rfl rfl rfl rfl rfl rfl ⟨rfl, rfl, rfl, rfl, rfl⟩ rfl rfl rfl rfl rfl (by kernel_rfl) Tryd.func3 (by kernel_rfl)
    (of_decide_eq_true (by kernel_rfl)) (by unfold Func.isWrapper; first | (rw [if_pos (by decide +kernel)]; kernel_rfl) | (rw [if_neg (by decide +kernel)]; exact ⟨rfl, rfl⟩))
    (fun os started H enc _ => lifted os started H enc)

theorem proved : Rows.AclAsksCardSaid :=
  Claim7.holds_tied_plain_at .later [] [.data, .data, .data] true Rows.aclAsksCard.stood.harness false
    over (fun _ h => by cases h) (by kernel_rfl) (fun _ h => by cases h) aclAsks_row_tie rfl ⟨rfl, rfl⟩ (by kernel_rfl) (by kernel_rfl)
    (fun f fn hf hfn => by
      obtain rfl : f = 3 := Option.some.inj ((show Tryd.prog.funcNamed "steamer/steamerlaw3.AclAsks" = some 3 by kernel_rfl).symm.trans hf) |>.symm
      obtain rfl : fn = Tryd.f3 := (Option.some.inj (Tryd.func3.symm.trans hfn)).symm
      exact ⟨by kernel_rfl, fun j t ht => by
        rw [Tryd.params3] at ht
        have hm : t ∈ Tryd.f3.params.toList := by rw [Tryd.params3]; simpa using Array.mem_of_getElem? ht
        have hall : (Tryd.f3.params.toList.all fun u => !Tryd.prog.wantsStandIn u) = true := by kernel_rfl
        exact (show Tryd.prog.wantsStandIn t = false by simpa using List.all_eq_true.1 hall t hm)⟩)
    (by kernel_rfl)

end Go.Proofs.YtcbgchohcinecaaDoor.asks
