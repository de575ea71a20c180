/-
  For whatever permissions, mode and ask, the mask being 7: a user with an entry gets that entry's permissions, another one the group's or the owning group's; user 0 gets everything, an ask of 8 nothing. Condition: the three tables of packages math/bits and strconv read as the program's text lays them (tied by the card).
-/
import Derived.Test.YtcbgchohcinecaaDoorThree
import Derived.Test.YtcbgchohcinecaaDoorLaid
namespace Go.Proofs.YtcbgchohcinecaaDoor.users
open Go.ChangeShapes Go.WideShapes Go.ChangeAt Go.WideMaps Go.WideElems Go.RowKit

set_option maxHeartbeats 4000000 in
set_option maxRecDepth 100000 in
theorem walk (u g md ask : Int) (w : World) (ht : Tab w) :
    Calls Tryd.prog 6 #[.int .i64 u, .int .i64 g, .int .i64 md, .int .i64 ask] w fun e w' => e = .returned (.bool true) ∧ Q w w' := by
  obtain ⟨x, hx, hx1⟩ : ∃ x, (IntKind.u64.wrap u).tmod 8 = x ∧ 0 ≤ x ∧ x ≤ 7 := ⟨_, rfl, (rest_in u 8 (by omega)).1, by have := (rest_in u 8 (by omega)).2; omega⟩
  obtain ⟨y, hy, hy1⟩ : ∃ x, (IntKind.u64.wrap g).tmod 8 = x ∧ 0 ≤ x ∧ x ≤ 7 := ⟨_, rfl, (rest_in g 8 (by omega)).1, by have := (rest_in g 8 (by omega)).2; omega⟩
  obtain ⟨o, ho, ho1⟩ : ∃ x, (IntKind.u64.wrap md).tmod 512 = x ∧ 0 ≤ x ∧ x ≤ 511 := ⟨_, rfl, (rest_in md 512 (by omega)).1, by have := (rest_in md 512 (by omega)).2; omega⟩
  obtain ⟨a, ha, ha1⟩ : ∃ x, (IntKind.u64.wrap ask).tmod 8 = x ∧ 0 ≤ x ∧ x ≤ 7 := ⟨_, rfl, (rest_in ask 8 (by omega)).1, by have := (rest_in ask 8 (by omega)).2; omega⟩
  have wx : IntKind.i64.wrap x = x := IntWalk.i64_in _ (by omega)
  have wy : IntKind.i64.wrap y = y := IntWalk.i64_in _ (by omega)
  have wo : IntKind.i64.wrap o = o := IntWalk.i64_in _ (by omega)
  have wa : IntKind.i64.wrap a = a := IntWalk.i64_in _ (by omega)
  have E1 := Lib.hid ((user3 x y 7 o a [6, 2] hx1 hy1 (by omega) ha1).trans (has_7 x a ha1.1 ha1.2))
  have E2 := Lib.hid (both3 x y o a hx1 hy1 ha1)
  have E3 := Lib.hid (none3 o a ha1)
  have E4 := Lib.hid (root3 o a ha1)
  obtain ⟨b1, s1, r1⟩ : ∃ b, (bits BinOp.and IntKind.i64 x a == a) = b ∧ hasB x a = b := ⟨_, rfl, rfl⟩
  obtain ⟨b2, s2, r2⟩ : ∃ b, (bits BinOp.and IntKind.i64 y a == a) = b ∧ hasB y a = b := ⟨_, rfl, rfl⟩
  obtain ⟨b3, s3, r3⟩ : ∃ b, (bits BinOp.and IntKind.i64 (o / 8) a == a) = b ∧ hasB (o / 8) a = b := ⟨_, rfl, rfl⟩
  rw [r1] at E1
  rw [r2, r3] at E2
  rw [r3] at E3
  clear r1 r2 r3
  obtain ⟨b4, hb4⟩ : ∃ b, b = (b2 || b3) := ⟨_, rfl⟩
  rw [← hb4] at E2
  have B4 := Lib.hid hb4
  clear hb4
  go_enter Tryd.func6, Tryd.ntmps6
  go_wp2_with fail
  have hL := aces_built3 w x y 7 33
  have q : Q w (w.alloc (.cells #[.int .i64 1, .int .i64 5, .int .i64 x, .int .i64 2, .int .i64 6, .int .i64 y, .int .i64 3, .int .i64 0, .int .i64 7] 33)) := (Q.refl w).alloc _
  generalize hw1 : w.alloc (.cells #[.int .i64 1, .int .i64 5, .int .i64 x, .int .i64 2, .int .i64 6, .int .i64 y, .int .i64 3, .int .i64 0, .int .i64 7] 33) = w1 at *
  have hs1 : w1.heap.size = w.heap.size + 1 := by rw [← hw1]; simp
  clear hw1
  have hi1 : IntsAt (w1.alloc (.cells #[.int .i64 6, .int .i64 2] 3)) (.slice (some ⟨w.heap.size + 1, 0, none⟩) 2 2) [6, 2] := by
    have := ints_built2 w1 6 2 3
    rwa [hs1] at this
  clear hs1
  refine (lets_c _ _ o 1 2 5 _ [6, 2] a b1 _ (hL.keep ((Q.refl _).alloc _)) hi1 E1.out).mono ?_
  rintro e w2 ⟨rfl, q2⟩
  clear hi1
  replace q2 := ((Q.refl w1).alloc _).trans q2
  replace hL := hL.keep q2
  replace q := q.trans q2
  clear q2
  go_wp2_with fail
  refine (lets_c _ _ o 1 2 8 _ [6, 2] a b4 _ (hL.keep ((Q.refl _).alloc _)) (ints_built2 w2 6 2 _) E2.out).mono ?_
  rintro e w3 ⟨rfl, q3⟩
  replace q3 := ((Q.refl w2).alloc _).trans q3
  replace q := q.trans q3
  clear q3 hL
  go_wp2_with fail
  refine (lets_c _ [] o 1 2 8 _ [2] a b3 _ (AcesAt.nil_ _) (ints_built w3 2 _) E3.out).mono ?_
  rintro e w4 ⟨rfl, q4⟩
  replace q4 := ((Q.refl w3).alloc _).trans q4
  replace q := q.trans q4
  clear q4
  go_wp2_with fail
  refine (told_any _ (ht.keep q)).mono ?_
  rintro e w5 ⟨rfl, q5⟩
  replace q := q.trans q5
  clear q5
  have HR := Lib.hid (fun W => lets_c (.slice none 0 0) [] o 1 2 0 (.slice none 0 0) [] a true W (AcesAt.nil_ _) (IntsAt.nil_ _) E4.out)
  have HT := Lib.hid (fun W => lets_c (.slice none 0 0) [] 511 1 2 8 (.slice none 0 0) [] 8 false W (AcesAt.nil_ _) (IntsAt.nil_ _) eight3)
  cases b2 with
  | true =>
    obtain rfl : b4 = true := B4.out
    go_wp2_with fail
    refine (HR.out _).mono ?_
    rintro e w6 ⟨rfl, q6⟩
    replace q := q.trans q6
    clear q6
    go_wp2_with fail
    refine (HT.out _).mono ?_
    rintro e w7 ⟨rfl, q7⟩
    replace q := q.trans q7
    clear q7
    go_wp2
    go_ret
    exact ⟨rfl, q⟩
  | false =>
    obtain rfl : b4 = b3 := B4.out
    go_wp2_with fail
    refine (HR.out _).mono ?_
    rintro e w6 ⟨rfl, q6⟩
    replace q := q.trans q6
    clear q6
    go_wp2_with fail
    refine (HT.out _).mono ?_
    rintro e w7 ⟨rfl, q7⟩
    replace q := q.trans q7
    clear q7
    go_wp2
    go_ret
    exact ⟨rfl, q⟩

/-! ### The row -/
set_option maxRecDepth 100000 in
theorem lifted (os : Os) (started : os.Started) (H : Type) (enc : TypeId × Value → H) :
    ReturnsInHanded {} Tryd.checked os 6 .any (fun w args => (Rows.aclUsersSpec.pre enc Tryd.prog Tryd.f6 [] false w args ∧ laidMetH Tryd.prog laid3 w) ∧ sizedMet enc Tryd.prog Tryd.f6 (OpenSpec.ofChange Rows.aclUsersSpec) false w args)
      (Rows.aclUsersSpec.post enc Tryd.prog Tryd.f6 false true false false) := by
  refine returnsInHanded_of_change_and (C := Tryd.checked) (X := fun w _ => laidMetH Tryd.prog laid3 w) (fun _ _ _ hh h => h.of_heap hh) own started (by kernel_rfl) Tryd.func6
    (ChangeSpec.witness_shaped (enc := enc) (C := Tryd.checked) (os := os) (X := fun w _ => laidMetH Tryd.prog laid3 w) false (World.doorLaid Tryd.prog 24 os) #[.int .i64 0, .int .i64 0, .int .i64 0, .int .i64 0] 8 rfl (World.shaped_of_RefB (by kernel_rfl) (by kernel_rfl)) (by kernel_rfl) (by kernel_rfl) (by kernel_rfl) (door_met os _)) ?_
  intro W base args ds gs before hval0 hW _ _ hLd _
  have hval : ∀ (j : Nat) t v, Tryd.f6.params[j]? = some t → args[j]? = some v → Value.okWide Tryd.prog W .any base t v := hval0
  have hW' := hW
  obtain ⟨p, q, hA0, hV, rfl, hfz, hnd⟩ := hW
  have hA : DataW.TrodAll enc Tryd.prog W 0 (fun _ => true) true Tryd.f6.params.toList args.toList ds p := hA0
  rw [Tryd.params6] at hA hval
  obtain ⟨v0, vs0, d0, ds0, p0, q0, hargs, rfl, rfl, h0, r0⟩ := trodAll_cons hA
  obtain ⟨v1, vs1, d1, ds1, p1, q1, rfl, rfl, rfl, h1, r1⟩ := trodAll_cons r0
  obtain ⟨v2, vs2, d2, ds2, p2, q2, rfl, rfl, rfl, h2, r2⟩ := trodAll_cons r1
  obtain ⟨v3, vs3, d3, ds3, p3, q3, rfl, rfl, rfl, h3, r3⟩ := trodAll_cons r2
  obtain ⟨rfl, rfl, rfl⟩ := trodAll_nil r3
  obtain rfl : args = #[v0, v1, v2, v3] := by cases args; simp_all
  obtain ⟨rfl, rfl⟩ := trodVars_none hV
  have tab := tab_of_laid hLd
  obtain ⟨a0, rfl, rfl, rfl, w0⟩ := open_int Tryd.underlying3 (hval 0 3 v0 rfl rfl) h0
  obtain ⟨a1, rfl, rfl, rfl, w1⟩ := open_int Tryd.underlying3 (hval 1 3 v1 rfl rfl) h1
  obtain ⟨a2, rfl, rfl, rfl, w2⟩ := open_int Tryd.underlying3 (hval 2 3 v2 rfl rfl) h2
  obtain ⟨a3, rfl, rfl, rfl, w3⟩ := open_int Tryd.underlying3 (hval 3 3 v3 rfl rfl) h3
  clear hA0 hval0
  try simp only [List.append_nil] at hW'
  refine (walk a0 a1 a2 a3 W  tab).mono fun e W' ⟨he, bel⟩ => ?_
  subst he
  exact ⟨_, rfl, _, _, _, [], [], [], hW', trodAll_mk1 (shut_bool Tryd.underlying4 _), (trodAll_cons_mk (shut_int Tryd.underlying3 w0) (trodAll_cons_mk (shut_int Tryd.underlying3 w1) (trodAll_cons_mk (shut_int Tryd.underlying3 w2) (trodAll_cons_mk (shut_int Tryd.underlying3 w3) trodAll_mk0)))), rfl, Below.frame bel _, fun h => by cases h⟩

theorem over : Rows.AclUsersSaid :=
  OpenClaim.holds_of_wide 6 Tryd.f6 rfl rfl rfl rfl rfl rfl rfl ⟨rfl, rfl, rfl, rfl, rfl⟩ rfl rfl rfl rfl rfl (by kernel_rfl) Tryd.func6 (by kernel_rfl)
    (of_decide_eq_true (by kernel_rfl)) (by unfold Func.isWrapper; first | (rw [if_pos (by decide +kernel)]; kernel_rfl) | (rw [if_neg (by decide +kernel)]; exact ⟨rfl, rfl⟩))
    (fun os started H enc _ => lifted os started H enc)

theorem proved : Rows.AclUsersCardSaid :=
  Claim7.holds_tied_plain_at .later [] [.data, .data, .data] true Rows.aclUsersCard.stood.harness false
    over (fun _ h => by cases h) (by kernel_rfl) (fun _ h => by cases h) aclUsers_row_tie rfl ⟨rfl, rfl⟩ (by kernel_rfl) (by kernel_rfl)
    (fun f fn hf hfn => by
      obtain rfl : f = 6 := Option.some.inj ((show Tryd.prog.funcNamed "steamer/steamerlaw3.AclUsers" = some 6 by kernel_rfl).symm.trans hf) |>.symm
      obtain rfl : fn = Tryd.f6 := (Option.some.inj (Tryd.func6.symm.trans hfn)).symm
      exact ⟨by kernel_rfl, fun j t ht => by
        rw [Tryd.params6] at ht
        have hm : t ∈ Tryd.f6.params.toList := by rw [Tryd.params6]; simpa using Array.mem_of_getElem? ht
        have hall : (Tryd.f6.params.toList.all fun u => !Tryd.prog.wantsStandIn u) = true := by kernel_rfl
        exact (show Tryd.prog.wantsStandIn t = false by simpa using List.all_eq_true.1 hall t hm)⟩)
    (by kernel_rfl)

end Go.Proofs.YtcbgchohcinecaaDoor.users
