/-
  For every three generated paths: Less is a strict total order, and whatever lies between a directory and a path under it lies under that directory. No condition.
-/
import Derived.Test.YtafekepgnockjaaMadeFacts
import Derived.OpenShut
import Derived.ShutString
import Derived.ChangeOld
import Derived.Deep.DeepCutAuto
namespace Go.Proofs.Ytafekepgnockjaa.pathOrders
open Go.ChangeShapes Go.WideShapes Go.ChangeAt Go.RowKit
open Go.ChangeMaps (open_string shut_string)
open Pth

theorem own : ownKnob Try.prog.godebug = none := by kernel_rfl
theorem laidOut : laidOutB Try.prog = true := by kernel_rfl

theorem less_at (s t : ByteArray) (w : World) (hs : s.size ≤ 100) (ht : t.size ≤ 100) :
    Calls Try.prog 26 #[.string s, .string t] w fun e w' => e = .returned (.bool (lessB s t)) ∧ Q w w' := less_any s t w (by unfold maxLen; omega) (by unfold maxLen; omega)
theorem under_at (s t : ByteArray) (w : World) (hs : s.size ≤ 100) (ht : t.size ≤ 100) :
    Calls Try.prog 24 #[.string s, .string t] w fun e w' => e = .returned (.bool (underB s t)) ∧ Q w w' := under_any s t w (by unfold maxLen; omega) (by unfold maxLen; omega)

/-- What is known of the three paths: all eight answers, none against another. -/
theorem cases8 (x y z : ByteArray) (hx : mayB x = true) (hy : mayB y = true) (hz : mayB z = true) :
    ((lessB x y = true ∧ lessB y x = false ∧ (x.toList == y.toList) = false ∧ ((lessB y z = false ∧ True) ∨ (lessB y z = true ∧ lessB x z = true))) ∨
      (lessB x y = false ∧ lessB y x = true ∧ (x.toList == y.toList) = false) ∨ (lessB x y = false ∧ lessB y x = false ∧ (x.toList == y.toList) = true)) ∧
    (underB y x = false ∨ (underB y x = true ∧ lessB x z = false) ∨ (underB y x = true ∧ lessB x z = true ∧ lessB z y = false) ∨ (underB y x = true ∧ lessB x z = true ∧ lessB z y = true ∧ underB z x = true)) := by
  constructor
  · rcases lessB_total x y hx hy with ⟨h1, h2, h3⟩ | h | h
    · left
      refine ⟨h1, h2, h3, ?_⟩
      cases hd : lessB y z
      · exact .inl ⟨rfl, trivial⟩
      · exact .inr ⟨rfl, lessB_trans x y z h1 hd⟩
    · exact .inr (.inl h)
    · exact .inr (.inr h)
  · cases hf : underB y x
    · exact .inl rfl
    cases he : lessB x z
    · exact .inr (.inl ⟨rfl, rfl⟩)
    cases hg : lessB z y
    · exact .inr (.inr (.inl ⟨rfl, rfl, rfl⟩))
    · exact .inr (.inr (.inr ⟨rfl, rfl, rfl, underB_between x y z hx hy hz hf he hg⟩))

set_option maxRecDepth 100000 in
set_option maxHeartbeats 3200000 in
theorem walk (a0 : Option Addr) (len0 cap0 : Nat) (z0 : List Int) (a1 : Option Addr) (len1 cap1 : Nat) (z1 : List Int) (a2 : Option Addr) (len2 cap2 : Nat) (z2 : List Int) (w : World)
    (w0 : IsRow .i64 w a0 len0 cap0 z0) (w1 : IsRow .i64 w a1 len1 cap1 z1) (w2 : IsRow .i64 w a2 len2 cap2 z2) :
    Calls Try.prog 5 #[.slice a0 len0 cap0, .slice a1 len1 cap1, .slice a2 len2 cap2] w fun e w' => e = .returned (.bool true) ∧ Q w w' := by
  have l0 := w0.le
  have l1 := w1.le
  have l2 := w2.le
  go_enter Try.func5, Try.ntmps5
  go_wp2_with fail
  refine (made_any _ _ _ z0 6 _ w0 (by omega)).mono ?_
  rintro e v1 ⟨rfl, hq⟩
  go_wp2_with fail
  refine (made_any _ _ _ z1 6 _ (w1.keep hq) (by omega)).mono ?_
  rintro e v1 ⟨rfl, q1⟩
  replace hq := hq.trans q1
  clear q1
  go_wp2_with fail
  refine (made_any _ _ _ z2 6 _ (w2.keep hq) (by omega)).mono ?_
  rintro e v1 ⟨rfl, q1⟩
  replace hq := hq.trans q1
  clear q1
  have m0 := (madeB_may z0 (min len0 6) (by omega) (by omega)).1
  have m1 := (madeB_may z1 (min len1 6) (by omega) (by omega)).1
  have m2 := (madeB_may z2 (min len2 6) (by omega) (by omega)).1
  clear l0 l1 l2 w0 w1 w2
  generalize madeB z0 (min len0 6) = x at *
  generalize madeB z1 (min len1 6) = y at *
  generalize madeB z2 (min len2 6) = z at *
  have C := cases8 x y z m0 m1 m2
  have s0 := mayB_size x m0
  have s1 := mayB_size y m1
  have s2 := mayB_size z m2
  clear m0 m1 m2
  obtain ⟨C1, C3⟩ := C
  have C2 := Lib.hid C3
  clear C3
  rcases C1 with ⟨h1, h2, h3, ⟨h4, -⟩ | ⟨h4, h5⟩⟩ | ⟨h1, h2, h3⟩ | ⟨h1, h2, h3⟩
  · go_wp2_with (go_at_call 26; refine (less_at _ _ _ (by omega) (by omega)).mono ?_; rintro e v2 ⟨rfl, q1⟩; have hq := hq.trans q1; clear q1)
    rcases C2.out with g1 | ⟨g1, g2⟩ | ⟨g1, g2, g3⟩ | ⟨g1, g2, g3, g4⟩
    · clear C2
      go_wp2_with (first | (go_at_call 26; refine (less_at _ _ _ (by omega) (by omega)).mono ?_; rintro e v2 ⟨rfl, q1⟩; have hq := hq.trans q1; clear q1) | (go_at_call 24; refine (under_at _ _ _ (by omega) (by omega)).mono ?_; rintro e v2 ⟨rfl, q1⟩; have hq := hq.trans q1; clear q1) | (go_at_call 8; refine (told_any _).mono ?_; rintro e v2 ⟨rfl, q1⟩; have hq := hq.trans q1; clear q1))
      go_ret
      exact ⟨rfl, hq⟩
    · clear C2
      go_wp2_with (first | (go_at_call 26; refine (less_at _ _ _ (by omega) (by omega)).mono ?_; rintro e v2 ⟨rfl, q1⟩; have hq := hq.trans q1; clear q1) | (go_at_call 24; refine (under_at _ _ _ (by omega) (by omega)).mono ?_; rintro e v2 ⟨rfl, q1⟩; have hq := hq.trans q1; clear q1) | (go_at_call 8; refine (told_any _).mono ?_; rintro e v2 ⟨rfl, q1⟩; have hq := hq.trans q1; clear q1))
      go_ret
      exact ⟨rfl, hq⟩
    · clear C2
      go_wp2_with (first | (go_at_call 26; refine (less_at _ _ _ (by omega) (by omega)).mono ?_; rintro e v2 ⟨rfl, q1⟩; have hq := hq.trans q1; clear q1) | (go_at_call 24; refine (under_at _ _ _ (by omega) (by omega)).mono ?_; rintro e v2 ⟨rfl, q1⟩; have hq := hq.trans q1; clear q1) | (go_at_call 8; refine (told_any _).mono ?_; rintro e v2 ⟨rfl, q1⟩; have hq := hq.trans q1; clear q1))
      go_ret
      exact ⟨rfl, hq⟩
    · clear C2
      go_wp2_with (first | (go_at_call 26; refine (less_at _ _ _ (by omega) (by omega)).mono ?_; rintro e v2 ⟨rfl, q1⟩; have hq := hq.trans q1; clear q1) | (go_at_call 24; refine (under_at _ _ _ (by omega) (by omega)).mono ?_; rintro e v2 ⟨rfl, q1⟩; have hq := hq.trans q1; clear q1) | (go_at_call 8; refine (told_any _).mono ?_; rintro e v2 ⟨rfl, q1⟩; have hq := hq.trans q1; clear q1))
      go_ret
      exact ⟨rfl, hq⟩
  · go_wp2_with (go_at_call 26; refine (less_at _ _ _ (by omega) (by omega)).mono ?_; rintro e v2 ⟨rfl, q1⟩; have hq := hq.trans q1; clear q1)
    rcases C2.out with g1 | ⟨g1, g2⟩ | ⟨g1, g2, g3⟩ | ⟨g1, g2, g3, g4⟩
    · clear C2
      go_wp2_with (first | (go_at_call 26; refine (less_at _ _ _ (by omega) (by omega)).mono ?_; rintro e v2 ⟨rfl, q1⟩; have hq := hq.trans q1; clear q1) | (go_at_call 24; refine (under_at _ _ _ (by omega) (by omega)).mono ?_; rintro e v2 ⟨rfl, q1⟩; have hq := hq.trans q1; clear q1) | (go_at_call 8; refine (told_any _).mono ?_; rintro e v2 ⟨rfl, q1⟩; have hq := hq.trans q1; clear q1))
      go_ret
      exact ⟨rfl, hq⟩
    · exact absurd (h5.symm.trans g2) (by decide)
    · clear C2
      go_wp2_with (first | (go_at_call 26; refine (less_at _ _ _ (by omega) (by omega)).mono ?_; rintro e v2 ⟨rfl, q1⟩; have hq := hq.trans q1; clear q1) | (go_at_call 24; refine (under_at _ _ _ (by omega) (by omega)).mono ?_; rintro e v2 ⟨rfl, q1⟩; have hq := hq.trans q1; clear q1) | (go_at_call 8; refine (told_any _).mono ?_; rintro e v2 ⟨rfl, q1⟩; have hq := hq.trans q1; clear q1))
      go_ret
      exact ⟨rfl, hq⟩
    · clear C2
      go_wp2_with (first | (go_at_call 26; refine (less_at _ _ _ (by omega) (by omega)).mono ?_; rintro e v2 ⟨rfl, q1⟩; have hq := hq.trans q1; clear q1) | (go_at_call 24; refine (under_at _ _ _ (by omega) (by omega)).mono ?_; rintro e v2 ⟨rfl, q1⟩; have hq := hq.trans q1; clear q1) | (go_at_call 8; refine (told_any _).mono ?_; rintro e v2 ⟨rfl, q1⟩; have hq := hq.trans q1; clear q1))
      go_ret
      exact ⟨rfl, hq⟩
  · go_wp2_with (go_at_call 26; refine (less_at _ _ _ (by omega) (by omega)).mono ?_; rintro e v2 ⟨rfl, q1⟩; have hq := hq.trans q1; clear q1)
    rcases C2.out with g1 | ⟨g1, g2⟩ | ⟨g1, g2, g3⟩ | ⟨g1, g2, g3, g4⟩
    · clear C2
      go_wp2_with (first | (go_at_call 26; refine (less_at _ _ _ (by omega) (by omega)).mono ?_; rintro e v2 ⟨rfl, q1⟩; have hq := hq.trans q1; clear q1) | (go_at_call 24; refine (under_at _ _ _ (by omega) (by omega)).mono ?_; rintro e v2 ⟨rfl, q1⟩; have hq := hq.trans q1; clear q1) | (go_at_call 8; refine (told_any _).mono ?_; rintro e v2 ⟨rfl, q1⟩; have hq := hq.trans q1; clear q1))
      go_ret
      exact ⟨rfl, hq⟩
    · clear C2
      go_wp2_with (first | (go_at_call 26; refine (less_at _ _ _ (by omega) (by omega)).mono ?_; rintro e v2 ⟨rfl, q1⟩; have hq := hq.trans q1; clear q1) | (go_at_call 24; refine (under_at _ _ _ (by omega) (by omega)).mono ?_; rintro e v2 ⟨rfl, q1⟩; have hq := hq.trans q1; clear q1) | (go_at_call 8; refine (told_any _).mono ?_; rintro e v2 ⟨rfl, q1⟩; have hq := hq.trans q1; clear q1))
      go_ret
      exact ⟨rfl, hq⟩
    · clear C2
      go_wp2_with (first | (go_at_call 26; refine (less_at _ _ _ (by omega) (by omega)).mono ?_; rintro e v2 ⟨rfl, q1⟩; have hq := hq.trans q1; clear q1) | (go_at_call 24; refine (under_at _ _ _ (by omega) (by omega)).mono ?_; rintro e v2 ⟨rfl, q1⟩; have hq := hq.trans q1; clear q1) | (go_at_call 8; refine (told_any _).mono ?_; rintro e v2 ⟨rfl, q1⟩; have hq := hq.trans q1; clear q1))
      go_ret
      exact ⟨rfl, hq⟩
    · clear C2
      go_wp2_with (first | (go_at_call 26; refine (less_at _ _ _ (by omega) (by omega)).mono ?_; rintro e v2 ⟨rfl, q1⟩; have hq := hq.trans q1; clear q1) | (go_at_call 24; refine (under_at _ _ _ (by omega) (by omega)).mono ?_; rintro e v2 ⟨rfl, q1⟩; have hq := hq.trans q1; clear q1) | (go_at_call 8; refine (told_any _).mono ?_; rintro e v2 ⟨rfl, q1⟩; have hq := hq.trans q1; clear q1))
      go_ret
      exact ⟨rfl, hq⟩
  · go_wp2_with (go_at_call 26; refine (less_at _ _ _ (by omega) (by omega)).mono ?_; rintro e v2 ⟨rfl, q1⟩; have hq := hq.trans q1; clear q1)
    rcases C2.out with g1 | ⟨g1, g2⟩ | ⟨g1, g2, g3⟩ | ⟨g1, g2, g3, g4⟩
    · clear C2
      go_wp2_with (first | (go_at_call 26; refine (less_at _ _ _ (by omega) (by omega)).mono ?_; rintro e v2 ⟨rfl, q1⟩; have hq := hq.trans q1; clear q1) | (go_at_call 24; refine (under_at _ _ _ (by omega) (by omega)).mono ?_; rintro e v2 ⟨rfl, q1⟩; have hq := hq.trans q1; clear q1) | (go_at_call 8; refine (told_any _).mono ?_; rintro e v2 ⟨rfl, q1⟩; have hq := hq.trans q1; clear q1))
      go_ret
      exact ⟨rfl, hq⟩
    · clear C2
      go_wp2_with (first | (go_at_call 26; refine (less_at _ _ _ (by omega) (by omega)).mono ?_; rintro e v2 ⟨rfl, q1⟩; have hq := hq.trans q1; clear q1) | (go_at_call 24; refine (under_at _ _ _ (by omega) (by omega)).mono ?_; rintro e v2 ⟨rfl, q1⟩; have hq := hq.trans q1; clear q1) | (go_at_call 8; refine (told_any _).mono ?_; rintro e v2 ⟨rfl, q1⟩; have hq := hq.trans q1; clear q1))
      go_ret
      exact ⟨rfl, hq⟩
    · clear C2
      go_wp2_with (first | (go_at_call 26; refine (less_at _ _ _ (by omega) (by omega)).mono ?_; rintro e v2 ⟨rfl, q1⟩; have hq := hq.trans q1; clear q1) | (go_at_call 24; refine (under_at _ _ _ (by omega) (by omega)).mono ?_; rintro e v2 ⟨rfl, q1⟩; have hq := hq.trans q1; clear q1) | (go_at_call 8; refine (told_any _).mono ?_; rintro e v2 ⟨rfl, q1⟩; have hq := hq.trans q1; clear q1))
      go_ret
      exact ⟨rfl, hq⟩
    · clear C2
      go_wp2_with (first | (go_at_call 26; refine (less_at _ _ _ (by omega) (by omega)).mono ?_; rintro e v2 ⟨rfl, q1⟩; have hq := hq.trans q1; clear q1) | (go_at_call 24; refine (under_at _ _ _ (by omega) (by omega)).mono ?_; rintro e v2 ⟨rfl, q1⟩; have hq := hq.trans q1; clear q1) | (go_at_call 8; refine (told_any _).mono ?_; rintro e v2 ⟨rfl, q1⟩; have hq := hq.trans q1; clear q1))
      go_ret
      exact ⟨rfl, hq⟩

/-! ### The row -/
set_option maxRecDepth 100000 in
theorem lifted (os : Os) (started : os.Started) (H : Type) (enc : TypeId × Value → H) :
    ReturnsInHanded {} Try.checked os 5 .any (Rows.pathOrdersSpec.pre6 enc Try.prog Try.f5 Rows.pathOrdersRow.domain false) (Rows.pathOrdersSpec.post enc Try.prog Try.f5 false true false false) := by
  refine returnsInHanded_of_change (C := Try.checked) own started (by kernel_rfl) Try.func5
    (ChangeSpec.witness6 (enc := enc) (C := Try.checked) false ⟨#[], #[.slice none 0 0, .slice none 0 0, .slice none 0 0], []⟩ 8 (by kernel_rfl) (by kernel_rfl) (by kernel_rfl) (by kernel_rfl)) ?_
  intro W base args ds gs before hval0 hW hcnd _
  have hval : ∀ (j : Nat) t v, Try.f5.params[j]? = some t → args[j]? = some v → Value.okWide Try.prog W .any base t v := hval0
  have hW' := hW
  obtain ⟨p, q, hA0, hV, rfl, hfz, hnd⟩ := hW
  have hA : DataW.TrodAll enc Try.prog W 0 (fun _ => true) true Try.f5.params.toList args.toList ds p := hA0
  rw [Try.params5] at hA hval
  obtain ⟨v0, vs0, d0, ds0, p0, q0, hargs, rfl, rfl, h0, r0⟩ := trodAll_cons hA
  obtain ⟨v1, vs1, d1, ds1, p1, q1, rfl, rfl, rfl, h1, r1⟩ := trodAll_cons r0
  obtain ⟨v2, vs2, d2, ds2, p2, q2, rfl, rfl, rfl, h2, r2⟩ := trodAll_cons r1
  obtain ⟨rfl, rfl, rfl⟩ := trodAll_nil r2
  obtain rfl : args = #[v0, v1, v2] := by cases args; simp_all
  obtain ⟨rfl, rfl⟩ := trodVars_none hV
  obtain ⟨a0, len0, cap0, rfl⟩ := okWide_slice Try.underlying34 (hval 0 34 v0 rfl rfl)
  have k0 := h0
  have lt0 : ∀ x ∈ p0, x.block < W.heap.size := by obtain ⟨m, hm⟩ := k0; exact DataW.trod_lt m _ _ _ hm
  obtain ⟨z0, w0⟩ : ∃ zs, IsRow .i64 W a0 len0 cap0 zs := by
    obtain ⟨fuel, hf⟩ := h0
    rcases open_ints Try.underlying34 Try.underlying3 (by kernel_rfl) hf with ⟨hcs, _⟩ | ⟨x, l, c, zs, hcs, _, hl, hm, hz, _, hcell, hwz⟩
    · simp [Value.cells] at hcs
      obtain ⟨rfl, rfl, rfl⟩ := hcs
      exact ⟨[], .inl ⟨rfl, rfl, rfl, rfl⟩⟩
    · simp [Value.cells] at hcs
      obtain ⟨rfl, rfl, rfl⟩ := hcs
      exact ⟨zs, .inr ⟨_, rfl, hl, hm, by simpa using hz, hcell, hwz⟩⟩
  obtain ⟨a1, len1, cap1, rfl⟩ := okWide_slice Try.underlying34 (hval 1 34 v1 rfl rfl)
  have k1 := h1
  have lt1 : ∀ x ∈ p1, x.block < W.heap.size := by obtain ⟨m, hm⟩ := k1; exact DataW.trod_lt m _ _ _ hm
  obtain ⟨z1, w1⟩ : ∃ zs, IsRow .i64 W a1 len1 cap1 zs := by
    obtain ⟨fuel, hf⟩ := h1
    rcases open_ints Try.underlying34 Try.underlying3 (by kernel_rfl) hf with ⟨hcs, _⟩ | ⟨x, l, c, zs, hcs, _, hl, hm, hz, _, hcell, hwz⟩
    · simp [Value.cells] at hcs
      obtain ⟨rfl, rfl, rfl⟩ := hcs
      exact ⟨[], .inl ⟨rfl, rfl, rfl, rfl⟩⟩
    · simp [Value.cells] at hcs
      obtain ⟨rfl, rfl, rfl⟩ := hcs
      exact ⟨zs, .inr ⟨_, rfl, hl, hm, by simpa using hz, hcell, hwz⟩⟩
  obtain ⟨a2, len2, cap2, rfl⟩ := okWide_slice Try.underlying34 (hval 2 34 v2 rfl rfl)
  have k2 := h2
  have lt2 : ∀ x ∈ p2, x.block < W.heap.size := by obtain ⟨m, hm⟩ := k2; exact DataW.trod_lt m _ _ _ hm
  obtain ⟨z2, w2⟩ : ∃ zs, IsRow .i64 W a2 len2 cap2 zs := by
    obtain ⟨fuel, hf⟩ := h2
    rcases open_ints Try.underlying34 Try.underlying3 (by kernel_rfl) hf with ⟨hcs, _⟩ | ⟨x, l, c, zs, hcs, _, hl, hm, hz, _, hcell, hwz⟩
    · simp [Value.cells] at hcs
      obtain ⟨rfl, rfl, rfl⟩ := hcs
      exact ⟨[], .inl ⟨rfl, rfl, rfl, rfl⟩⟩
    · simp [Value.cells] at hcs
      obtain ⟨rfl, rfl, rfl⟩ := hcs
      exact ⟨zs, .inr ⟨_, rfl, hl, hm, by simpa using hz, hcell, hwz⟩⟩
  clear hA0 hval0
  refine (walk a0 len0 cap0 z0 a1 len1 cap1 z1 a2 len2 cap2 z2 W w0 w1 w2).mono fun e W' ⟨he, bel⟩ => ?_
  subst he
  exact ⟨_, rfl, _, _, _, [], _, [], hW', trodAll_mk1 (shut_bool Try.underlying4 _), (trodAll_cons_mk (Below.trod laidOut (by kernel_rfl) (of_decide_eq_true (by kernel_rfl)) k0 bel lt0) (trodAll_cons_mk (Below.trod laidOut (by kernel_rfl) (of_decide_eq_true (by kernel_rfl)) k1 bel lt1) (trodAll_cons_mk (Below.trod laidOut (by kernel_rfl) (of_decide_eq_true (by kernel_rfl)) k2 bel lt2) trodAll_mk0))), rfl, Below.frame bel _, fun h => by cases h⟩

theorem over : Rows.pathOrdersRow.holds Try.pinned (OpenSpec.ofChange Rows.pathOrdersSpec) :=
  OpenClaim.holds_of_wide 5 Try.f5 rfl rfl rfl rfl rfl rfl rfl ⟨rfl, rfl, rfl, rfl, rfl⟩ rfl rfl rfl rfl rfl (by kernel_rfl) Try.func5 (by kernel_rfl)
    (of_decide_eq_true (by kernel_rfl)) (by unfold Func.isWrapper; first | (rw [if_pos (by decide +kernel)]; kernel_rfl) | (rw [if_neg (by decide +kernel)]; exact ⟨rfl, rfl⟩))
    (fun os started H enc _ => lifted os started H enc)

theorem proved : Rows.PathOrdersSaid := over

end Go.Proofs.Ytafekepgnockjaa.pathOrders
