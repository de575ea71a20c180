/-
  The contracts of extent's small functions: limit, whole, At, Long, end, Of, between, cut.
-/
import Derived.Test.YtheobpilmphdjaaGreatEFloat
import Derived.Test.YtheobpilmphdjaaGreatERng
namespace Go.Proofs.YtheobpilmphdjaaGreat.Ex
open Go.RowKit
open Rng

/-- An extent of whole numbers, as a value. -/
def E (x : X) : Value := .complex .f64 (fl x.1) (fl x.2)

set_option maxRecDepth 100000 in
set_option maxHeartbeats 400000 in
theorem limit_any (n : Int) (w : World) : Calls Tryz.prog 56 #[.int .i64 n] w fun e w' => e = .returned (.int .i64 (lim n)) ∧ w' = w := by
  by_cases h1 : n < 0
  · have E : Hid (lim n = 0) := by show ((min (max n 0).toNat M : Nat) : Int) = _; unfold M; omega
    go_enter Tryz.func56, Tryz.ntmps56
    go_wp2
    go_ret
    exact ⟨ret_int E.out.symm, rfl⟩
  · by_cases h2 : 1099511627776 < n
    · have E : Hid (lim n = 1099511627776) := by show ((min (max n 0).toNat M : Nat) : Int) = _; unfold M; omega
      go_enter Tryz.func56, Tryz.ntmps56
      go_wp2
      go_ret
      exact ⟨ret_int E.out.symm, rfl⟩
    · have E : Hid (lim n = n) := by show ((min (max n 0).toNat M : Nat) : Int) = _; unfold M; omega
      go_enter Tryz.func56, Tryz.ntmps56
      go_wp2
      go_ret
      exact ⟨ret_int E.out.symm, rfl⟩

set_option maxRecDepth 100000 in
set_option maxHeartbeats 400000 in
theorem whole_any (n : Nat) (w : World) (h : n ≤ M) : Calls Tryz.prog 75 #[.float .f64 (fl n)] w fun e w' => e = .returned (.int .i64 n) ∧ w' = w := by
  unfold M at h
  have hg := gt_fl n 0 (by omega) (by omega)
  rw [fl_zero] at hg
  have hm : ∀ ts t w, Sem.run Tryz.prog (Builtin.min_ ts t #[.float .f64 (fl n), .float .f64 4787326403894837248]) w = .ok (.float .f64 (fl n)) w := by
    intro ts t w
    have := run_min_fl (P := Tryz.prog) ts t n 1099511627776 (by omega) (by omega) w
    rw [fl_most, Nat.min_eq_left h] at this
    exact this
  have hc : ∀ w, Sem.run Tryz.prog (convert 64 2 (.float .f64 (fl n))) w = .ok (.int .i64 n) w := fun w => run_convert_float_int w _ _ _ _ _ _ (by kernel_rfl) (by kernel_rfl) (toInt_fl n (by omega))
  by_cases h0 : n = 0
  · subst h0
    have hg' : (FloatKind.f64.format.order (fl 0) 0 == some .gt) = false := hg
    clear hg hm hc
    go_enter Tryz.func75, Tryz.ntmps75
    go_wp2
    go_ret
    exact ⟨rfl, rfl⟩
  · have hg' : (FloatKind.f64.format.order (fl n) 0 == some .gt) = true := by rw [hg]; exact decide_eq_true (by omega)
    clear hg
    go_enter Tryz.func75, Tryz.ntmps75
    go_wp2
    go_ret
    exact ⟨rfl, rfl⟩

set_option maxRecDepth 100000 in
set_option maxHeartbeats 400000 in
theorem at_any (x : X) (w : World) (h : x.1 ≤ M) : Calls Tryz.prog 52 #[E x] w fun e w' => e = .returned (.int .i64 x.1) ∧ w' = w := by
  unfold E
  go_enter Tryz.func52, Tryz.ntmps52
  go_wp2_with (go_at_call 75; refine (whole_any x.1 _ h).mono ?_; rintro e w1 ⟨rfl, rfl⟩)
  go_ret
  exact ⟨rfl, rfl⟩

set_option maxRecDepth 100000 in
set_option maxHeartbeats 400000 in
theorem long_any (x : X) (w : World) (h : x.2 ≤ M) : Calls Tryz.prog 55 #[E x] w fun e w' => e = .returned (.int .i64 x.2) ∧ w' = w := by
  unfold E
  go_enter Tryz.func55, Tryz.ntmps55
  go_wp2_with (go_at_call 75; refine (whole_any x.2 _ h).mono ?_; rintro e w1 ⟨rfl, rfl⟩)
  go_ret
  exact ⟨rfl, rfl⟩

set_option maxRecDepth 100000 in
set_option maxHeartbeats 400000 in
theorem end_any (x : X) (w : World) (h : x.1 ≤ M) (h' : x.2 ≤ M) : Calls Tryz.prog 53 #[E x] w fun e w' => e = .returned (.int .i64 ((x.1 : Int) + (x.2 : Int))) ∧ w' = w := by
  have b1 := h
  have b2 := h'
  unfold M at b1 b2
  go_enter Tryz.func53, Tryz.ntmps53
  go_wp2_with fail
  refine (at_any x _ h).mono ?_
  rintro e w1 ⟨rfl, rfl⟩
  go_wp2_with fail
  refine (long_any x _ h').mono ?_
  rintro e w1 ⟨rfl, rfl⟩
  go_wp2
  go_ret
  exact ⟨ret_int (by omega), rfl⟩

set_option maxRecDepth 100000 in
set_option maxHeartbeats 400000 in
theorem of_any (a b : Int) (w : World) : Calls Tryz.prog 36 #[.int .i64 a, .int .i64 b] w fun e w' => e = .returned (E (limN a, limN b)) ∧ w' = w := by
  go_enter Tryz.func36, Tryz.ntmps36
  go_wp2_with fail
  refine (limit_any a _).mono ?_
  rintro e w1 ⟨rfl, rfl⟩
  go_wp2_with fail
  refine (limit_any b _).mono ?_
  rintro e w1 ⟨rfl, rfl⟩
  go_wp2
  go_ret
  exact ⟨rfl, rfl⟩

set_option maxRecDepth 100000 in
set_option maxHeartbeats 400000 in
theorem between_any (a b : Nat) (w : World) (h : a ≤ b) (hb : b ≤ M) : Calls Tryz.prog 54 #[.int .i64 a, .int .i64 b] w fun e w' => e = .returned (E (a, b - a)) ∧ w' = w := by
  have E1 : Hid (limN (a : Int) = a ∧ limN ((b : Int) - (a : Int)) = b - a) := by
    unfold M at hb
    exact ⟨by unfold limN M; omega, by unfold limN M; omega⟩
  unfold M at hb
  go_enter Tryz.func54, Tryz.ntmps54
  go_wp2_with fail
  refine (of_any _ _ _).mono ?_
  rintro e w1 ⟨rfl, rfl⟩
  go_wp2
  go_ret
  exact ⟨by rw [E1.out.1, E1.out.2]; rfl, rfl⟩

set_option maxRecDepth 100000 in
set_option maxHeartbeats 400000 in
theorem cut_any (x : X) (w : World) (h : x.1 ≤ M) (h' : x.2 ≤ M) : Calls Tryz.prog 71 #[E x] w fun e w' => e = .returned (E (cutN x)) ∧ w' = w := by
  have b1 := h
  have b2 := h'
  unfold M at b1 b2
  by_cases h2 : 1099511627776 < x.1 + x.2
  · have hb := fun w => between_any x.1 M w h (Nat.le_refl _)
    have E1 : Hid (cutN x = (x.1, M - x.1)) := by unfold Hid cutN M; rw [Nat.min_eq_right (by omega)]
    go_enter Tryz.func71, Tryz.ntmps71
    go_wp2_with fail
    refine (at_any x _ h).mono ?_
    rintro e w1 ⟨rfl, rfl⟩
    go_wp2_with fail
    refine (end_any x _ h h').mono ?_
    rintro e w1 ⟨rfl, rfl⟩
    go_wp2_with fail
    refine (hb _).mono ?_
    rintro e w1 ⟨rfl, rfl⟩
    go_wp2
    go_ret
    exact ⟨by rw [E1.out]; rfl, rfl⟩
  · have hb := fun w => between_any x.1 (x.1 + x.2) w (by omega) (by unfold M; omega)
    have E1 : Hid (cutN x = (x.1, x.2)) := by unfold Hid cutN M; rw [Nat.min_eq_left (by omega), Nat.add_sub_cancel_left]
    go_enter Tryz.func71, Tryz.ntmps71
    go_wp2_with fail
    refine (at_any x _ h).mono ?_
    rintro e w1 ⟨rfl, rfl⟩
    go_wp2_with fail
    refine (end_any x _ h h').mono ?_
    rintro e w1 ⟨rfl, rfl⟩
    go_wp2_with fail
    refine (hb _).mono ?_
    rintro e w1 ⟨rfl, rfl⟩
    go_wp2
    go_ret
    exact ⟨by rw [E1.out]; rfl, rfl⟩
end Go.Proofs.YtheobpilmphdjaaGreat.Ex
