/-
  Whole numbers as floats of 64 bits: below 2 to the 53rd they are exact: order, least, and back.
-/
import Derived.Test.YtheobpilmphdjaaGreatBase
namespace Go.Proofs.YtheobpilmphdjaaGreat.Ex
open Go.RowKit

/-- The bits of a whole number. -/
def fl (n : Nat) : Nat := FloatKind.f64.nearest (n : Int)
theorem fl_of (n : Nat) : floatOfInt .f64 (n : Int) = fl n := rfl

theorem d_least : Ieee.double.leastPlace = -1074 := by decide +kernel
theorem d_frac : Ieee.double.fractionBits = 52 := by decide +kernel
theorem d_binade : Ieee.double.binade = 2 ^ 52 := by decide +kernel
theorem d_inf : Ieee.double.infRung = 2047 * 2 ^ 52 := by decide +kernel
theorem d_sign : Ieee.double.signWeight = 2 ^ 63 := by decide +kernel
theorem d_word (r : Nat) : Ieee.double.word false r = r := by
  unfold Ieee.Format.word
  rw [if_neg (by decide)]
theorem d_cut (m : Nat) : Ieee.Toward.cut .even false m 0 = m := by
  unfold Ieee.Toward.cut
  simp [Nat.mod_one]
theorem d_place (L : Nat) (h : L < 53) : max ((0 : Int) + (L : Int) - ((52 : Nat) : Int)) (-1074) = (L : Int) - 52 := by
  omega

theorem nearest_pos (n : Nat) (h0 : 0 < n) (h : n < 2 ^ 53) : Ieee.double.nearest false n 0 = (n.log2 + 1022) * 2 ^ 52 + n * 2 ^ (52 - n.log2) := by
  have hL : n.log2 < 53 := (Nat.log2_lt (by omega)).2 h
  have hlt : n * 2 ^ (52 - n.log2) < 2 ^ 53 := by
    have h1 : n < 2 ^ (n.log2 + 1) := Nat.lt_log2_self
    have h2 : n * 2 ^ (52 - n.log2) < 2 ^ (n.log2 + 1) * 2 ^ (52 - n.log2) := Nat.mul_lt_mul_of_pos_right h1 (Nat.two_pow_pos _)
    rw [← Nat.pow_add, show n.log2 + 1 + (52 - n.log2) = 53 by omega] at h2
    exact h2
  have e1 := d_place n.log2 hL
  have e2 : ((0 : Int) - ((n.log2 : Int) - 52)).toNat = 52 - n.log2 := by omega
  have e3 : ((n.log2 : Int) - 52 - 0).toNat = 0 := by omega
  have e4 : ((n.log2 : Int) - 52 - (-1074)).toNat = n.log2 + 1022 := by omega
  unfold Ieee.Format.nearest
  rw [if_neg (by omega)]
  simp only [d_least, d_frac, e1, e2, e3, d_cut, d_word, d_inf, d_binade, e4, Nat.shiftLeft_eq]
  clear e1 e2 e3 e4
  generalize n * 2 ^ (52 - n.log2) = m at *
  generalize n.log2 = L at *
  rw [Nat.min_eq_left]
  omega

theorem fl_pos (n : Nat) (h0 : 0 < n) (h : n < 2 ^ 53) : fl n = (n.log2 + 1022) * 2 ^ 52 + n * 2 ^ (52 - n.log2) := by
  rw [← nearest_pos n h0 h]
  show Ieee.double.nearest (decide ((n : Int) < 0)) (n : Int).natAbs 0 = _
  have : decide ((n : Int) < 0) = false := decide_eq_false (by omega)
  rw [this, Int.natAbs_natCast]

theorem read_fl (n : Nat) (h : n < 2 ^ 53) : ∃ k : Nat, FloatKind.f64.format.read (fl n) = .number false (n * 2 ^ k) (-(k : Int)) := by
  by_cases h0 : n = 0
  · subst h0
    exact ⟨1074, by decide +kernel⟩
  have hp : 0 < n := by omega
  rw [fl_pos n hp h]
  have hL : n.log2 < 53 := (Nat.log2_lt (by omega)).2 h
  have hlt : n * 2 ^ (52 - n.log2) < 2 ^ 53 := by
    have h1 : n < 2 ^ (n.log2 + 1) := Nat.lt_log2_self
    have h2 : n * 2 ^ (52 - n.log2) < 2 ^ (n.log2 + 1) * 2 ^ (52 - n.log2) := Nat.mul_lt_mul_of_pos_right h1 (Nat.two_pow_pos _)
    rw [← Nat.pow_add, show n.log2 + 1 + (52 - n.log2) = 53 by omega] at h2
    exact h2
  have hge : 2 ^ 52 ≤ n * 2 ^ (52 - n.log2) := by
    have h1 : 2 ^ n.log2 ≤ n := Nat.log2_self_le (by omega)
    have h2 : 2 ^ n.log2 * 2 ^ (52 - n.log2) ≤ n * 2 ^ (52 - n.log2) := Nat.mul_le_mul_right _ h1
    rw [← Nat.pow_add, show n.log2 + (52 - n.log2) = 52 by omega] at h2
    exact h2
  refine ⟨52 - n.log2, ?_⟩
  show Ieee.Format.read Ieee.double _ = _
  unfold Ieee.Format.read
  rw [d_sign, d_inf, d_binade, d_least]
  generalize hm : n * 2 ^ (52 - n.log2) = m at *
  generalize n.log2 = L at *
  have a1 : ((L + 1022) * 2 ^ 52 + m) / 2 ^ 63 = 0 := by omega
  have a2 : ((L + 1022) * 2 ^ 52 + m) % 2 ^ 63 = (L + 1022) * 2 ^ 52 + m := by omega
  have a3 : ((L + 1022) * 2 ^ 52 + m) % 2 ^ 52 = m - 2 ^ 52 := by omega
  have a4 : ((L + 1022) * 2 ^ 52 + m) / 2 ^ 52 = L + 1023 := by omega
  simp only [a1, a2, a3, a4]
  rw [if_neg (by omega), if_pos (by omega)]
  have b1 : 2 ^ 52 + (m - 2 ^ 52) = m := by omega
  have b2 : (-1074 : Int) + ((L + 1023 - 1 : Nat) : Int) = -((52 - L : Nat) : Int) := by omega
  rw [b1, b2]
  rfl

theorem compare_mul (a b c : Nat) (hc : 0 < c) : compare ((a * c : Nat) : Int) ((b * c : Nat) : Int) = compare a b := by
  rcases Nat.lt_trichotomy a b with h | h | h
  · have : a * c < b * c := Nat.mul_lt_mul_of_pos_right h hc
    rw [Nat.compare_eq_lt.2 h]
    exact Int.compare_eq_lt.2 (by omega)
  · subst h
    rw [Nat.compare_eq_eq.2 rfl]
    exact Int.compare_eq_eq.2 rfl
  · have : b * c < a * c := Nat.mul_lt_mul_of_pos_right h hc
    rw [Nat.compare_eq_gt.2 h]
    exact Int.compare_eq_gt.2 (by omega)

theorem order_fl (a b : Nat) (ha : a < 2 ^ 53) (hb : b < 2 ^ 53) : FloatKind.f64.format.order (fl a) (fl b) = some (compare a b) := by
  obtain ⟨k, hk⟩ := read_fl a ha
  obtain ⟨l, hl⟩ := read_fl b hb
  unfold Ieee.Format.order
  rw [hk, hl]
  unfold Ieee.Datum.order Ieee.signed
  simp only [Bool.false_eq_true, if_false, Nat.shiftLeft_eq]
  have e1 : (-(k : Int) - min (-(k : Int)) (-(l : Int))).toNat = max k l - k := by omega
  have e2 : (-(l : Int) - min (-(k : Int)) (-(l : Int))).toNat = max k l - l := by omega
  rw [e1, e2, Nat.mul_assoc, Nat.mul_assoc, ← Nat.pow_add, ← Nat.pow_add, show k + (max k l - k) = max k l by omega, show l + (max k l - l) = max k l by omega]
  rw [compare_mul _ _ _ (Nat.two_pow_pos _)]

theorem toInt_fl (n : Nat) (h : n < 2 ^ 53) : floatToIntVal .f64 (fl n) .i64 = some (n : Int) := by
  obtain ⟨k, hk⟩ := read_fl n h
  unfold floatToIntVal FloatKind.decode
  rw [hk]
  have e1 : (-(k : Int)).toNat = 0 := by omega
  have e2 : (-(-(k : Int))).toNat = k := by omega
  have e3 : Ieee.Toward.cut .zero false (n * 2 ^ k) k = n := by
    unfold Ieee.Toward.cut
    simp only [Bool.toNat_false, Nat.add_zero, Nat.shiftLeft_eq, Nat.one_mul]
    by_cases h0 : n = 0
    · subst h0; simp
    · have hk2 : k ≤ (n * 2 ^ k).log2 + 2 := by
        have h1 : 2 ^ k ≤ n * 2 ^ k := Nat.le_mul_of_pos_left _ (by omega)
        have : k ≤ (n * 2 ^ k).log2 := (Nat.le_log2 (by have := Nat.two_pow_pos k; omega)).2 h1
        omega
      rw [Nat.min_eq_left hk2]
      exact Nat.mul_div_cancel _ (Nat.two_pow_pos _)
  have e4 : (Ieee.Datum.number false (n * 2 ^ k) (-(k : Int))).toInt .zero = some (n : Int) := by
    unfold Ieee.Datum.toInt Ieee.Datum.integral
    simp only [e1, e2, Nat.shiftLeft_zero, e3]
    simp [Ieee.signed]
  rw [e4]
  have : IntKind.i64.min ≤ (n : Int) ∧ (n : Int) ≤ IntKind.i64.max := by
    have a1 : IntKind.i64.min = -9223372036854775808 := rfl
    have a2 : IntKind.i64.max = 9223372036854775807 := rfl
    rw [a1, a2]
    omega
  show (if IntKind.i64.min ≤ (n : Int) ∧ (n : Int) ≤ IntKind.i64.max then some (n : Int) else none) = some (n : Int)
  rw [if_pos this]

theorem gt_fl (a b : Nat) (ha : a < 2 ^ 53) (hb : b < 2 ^ 53) : (FloatKind.f64.format.order (fl a) (fl b) == some .gt) = decide (b < a) := by
  rw [order_fl a b ha hb]
  rcases Nat.lt_trichotomy a b with h | h | h
  · rw [Nat.compare_eq_lt.2 h, decide_eq_false (by omega)]; rfl
  · rw [Nat.compare_eq_eq.2 h, decide_eq_false (by omega)]; rfl
  · rw [Nat.compare_eq_gt.2 h, decide_eq_true (by omega)]; rfl
theorem lt_fl (a b : Nat) (ha : a < 2 ^ 53) (hb : b < 2 ^ 53) : (FloatKind.f64.format.order (fl a) (fl b) == some .lt) = decide (a < b) := by
  rw [order_fl a b ha hb]
  rcases Nat.lt_trichotomy a b with h | h | h
  · rw [Nat.compare_eq_lt.2 h, decide_eq_true (by omega)]; rfl
  · rw [Nat.compare_eq_eq.2 h, decide_eq_false (by omega)]; rfl
  · rw [Nat.compare_eq_gt.2 h, decide_eq_false (by omega)]; rfl
theorem eq_fl (a b : Nat) (ha : a < 2 ^ 53) (hb : b < 2 ^ 53) : (FloatKind.f64.format.order (fl a) (fl b) == some .eq) = decide (a = b) := by
  rw [order_fl a b ha hb]
  rcases Nat.lt_trichotomy a b with h | h | h
  · rw [Nat.compare_eq_lt.2 h, decide_eq_false (by omega)]; rfl
  · rw [Nat.compare_eq_eq.2 h, decide_eq_true (by omega)]; rfl
  · rw [Nat.compare_eq_gt.2 h, decide_eq_false (by omega)]; rfl
theorem ne_fl (a b : Nat) (ha : a < 2 ^ 53) (hb : b < 2 ^ 53) : (FloatKind.f64.format.order (fl a) (fl b) != some .eq) = !decide (a = b) := by
  unfold bne
  rw [eq_fl a b ha hb]
theorem run_min_fl {P : Program} (ts : Array TypeId) (t : TypeId) (a b : Nat) (ha : a < 2 ^ 53) (hb : b < 2 ^ 53) (w : World) : (Builtin.min_ ts t #[.float .f64 (fl a), .float .f64 (fl b)]).run P w = .ok (.float .f64 (fl (min a b))) w := by
  have h0 := order_fl a b ha hb
  rcases Nat.lt_trichotomy a b with h | h | h
  · rw [Nat.compare_eq_lt.2 h] at h0
    rw [Nat.min_eq_left (by omega)]
    simp [Builtin.min_, Builtin.min2, h0]
  · rw [Nat.compare_eq_eq.2 h] at h0
    subst h
    rw [Nat.min_eq_left (by omega)]
    simp [Builtin.min_, Builtin.min2, h0]
  · rw [Nat.compare_eq_gt.2 h] at h0
    rw [Nat.min_eq_right (by omega)]
    simp [Builtin.min_, Builtin.min2, h0]
theorem fl_zero : fl 0 = 0 := by decide +kernel
theorem fl_most : fl 1099511627776 = 4787326403894837248 := by decide +kernel
end Go.Proofs.YtheobpilmphdjaaGreat.Ex
