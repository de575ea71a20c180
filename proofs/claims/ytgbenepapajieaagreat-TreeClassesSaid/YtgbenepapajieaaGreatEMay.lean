/-
  Whole numbers as floats of 64 bits: below 2 to the 53rd they are exact: order, least, and back. slices.SortFunc at lists of extents: the program bears the bodies that the contract asks for. Lists of ranges of whole numbers: which numbers they hold; ascending lists with gaps are told by what they hold. The contracts of extent's small functions: limit, whole, At, Long, end, Of, between, cut. Lists of extents in memory; the contracts of Same, Has, May. The contract of extent.May.
-/
import Derived.Test.YtgbenepapajieaaGreatCmp
import Derived.Test.YtgbenepapajieaaGreatRows
import Derived.Deep.QuietTactic
import Derived.BigQuiet
namespace Go.Proofs.YtgbenepapajieaaGreat.Ex
open Go.RowKit

/-- The bits of a whole number. -/
def fl (n : Nat) : Nat := FloatKind.f64.nearest (n : Int)
theorem fl_of (n : Nat) : floatOfInt .f64 (n : Int) = fl n := rfl

theorem d_least : Ieee.double.leastPlace = -1074 := by decide +kernel
theorem d_frac : Ieee.double.fractionBits = 52 := by decide +kernel
theorem d_binade : Ieee.double.binade = 2 ^ 52 := by decide +kernel
theorem d_inf : Ieee.double.infRung = 2047 * 2 ^ 52 := by decide +kernel
theorem d_sign : Ieee.double.signWeight = 2 ^ 63 := by decide +kernel
theorem d_word (r : Nat) : Ieee.double.word false r = r := by
  unfold Ieee.Format.word
  rw [if_neg (by decide)]
theorem d_cut (m : Nat) : Ieee.Toward.cut .even false m 0 = m := by
  unfold Ieee.Toward.cut
  simp [Nat.mod_one]
theorem d_place (L : Nat) (h : L < 53) : max ((0 : Int) + (L : Int) - ((52 : Nat) : Int)) (-1074) = (L : Int) - 52 := by
  omega

theorem nearest_pos (n : Nat) (h0 : 0 < n) (h : n < 2 ^ 53) : Ieee.double.nearest false n 0 = (n.log2 + 1022) * 2 ^ 52 + n * 2 ^ (52 - n.log2) := by
  have hL : n.log2 < 53 := (Nat.log2_lt (by omega)).2 h
  have hlt : n * 2 ^ (52 - n.log2) < 2 ^ 53 := by
    have h1 : n < 2 ^ (n.log2 + 1) := Nat.lt_log2_self
    have h2 : n * 2 ^ (52 - n.log2) < 2 ^ (n.log2 + 1) * 2 ^ (52 - n.log2) := Nat.mul_lt_mul_of_pos_right h1 (Nat.two_pow_pos _)
    rw [← Nat.pow_add, show n.log2 + 1 + (52 - n.log2) = 53 by omega] at h2
    exact h2
  have e1 := d_place n.log2 hL
  have e2 : ((0 : Int) - ((n.log2 : Int) - 52)).toNat = 52 - n.log2 := by omega
  have e3 : ((n.log2 : Int) - 52 - 0).toNat = 0 := by omega
  have e4 : ((n.log2 : Int) - 52 - (-1074)).toNat = n.log2 + 1022 := by omega
  unfold Ieee.Format.nearest
  rw [if_neg (by omega)]
  simp only [d_least, d_frac, e1, e2, e3, d_cut, d_word, d_inf, d_binade, e4, Nat.shiftLeft_eq]
  clear e1 e2 e3 e4
  generalize n * 2 ^ (52 - n.log2) = m at *
  generalize n.log2 = L at *
  rw [Nat.min_eq_left]
  omega

theorem fl_pos (n : Nat) (h0 : 0 < n) (h : n < 2 ^ 53) : fl n = (n.log2 + 1022) * 2 ^ 52 + n * 2 ^ (52 - n.log2) := by
  rw [← nearest_pos n h0 h]
  show Ieee.double.nearest (decide ((n : Int) < 0)) (n : Int).natAbs 0 = _
  have : decide ((n : Int) < 0) = false := decide_eq_false (by omega)
  rw [this, Int.natAbs_natCast]

theorem read_fl (n : Nat) (h : n < 2 ^ 53) : ∃ k : Nat, FloatKind.f64.format.read (fl n) = .number false (n * 2 ^ k) (-(k : Int)) := by
  by_cases h0 : n = 0
  · subst h0
    exact ⟨1074, by decide +kernel⟩
  have hp : 0 < n := by omega
  rw [fl_pos n hp h]
  have hL : n.log2 < 53 := (Nat.log2_lt (by omega)).2 h
  have hlt : n * 2 ^ (52 - n.log2) < 2 ^ 53 := by
    have h1 : n < 2 ^ (n.log2 + 1) := Nat.lt_log2_self
    have h2 : n * 2 ^ (52 - n.log2) < 2 ^ (n.log2 + 1) * 2 ^ (52 - n.log2) := Nat.mul_lt_mul_of_pos_right h1 (Nat.two_pow_pos _)
    rw [← Nat.pow_add, show n.log2 + 1 + (52 - n.log2) = 53 by omega] at h2
    exact h2
  have hge : 2 ^ 52 ≤ n * 2 ^ (52 - n.log2) := by
    have h1 : 2 ^ n.log2 ≤ n := Nat.log2_self_le (by omega)
    have h2 : 2 ^ n.log2 * 2 ^ (52 - n.log2) ≤ n * 2 ^ (52 - n.log2) := Nat.mul_le_mul_right _ h1
    rw [← Nat.pow_add, show n.log2 + (52 - n.log2) = 52 by omega] at h2
    exact h2
  refine ⟨52 - n.log2, ?_⟩
  show Ieee.Format.read Ieee.double _ = _
  unfold Ieee.Format.read
  rw [d_sign, d_inf, d_binade, d_least]
  generalize hm : n * 2 ^ (52 - n.log2) = m at *
  generalize n.log2 = L at *
  have a1 : ((L + 1022) * 2 ^ 52 + m) / 2 ^ 63 = 0 := by omega
  have a2 : ((L + 1022) * 2 ^ 52 + m) % 2 ^ 63 = (L + 1022) * 2 ^ 52 + m := by omega
  have a3 : ((L + 1022) * 2 ^ 52 + m) % 2 ^ 52 = m - 2 ^ 52 := by omega
  have a4 : ((L + 1022) * 2 ^ 52 + m) / 2 ^ 52 = L + 1023 := by omega
  simp only [a1, a2, a3, a4]
  rw [if_neg (by omega), if_pos (by omega)]
  have b1 : 2 ^ 52 + (m - 2 ^ 52) = m := by omega
  have b2 : (-1074 : Int) + ((L + 1023 - 1 : Nat) : Int) = -((52 - L : Nat) : Int) := by omega
  rw [b1, b2]
  rfl

theorem compare_mul (a b c : Nat) (hc : 0 < c) : compare ((a * c : Nat) : Int) ((b * c : Nat) : Int) = compare a b := by
  rcases Nat.lt_trichotomy a b with h | h | h
  · have : a * c < b * c := Nat.mul_lt_mul_of_pos_right h hc
    rw [Nat.compare_eq_lt.2 h]
    exact Int.compare_eq_lt.2 (by omega)
  · subst h
    rw [Nat.compare_eq_eq.2 rfl]
    exact Int.compare_eq_eq.2 rfl
  · have : b * c < a * c := Nat.mul_lt_mul_of_pos_right h hc
    rw [Nat.compare_eq_gt.2 h]
    exact Int.compare_eq_gt.2 (by omega)

theorem order_fl (a b : Nat) (ha : a < 2 ^ 53) (hb : b < 2 ^ 53) : FloatKind.f64.format.order (fl a) (fl b) = some (compare a b) := by
  obtain ⟨k, hk⟩ := read_fl a ha
  obtain ⟨l, hl⟩ := read_fl b hb
  unfold Ieee.Format.order
  rw [hk, hl]
  unfold Ieee.Datum.order Ieee.signed
  simp only [Bool.false_eq_true, if_false, Nat.shiftLeft_eq]
  have e1 : (-(k : Int) - min (-(k : Int)) (-(l : Int))).toNat = max k l - k := by omega
  have e2 : (-(l : Int) - min (-(k : Int)) (-(l : Int))).toNat = max k l - l := by omega
  rw [e1, e2, Nat.mul_assoc, Nat.mul_assoc, ← Nat.pow_add, ← Nat.pow_add, show k + (max k l - k) = max k l by omega, show l + (max k l - l) = max k l by omega]
  rw [compare_mul _ _ _ (Nat.two_pow_pos _)]

theorem toInt_fl (n : Nat) (h : n < 2 ^ 53) : floatToIntVal .f64 (fl n) .i64 = some (n : Int) := by
  obtain ⟨k, hk⟩ := read_fl n h
  unfold floatToIntVal FloatKind.decode
  rw [hk]
  have e1 : (-(k : Int)).toNat = 0 := by omega
  have e2 : (-(-(k : Int))).toNat = k := by omega
  have e3 : Ieee.Toward.cut .zero false (n * 2 ^ k) k = n := by
    unfold Ieee.Toward.cut
    simp only [Bool.toNat_false, Nat.add_zero, Nat.shiftLeft_eq, Nat.one_mul]
    by_cases h0 : n = 0
    · subst h0; simp
    · have hk2 : k ≤ (n * 2 ^ k).log2 + 2 := by
        have h1 : 2 ^ k ≤ n * 2 ^ k := Nat.le_mul_of_pos_left _ (by omega)
        have : k ≤ (n * 2 ^ k).log2 := (Nat.le_log2 (by have := Nat.two_pow_pos k; omega)).2 h1
        omega
      rw [Nat.min_eq_left hk2]
      exact Nat.mul_div_cancel _ (Nat.two_pow_pos _)
  have e4 : (Ieee.Datum.number false (n * 2 ^ k) (-(k : Int))).toInt .zero = some (n : Int) := by
    unfold Ieee.Datum.toInt Ieee.Datum.integral
    simp only [e1, e2, Nat.shiftLeft_zero, e3]
    simp [Ieee.signed]
  rw [e4]
  have : IntKind.i64.min ≤ (n : Int) ∧ (n : Int) ≤ IntKind.i64.max := by
    have a1 : IntKind.i64.min = -9223372036854775808 := rfl
    have a2 : IntKind.i64.max = 9223372036854775807 := rfl
    rw [a1, a2]
    omega
  show (if IntKind.i64.min ≤ (n : Int) ∧ (n : Int) ≤ IntKind.i64.max then some (n : Int) else none) = some (n : Int)
  rw [if_pos this]

theorem gt_fl (a b : Nat) (ha : a < 2 ^ 53) (hb : b < 2 ^ 53) : (FloatKind.f64.format.order (fl a) (fl b) == some .gt) = decide (b < a) := by
  rw [order_fl a b ha hb]
  rcases Nat.lt_trichotomy a b with h | h | h
  · rw [Nat.compare_eq_lt.2 h, decide_eq_false (by omega)]; rfl
  · rw [Nat.compare_eq_eq.2 h, decide_eq_false (by omega)]; rfl
  · rw [Nat.compare_eq_gt.2 h, decide_eq_true (by omega)]; rfl
theorem lt_fl (a b : Nat) (ha : a < 2 ^ 53) (hb : b < 2 ^ 53) : (FloatKind.f64.format.order (fl a) (fl b) == some .lt) = decide (a < b) := by
  rw [order_fl a b ha hb]
  rcases Nat.lt_trichotomy a b with h | h | h
  · rw [Nat.compare_eq_lt.2 h, decide_eq_true (by omega)]; rfl
  · rw [Nat.compare_eq_eq.2 h, decide_eq_false (by omega)]; rfl
  · rw [Nat.compare_eq_gt.2 h, decide_eq_false (by omega)]; rfl
theorem eq_fl (a b : Nat) (ha : a < 2 ^ 53) (hb : b < 2 ^ 53) : (FloatKind.f64.format.order (fl a) (fl b) == some .eq) = decide (a = b) := by
  rw [order_fl a b ha hb]
  rcases Nat.lt_trichotomy a b with h | h | h
  · rw [Nat.compare_eq_lt.2 h, decide_eq_false (by omega)]; rfl
  · rw [Nat.compare_eq_eq.2 h, decide_eq_true (by omega)]; rfl
  · rw [Nat.compare_eq_gt.2 h, decide_eq_false (by omega)]; rfl
theorem ne_fl (a b : Nat) (ha : a < 2 ^ 53) (hb : b < 2 ^ 53) : (FloatKind.f64.format.order (fl a) (fl b) != some .eq) = !decide (a = b) := by
  unfold bne
  rw [eq_fl a b ha hb]
theorem run_min_fl {P : Program} (ts : Array TypeId) (t : TypeId) (a b : Nat) (ha : a < 2 ^ 53) (hb : b < 2 ^ 53) (w : World) : (Builtin.min_ ts t #[.float .f64 (fl a), .float .f64 (fl b)]).run P w = .ok (.float .f64 (fl (min a b))) w := by
  have h0 := order_fl a b ha hb
  rcases Nat.lt_trichotomy a b with h | h | h
  · rw [Nat.compare_eq_lt.2 h] at h0
    rw [Nat.min_eq_left (by omega)]
    simp [Builtin.min_, Builtin.min2, h0]
  · rw [Nat.compare_eq_eq.2 h] at h0
    subst h
    rw [Nat.min_eq_left (by omega)]
    simp [Builtin.min_, Builtin.min2, h0]
  · rw [Nat.compare_eq_gt.2 h] at h0
    rw [Nat.min_eq_right (by omega)]
    simp [Builtin.min_, Builtin.min2, h0]
theorem fl_zero : fl 0 = 0 := by decide +kernel
theorem fl_most : fl 1099511627776 = 4787326403894837248 := by decide +kernel
end Go.Proofs.YtgbenepapajieaaGreat.Ex
namespace Go.Proofs

end Go.Proofs
namespace Go.Proofs.YtgbenepapajieaaGreat.Ex.Rng

/-- The greatest place. -/
def M : Nat := 1099511627776
abbrev X := Nat × Nat
def limN (n : Int) : Nat := min (max n 0).toNat M
def lim (n : Int) : Int := (limN n : Int)
theorem limN_le (n : Int) : limN n ≤ M := by unfold limN; omega
theorem limN_nat (n : Nat) (h : n ≤ M) : limN (n : Int) = n := by unfold limN; omega
def cutN (x : X) : X := (x.1, min (x.1 + x.2) M - x.1)
def Ok (l : List X) : Prop := ∀ x ∈ l, x.1 ≤ M ∧ x.2 ≤ M
/-- p lies in x. -/
def In (p : Nat) (x : X) : Prop := x.1 ≤ p ∧ p < x.1 + x.2
instance (p : Nat) (x : X) : Decidable (In p x) := inferInstanceAs (Decidable (_ ∧ _))
def Mem (p : Nat) (l : List X) : Prop := ∃ x ∈ l, In p x
theorem Mem.nil_ (p : Nat) : ¬ Mem p [] := by rintro ⟨x, h, _⟩; cases h
theorem mem_cons (p : Nat) (x : X) (l : List X) : Mem p (x :: l) ↔ In p x ∨ Mem p l := by
  constructor
  · rintro ⟨y, h, k⟩
    rcases List.mem_cons.1 h with rfl | h
    · exact .inl k
    · exact .inr ⟨y, h, k⟩
  · rintro (h | ⟨y, h, k⟩)
    · exact ⟨x, by simp, h⟩
    · exact ⟨y, List.mem_cons_of_mem _ h, k⟩
theorem mem_append (p : Nat) (a b : List X) : Mem p (a ++ b) ↔ Mem p a ∨ Mem p b := by
  constructor
  · rintro ⟨y, h, k⟩
    rcases List.mem_append.1 h with h | h
    · exact .inl ⟨y, h, k⟩
    · exact .inr ⟨y, h, k⟩
  · rintro (⟨y, h, k⟩ | ⟨y, h, k⟩)
    · exact ⟨y, List.mem_append_left _ h, k⟩
    · exact ⟨y, List.mem_append_right _ h, k⟩
theorem mem_one (p : Nat) (x : X) : Mem p [x] ↔ In p x := by rw [mem_cons]; exact ⟨fun h => h.elim id fun h => absurd h (Mem.nil_ p), .inl⟩

/-- Ascending, none empty, a gap between two. -/
def Val (l : List X) : Prop := (∀ x ∈ l, 0 < x.2) ∧ l.Pairwise fun x y => x.1 + x.2 < y.1
/-- All end at s or before it. -/
def Upto (s : Nat) (l : List X) : Prop := ∀ x ∈ l, x.1 + x.2 ≤ s
theorem Val.nil_ : Val [] := ⟨by simp, List.Pairwise.nil⟩
theorem Upto.nil_ (s : Nat) : Upto s [] := by intro x h; cases h
theorem Val.add {l : List X} {z : X} (h : Val l) (hz : 0 < z.2) (hg : ∀ y ∈ l, y.1 + y.2 < z.1) : Val (l ++ [z]) := by
  refine ⟨fun x hx => ?_, List.pairwise_append.2 ⟨h.2, List.pairwise_singleton _ _, fun a ha b hb => ?_⟩⟩
  · rcases List.mem_append.1 hx with hx | hx
    · exact h.1 x hx
    · rw [List.mem_singleton.1 hx]; exact hz
  · rw [List.mem_singleton.1 hb]; exact hg a ha
theorem Upto.add {s : Nat} {l : List X} {z : X} (h : Upto s l) (hz : z.1 + z.2 ≤ s) : Upto s (l ++ [z]) := by
  intro x hx
  rcases List.mem_append.1 hx with hx | hx
  · exact h x hx
  · rw [List.mem_singleton.1 hx]; exact hz
theorem Val.left {a b : List X} (h : Val (a ++ b)) : Val a := ⟨fun x hx => h.1 x (List.mem_append_left _ hx), (List.pairwise_append.1 h.2).1⟩
theorem Val.gap {a b : List X} (h : Val (a ++ b)) : ∀ x ∈ a, ∀ y ∈ b, x.1 + x.2 < y.1 := (List.pairwise_append.1 h.2).2.2
theorem Upto.mem {s p : Nat} {l : List X} (h : Upto s l) (hm : Mem p l) : p < s := by
  obtain ⟨x, hx, h1, h2⟩ := hm
  have := h x hx
  omega
theorem upto_of_mem {s : Nat} {l : List X} (h : Val l) (hm : ∀ p, Mem p l → p < s) : Upto s l := by
  intro x hx
  have h0 := h.1 x hx
  have := hm (x.1 + x.2 - 1) ⟨x, hx, by unfold In; omega⟩
  omega
theorem Upto.ok {l : List X} (h : Upto M l) : Ok l := fun x hx => by have := h x hx; exact ⟨by omega, by omega⟩
theorem Upto.mono {s t : Nat} {l : List X} (h : Upto s l) (hs : s ≤ t) : Upto t l := fun x hx => Nat.le_trans (h x hx) hs

theorem val_least {x : X} {l : List X} (h : Val (x :: l)) {p : Nat} (hm : Mem p (x :: l)) : x.1 ≤ p := by
  obtain ⟨y, hy, h1, h2⟩ := hm
  rcases List.mem_cons.1 hy with rfl | hy
  · exact h1
  · have := (List.pairwise_cons.1 h.2).1 y hy
    omega
theorem val_tail {x : X} {l : List X} (h : Val (x :: l)) : Val l := ⟨fun y hy => h.1 y (List.mem_cons_of_mem _ hy), (List.pairwise_cons.1 h.2).2⟩
theorem val_gap {x : X} {l : List X} (h : Val (x :: l)) {p : Nat} (hm : Mem p l) : x.1 + x.2 < p := by
  obtain ⟨y, hy, h1, h2⟩ := hm
  have := (List.pairwise_cons.1 h.2).1 y hy
  omega
/-- What they hold tells the list. -/
theorem val_ext : ∀ {a b : List X}, Val a → Val b → (∀ p, Mem p a ↔ Mem p b) → a = b
  | [], [], _, _, _ => rfl
  | [], y :: b, _, hb, h => absurd ((h y.1).2 ⟨y, by simp, by have := hb.1 y (by simp); unfold In; omega⟩) (Mem.nil_ _)
  | x :: a, [], ha, _, h => absurd ((h x.1).1 ⟨x, by simp, by have := ha.1 x (by simp); unfold In; omega⟩) (Mem.nil_ _)
  | x :: a, y :: b, ha, hb, h => by
    have hx := ha.1 x (by simp)
    have hy := hb.1 y (by simp)
    have l1 : y.1 ≤ x.1 := val_least hb ((h x.1).1 ⟨x, by simp, by unfold In; omega⟩)
    have l2 : x.1 ≤ y.1 := val_least ha ((h y.1).2 ⟨y, by simp, by unfold In; omega⟩)
    have l3 : ¬ x.2 < y.2 := fun hlt => by
      have hm : Mem (x.1 + x.2) (x :: a) := (h _).2 ⟨y, by simp, by unfold In; omega⟩
      rcases (mem_cons _ _ _).1 hm with hm | hm
      · unfold In at hm; omega
      · have := val_gap ha hm; omega
    have l4 : ¬ y.2 < x.2 := fun hlt => by
      have hm : Mem (y.1 + y.2) (y :: b) := (h _).1 ⟨x, by simp, by unfold In; omega⟩
      rcases (mem_cons _ _ _).1 hm with hm | hm
      · unfold In at hm; omega
      · have := val_gap hb hm; omega
    have e : x = y := Prod.ext (by omega) (by omega)
    subst e
    have := val_ext (val_tail ha) (val_tail hb) fun p => by
      constructor
      · intro hm
        have hg := val_gap ha hm
        rcases (mem_cons _ _ _).1 ((h p).1 ((mem_cons _ _ _).2 (.inr hm))) with k | k
        · unfold In at k; omega
        · exact k
      · intro hm
        have hg := val_gap hb hm
        rcases (mem_cons _ _ _).1 ((h p).2 ((mem_cons _ _ _).2 (.inr hm))) with k | k
        · unfold In at k; omega
        · exact k
    rw [this]

/-- r holds what d holds below the greatest place, ascending, with gaps. -/
def IsNorm (d r : List X) : Prop := Val r ∧ Upto M r ∧ (∀ p, Mem p r ↔ Mem p d ∧ p < M) ∧ r.length ≤ d.length
theorem IsNorm.own {d r s : List X} (h : IsNorm d r) (k : IsNorm r s) : s = r :=
  val_ext k.1 h.1 fun p => by rw [k.2.2.1 p]; exact ⟨fun h => h.1, fun hm => ⟨hm, h.2.1.mem hm⟩⟩
theorem IsNorm.one {d r s : List X} (h : IsNorm d r) (k : IsNorm d s) : s = r :=
  val_ext k.1 h.1 fun p => by rw [k.2.2.1 p, h.2.2.1 p]

/-! ### Cut and ordered -/
def shut (d : List X) : List X := (d.map cutN).filter fun x => decide (0 < x.2)
theorem shut_len (d : List X) : (shut d).length ≤ d.length := by unfold shut; exact Nat.le_trans (List.length_filter_le _ _) (by simp)
theorem shut_take (d : List X) (k : Nat) (h : k < d.length) : shut (d.take (k + 1)) = if 0 < (cutN d[k]).2 then shut (d.take k) ++ [cutN d[k]] else shut (d.take k) := by
  unfold shut
  rw [List.take_succ_eq_append_getElem h, List.map_append, List.filter_append]
  simp only [List.map_cons, List.map_nil]
  by_cases h0 : 0 < (cutN d[k]).2
  · rw [if_pos h0, List.filter_cons_of_pos (by simpa using h0)]; rfl
  · rw [if_neg h0, List.filter_cons_of_neg (by simpa using h0)]; simp
theorem shut_mem (d : List X) (hd : Ok d) (p : Nat) : Mem p (shut d) ↔ Mem p d ∧ p < M := by
  constructor
  · rintro ⟨x, hx, h1, h2⟩
    obtain ⟨hx, _⟩ := List.mem_filter.1 hx
    obtain ⟨y, hy, rfl⟩ := List.mem_map.1 hx
    have := hd y hy
    unfold cutN at h1 h2
    exact ⟨⟨y, hy, by unfold In; simp only at h1 h2; omega⟩, by simp only at h1 h2; omega⟩
  · rintro ⟨⟨x, hx, h1, h2⟩, h3⟩
    exact ⟨cutN x, List.mem_filter.2 ⟨List.mem_map.2 ⟨x, hx, rfl⟩, decide_eq_true (by unfold cutN; simp only; omega)⟩, by unfold In cutN; simp only; omega⟩
/-- What sorted hands back. -/
def Srt (d r : List X) : Prop := (∀ x, x ∈ r ↔ x ∈ shut d) ∧ r.length = (shut d).length ∧ r.Pairwise fun x y => x.1 ≤ y.1
theorem Srt.pos {d r : List X} (h : Srt d r) : ∀ x ∈ r, 0 < x.2 := fun x hx => by
  obtain ⟨_, hx⟩ := List.mem_filter.1 ((h.1 x).1 hx)
  exact of_decide_eq_true hx
theorem Srt.upto {d r : List X} (hd : Ok d) (h : Srt d r) : Upto M r := fun x hx => by
  obtain ⟨hx, _⟩ := List.mem_filter.1 ((h.1 x).1 hx)
  obtain ⟨y, hy, rfl⟩ := List.mem_map.1 hx
  have := hd y hy
  unfold cutN
  simp only
  omega
theorem Srt.mem {d r : List X} (hd : Ok d) (h : Srt d r) (p : Nat) : Mem p r ↔ Mem p d ∧ p < M := by
  rw [← shut_mem d hd p]
  exact ⟨fun ⟨x, hx, k⟩ => ⟨x, (h.1 x).1 hx, k⟩, fun ⟨x, hx, k⟩ => ⟨x, (h.1 x).2 hx, k⟩⟩

/-! ### The merging of an ordered row -/
/-- What has come of the first k of r. -/
def Mrg (r : List X) (k : Nat) (out : List X) : Prop :=
  Val out ∧ Upto M out ∧ (∀ p, Mem p out ↔ Mem p (r.take k)) ∧ out.length ≤ k ∧ ∀ y ∈ out, ∃ x ∈ r.take k, y.1 = x.1
theorem Mrg.start (r : List X) : Mrg r 0 [] := ⟨Val.nil_, Upto.nil_ _, fun p => by simp, by simp, by simp⟩
theorem Mrg.done {d r out : List X} (hd : Ok d) (hs : Srt d r) (h : Mrg r r.length out) : IsNorm d out := by
  refine ⟨h.1, h.2.1, fun p => ?_, ?_⟩
  · rw [h.2.2.1 p, List.take_length, hs.mem hd p]
  · have := h.2.2.2.1
    have := hs.2.1
    have := shut_len d
    omega
theorem take_mem (r : List X) (k : Nat) (hk : k < r.length) (p : Nat) : Mem p (r.take (k + 1)) ↔ Mem p (r.take k) ∨ In p r[k] := by
  rw [List.take_succ_eq_append_getElem hk, mem_append, mem_one]
theorem take_sub {r : List X} {k : Nat} {x : X} (h : x ∈ r.take k) : x ∈ r.take (k + 1) := by
  have : r.take k <+: r.take (k + 1) := List.take_prefix_take_left (by omega)
  exact this.subset h
theorem at_mem (r : List X) (k : Nat) (hk : k < r.length) : r[k] ∈ r.take (k + 1) := by
  rw [List.take_succ_eq_append_getElem hk]
  exact List.mem_append_right _ (List.mem_singleton.2 rfl)
theorem Mrg.new {r out : List X} {k : Nat} (hk : k < r.length) (hp : ∀ x ∈ r, 0 < x.2) (hu : Upto M r) (h : Mrg r k out) (hg : ∀ y ∈ out, y.1 + y.2 < r[k].1) : Mrg r (k + 1) (out ++ [r[k]]) := by
  obtain ⟨h1, h2, h3, h4, h5⟩ := h
  refine ⟨h1.add (hp _ (List.getElem_mem hk)) hg, h2.add (hu _ (List.getElem_mem hk)), fun p => ?_, by simp; omega, fun y hy => ?_⟩
  · rw [mem_append, mem_one, take_mem r k hk, h3 p]
  · rcases List.mem_append.1 hy with hy | hy
    · obtain ⟨x, hx, e⟩ := h5 y hy
      exact ⟨x, take_sub hx, e⟩
    · rw [List.mem_singleton.1 hy]
      exact ⟨_, at_mem r k hk, rfl⟩
theorem Mrg.least {r out : List X} {k : Nat} (hk : k < r.length) (hs : r.Pairwise fun x y => x.1 ≤ y.1) (h : Mrg r k out) : ∀ y ∈ out, y.1 ≤ r[k].1 := by
  intro y hy
  obtain ⟨x, hx, e⟩ := h.2.2.2.2 y hy
  rw [e]
  obtain ⟨i, hi, rfl⟩ := List.mem_iff_getElem.1 hx
  rw [List.length_take] at hi
  rw [List.getElem_take]
  exact List.pairwise_iff_getElem.1 hs i k (by omega) hk (by omega)
/-- The last of a row that is not empty. -/
theorem last_form {out : List X} (h : 0 < out.length) : ∃ o y, out = o ++ [y] ∧ o.length = out.length - 1 := by
  refine ⟨out.dropLast, out.getLast (List.length_pos_iff.1 h), (List.dropLast_concat_getLast _).symm, by simp⟩
theorem Mrg.apart {r o : List X} {y : X} {k : Nat} (hk : k < r.length) (h : Mrg r k (o ++ [y])) (hg : y.1 + y.2 < r[k].1) : ∀ z ∈ o ++ [y], z.1 + z.2 < r[k].1 := by
  intro z hz
  rcases List.mem_append.1 hz with hz | hz
  · have h1 := h.1.gap z hz y (by simp)
    omega
  · rw [List.mem_singleton.1 hz]; exact hg
theorem Mrg.join {r o : List X} {y : X} {k : Nat} (hk : k < r.length) (hu : Upto M r) (hs : r.Pairwise fun x y => x.1 ≤ y.1) (h : Mrg r k (o ++ [y])) (hg : r[k].1 ≤ y.1 + y.2) :
    Mrg r (k + 1) (o ++ [(y.1, max (y.1 + y.2) (r[k].1 + r[k].2) - y.1)]) := by
  have hl := h.least hk hs y (by simp)
  have huk := hu _ (List.getElem_mem hk)
  obtain ⟨h1, h2, h3, h4, h5⟩ := h
  have hy := h1.1 y (by simp)
  have hy2 := h2 y (by simp)
  have hgap := h1.gap
  refine ⟨h1.left.add (by simp only; omega) (fun z hz => hgap z hz y (by simp)), Upto.add (fun z hz => h2 z (List.mem_append_left _ hz)) (by simp only; omega), fun p => ?_, by simp at h4 ⊢; omega, fun z hz => ?_⟩
  · rw [mem_append, mem_one, take_mem r k hk, ← h3 p, mem_append, mem_one]
    generalize r[k] = z at *
    constructor
    · rintro (h | h)
      · exact .inl (.inl h)
      · unfold In at *
        simp only at h
        by_cases hp : p < y.1 + y.2
        · exact .inl (.inr (by omega))
        · exact .inr (by omega)
    · rintro ((h | h) | h)
      · exact .inl h
      · refine .inr ?_; unfold In at *; simp only; omega
      · refine .inr ?_; unfold In at *; simp only; omega
  · rcases List.mem_append.1 hz with hz | hz
    · obtain ⟨x, hx, e⟩ := h5 z (List.mem_append_left _ hz)
      exact ⟨x, take_sub hx, e⟩
    · rw [List.mem_singleton.1 hz]
      obtain ⟨x, hx, e⟩ := h5 y (by simp)
      exact ⟨x, take_sub hx, e⟩
end Go.Proofs.YtgbenepapajieaaGreat.Ex.Rng
namespace Go.Proofs.YtgbenepapajieaaGreat.Ex
open Go.RowKit
open Rng

/-- An extent of whole numbers, as a value. -/
def E (x : X) : Value := .complex .f64 (fl x.1) (fl x.2)

set_option maxRecDepth 100000 in
set_option maxHeartbeats 400000 in
theorem limit_any (n : Int) (w : World) : Calls Tryz.prog 151 #[.int .i64 n] w fun e w' => e = .returned (.int .i64 (lim n)) ∧ w' = w := by
  by_cases h1 : n < 0
  · have E : Hid (lim n = 0) := by show ((min (max n 0).toNat M : Nat) : Int) = _; unfold M; omega
    go_enter Tryz.func151, Tryz.ntmps151
    go_wp2
    go_ret
    exact ⟨ret_int E.out.symm, rfl⟩
  · by_cases h2 : 1099511627776 < n
    · have E : Hid (lim n = 1099511627776) := by show ((min (max n 0).toNat M : Nat) : Int) = _; unfold M; omega
      go_enter Tryz.func151, Tryz.ntmps151
      go_wp2
      go_ret
      exact ⟨ret_int E.out.symm, rfl⟩
    · have E : Hid (lim n = n) := by show ((min (max n 0).toNat M : Nat) : Int) = _; unfold M; omega
      go_enter Tryz.func151, Tryz.ntmps151
      go_wp2
      go_ret
      exact ⟨ret_int E.out.symm, rfl⟩

set_option maxRecDepth 100000 in
set_option maxHeartbeats 400000 in
theorem whole_any (n : Nat) (w : World) (h : n ≤ M) : Calls Tryz.prog 166 #[.float .f64 (fl n)] w fun e w' => e = .returned (.int .i64 n) ∧ w' = w := by
  unfold M at h
  have hg := gt_fl n 0 (by omega) (by omega)
  rw [fl_zero] at hg
  have hm : ∀ ts t w, Sem.run Tryz.prog (Builtin.min_ ts t #[.float .f64 (fl n), .float .f64 4787326403894837248]) w = .ok (.float .f64 (fl n)) w := by
    intro ts t w
    have := run_min_fl (P := Tryz.prog) ts t n 1099511627776 (by omega) (by omega) w
    rw [fl_most, Nat.min_eq_left h] at this
    exact this
  have hc : ∀ w, Sem.run Tryz.prog (convert 150 2 (.float .f64 (fl n))) w = .ok (.int .i64 n) w := fun w => run_convert_float_int w _ _ _ _ _ _ (by kernel_rfl) (by kernel_rfl) (toInt_fl n (by omega))
  by_cases h0 : n = 0
  · subst h0
    have hg' : (FloatKind.f64.format.order (fl 0) 0 == some .gt) = false := hg
    clear hg hm hc
    go_enter Tryz.func166, Tryz.ntmps166
    go_wp2
    go_ret
    exact ⟨rfl, rfl⟩
  · have hg' : (FloatKind.f64.format.order (fl n) 0 == some .gt) = true := by rw [hg]; exact decide_eq_true (by omega)
    clear hg
    go_enter Tryz.func166, Tryz.ntmps166
    go_wp2
    go_ret
    exact ⟨rfl, rfl⟩

set_option maxRecDepth 100000 in
set_option maxHeartbeats 400000 in
theorem at_any (x : X) (w : World) (h : x.1 ≤ M) : Calls Tryz.prog 153 #[E x] w fun e w' => e = .returned (.int .i64 x.1) ∧ w' = w := by
  unfold E
  go_enter Tryz.func153, Tryz.ntmps153
  go_wp2_with (go_at_call 166; refine (whole_any x.1 _ h).mono ?_; rintro e w1 ⟨rfl, rfl⟩)
  go_ret
  exact ⟨rfl, rfl⟩

set_option maxRecDepth 100000 in
set_option maxHeartbeats 400000 in
theorem long_any (x : X) (w : World) (h : x.2 ≤ M) : Calls Tryz.prog 152 #[E x] w fun e w' => e = .returned (.int .i64 x.2) ∧ w' = w := by
  unfold E
  go_enter Tryz.func152, Tryz.ntmps152
  go_wp2_with (go_at_call 166; refine (whole_any x.2 _ h).mono ?_; rintro e w1 ⟨rfl, rfl⟩)
  go_ret
  exact ⟨rfl, rfl⟩

set_option maxRecDepth 100000 in
set_option maxHeartbeats 400000 in
theorem end_any (x : X) (w : World) (h : x.1 ≤ M) (h' : x.2 ≤ M) : Calls Tryz.prog 154 #[E x] w fun e w' => e = .returned (.int .i64 ((x.1 : Int) + (x.2 : Int))) ∧ w' = w := by
  have b1 := h
  have b2 := h'
  unfold M at b1 b2
  go_enter Tryz.func154, Tryz.ntmps154
  go_wp2_with fail
  refine (at_any x _ h).mono ?_
  rintro e w1 ⟨rfl, rfl⟩
  go_wp2_with fail
  refine (long_any x _ h').mono ?_
  rintro e w1 ⟨rfl, rfl⟩
  go_wp2
  go_ret
  exact ⟨ret_int (by omega), rfl⟩

set_option maxRecDepth 100000 in
set_option maxHeartbeats 400000 in
theorem of_any (a b : Int) (w : World) : Calls Tryz.prog 167 #[.int .i64 a, .int .i64 b] w fun e w' => e = .returned (E (limN a, limN b)) ∧ w' = w := by
  go_enter Tryz.func167, Tryz.ntmps167
  go_wp2_with fail
  refine (limit_any a _).mono ?_
  rintro e w1 ⟨rfl, rfl⟩
  go_wp2_with fail
  refine (limit_any b _).mono ?_
  rintro e w1 ⟨rfl, rfl⟩
  go_wp2
  go_ret
  exact ⟨rfl, rfl⟩

end Go.Proofs.YtgbenepapajieaaGreat.Ex
namespace Go.Proofs.YtgbenepapajieaaGreat.Ex
open Go.RowKit
open Rng

/-- A slice value that reads as these extents. -/
def ExtsAt (w : World) (v : Value) (ls : List X) : Prop :=
  (ls = [] ∧ v = .slice none 0 0) ∨
  ∃ g og cap, v = .slice (some ⟨g, og, none⟩) ls.length cap ∧ ls.length ≤ cap ∧ cap ≤ maxLen ∧ ∀ i (h : i < ls.length), w.cell? ⟨g, og + i, none⟩ = some (E ls[i])
theorem ExtsAt.nil_ (w : World) : ExtsAt w (.slice none 0 0) [] := .inl ⟨rfl, rfl⟩
theorem ExtsAt.form {w : World} {v : Value} {ls : List X} (h : ExtsAt w v ls) : ∃ A c, v = .slice A ls.length c := by
  rcases h with ⟨rfl, rfl⟩ | ⟨g, og, cap, rfl, _⟩
  · exact ⟨_, _, rfl⟩
  · exact ⟨_, _, rfl⟩
theorem ExtsAt.len {w : World} {v : Value} {ls : List X} (h : ExtsAt w v ls) : ls.length ≤ maxLen := by
  rcases h with ⟨rfl, rfl⟩ | ⟨g, og, cap, rfl, h1, h2, _⟩
  · simp
  · omega
theorem ExtsAt.at_ {w : World} {v : Value} {ls : List X} (h : ExtsAt w v ls) (hn : 0 < ls.length) : ∃ g og cap, v = .slice (some ⟨g, og, none⟩) ls.length cap ∧ ls.length ≤ cap ∧ cap ≤ maxLen ∧ ∀ i (h : i < ls.length), w.cell? ⟨g, og + i, none⟩ = some (E ls[i]) := by
  rcases h with ⟨rfl, rfl⟩ | h
  · simp at hn
  · exact h
theorem ExtsAt.keep {w w' : World} {v : Value} {ls : List X} (h : ExtsAt w v ls) (q : Q w w') : ExtsAt w' v ls := by
  rcases h with h | ⟨g, og, cap, e, h1, h2, h3⟩
  · exact .inl h
  · exact .inr ⟨g, og, cap, e, h1, h2, fun i hi => q.cell (h3 i hi)⟩
theorem ExtsAt.of_own {w : World} {base : Nat} {e : TypeId} {v : Value} {ls : List X} (h : w.ownsRow base e 1 v ls.length (ls.map E)) : ExtsAt w v ls := by
  rcases h.2 with ⟨rfl, hn⟩ | ⟨g, cap, cur, rfl, hb, hg, h1, h2, h3, h4⟩
  · exact .inl ⟨List.eq_nil_of_length_eq_zero hn, rfl⟩
  · refine .inr ⟨g, 0, cap, rfl, h1, h2, fun i hi => ?_⟩
    have := h.cells (g := g) rfl i (E ls[i]) (by simp [hi])
    simpa [Addr.add_lit] using this

/-! ### Same -/
theorem same_head {a b : List X} (h : a.length = b.length) {k : Nat} (hk : k < a.length) (hs : a.take k = b.take k) (h1 : a[k] = b[k]) : a.take (k + 1) = b.take (k + 1) := by
  rw [List.take_succ_eq_append_getElem hk, List.take_succ_eq_append_getElem (by omega : k < b.length), hs, h1]
theorem same_no {a b : List X} {k : Nat} (hk : k < a.length) (hk' : k < b.length) (h1 : ¬ a[k] = b[k]) : ¬ a = b := by
  intro e
  subst e
  exact h1 rfl

/-! ### Has -/
def hit (p : Int) (x : X) : Bool := decide ((x.1 : Int) ≤ p ∧ p < (x.1 + (cutN x).2 : Nat))
def hasB (l : List X) (p : Int) : Bool := l.any (hit p)
theorem has_no {l : List X} {p : Int} {k : Nat} (hk : k < l.length) (hs : hasB (l.take k) p = false) (h1 : hit p l[k] = false) : hasB (l.take (k + 1)) p = false := by
  unfold hasB at *
  rw [List.take_succ_eq_append_getElem hk, List.any_append, hs]
  simp [h1]
theorem has_yes {l : List X} {p : Int} {k : Nat} (hk : k < l.length) (h1 : hit p l[k] = true) : hasB l p = true :=
  List.any_eq_true.2 ⟨_, List.getElem_mem hk, h1⟩
theorem has_mem {l : List X} (hu : Upto M l) (p : Nat) : hasB l (p : Int) = true ↔ Mem p l := by
  have hc : ∀ x ∈ l, (cutN x).2 = x.2 := fun x hx => by have := hu x hx; unfold cutN; simp only; omega
  unfold hasB
  rw [List.any_eq_true]
  constructor
  · rintro ⟨x, hx, h⟩
    have := of_decide_eq_true h
    rw [hc x hx] at this
    exact ⟨x, hx, by unfold In; omega⟩
  · rintro ⟨x, hx, h1, h2⟩
    refine ⟨x, hx, decide_eq_true ?_⟩
    rw [hc x hx]
    omega
theorem cutN_ok {x : X} (h : x.1 ≤ M ∧ x.2 ≤ M) : (cutN x).1 = x.1 ∧ (cutN x).1 ≤ M ∧ (cutN x).2 ≤ M := by
  refine ⟨rfl, h.1, ?_⟩
  show min (x.1 + x.2) M - x.1 ≤ M
  omega

end Go.Proofs.YtgbenepapajieaaGreat.Ex
namespace Go.Proofs.YtgbenepapajieaaGreat.Ex
open Go.RowKit
open Rng

/-- What May finds from an end on. -/
def mayGo : Int → List X → Int → Bool
  | last, [], s => decide (last ≤ s)
  | last, x :: r, s => decide (x.2 ≠ 0 ∧ last < (x.1 : Int)) && mayGo ((x.1 : Int) + x.2) r s
def mayB (l : List X) (s : Int) : Bool := decide (s = lim s) && mayGo (-1) l s
theorem mayGo_end {last s : Int} {l : List X} {k : Nat} {b : Bool} (hk : ¬ k < l.length) (h : b = mayGo last (l.drop k) s) : b = decide (last ≤ s) := by
  rw [List.drop_eq_nil_of_le (by omega)] at h
  exact h
theorem mayGo_no {last s : Int} {l : List X} {k : Nat} {b : Bool} (hk : k < l.length) (h : b = mayGo last (l.drop k) s) (hn : ¬ (l[k].2 ≠ 0 ∧ last < (l[k].1 : Int))) : b = false := by
  rw [List.drop_eq_getElem_cons hk] at h
  unfold mayGo at h
  rw [h, decide_eq_false hn]
  rfl
theorem mayGo_on {last s : Int} {l : List X} {k : Nat} {b : Bool} (hk : k < l.length) (h : b = mayGo last (l.drop k) s) (hn : l[k].2 ≠ 0 ∧ last < (l[k].1 : Int)) : b = mayGo ((l[k].1 : Int) + l[k].2) (l.drop (k + 1)) s := by
  rw [List.drop_eq_getElem_cons hk] at h
  unfold mayGo at h
  rw [h, decide_eq_true hn]
  rfl
theorem mayGo_val : ∀ {l : List X} {last s : Int}, Val l → (∀ x ∈ l, last < (x.1 : Int)) → last ≤ s → (∀ x ∈ l, ((x.1 : Int) + x.2) ≤ s) → mayGo last l s = true
  | [], _, _, _, _, h3, _ => decide_eq_true h3
  | x :: r, last, s, h1, h2, h3, h4 => by
    have hx := h1.1 x (by simp)
    have hp := List.pairwise_cons.1 h1.2
    unfold mayGo
    rw [decide_eq_true ⟨by omega, h2 x (by simp)⟩]
    exact mayGo_val (val_tail h1) (fun y hy => by have := hp.1 y hy; omega) (h4 x (by simp)) (fun y hy => h4 y (List.mem_cons_of_mem _ hy))
theorem may_val {l : List X} {s : Nat} (hs : s ≤ M) (h : Val l) (hu : Upto s l) : mayB l (s : Int) = true := by
  unfold mayB
  rw [mayGo_val h (fun x _ => by omega) (by omega) (fun x hx => by have := hu x hx; omega)]
  have : (s : Int) = lim s := by unfold lim; rw [limN_nat s hs]
  simp [← this]

set_option maxRecDepth 100000 in
set_option maxHeartbeats 1000000 in
theorem may_any (v : Value) (l : List X) (s : Int) (w : World) (h : ExtsAt w v l) (hl : Ok l) :
    Calls Tryz.prog 127 #[v, .int .i64 s] w fun e w' => e = .returned (.bool (mayB l s)) ∧ Q w w' := by
  have ll := h.len
  obtain ⟨A, c, rfl⟩ := h.form
  unfold maxLen at ll
  by_cases h0 : s = lim s
  · have t0 : (s != lim s) = false := by rw [bne_eq_false_iff_eq]; exact h0
    have E0 : Hid (mayB l s = mayGo (-1) l s) := by show (_ && _) = _; rw [decide_eq_true h0]; rfl
    clear h0
    go_enter Tryz.func127, Tryz.ntmps127
    go_wp2_with fail
    refine (limit_any s _).mono ?_
    rintro e w1 ⟨rfl, rfl⟩
    go_wp2
    go_loopw [5, 7, 14] (fun b _ i wr => ∃ (k : Nat) (last : Int), i = .int .i64 k ∧ b = .int .i64 last ∧ k ≤ l.length ∧ Q w1 wr ∧ Hid (mayB l s = mayGo last (l.drop k) s)) (fun _ _ i _ => l.length - (intOf i).toNat)
    case atStart => exact ⟨0, -1, rfl, rfl, by omega, Q.refl _, E0.out⟩
    case round =>
      obtain ⟨k, last, rfl, rfl, hk, hq, H⟩ := hrel
      by_cases hlt : k < l.length
      · obtain ⟨g, og, _, ea, _, _, hc⟩ := (h.keep hq).at_ (by omega)
        cases ea
        have c1 := hc k hlt
        have o1 := hl _ (List.getElem_mem hlt)
        have En : Hid (¬ (l[k].2 ≠ 0 ∧ last < (l[k].1 : Int)) → mayB l s = false) := mayGo_no hlt H.out
        have Ey : Hid ((l[k].2 ≠ 0 ∧ last < (l[k].1 : Int)) → mayB l s = mayGo ((l[k].1 : Int) + l[k].2) (l.drop (k + 1)) s) := mayGo_on hlt H.out
        clear hc h hl H E0
        generalize l[k] = x at *
        go_wp2_with fail
        refine (long_any _ _ o1.2).mono ?_
        rintro e w2 ⟨rfl, rfl⟩
        by_cases h1 : x.2 = 0
        · have t1 : (((x.2 : Nat) : Int) == 0) = true := beq_iff_eq.2 (by omega)
          have E1 := Lib.hid (En.out (fun h => h.1 h1))
          clear h1 Ey En o1
          go_wp2
          go_ret
          exact ⟨ret_bool E1.out.symm, hq⟩
        have t1 : (((x.2 : Nat) : Int) == 0) = false := beq_eq_false_iff_ne.2 (by omega)
        go_wp2_with fail
        refine (at_any _ _ o1.1).mono ?_
        rintro e w2 ⟨rfl, rfl⟩
        by_cases h2 : last < (x.1 : Int)
        · have t2 : decide ((x.1 : Int) ≤ last) = false := decide_eq_false (by omega)
          have E1 := Lib.hid (Ey.out ⟨h1, h2⟩)
          clear h1 h2 Ey En
          go_wp2_with fail
          refine (end_any _ _ o1.1 o1.2).mono ?_
          rintro e w2 ⟨rfl, rfl⟩
          go_wp2
          go_roundw
          case rel => exact ⟨k + 1, _, by go_num, rfl, by omega, hq, E1⟩
          case measure => simp [intOf]; omega
        · have t2 : decide ((x.1 : Int) ≤ last) = true := decide_eq_true (by omega)
          have E1 := Lib.hid (En.out (fun h => h2 h.2))
          clear h1 h2 Ey En o1
          go_wp2
          go_ret
          exact ⟨ret_bool E1.out.symm, hq⟩
      · have E1 := Lib.hid (mayGo_end hlt H.out)
        clear H
        go_wp2
        go_ret
        exact ⟨ret_bool E1.out.symm, hq⟩
  · have t0 : (s != lim s) = true := by rw [bne_iff_ne]; exact h0
    have E0 : Hid (mayB l s = false) := by show (_ && _) = _; rw [decide_eq_false h0]; rfl
    clear h0
    go_enter Tryz.func127, Tryz.ntmps127
    go_wp2_with fail
    refine (limit_any s _).mono ?_
    rintro e w1 ⟨rfl, rfl⟩
    go_wp2
    go_ret
    exact ⟨ret_bool E0.out.symm, Q.refl _⟩
end Go.Proofs.YtgbenepapajieaaGreat.Ex
