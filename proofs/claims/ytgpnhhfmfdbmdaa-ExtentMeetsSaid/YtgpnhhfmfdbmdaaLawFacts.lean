/-
  What the laws of extents lean on: rows of small extents; what Has tells of a list; sums of lengths.
-/
import Derived.Test.YtgpnhhfmfdbmdaaTold
namespace Go.Proofs.Ytgpnhhfmfdbmdaa
open Go.RowKit
open Rng

theorem small_upto {l : List X} (h : ∀ x ∈ l, x.1 < 250 ∧ x.2 < 20) : Upto 269 l := fun x hx => by have := h x hx; omega
theorem small_max {l : List X} (h : ∀ x ∈ l, x.1 < 250 ∧ x.2 < 20) : Upto M l := (small_upto h).mono (by decide +kernel)
theorem norm_self {m r : List X} (hv : Val m) (hu : Upto M m) (h : IsNorm m r) : r = m :=
  val_ext h.1 hv fun p => by rw [h.2.2.1 p]; exact ⟨fun h => h.1, fun k => ⟨k, hu.mem k⟩⟩
theorem decide_self (a : List X) : decide (a = a) = true := decide_eq_true rfl
theorem norm_mem {a n : List X} (ha : Upto M a) (h : IsNorm a n) (p : Nat) : Mem p n ↔ Mem p a := by
  rw [h.2.2.1 p]
  exact ⟨fun h => h.1, fun k => ⟨k, ha.mem k⟩⟩
theorem norm_upto {a n : List X} {s : Nat} (ha : Upto s a) (h : IsNorm a n) : Upto s n :=
  upto_of_mem h.1 fun p hp => ha.mem ((h.2.2.1 p).1 hp).1
theorem has_same {n a : List X} (hn : Upto M n) (ha : Upto M a) {p : Nat} (h : Mem p n ↔ Mem p a) : hasB n p = hasB a p :=
  Bool.eq_iff_iff.2 (by rw [has_mem hn, has_mem ha]; exact h)
theorem has_meet {a m : List X} {x y : Nat} (ha : Upto M a) (h : IsMeet a x (x + y) m) (p : Nat) : hasB m p = (hasB a p && decide (x ≤ p) && decide (p < x + y)) :=
  Bool.eq_iff_iff.2 (by
    rw [has_mem h.2.1, h.2.2.1 p]
    simp only [Bool.and_eq_true, decide_eq_true_eq, has_mem ha]
    exact ⟨fun h => ⟨⟨h.1.1, h.2.1⟩, h.2.2⟩, fun h => ⟨⟨h.1.1, ha.mem h.1.1⟩, h.1.2, h.2⟩⟩)
theorem has_holes {a m : List X} {s : Nat} (ha : Upto M a) (hs : s ≤ M) (h : IsHoles a s m) (p : Nat) : hasB m p = (!hasB a p && decide (p < s)) :=
  Bool.eq_iff_iff.2 (by
    rw [has_mem (h.2.1.mono hs), h.2.2.1 p]
    simp only [Bool.and_eq_true, decide_eq_true_eq, Bool.not_eq_true', ← Bool.not_eq_true, has_mem ha]
    exact And.comm)

/-! ### Sums -/
def sumL (l : List X) : Nat := (l.map (·.2)).sum
theorem sum_next (l : List X) (k : Nat) (h : k < l.length) : sumL (l.take (k + 1)) = sumL (l.take k) + l[k].2 := by
  unfold sumL
  rw [List.take_succ_eq_append_getElem h, List.map_append, List.sum_append]
  simp
def count (p : Nat → Bool) (s : Nat) : Nat := ((List.range s).filter p).length
theorem count_succ (p : Nat → Bool) (s : Nat) : count p (s + 1) = count p s + (if p s then 1 else 0) := by
  unfold count
  rw [List.range_succ, List.filter_append, List.length_append]
  cases h : p s <;> simp [h]
theorem count_or (p q r : Nat → Bool) (s : Nat) (h : ∀ i, i < s → r i = (p i || q i) ∧ ¬ (p i = true ∧ q i = true)) : count r s = count p s + count q s := by
  induction s with
  | zero => rfl
  | succ s ih =>
    rw [count_succ, count_succ, count_succ, ih fun i hi => h i (by omega)]
    have := h s (by omega)
    rw [this.1]
    cases hp : p s <;> cases hq : q s <;> simp_all <;> omega
theorem count_in (x : X) (s : Nat) : count (fun p => decide (In p x)) s = min s (x.1 + x.2) - min s x.1 := by
  induction s with
  | zero => simp [count]
  | succ s ih =>
    rw [count_succ, ih]
    by_cases h : In s x
    · simp only [h, decide_true, if_true]
      unfold In at h
      omega
    · simp only [h, decide_false]
      unfold In at h
      simp only [Bool.false_eq_true, if_false]
      omega
theorem count_true (s : Nat) : count (fun _ => true) s = s := by
  induction s with
  | zero => rfl
  | succ s ih => rw [count_succ, ih]; simp
theorem count_none (s : Nat) : count (fun _ => false) s = 0 := by
  induction s with
  | zero => rfl
  | succ s ih => rw [count_succ, ih]; simp
def memB (l : List X) (p : Nat) : Bool := l.any fun x => decide (In p x)
theorem memB_iff (l : List X) (p : Nat) : memB l p = true ↔ Mem p l := by
  unfold memB Mem
  rw [List.any_eq_true]
  simp only [decide_eq_true_eq]
theorem sum_count : ∀ (l : List X) (s : Nat), Val l → Upto s l → sumL l = count (memB l) s
  | [], s, _, _ => (count_none s).symm
  | x :: l, s, hv, hu => by
    have h1 := sum_count l s (val_tail hv) (fun y hy => hu y (List.mem_cons_of_mem _ hy))
    have hx := hu x (by simp)
    have h2 := count_or (fun p => decide (In p x)) (memB l) (memB (x :: l)) s fun i _ => by
      refine ⟨by simp [memB], fun ⟨a, b⟩ => ?_⟩
      have a' := of_decide_eq_true a
      have := val_gap hv ((memB_iff l i).1 b)
      unfold In at a'
      omega
    rw [h2, count_in, ← h1]
    unfold sumL
    simp only [List.map_cons, List.sum_cons]
    omega
theorem sum_both {a n h : List X} {s : Nat} (ha : Upto s a) (hs : s ≤ M) (hn : IsNorm a n) (hh : IsHoles a s h) : sumL n + sumL h = s := by
  rw [sum_count n s hn.1 (norm_upto ha hn), sum_count h s hh.1 hh.2.1]
  have := count_or (memB n) (memB h) (fun _ => true) s fun i hi => by
    constructor
    · symm
      rw [Bool.or_eq_true, memB_iff, memB_iff, norm_mem (ha.mono hs) hn, hh.2.2.1 i]
      by_cases hm : Mem i a
      · exact .inl hm
      · exact .inr ⟨hi, hm⟩
    · rw [memB_iff, memB_iff, norm_mem (ha.mono hs) hn, hh.2.2.1 i]
      exact fun h => h.2.2 h.1
  rw [count_true] at this
  exact this.symm
theorem cover {a n h r : List X} (ha : Upto M a) (hn : IsNorm a n) (hh : IsHoles a 300 h) (hr : IsNorm (n ++ h) r) (ha2 : Upto 300 a) : r = [(0, 300)] :=
  val_ext hr.1 ⟨by decide, by decide⟩ fun p => by
    rw [hr.2.2.1 p, mem_append, norm_mem ha hn, hh.2.2.1 p, mem_one]
    unfold In M
    simp only
    constructor
    · rintro ⟨a | a, b⟩
      · have := ha2.mem a; omega
      · omega
    · intro b
      by_cases hm : Mem p a
      · exact ⟨.inl hm, by omega⟩
      · exact ⟨.inr ⟨by omega, hm⟩, by omega⟩
theorem holes_back {a n h r : List X} (ha : Upto M a) (hn : IsNorm a n) (hh : IsHoles a 300 h) (ha2 : Upto 300 a) (hr : IsHoles h 300 r) : r = n :=
  val_ext hr.1 hn.1 fun p => by
    rw [hr.2.2.1 p, hh.2.2.1 p, norm_mem ha hn]
    constructor
    · rintro ⟨b, c⟩
      exact Classical.byContradiction fun d => c ⟨b, d⟩
    · intro b
      exact ⟨ha2.mem b, fun c => c.2 b⟩
theorem holes_some {a h : List X} (hh : IsHoles a 300 h) (ha : Upto 269 a) : 0 < h.length := by
  obtain ⟨x, hx, _⟩ := (hh.2.2.1 299).2 ⟨by omega, fun hm => by have := ha.mem hm; omega⟩
  exact List.length_pos_of_mem hx
end Go.Proofs.Ytgpnhhfmfdbmdaa
