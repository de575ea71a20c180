/-
  The contracts of the document's Decimal and number.
-/
import Derived.Test.YtcbgchohcinecaaDoorMem
import Derived.Lib.ItoaMem
import Derived.Lib.ItoaLen
namespace Go.Proofs.YtcbgchohcinecaaDoor
open Go.RowKit

def mkB (l : List UInt8) : ByteArray := ⟨l.toArray⟩
def digs : ByteArray := ⟨#[48, 49, 50, 51, 52, 53, 54, 55, 56, 57]⟩
theorem dig_at (r : Nat) (h : r < 10) : digs.extract r (r + 1) = mkB [UInt8.ofNat (48 + r)] := by
  have : r = 0 ∨ r = 1 ∨ r = 2 ∨ r = 3 ∨ r = 4 ∨ r = 5 ∨ r = 6 ∨ r = 7 ∨ r = 8 ∨ r = 9 := by omega
  rcases this with rfl | rfl | rfl | rfl | rfl | rfl | rfl | rfl | rfl | rfl <;> decide +kernel
theorem size_mkB (l : List UInt8) : (mkB l).size = l.length := by unfold mkB; simp [ByteArray.size]
theorem mkB_add (a b : List UInt8) : mkB a ++ mkB b = mkB (a ++ b) := by unfold mkB; rw [ByteArray.mk_append_mk]

theorem mkB_cons (c : UInt8) (l : List UInt8) : mkB (c :: l) = mkB [c] ++ mkB l := (mkB_add [c] l).symm
def Digs (n m : Nat) (s : List UInt8) : Prop := Lib.decDigits n = Lib.decDigits m ++ s
theorem Digs.len {n m : Nat} {s : List UInt8} (h : Digs n m s) (hn : n ≤ 9223372036854775808) : s.length ≤ 100 := by
  have h1 := congrArg List.length h
  rw [List.length_append] at h1
  have h2 : (Lib.decDigits n).length ≤ 21 := by
    by_cases e : n ≤ 9223372036854775807
    · have := Lib.itoa_length_le (n : Int) (by omega) (by omega)
      rwa [Lib.itoa_nonneg] at this
    · obtain rfl : n = 9223372036854775808 := by omega
      have := Lib.itoa_length_le (-(9223372036854775808 : Nat) : Int) (by omega) (by omega)
      rw [Lib.itoa_neg _ (by omega)] at this
      simp at this ⊢
      omega
  omega
theorem Digs.step {n m : Nat} {s : List UInt8} (h : Digs n m s) (h9 : 9 < m) : Digs n (m / 10) (UInt8.ofNat (48 + m % 10) :: s) := by
  unfold Digs at *
  rw [h, Lib.decDigits, dif_neg (by omega), List.append_assoc]
  rfl
theorem Digs.done {n m : Nat} {s : List UInt8} (h : Digs n m s) (h9 : ¬ 9 < m) : Lib.decDigits n = UInt8.ofNat (48 + m) :: s := by
  unfold Digs at *
  rw [h, Lib.decDigits, dif_pos (by omega)]
  rfl

set_option maxHeartbeats 1000000 in
theorem decimal_any (n : Nat) (w : World) (hn : n ≤ 9223372036854775807) :
    Calls Tryd.prog 45 #[.int .i64 n] w fun e w' => e = .returned (.string (mkB (Lib.decDigits n))) ∧ w' = w := by
  go_enter Tryd.func45, Tryd.ntmps45
  go_wp2
  go_loopw [0, 3] (fun x sv wr => ∃ (m : Nat) (s : List UInt8), x = .int .i64 m ∧ sv = .string (mkB s) ∧ m ≤ n ∧ wr = w ∧ Hid (Digs n m s)) (fun x _ _ => (intOf x).toNat)
  case atStart => exact ⟨n, [], rfl, rfl, by omega, rfl, (List.append_nil _).symm⟩
  case round =>
    obtain ⟨m, s, rfl, rfl, hm, rfl, H⟩ := hrel
    have hsl := H.out.len (by omega)
    by_cases h9 : 9 < m
    · have t1 : decide ((9 : Int) < (m : Int)) = true := decide_eq_true (by omega)
      have r10 : m % 10 < 10 := Nat.mod_lt _ (by omega)
      have E := Lib.hid (H.out.step h9)
      have D := Lib.hid (dig_at (m % 10) r10)
      have t2 : Int.tmod (m : Int) 10 = ((m % 10 : Nat) : Int) := by rw [Int.tmod_eq_emod_of_nonneg (by omega)]; omega
      have t3 : Int.tdiv (m : Int) 10 = ((m / 10 : Nat) : Int) := by rw [Int.tdiv_eq_ediv_of_nonneg (by omega)]; omega
      have hz : ¬ 9223372036854775807 < min (m % 10 + 1) 10 - m % 10 + (mkB s).size := by rw [size_mkB]; omega
      clear H
      go_wp2
      go_roundw
      case rel => exact ⟨m / 10, _, by go_num, by rw [mkB_cons, ← D.out]; rfl, by omega, trivial, E⟩
      case measure => simp [intOf]; omega
    · have t1 : decide ((9 : Int) < (m : Int)) = false := decide_eq_false (by omega)
      have E := Lib.hid (H.out.done h9)
      have D := Lib.hid (dig_at m (by omega))
      have hz : ¬ 9223372036854775807 < min (m + 1) 10 - m + (mkB s).size := by rw [size_mkB]; omega
      clear H
      go_wp2
      go_ret
      exact ⟨ret_string (by rw [E.out, mkB_cons, ← D.out]; rfl), rfl⟩

set_option maxHeartbeats 1000000 in
theorem number_any (n : Int) (w : World) (h0 : -9223372036854775808 ≤ n) (h1 : n ≤ 9223372036854775807) :
    Calls Tryd.prog 36 #[.int .i64 n] w fun e w' => e = .returned (.string (mkB (Lib.itoa n))) ∧ w' = w := by
  by_cases hm : n = -9223372036854775808
  · subst hm
    have E : Hid (mkB [45, 57, 50, 50, 51, 51, 55, 50, 48, 51, 54, 56, 53, 52, 55, 55, 53, 56, 48, 56] = mkB (Lib.itoa (-9223372036854775808))) := by
      refine congrArg mkB ?_
      decide +kernel
    go_enter Tryd.func36, Tryd.ntmps36
    go_wp2
    go_ret
    exact ⟨ret_string E.out, rfl⟩
  have t0 : (n == -9223372036854775808) = false := beq_eq_false_iff_ne.2 hm
  by_cases hn : n < 0
  · obtain ⟨u, rfl⟩ : ∃ u : Nat, n = -(u : Int) := ⟨n.natAbs, by omega⟩
    have hu1 : 1 ≤ u := by omega
    have hu2 : u ≤ 9223372036854775807 := by omega
    have E := Lib.hid (Lib.itoa_neg u hu1)
    have t1 : decide (-(u : Int) < 0) = true := decide_eq_true hn
    have HD := Lib.hid (decimal_any u w hu2)
    have hlen : (Lib.decDigits u).length ≤ 100 := by
      have := Lib.itoa_length_le (u : Int) (by omega) (by omega)
      rw [Lib.itoa_nonneg] at this
      omega
    have hz : ¬ 9223372036854775807 < 1 + (mkB (Lib.decDigits u)).size := by rw [size_mkB]; omega
    have wr : IntKind.i64.wrap (u : Int) = u := IntWalk.i64_in _ (by omega)
    clear hm hn
    go_enter Tryd.func36, Tryd.ntmps36
    go_wp2_with fail
    refine HD.out.mono ?_
    rintro e w1 ⟨rfl, rfl⟩
    go_wp2
    go_ret
    exact ⟨ret_string (by rw [E.out, mkB_cons]; rfl), rfl⟩
  · obtain ⟨u, rfl⟩ : ∃ u : Nat, n = (u : Int) := ⟨n.toNat, by omega⟩
    have hu2 : u ≤ 9223372036854775807 := by omega
    have E := Lib.hid (Lib.itoa_nonneg u)
    have t1 : decide ((u : Int) < 0) = false := decide_eq_false hn
    have HD := Lib.hid (decimal_any u w hu2)
    clear hm hn
    go_enter Tryd.func36, Tryd.ntmps36
    go_wp2_with fail
    refine HD.out.mono ?_
    rintro e w1 ⟨rfl, rfl⟩
    go_wp2
    go_ret
    exact ⟨ret_string (by rw [E.out]), rfl⟩
end Go.Proofs.YtcbgchohcinecaaDoor
