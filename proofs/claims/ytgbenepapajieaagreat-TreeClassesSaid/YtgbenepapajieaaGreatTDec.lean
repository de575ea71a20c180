/-
  The contract of the document's Decimal.
-/
import Derived.Test.YtgbenepapajieaaGreatCmp
import Derived.Lib.ItoaMem
import Derived.Lib.ItoaLen
namespace Go.Proofs.YtgbenepapajieaaGreat.Dec
open Go.RowKit

def mkB (l : List UInt8) : ByteArray := ⟨l.toArray⟩
def digs : ByteArray := ⟨#[48, 49, 50, 51, 52, 53, 54, 55, 56, 57]⟩
theorem dig_at (r : Nat) (h : r < 10) : digs.extract r (r + 1) = mkB [UInt8.ofNat (48 + r)] := by
  have : r = 0 ∨ r = 1 ∨ r = 2 ∨ r = 3 ∨ r = 4 ∨ r = 5 ∨ r = 6 ∨ r = 7 ∨ r = 8 ∨ r = 9 := by omega
  rcases this with rfl | rfl | rfl | rfl | rfl | rfl | rfl | rfl | rfl | rfl <;> decide +kernel
theorem size_mkB (l : List UInt8) : (mkB l).size = l.length := by unfold mkB; simp [ByteArray.size]
theorem mkB_add (a b : List UInt8) : mkB a ++ mkB b = mkB (a ++ b) := by unfold mkB; rw [ByteArray.mk_append_mk]

theorem mkB_cons (c : UInt8) (l : List UInt8) : mkB (c :: l) = mkB [c] ++ mkB l := (mkB_add [c] l).symm
def Digs (n m : Nat) (s : List UInt8) : Prop := Lib.decDigits n = Lib.decDigits m ++ s
theorem Digs.len {n m : Nat} {s : List UInt8} (h : Digs n m s) (hn : n ≤ 9223372036854775808) : s.length ≤ 100 := by
  have h1 := congrArg List.length h
  rw [List.length_append] at h1
  have h2 : (Lib.decDigits n).length ≤ 21 := by
    by_cases e : n ≤ 9223372036854775807
    · have := Lib.itoa_length_le (n : Int) (by omega) (by omega)
      rwa [Lib.itoa_nonneg] at this
    · obtain rfl : n = 9223372036854775808 := by omega
      have := Lib.itoa_length_le (-(9223372036854775808 : Nat) : Int) (by omega) (by omega)
      rw [Lib.itoa_neg _ (by omega)] at this
      simp at this ⊢
      omega
  omega
theorem Digs.step {n m : Nat} {s : List UInt8} (h : Digs n m s) (h9 : 9 < m) : Digs n (m / 10) (UInt8.ofNat (48 + m % 10) :: s) := by
  unfold Digs at *
  rw [h, Lib.decDigits, dif_neg (by omega), List.append_assoc]
  rfl
theorem Digs.done {n m : Nat} {s : List UInt8} (h : Digs n m s) (h9 : ¬ 9 < m) : Lib.decDigits n = UInt8.ofNat (48 + m) :: s := by
  unfold Digs at *
  rw [h, Lib.decDigits, dif_pos (by omega)]
  rfl

set_option maxHeartbeats 1000000 in
theorem decimal_any (n : Nat) (w : World) (hn : n ≤ 9223372036854775807) :
    Calls Tryz.prog 58 #[.int .i64 n] w fun e w' => e = .returned (.string (mkB (Lib.decDigits n))) ∧ w' = w := by
  go_enter Tryz.func58, Tryz.ntmps58
  go_wp2
  go_loopw [0, 3] (fun x sv wr => ∃ (m : Nat) (s : List UInt8), x = .int .i64 m ∧ sv = .string (mkB s) ∧ m ≤ n ∧ wr = w ∧ Hid (Digs n m s)) (fun x _ _ => (intOf x).toNat)
  case atStart => exact ⟨n, [], rfl, rfl, by omega, rfl, (List.append_nil _).symm⟩
  case round =>
    obtain ⟨m, s, rfl, rfl, hm, rfl, H⟩ := hrel
    have hsl := H.out.len (by omega)
    by_cases h9 : 9 < m
    · have t1 : decide ((9 : Int) < (m : Int)) = true := decide_eq_true (by omega)
      have r10 : m % 10 < 10 := Nat.mod_lt _ (by omega)
      have E := Lib.hid (H.out.step h9)
      have D := Lib.hid (dig_at (m % 10) r10)
      have t2 : Int.tmod (m : Int) 10 = ((m % 10 : Nat) : Int) := by rw [Int.tmod_eq_emod_of_nonneg (by omega)]; omega
      have t3 : Int.tdiv (m : Int) 10 = ((m / 10 : Nat) : Int) := by rw [Int.tdiv_eq_ediv_of_nonneg (by omega)]; omega
      have hz : ¬ 9223372036854775807 < min (m % 10 + 1) 10 - m % 10 + (mkB s).size := by rw [size_mkB]; omega
      clear H
      go_wp2
      go_roundw
      case rel => exact ⟨m / 10, _, by go_num, by rw [mkB_cons, ← D.out]; rfl, by omega, trivial, E⟩
      case measure => simp [intOf]; omega
    · have t1 : decide ((9 : Int) < (m : Int)) = false := decide_eq_false (by omega)
      have E := Lib.hid (H.out.done h9)
      have D := Lib.hid (dig_at m (by omega))
      have hz : ¬ 9223372036854775807 < min (m + 1) 10 - m + (mkB s).size := by rw [size_mkB]; omega
      clear H
      go_wp2
      go_ret
      exact ⟨ret_string (by rw [E.out, mkB_cons, ← D.out]; rfl), rfl⟩
theorem decimal_q (n : Nat) (w : World) (hn : n ≤ 9223372036854775807) :
    Calls Tryz.prog 58 #[.int .i64 n] w fun e w' => ∃ s : ByteArray, e = .returned (.string s) ∧ s.size ≤ 30 ∧ w' = w :=
  (decimal_any n w hn).mono fun e w' h => ⟨_, h.1, by
    rw [size_mkB]
    have := Lib.itoa_length_le (n : Int) (by omega) (by omega)
    rw [Lib.itoa_nonneg] at this
    omega, h.2⟩
end Go.Proofs.YtgbenepapajieaaGreat.Dec
