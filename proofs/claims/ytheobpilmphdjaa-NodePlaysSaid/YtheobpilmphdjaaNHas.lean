/-
  The document's HasPlace at a list in order with gaps.
-/
import Derived.Test.YtheobpilmphdjaaNRefNorm
namespace Go.Proofs.Ytheobpilmphdjaa.Nd
open Go.RowKit
open Go.Proofs.Ytheobpilmphdjaa.Ex.Rng
open Go.Proofs.Ytheobpilmphdjaa.Ex (E ExtsAt)

def hasP (l : List X) (p : Nat) : Bool := decide (Mem p l)
theorem mem_take_step {l : List X} {k p : Nat} (hk : k < l.length) (h : ¬ Mem p (l.take k)) (h1 : ¬ In p l[k]) : ¬ Mem p (l.take (k + 1)) := by
  rw [take_mem l k hk]
  rintro (h2 | h2)
  · exact h h2
  · exact h1 h2
set_option maxRecDepth 100000 in
set_option maxHeartbeats 8000000 in
theorem hasPlace_any (v : Value) (l : List X) (p : Nat) (w : World) (h : XsAt w v l) (hv : Val l) (hu : Upto M l) (h9 : l.length ≤ 10000) :
    Calls Try.prog 13 #[v, .int .i64 p] w fun e w' => e = .returned (.bool (hasP l p)) ∧ Q w w' := by
  have HN := Lib.hid (rNorm_any v l w h hv hu h9)
  have HU : Hid (∀ k (hk : k < l.length), l[k].1 + l[k].2 ≤ 1099511627776) := fun k hk => hu _ (List.getElem_mem hk)
  have Ey : Hid (∀ k (hk : k < l.length), In p l[k] → hasP l p = true) := fun k hk hi => decide_eq_true ⟨_, List.getElem_mem hk, hi⟩
  have Ee : Hid (¬ Mem p l → hasP l p = false) := fun k => decide_eq_false k
  generalize hasP l p = r at *
  clear h hv hu
  go_enter Try.func13, Try.ntmps13
  go_wp2_with fail
  refine HN.out.mono ?_
  rintro e w1 ⟨v1, rfl, hown, q1⟩
  have hx := hown.row flatX
  obtain ⟨A, c, rfl⟩ := hx.form
  clear hown HN
  go_wp2
  go_loopw [6] (fun i wr => ∃ k : Nat, i = .int .i64 k ∧ k ≤ l.length ∧ Q w1 wr ∧ Hid (¬ Mem p (l.take k))) (fun i _ => l.length - (intOf i).toNat)
  case atStart => exact ⟨0, rfl, by omega, Q.refl _, Mem.nil_ p⟩
  case round =>
    obtain ⟨k, rfl, hk, hq, H⟩ := hrel
    by_cases hlt : k < l.length
    · obtain ⟨g, og, _, ea, _, _, hc⟩ := (hx.keep hq).atX (by omega)
      obtain ⟨rfl, -, rfl⟩ := Value.slice.inj ea
      have c1 := hc k hlt
      have u1 := HU.out k hlt
      have E1 : Hid (In p l[k] → r = true) := Ey.out k hlt
      have E2 : Hid (¬ In p l[k] → ¬ Mem p (l.take (k + 1))) := mem_take_step hlt H.out
      clear hc H HU Ey Ee ea hx
      generalize l[k] = x at *
      have lt2 : (k : Int) < (l.length : Int) := by omega
      have hx1 : x.1 ≤ M := by unfold M; omega
      have hx2 : x.2 ≤ M := by unfold M; omega
      have wx : IntKind.i64.wrap ((x.1 : Int) + (x.2 : Int)) = (x.1 : Int) + (x.2 : Int) := IntWalk.i64_in _ (by omega)
      by_cases h1 : x.1 ≤ p
      · have t1 : decide ((x.1 : Int) ≤ (p : Int)) = true := decide_eq_true (by omega)
        by_cases h2 : p < x.1 + x.2
        · have t2 : decide ((p : Int) < (x.1 : Int) + (x.2 : Int)) = true := decide_eq_true (by omega)
          have E3 := Lib.hid (E1.out ⟨h1, h2⟩)
          clear E1 E2 h2 u1
          go_wp2_with fail
          go_quiet (first | ((go_at_call 34; exact Calls.quiet_of_same (rAt_any x _ hx1))) | ((go_at_call 35; exact Calls.quiet_of_same (rLong_any x _ hx2))))
          go_wp2
          go_ret
          exact ⟨ret_bool E3.out.symm, (q1.trans hq).drewN _⟩
        · have t2 : decide ((p : Int) < (x.1 : Int) + (x.2 : Int)) = false := decide_eq_false (by omega)
          have E3 := Lib.hid (E2.out fun h => h2 h.2)
          clear E1 E2 h2 u1
          go_wp2_with fail
          go_quiet (first | ((go_at_call 34; exact Calls.quiet_of_same (rAt_any x _ hx1))) | ((go_at_call 35; exact Calls.quiet_of_same (rLong_any x _ hx2))))
          go_wp2
          go_roundw
          case rel => exact ⟨k + 1, by go_num, by omega, hq.drewN _, E3⟩
          case measure => simp [intOf]; omega
      · have t1 : decide ((x.1 : Int) ≤ (p : Int)) = false := decide_eq_false (by omega)
        have E3 := Lib.hid (E2.out fun h => h1 h.1)
        clear E1 E2 u1
        go_wp2_with fail
        go_quiet (first | ((go_at_call 34; exact Calls.quiet_of_same (rAt_any x _ hx1))) | ((go_at_call 35; exact Calls.quiet_of_same (rLong_any x _ hx2))))
        go_wp2
        go_roundw
        case rel => exact ⟨k + 1, by go_num, by omega, hq.drewN _, E3⟩
        case measure => simp [intOf]; omega
    · have E3 : Hid (r = false) := Lib.hid (Ee.out (by have := H.out; rwa [List.take_of_length_le (by omega)] at this))
      clear H HU Ey Ee
      go_wp2
      go_ret
      exact ⟨ret_bool E3.out.symm, q1.trans hq⟩
end Go.Proofs.Ytheobpilmphdjaa.Nd
