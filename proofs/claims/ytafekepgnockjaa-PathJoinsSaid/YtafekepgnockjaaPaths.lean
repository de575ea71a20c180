/-
  The contracts of path.May, Parts, Depth, Last, Parent, Join, Under.
-/
import Derived.Test.YtafekepgnockjaaMore
namespace Go.Proofs.Ytafekepgnockjaa
open Go.RowKit
open Pth

set_option maxHeartbeats 400000 in
theorem may_any (s : ByteArray) (w : World) (hs : s.size ≤ maxLen) :
    Calls Try.prog 15 #[.string s] w fun e w' => e = .returned (.bool (mayB s)) ∧ Q w w' := by
  go_enter Try.func15, Try.ntmps15
  go_wp2_with (go_at_call 29; refine (split_any s _ hs).mono ?_; rintro e w1 ⟨v, rfl, hv, hq⟩)
  go_ret
  exact ⟨rfl, hq⟩

def PartsPost (s : ByteArray) (w : World) (e : Ending) (w' : World) : Prop := ∃ v, e = .returned v ∧ StrsAt w' v (partsB s) ∧ Q w w'
set_option maxHeartbeats 400000 in
theorem parts_any (s : ByteArray) (w : World) (hs : s.size ≤ maxLen) : Calls Try.prog 18 #[.string s] w (PartsPost s w) := by
  go_enter Try.func18, Try.ntmps18
  go_wp2_with (go_at_call 29; refine (split_any s _ hs).mono ?_; rintro e w1 ⟨v, rfl, hv, hq⟩)
  go_ret
  exact ⟨_, rfl, hv, hq⟩

set_option maxHeartbeats 400000 in
theorem depth_any (s : ByteArray) (w : World) (hs : s.size ≤ maxLen) :
    Calls Try.prog 20 #[.string s] w fun e w' => e = .returned (.int .i64 (depthB s)) ∧ Q w w' := by
  go_enter Try.func20, Try.ntmps20
  go_wp2_with fail
  refine (split_any s _ hs).mono ?_
  rintro e w1 ⟨v, rfl, hv, hq⟩
  obtain ⟨A, c, rfl⟩ := hv.form
  cases hm : mayB s
  · have E := Lib.hid (depthB_no s hm)
    clear hm
    go_wp2
    go_ret
    exact ⟨ret_int E.out.symm, hq⟩
  · have E := Lib.hid (depthB_yes s hm)
    clear hm
    go_wp2
    go_ret
    exact ⟨ret_int E.out.symm, hq⟩

set_option maxHeartbeats 400000 in
theorem last_any (s : ByteArray) (w : World) (hs : s.size ≤ maxLen) :
    Calls Try.prog 22 #[.string s] w fun e w' => e = .returned (.string (lastB s)) ∧ Q w w' := by
  go_enter Try.func22, Try.ntmps22
  go_wp2_with fail
  refine (parts_any s _ hs).mono ?_
  rintro e w1 ⟨v, rfl, hv, hq⟩
  by_cases hn : (partsB s).length = 0
  · obtain ⟨A, c, rfl⟩ := hv.form
    have t1 : (((partsB s).length : Int) == 0) = true := beq_iff_eq.2 (by omega)
    have E := Lib.hid (lastB_none s hn)
    clear hn
    go_wp2
    go_ret
    exact ⟨ret_string E.out.symm, hq⟩
  · obtain ⟨g, c, rfl, h1, h2, h3⟩ := hv.at_ (by omega)
    have t1 : (((partsB s).length : Int) == 0) = false := beq_eq_false_iff_ne.2 (by omega)
    have hl := lastB_some s (by omega)
    have hc : w1.cell? ⟨g, (partsB s).length - 1, none⟩ = some (.string (lastB s)) := by
      rw [h3 _ (by omega)]
      rw [List.getElem?_eq_getElem (by omega)] at hl
      rw [Option.some.inj hl]
    have hpos : 1 ≤ (partsB s).length := by omega
    clear h3 hl hn
    unfold maxLen at h2
    generalize (partsB s).length = n at *
    obtain ⟨m, rfl⟩ : ∃ m, n = m + 1 := ⟨n - 1, by omega⟩
    rw [Nat.add_sub_cancel] at hc
    go_wp2
    go_ret
    exact ⟨rfl, hq⟩
end Go.Proofs.Ytafekepgnockjaa
