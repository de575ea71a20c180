/-
  The contract of the law's own 'told': the examples hold.
-/
import Derived.Test.YtafekepgnockjaaLess
namespace Go.Proofs.Ytafekepgnockjaa
open Go.RowKit
open Pth

theorem parent_is (s p : ByteArray) (b : Bool) (w : World) (hs : s.size ≤ maxLen) (h : parentB s = p) (h' : hasParentB s = b) :
    Calls Try.prog 9 #[.string s] w fun e w' => e = .returned (.tuple #[.string p, .bool b]) ∧ Q w w' := by subst h h'; exact parent_any s w hs
theorem join_is (a c p : ByteArray) (b : Int) (w : World) (ha : a.size ≤ maxLen) (hc : c.size ≤ maxLen) (h : joinB a c = p) (h' : joinErrB a c = b) :
    Calls Try.prog 11 #[.string a, .string c] w fun e w' => e = .returned (.tuple #[.string p, .int .i64 b]) ∧ Q w w' := by subst h h'; exact join_any a c w ha hc
theorem name_is (s : ByteArray) (b : Bool) (w : World) (hs : s.size ≤ maxLen) (h : nameB s = b) :
    Calls Try.prog 13 #[.string s] w fun e w' => e = .returned (.bool b) ∧ Q w w' := by subst h; exact (name_any s w hs).mono fun _ _ ⟨h1, h2⟩ => ⟨h1, h2 ▸ Q.refl _⟩
theorem may_is (s : ByteArray) (b : Bool) (w : World) (hs : s.size ≤ maxLen) (h : mayB s = b) :
    Calls Try.prog 15 #[.string s] w fun e w' => e = .returned (.bool b) ∧ Q w w' := by subst h; exact may_any s w hs
theorem under_is (s t : ByteArray) (b : Bool) (w : World) (hs : s.size ≤ maxLen) (ht : t.size ≤ maxLen) (h : underB s t = b) :
    Calls Try.prog 24 #[.string s, .string t] w fun e w' => e = .returned (.bool b) ∧ Q w w' := by subst h; exact under_any s t w hs ht
theorem less_is (s t : ByteArray) (b : Bool) (w : World) (hs : s.size ≤ maxLen) (ht : t.size ≤ maxLen) (h : lessB s t = b) :
    Calls Try.prog 26 #[.string s, .string t] w fun e w' => e = .returned (.bool b) ∧ Q w w' := by subst h; exact less_any s t w hs ht
theorem depth_is (s : ByteArray) (d : Int) (w : World) (hs : s.size ≤ maxLen) (h : depthB s = d) :
    Calls Try.prog 20 #[.string s] w fun e w' => e = .returned (.int .i64 d) ∧ Q w w' := by subst h; exact depth_any s w hs
theorem last_is (s l : ByteArray) (w : World) (hs : s.size ≤ maxLen) (h : lastB s = l) :
    Calls Try.prog 22 #[.string s] w fun e w' => e = .returned (.string l) ∧ Q w w' := by subst h; exact last_any s w hs

set_option maxRecDepth 100000 in
set_option maxHeartbeats 1600000 in
theorem told_any (w : World) : Calls Try.prog 8 #[] w fun e w' => e = .returned (.bool true) ∧ Q w w' := by
  go_enter Try.func8, Try.ntmps8
  go_wp2_with fail
  refine (parent_is _ ⟨#[97]⟩ true _ (by unfold maxLen; decide) (by kernel_rfl) (by kernel_rfl)).mono ?_
  rintro e w1 ⟨rfl, hq⟩
  go_wp2_with fail
  refine (parent_is _ ⟨#[]⟩ false _ (by unfold maxLen; decide) (by kernel_rfl) (by kernel_rfl)).mono ?_
  rintro e w1 ⟨rfl, hq1⟩
  replace hq := hq.trans hq1
  clear hq1
  go_wp2_with fail
  refine (join_is _ _ ⟨#[97, 47, 98]⟩ (0) _ (by unfold maxLen; decide) (by unfold maxLen; decide) (by kernel_rfl) (by kernel_rfl)).mono ?_
  rintro e w1 ⟨rfl, hq1⟩
  replace hq := hq.trans hq1
  clear hq1
  go_wp2_with fail
  refine (join_is _ _ ⟨#[]⟩ (1) _ (by unfold maxLen; decide) (by unfold maxLen; decide) (by kernel_rfl) (by kernel_rfl)).mono ?_
  rintro e w1 ⟨rfl, hq1⟩
  replace hq := hq.trans hq1
  clear hq1
  go_wp2_with fail
  refine (parent_is _ ⟨#[]⟩ true _ (by unfold maxLen; decide) (by kernel_rfl) (by kernel_rfl)).mono ?_
  rintro e w1 ⟨rfl, hq1⟩
  replace hq := hq.trans hq1
  clear hq1
  go_wp2_with fail
  refine (name_is _ true _ (by unfold maxLen; decide) (by kernel_rfl)).mono ?_
  rintro e w1 ⟨rfl, hq1⟩
  replace hq := hq.trans hq1
  clear hq1
  go_wp2_with fail
  refine (name_is _ false _ (by unfold maxLen; decide) (by kernel_rfl)).mono ?_
  rintro e w1 ⟨rfl, hq1⟩
  replace hq := hq.trans hq1
  clear hq1
  go_wp2_with fail
  refine (name_is _ false _ (by unfold maxLen; decide) (by kernel_rfl)).mono ?_
  rintro e w1 ⟨rfl, hq1⟩
  replace hq := hq.trans hq1
  clear hq1
  go_wp2_with fail
  refine (may_is _ true _ (by unfold maxLen; decide) (by kernel_rfl)).mono ?_
  rintro e w1 ⟨rfl, hq1⟩
  replace hq := hq.trans hq1
  clear hq1
  go_wp2_with fail
  refine (may_is _ true _ (by unfold maxLen; decide) (by kernel_rfl)).mono ?_
  rintro e w1 ⟨rfl, hq1⟩
  replace hq := hq.trans hq1
  clear hq1
  go_wp2_with fail
  refine (may_is _ false _ (by unfold maxLen; decide) (by kernel_rfl)).mono ?_
  rintro e w1 ⟨rfl, hq1⟩
  replace hq := hq.trans hq1
  clear hq1
  go_wp2_with fail
  refine (may_is _ false _ (by unfold maxLen; decide) (by kernel_rfl)).mono ?_
  rintro e w1 ⟨rfl, hq1⟩
  replace hq := hq.trans hq1
  clear hq1
  go_wp2_with fail
  refine (under_is _ _ true _ (by unfold maxLen; decide) (by unfold maxLen; decide) (by kernel_rfl)).mono ?_
  rintro e w1 ⟨rfl, hq1⟩
  replace hq := hq.trans hq1
  clear hq1
  go_wp2_with fail
  refine (under_is _ _ false _ (by unfold maxLen; decide) (by unfold maxLen; decide) (by kernel_rfl)).mono ?_
  rintro e w1 ⟨rfl, hq1⟩
  replace hq := hq.trans hq1
  clear hq1
  go_wp2_with fail
  refine (under_is _ _ true _ (by unfold maxLen; decide) (by unfold maxLen; decide) (by kernel_rfl)).mono ?_
  rintro e w1 ⟨rfl, hq1⟩
  replace hq := hq.trans hq1
  clear hq1
  go_wp2_with fail
  refine (depth_is _ (2) _ (by unfold maxLen; decide) (by kernel_rfl)).mono ?_
  rintro e w1 ⟨rfl, hq1⟩
  replace hq := hq.trans hq1
  clear hq1
  go_wp2_with fail
  refine (depth_is _ (-1) _ (by unfold maxLen; decide) (by kernel_rfl)).mono ?_
  rintro e w1 ⟨rfl, hq1⟩
  replace hq := hq.trans hq1
  clear hq1
  go_wp2_with fail
  refine (last_is _ ⟨#[98]⟩ _ (by unfold maxLen; decide) (by kernel_rfl)).mono ?_
  rintro e w1 ⟨rfl, hq1⟩
  replace hq := hq.trans hq1
  clear hq1
  go_wp2_with fail
  refine (less_is _ _ true _ (by unfold maxLen; decide) (by unfold maxLen; decide) (by kernel_rfl)).mono ?_
  rintro e w1 ⟨rfl, hq1⟩
  replace hq := hq.trans hq1
  clear hq1
  go_wp2_with fail
  refine (less_is _ _ true _ (by unfold maxLen; decide) (by unfold maxLen; decide) (by kernel_rfl)).mono ?_
  rintro e w1 ⟨rfl, hq1⟩
  replace hq := hq.trans hq1
  clear hq1
  go_wp2_with fail
  refine (less_is _ _ false _ (by unfold maxLen; decide) (by unfold maxLen; decide) (by kernel_rfl)).mono ?_
  rintro e w1 ⟨rfl, hq1⟩
  replace hq := hq.trans hq1
  clear hq1
  go_wp2_with fail
  refine (parts_any _ _ (by unfold maxLen; decide)).mono ?_
  rintro e w1 ⟨v, rfl, hv, hq1⟩
  replace hq := hq.trans hq1
  clear hq1
  rw [show partsB _ = [⟨#[97]⟩, ⟨#[98]⟩] from by kernel_rfl] at hv
  obtain ⟨A, c, rfl⟩ := hv.form
  go_wp2_with fail
  go_ret
  exact ⟨rfl, hq⟩
end Go.Proofs.Ytafekepgnockjaa
