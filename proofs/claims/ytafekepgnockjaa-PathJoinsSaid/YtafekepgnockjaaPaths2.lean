/-
  The contracts of path.Parent, Under, Join, Less.
-/
import Derived.Test.YtafekepgnockjaaPaths
import Derived.Test.YtafekepgnockjaaMore2
import Derived.Deep.QuietTactic
import Derived.BigQuiet
namespace Go.Proofs.Ytafekepgnockjaa
open Go.RowKit
open Pth

set_option maxHeartbeats 400000 in
theorem parent_any (s : ByteArray) (w : World) (hs : s.size ≤ maxLen) :
    Calls Try.prog 9 #[.string s] w fun e w' => e = .returned (.tuple #[.string (parentB s), .bool (hasParentB s)]) ∧ Q w w' := by
  go_enter Try.func9, Try.ntmps9
  go_wp2_with fail
  refine (last_any s _ hs).mono ?_
  rintro e w1 ⟨rfl, hq⟩
  unfold maxLen at hs
  by_cases hn : (partsB s).length = 0
  · have E := Lib.hid (hasParentB_none s hn)
    have t1 : (lastB s).toList.isEmpty = true := is_empty (lastB_none s hn)
    clear hn
    go_wp2
    go_ret2
    exact ⟨ret_sb E.out.2.symm E.out.1.symm, hq⟩
  · have E := Lib.hid (hasParentB_some s (by omega))
    obtain ⟨h1, h2⟩ := lastB_long s (by omega)
    have t1 : (lastB s).toList.isEmpty = false := not_empty h1
    clear hn
    generalize hl : lastB s = l at *
    clear hl
    by_cases hc : l.size + 1 ≤ s.size
    · go_wp2
      go_ret2
      exact ⟨ret_sb E.out.2.symm E.out.1.symm, hq⟩
    · have E2 : Hid (s.extract 0 (s.size - l.size - 1) = ByteArray.empty) := by
        rw [show s.size - l.size - 1 = 0 from by omega]
        exact bs_eq (by rw [extract_mkB]; rfl)
      go_wp2
      go_ret2
      exact ⟨ret_sb (E2.out.symm.trans E.out.2.symm) E.out.1.symm, hq⟩

set_option maxHeartbeats 400000 in
theorem hasPrefix_any (s p : ByteArray) (w : World) :
    Calls Try.prog 31 #[.string s, .string p] w fun e w' => e = .returned (.bool (prefB s p)) ∧ w = w' := by
  by_cases h : s.size < p.size
  · have E := Lib.hid (prefB_short s p h)
    go_enter Try.func31, Try.ntmps31
    go_wp2
    go_ret
    exact ⟨ret_bool E.out.symm, rfl⟩
  · have E := Lib.hid (prefB_cut s p)
    go_enter Try.func31, Try.ntmps31
    go_wp2
    go_ret
    exact ⟨ret_bool E.out.symm, rfl⟩

set_option maxHeartbeats 400000 in
theorem under_any (s t : ByteArray) (w : World) (hs : s.size ≤ maxLen) (ht : t.size ≤ maxLen) :
    Calls Try.prog 24 #[.string s, .string t] w fun e w' => e = .returned (.bool (underB s t)) ∧ Q w w' := by
  go_enter Try.func24, Try.ntmps24
  go_wp2_with fail
  refine (may_any s _ hs).mono ?_
  rintro e w1 ⟨rfl, hq⟩
  cases h1 : mayB s
  · have E := Lib.hid (underB_no1 s t h1)
    clear h1
    go_wp2_with fail
    go_ret
    exact ⟨ret_bool E.out.symm, hq⟩
  have H1 := Lib.hid h1
  clear h1
  go_wp2_with fail
  refine (may_any t _ ht).mono ?_
  rintro e w2 ⟨rfl, hq2⟩
  have hq := hq.trans hq2
  clear hq2
  cases h2 : mayB t
  · have E := Lib.hid (underB_no2 s t h2)
    clear h2
    go_wp2_with fail
    go_ret
    exact ⟨ret_bool E.out.symm, hq⟩
  have E := Lib.hid (underB_yes s t H1.out h2)
  have z1 := mayB_size s H1.out
  have z2 := mayB_size t h2
  clear h2
  cases h3 : t.toList.isEmpty
  · rw [h3, Bool.false_or] at E
    cases h4 : (s.toList == t.toList)
    · rw [h4, Bool.false_or] at E
      go_wp2_with (go_at_call 31; refine (hasPrefix_any s _ _).mono ?_; rintro e w3 ⟨rfl, rfl⟩)
      go_ret
      exact ⟨ret_bool E.out.symm, hq⟩
    · rw [h4, Bool.true_or] at E
      go_wp2_with fail
      go_ret
      exact ⟨ret_bool E.out.symm, hq⟩
  · rw [h3, Bool.true_or, Bool.true_or] at E
    go_wp2_with fail
    go_ret
    exact ⟨ret_bool E.out.symm, hq⟩

set_option maxHeartbeats 400000 in
theorem join_any (a b : ByteArray) (w : World) (ha : a.size ≤ maxLen) (hb : b.size ≤ maxLen) :
    Calls Try.prog 11 #[.string a, .string b] w fun e w' => e = .returned (.tuple #[.string (joinB a b), .int .i64 (joinErrB a b)]) ∧ Q w w' := by
  go_enter Try.func11, Try.ntmps11
  go_wp2_with fail
  refine (may_any a _ ha).mono ?_
  rintro e w1 ⟨rfl, hq⟩
  cases h1 : mayB a
  · have E := Lib.hid (joinB_bad a b (.inl h1))
    clear h1
    go_wp2_with fail
    go_ret2
    exact ⟨ret_si E.out.2.symm E.out.1.symm, hq⟩
  have H1 := Lib.hid h1
  clear h1
  go_wp2_with fail
  refine (name_any b _ hb).mono ?_
  rintro e w2 ⟨rfl, rfl⟩
  cases h2 : nameB b
  · have E := Lib.hid (joinB_bad a b (.inr h2))
    clear h2
    go_wp2_with fail
    go_ret2
    exact ⟨ret_si E.out.2.symm E.out.1.symm, hq⟩
  have z1 := mayB_size a H1.out
  obtain ⟨z2, z3⟩ := nameB_size b h2
  cases h3 : a.toList.isEmpty
  · have H2 := Lib.hid h2
    clear h2
    go_wp2_with fail
    generalize hj : a ++ _ ++ b = j
    have E := Lib.hid (joinB_of a b j H1.out H2.out (by rw [← hj]; exact joined_in a b h3))
    have zj : j.size ≤ maxLen := by
      rw [← hj, ByteArray.size_append, ByteArray.size_append]
      unfold maxLen
      show a.size + 1 + b.size ≤ _
      omega
    clear hj
    refine (may_any j _ zj).mono ?_
    rintro e w3 ⟨rfl, hq3⟩
    have hq := hq.trans hq3
    clear hq3
    cases h4 : mayB j
    · have E := Lib.hid (E.out.2 h4)
      clear h4
      go_wp2_with fail
      go_ret2
      exact ⟨ret_si E.out.2.symm E.out.1.symm, hq⟩
    · have E := Lib.hid (E.out.1 h4)
      clear h4
      go_wp2_with fail
      go_ret2
      exact ⟨ret_si E.out.2.symm E.out.1.symm, hq⟩
  · have E := Lib.hid (joinB_of a b _ H1.out h2 (joined_top a b h3))
    clear h2
    go_wp2_with fail
    refine (may_any b _ hb).mono ?_
    rintro e w3 ⟨rfl, hq3⟩
    have hq := hq.trans hq3
    clear hq3
    cases h4 : mayB b
    · have E := Lib.hid (E.out.2 h4)
      clear h4
      go_wp2_with fail
      go_ret2
      exact ⟨ret_si E.out.2.symm E.out.1.symm, hq⟩
    · have E := Lib.hid (E.out.1 h4)
      clear h4
      go_wp2_with fail
      go_ret2
      exact ⟨ret_si E.out.2.symm E.out.1.symm, hq⟩
end Go.Proofs.Ytafekepgnockjaa
