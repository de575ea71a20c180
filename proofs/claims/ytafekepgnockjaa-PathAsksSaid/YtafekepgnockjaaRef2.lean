/-
  The contracts of the document's own Parts, Depth, Last, Parent, Join, Under, Less.
-/
import Derived.Test.YtafekepgnockjaaRef
import Derived.Test.YtafekepgnockjaaLess
namespace Go.Proofs.Ytafekepgnockjaa
open Go.RowKit
open Pth

theorem partsB_yes (s : ByteArray) (h0 : s.toList.isEmpty = false) (h : mayB s = true) : partsB s = cutB s := by
  rw [empty_iff] at h0
  unfold mayB at h
  unfold partsB partsL cutB
  rw [h0, h]
  rfl

set_option maxHeartbeats 400000 in
theorem rparts_any (s : ByteArray) (w : World) (hs : s.size ≤ 100000) : Calls Try.prog 19 #[.string s] w (PartsPost s w) := by
  cases h0 : s.toList.isEmpty
  · go_enter Try.func19, Try.ntmps19
    go_wp2_with fail
    refine (rmay_any s _ hs).mono ?_
    rintro e w1 ⟨rfl, hq⟩
    cases hm : mayB s
    · have E := Lib.hid (partsB_no s hm)
      clear hm
      go_wp2_with fail
      go_ret
      exact ⟨_, rfl, by rw [E.out]; exact StrsAt.nil_ _, hq⟩
    · have E := Lib.hid (partsB_yes s h0 hm)
      clear hm
      go_wp2_with fail
      refine (cut_any s _ hs).mono ?_
      rintro e w2 ⟨v, rfl, hv, hq2⟩
      go_wp2_with fail
      go_ret
      exact ⟨_, rfl, by rw [E.out]; exact hv, hq.trans hq2⟩
  · have E := Lib.hid (mayB_nil s (List.isEmpty_iff.1 h0)).2
    go_enter Try.func19, Try.ntmps19
    go_wp2_with fail
    go_ret
    exact ⟨_, rfl, by rw [E.out]; exact StrsAt.nil_ _, Q.refl _⟩

set_option maxHeartbeats 400000 in
theorem rdepth_any (s : ByteArray) (w : World) (hs : s.size ≤ 100000) :
    Calls Try.prog 21 #[.string s] w fun e w' => e = .returned (.int .i64 (depthB s)) ∧ Q w w' := by
  go_enter Try.func21, Try.ntmps21
  go_wp2_with fail
  refine (rmay_any s _ hs).mono ?_
  rintro e w1 ⟨rfl, hq⟩
  cases hm : mayB s
  · have E := Lib.hid (depthB_no s hm)
    clear hm
    go_wp2_with fail
    go_ret
    exact ⟨ret_int E.out.symm, hq⟩
  · have E := Lib.hid (depthB_yes s hm)
    clear hm
    go_wp2_with fail
    refine (rparts_any s _ hs).mono ?_
    rintro e w2 ⟨v, rfl, hv, hq2⟩
    obtain ⟨A, c, rfl⟩ := hv.form
    go_wp2_with fail
    go_ret
    exact ⟨ret_int E.out.symm, hq.trans hq2⟩

set_option maxHeartbeats 400000 in
theorem rlast_any (s : ByteArray) (w : World) (hs : s.size ≤ 100000) :
    Calls Try.prog 23 #[.string s] w fun e w' => e = .returned (.string (lastB s)) ∧ Q w w' := by
  go_enter Try.func23, Try.ntmps23
  go_wp2_with fail
  refine (rparts_any s _ hs).mono ?_
  rintro e w1 ⟨v, rfl, hv, hq⟩
  by_cases hn : (partsB s).length = 0
  · obtain ⟨A, c, rfl⟩ := hv.form
    have t1 : (((partsB s).length : Int) == 0) = true := beq_iff_eq.2 (by omega)
    have E := Lib.hid (lastB_none s hn)
    clear hn
    go_wp2
    go_ret
    exact ⟨ret_string E.out.symm, hq⟩
  · obtain ⟨g, c, rfl, h1, h2, h3⟩ := hv.at_ (by omega)
    have t1 : (((partsB s).length : Int) == 0) = false := beq_eq_false_iff_ne.2 (by omega)
    have hl := lastB_some s (by omega)
    have hc : w1.cell? ⟨g, (partsB s).length - 1, none⟩ = some (.string (lastB s)) := by
      rw [h3 _ (by omega)]
      rw [List.getElem?_eq_getElem (by omega)] at hl
      rw [Option.some.inj hl]
    have hpos : 1 ≤ (partsB s).length := by omega
    clear h3 hl hn
    unfold maxLen at h2
    generalize (partsB s).length = n at *
    obtain ⟨m, rfl⟩ : ∃ m, n = m + 1 := ⟨n - 1, by omega⟩
    rw [Nat.add_sub_cancel] at hc
    go_wp2
    go_ret
    exact ⟨rfl, hq⟩

set_option maxHeartbeats 400000 in
theorem rparent_any (s : ByteArray) (w : World) (hs : s.size ≤ 100000) :
    Calls Try.prog 10 #[.string s] w fun e w' => e = .returned (.tuple #[.string (parentB s), .bool (hasParentB s)]) ∧ Q w w' := by
  go_enter Try.func10, Try.ntmps10
  go_wp2_with fail
  refine (rparts_any s _ hs).mono ?_
  rintro e w1 ⟨v, rfl, hv, hq⟩
  by_cases hn : (partsB s).length = 0
  · obtain ⟨A, c, rfl⟩ := hv.form
    have t1 : (((partsB s).length : Int) == 0) = true := beq_iff_eq.2 (by omega)
    have E := Lib.hid (hasParentB_none s hn)
    clear hn
    go_wp2
    go_ret2
    exact ⟨ret_sb E.out.2.symm E.out.1.symm, hq⟩
  · obtain ⟨g, c, rfl, h1, h2, h3⟩ := hv.at_ (by omega)
    have t1 : (((partsB s).length : Int) == 0) = false := beq_eq_false_iff_ne.2 (by omega)
    have hl := lastB_some s (by omega)
    have hc : w1.cell? ⟨g, (partsB s).length - 1, none⟩ = some (.string (lastB s)) := by
      rw [h3 _ (by omega)]
      rw [List.getElem?_eq_getElem (by omega)] at hl
      rw [Option.some.inj hl]
    have hpos : 1 ≤ (partsB s).length := by omega
    have E := Lib.hid (hasParentB_some s hpos)
    obtain ⟨z1, z2⟩ := lastB_long s hpos
    clear h3 hl hn hv
    unfold maxLen at h2
    generalize (partsB s).length = n at *
    obtain ⟨m, rfl⟩ : ∃ m, n = m + 1 := ⟨n - 1, by omega⟩
    rw [Nat.add_sub_cancel] at hc
    generalize hl : lastB s = l at *
    clear hl
    by_cases hz : l.size + 1 < s.size
    · go_wp2
      go_ret2
      exact ⟨ret_sb E.out.2.symm E.out.1.symm, hq⟩
    · have E2 : Hid (s.extract 0 (s.size - l.size - 1) = ByteArray.empty) := by
        rw [show s.size - l.size - 1 = 0 from by omega]
        exact bs_eq (by rw [extract_mkB]; rfl)
      go_wp2
      go_ret2
      exact ⟨ret_sb (E2.out.symm.trans E.out.2.symm) E.out.1.symm, hq⟩

set_option maxHeartbeats 400000 in
theorem rjoin_any (a b : ByteArray) (w : World) (ha : a.size ≤ 100000) (hb : b.size ≤ 100000) :
    Calls Try.prog 12 #[.string a, .string b] w fun e w' => e = .returned (.tuple #[.string (joinB a b), .int .i64 (joinErrB a b)]) ∧ Q w w' := by
  go_enter Try.func12, Try.ntmps12
  go_wp2_with fail
  refine (rmay_any a _ ha).mono ?_
  rintro e w1 ⟨rfl, hq⟩
  cases h1 : mayB a
  · have E := Lib.hid (joinB_bad a b (.inl h1))
    clear h1
    go_wp2_with fail
    go_ret2
    exact ⟨ret_si E.out.2.symm E.out.1.symm, hq⟩
  have H1 := Lib.hid h1
  clear h1
  go_wp2_with fail
  refine (rname_any b _ (by unfold maxLen; omega)).mono ?_
  rintro e w2 ⟨rfl, rfl⟩
  cases h2 : nameB b
  · have E := Lib.hid (joinB_bad a b (.inr h2))
    clear h2
    go_wp2_with fail
    go_ret2
    exact ⟨ret_si E.out.2.symm E.out.1.symm, hq⟩
  have z1 := mayB_size a H1.out
  obtain ⟨z2, z3⟩ := nameB_size b h2
  have H2 := Lib.hid h2
  clear h2
  cases h3 : a.toList.isEmpty
  · go_wp2_with fail
    generalize hj : a ++ _ ++ b = j
    have E := Lib.hid (joinB_of a b j H1.out H2.out (by rw [← hj]; exact joined_in a b h3))
    have zj : j.size ≤ 100000 := by
      rw [← hj, ByteArray.size_append, ByteArray.size_append]
      show a.size + 1 + b.size ≤ _
      omega
    clear hj
    refine (rmay_any j _ zj).mono ?_
    rintro e w3 ⟨rfl, hq3⟩
    have hq := hq.trans hq3
    clear hq3
    cases h4 : mayB j
    · have E := Lib.hid (E.out.2 h4)
      clear h4
      go_wp2_with fail
      go_ret2
      exact ⟨ret_si E.out.2.symm E.out.1.symm, hq⟩
    · have E := Lib.hid (E.out.1 h4)
      clear h4
      go_wp2_with fail
      go_ret2
      exact ⟨ret_si E.out.2.symm E.out.1.symm, hq⟩
  · have E := Lib.hid (joinB_of a b _ H1.out H2.out (joined_top a b h3))
    go_wp2_with fail
    refine (rmay_any b _ hb).mono ?_
    rintro e w3 ⟨rfl, hq3⟩
    have hq := hq.trans hq3
    clear hq3
    cases h4 : mayB b
    · have E := Lib.hid (E.out.2 h4)
      clear h4
      go_wp2_with fail
      go_ret2
      exact ⟨ret_si E.out.2.symm E.out.1.symm, hq⟩
    · have E := Lib.hid (E.out.1 h4)
      clear h4
      go_wp2_with fail
      go_ret2
      exact ⟨ret_si E.out.2.symm E.out.1.symm, hq⟩
end Go.Proofs.Ytafekepgnockjaa
