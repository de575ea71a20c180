/-
  The contracts of the document's own Under and Less, and of the law's own Texts.
-/
import Derived.Test.YtgbenepapajieaaGreatPRef2
namespace Go.Proofs.YtgbenepapajieaaGreat.Pa
open Go.RowKit
open Pth

/-- What the document's Under asks behind the two easy answers. -/
theorem prefB_long (s t : ByteArray) (h : ¬ t.size < s.size) : prefB s (t ++ ⟨#[47]⟩) = false := by
  refine prefB_short _ _ ?_
  rw [ByteArray.size_append]
  show s.size < t.size + 1
  omega
theorem prefix_snoc (t s : List UInt8) (c : UInt8) (n : Nat) (hn : n = t.length) (h : n < s.length) : (t ++ [c]).isPrefixOf s = (s.take n == t && s[n] == c) := by
  subst hn
  rw [Bool.eq_iff_iff, List.isPrefixOf_iff_prefix, Bool.and_eq_true, beq_iff_eq, beq_iff_eq, List.prefix_iff_eq_take]
  have e : s.take (t ++ [c]).length = s.take t.length ++ [s[t.length]] := by
    rw [List.length_append, List.length_singleton]
    exact List.take_succ_eq_append_getElem h
  rw [e]
  constructor
  · intro h
    have := List.append_inj h (by simp; omega)
    exact ⟨this.1.symm, by simpa using this.2.symm⟩
  · rintro ⟨h1, h2⟩
    rw [h1, h2]
theorem prefB_at (s t : ByteArray) (h : t.size < s.size) : prefB s (t ++ ⟨#[47]⟩) = ((s.extract 0 t.size).toList == t.toList && s[t.size] == 47) := by
  unfold prefB
  rw [data_app, ByteArray.toList_eq, ByteArray.toList_eq, extract_mkB, mkB_list, List.drop_zero, Nat.sub_zero]
  exact prefix_snoc t.data.toList s.data.toList 47 t.size (size_list t).symm (by rw [size_list]; exact h)

set_option maxRecDepth 100000 in
set_option maxHeartbeats 400000 in
theorem runder_any (s t : ByteArray) (w : World) (hs : s.size ≤ 100000) (ht : t.size ≤ 100000) :
    Calls Tryz.prog 30 #[.string s, .string t] w fun e w' => e = .returned (.bool (underB s t)) ∧ Q w w' := by
  go_enter Tryz.func30, Tryz.ntmps30
  go_wp2_with fail
  refine (rmay_any s _ hs).mono ?_
  rintro e w1 ⟨rfl, hq⟩
  cases h1 : mayB s
  · have E := Lib.hid (underB_no1 s t h1)
    clear h1
    go_wp2_with fail
    go_ret
    exact ⟨ret_bool E.out.symm, hq⟩
  have H1 := Lib.hid h1
  clear h1
  go_wp2_with fail
  refine (rmay_any t _ ht).mono ?_
  rintro e w2 ⟨rfl, hq2⟩
  have hq := hq.trans hq2
  clear hq2
  cases h2 : mayB t
  · have E := Lib.hid (underB_no2 s t h2)
    clear h2
    go_wp2_with fail
    go_ret
    exact ⟨ret_bool E.out.symm, hq⟩
  have E := Lib.hid (underB_yes s t H1.out h2)
  have z1 := mayB_size s H1.out
  have z2 := mayB_size t h2
  clear h2
  cases h3 : t.toList.isEmpty
  · rw [h3, Bool.false_or] at E
    cases h4 : (s.toList == t.toList)
    · rw [h4, Bool.false_or] at E
      by_cases hz : t.size < s.size
      · rw [prefB_at s t hz] at E
        cases h5 : ((s.extract 0 t.size).toList == t.toList)
        · rw [h5, Bool.false_and] at E
          go_wp2_with fail
          go_ret
          exact ⟨ret_bool E.out.symm, hq⟩
        · rw [h5, Bool.true_and] at E
          by_cases h6 : s[t.size] = 47
          · have t6 : ((s[t.size].toNat : Int) == 47) = true := u8_eq 47 h6
            have E := Lib.hid (E.out.trans (beq_iff_eq.2 h6))
            clear h6
            go_wp2_with fail
            go_ret
            exact ⟨ret_bool E.out.symm, hq⟩
          · have t6 : ((s[t.size].toNat : Int) == 47) = false := u8_ne 47 h6
            have E := Lib.hid (E.out.trans (beq_eq_false_iff_ne.2 h6))
            clear h6
            go_wp2_with fail
            go_ret
            exact ⟨ret_bool E.out.symm, hq⟩
      · have E := Lib.hid (E.out.trans (prefB_long s t hz))
        go_wp2_with fail
        go_ret
        exact ⟨ret_bool E.out.symm, hq⟩
    · rw [h4, Bool.true_or] at E
      go_wp2_with fail
      go_ret
      exact ⟨ret_bool E.out.symm, hq⟩
  · rw [h3, Bool.true_or, Bool.true_or] at E
    go_wp2_with fail
    go_ret
    exact ⟨ret_bool E.out.symm, hq⟩

set_option maxRecDepth 100000 in
set_option maxHeartbeats 800000 in
theorem rless_any (s t : ByteArray) (w : World) (hs : s.size ≤ 100000) (ht : t.size ≤ 100000) :
    Calls Tryz.prog 32 #[.string s, .string t] w fun e w' => e = .returned (.bool (lessB s t)) ∧ Q w w' := by
  go_enter Tryz.func32, Tryz.ntmps32
  go_wp2_with fail
  refine (rparts_any s _ hs).mono ?_
  rintro e w1 ⟨x, rfl, hx, hq1⟩
  go_wp2_with fail
  refine (rparts_any t _ ht).mono ?_
  rintro e w2 ⟨y, rfl, hy, hq2⟩
  have hx := hx.keep hq2
  have hq := hq1.trans hq2
  clear hq1 hq2
  go_wp2_with fail
  go_loopw [7] (fun i wr => ∃ k : Nat, i = .int .i64 k ∧ StrsAt wr x (partsB s) ∧ StrsAt wr y (partsB t) ∧ Q w wr ∧ Hid (LessAt s t k)) (fun i _ => (partsB s).length - (intOf i).toNat)
  case atStart => exact ⟨0, rfl, hx, hy, hq, LessAt.start s t⟩
  case round =>
    clear hx hy hq
    obtain ⟨k, rfl, hx, hy, hq, H⟩ := hrel
    have l1 := H.out.1
    have l2 := H.out.2.1
    by_cases h1 : k = (partsB s).length
    · obtain ⟨A1, c1, rfl⟩ := hx.form
      obtain ⟨A2, c2, rfl⟩ := hy.form
      have E := Lib.hid (H.out.stop (.inl h1))
      have n1 : ¬ k < (partsB s).length := by omega
      clear h1
      go_wp2
      go_ret
      exact ⟨ret_bool (by rw [E.out]), hq⟩
    by_cases h2 : k = (partsB t).length
    · obtain ⟨A1, c1, rfl⟩ := hx.form
      obtain ⟨A2, c2, rfl⟩ := hy.form
      have E := Lib.hid (H.out.stop (.inr h2))
      have n1 : k < (partsB s).length := by omega
      have n2 : ¬ k < (partsB t).length := by omega
      clear h1 h2
      go_wp2
      go_ret
      exact ⟨ret_bool (by rw [E.out]), hq⟩
    obtain ⟨g1, c1, rfl, b1, b2, b3⟩ := hx.at_ (by omega)
    obtain ⟨g2, c2, rfl, b4, b5, b6⟩ := hy.at_ (by omega)
    unfold maxLen at b2 b5
    have e1 := b3 k (by omega)
    have e2 := b6 k (by omega)
    have hsame := H.out.same (by omega) (by omega)
    have hdiff := H.out.diff (by omega) (by omega)
    generalize (partsB s)[k]'(by omega) = p at e1 hsame hdiff
    generalize (partsB t)[k]'(by omega) = q at e2 hsame hdiff
    clear b3 b6 H
    have n1 : k < (partsB s).length := by omega
    have n2 : k < (partsB t).length := by omega
    clear h1 h2
    by_cases he : p.toList = q.toList
    · have t3 : (p.toList == q.toList) = true := beq_iff_eq.2 he
      have E : Hid (LessAt s t (k + 1)) := hsame he
      clear he hsame hdiff
      go_wp2
      go_quiet (fail)
      go_wp2
      go_roundw
      case rel => exact ⟨k + 1, by go_num, hx.keep ((Q.refl _).drewN _), hy.keep ((Q.refl _).drewN _), hq.drewN _, E⟩
      case measure => simp [intOf]; omega
    · have t3 : (p.toList == q.toList) = false := beq_eq_false_iff_ne.2 he
      have E := Lib.hid (hdiff he)
      clear he hsame hdiff
      go_wp2
      go_quiet (fail)
      go_wp2
      go_quiet (fail)
      go_wp2
      go_ret
      first | exact ⟨ret_bool E.out.symm, (hq.drewN _).drewN _⟩ | exact ⟨ret_bool E.out.symm, hq.drewN _⟩

/-- Two lists of texts, one by one. -/
def sameS (x y : List ByteArray) : Bool := x.map (fun b => b.data.toList) == y.map (fun b => b.data.toList)
theorem sameS_self (x : List ByteArray) : sameS x x = true := by unfold sameS; exact beq_self_eq_true _

set_option maxRecDepth 100000 in
set_option maxHeartbeats 800000 in
/-- The law's own Texts, at two slices that read as the same list. -/
theorem texts_same (x y : Value) (ls : List ByteArray) (w : World) (hx : StrsAt w x ls) (hy : StrsAt w y ls) :
    Calls Tryz.prog 22 #[x, y] w fun e w' => e = .returned (.bool true) ∧ Q w w' := by
  obtain ⟨A1, c1, rfl⟩ := hx.form
  obtain ⟨A2, c2, rfl⟩ := hy.form
  have hz : 0 < ls.length → (ls.length : Int) ≤ 9223372036854775807 := by
    intro hp
    obtain ⟨g1, c1', e1, b1, b2, _⟩ := hx.at_ hp
    unfold maxLen at b2
    omega
  go_enter Tryz.func22, Tryz.ntmps22
  go_wp2
  go_loopw [5] (fun i wr => ∃ k : Nat, i = .int .i64 k ∧ k ≤ ls.length ∧ Q w wr) (fun i _ => ls.length - (intOf i).toNat)
  case atStart => exact ⟨0, rfl, by omega, Q.refl _⟩
  case round =>
    obtain ⟨k, rfl, hk, hq⟩ := hrel
    by_cases hlt : k < ls.length
    · have hz := hz (by omega)
      obtain ⟨g1, c1', e1, b1, b2, b3⟩ := (hx.keep hq).at_ (by omega)
      obtain ⟨g2, c2', e2, b4, b5, b6⟩ := (hy.keep hq).at_ (by omega)
      injection e1 with e1 _ e1'
      injection e2 with e2 _ e2'
      subst e1 e1' e2 e2'
      have d1 := b3 k hlt
      have d2 := b6 k hlt
      generalize ls[k] = p at d1 d2
      clear b3 b6 hx hy
      have t3 : (p.toList == p.toList) = true := beq_self_eq_true _
      go_wp2
      go_quiet (fail)
      go_wp2
      go_roundw
      case rel => exact ⟨k + 1, by go_num, hlt, hq.drewN _⟩
      case measure => simp [intOf]; omega
    · go_wp2
      go_ret
      exact ⟨rfl, hq⟩
end Go.Proofs.YtgbenepapajieaaGreat.Pa
