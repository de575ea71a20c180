/-
  The contracts of the document's own MayPath, Parts, Depth, Last. The contracts of path.May, Parts, Depth, Last, Parent, Join, Under. The contracts of path.Parent, Under, Join, Less. The contracts of path.Less and of the document's Less, MayPath, Parts. Plain facts on paths: order and Under over byte arrays. Plain facts on a made path and its parents: what PathJoins asks. The contracts of the document's own Parts, Depth, Last, Parent, Join, Under, Less.
-/
import Derived.Deep.QuietTactic
import Derived.BigQuiet
import Derived.Test.YtgbenepapajieaaGreatPMore2
import Derived.Test.YtgbenepapajieaaGreatPWords
namespace Go.Proofs.YtgbenepapajieaaGreat.Pa
open Go.RowKit
open Pth

theorem cut_small (l : List UInt8) : ∀ p ∈ cutL l, p.length ≤ l.length := by
  induction l with
  | nil => simp [cutL]
  | cons c r ih =>
    intro p hp
    unfold cutL at hp
    split at hp
    · rcases List.mem_cons.1 hp with rfl | hp
      · simp
      · have := ih p hp; simp; omega
    · split at hp
      · rename_i h t e
        rw [e] at ih
        rcases List.mem_cons.1 hp with rfl | hp
        · have := ih h (by simp); simp; omega
        · have := ih p (by simp [hp]); simp; omega
      · rw [List.mem_singleton.1 hp]; simp
theorem cutB_len (s : ByteArray) : (cutB s).length = (cutL s.data.toList).length := by unfold cutB; simp
theorem cutB_get (s : ByteArray) (i : Nat) (h : i < (cutB s).length) : (cutB s)[i] = mkB ((cutL s.data.toList)[i]'(by rw [cutB_len] at h; exact h)) := by simp [cutB]
theorem cutB_small (s : ByteArray) (i : Nat) (h : i < (cutB s).length) : (cutB s)[i].size ≤ s.size := by
  rw [cutB_get s i h, size_mkB, ← size_list s]
  exact cut_small _ _ (List.getElem_mem _)
theorem cutB_pos (s : ByteArray) : 0 < (cutB s).length := by rw [cutB_len]; exact List.length_pos_iff.2 (cutL_ne _)
/-- The first k pieces are names. -/
def NamesTo (s : ByteArray) (k : Nat) : Prop := ((cutL s.data.toList).take k).all nameL = true
theorem NamesTo.start (s : ByteArray) : NamesTo s 0 := rfl
theorem NamesTo.next {s : ByteArray} {k : Nat} (h : NamesTo s k) (hk : k < (cutB s).length) (hn : nameB (cutB s)[k] = true) : NamesTo s (k + 1) := by
  rw [cutB_get s k hk] at hn
  unfold nameB at hn
  rw [mkB_list] at hn
  unfold NamesTo at h ⊢
  rw [cutB_len] at hk
  rw [List.take_succ_eq_append_getElem hk, List.all_append, h]
  simp [hn]
theorem NamesTo.bad {s : ByteArray} {k : Nat} (h0 : s.toList.isEmpty = false) (hk : k < (cutB s).length) (hn : nameB (cutB s)[k] = false) : mayB s = false := by
  rw [cutB_get s k hk] at hn
  unfold nameB at hn
  rw [mkB_list] at hn
  rw [empty_iff] at h0
  rw [cutB_len] at hk
  have : (cutL s.data.toList).all nameL = false := List.all_eq_false.2 ⟨_, List.getElem_mem hk, by rw [hn]; simp⟩
  unfold mayB mayL
  rw [h0, this]
  simp
theorem NamesTo.done {s : ByteArray} {k : Nat} (h : NamesTo s k) (h0 : s.toList.isEmpty = false) (hk : ¬ k < (cutB s).length) : mayB s = (decide ((s.size : Int) ≤ 100) && decide (((cutB s).length : Int) ≤ 8)) := by
  unfold NamesTo at h
  rw [cutB_len] at hk
  rw [List.take_of_length_le (by omega)] at h
  rw [empty_iff] at h0
  unfold mayB mayL
  rw [h0, h, size_list, cutB_len, Bool.false_or, Bool.and_true]
  congr 1 <;> (congr 1; exact propext (by omega))

set_option maxRecDepth 100000 in
set_option maxHeartbeats 400000 in
theorem rmay_any (s : ByteArray) (w : World) (hs : s.size ≤ 100000) :
    Calls Tryz.prog 38 #[.string s] w fun e w' => e = .returned (.bool (mayB s)) ∧ Q w w' := by
  cases h0 : s.toList.isEmpty
  · go_enter Tryz.func38, Tryz.ntmps38
    go_wp2_with fail
    refine (cut_any s _ hs).mono ?_
    rintro e w1 ⟨v, rfl, hv, hq⟩
    have hpos := cutB_pos s
    obtain ⟨g, c, rfl, b1, b2, b3⟩ := hv.at_ hpos
    unfold maxLen at b2
    have B3 := Lib.hid b3
    clear b3 hv
    go_wp2_with fail
    go_loop [4] (fun i => ∃ k : Nat, i = .int .i64 k ∧ k ≤ (cutB s).length ∧ Hid (NamesTo s k)) (fun i => (cutB s).length - (intOf i).toNat)
    case atStart => exact ⟨0, rfl, by omega, NamesTo.start s⟩
    case round =>
      obtain ⟨k, rfl, hk, H⟩ := hrel
      by_cases hlt : k < (cutB s).length
      · have hc := B3.out k hlt
        have hz := cutB_small s k hlt
        have hn := H.out.next hlt
        have hb := NamesTo.bad h0 hlt
        generalize (cutB s)[k]'hlt = p at hc hz hn hb
        have HN := Lib.hid hn
        have HB := Lib.hid hb
        clear hn hb
        go_wp2_with fail
        refine (rname_any p _ (by unfold maxLen; omega)).mono ?_
        rintro e w2 ⟨rfl, rfl⟩
        cases hp : nameB p
        · have E := Lib.hid (HB.out hp)
          clear hp
          go_wp2_with fail
          go_ret
          exact ⟨ret_bool E.out.symm, hq⟩
        · have E : Hid (NamesTo s (k + 1)) := HN.out hp
          clear hp
          go_wp2_with fail
          go_round
          case rel => exact ⟨k + 1, by go_num, hlt, E⟩
          case measure => simp [intOf]; omega
      · have E := Lib.hid (H.out.done h0 hlt)
        by_cases q1 : s.size ≤ 100
        · have d1 : decide ((s.size : Int) ≤ 100) = true := decide_eq_true (by omega)
          rw [d1, Bool.true_and] at E
          clear d1
          go_wp2_with fail
          go_ret
          exact ⟨ret_bool E.out.symm, hq⟩
        · have d1 : decide ((s.size : Int) ≤ 100) = false := decide_eq_false (by omega)
          rw [d1, Bool.false_and] at E
          clear d1
          go_wp2_with fail
          go_ret
          exact ⟨ret_bool E.out.symm, hq⟩
  · have E := Lib.hid (mayB_nil s (List.isEmpty_iff.1 h0)).1
    go_enter Tryz.func38, Tryz.ntmps38
    go_wp2_with fail
    go_ret
    exact ⟨ret_bool E.out.symm, Q.refl _⟩
end Go.Proofs.YtgbenepapajieaaGreat.Pa
namespace Go.Proofs.YtgbenepapajieaaGreat.Pa
open Go.RowKit
open Pth

set_option maxRecDepth 100000 in
set_option maxHeartbeats 400000 in
theorem may_any (s : ByteArray) (w : World) (hs : s.size ≤ maxLen) :
    Calls Tryz.prog 74 #[.string s] w fun e w' => e = .returned (.bool (mayB s)) ∧ Q w w' := by
  go_enter Tryz.func74, Tryz.ntmps74
  go_wp2_with (go_at_call 91; refine (split_any s _ hs).mono ?_; rintro e w1 ⟨v, rfl, hv, hq⟩)
  go_ret
  exact ⟨rfl, hq⟩

def PartsPost (s : ByteArray) (w : World) (e : Ending) (w' : World) : Prop := ∃ v, e = .returned v ∧ StrsAt w' v (partsB s) ∧ Q w w'
set_option maxRecDepth 100000 in
set_option maxHeartbeats 400000 in
theorem parts_any (s : ByteArray) (w : World) (hs : s.size ≤ maxLen) : Calls Tryz.prog 80 #[.string s] w (PartsPost s w) := by
  go_enter Tryz.func80, Tryz.ntmps80
  go_wp2_with (go_at_call 91; refine (split_any s _ hs).mono ?_; rintro e w1 ⟨v, rfl, hv, hq⟩)
  go_ret
  exact ⟨_, rfl, hv, hq⟩

set_option maxRecDepth 100000 in
set_option maxHeartbeats 400000 in
theorem last_any (s : ByteArray) (w : World) (hs : s.size ≤ maxLen) :
    Calls Tryz.prog 54 #[.string s] w fun e w' => e = .returned (.string (lastB s)) ∧ Q w w' := by
  go_enter Tryz.func54, Tryz.ntmps54
  go_wp2_with fail
  refine (parts_any s _ hs).mono ?_
  rintro e w1 ⟨v, rfl, hv, hq⟩
  by_cases hn : (partsB s).length = 0
  · obtain ⟨A, c, rfl⟩ := hv.form
    have t1 : (((partsB s).length : Int) == 0) = true := beq_iff_eq.2 (by omega)
    have E := Lib.hid (lastB_none s hn)
    clear hn
    go_wp2
    go_ret
    exact ⟨ret_string E.out.symm, hq⟩
  · obtain ⟨g, c, rfl, h1, h2, h3⟩ := hv.at_ (by omega)
    have t1 : (((partsB s).length : Int) == 0) = false := beq_eq_false_iff_ne.2 (by omega)
    have hl := lastB_some s (by omega)
    have hc : w1.cell? ⟨g, (partsB s).length - 1, none⟩ = some (.string (lastB s)) := by
      rw [h3 _ (by omega)]
      rw [List.getElem?_eq_getElem (by omega)] at hl
      rw [Option.some.inj hl]
    have hpos : 1 ≤ (partsB s).length := by omega
    clear h3 hl hn
    unfold maxLen at h2
    generalize (partsB s).length = n at *
    obtain ⟨m, rfl⟩ : ∃ m, n = m + 1 := ⟨n - 1, by omega⟩
    rw [Nat.add_sub_cancel] at hc
    go_wp2
    go_ret
    exact ⟨rfl, hq⟩
end Go.Proofs.YtgbenepapajieaaGreat.Pa
namespace Go.Proofs.YtgbenepapajieaaGreat.Pa
open Go.RowKit
open Pth

set_option maxRecDepth 100000 in
set_option maxHeartbeats 400000 in
theorem parent_any (s : ByteArray) (w : World) (hs : s.size ≤ maxLen) :
    Calls Tryz.prog 53 #[.string s] w fun e w' => e = .returned (.tuple #[.string (parentB s), .bool (hasParentB s)]) ∧ Q w w' := by
  go_enter Tryz.func53, Tryz.ntmps53
  go_wp2_with fail
  refine (last_any s _ hs).mono ?_
  rintro e w1 ⟨rfl, hq⟩
  unfold maxLen at hs
  by_cases hn : (partsB s).length = 0
  · have E := Lib.hid (hasParentB_none s hn)
    have t1 : (lastB s).toList.isEmpty = true := is_empty (lastB_none s hn)
    clear hn
    go_wp2
    go_ret2
    exact ⟨ret_sb E.out.2.symm E.out.1.symm, hq⟩
  · have E := Lib.hid (hasParentB_some s (by omega))
    obtain ⟨h1, h2⟩ := lastB_long s (by omega)
    have t1 : (lastB s).toList.isEmpty = false := not_empty h1
    clear hn
    generalize hl : lastB s = l at *
    clear hl
    by_cases hc : l.size + 1 ≤ s.size
    · go_wp2
      go_ret2
      exact ⟨ret_sb E.out.2.symm E.out.1.symm, hq⟩
    · have E2 : Hid (s.extract 0 (s.size - l.size - 1) = ByteArray.empty) := by
        rw [show s.size - l.size - 1 = 0 from by omega]
        exact bs_eq (by rw [extract_mkB]; rfl)
      go_wp2
      go_ret2
      exact ⟨ret_sb (E2.out.symm.trans E.out.2.symm) E.out.1.symm, hq⟩

set_option maxRecDepth 100000 in
set_option maxHeartbeats 400000 in
theorem hasPrefix_any (s p : ByteArray) (w : World) :
    Calls Tryz.prog 90 #[.string s, .string p] w fun e w' => e = .returned (.bool (prefB s p)) ∧ w = w' := by
  by_cases h : s.size < p.size
  · have E := Lib.hid (prefB_short s p h)
    go_enter Tryz.func90, Tryz.ntmps90
    go_wp2
    go_ret
    exact ⟨ret_bool E.out.symm, rfl⟩
  · have E := Lib.hid (prefB_cut s p)
    go_enter Tryz.func90, Tryz.ntmps90
    go_wp2
    go_ret
    exact ⟨ret_bool E.out.symm, rfl⟩

set_option maxRecDepth 100000 in
set_option maxHeartbeats 400000 in
theorem under_any (s t : ByteArray) (w : World) (hs : s.size ≤ maxLen) (ht : t.size ≤ maxLen) :
    Calls Tryz.prog 73 #[.string s, .string t] w fun e w' => e = .returned (.bool (underB s t)) ∧ Q w w' := by
  go_enter Tryz.func73, Tryz.ntmps73
  go_wp2_with fail
  refine (may_any s _ hs).mono ?_
  rintro e w1 ⟨rfl, hq⟩
  cases h1 : mayB s
  · have E := Lib.hid (underB_no1 s t h1)
    clear h1
    go_wp2_with fail
    go_ret
    exact ⟨ret_bool E.out.symm, hq⟩
  have H1 := Lib.hid h1
  clear h1
  go_wp2_with fail
  refine (may_any t _ ht).mono ?_
  rintro e w2 ⟨rfl, hq2⟩
  have hq := hq.trans hq2
  clear hq2
  cases h2 : mayB t
  · have E := Lib.hid (underB_no2 s t h2)
    clear h2
    go_wp2_with fail
    go_ret
    exact ⟨ret_bool E.out.symm, hq⟩
  have E := Lib.hid (underB_yes s t H1.out h2)
  have z1 := mayB_size s H1.out
  have z2 := mayB_size t h2
  clear h2
  cases h3 : t.toList.isEmpty
  · rw [h3, Bool.false_or] at E
    cases h4 : (s.toList == t.toList)
    · rw [h4, Bool.false_or] at E
      go_wp2_with (go_at_call 90; refine (hasPrefix_any s _ _).mono ?_; rintro e w3 ⟨rfl, rfl⟩)
      go_ret
      exact ⟨ret_bool E.out.symm, hq⟩
    · rw [h4, Bool.true_or] at E
      go_wp2_with fail
      go_ret
      exact ⟨ret_bool E.out.symm, hq⟩
  · rw [h3, Bool.true_or, Bool.true_or] at E
    go_wp2_with fail
    go_ret
    exact ⟨ret_bool E.out.symm, hq⟩

end Go.Proofs.YtgbenepapajieaaGreat.Pa
namespace Go.Proofs.YtgbenepapajieaaGreat.Pa
open Go.RowKit
open Pth

set_option maxRecDepth 100000 in
set_option maxHeartbeats 800000 in
theorem less_any (s t : ByteArray) (w : World) (hs : s.size ≤ maxLen) (ht : t.size ≤ maxLen) :
    Calls Tryz.prog 87 #[.string s, .string t] w fun e w' => e = .returned (.bool (lessB s t)) ∧ Q w w' := by
  go_enter Tryz.func87, Tryz.ntmps87
  go_wp2
  refine wp_scope_goto 0 (fun a' w' => ∃ (k : Nat) (x y : Value) (u8 u9 u10 u11 u12 u13 u14 u15 u16 u17 u18 u19 u20 u21 u22 u23 u24 u25 u26 u27 u28 u29 u30 u31 u32 u33 u34 u35 u36 u37 u38 u39 u40 u41 u42 u43 u44 u45 u46 : Value), a' = { tmps := #[.string s, .string t, undef, undef, .bool false, x, y, .int .i64 k, u8, u9, u10, u11, u12, u13, u14, u15, u16, u17, u18, u19, u20, u21, u22, u23, u24, u25, u26, u27, u28, u29, u30, u31, u32, u33, u34, u35, u36, u37, u38, u39, u40, u41, u42, u43, u44, u45, u46], defers := [] } ∧ StrsAt w' x (partsB s) ∧ StrsAt w' y (partsB t) ∧ Q w w' ∧ Hid (LessAt s t k)) (fun a' _ => (partsB s).length - (intOf (a'.tmps.getD 7 undef)).toNat) rfl ?_ ?_
  · intro hh
    go_wp2_with fail
    refine (parts_any s _ hs).mono ?_
    rintro e w1 ⟨x, rfl, hx, hq1⟩
    go_wp2_with fail
    refine (parts_any t _ ht).mono ?_
    rintro e w2 ⟨y, rfl, hy, hq2⟩
    go_wp2_with fail
    go_step3
    rename_i hK
    exact hK _ _ (hh.out _ _ ⟨0, _, _, _, _, _, _, _, _, _, _, _, _, _, _, _, _, _, _, _, _, _, _, _, _, _, _, _, _, _, _, _, _, _, _, _, _, _, _, _, _, _, rfl, hx.keep hq2, hy, hq1.trans hq2, LessAt.start s t⟩)
  · rintro a' wr ⟨k, x, y, u8, u9, u10, u11, u12, u13, u14, u15, u16, u17, u18, u19, u20, u21, u22, u23, u24, u25, u26, u27, u28, u29, u30, u31, u32, u33, u34, u35, u36, u37, u38, u39, u40, u41, u42, u43, u44, u45, u46, rfl, hx, hy, hq, H⟩
    have l1 := H.out.1
    have l2 := H.out.2.1
    by_cases h1 : k = (partsB s).length
    · obtain ⟨A1, c1, rfl⟩ := hx.form
      obtain ⟨A2, c2, rfl⟩ := hy.form
      have E := Lib.hid (H.out.stop (.inl h1))
      have t1 : ((k : Int) == ((partsB s).length : Int)) = true := beq_iff_eq.2 (by omega)
      clear h1
      go_wp2
      simp only [Exit.jump]
      go_ret
      exact ⟨ret_bool (by rw [E.out]), hq⟩
    have t1 : ((k : Int) == ((partsB s).length : Int)) = false := beq_eq_false_iff_ne.2 (by omega)
    by_cases h2 : k = (partsB t).length
    · obtain ⟨A1, c1, rfl⟩ := hx.form
      obtain ⟨A2, c2, rfl⟩ := hy.form
      have E := Lib.hid (H.out.stop (.inr h2))
      have t2 : ((k : Int) == ((partsB t).length : Int)) = true := beq_iff_eq.2 (by omega)
      clear h1 h2
      go_wp2
      simp only [Exit.jump]
      go_ret
      exact ⟨ret_bool (by rw [E.out]), hq⟩
    have t2 : ((k : Int) == ((partsB t).length : Int)) = false := beq_eq_false_iff_ne.2 (by omega)
    obtain ⟨g1, c1, rfl, b1, b2, b3⟩ := hx.at_ (by omega)
    obtain ⟨g2, c2, rfl, b4, b5, b6⟩ := hy.at_ (by omega)
    unfold maxLen at b2 b5
    have e1 := b3 k (by omega)
    have e2 := b6 k (by omega)
    have hsame := H.out.same (by omega) (by omega)
    have hdiff := H.out.diff (by omega) (by omega)
    generalize (partsB s)[k]'(by omega) = p at e1 hsame hdiff
    generalize (partsB t)[k]'(by omega) = q at e2 hsame hdiff
    clear b3 b6 H
    have n1 : k < (partsB s).length := by omega
    have n2 : k < (partsB t).length := by omega
    clear h1 h2
    by_cases he : p.toList = q.toList
    · have t3 : (p.toList == q.toList) = true := beq_iff_eq.2 he
      have E : Hid (LessAt s t (k + 1)) := hsame he
      clear he hsame hdiff
      go_wp2
      go_quiet (fail)
      go_wp2
      go_step3
      exact ⟨rfl, ⟨k + 1, _, _, _, _, _, _, _, _, _, _, _, _, _, _, _, _, _, _, _, _, _, _, _, _, _, _, _, _, _, _, _, _, _, _, _, _, _, _, _, _, _, rfl, hx.keep ((Q.refl _).drewN _), hy.keep ((Q.refl _).drewN _), hq.drewN _, E⟩, by simp [intOf]; omega⟩
    · have t3 : (p.toList == q.toList) = false := beq_eq_false_iff_ne.2 he
      have E := Lib.hid (hdiff he)
      clear he hsame hdiff
      go_wp2
      go_quiet (fail)
      go_wp2
      go_quiet (fail)
      go_wp2
      simp only [Exit.jump]
      go_ret
      exact ⟨ret_bool E.out.symm, hq.drewN _⟩
end Go.Proofs.YtgbenepapajieaaGreat.Pa
namespace Go.Proofs.YtgbenepapajieaaGreat.Pa
open Go.RowKit
open Pth
theorem path_ext {s t : ByteArray} (hs : mayB s = true) (ht : mayB t = true) (h : partsL s.data.toList = partsL t.data.toList) : s = t := by
  unfold mayB at hs ht
  exact bs_eq (by rw [← may_parts hs, ← may_parts ht, h])
theorem lessB_total (s t : ByteArray) (hs : mayB s = true) (ht : mayB t = true) :
    (lessB s t = true ∧ lessB t s = false ∧ (s.toList == t.toList) = false) ∨ (lessB s t = false ∧ lessB t s = true ∧ (s.toList == t.toList) = false) ∨
    (lessB s t = false ∧ lessB t s = false ∧ (s.toList == t.toList) = true) := by
  have key : ∀ x y : List (List UInt8), lessP x y = true → lessP y x = false := fun x y h => by
    cases hh : lessP y x with
    | false => rfl
    | true => exact absurd hh (lp_asymm x y h)
  have ne : ∀ u v : ByteArray, lessB u v = true → (u.toList == v.toList) = false := fun u v h => by
    refine beq_eq_false_iff_ne.2 fun e => ?_
    rw [ByteArray.toList_eq, ByteArray.toList_eq] at e
    unfold lessB lessL at h
    rw [e] at h
    exact lp_irrefl _ h
  rcases lp_total (partsL s.data.toList) (partsL t.data.toList) with h | h | h
  · exact .inl ⟨h, key _ _ h, ne s t h⟩
  · have e := path_ext hs ht h
    subst e
    have : lessB s s = false := by
      cases hh : lessB s s with
      | false => rfl
      | true => exact absurd hh (lp_irrefl _)
    exact .inr (.inr ⟨this, this, beq_self_eq_true _⟩)
  · refine .inr (.inl ⟨key _ _ h, h, ?_⟩)
    have := ne t s h
    rw [beq_eq_false_iff_ne] at this ⊢
    exact fun e => this e.symm
theorem lessB_trans (s t u : ByteArray) (h : lessB s t = true) (k : lessB t u = true) : lessB s u = true := lp_trans _ _ _ h k
theorem underB_iff (s t : ByteArray) (hs : mayB s = true) (ht : mayB t = true) : underB s t = true ↔ partsL t.data.toList <+: partsL s.data.toList := by
  have := under_parts s.data.toList t.data.toList
  unfold mayB at hs ht
  rw [hs, ht, Bool.true_and, Bool.true_and] at this
  unfold underB
  rw [this, List.isPrefixOf_iff_prefix]
theorem underB_between (s t u : ByteArray) (hs : mayB s = true) (ht : mayB t = true) (hu : mayB u = true) (h : underB t s = true) (h1 : lessB s u = true) (h2 : lessB u t = true) : underB u s = true := by
  rw [underB_iff t s ht hs] at h
  rw [underB_iff u s hu hs]
  exact lp_between _ _ _ h h1 h2
end Go.Proofs.YtgbenepapajieaaGreat.Pa
namespace Go.Proofs.YtgbenepapajieaaGreat.Pa
open Go.RowKit
open Pth

theorem joinN_take_len (ns : List (List UInt8)) (j : Nat) : (joinN (ns.take j)).length ≤ (joinN ns).length := by
  by_cases h : ns.drop j = []
  · rw [show ns.take j = ns from by have := List.take_append_drop j ns; rw [h, List.append_nil] at this; exact this]
    exact Nat.le_refl _
  · by_cases h2 : ns.take j = []
    · rw [h2]; exact Nat.zero_le _
    · have e : ns = ns.take j ++ ns.drop j := (List.take_append_drop j ns).symm
      conv => rhs; rw [e]
      rw [joinN_append _ _ h2 h]
      simp
/-- The path of the first j names. -/
def preB (ns : List (List UInt8)) (j : Nat) : ByteArray := mkB (joinN (ns.take j))
structure Good (ns : List (List UInt8)) : Prop where
  names : ns.all nameL = true
  eight : ns.length ≤ 8
  short : (joinN ns).length ≤ 100
theorem Good.take {ns : List (List UInt8)} (h : Good ns) (j : Nat) : Good (ns.take j) :=
  ⟨by rw [List.all_eq_true]; exact fun a ha => List.all_eq_true.1 h.names a (List.mem_of_mem_take ha), by have := h.eight; rw [List.length_take]; omega, Nat.le_trans (joinN_take_len ns j) h.short⟩
theorem Good.may {ns : List (List UInt8)} (h : Good ns) : mayL (joinN ns) = true := by
  rw [may_joinN ns h.names]
  simp [h.eight, h.short]
theorem Good.parts {ns : List (List UInt8)} (h : Good ns) : partsL (joinN ns) = ns := parts_joinN ns h.names h.may
theorem pre_may {ns : List (List UInt8)} (h : Good ns) (j : Nat) : mayB (preB ns j) = true := (h.take j).may
theorem pre_parts {ns : List (List UInt8)} (h : Good ns) (j : Nat) : partsL (preB ns j).data.toList = ns.take j := (h.take j).parts
theorem pre_size {ns : List (List UInt8)} (h : Good ns) (j : Nat) : (preB ns j).size ≤ 100 := mayB_size _ (pre_may h j)
theorem pre_depth {ns : List (List UInt8)} (h : Good ns) (j : Nat) (hj : j ≤ ns.length) : depthB (preB ns j) = (j : Int) := by
  rw [depthB_yes _ (pre_may h j), partsB_len, pre_parts h j, List.length_take]
  congr 1
  omega
theorem pre_under {ns : List (List UInt8)} (h : Good ns) (i j : Nat) (hi : i ≤ ns.length) (hj : j ≤ ns.length) : underB (preB ns i) (preB ns j) = decide (j ≤ i) := by
  rw [Bool.eq_iff_iff, underB_iff _ _ (pre_may h i) (pre_may h j), pre_parts h i, pre_parts h j, decide_eq_true_eq]
  constructor
  · intro hp
    have := hp.length_le
    rw [List.length_take, List.length_take] at this
    omega
  · intro hle
    exact List.take_prefix_take_left (by omega)
theorem pre_less {ns : List (List UInt8)} (h : Good ns) (j : Nat) (hj : j < ns.length) : lessB (preB ns j) (preB ns ns.length) = true := by
  unfold lessB lessL
  rw [pre_parts h, pre_parts h, List.take_length]
  conv => lhs; arg 2; rw [← List.take_append_drop j ns]
  exact lp_prefix _ _ (by
    intro e
    have := congrArg List.length e
    rw [List.length_drop] at this
    simp at this
    omega)
theorem take_snoc' {ns : List (List UInt8)} {j : Nat} (hj : j < ns.length) : ns.take (j + 1) = ns.take j ++ [ns[j]] := List.take_succ_eq_append_getElem hj
theorem joined_snoc {x : List (List UInt8)} (h : x.all nameL = true) (a : List UInt8) : joinedL (joinN x) a = joinN (x ++ [a]) := by
  unfold joinedL
  rw [joinN_nil_iff x h]
  cases x with
  | nil => rfl
  | cons b r =>
    rw [joinN_append _ _ (by simp) (by simp)]
    rfl
theorem parent_snoc {x : List (List UInt8)} {a : List UInt8} (h : Good (x ++ [a])) : parentL (joinN (x ++ [a])) = joinN x := by
  have hl : lastL (joinN (x ++ [a])) = a := by
    unfold lastL
    rw [h.parts]
    simp
  unfold parentL
  rw [hl, h.parts]
  have e : (x ++ [a]).isEmpty = false := by simp
  rw [e]
  show List.take ((joinN (x ++ [a])).length - a.length - 1) (joinN (x ++ [a])) = joinN x
  cases x with
  | nil =>
    show List.take (a.length - a.length - 1) a = []
    rw [Nat.sub_self]
    rfl
  | cons b r =>
    rw [joinN_append _ _ (by simp) (by simp)]
    have : (joinN (b :: r) ++ 47 :: joinN [a]).length - a.length - 1 = (joinN (b :: r)).length := by
      rw [List.length_append, List.length_cons]
      show (joinN (b :: r)).length + (a.length + 1) - a.length - 1 = _
      omega
    rw [this]
    exact List.take_left
theorem pre_last {ns : List (List UInt8)} (h : Good ns) (j : Nat) (hj : j < ns.length) : lastB (preB ns (j + 1)) = mkB ns[j] := by
  unfold lastB lastL
  rw [pre_parts h, take_snoc' hj, List.getLast?_concat]
  rfl
theorem pre_parent {ns : List (List UInt8)} (h : Good ns) (j : Nat) (hj : j < ns.length) : parentB (preB ns (j + 1)) = preB ns j ∧ hasParentB (preB ns (j + 1)) = true := by
  have hg := h.take (j + 1)
  unfold parentB hasParentB hasParentL preB
  rw [mkB_list, hg.parts]
  rw [take_snoc' hj] at hg ⊢
  rw [parent_snoc hg]
  refine ⟨rfl, ?_⟩
  generalize ns[j] = a
  generalize List.take j ns = x
  cases x <;> rfl
theorem pre_root (ns : List (List UInt8)) : hasParentB (preB ns 0) = false ∧ parentB (preB ns 0) = ⟨#[]⟩ := ⟨rfl, rfl⟩
theorem pre_join {ns : List (List UInt8)} (h : Good ns) (j : Nat) (hj : j < ns.length) : joinErrB (preB ns j) (mkB ns[j]) = 0 ∧ joinB (preB ns j) (mkB ns[j]) = preB ns (j + 1) := by
  refine (joinB_of (preB ns j) (mkB ns[j]) (preB ns (j + 1)) (pre_may h j) (List.all_eq_true.1 h.names _ (List.getElem_mem hj)) ?_).1 (pre_may h (j + 1))
  unfold preB
  rw [mkB_list, mkB_list, mkB_list, joined_snoc (h.take j).names, take_snoc' hj]
theorem pre_empty {ns : List (List UInt8)} (h : Good ns) (j : Nat) (hj : j ≤ ns.length) : (preB ns j).toList.isEmpty = decide (j = 0) := by
  rw [empty_iff]
  unfold preB
  rw [mkB_list, joinN_nil_iff _ (h.take j).names, Bool.eq_iff_iff, List.isEmpty_iff, decide_eq_true_eq]
  constructor
  · intro e
    have := congrArg List.length e
    rw [List.length_take, List.length_nil] at this
    omega
  · intro e
    subst e
    rfl
end Go.Proofs.YtgbenepapajieaaGreat.Pa
namespace Go.Proofs.YtgbenepapajieaaGreat.Pa
open Go.RowKit
open Pth

theorem partsB_yes (s : ByteArray) (h0 : s.toList.isEmpty = false) (h : mayB s = true) : partsB s = cutB s := by
  rw [empty_iff] at h0
  unfold mayB at h
  unfold partsB partsL cutB
  rw [h0, h]
  rfl

set_option maxRecDepth 100000 in
set_option maxHeartbeats 400000 in
theorem rparts_any (s : ByteArray) (w : World) (hs : s.size ≤ 100000) : Calls Tryz.prog 62 #[.string s] w (PartsPost s w) := by
  cases h0 : s.toList.isEmpty
  · go_enter Tryz.func62, Tryz.ntmps62
    go_wp2_with fail
    refine (rmay_any s _ hs).mono ?_
    rintro e w1 ⟨rfl, hq⟩
    cases hm : mayB s
    · have E := Lib.hid (partsB_no s hm)
      clear hm
      go_wp2_with fail
      go_ret
      exact ⟨_, rfl, by rw [E.out]; exact StrsAt.nil_ _, hq⟩
    · have E := Lib.hid (partsB_yes s h0 hm)
      clear hm
      go_wp2_with fail
      refine (cut_any s _ hs).mono ?_
      rintro e w2 ⟨v, rfl, hv, hq2⟩
      go_wp2_with fail
      go_ret
      exact ⟨_, rfl, by rw [E.out]; exact hv, hq.trans hq2⟩
  · have E := Lib.hid (mayB_nil s (List.isEmpty_iff.1 h0)).2
    go_enter Tryz.func62, Tryz.ntmps62
    go_wp2_with fail
    go_ret
    exact ⟨_, rfl, by rw [E.out]; exact StrsAt.nil_ _, Q.refl _⟩

set_option maxRecDepth 100000 in
set_option maxHeartbeats 400000 in
theorem rlast_any (s : ByteArray) (w : World) (hs : s.size ≤ 100000) :
    Calls Tryz.prog 55 #[.string s] w fun e w' => e = .returned (.string (lastB s)) ∧ Q w w' := by
  go_enter Tryz.func55, Tryz.ntmps55
  go_wp2_with fail
  refine (rparts_any s _ hs).mono ?_
  rintro e w1 ⟨v, rfl, hv, hq⟩
  by_cases hn : (partsB s).length = 0
  · obtain ⟨A, c, rfl⟩ := hv.form
    have t1 : (((partsB s).length : Int) == 0) = true := beq_iff_eq.2 (by omega)
    have E := Lib.hid (lastB_none s hn)
    clear hn
    go_wp2
    go_ret
    exact ⟨ret_string E.out.symm, hq⟩
  · obtain ⟨g, c, rfl, h1, h2, h3⟩ := hv.at_ (by omega)
    have t1 : (((partsB s).length : Int) == 0) = false := beq_eq_false_iff_ne.2 (by omega)
    have hl := lastB_some s (by omega)
    have hc : w1.cell? ⟨g, (partsB s).length - 1, none⟩ = some (.string (lastB s)) := by
      rw [h3 _ (by omega)]
      rw [List.getElem?_eq_getElem (by omega)] at hl
      rw [Option.some.inj hl]
    have hpos : 1 ≤ (partsB s).length := by omega
    clear h3 hl hn
    unfold maxLen at h2
    generalize (partsB s).length = n at *
    obtain ⟨m, rfl⟩ : ∃ m, n = m + 1 := ⟨n - 1, by omega⟩
    rw [Nat.add_sub_cancel] at hc
    go_wp2
    go_ret
    exact ⟨rfl, hq⟩

set_option maxRecDepth 100000 in
set_option maxHeartbeats 400000 in
theorem rparent_any (s : ByteArray) (w : World) (hs : s.size ≤ 100000) :
    Calls Tryz.prog 48 #[.string s] w fun e w' => e = .returned (.tuple #[.string (parentB s), .bool (hasParentB s)]) ∧ Q w w' := by
  go_enter Tryz.func48, Tryz.ntmps48
  go_wp2_with fail
  refine (rparts_any s _ hs).mono ?_
  rintro e w1 ⟨v, rfl, hv, hq⟩
  by_cases hn : (partsB s).length = 0
  · obtain ⟨A, c, rfl⟩ := hv.form
    have t1 : (((partsB s).length : Int) == 0) = true := beq_iff_eq.2 (by omega)
    have E := Lib.hid (hasParentB_none s hn)
    clear hn
    go_wp2
    go_ret2
    exact ⟨ret_sb E.out.2.symm E.out.1.symm, hq⟩
  · obtain ⟨g, c, rfl, h1, h2, h3⟩ := hv.at_ (by omega)
    have t1 : (((partsB s).length : Int) == 0) = false := beq_eq_false_iff_ne.2 (by omega)
    have hl := lastB_some s (by omega)
    have hc : w1.cell? ⟨g, (partsB s).length - 1, none⟩ = some (.string (lastB s)) := by
      rw [h3 _ (by omega)]
      rw [List.getElem?_eq_getElem (by omega)] at hl
      rw [Option.some.inj hl]
    have hpos : 1 ≤ (partsB s).length := by omega
    have E := Lib.hid (hasParentB_some s hpos)
    obtain ⟨z1, z2⟩ := lastB_long s hpos
    clear h3 hl hn hv
    unfold maxLen at h2
    generalize (partsB s).length = n at *
    obtain ⟨m, rfl⟩ : ∃ m, n = m + 1 := ⟨n - 1, by omega⟩
    rw [Nat.add_sub_cancel] at hc
    generalize hl : lastB s = l at *
    clear hl
    by_cases hz : l.size + 1 < s.size
    · go_wp2
      go_ret2
      exact ⟨ret_sb E.out.2.symm E.out.1.symm, hq⟩
    · have E2 : Hid (s.extract 0 (s.size - l.size - 1) = ByteArray.empty) := by
        rw [show s.size - l.size - 1 = 0 from by omega]
        exact bs_eq (by rw [extract_mkB]; rfl)
      go_wp2
      go_ret2
      exact ⟨ret_sb (E2.out.symm.trans E.out.2.symm) E.out.1.symm, hq⟩

set_option maxRecDepth 100000 in
set_option maxHeartbeats 400000 in
theorem rjoin_any (a b : ByteArray) (w : World) (ha : a.size ≤ 100000) (hb : b.size ≤ 100000) :
    Calls Tryz.prog 33 #[.string a, .string b] w fun e w' => e = .returned (.tuple #[.string (joinB a b), .int .i64 (joinErrB a b)]) ∧ Q w w' := by
  go_enter Tryz.func33, Tryz.ntmps33
  go_wp2_with fail
  refine (rmay_any a _ ha).mono ?_
  rintro e w1 ⟨rfl, hq⟩
  cases h1 : mayB a
  · have E := Lib.hid (joinB_bad a b (.inl h1))
    clear h1
    go_wp2_with fail
    go_ret2
    exact ⟨ret_si E.out.2.symm E.out.1.symm, hq⟩
  have H1 := Lib.hid h1
  clear h1
  go_wp2_with fail
  refine (rname_any b _ (by unfold maxLen; omega)).mono ?_
  rintro e w2 ⟨rfl, rfl⟩
  cases h2 : nameB b
  · have E := Lib.hid (joinB_bad a b (.inr h2))
    clear h2
    go_wp2_with fail
    go_ret2
    exact ⟨ret_si E.out.2.symm E.out.1.symm, hq⟩
  have z1 := mayB_size a H1.out
  obtain ⟨z2, z3⟩ := nameB_size b h2
  have H2 := Lib.hid h2
  clear h2
  cases h3 : a.toList.isEmpty
  · go_wp2_with fail
    generalize hj : a ++ _ ++ b = j
    have E := Lib.hid (joinB_of a b j H1.out H2.out (by rw [← hj]; exact joined_in a b h3))
    have zj : j.size ≤ 100000 := by
      rw [← hj, ByteArray.size_append, ByteArray.size_append]
      show a.size + 1 + b.size ≤ _
      omega
    clear hj
    refine (rmay_any j _ zj).mono ?_
    rintro e w3 ⟨rfl, hq3⟩
    have hq := hq.trans hq3
    clear hq3
    cases h4 : mayB j
    · have E := Lib.hid (E.out.2 h4)
      clear h4
      go_wp2_with fail
      go_ret2
      exact ⟨ret_si E.out.2.symm E.out.1.symm, hq⟩
    · have E := Lib.hid (E.out.1 h4)
      clear h4
      go_wp2_with fail
      go_ret2
      exact ⟨ret_si E.out.2.symm E.out.1.symm, hq⟩
  · have E := Lib.hid (joinB_of a b _ H1.out H2.out (joined_top a b h3))
    go_wp2_with fail
    refine (rmay_any b _ hb).mono ?_
    rintro e w3 ⟨rfl, hq3⟩
    have hq := hq.trans hq3
    clear hq3
    cases h4 : mayB b
    · have E := Lib.hid (E.out.2 h4)
      clear h4
      go_wp2_with fail
      go_ret2
      exact ⟨ret_si E.out.2.symm E.out.1.symm, hq⟩
    · have E := Lib.hid (E.out.1 h4)
      clear h4
      go_wp2_with fail
      go_ret2
      exact ⟨ret_si E.out.2.symm E.out.1.symm, hq⟩
end Go.Proofs.YtgbenepapajieaaGreat.Pa
