/-
  The contracts of the document's own MayPath, Parts, Depth, Last.
-/
import Derived.Test.YtafekepgnockjaaMore2
import Derived.Deep.QuietTactic
import Derived.BigQuiet
namespace Go.Proofs.Ytafekepgnockjaa
open Go.RowKit
open Pth

theorem cut_small (l : List UInt8) : ∀ p ∈ cutL l, p.length ≤ l.length := by
  induction l with
  | nil => simp [cutL]
  | cons c r ih =>
    intro p hp
    unfold cutL at hp
    split at hp
    · rcases List.mem_cons.1 hp with rfl | hp
      · simp
      · have := ih p hp; simp; omega
    · split at hp
      · rename_i h t e
        rw [e] at ih
        rcases List.mem_cons.1 hp with rfl | hp
        · have := ih h (by simp); simp; omega
        · have := ih p (by simp [hp]); simp; omega
      · rw [List.mem_singleton.1 hp]; simp
theorem cutB_len (s : ByteArray) : (cutB s).length = (cutL s.data.toList).length := by unfold cutB; simp
theorem cutB_get (s : ByteArray) (i : Nat) (h : i < (cutB s).length) : (cutB s)[i] = mkB ((cutL s.data.toList)[i]'(by rw [cutB_len] at h; exact h)) := by simp [cutB]
theorem cutB_small (s : ByteArray) (i : Nat) (h : i < (cutB s).length) : (cutB s)[i].size ≤ s.size := by
  rw [cutB_get s i h, size_mkB, ← size_list s]
  exact cut_small _ _ (List.getElem_mem _)
theorem cutB_pos (s : ByteArray) : 0 < (cutB s).length := by rw [cutB_len]; exact List.length_pos_iff.2 (cutL_ne _)
/-- The first k pieces are names. -/
def NamesTo (s : ByteArray) (k : Nat) : Prop := ((cutL s.data.toList).take k).all nameL = true
theorem NamesTo.start (s : ByteArray) : NamesTo s 0 := rfl
theorem NamesTo.next {s : ByteArray} {k : Nat} (h : NamesTo s k) (hk : k < (cutB s).length) (hn : nameB (cutB s)[k] = true) : NamesTo s (k + 1) := by
  rw [cutB_get s k hk] at hn
  unfold nameB at hn
  rw [mkB_list] at hn
  unfold NamesTo at h ⊢
  rw [cutB_len] at hk
  rw [List.take_succ_eq_append_getElem hk, List.all_append, h]
  simp [hn]
theorem NamesTo.bad {s : ByteArray} {k : Nat} (h0 : s.toList.isEmpty = false) (hk : k < (cutB s).length) (hn : nameB (cutB s)[k] = false) : mayB s = false := by
  rw [cutB_get s k hk] at hn
  unfold nameB at hn
  rw [mkB_list] at hn
  rw [empty_iff] at h0
  rw [cutB_len] at hk
  have : (cutL s.data.toList).all nameL = false := List.all_eq_false.2 ⟨_, List.getElem_mem hk, by rw [hn]; simp⟩
  unfold mayB mayL
  rw [h0, this]
  simp
theorem NamesTo.done {s : ByteArray} {k : Nat} (h : NamesTo s k) (h0 : s.toList.isEmpty = false) (hk : ¬ k < (cutB s).length) : mayB s = (decide ((s.size : Int) ≤ 100) && decide (((cutB s).length : Int) ≤ 8)) := by
  unfold NamesTo at h
  rw [cutB_len] at hk
  rw [List.take_of_length_le (by omega)] at h
  rw [empty_iff] at h0
  unfold mayB mayL
  rw [h0, h, size_list, cutB_len, Bool.false_or, Bool.and_true]
  congr 1 <;> (congr 1; exact propext (by omega))

set_option maxHeartbeats 400000 in
theorem rmay_any (s : ByteArray) (w : World) (hs : s.size ≤ 100000) :
    Calls Try.prog 16 #[.string s] w fun e w' => e = .returned (.bool (mayB s)) ∧ Q w w' := by
  cases h0 : s.toList.isEmpty
  · go_enter Try.func16, Try.ntmps16
    go_wp2_with fail
    refine (cut_any s _ hs).mono ?_
    rintro e w1 ⟨v, rfl, hv, hq⟩
    have hpos := cutB_pos s
    obtain ⟨g, c, rfl, b1, b2, b3⟩ := hv.at_ hpos
    unfold maxLen at b2
    have B3 := Lib.hid b3
    clear b3 hv
    go_wp2_with fail
    go_loop [4] (fun i => ∃ k : Nat, i = .int .i64 k ∧ k ≤ (cutB s).length ∧ Hid (NamesTo s k)) (fun i => (cutB s).length - (intOf i).toNat)
    case atStart => exact ⟨0, rfl, by omega, NamesTo.start s⟩
    case round =>
      obtain ⟨k, rfl, hk, H⟩ := hrel
      by_cases hlt : k < (cutB s).length
      · have hc := B3.out k hlt
        have hz := cutB_small s k hlt
        have hn := H.out.next hlt
        have hb := NamesTo.bad h0 hlt
        generalize (cutB s)[k]'hlt = p at hc hz hn hb
        have HN := Lib.hid hn
        have HB := Lib.hid hb
        clear hn hb
        go_wp2_with fail
        refine (rname_any p _ (by unfold maxLen; omega)).mono ?_
        rintro e w2 ⟨rfl, rfl⟩
        cases hp : nameB p
        · have E := Lib.hid (HB.out hp)
          clear hp
          go_wp2_with fail
          go_ret
          exact ⟨ret_bool E.out.symm, hq⟩
        · have E : Hid (NamesTo s (k + 1)) := HN.out hp
          clear hp
          go_wp2_with fail
          go_round
          case rel => exact ⟨k + 1, by go_num, hlt, E⟩
          case measure => simp [intOf]; omega
      · have E := Lib.hid (H.out.done h0 hlt)
        by_cases q1 : s.size ≤ 100
        · have d1 : decide ((s.size : Int) ≤ 100) = true := decide_eq_true (by omega)
          rw [d1, Bool.true_and] at E
          clear d1
          go_wp2_with fail
          go_ret
          exact ⟨ret_bool E.out.symm, hq⟩
        · have d1 : decide ((s.size : Int) ≤ 100) = false := decide_eq_false (by omega)
          rw [d1, Bool.false_and] at E
          clear d1
          go_wp2_with fail
          go_ret
          exact ⟨ret_bool E.out.symm, hq⟩
  · have E := Lib.hid (mayB_nil s (List.isEmpty_iff.1 h0)).1
    go_enter Try.func16, Try.ntmps16
    go_wp2_with fail
    go_ret
    exact ⟨ret_bool E.out.symm, Q.refl _⟩
end Go.Proofs.Ytafekepgnockjaa
