/-
  The contracts of path.Less and of the document's Less, MayPath, Parts.
-/
import Derived.Test.YtafekepgnockjaaPaths2
namespace Go.Proofs.Ytafekepgnockjaa
open Go.RowKit
open Pth

set_option maxHeartbeats 800000 in
theorem less_any (s t : ByteArray) (w : World) (hs : s.size ≤ maxLen) (ht : t.size ≤ maxLen) :
    Calls Try.prog 26 #[.string s, .string t] w fun e w' => e = .returned (.bool (lessB s t)) ∧ Q w w' := by
  go_enter Try.func26, Try.ntmps26
  go_wp2
  refine wp_scope_goto 0 (fun a' w' => ∃ (k : Nat) (x y : Value) (u8 u9 u10 u11 u12 u13 u14 u15 u16 u17 u18 u19 u20 u21 u22 u23 u24 u25 u26 u27 u28 u29 u30 u31 u32 u33 u34 u35 u36 u37 u38 u39 u40 u41 u42 u43 u44 u45 u46 : Value), a' = { tmps := #[.string s, .string t, undef, undef, .bool false, x, y, .int .i64 k, u8, u9, u10, u11, u12, u13, u14, u15, u16, u17, u18, u19, u20, u21, u22, u23, u24, u25, u26, u27, u28, u29, u30, u31, u32, u33, u34, u35, u36, u37, u38, u39, u40, u41, u42, u43, u44, u45, u46], defers := [] } ∧ StrsAt w' x (partsB s) ∧ StrsAt w' y (partsB t) ∧ Q w w' ∧ Hid (LessAt s t k)) (fun a' _ => (partsB s).length - (intOf (a'.tmps.getD 7 undef)).toNat) rfl ?_ ?_
  · intro hh
    go_wp2_with fail
    refine (parts_any s _ hs).mono ?_
    rintro e w1 ⟨x, rfl, hx, hq1⟩
    go_wp2_with fail
    refine (parts_any t _ ht).mono ?_
    rintro e w2 ⟨y, rfl, hy, hq2⟩
    go_wp2_with fail
    go_step3
    rename_i hK
    exact hK _ _ (hh.out _ _ ⟨0, _, _, _, _, _, _, _, _, _, _, _, _, _, _, _, _, _, _, _, _, _, _, _, _, _, _, _, _, _, _, _, _, _, _, _, _, _, _, _, _, _, rfl, hx.keep hq2, hy, hq1.trans hq2, LessAt.start s t⟩)
  · rintro a' wr ⟨k, x, y, u8, u9, u10, u11, u12, u13, u14, u15, u16, u17, u18, u19, u20, u21, u22, u23, u24, u25, u26, u27, u28, u29, u30, u31, u32, u33, u34, u35, u36, u37, u38, u39, u40, u41, u42, u43, u44, u45, u46, rfl, hx, hy, hq, H⟩
    have l1 := H.out.1
    have l2 := H.out.2.1
    by_cases h1 : k = (partsB s).length
    · obtain ⟨A1, c1, rfl⟩ := hx.form
      obtain ⟨A2, c2, rfl⟩ := hy.form
      have E := Lib.hid (H.out.stop (.inl h1))
      have t1 : ((k : Int) == ((partsB s).length : Int)) = true := beq_iff_eq.2 (by omega)
      clear h1
      go_wp2
      simp only [Exit.jump]
      go_ret
      exact ⟨ret_bool (by rw [E.out]), hq⟩
    have t1 : ((k : Int) == ((partsB s).length : Int)) = false := beq_eq_false_iff_ne.2 (by omega)
    by_cases h2 : k = (partsB t).length
    · obtain ⟨A1, c1, rfl⟩ := hx.form
      obtain ⟨A2, c2, rfl⟩ := hy.form
      have E := Lib.hid (H.out.stop (.inr h2))
      have t2 : ((k : Int) == ((partsB t).length : Int)) = true := beq_iff_eq.2 (by omega)
      clear h1 h2
      go_wp2
      simp only [Exit.jump]
      go_ret
      exact ⟨ret_bool (by rw [E.out]), hq⟩
    have t2 : ((k : Int) == ((partsB t).length : Int)) = false := beq_eq_false_iff_ne.2 (by omega)
    obtain ⟨g1, c1, rfl, b1, b2, b3⟩ := hx.at_ (by omega)
    obtain ⟨g2, c2, rfl, b4, b5, b6⟩ := hy.at_ (by omega)
    unfold maxLen at b2 b5
    have e1 := b3 k (by omega)
    have e2 := b6 k (by omega)
    have hsame := H.out.same (by omega) (by omega)
    have hdiff := H.out.diff (by omega) (by omega)
    generalize (partsB s)[k]'(by omega) = p at e1 hsame hdiff
    generalize (partsB t)[k]'(by omega) = q at e2 hsame hdiff
    clear b3 b6 H
    have n1 : k < (partsB s).length := by omega
    have n2 : k < (partsB t).length := by omega
    clear h1 h2
    by_cases he : p.toList = q.toList
    · have t3 : (p.toList == q.toList) = true := beq_iff_eq.2 he
      have E : Hid (LessAt s t (k + 1)) := hsame he
      clear he hsame hdiff
      go_wp2
      go_quiet (fail)
      go_wp2
      go_step3
      exact ⟨rfl, ⟨k + 1, _, _, _, _, _, _, _, _, _, _, _, _, _, _, _, _, _, _, _, _, _, _, _, _, _, _, _, _, _, _, _, _, _, _, _, _, _, _, _, _, _, rfl, hx.keep ((Q.refl _).drewN _), hy.keep ((Q.refl _).drewN _), hq.drewN _, E⟩, by simp [intOf]; omega⟩
    · have t3 : (p.toList == q.toList) = false := beq_eq_false_iff_ne.2 he
      have E := Lib.hid (hdiff he)
      clear he hsame hdiff
      go_wp2
      go_quiet (fail)
      go_wp2
      go_quiet (fail)
      go_wp2
      simp only [Exit.jump]
      go_ret
      exact ⟨ret_bool E.out.symm, hq.drewN _⟩
end Go.Proofs.Ytafekepgnockjaa
