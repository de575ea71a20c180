/-
  The contract of acl.compare.
-/
import Derived.Test.YtheobpilmphdjaaGreatMem
import Derived.StillTailTactics
namespace Go.Proofs.YtheobpilmphdjaaGreat
open Go.RowKit

set_option maxRecDepth 100000 in
set_option maxHeartbeats 1000000 in
theorem or_any (g a b : Int) (B : Nat) (cap : Nat) (hg : g = if a = 0 then b else a) (w : World) (c0 : w.cell? ⟨B, 0, none⟩ = some (.int .i64 a)) (c1 : w.cell? ⟨B, 1, none⟩ = some (.int .i64 b)) :
    Calls Tryz.prog 107 #[.slice (some ⟨B, 0, none⟩) 2 cap] w fun e w' => e = .returned (.int .i64 g) ∧ w' = w := by
  have HG := Lib.hid hg
  clear hg
  go_enter Tryz.func107, Tryz.ntmps107
  go_wp2
  go_loopw [5, 8] (fun _ i wr => wr = w ∧ (i = .int .i64 0 ∨ (i = .int .i64 1 ∧ Hid (a = 0)) ∨ (i = .int .i64 2 ∧ Hid (a = 0) ∧ Hid (b = 0)))) (fun _ i _ => 2 - (intOf i).toNat)
  case atStart => exact ⟨rfl, .inl rfl⟩
  case round =>
    obtain ⟨rfl, rfl | ⟨rfl, H0⟩ | ⟨rfl, H0, H1⟩⟩ := hrel
    · by_cases hz : a = 0
      · have t0 : (a != 0) = false := by rw [bne_eq_false_iff_eq]; exact hz
        have Z := Lib.hid hz
        clear hz
        go_wp2
        go_roundw
        case rel => exact ⟨trivial, .inr (.inl ⟨rfl, Z⟩)⟩
        case measure => simp [intOf]
      · have t0 : (a != 0) = true := bne_iff_ne.2 hz
        have Z := Lib.hid hz
        clear hz
        go_wp2
        go_ret
        exact ⟨ret_int (by rw [HG.out, if_neg Z.out]), rfl⟩
    · by_cases hz : b = 0
      · have t0 : (b != 0) = false := by rw [bne_eq_false_iff_eq]; exact hz
        have Z := Lib.hid hz
        clear hz
        go_wp2
        go_roundw
        case rel => exact ⟨trivial, .inr (.inr ⟨rfl, H0, Z⟩)⟩
        case measure => simp [intOf]
      · have t0 : (b != 0) = true := bne_iff_ne.2 hz
        have Z := Lib.hid hz
        clear hz
        go_wp2
        go_ret
        exact ⟨ret_int (by rw [HG.out, if_pos H0.out]), rfl⟩
    · go_wp2
      go_ret
      exact ⟨ret_int (by rw [HG.out, if_pos H0.out, H1.out]), rfl⟩

set_option maxRecDepth 100000 in
set_option maxHeartbeats 4000000 in
theorem compare_any (x y : Ace) (w : World) : Calls Tryz.prog 93 #[aggA x, aggA y] w fun e w' => e = .returned (.int .i64 (cmpA x y)) ∧ Grew w w' := by
  obtain ⟨k, i, p⟩ := x
  obtain ⟨k', i', p'⟩ := y
  have hor := fun B cap w c0 c1 => or_any (cmpA (k, i, p) (k', i', p')) (cmp3 k k') (cmp3 i i') B cap rfl w c0 c1
  have hk := fun w => cmp3_any k k' w
  have hi := fun w => cmp3_any i i' w
  generalize cmpA (k, i, p) (k', i', p') = r at *
  generalize cmp3 k k' = a at *
  generalize cmp3 i i' = b at *
  unfold aggA
  simp only
  have HO := Lib.hid hor
  have HK := Lib.hid hk
  have HI := Lib.hid hi
  clear hor hk hi
  go_enter Tryz.func93, Tryz.ntmps93
  go_wp2_with fail
  obtain ⟨w2, hw2⟩ : ∃ w2, w2 = ((w.alloc (.cells #[.int .i64 k, .int .i64 i, .int .i64 p] 87)).alloc (.cells #[.int .i64 k', .int .i64 i', .int .i64 p'] 87)).drew := ⟨_, rfl⟩
  have f0 : w2.cell? ⟨w.heap.size, 0, none⟩ = some (.int .i64 k) := by rw [hw2]; simp
  have f1 : w2.cell? ⟨w.heap.size, 1, none⟩ = some (.int .i64 i) := by rw [hw2]; simp
  have f2 : w2.cell? ⟨w.heap.size + 1, 0, none⟩ = some (.int .i64 k') := by rw [hw2]; simp
  have f3 : w2.cell? ⟨w.heap.size + 1, 1, none⟩ = some (.int .i64 i') := by rw [hw2]; simp
  have hg : Grew w w2 := by rw [hw2]; exact ((Grew.alloc _ _).trans (Grew.alloc _ _)).trans (Grew.drew _)
  refine wp_region_still_tail 10 (by kernel_rfl) (by kernel_rfl) ?_
  simp only [List.take_succ_cons, List.take_zero, List.drop_succ_cons, List.drop_zero]
  change wpStill _ _ ((w.alloc (.cells #[.int .i64 k, .int .i64 i, .int .i64 p] 87)).alloc (.cells #[.int .i64 k', .int .i64 i', .int .i64 p'] 87)).drew (fun a' => wpList _ _ _ _ a' ((w.alloc (.cells #[.int .i64 k, .int .i64 i, .int .i64 p] 87)).alloc (.cells #[.int .i64 k', .int .i64 i', .int .i64 p'] 87)).drew) _ _
  rw [← hw2]
  clear hw2
  repeat still_step
  still_call (HK.out _)
  repeat still_step
  still_call (HI.out _)
  repeat still_step
  refine wpStill_nil ?_
  go_wp2_with fail
  refine (HO.out w2.heap.size 2 _ (by simp) (by simp)).mono ?_
  rintro e w3 ⟨rfl, rfl⟩
  go_wp2
  go_ret
  exact ⟨rfl, hg.trans (Grew.alloc _ _)⟩
end Go.Proofs.YtheobpilmphdjaaGreat
