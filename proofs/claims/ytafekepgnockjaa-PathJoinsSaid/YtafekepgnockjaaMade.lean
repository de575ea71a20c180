/-
  The contract of the law's own Made: a path of numbers.
-/
import Derived.Test.YtafekepgnockjaaTold
import Derived.Test.YtafekepgnockjaaJoined
import Derived.ProofKit
import Derived.OpenShut
namespace Go.Proofs.Ytafekepgnockjaa
open Go.RowKit
open Pth

/-- What the walk is told of a slice of integers that came in. -/
def IsRow (k : IntKind) (w : World) (a : Option Addr) (len cap : Nat) (zs : List Int) : Prop :=
  (a = none ∧ len = 0 ∧ cap = 0 ∧ zs = []) ∨
  ∃ x, a = some x ∧ len ≤ cap ∧ cap ≤ maxLen ∧ zs.length = cap ∧ (∀ i, i < zs.length → w.cell? (x.add i) = some (.int k (zs.getD i 0))) ∧ ∀ n ∈ zs, (Lit.int k n).wf = true

def names8 : List (List UInt8) := [[97], [98], [99], [97, 45], [97, 98], [122], [46, 97], [97, 46, 98]]
/-- Which of the eight a number takes. -/
def pickI (z : Int) : Int := (IntKind.u64.wrap z).tmod 8
def pickN (z : Int) : List UInt8 := names8.getD (pickI z).toNat []
theorem pick_cases (z : Int) : pickI z = 0 ∨ pickI z = 1 ∨ pickI z = 2 ∨ pickI z = 3 ∨ pickI z = 4 ∨ pickI z = 5 ∨ pickI z = 6 ∨ pickI z = 7 := by
  unfold pickI
  rw [IntWalk.rem_in _ _ (wrap_u64_nonneg z)]
  have h0 := Int.emod_nonneg (IntKind.u64.wrap z) (show (8 : Int) ≠ 0 by omega)
  have h1 := Int.emod_lt_of_pos (IntKind.u64.wrap z) (show (0 : Int) < 8 by omega)
  omega
theorem pickN_ok (z : Int) : nameL (pickN z) = true ∧ (pickN z).length ≤ 3 := by
  unfold pickN
  rcases pick_cases z with h | h | h | h | h | h | h | h <;> (rw [h]; decide)
def madeN (zs : List Int) (k : Nat) : List (List UInt8) := (zs.take k).map pickN
theorem madeN_all (zs : List Int) (k : Nat) : (madeN zs k).all nameL = true := by
  rw [List.all_eq_true]
  intro a ha
  obtain ⟨z, _, rfl⟩ := List.mem_map.1 ha
  exact (pickN_ok z).1
theorem madeN_len (zs : List Int) (k : Nat) (h : k ≤ zs.length) : (madeN zs k).length = k := by
  unfold madeN
  rw [List.length_map, List.length_take]
  omega
theorem madeN_next (zs : List Int) (k : Nat) (h : k < zs.length) : madeN zs (k + 1) = madeN zs k ++ [pickN (zs.getD k 0)] := by
  unfold madeN
  rw [List.take_succ_eq_append_getElem h, List.map_append]
  simp [h]
def madeB (zs : List Int) (k : Nat) : ByteArray := mkB (joinN (madeN zs k))
theorem madeB_zero (zs : List Int) : madeB zs 0 = ⟨#[]⟩ := rfl
theorem madeB_one (zs : List Int) (h : 0 < zs.length) : madeB zs 1 = mkB (pickN (zs.getD 0 0)) := by
  unfold madeB
  rw [madeN_next zs 0 h]
  rfl
theorem madeB_next (zs : List Int) (k : Nat) (h : k < zs.length) (hk : 0 < k) : madeB zs (k + 1) = madeB zs k ++ ⟨#[47]⟩ ++ mkB (pickN (zs.getD k 0)) := by
  refine bs_eq ?_
  rw [data_app, data_app]
  unfold madeB
  rw [mkB_list, mkB_list, mkB_list, madeN_next zs k h, joinN_append _ _ (by
    intro e
    have := madeN_len zs k (by omega)
    rw [e] at this
    simp at this
    omega) (by simp)]
  simp [joinN]
theorem madeB_size (zs : List Int) (k : Nat) (h : k ≤ zs.length) : (madeB zs k).size ≤ 4 * k := by
  induction k with
  | zero => exact Nat.zero_le _
  | succ k ih =>
    have hp := (pickN_ok (zs.getD k 0)).2
    by_cases hk : k = 0
    · subst hk
      rw [madeB_one zs (by omega), size_mkB]
      omega
    · rw [madeB_next zs k (by omega) (by omega), ByteArray.size_append, ByteArray.size_append, size_mkB]
      have := ih (by omega)
      show (madeB zs k).size + 1 + (pickN (zs.getD k 0)).length ≤ _
      omega

set_option maxRecDepth 100000 in
set_option maxHeartbeats 1600000 in
/-- Made: the names that the numbers take, with slashes between. -/
theorem made_any (a : Option Addr) (len cap : Nat) (zs : List Int) (most : Nat) (w : World) (hr : IsRow .i64 w a len cap zs) (hm : most ≤ 8) :
    Calls Try.prog 28 #[.slice a len cap, .int .i64 most] w fun e w' => e = .returned (.string (madeB zs (min len most))) ∧ Q w w' := by
  have hlz : len ≤ zs.length := by
    rcases hr with ⟨rfl, rfl, rfl, rfl⟩ | ⟨x, rfl, r1, r2, r3, r4, r5⟩ <;> omega
  go_enter Try.func28, Try.ntmps28
  go_wp2_with fail
  go_loopw [5, 6] (fun s i wr => ∃ (k : Nat), i = .int .i64 k ∧ k ≤ most ∧ k ≤ len ∧ s = .string (madeB zs k) ∧ Q w wr) (fun _ i _ => most - (intOf i).toNat)
  case atStart => exact ⟨0, rfl, by omega, by omega, rfl, Q.refl _⟩
  case round =>
    obtain ⟨k, rfl, hk, hkl, rfl, hq⟩ := hrel
    by_cases hl : k < len
    · by_cases hlt : k < most
      · have hb := madeB_size zs k (by omega)
        have HP := Lib.hid (pick_cases (zs.getD k 0))
        have H1 : Hid (k = 0 → madeB zs (k + 1) = mkB (pickN (zs.getD k 0))) := fun h => by subst h; exact madeB_one zs (by omega)
        have H2 : Hid (0 < k → madeB zs (k + 1) = madeB zs k ++ ⟨#[47]⟩ ++ mkB (pickN (zs.getD k 0))) := madeB_next zs k (by omega)
        have H0 : Hid (k = 0 → madeB zs k = ⟨#[]⟩) := fun h => by subst h; rfl
        have HN : Hid (pickN (zs.getD k 0) = names8.getD (pickI (zs.getD k 0)).toNat []) := rfl
        rcases hr with ⟨rfl, rfl, rfl, rfl⟩ | ⟨x, rfl, r1, r2, r3, r4, r5⟩
        · omega
        obtain ⟨g, o, rfl, hc0⟩ := ints_at r4 (by omega)
        have hc := hq.cell (hc0 k (by omega))
        have hg : g < wr.heap.size := World.block_lt_of_cell? wr _ hc
        unfold maxLen at r2
        generalize zs.getD k 0 = z at hc HP H1 H2 HN
        generalize madeB zs k = b at *
        clear r4 r5 hc0
        by_cases h0 : k = 0
        · have E0 := Lib.hid (H0.out h0)
          have E2 := Lib.hid (H1.out h0)
          clear H0 H1 H2
          subst h0
          rw [E0.out]
          rw [Nat.add_zero] at hc
          rcases HP.out with h | h | h | h | h | h | h | h
          · have E := Lib.hid (HN.out.trans (by rw [h]))
            have e : (IntKind.u64.wrap z).tmod 8 = 0 := h
            clear h HP HN
            go_wp2_with fail
            go_roundw
            case rel => exact ⟨0 + 1, by go_num, by omega, by omega, congrArg Value.string ((E2.out.trans (congrArg mkB E.out)).symm), hq.alloc _⟩
            case measure => simp [intOf]; omega
          · have E := Lib.hid (HN.out.trans (by rw [h]))
            have e : (IntKind.u64.wrap z).tmod 8 = 1 := h
            clear h HP HN
            go_wp2_with fail
            go_roundw
            case rel => exact ⟨0 + 1, by go_num, by omega, by omega, congrArg Value.string ((E2.out.trans (congrArg mkB E.out)).symm), hq.alloc _⟩
            case measure => simp [intOf]; omega
          · have E := Lib.hid (HN.out.trans (by rw [h]))
            have e : (IntKind.u64.wrap z).tmod 8 = 2 := h
            clear h HP HN
            go_wp2_with fail
            go_roundw
            case rel => exact ⟨0 + 1, by go_num, by omega, by omega, congrArg Value.string ((E2.out.trans (congrArg mkB E.out)).symm), hq.alloc _⟩
            case measure => simp [intOf]; omega
          · have E := Lib.hid (HN.out.trans (by rw [h]))
            have e : (IntKind.u64.wrap z).tmod 8 = 3 := h
            clear h HP HN
            go_wp2_with fail
            go_roundw
            case rel => exact ⟨0 + 1, by go_num, by omega, by omega, congrArg Value.string ((E2.out.trans (congrArg mkB E.out)).symm), hq.alloc _⟩
            case measure => simp [intOf]; omega
          · have E := Lib.hid (HN.out.trans (by rw [h]))
            have e : (IntKind.u64.wrap z).tmod 8 = 4 := h
            clear h HP HN
            go_wp2_with fail
            go_roundw
            case rel => exact ⟨0 + 1, by go_num, by omega, by omega, congrArg Value.string ((E2.out.trans (congrArg mkB E.out)).symm), hq.alloc _⟩
            case measure => simp [intOf]; omega
          · have E := Lib.hid (HN.out.trans (by rw [h]))
            have e : (IntKind.u64.wrap z).tmod 8 = 5 := h
            clear h HP HN
            go_wp2_with fail
            go_roundw
            case rel => exact ⟨0 + 1, by go_num, by omega, by omega, congrArg Value.string ((E2.out.trans (congrArg mkB E.out)).symm), hq.alloc _⟩
            case measure => simp [intOf]; omega
          · have E := Lib.hid (HN.out.trans (by rw [h]))
            have e : (IntKind.u64.wrap z).tmod 8 = 6 := h
            clear h HP HN
            go_wp2_with fail
            go_roundw
            case rel => exact ⟨0 + 1, by go_num, by omega, by omega, congrArg Value.string ((E2.out.trans (congrArg mkB E.out)).symm), hq.alloc _⟩
            case measure => simp [intOf]; omega
          · have E := Lib.hid (HN.out.trans (by rw [h]))
            have e : (IntKind.u64.wrap z).tmod 8 = 7 := h
            clear h HP HN
            go_wp2_with fail
            go_roundw
            case rel => exact ⟨0 + 1, by go_num, by omega, by omega, congrArg Value.string ((E2.out.trans (congrArg mkB E.out)).symm), hq.alloc _⟩
            case measure => simp [intOf]; omega
        · have hp : 0 < k := by omega
          have E2 := Lib.hid (H2.out hp)
          clear H0 H1 H2 h0
          rcases HP.out with h | h | h | h | h | h | h | h
          · have E := Lib.hid (HN.out.trans (by rw [h]))
            have e : (IntKind.u64.wrap z).tmod 8 = 0 := h
            clear h HP HN
            go_wp2_with fail
            go_roundw
            case rel => exact ⟨k + 1, by go_num, by omega, by omega, congrArg Value.string ((E2.out.trans (congrArg (fun x => b ++ ⟨#[47]⟩ ++ mkB x) E.out)).symm), hq.alloc _⟩
            case measure => simp [intOf]; omega
          · have E := Lib.hid (HN.out.trans (by rw [h]))
            have e : (IntKind.u64.wrap z).tmod 8 = 1 := h
            clear h HP HN
            go_wp2_with fail
            go_roundw
            case rel => exact ⟨k + 1, by go_num, by omega, by omega, congrArg Value.string ((E2.out.trans (congrArg (fun x => b ++ ⟨#[47]⟩ ++ mkB x) E.out)).symm), hq.alloc _⟩
            case measure => simp [intOf]; omega
          · have E := Lib.hid (HN.out.trans (by rw [h]))
            have e : (IntKind.u64.wrap z).tmod 8 = 2 := h
            clear h HP HN
            go_wp2_with fail
            go_roundw
            case rel => exact ⟨k + 1, by go_num, by omega, by omega, congrArg Value.string ((E2.out.trans (congrArg (fun x => b ++ ⟨#[47]⟩ ++ mkB x) E.out)).symm), hq.alloc _⟩
            case measure => simp [intOf]; omega
          · have E := Lib.hid (HN.out.trans (by rw [h]))
            have e : (IntKind.u64.wrap z).tmod 8 = 3 := h
            clear h HP HN
            go_wp2_with fail
            go_roundw
            case rel => exact ⟨k + 1, by go_num, by omega, by omega, congrArg Value.string ((E2.out.trans (congrArg (fun x => b ++ ⟨#[47]⟩ ++ mkB x) E.out)).symm), hq.alloc _⟩
            case measure => simp [intOf]; omega
          · have E := Lib.hid (HN.out.trans (by rw [h]))
            have e : (IntKind.u64.wrap z).tmod 8 = 4 := h
            clear h HP HN
            go_wp2_with fail
            go_roundw
            case rel => exact ⟨k + 1, by go_num, by omega, by omega, congrArg Value.string ((E2.out.trans (congrArg (fun x => b ++ ⟨#[47]⟩ ++ mkB x) E.out)).symm), hq.alloc _⟩
            case measure => simp [intOf]; omega
          · have E := Lib.hid (HN.out.trans (by rw [h]))
            have e : (IntKind.u64.wrap z).tmod 8 = 5 := h
            clear h HP HN
            go_wp2_with fail
            go_roundw
            case rel => exact ⟨k + 1, by go_num, by omega, by omega, congrArg Value.string ((E2.out.trans (congrArg (fun x => b ++ ⟨#[47]⟩ ++ mkB x) E.out)).symm), hq.alloc _⟩
            case measure => simp [intOf]; omega
          · have E := Lib.hid (HN.out.trans (by rw [h]))
            have e : (IntKind.u64.wrap z).tmod 8 = 6 := h
            clear h HP HN
            go_wp2_with fail
            go_roundw
            case rel => exact ⟨k + 1, by go_num, by omega, by omega, congrArg Value.string ((E2.out.trans (congrArg (fun x => b ++ ⟨#[47]⟩ ++ mkB x) E.out)).symm), hq.alloc _⟩
            case measure => simp [intOf]; omega
          · have E := Lib.hid (HN.out.trans (by rw [h]))
            have e : (IntKind.u64.wrap z).tmod 8 = 7 := h
            clear h HP HN
            go_wp2_with fail
            go_roundw
            case rel => exact ⟨k + 1, by go_num, by omega, by omega, congrArg Value.string ((E2.out.trans (congrArg (fun x => b ++ ⟨#[47]⟩ ++ mkB x) E.out)).symm), hq.alloc _⟩
            case measure => simp [intOf]; omega
      · have E : Hid (k = min len most) := by show k = min len most; omega
        go_wp2_with fail
        go_ret
        exact ⟨ret_string (congrArg (madeB zs) E.out), hq⟩
    · have E : Hid (k = min len most) := by show k = min len most; omega
      go_wp2_with fail
      go_ret
      exact ⟨ret_string (congrArg (madeB zs) E.out), hq⟩
end Go.Proofs.Ytafekepgnockjaa
