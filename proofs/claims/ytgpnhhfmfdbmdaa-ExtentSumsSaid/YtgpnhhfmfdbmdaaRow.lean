/-
  The contract of the law's own Row: extents of numbers.
-/
import Derived.Test.YtgpnhhfmfdbmdaaHoles
import Derived.Deep.RegionLaw
import Derived.Deep.AppendLies
namespace Go.Proofs.Ytgpnhhfmfdbmdaa
open Go.RowKit
open Rng

/-- The extent that a number gives. -/
def ofNum (z : Int) : X := (((IntKind.u64.wrap z).tmod 250).toNat, ((IntKind.u64.wrap ((IntKind.u64.wrap z).tdiv 250)).tmod 20).toNat)
def rowX (zs : List Int) (k : Nat) : List X := (zs.take k).map ofNum
theorem ofNum_lt (z : Int) : (ofNum z).1 < 250 ∧ (ofNum z).2 < 20 := by
  have h0 := wrap_u64_nonneg z
  have h1 := wrap_u64_nonneg ((IntKind.u64.wrap z).tdiv 250)
  unfold ofNum
  simp only
  rw [Int.tmod_eq_emod_of_nonneg h0, Int.tmod_eq_emod_of_nonneg h1]
  omega
theorem rowX_len (zs : List Int) (k : Nat) (h : k ≤ zs.length) : (rowX zs k).length = k := by
  unfold rowX
  rw [List.length_map, List.length_take]
  omega
theorem rowX_next (zs : List Int) (k : Nat) (h : k < zs.length) : rowX zs (k + 1) = rowX zs k ++ [ofNum (zs.getD k 0)] := by
  unfold rowX
  rw [List.take_succ_eq_append_getElem h, List.map_append]
  simp [h]
theorem rowX_small (zs : List Int) (k : Nat) : ∀ x ∈ rowX zs k, x.1 < 250 ∧ x.2 < 20 := by
  intro x hx
  obtain ⟨z, _, rfl⟩ := List.mem_map.1 hx
  exact ofNum_lt z

def RowPost (w : World) (e : Ending) (w' : World) : Prop := ∃ (v : Value) (r : List X), e = .returned v ∧ w'.ownsRow w.heap.size 31 1 v r.length (r.map E) ∧ Q w w' ∧ r.length ≤ 20 ∧ Hid (∀ x ∈ r, x.1 < 250 ∧ x.2 < 20)

set_option maxHeartbeats 4000000 in
theorem row_any (a : Option Addr) (len cap : Nat) (zs : List Int) (w : World) (hr : IsRow .i64 w a len cap zs) :
    Calls Try.prog 6 #[.slice a len cap] w (RowPost w) := by
  obtain ⟨i0, hi0, hz0, hz1, hz2⟩ := info_parts info_ext
  obtain ⟨hlz, hlm⟩ := hr.le
  go_enter Try.func6, Try.ntmps6
  go_wp2
  go_loopw [3, 4] (fun o i wr => ∃ (k : Nat), i = .int .i64 k ∧ k ≤ 20 ∧ k ≤ len ∧ wr.ownsRow w.heap.size 31 1 o k ((rowX zs k).map E) ∧ Q w wr) (fun _ i _ => 20 - (intOf i).toNat)
  case atStart => exact ⟨0, rfl, by omega, by omega, World.ownsRow_nil _ _ _ _, Q.refl _⟩
  case round =>
    obtain ⟨k, rfl, hk, hkl, hown, hq⟩ := hrel
    have Hsm : Hid (∀ x ∈ rowX zs k, x.1 < 250 ∧ x.2 < 20) := rowX_small zs k
    have hrl : Hid ((rowX zs k).length = k) := rowX_len zs k (by omega)
    obtain ⟨B, cb, rfl⟩ := own_form hown
    by_cases hl : k < len
    · by_cases hlt : k < 20
      · have hnx : Hid (rowX zs (k + 1) = rowX zs k ++ [ofNum (zs.getD k 0)]) := rowX_next zs k (by omega)
        rcases (hr.keep hq) with ⟨rfl, rfl, rfl, rfl⟩ | ⟨x, rfl, r1, r2, r3, r4, r5⟩
        · omega
        obtain ⟨g, o, rfl, hc0⟩ := ints_at r4 (by omega)
        have hc := hc0 k (by omega)
        unfold maxLen at r2 hlm
        generalize zs.getD k 0 = z at hc hnx
        generalize hrx : rowX zs k = rx at *
        obtain ⟨a1, ha1⟩ : ∃ a1 : Nat, (IntKind.u64.wrap z).tmod 250 = (a1 : Int) := ⟨((IntKind.u64.wrap z).tmod 250).toNat, (Int.toNat_of_nonneg (Int.tmod_nonneg _ (wrap_u64_nonneg z))).symm⟩
        obtain ⟨a2, ha2⟩ : ∃ a2 : Nat, (IntKind.u64.wrap ((IntKind.u64.wrap z).tdiv 250)).tmod 20 = (a2 : Int) := ⟨((IntKind.u64.wrap ((IntKind.u64.wrap z).tdiv 250)).tmod 20).toNat, (Int.toNat_of_nonneg (Int.tmod_nonneg _ (wrap_u64_nonneg _))).symm⟩
        have hof : Hid (ofNum z = (a1, a2)) := by show (_, _) = _; rw [ha1, ha2]; simp
        clear r4 r5 hc0 hr
        have hsz := hq.size
        go_wp2_with fail
        go_region_law (refine step_append_lies _ rfl (.tmp 15) (.tmp 32) 23 rfl w.heap.size 31 i0 _ 1 16 Try.underlying23 hi0 hz0 hz1 hz2 rfl (by decide) (.slice B k cb) k (rx.map E) (by simp [Act.eval, Act.put]) (World.ownsRow.drew (World.ownsRow.alloc hown _)) ⟨wr.heap.size, 0, none⟩ 1 1 [.complex .f64 (floatOfInt .f64 (a1 : Int)) (floatOfInt .f64 (a2 : Int))] (by simp [Act.eval, Act.put]) rfl (fun j u h => cell_one_new wr _ _ j u h) (by intro u hu; rw [List.mem_singleton.1 hu]; rfl) (by decide) (by unfold maxLen; omega) (by omega) (by simp; omega) _ rfl ?_; intro g3 cap3 w3 hown3 hg3 hat hlt3)
        all_goals
          have hq3 : Q w w3 := Below.grown ((hq.alloc _).drew) hg3 ((hq.alloc _).drew.size) fun j hj => (hown.lt j hj).1
          have hown4 : w3.ownsRow w.heap.size 31 1 (.slice (some ⟨g3, 0, none⟩) (k + 1) cap3) (k + 1) ((rowX zs (k + 1)).map E) := by
            rw [hnx.out, hof.out, List.map_append]
            exact hown3
          clear hown3 hg3 hat hlt3 hown ha1 ha2 hsz
          go_wp2
          go_roundw
          case rel => exact ⟨k + 1, by go_num, by omega, by omega, hown4, hq3⟩
          case measure => simp [intOf]; omega
      · go_wp2
        go_ret
        exact ⟨_, rowX zs k, rfl, by rw [hrl.out]; exact hown, hq, by rw [hrl.out]; omega, Hsm⟩
    · go_wp2
      go_ret
      exact ⟨_, rowX zs k, rfl, by rw [hrl.out]; exact hown, hq, by rw [hrl.out]; omega, Hsm⟩
end Go.Proofs.Ytgpnhhfmfdbmdaa
