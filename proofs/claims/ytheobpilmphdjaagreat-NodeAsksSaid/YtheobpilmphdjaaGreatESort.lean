/-
  The contract of extent.sorted: what of the extents lies before the greatest place, none empty, by their offsets.
-/
import Derived.Test.YtheobpilmphdjaaGreatEExts
import Derived.Test.YtheobpilmphdjaaGreatELay
import Derived.Lib.OwnBridge
import Derived.Lib.AppendIntMem
namespace Go.Proofs.YtheobpilmphdjaaGreat.Ex
open Go.RowKit Go.Shelf
open Rng

set_option maxRecDepth 100000 in
set_option maxHeartbeats 400000 in
theorem isNaN_any (n : Nat) (w : World) (h : n ≤ M) : Calls Tryz.prog 89 #[.float .f64 (fl n)] w fun e w' => e = .returned (.bool false) ∧ w' = w := by
  have hn := ne_fl n n (by unfold M at h; omega) (by unfold M at h; omega)
  rw [decide_eq_true rfl] at hn
  simp only [Bool.not_true] at hn
  go_enter Tryz.func89, Tryz.ntmps89
  go_wp2
  go_ret
  exact ⟨rfl, rfl⟩

def cmpN (a b : Nat) : Int := if a < b then -1 else if b < a then 1 else 0
set_option maxRecDepth 100000 in
set_option maxHeartbeats 1000000 in
theorem compare_any (a b : Nat) (w : World) (ha : a ≤ M) (hb : b ≤ M) : Calls Tryz.prog 74 #[.float .f64 (fl a), .float .f64 (fl b)] w fun e w' => e = .returned (.int .i64 (cmpN a b)) ∧ w' = w := by
  have h1 := lt_fl a b (by unfold M at ha; omega) (by unfold M at hb; omega)
  have h2 := gt_fl a b (by unfold M at ha; omega) (by unfold M at hb; omega)
  by_cases c1 : a < b
  · have E1 : Hid (cmpN a b = -1) := if_pos c1
    rw [decide_eq_true c1] at h1
    clear c1 h2
    go_enter Tryz.func74, Tryz.ntmps74
    go_wp2_with fail
    refine (isNaN_any a _ ha).mono ?_
    rintro e w1 ⟨rfl, rfl⟩
    go_wp2_with fail
    refine (isNaN_any b _ hb).mono ?_
    rintro e w1 ⟨rfl, rfl⟩
    go_wp2
    go_ret
    exact ⟨ret_int E1.out.symm, rfl⟩
  · rw [decide_eq_false c1] at h1
    by_cases c2 : b < a
    · have E1 : Hid (cmpN a b = 1) := by show (if _ then _ else _) = _; rw [if_neg c1, if_pos c2]
      rw [decide_eq_true c2] at h2
      clear c1 c2
      go_enter Tryz.func74, Tryz.ntmps74
      go_wp2_with fail
      refine (isNaN_any a _ ha).mono ?_
      rintro e w1 ⟨rfl, rfl⟩
      go_wp2_with fail
      refine (isNaN_any b _ hb).mono ?_
      rintro e w1 ⟨rfl, rfl⟩
      go_wp2
      go_ret
      exact ⟨ret_int E1.out.symm, rfl⟩
    · have E1 : Hid (cmpN a b = 0) := by show (if _ then _ else _) = _; rw [if_neg c1, if_neg c2]
      rw [decide_eq_false c2] at h2
      clear c1 c2
      go_enter Tryz.func74, Tryz.ntmps74
      go_wp2_with fail
      refine (isNaN_any a _ ha).mono ?_
      rintro e w1 ⟨rfl, rfl⟩
      go_wp2_with fail
      refine (isNaN_any b _ hb).mono ?_
      rintro e w1 ⟨rfl, rfl⟩
      go_wp2
      go_ret
      exact ⟨ret_int E1.out.symm, rfl⟩

/-- Extents that a list may hold. -/
abbrev XB : Type := {x : X // x.1 ≤ M ∧ x.2 ≤ M}
instance : Inhabited XB := ⟨⟨(0, 0), by unfold M; simp⟩⟩
def EB (x : XB) : Value := E x.1
def cmpB (x y : XB) : Int := cmpN x.1.1 y.1.1
theorem lt_cmpB (x y : XB) : ltOf cmpB x y = decide (x.1.1 < y.1.1) := by
  unfold ltOf cmpB cmpN
  by_cases h1 : x.1.1 < y.1.1
  · simp [h1]
  · by_cases h2 : y.1.1 < x.1.1 <;> simp [h1, h2]
theorem swo_cmpB : Go.Sort.SWO (ltOf cmpB) where
  irrefl x := by rw [lt_cmpB]; simp
  trans x y z h1 h2 := by rw [lt_cmpB] at *; simp at *; omega
  ntrans x y z h1 h2 := by rw [lt_cmpB] at *; simp at *; omega

set_option maxRecDepth 100000 in
set_option maxHeartbeats 400000 in
theorem closure_any (x y : XB) (w : World) : Calls Tryz.prog 73 #[EB x, EB y] w fun e w' => e = .returned (.int .i64 (cmpB x y)) ∧ ∃ q, w' = w.drewN q := by
  have hcon := fun w => compare_any x.1.1 y.1.1 w x.2.1 y.2.1
  unfold EB E cmpB
  generalize cmpN x.1.1 y.1.1 = r at hcon ⊢
  go_enter Tryz.func73, Tryz.ntmps73
  go_wp2_with fail
  refine (hcon _).mono ?_
  rintro e w1 ⟨rfl, rfl⟩
  go_wp2
  go_ret
  exact ⟨rfl, 0, rfl⟩
theorem cmpReads (blk off size : Nat) (w : World) : CmpReads Tryz.prog 73 #[] EB cmpB blk off size w :=
  fun _ _ _ _ x y => closure_any x y _

def toB : (l : List X) → Ok l → List XB
  | [], _ => []
  | x :: r, h => ⟨x, h x (by simp)⟩ :: toB r fun y hy => h y (List.mem_cons_of_mem _ hy)
theorem toB_val : ∀ (l : List X) (h : Ok l), (toB l h).map (·.1) = l
  | [], _ => rfl
  | x :: r, h => congrArg (x :: ·) (toB_val r fun y hy => h y (List.mem_cons_of_mem _ hy))
theorem toB_map (l : List X) (h : Ok l) : (toB l h).map EB = l.map E := by
  have : (toB l h).map EB = ((toB l h).map (·.1)).map E := by rw [List.map_map]; rfl
  rw [this, toB_val]
theorem toB_len (l : List X) (h : Ok l) : (toB l h).length = l.length := by
  have := congrArg List.length (toB_val l h)
  rwa [List.length_map] at this

/-- What a sort of an own row leaves. -/
theorem sorted_of {w w1 : World} {g cap n : Nat} {d d' : Array XB} {os : Array Obj} (hq : Q w w1) (hg : w.heap.size ≤ g) (hg1 : g < w1.heap.size) (hc : d.size ≤ cap) (hm : cap ≤ maxLen) (hH : Go.Sort.Holds EB w1 g 0 d) (hs : d'.size = d.size) :
    ExtsAt (sortWorld EB w1 g 0 n d' os) (.slice (some ⟨g, 0, none⟩) d.size cap) (d'.toList.map (·.1)) ∧ Q w (sortWorld EB w1 g 0 n d' os) := by
  constructor
  · have h2 := holds_sortWorld EB w1 g 0 n d d' os hg1 hH hs
    refine .inr ⟨g, 0, cap, by simp [hs], by simp [hs, hc], hm, fun i hi => ?_⟩
    have hi' : i < d'.size := by simpa using hi
    have := (h2 i hi').1
    rw [this]
    simp [EB, getElem!_pos, hi']
  · unfold sortWorld
    have h1 : Below w.heap.size w (Go.Sort.putRow EB (Sort.ahead w1 n) g 0 d') := Lib.below_putRow hq hg
    have h2 := Go.Lib.below_grow w.heap.size (Go.Sort.putRow EB (Sort.ahead w1 n) g 0 d') h1.size 0 os
    exact h1.trans h2

set_option maxRecDepth 100000 in
set_option maxHeartbeats 1000000 in
theorem sortFunc_own (v : Value) (ns : List X) (w w1 : World) (ho : w1.ownsRow w.heap.size 57 1 v ns.length (ns.map E)) (hn : Ok ns) (hl : ns.length ≤ 100000) (hq : Q w w1) :
    Calls Tryz.prog 72 #[v, .func (.func 73) #[] #[]] w1 fun e w' => e = .returned (.tuple #[]) ∧ ∃ r : List X, ExtsAt w' v r ∧ Q w w' ∧ Hid ((∀ x, x ∈ r ↔ x ∈ ns) ∧ r.length = ns.length ∧ r.Pairwise fun x y => x.1 ≤ y.1) := by
  by_cases h0 : ns.length = 0
  · have e0 : ns = [] := List.eq_nil_of_length_eq_zero h0
    subst e0
    obtain ⟨A, c, rfl⟩ := own_form ho
    have hx : ExtsAt w1 (.slice A 0 c) [] := ExtsAt.of_own ho
    have hcon := AnyF.slices_SortFunc_none (P := Tryz.prog) (ρ := YtheobpilmphdjaaGreat.sortLay_ren) { YtheobpilmphdjaaGreat.sortLay with } A c (.func (.func 73) #[] #[]) w1
    refine Calls.mono (P := Tryz.prog) (f := 72) hcon ?_
    rintro e w' ⟨rfl, rfl⟩
    exact ⟨rfl, [], hx, hq, by simp, rfl, List.Pairwise.nil⟩
  · have hv : v ≠ .slice none 0 0 := by
      rintro rfl
      rcases ho.2 with ⟨_, h⟩ | ⟨g, cap, cur, e, _⟩
      · exact h0 h
      · cases e
    have ho' : w1.ownsRow w.heap.size 57 1 v ns.length ((toB ns hn).map EB) := by rw [toB_map]; exact ho
    obtain ⟨g, cap, rfl, hb, hg, h1, h2, h3, h4⟩ := Go.Lib.holds_of_ownsRow ho' hv
    have hsz : (toB ns hn).toArray.size = ns.length := by simp [toB_len]
    have eg : ∀ args w, (callFunc 73 args).run Tryz.prog w = .ok (.enter 73 args) w := enters_of Tryz.func73 (by kernel_rfl) rfl
    have hcon := Any.slices_SortFunc YtheobpilmphdjaaGreat.sortLay EB (fun _ => rfl) cmpB swo_cmpB 73 #[] g 0 cap (toB ns hn).toArray w1 eg (cmpReads g 0 _ w1).lays h4 hg (by rw [hsz]; omega)
    rw [hsz] at hcon
    refine Calls.mono (P := Tryz.prog) (f := 72) hcon ?_
    rintro e w' ⟨rfl, d', n, os, hp, hs, rfl⟩
    have hz : d'.size = ns.length := by rw [hp.1, hsz]
    have hx := sorted_of (n := n) (os := os) hq hb hg (by rw [hsz]; exact h1) h2 h4 hp.1
    rw [hsz] at hx
    refine ⟨rfl, d'.toList.map (·.1), hx.1, hx.2, ?_⟩
    have hperm : d'.toList.Perm (toB ns hn) := by
      have h := hp.2.2
      have e1 : (d'.extract 0 ns.length) = d' := by rw [← hz]; exact Array.extract_size
      have e2 : ((toB ns hn).toArray.extract 0 ns.length) = (toB ns hn).toArray := by rw [← hsz]; exact Array.extract_size
      rw [e1, e2] at h
      exact h
    have hperm2 : (d'.toList.map (·.1)).Perm ns := by
      have := hperm.map (fun x : XB => x.1)
      rwa [toB_val] at this
    refine ⟨fun x => hperm2.mem_iff, hperm2.length_eq, ?_⟩
    rw [List.pairwise_map, List.pairwise_iff_getElem]
    intro i j hi hj hij
    have := hs i j (by omega) hij (by simpa [hz] using hj)
    rw [lt_cmpB] at this
    have hi' : i < d'.size := by simpa using hi
    have hj' : j < d'.size := by simpa using hj
    rw [getElem!_pos d' i hi', getElem!_pos d' j hj'] at this
    have := of_decide_eq_false this
    simp only [Array.getElem_toList]
    omega
end Go.Proofs.YtheobpilmphdjaaGreat.Ex
