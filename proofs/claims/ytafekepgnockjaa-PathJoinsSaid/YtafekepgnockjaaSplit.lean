/-
  The contracts of path.split and of the document's cut: which names a text is made of.
-/
import Derived.Test.YtafekepgnockjaaNames
namespace Go.Proofs.Ytafekepgnockjaa
open Go.RowKit
open Pth

theorem info_str : (Try.prog.info? 9).map (fun i => (i.zero, i.size, i.bytes)) = some (some (.string ⟨#[]⟩), 1, 16) := by kernel_rfl

/-- What split has when it stands at i. -/
def CuttingB (s : ByteArray) (i : Nat) (ns : List ByteArray) : Prop := ∃ ls, ns = ls.map mkB ∧ Cutting s.data.toList i ls
theorem CuttingB.start (s : ByteArray) : CuttingB s 0 [] := ⟨[], rfl, Cutting.start _⟩
theorem mayB_nil (s : ByteArray) (h : s.toList = []) : mayB s = true ∧ partsB s = [] := by
  rw [ByteArray.toList_eq] at h
  unfold mayB partsB
  rw [h]
  exact ⟨rfl, rfl⟩
theorem partsB_no (s : ByteArray) (h : mayB s = false) : partsB s = [] := by
  unfold mayB at h
  unfold partsB partsL
  simp [h]
theorem mayB_long (s : ByteArray) (h : 100 < s.size) : mayB s = false := mayL_long _ (by simpa using h)
theorem piece_eq (s : ByteArray) (k m : Nat) (hm : m = endB s k) : s.extract k m = mkB (pieceL s.data.toList k) := by
  subst hm
  rw [extract_mkB]
  rfl
theorem ne_nil (s : ByteArray) (h : ¬ s.toList = []) : s.data.toList ≠ [] := by rwa [ByteArray.toList_eq] at h
theorem CuttingB.le8 {s : ByteArray} {i : Nat} {ns : List ByteArray} (h : CuttingB s i ns) : ns.length ≤ 8 := by
  obtain ⟨ls, rfl, h⟩ := h
  simpa using h.2.2.2
theorem CuttingB.full {s : ByteArray} {i : Nat} {ns : List ByteArray} (h : CuttingB s i ns) (h0 : ¬ s.toList = []) (hn : ns.length = 8) : mayB s = false := by
  obtain ⟨ls, rfl, h⟩ := h
  exact h.full (ne_nil s h0) (by simpa using hn)
theorem CuttingB.bad {s : ByteArray} {i m : Nat} {ns : List ByteArray} (h : CuttingB s i ns) (h0 : ¬ s.toList = []) (hm : m = endB s i) (hn : nameB (s.extract i m) = false) : mayB s = false := by
  obtain ⟨ls, rfl, h⟩ := h
  rw [piece_eq s i m hm] at hn
  exact h.bad (ne_nil s h0) hn
theorem CuttingB.last {s : ByteArray} {i m : Nat} {ns : List ByteArray} (h : CuttingB s i ns) (h0 : ¬ s.toList = []) (h1 : s.size ≤ 100) (hn : ns.length < 8) (hm : m = endB s i) (hp : nameB (s.extract i m) = true) (he : m = s.size) : mayB s = true ∧ partsB s = ns ++ [s.extract i m] := by
  obtain ⟨ls, rfl, h⟩ := h
  rw [piece_eq s i m hm] at hp ⊢
  have := h.last (ne_nil s h0) (by simpa using h1) (by simpa using hn) hp (by rw [hm] at he; simpa [endB] using he)
  exact ⟨this.1, by unfold partsB; rw [this.2]; simp⟩
theorem CuttingB.next {s : ByteArray} {i m : Nat} {ns : List ByteArray} (h : CuttingB s i ns) (hn : ns.length < 8) (hm : m = endB s i) (hp : nameB (s.extract i m) = true) (he : m < s.size) : CuttingB s (m + 1) (ns ++ [s.extract i m]) := by
  obtain ⟨ls, rfl, h⟩ := h
  rw [piece_eq s i m hm] at hp ⊢
  subst hm
  exact ⟨ls ++ [pieceL s.data.toList i], by simp, h.next (by simpa using hn) hp (by simpa [endB] using he)⟩

theorem nameEnd_at (s : ByteArray) (i : Nat) (w : World) (hi : i ≤ s.size) (hs : s.size ≤ maxLen) :
    Calls Try.prog 32 #[.string s, .int .i64 i] w fun e w' => ∃ m : Nat, e = .returned (.int .i64 m) ∧ w = w' ∧ i ≤ m ∧ m ≤ s.size ∧ Hid (m = endB s i) :=
  (nameEnd_any s i w hi hs).mono fun _ _ ⟨he, hw⟩ => ⟨_, he, hw, endL_ge _ _, by have := endL_le s.data.toList i (by simpa using hi); simpa [endB] using this, rfl⟩

def SplitPost (s : ByteArray) (w : World) (e : Ending) (w' : World) : Prop := ∃ v, e = .returned (.tuple #[v, .bool (mayB s)]) ∧ StrsAt w' v (partsB s) ∧ Q w w'
theorem SplitPost.no {s : ByteArray} {w w' : World} (h : mayB s = false) (q : Q w w') : SplitPost s w (.returned (.tuple #[.slice none 0 0, .bool false])) w' :=
  ⟨.slice none 0 0, by rw [h], by rw [partsB_no s h]; exact StrsAt.nil_ _, q⟩

theorem SplitPost.yes {s : ByteArray} {v : Value} {w w' : World} (h : mayB s = true) (hv : StrsAt w' v (partsB s)) (q : Q w w') : SplitPost s w (.returned (.tuple #[v, .bool true])) w' :=
  ⟨v, by rw [h], hv, q⟩
theorem own_form {w : World} {base : Nat} {e : TypeId} {v : Value} {n : Nat} {xs : List Value} (h : w.ownsRow base e 1 v n xs) : ∃ A c, v = .slice A n c := by
  rcases h.2 with ⟨rfl, rfl⟩ | ⟨g, cap, cur, rfl, _⟩
  · exact ⟨_, _, rfl⟩
  · exact ⟨_, _, rfl⟩

set_option maxHeartbeats 400000 in
theorem split_any (s : ByteArray) (w : World) (hs : s.size ≤ maxLen) : Calls Try.prog 29 #[.string s] w (SplitPost s w) := by
  have hs' := hs
  unfold maxLen at hs
  by_cases g1 : s.toList = []
  · have t1 : s.toList.isEmpty = true := List.isEmpty_iff.2 g1
    have E := Lib.hid (mayB_nil s g1)
    clear g1
    go_enter Try.func29, Try.ntmps29
    go_wp2
    go_step3
    go_wp2
    try simp only [Exit.noGoto_ret]
    go_ret2
    exact SplitPost.yes E.out.1 (by rw [E.out.2]; exact StrsAt.nil_ _) (Q.refl _)
  have t1 : s.toList.isEmpty = false := by simpa using g1
  by_cases g2 : 100 < s.size
  · have E := Lib.hid (mayB_long s g2)
    clear g1
    go_enter Try.func29, Try.ntmps29
    go_wp2
    go_step3
    go_wp2
    try simp only [Exit.noGoto_ret]
    go_ret2
    exact SplitPost.no E.out (Q.refl _)
  have G1 := Lib.hid g1
  clear g1
  obtain ⟨i0, hi0, hz0, hz1, hz2⟩ := info_parts info_str
  go_enter Try.func29, Try.ntmps29
  go_wp2
  refine wp_scope_goto 0 (fun a' w' => ∃ (k : Nat) (v : Value) (ns : List ByteArray) (u6 u7 u8 u9 u10 u11 u12 u13 u14 u15 u16 u17 u18 u19 u20 u21 u22 u23 u24 u25 u26 u27 u28 u29 u30 u31 u32 u33 u34 u35 u36 u37 u38 u39 : Value), a' = { tmps := #[.string s, undef, .slice none 0 0, .bool false, v, .int .i64 k, u6, u7, u8, u9, u10, u11, u12, u13, u14, u15, u16, u17, u18, u19, u20, u21, u22, u23, u24, u25, u26, u27, u28, u29, u30, u31, u32, u33, u34, u35, u36, u37, u38, u39], defers := [] } ∧ k ≤ s.size ∧ w'.ownsRow w.heap.size 9 1 v ns.length (ns.map Value.string) ∧ Q w w' ∧ Hid (CuttingB s k ns)) (fun a' _ => s.size + 1 - (intOf (a'.tmps.getD 5 undef)).toNat) rfl ?_ ?_
  · intro hh
    go_wp2
    go_step3
    rename_i hK
    exact hK _ _ (hh.out _ _ ⟨0, _, [], _, _, _, _, _, _, _, _, _, _, _, _, _, _, _, _, _, _, _, _, _, _, _, _, _, _, _, _, _, _, _, _, _, _, rfl, by omega, World.ownsRow_nil _ _ _ _, Q.refl _, CuttingB.start s⟩)
  · rintro a' wr ⟨k, v, ns, u6, u7, u8, u9, u10, u11, u12, u13, u14, u15, u16, u17, u18, u19, u20, u21, u22, u23, u24, u25, u26, u27, u28, u29, u30, u31, u32, u33, u34, u35, u36, u37, u38, u39, rfl, hk, hown, hq, H⟩
    obtain ⟨A, c, rfl⟩ := own_form hown
    go_wp2_with fail
    refine (nameEnd_at s k _ hk hs').mono ?_
    rintro e w1 ⟨m, rfl, rfl, h1, h2, hm⟩
    have hn8 := H.out.le8
    by_cases h8 : ns.length = 8
    · have t8 : ((ns.length : Int) == 8) = true := beq_iff_eq.2 (by omega)
      have E := Lib.hid (H.out.full G1.out h8)
      clear h8
      go_wp2
      simp only [Exit.jump]
      go_ret2
      exact SplitPost.no E.out hq
    have t8 : ((ns.length : Int) == 8) = false := beq_eq_false_iff_ne.2 (by omega)
    go_wp2_with fail
    refine (name_any (s.extract k m) _ (by unfold maxLen; simp; omega)).mono ?_
    rintro e w1 ⟨rfl, rfl⟩
    cases hN : nameB (s.extract k m)
    · have E := Lib.hid (H.out.bad G1.out hm.out hN)
      clear hN
      go_wp2
      simp only [Exit.jump]
      go_ret2
      exact SplitPost.no E.out hq
    have HN := Lib.hid hN
    clear hN
    have hsz := hq.size
    go_wp2_with (at_builtin; refine wpList_append_own _ rfl (.tmp 26) (.tmp 31) 29 rfl w.heap.size 9 i0 _ 1 16 Try.underlying29 hi0 hz0 hz1 hz2 rfl (by decide) _ ns.length _ rfl (hown.alloc _) ⟨wr.heap.size, 0, none⟩ 1 1 [.string (s.extract k m)] rfl rfl ?c1 ?c2 ?c3 ?c4 ?c5 ?_)
    case c1 => exact cell_one_new _ _ _
    case c2 => intro u hu; rw [List.mem_singleton.1 hu]; rfl
    case c3 => unfold maxLen; omega
    case c4 => omega
    case c5 => rw [World.size_alloc]; omega
    intro v2 w2 hown2 hg2 _
    have hq2 : Q w w2 := Below.grown (hq.alloc _) hg2 (by rw [World.size_alloc]; omega) fun g hg => (hown.lt g hg).1
    rw [show ns.length + 1 = (ns ++ [s.extract k m]).length from by simp, show ns.map Value.string ++ [.string (s.extract k m)] = (ns ++ [s.extract k m]).map Value.string from by simp] at hown2
    clear hg2 hown hi0 hz0 hz1 hz2 hsz
    by_cases he : m = s.size
    · have t9 : ((m : Int) == (s.size : Int)) = true := beq_iff_eq.2 (by omega)
      have E := Lib.hid (H.out.last G1.out (by omega) (by omega) hm.out HN.out he)
      clear he
      go_wp2
      simp only [Exit.jump]
      go_ret2
      exact SplitPost.yes E.out.1 (by rw [E.out.2]; exact StrsAt.of_own hown2) hq2
    · have t9 : ((m : Int) == (s.size : Int)) = false := beq_eq_false_iff_ne.2 (by omega)
      have E : Hid (CuttingB s (m + 1) (ns ++ [s.extract k m])) := H.out.next (by omega) hm.out HN.out (by omega)
      generalize ns ++ [s.extract k m] = ns2 at hown2 E
      go_wp2
      go_step3
      exact ⟨rfl, ⟨m + 1, v2, ns2, _, _, _, _, _, _, _, _, _, _, _, _, _, _, _, _, _, _, _, _, _, _, _, _, _, _, _, _, _, _, _, _, _, _, rfl, by omega, hown2, hq2, E⟩, by simp [intOf]; omega⟩
end Go.Proofs.Ytafekepgnockjaa
