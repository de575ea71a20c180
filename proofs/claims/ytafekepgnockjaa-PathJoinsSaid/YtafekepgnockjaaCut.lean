/-
  The contract of the document's cut, and the contracts of what stands on split and cut: May, Parts, Depth, Last, Parent, Under, of the program and of the document.
-/
import Derived.Test.YtafekepgnockjaaSplit
namespace Go.Proofs.Ytafekepgnockjaa
open Go.RowKit
open Pth

def CutRel (s : ByteArray) (f k : Nat) (ns : List ByteArray) : Prop :=
  (∃ ls, ns = ls.map mkB ∧ CutAt s.data.toList f k ls) ∨ (k = s.size + 1 ∧ ns = cutB s)
theorem CutRel.start (s : ByteArray) : CutRel s 0 0 [] := .inl ⟨[], rfl, CutAt.start _⟩
theorem CutRel.le {s : ByteArray} {f k : Nat} {ns : List ByteArray} (h : CutRel s f k ns) (hk : k ≤ s.size) : f ≤ k := by
  rcases h with ⟨ls, _, h⟩ | ⟨h, _⟩
  · exact h.1
  · omega
theorem CutRel.done {s : ByteArray} {f k : Nat} {ns : List ByteArray} (h : CutRel s f k ns) (hk : ¬ k ≤ s.size) : ns = cutB s := by
  rcases h with ⟨ls, _, h⟩ | ⟨_, h⟩
  · have := h.2.1; simp at this; omega
  · exact h
theorem CutRel.skip {s : ByteArray} {f k : Nat} {ns : List ByteArray} (h : CutRel s f k ns) (hk : k < s.size) (hc : s[k] ≠ 47) : CutRel s f (k + 1) ns := by
  rcases h with ⟨ls, e, h⟩ | ⟨h, _⟩
  · exact .inl ⟨ls, e, h.skip (by simpa using hk) hc⟩
  · omega
theorem CutRel.next {s : ByteArray} {f k : Nat} {ns : List ByteArray} (h : CutRel s f k ns) (hk : k < s.size) (hc : s[k] = 47) : CutRel s (k + 1) (k + 1) (ns ++ [s.extract f k]) := by
  rcases h with ⟨ls, rfl, h⟩ | ⟨h, _⟩
  · exact .inl ⟨ls ++ [(s.data.toList.drop f).take (k - f)], by simp [extract_mkB], h.next (by simpa using hk) hc⟩
  · omega
theorem CutRel.last {s : ByteArray} {f k : Nat} {ns : List ByteArray} (h : CutRel s f k ns) (hk : k = s.size) : CutRel s (k + 1) (k + 1) (ns ++ [s.extract f k]) := by
  rcases h with ⟨ls, rfl, h⟩ | ⟨h, _⟩
  · refine .inr ⟨by omega, ?_⟩
    unfold cutB
    rw [h.last (by simpa using hk), extract_mkB]
    simp
  · omega

def CutPost (s : ByteArray) (w : World) (e : Ending) (w' : World) : Prop := ∃ v, e = .returned v ∧ StrsAt w' v (cutB s) ∧ Q w w'

set_option maxHeartbeats 400000 in
theorem cut_any (s : ByteArray) (w : World) (hs : s.size ≤ 100000) : Calls Try.prog 30 #[.string s] w (CutPost s w) := by
  obtain ⟨i0, hi0, hz0, hz1, hz2⟩ := info_parts info_str
  go_enter Try.func30, Try.ntmps30
  go_wp2
  go_loopw [3, 4, 5] (fun v f i wr => ∃ (k m : Nat) (ns : List ByteArray), i = .int .i64 k ∧ f = .int .i64 m ∧ k ≤ s.size + 1 ∧ wr.ownsRow w.heap.size 9 1 v ns.length (ns.map Value.string) ∧ Q w wr ∧ ns.length ≤ k ∧ Hid (CutRel s m k ns)) (fun _ _ i _ => s.size + 1 - (intOf i).toNat)
  case atStart => exact ⟨0, 0, [], rfl, rfl, by omega, World.ownsRow_nil _ _ _ _, Q.refl _, by simp, CutRel.start s⟩
  case round =>
    obtain ⟨k, m, ns, rfl, rfl, hk, hown, hq, hn, H⟩ := hrel
    by_cases hle : k ≤ s.size
    · have hmk := H.out.le hle
      obtain ⟨A, c, rfl⟩ := own_form hown
      have hsz := hq.size
      by_cases he : k = s.size
      · have t1 : ((k : Int) == (s.size : Int)) = true := beq_iff_eq.2 (by omega)
        have E : Hid (CutRel s (k + 1) (k + 1) (ns ++ [s.extract m k])) := H.out.last he
        clear he
        go_wp2_with (at_builtin; refine wpList_append_own _ rfl (.tmp 22) (.tmp 27) 29 rfl w.heap.size 9 i0 _ 1 16 Try.underlying29 hi0 hz0 hz1 hz2 rfl (by decide) _ ns.length _ rfl (hown.alloc _) ⟨_, 0, none⟩ 1 1 [.string (s.extract m k)] rfl rfl ?c1 ?c2 ?c3 ?c4 ?c5 ?_)
        case c1 => exact cell_one_new _ _ _
        case c2 => intro u hu; rw [List.mem_singleton.1 hu]; rfl
        case c3 => unfold maxLen; omega
        case c4 => omega
        case c5 => rw [World.size_alloc]; omega
        intro v2 w2 hown2 hg2 _
        have hq2 : Q w w2 := Below.grown (hq.alloc _) hg2 (by rw [World.size_alloc]; omega) fun g hg => (hown.lt g hg).1
        rw [show ns.length + 1 = (ns ++ [s.extract m k]).length from by simp, show ns.map Value.string ++ [.string (s.extract m k)] = (ns ++ [s.extract m k]).map Value.string from by simp] at hown2
        have hl2 : (ns ++ [s.extract m k]).length ≤ k + 1 := by simp; omega
        generalize ns ++ [s.extract m k] = ns2 at hown2 E hl2
        clear hg2 hown hsz t1
        go_wp2
        go_roundw
        case rel => exact ⟨k + 1, k + 1, ns2, by go_num, by go_num, by omega, hown2, hq2, hl2, E⟩
        case measure => simp [intOf]; omega
      have t1 : ((k : Int) == (s.size : Int)) = false := beq_eq_false_iff_ne.2 (by omega)
      have hlt : k < s.size := by omega
      by_cases hc : s[k] = 47
      · have t2 : ((s[k].toNat : Int) == 47) = true := u8_eq 47 hc
        have E : Hid (CutRel s (k + 1) (k + 1) (ns ++ [s.extract m k])) := H.out.next hlt hc
        clear he hc
        go_wp2_with (at_builtin; refine wpList_append_own _ rfl (.tmp 22) (.tmp 27) 29 rfl w.heap.size 9 i0 _ 1 16 Try.underlying29 hi0 hz0 hz1 hz2 rfl (by decide) _ ns.length _ rfl (hown.alloc _) ⟨_, 0, none⟩ 1 1 [.string (s.extract m k)] rfl rfl ?c1 ?c2 ?c3 ?c4 ?c5 ?_)
        case c1 => exact cell_one_new _ _ _
        case c2 => intro u hu; rw [List.mem_singleton.1 hu]; rfl
        case c3 => unfold maxLen; omega
        case c4 => omega
        case c5 => rw [World.size_alloc]; omega
        intro v2 w2 hown2 hg2 _
        have hq2 : Q w w2 := Below.grown (hq.alloc _) hg2 (by rw [World.size_alloc]; omega) fun g hg => (hown.lt g hg).1
        rw [show ns.length + 1 = (ns ++ [s.extract m k]).length from by simp, show ns.map Value.string ++ [.string (s.extract m k)] = (ns ++ [s.extract m k]).map Value.string from by simp] at hown2
        have hl2 : (ns ++ [s.extract m k]).length ≤ k + 1 := by simp; omega
        generalize ns ++ [s.extract m k] = ns2 at hown2 E hl2
        clear hg2 hown hsz t1 t2
        go_wp2
        go_roundw
        case rel => exact ⟨k + 1, k + 1, ns2, by go_num, by go_num, by omega, hown2, hq2, hl2, E⟩
        case measure => simp [intOf]; omega
      · have t2 : ((s[k].toNat : Int) == 47) = false := u8_ne 47 hc
        have E : Hid (CutRel s m (k + 1) ns) := H.out.skip hlt hc
        clear he hc
        go_wp2
        go_roundw
        case rel => exact ⟨k + 1, m, ns, by go_num, rfl, by omega, hown, hq, by omega, E⟩
        case measure => simp [intOf]; omega
    · have E := Lib.hid (H.out.done hle)
      go_wp2
      go_ret
      exact ⟨_, rfl, by rw [← E.out]; exact StrsAt.of_own hown, hq⟩
end Go.Proofs.Ytafekepgnockjaa
