/-
  The contract of extent.sorted.
-/
import Derived.Test.YtheobpilmphdjaaGreatESort
namespace Go.Proofs.YtheobpilmphdjaaGreat.Ex
open Go.RowKit
open Rng

theorem info_ext : (Tryz.prog.info? 57).map (fun i => (i.zero, i.size, i.bytes)) = some (some (.complex .f64 0 0), 1, 16) := by kernel_rfl
theorem shut_ok (d : List X) (hd : Ok d) : Ok (shut d) := by
  intro x hx
  obtain ⟨hx, _⟩ := List.mem_filter.1 hx
  obtain ⟨y, hy, rfl⟩ := List.mem_map.1 hx
  have := hd y hy
  refine ⟨this.1, ?_⟩
  show min (y.1 + y.2) M - y.1 ≤ M
  omega
theorem shut_add {d : List X} {k : Nat} {ns : List X} (h : k < d.length) (hs : ns = shut (d.take k)) (hp : 0 < (cutN d[k]).2) : ns ++ [cutN d[k]] = shut (d.take (k + 1)) := by
  rw [shut_take d k h, if_pos hp, hs]
theorem shut_skip {d : List X} {k : Nat} {ns : List X} (h : k < d.length) (hs : ns = shut (d.take k)) (hp : ¬ 0 < (cutN d[k]).2) : ns = shut (d.take (k + 1)) := by
  rw [shut_take d k h, if_neg hp, hs]
theorem shut_all {d : List X} {k : Nat} {ns : List X} (h : ¬ k < d.length) (hs : ns = shut (d.take k)) : ns = shut d := by
  rw [hs, List.take_of_length_le (by omega)]

def SortedPost (d : List X) (w : World) (e : Ending) (w' : World) : Prop := ∃ v r, e = .returned v ∧ ExtsAt w' v r ∧ Q w w' ∧ Hid (Srt d r)

set_option maxRecDepth 100000 in
set_option maxHeartbeats 1000000 in
theorem sorted_any (v : Value) (l : List X) (w : World) (h : ExtsAt w v l) (hl : Ok l) (h9 : l.length ≤ 100000) :
    Calls Tryz.prog 51 #[v] w (SortedPost l w) := by
  obtain ⟨A, c, rfl⟩ := h.form
  obtain ⟨i0, hi0, hz0, hz1, hz2⟩ := info_parts info_ext
  go_enter Tryz.func51, Tryz.ntmps51
  go_wp2
  go_loopw [3, 5, 6, 9] (fun o _ _ i wr => ∃ (k : Nat) (ns : List X), i = .int .i64 k ∧ k ≤ l.length ∧ wr.ownsRow w.heap.size 57 1 o ns.length (ns.map E) ∧ Q w wr ∧ ns.length ≤ k ∧ Hid (ns = shut (l.take k))) (fun _ _ _ i _ => l.length - (intOf i).toNat)
  case atStart => exact ⟨0, [], rfl, by omega, World.ownsRow_nil _ _ _ _, Q.refl _, by simp, by rw [List.take_zero]; rfl⟩
  case round =>
    obtain ⟨k, ns, rfl, hk, hown, hq, hn, H⟩ := hrel
    obtain ⟨B, cb, rfl⟩ := own_form hown
    by_cases hlt : k < l.length
    · obtain ⟨g, og, _, ea, _, _, hc⟩ := (h.keep hq).at_ (by omega)
      cases ea
      have c1 := hc k hlt
      have o1 := hl _ (List.getElem_mem hlt)
      have o2 := cutN_ok o1
      have Ey : Hid (0 < (cutN l[k]).2 → ns ++ [cutN l[k]] = shut (l.take (k + 1))) := shut_add hlt H.out
      have En : Hid (¬ 0 < (cutN l[k]).2 → ns = shut (l.take (k + 1))) := shut_skip hlt H.out
      clear hc H
      generalize l[k] = x at *
      go_wp2_with fail
      refine (cut_any x _ o1.1 o1.2).mono ?_
      rintro e w1 ⟨rfl, rfl⟩
      go_wp2_with fail
      refine (long_any _ _ o2.2.2).mono ?_
      rintro e w2 ⟨rfl, rfl⟩
      by_cases h1 : 0 < (cutN x).2
      · have E1 := Lib.hid (Ey.out h1)
        have h1' : (0 : Int) < ((cutN x).2 : Int) := by omega
        clear Ey En o1 o2
        generalize cutN x = y at *
        have hsz := hq.size
        obtain ⟨y1, y2, hE⟩ : ∃ a b, E y = .complex .f64 a b := ⟨_, _, rfl⟩
        rw [hE]
        go_wp2_with (at_builtin; refine wpList_append_own _ rfl (.tmp 18) (.tmp 20) 40 rfl w.heap.size 57 i0 _ 1 16 Tryz.underlying40 hi0 hz0 hz1 hz2 rfl (by decide) _ ns.length _ rfl (hown.alloc _) ⟨_, 0, none⟩ 1 1 [.complex .f64 y1 y2] rfl rfl ?c1 ?c2 ?c3 ?c4 ?c5 ?_)
        case c1 => exact cell_one_new _ _ _
        case c2 => intro u hu; rw [List.mem_singleton.1 hu]; rfl
        case c3 => unfold maxLen; omega
        case c4 => omega
        case c5 => rw [World.size_alloc]; omega
        intro v2 w2 hown2 hg2 _
        have hq2 : Q w w2 := Below.grown (hq.alloc _) hg2 (by rw [World.size_alloc]; omega) fun g hg => (hown.lt g hg).1
        rw [show ns.length + 1 = (ns ++ [y]).length from by simp, show ns.map E ++ [.complex .f64 y1 y2] = (ns ++ [y]).map E from by rw [← hE]; simp] at hown2
        have hl2 : (ns ++ [y]).length ≤ k + 1 := by simp; omega
        generalize ns ++ [y] = ns2 at hown2 E1 hl2
        clear hg2 hown hsz hE h1 h1'
        go_wp2
        go_roundw
        case rel => exact ⟨k + 1, ns2, by go_num, by omega, hown2, hq2, hl2, E1⟩
        case measure => simp [intOf]; omega
      · have E1 := Lib.hid (En.out h1)
        clear Ey En o1 o2
        go_wp2
        go_roundw
        case rel => exact ⟨k + 1, ns, by go_num, by omega, hown, hq, by omega, E1⟩
        case measure => simp [intOf]; omega
    · have E1 := Lib.hid (shut_all hlt H.out)
      have hs := sortFunc_own _ ns w wr hown (by rw [E1.out]; exact shut_ok l hl) (by omega) hq
      have E2 : Hid (∀ r : List X, (∀ x, x ∈ r ↔ x ∈ ns) → r.length = ns.length → r.Pairwise (fun x y => x.1 ≤ y.1) → Srt l r) := by
        intro r a b c
        exact ⟨fun x => by rw [a x, E1.out], by rw [b, E1.out], c⟩
      clear H E1 hown
      go_wp2_with fail
      refine hs.mono ?_
      rintro e w2 ⟨rfl, r, hx, hq2, H⟩
      go_wp2
      go_ret
      exact ⟨_, r, rfl, hx, hq2, E2.out r H.out.1 H.out.2.1 H.out.2.2⟩
end Go.Proofs.YtheobpilmphdjaaGreat.Ex
