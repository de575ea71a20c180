/-
  The contract of extent.Holes.
-/
import Derived.Test.YtgpnhhfmfdbmdaaMeet
namespace Go.Proofs.Ytgpnhhfmfdbmdaa
open Go.RowKit
open Rng

def HolesPost (d : List X) (s : Nat) (w : World) (e : Ending) (w' : World) : Prop := ∃ v r, e = .returned v ∧ w'.ownsRow w.heap.size 31 1 v r.length (r.map E) ∧ Q w w' ∧ Hid (IsHoles d s r)

set_option maxHeartbeats 1000000 in
theorem holes_any (v : Value) (l : List X) (size : Int) (w : World) (h : ExtsAt w v l) (hl : Ok l) (h9 : l.length ≤ 100000) :
    Calls Try.prog 8 #[v, .int .i64 size] w (HolesPost l (limN size) w) := by
  obtain ⟨i0, hi0, hz0, hz1, hz2⟩ := info_parts info_ext
  have hs := meet_any v l 0 size w h hl h9
  rw [show limN 0 = 0 from rfl, Nat.zero_add] at hs
  have lim_s : lim size = (limN size : Int) := rfl
  have hlim := fun w => limit_any size w
  rw [lim_s] at hlim
  have l1 := limN_le size
  clear lim_s
  obtain ⟨A, c, rfl⟩ := h.form
  clear h
  go_enter Try.func8, Try.ntmps8
  go_wp2_with fail
  refine hs.mono ?_
  rintro e ws ⟨vs, n, rfl, hown0, hqs, H⟩
  generalize limN size = s at *
  have hx := ExtsAt.of_own hown0
  have hnl : n.length ≤ 100000 := by have := H.out.2.2.2; omega
  have hus : Hid (Upto s n) := upto_of_mem H.out.1 fun p hp => ((H.out.2.2.1 p).1 hp).2.2
  obtain ⟨R, cr, rfl⟩ := hx.form
  have bM : M = 1099511627776 := rfl
  clear hs hown0
  go_wp2
  go_loopw [5, 6, 8, 13] (fun o ff _ i wr => ∃ (k f : Nat) (ns : List X), i = .int .i64 k ∧ ff = .int .i64 f ∧ f ≤ s ∧ k ≤ n.length ∧ wr.ownsRow ws.heap.size 31 1 o ns.length (ns.map E) ∧ Q ws wr ∧ ns.length ≤ k ∧ Hid (HoleAt n s k f ns)) (fun _ _ _ i _ => n.length - (intOf i).toNat)
  case atStart => exact ⟨0, 0, [], rfl, rfl, by omega, by omega, World.ownsRow_nil _ _ _ _, Q.refl _, by simp, HoleAt.start _ _⟩
  case round =>
    obtain ⟨k, f, ns, rfl, rfl, hf, hk, hown, hq, hn, H2⟩ := hrel
    obtain ⟨B, cb, rfl⟩ := own_form hown
    by_cases hlt : k < n.length
    · obtain ⟨g, _, ea, _, _, hc⟩ := (hx.keep hq).at_ (by omega)
      cases ea
      have c1 := hc k hlt
      have hu := hus.out _ (List.getElem_mem hlt)
      have Hadd : Hid (f < n[k].1 → HoleAt n s (k + 1) (n[k].1 + n[k].2) (ns ++ [(f, n[k].1 - f)])) := H2.out.add H.out.1 hus.out hlt
      have Hskip : Hid (¬ f < n[k].1 → HoleAt n s (k + 1) (n[k].1 + n[k].2) ns) := H2.out.skip H.out.1 hus.out hlt
      clear hc H H2 hus
      generalize n[k] = z at *
      have oz : z.1 ≤ M ∧ z.2 ≤ M := ⟨by omega, by omega⟩
      go_wp2_with fail
      refine (at_any z _ oz.1).mono ?_
      rintro e w1 ⟨rfl, rfl⟩
      by_cases h1 : f < z.1
      · have t1 : (f : Int) < (z.1 : Int) := by omega
        have E1 := Lib.hid (Hadd.out h1)
        have hb := fun w => between_any f z.1 w (by omega) oz.1
        generalize (f, z.1 - f) = y at hb E1
        clear Hadd Hskip
        go_wp2_with fail
        refine (at_any z _ oz.1).mono ?_
        rintro e w1 ⟨rfl, rfl⟩
        go_wp2_with fail
        refine (hb _).mono ?_
        rintro e w1 ⟨rfl, rfl⟩
        have hsz := hq.size
        have hsz2 := hqs.size
        obtain ⟨z1, z2, hE⟩ : ∃ a b, E y = .complex .f64 a b := ⟨_, _, rfl⟩
        rw [hE]
        go_wp2_with (at_builtin; refine wpList_append_own _ rfl (.tmp 21) (.tmp 26) 23 rfl ws.heap.size 31 i0 _ 1 16 Try.underlying23 hi0 hz0 hz1 hz2 rfl (by decide) _ ns.length _ rfl (hown.alloc _) ⟨_, 0, none⟩ 1 1 [.complex .f64 z1 z2] rfl rfl ?c1 ?c2 ?c3 ?c4 ?c5 ?_)
        case c1 => exact cell_one_new _ _ _
        case c2 => intro u hu; rw [List.mem_singleton.1 hu]; rfl
        case c3 => unfold maxLen; omega
        case c4 => omega
        case c5 => rw [World.size_alloc]; omega
        intro v2 w2 hown2 hg2 _
        have hq2 : Q ws w2 := Below.grown (hq.alloc _) hg2 (by rw [World.size_alloc]; omega) fun g hg => (hown.lt g hg).1
        rw [show ns.length + 1 = (ns ++ [y]).length from by simp, show ns.map E ++ [.complex .f64 z1 z2] = (ns ++ [y]).map E from by rw [← hE]; simp] at hown2
        have hl2 : (ns ++ [y]).length ≤ k + 1 := by simp; omega
        generalize ns ++ [y] = ns2 at hown2 E1 hl2
        clear hg2 hown hsz hsz2 hE hb
        go_wp2_with fail
        refine (end_any z _ oz.1 oz.2).mono ?_
        rintro e w1 ⟨rfl, rfl⟩
        go_wp2
        go_roundw
        case rel => exact ⟨k + 1, _, ns2, by go_num, rfl, by omega, by omega, hown2, hq2, hl2, E1⟩
        case measure => simp [intOf]; omega
      · have t1 : ¬ (f : Int) < (z.1 : Int) := by omega
        have E1 := Lib.hid (Hskip.out h1)
        clear Hadd Hskip
        go_wp2_with fail
        refine (end_any z _ oz.1 oz.2).mono ?_
        rintro e w1 ⟨rfl, rfl⟩
        go_wp2
        go_roundw
        case rel => exact ⟨k + 1, _, ns, by go_num, rfl, by omega, by omega, hown, hq, by omega, E1⟩
        case measure => simp [intOf]; omega
    · have Hl : Hid (f < s → IsHoles l s (ns ++ [(f, s - f)])) := fun hg => H2.out.last l1 H.out hlt hg hk
      have Hd : Hid (¬ f < s → IsHoles l s ns) := fun hg => H2.out.done l1 H.out hg hk
      clear H H2 hus
      go_wp2_with fail
      refine (hlim _).mono ?_
      rintro e w1 ⟨rfl, rfl⟩
      by_cases h1 : f < s
      · have t1 : (f : Int) < (s : Int) := by omega
        have E1 := Lib.hid (Hl.out h1)
        have hb := fun w => between_any f s w (by omega) l1
        generalize (f, s - f) = y at hb E1
        clear Hl Hd
        go_wp2_with fail
        refine (hlim _).mono ?_
        rintro e w1 ⟨rfl, rfl⟩
        go_wp2_with fail
        refine (hb _).mono ?_
        rintro e w1 ⟨rfl, rfl⟩
        have hsz := hq.size
        have hsz2 := hqs.size
        obtain ⟨z1, z2, hE⟩ : ∃ a b, E y = .complex .f64 a b := ⟨_, _, rfl⟩
        rw [hE]
        go_wp2_with (at_builtin; refine wpList_append_own _ rfl (.tmp 35) (.tmp 40) 23 rfl ws.heap.size 31 i0 _ 1 16 Try.underlying23 hi0 hz0 hz1 hz2 rfl (by decide) _ ns.length _ rfl (hown.alloc _) ⟨_, 0, none⟩ 1 1 [.complex .f64 z1 z2] rfl rfl ?d1 ?d2 ?d3 ?d4 ?d5 ?_)
        case d1 => exact cell_one_new _ _ _
        case d2 => intro u hu; rw [List.mem_singleton.1 hu]; rfl
        case d3 => unfold maxLen; omega
        case d4 => omega
        case d5 => rw [World.size_alloc]; omega
        intro v2 w2 hown2 hg2 _
        have hq2 : Q ws w2 := Below.grown (hq.alloc _) hg2 (by rw [World.size_alloc]; omega) fun g hg => (hown.lt g hg).1
        rw [show ns.length + 1 = (ns ++ [y]).length from by simp, show ns.map E ++ [.complex .f64 z1 z2] = (ns ++ [y]).map E from by rw [← hE]; simp] at hown2
        generalize ns ++ [y] = ns2 at hown2 E1
        clear hg2 hown hsz hsz2 hE hb
        go_wp2
        go_ret
        exact ⟨_, ns2, rfl, World.ownsRow.mono hown2 hqs.size, hqs.trans hq2, E1⟩
      · have t1 : ¬ (f : Int) < (s : Int) := by omega
        have E1 := Lib.hid (Hd.out h1)
        clear Hl Hd
        go_wp2
        go_ret
        exact ⟨_, ns, rfl, World.ownsRow.mono hown hqs.size, hqs.trans hq, E1⟩
end Go.Proofs.Ytgpnhhfmfdbmdaa
