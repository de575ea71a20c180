/-
  The contracts of extent.Meet and extent.Holes.
-/
import Derived.Test.YtheobpilmphdjaaGreatENorm
import Derived.Test.YtheobpilmphdjaaGreatERng2
namespace Go.Proofs.YtheobpilmphdjaaGreat.Ex
open Go.RowKit
open Rng

def MeetPost (d : List X) (lo hi : Nat) (w : World) (e : Ending) (w' : World) : Prop := ∃ v r, e = .returned v ∧ w'.ownsRow w.heap.size 57 1 v r.length (r.map E) ∧ Q w w' ∧ Hid (IsMeet d lo hi r)

set_option maxRecDepth 100000 in
set_option maxHeartbeats 1000000 in
theorem meet_any (v : Value) (l : List X) (at_ long : Int) (w : World) (h : ExtsAt w v l) (hl : Ok l) (h9 : l.length ≤ 100000) :
    Calls Tryz.prog 34 #[v, .int .i64 at_, .int .i64 long] w (MeetPost l (limN at_) (limN at_ + limN long) w) := by
  obtain ⟨i0, hi0, hz0, hz1, hz2⟩ := info_parts info_ext
  have hs := norm_any v l w h hl h9
  have l1 := limN_le at_
  have l2 := limN_le long
  obtain ⟨A, c, rfl⟩ := h.form
  clear h
  go_enter Tryz.func34, Tryz.ntmps34
  go_wp2_with fail
  refine (of_any at_ long _).mono ?_
  rintro e w1 ⟨rfl, rfl⟩
  generalize limN at_ = lo at *
  generalize limN long = len at *
  go_wp2_with fail
  refine hs.mono ?_
  rintro e ws ⟨vs, n, rfl, hown0, hqs, H⟩
  have hx := ExtsAt.of_own hown0
  have hnl : n.length ≤ 100000 := by have := H.out.2.2.2; omega
  obtain ⟨R, cr, rfl⟩ := hx.form
  clear hs hown0
  go_wp2
  go_loopw [7, 10, 11, 12, 19] (fun o _ _ _ i wr => ∃ (k : Nat) (ns : List X), i = .int .i64 k ∧ k ≤ n.length ∧ wr.ownsRow ws.heap.size 57 1 o ns.length (ns.map E) ∧ Q ws wr ∧ ns.length ≤ k ∧ Hid (MeetAt n lo (lo + len) k ns)) (fun _ _ _ _ i _ => n.length - (intOf i).toNat)
  case atStart => exact ⟨0, [], rfl, by omega, World.ownsRow_nil _ _ _ _, Q.refl _, by simp, MeetAt.start _ _ _⟩
  case round =>
    obtain ⟨k, ns, rfl, hk, hown, hq, hn, H2⟩ := hrel
    obtain ⟨B, cb, rfl⟩ := own_form hown
    by_cases hlt : k < n.length
    · obtain ⟨g, og, _, ea, _, _, hc⟩ := (hx.keep hq).at_ (by omega)
      cases ea
      have c1 := hc k hlt
      have hu := H.out.2.1 _ (List.getElem_mem hlt)
      have Hadd : Hid (max n[k].1 lo < min (n[k].1 + n[k].2) (lo + len) → MeetAt n lo (lo + len) (k + 1) (ns ++ [(max n[k].1 lo, min (n[k].1 + n[k].2) (lo + len) - max n[k].1 lo)])) := H2.out.add H.out.1 H.out.2.1 hlt
      have Hskip : Hid (¬ max n[k].1 lo < min (n[k].1 + n[k].2) (lo + len) → MeetAt n lo (lo + len) (k + 1) ns) := H2.out.skip hlt
      clear hc H H2
      generalize n[k] = z at *
      have oz : z.1 ≤ M ∧ z.2 ≤ M := ⟨by omega, by omega⟩
      have bM : M = 1099511627776 := rfl
      go_wp2_with fail
      refine (at_any z _ oz.1).mono ?_
      rintro e w1 ⟨rfl, rfl⟩
      go_wp2_with fail
      refine (at_any _ _ l1).mono ?_
      rintro e w1 ⟨rfl, rfl⟩
      go_wp2_with fail
      refine (end_any z _ oz.1 oz.2).mono ?_
      rintro e w1 ⟨rfl, rfl⟩
      go_wp2_with fail
      refine (end_any _ _ l1 l2).mono ?_
      rintro e w1 ⟨rfl, rfl⟩
      by_cases h1 : max z.1 lo < min (z.1 + z.2) (lo + len)
      · have t1 : decide (max (z.1 : Int) (lo : Int) < min ((z.1 : Int) + (z.2 : Int)) ((lo : Int) + (len : Int))) = true := decide_eq_true (by omega)
        have E1 := Lib.hid (Hadd.out h1)
        have hb : ∀ w, Calls Tryz.prog 54 #[.int .i64 (max (z.1 : Int) (lo : Int)), .int .i64 (min ((z.1 : Int) + (z.2 : Int)) ((lo : Int) + (len : Int)))] w fun e w' => e = .returned (E (max z.1 lo, min (z.1 + z.2) (lo + len) - max z.1 lo)) ∧ w' = w := by
          intro w
          have := between_any (max z.1 lo) (min (z.1 + z.2) (lo + len)) w (by omega) (by omega)
          rwa [show ((max z.1 lo : Nat) : Int) = max (z.1 : Int) (lo : Int) by omega, show ((min (z.1 + z.2) (lo + len) : Nat) : Int) = min ((z.1 : Int) + (z.2 : Int)) ((lo : Int) + (len : Int)) by omega] at this
        generalize (max z.1 lo, min (z.1 + z.2) (lo + len) - max z.1 lo) = y at hb E1
        clear Hadd Hskip
        go_wp2_with fail
        refine (hb _).mono ?_
        rintro e w1 ⟨rfl, rfl⟩
        have hsz := hq.size
        have hsz2 := hqs.size
        obtain ⟨z1, z2, hE⟩ : ∃ a b, E y = .complex .f64 a b := ⟨_, _, rfl⟩
        rw [hE]
        go_wp2_with (at_builtin; refine wpList_append_own _ rfl (.tmp 36) (.tmp 40) 40 rfl ws.heap.size 57 i0 _ 1 16 Tryz.underlying40 hi0 hz0 hz1 hz2 rfl (by decide) _ ns.length _ rfl (hown.alloc _) ⟨_, 0, none⟩ 1 1 [.complex .f64 z1 z2] rfl rfl ?c1 ?c2 ?c3 ?c4 ?c5 ?_)
        case c1 => exact cell_one_new _ _ _
        case c2 => intro u hu; rw [List.mem_singleton.1 hu]; rfl
        case c3 => unfold maxLen; omega
        case c4 => omega
        case c5 => rw [World.size_alloc]; omega
        intro v2 w2 hown2 hg2 _
        have hq2 : Q ws w2 := Below.grown (hq.alloc _) hg2 (by rw [World.size_alloc]; omega) fun g hg => (hown.lt g hg).1
        rw [show ns.length + 1 = (ns ++ [y]).length from by simp, show ns.map E ++ [.complex .f64 z1 z2] = (ns ++ [y]).map E from by rw [← hE]; simp] at hown2
        have hl2 : (ns ++ [y]).length ≤ k + 1 := by simp; omega
        generalize ns ++ [y] = ns2 at hown2 E1 hl2
        clear hg2 hown hsz hsz2 hE hb t1
        go_wp2
        go_roundw
        case rel => exact ⟨k + 1, ns2, by go_num, by omega, hown2, hq2, hl2, E1⟩
        case measure => simp [intOf]; omega
      · have t1 : decide (max (z.1 : Int) (lo : Int) < min ((z.1 : Int) + (z.2 : Int)) ((lo : Int) + (len : Int))) = false := decide_eq_false (by omega)
        have E1 := Lib.hid (Hskip.out h1)
        clear Hadd Hskip
        go_wp2
        go_roundw
        case rel => exact ⟨k + 1, ns, by go_num, by omega, hown, hq, by omega, E1⟩
        case measure => simp [intOf]; omega
    · have E1 := Lib.hid (H2.out.done H.out hlt hk)
      go_wp2
      go_ret
      exact ⟨_, ns, rfl, World.ownsRow.mono hown hqs.size, hqs.trans hq, E1⟩
end Go.Proofs.YtheobpilmphdjaaGreat.Ex
