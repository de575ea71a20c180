/-
  The contract of extent.Norm.
-/
import Derived.Test.YtheobpilmphdjaaGreatESorted
import Derived.StillTailTactics
import Derived.Deep.Onto
import Derived.Laws.OwnMore
namespace Go.Proofs.YtheobpilmphdjaaGreat.Ex
open Go.RowKit
open Rng

def NormPost (d : List X) (w : World) (e : Ending) (w' : World) : Prop := ∃ v r, e = .returned v ∧ w'.ownsRow w.heap.size 57 1 v r.length (r.map E) ∧ Q w w' ∧ Hid (IsNorm d r)

/-- What holds of the merging's round, hidden. -/
structure Mid (d r : List X) (k : Nat) (out : List X) : Prop where
  ok : Ok d
  srt : Srt d r
  mrg : Mrg r k out
theorem Mid.new {d r out : List X} {k : Nat} (h : Mid d r k out) (hk : k < r.length) (hg : ∀ y ∈ out, y.1 + y.2 < r[k].1) : Mid d r (k + 1) (out ++ [r[k]]) :=
  ⟨h.ok, h.srt, h.mrg.new hk h.srt.pos (h.srt.upto h.ok) hg⟩
theorem Mid.join {d r o : List X} {y : X} {k : Nat} (h : Mid d r k (o ++ [y])) (hk : k < r.length) (hg : r[k].1 ≤ y.1 + y.2) : Mid d r (k + 1) (o ++ [(y.1, max (y.1 + y.2) (r[k].1 + r[k].2) - y.1)]) :=
  ⟨h.ok, h.srt, h.mrg.join hk (h.srt.upto h.ok) h.srt.2.2 hg⟩
theorem Mid.far {d r o : List X} {y : X} {k : Nat} (h : Mid d r k (o ++ [y])) (hk : k < r.length) (hg : ¬ r[k].1 ≤ y.1 + y.2) : Mid d r (k + 1) (o ++ [y] ++ [r[k]]) :=
  h.new hk (h.mrg.apart hk (by omega))
theorem Mid.done {d r out : List X} {k : Nat} (h : Mid d r k out) (hk : ¬ k < r.length) (hk' : k ≤ r.length) : IsNorm d out := by
  have : k = r.length := by omega
  subst this
  exact Mrg.done h.ok h.srt h.mrg

theorem append_ext (r : List X) (z : X) : (r ++ [z]).map E = r.map E ++ [E z] := by simp

set_option maxRecDepth 100000 in
set_option maxHeartbeats 4000000 in
theorem norm_any (v : Value) (l : List X) (w : World) (h : ExtsAt w v l) (hl : Ok l) (h9 : l.length ≤ 100000) :
    Calls Tryz.prog 28 #[v] w (NormPost l w) := by
  obtain ⟨i0, hi0, hz0, hz1, hz2⟩ := info_parts info_ext
  have hs := sorted_any v l w h hl h9
  obtain ⟨A, c, rfl⟩ := h.form
  go_enter Tryz.func28, Tryz.ntmps28
  go_wp2_with fail
  refine hs.mono ?_
  rintro e ws ⟨vs, r, rfl, hx, hqs, H⟩
  have hrl : r.length ≤ 100000 := by have := H.out.2.1; have := shut_len l; omega
  have H0 : Hid (Mid l r 0 []) := ⟨hl, H.out, Mrg.start r⟩
  obtain ⟨R, cr, rfl⟩ := hx.form
  have hr0 : Hid (Upto M r) := H.out.upto hl
  clear h hs H
  go_wp2
  go_loopw [3, 5, 6, 10] (fun o _ _ i wr => ∃ (k : Nat) (ns : List X), i = .int .i64 k ∧ k ≤ r.length ∧ wr.ownsRow ws.heap.size 57 1 o ns.length (ns.map E) ∧ Q ws wr ∧ ns.length ≤ k ∧ Hid (Mid l r k ns)) (fun _ _ _ i _ => r.length - (intOf i).toNat)
  case atStart => exact ⟨0, [], rfl, by omega, World.ownsRow_nil _ _ _ _, Q.refl _, by simp, H0⟩
  case round =>
    obtain ⟨k, ns, rfl, hk, hown, hq, hn, H⟩ := hrel
    obtain ⟨B, cb, rfl⟩ := own_form hown
    by_cases hlt : k < r.length
    · obtain ⟨g, og, _, ea, _, _, hc⟩ := (hx.keep hq).at_ (by omega)
      cases ea
      have c1 := hc k hlt
      have hu := hr0.out _ (List.getElem_mem hlt)
      have Hnew : Hid ((∀ y ∈ ns, y.1 + y.2 < r[k].1) → Mid l r (k + 1) (ns ++ [r[k]])) := H.out.new hlt
      have Hjoin : Hid (∀ o y, ns = o ++ [y] → r[k].1 ≤ y.1 + y.2 → Mid l r (k + 1) (o ++ [(y.1, max (y.1 + y.2) (r[k].1 + r[k].2) - y.1)])) := by
        rintro o y rfl h
        exact H.out.join hlt h
      have Hfar : Hid (∀ o y, ns = o ++ [y] → ¬ r[k].1 ≤ y.1 + y.2 → Mid l r (k + 1) (ns ++ [r[k]])) := by
        rintro o y rfl h
        exact H.out.far hlt h
      have hun : Hid (Upto M ns) := H.out.mrg.2.1
      clear hc H hr0 H0
      generalize r[k] = z at *
      have oz : z.1 ≤ M ∧ z.2 ≤ M := ⟨by omega, by omega⟩
      by_cases h0 : ns.length = 0
      · have E1 : Hid (Mid l r (k + 1) (ns ++ [z])) := Hnew.out (by rw [List.eq_nil_of_length_eq_zero h0]; intro y hy; cases hy)
        have t0 : decide ((0 : Int) < (ns.length : Int)) = false := decide_eq_false (by omega)
        have t0' : ¬ 0 < ns.length := by omega
        clear Hnew Hjoin Hfar hun
        obtain rfl : ns = [] := List.eq_nil_of_length_eq_zero h0
        go_wp2_with fail
        go_quiet (fail)
        replace hown : (wr.drewN nq).ownsRow ws.heap.size 57 1 (.slice B 0 cb) 0 (([] : List X).map E) := hown
        have hsz := (hq.drewN nq).size
        have hsz2 := hqs.size
        obtain ⟨z1, z2, hE⟩ : ∃ a b, E z = .complex .f64 a b := ⟨_, _, rfl⟩
        rw [hE]
        go_wp2_with (at_builtin; refine wpList_append_own _ rfl (.tmp 49) (.tmp 51) 40 rfl ws.heap.size 57 i0 _ 1 16 Tryz.underlying40 hi0 hz0 hz1 hz2 rfl (by decide) _ 0 _ rfl (hown.alloc _) ⟨_, 0, none⟩ 1 1 [.complex .f64 z1 z2] rfl rfl ?c1 ?c2 ?c3 ?c4 ?c5 ?_)
        case c1 => exact cell_one_new _ _ _
        case c2 => intro u hu; rw [List.mem_singleton.1 hu]; rfl
        case c3 => unfold maxLen; omega
        case c4 => omega
        case c5 => rw [World.size_alloc]; omega
        intro v2 w2 hown2 hg2 _
        have hq2 : Q ws w2 := Below.grown ((hq.drewN nq).alloc _) hg2 (by rw [World.size_alloc]; omega) fun g hg => (hown.lt g hg).1
        replace hown2 : w2.ownsRow ws.heap.size 57 1 v2 ([] ++ [z] : List X).length (([] ++ [z] : List X).map E) := by
          rw [← hE] at hown2
          exact hown2
        have hl2 : ([] ++ [z] : List X).length ≤ k + 1 := by simp
        generalize ([] ++ [z] : List X) = ns2 at hown2 E1 hl2
        clear hg2 hown hsz hsz2 hE
        go_wp2
        go_roundw
        case rel => exact ⟨k + 1, ns2, by go_num, by omega, hown2, hq2, hl2, E1⟩
        case measure => simp [intOf]; omega
      · obtain ⟨o, y, ho, hol⟩ := last_form (show 0 < ns.length by omega)
        have huy : y.1 + y.2 ≤ M := hun.out y (by rw [ho]; simp)
        have oy : y.1 ≤ M ∧ y.2 ≤ M := ⟨by omega, by omega⟩
        obtain ⟨m, hm⟩ : ∃ m, ns.length = m + 1 := ⟨ns.length - 1, by omega⟩
        have hom : o.length = m := by omega
        obtain ⟨g2, cap2, hB⟩ : ∃ g cap, (Value.slice B ns.length cb) = .slice (some ⟨g, 0, none⟩) ns.length cap := by
          rcases hown.2 with ⟨e, hn0⟩ | ⟨g, cap, cur, e, _⟩
          · omega
          · exact ⟨g, cap, e⟩
        cases hB
        have c2 : wr.cell? ⟨g2, m, none⟩ = some (E y) := by
          rw [hown.cellAt m (by omega), List.getElem?_map, ho, List.getElem?_append_right (by omega)]
          simp [hom]
        have fr : wr.frozen? ⟨g2, m, none⟩ = false := hown.frozenAt m
        rw [hm] at hown ⊢
        have wr1 : IntKind.i64.wrap (m : Int) = m := IntWalk.i64_in _ (by unfold M at *; omega)
        by_cases hle : z.1 ≤ y.1 + y.2
        · have t1 : decide ((z.1 : Int) ≤ (y.1 : Int) + (y.2 : Int)) = true := decide_eq_true (by omega)
          go_wp2_with fail
          go_quiet (first | ((go_at_call 52; exact Calls.quiet_of_same (at_any z _ oz.1))) | ((go_at_call 53; exact Calls.quiet_of_same (end_any y _ oy.1 oy.2))))
          have hb : ∀ w, Calls Tryz.prog 54 #[.int .i64 y.1, .int .i64 (max ((y.1 : Int) + (y.2 : Int)) ((z.1 : Int) + (z.2 : Int)))] w fun e w' => e = .returned (E (y.1, max (y.1 + y.2) (z.1 + z.2) - y.1)) ∧ w' = w := by
            intro w
            have := between_any y.1 (max (y.1 + y.2) (z.1 + z.2)) w (by omega) (by omega)
            rwa [show ((max (y.1 + y.2) (z.1 + z.2) : Nat) : Int) = max ((y.1 : Int) + (y.2 : Int)) ((z.1 : Int) + (z.2 : Int)) by omega] at this
          go_wp2_with fail
          have E1 : Hid (Mid l r (k + 1) (o ++ [(y.1, max (y.1 + y.2) (z.1 + z.2) - y.1)])) := Hjoin.out o y ho hle
          have hl3 : (o ++ [(y.1, max (y.1 + y.2) (z.1 + z.2) - y.1)]).length ≤ k + 1 := by simp; omega
          obtain ⟨e1, e2, hE⟩ : ∃ a b, E (y.1, max (y.1 + y.2) (z.1 + z.2) - y.1) = .complex .f64 a b := ⟨_, _, rfl⟩
          rw [hE] at hb
          generalize hw1 : wr.drewN nq = w1
          have hst : (w1.drew.setCell ⟨g2, m, none⟩ (.complex .f64 e1 e2)).ownsRow ws.heap.size 57 1 (.slice (some ⟨g2, 0, none⟩) (m + 1) cb) (m + 1) ((ns.map E).set m (.complex .f64 e1 e2)) ∧ Q ws (w1.drew.setCell ⟨g2, m, none⟩ (.complex .f64 e1 e2)) := by
            rw [← hw1]
            have a1 : (wr.drewN nq).drew.ownsRow ws.heap.size 57 1 (.slice (some ⟨g2, 0, none⟩) (m + 1) cb) (m + 1) (ns.map E) := hown
            have a2 := a1.stored m (.complex .f64 e1 e2)
            exact ⟨a2.1, Below.grown (hq.drewN nq).drew a2.2 (hq.drewN nq).drew.size fun j hj => (hown.lt j (by cases hj; rfl)).1⟩
          rw [ho, List.map_append, List.set_append_right _ _ (by simp [hom]), ← hE, List.length_map, hom, Nat.sub_self] at hst
          obtain ⟨hown3, hq3⟩ := hst
          rw [show (o.map E ++ (List.map E [y]).set 0 (E (y.1, max (y.1 + y.2) (z.1 + z.2) - y.1))) = (o ++ [(y.1, max (y.1 + y.2) (z.1 + z.2) - y.1)]).map E from by simp] at hown3
          have hl4 : (o ++ [(y.1, max (y.1 + y.2) (z.1 + z.2) - y.1)]).length = m + 1 := by simp [hom]
          rw [hE] at hown3 hq3
          have c1' : w1.drew.cell? ⟨g, og + k, none⟩ = some (E z) := by rw [← hw1]; exact c1
          have c2' : w1.drew.cell? ⟨g2, m, none⟩ = some (E y) := by rw [← hw1]; exact c2
          have fr' : w1.drew.frozen? ⟨g2, m, none⟩ = false := by rw [← hw1]; exact fr
          have wr2 : IntKind.i64.wrap ((m : Int) + 1 - 1) = m := by rw [Int.add_sub_cancel]; exact wr1
          have lt2 : (m : Int) < (m : Int) + 1 := by omega
          have nn2 : (0 : Int) ≤ (m : Int) := by omega
          refine wp_region_still_tail 20 (by kernel_rfl) (by kernel_rfl) ?_
          simp only [List.take_succ_cons, List.take_zero, List.drop_succ_cons, List.drop_zero]
          change wpStill _ _ w1.drew (fun a' => wpList _ _ _ _ a' w1.drew) _ _
          generalize w1.drew = w2 at *
          repeat still_step
          still_call (at_any y _ oy.1)
          repeat still_step
          still_call (end_any y _ oy.1 oy.2)
          repeat still_step
          still_call (end_any z _ oz.1 oz.2)
          repeat still_step
          still_call (hb _)
          repeat still_step
          refine wpStill_nil ?_
          clear wr1 wr2 lt2 nn2 hb
          have hsto : ∀ a m w, Sem.run Tryz.prog (store a (.complex .f64 e1 e2) m) w = stored Tryz.prog w a (.complex .f64 e1 e2) m := fun a m w => run_store Tryz.prog w a _ m rfl
          go_wp2
          go_roundw
          case rel => exact ⟨k + 1, o ++ [(y.1, max (y.1 + y.2) (z.1 + z.2) - y.1)], by go_num, by omega, by rw [hl4]; exact hown3, hq3, hl3, E1⟩
          case measure => simp [intOf]; omega
        · have t1 : decide ((z.1 : Int) ≤ (y.1 : Int) + (y.2 : Int)) = false := decide_eq_false (by omega)
          have E1 : Hid (Mid l r (k + 1) (ns ++ [z])) := Hfar.out o y ho hle
          clear Hnew Hjoin Hfar hun
          go_wp2_with fail
          go_quiet (first | ((go_at_call 52; exact Calls.quiet_of_same (at_any z _ oz.1))) | ((go_at_call 53; exact Calls.quiet_of_same (end_any y _ oy.1 oy.2))))
          clear wr1 c1 c2 fr ho hol
          replace hown : (wr.drewN nq).ownsRow ws.heap.size 57 1 (.slice (some ⟨g2, 0, none⟩) (m + 1) cb) (m + 1) (ns.map E) := hown
          have hsz := (hq.drewN nq).size
          have hsz2 := hqs.size
          obtain ⟨z1, z2, hE⟩ : ∃ a b, E z = .complex .f64 a b := ⟨_, _, rfl⟩
          rw [hE]
          go_wp2_with (at_builtin; refine wpList_append_own _ rfl (.tmp 49) (.tmp 51) 40 rfl ws.heap.size 57 i0 _ 1 16 Tryz.underlying40 hi0 hz0 hz1 hz2 rfl (by decide) _ (m + 1) _ rfl (hown.alloc _) ⟨_, 0, none⟩ 1 1 [.complex .f64 z1 z2] rfl rfl ?c1 ?c2 ?c3 ?c4 ?c5 ?_)
          case c1 => exact cell_one_new _ _ _
          case c2 => intro u hu; rw [List.mem_singleton.1 hu]; rfl
          case c3 => unfold maxLen; omega
          case c4 => omega
          case c5 => rw [World.size_alloc]; omega
          intro v2 w2 hown2 hg2 _
          have hq2 : Q ws w2 := Below.grown ((hq.drewN nq).alloc _) hg2 (by rw [World.size_alloc]; omega) fun g hg => (hown.lt g hg).1
          rw [show (m + 1) + 1 = (ns ++ [z]).length from by simp; omega, show ns.map E ++ [.complex .f64 z1 z2] = (ns ++ [z]).map E from by rw [← hE]; simp] at hown2
          have hl2 : (ns ++ [z]).length ≤ k + 1 := by simp; omega
          generalize ns ++ [z] = ns2 at hown2 E1 hl2
          clear hg2 hown hsz hsz2 hE
          go_wp2
          go_roundw
          case rel => exact ⟨k + 1, ns2, by go_num, by omega, hown2, hq2, hl2, E1⟩
          case measure => simp [intOf]; omega
    · have E1 := Lib.hid (H.out.done hlt hk)
      go_wp2
      go_ret
      exact ⟨_, ns, rfl, World.ownsRow.mono hown hqs.size, hqs.trans hq, E1⟩
end Go.Proofs.YtheobpilmphdjaaGreat.Ex
