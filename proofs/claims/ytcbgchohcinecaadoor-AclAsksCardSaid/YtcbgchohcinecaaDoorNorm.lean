/-
  The contract of acl.Norm.
-/
import Derived.Test.YtcbgchohcinecaaDoorOwn
import Derived.Test.YtcbgchohcinecaaDoorLoops
import Derived.Test.YtcbgchohcinecaaDoorLaySort
import Derived.Lib.AppendIntMem
namespace Go.Proofs.YtcbgchohcinecaaDoor
open Go.RowKit Go.Sort

theorem lt_cmpA (x y : Ace) : ltOf cmpA x y = decide (ltA x y) := by
  unfold ltOf
  rw [decide_eq_decide]
  exact cmpA_lt x y
theorem swo_cmpA : Go.Sort.SWO (ltOf cmpA) where
  irrefl x := by rw [lt_cmpA]; simp [ltA]
  trans x y z h1 h2 := by rw [lt_cmpA] at *; simp only [decide_eq_true_eq] at *; exact ltA_trans h1 h2
  ntrans x y z h1 h2 := by rw [lt_cmpA] at *; simp only [decide_eq_false_iff_not] at *; unfold ltA at *; omega
theorem cmpLays (blk off size : Nat) (w : World) : CmpLays Tryd.prog 20 #[] cells3 3 cmpA blk off size w :=
  fun _ _ _ _ x y => compare_any x y _

set_option maxHeartbeats 1000000 in
theorem sortFunc_own (v : Value) (l : List Ace) (w w1 : World) (ho : OwnA w1 w.heap.size v l) (hl : l.length ≤ 100000) (hq : Q w w1) :
    Calls Tryd.prog 19 #[v, .func (.func 20) #[] #[]] w1 fun e w' => e = .returned (.tuple #[]) ∧ ∃ r : List Ace, AcesAt w' v r ∧ Q w w' ∧ Hid (r.Perm l ∧ r.Pairwise fun x y => ¬ ltA y x) := by
  by_cases h0 : l.length = 0
  · have e0 : l = [] := List.eq_nil_of_length_eq_zero h0
    subst e0
    obtain ⟨A, c, rfl⟩ := ho.form
    have hx := ho.aces
    have hcon := AnyF.slices_SortFunc_none (P := Tryd.prog) (ρ := YtcbgchohcinecaaDoor.sortLay_ren) YtcbgchohcinecaaDoor.sortLay A c (.func (.func 20) #[] #[]) w1
    refine Calls.mono (P := Tryd.prog) (f := 19) hcon ?_
    rintro e w' ⟨rfl, rfl⟩
    exact ⟨rfl, [], hx, hq, List.Perm.refl _, List.Pairwise.nil⟩
  · have hv : v ≠ .slice none 0 0 := by
      rintro rfl
      rcases ho.2 with ⟨_, h⟩ | ⟨g, cap, cur, e, _⟩
      · exact h0 h
      · cases e
    obtain ⟨g, cap, rfl, hb, hg, h1, h2, h4⟩ := holds_of_own ho hv
    have eg : ∀ args w, (callFunc 20 args).run Tryd.prog w = .ok (.enter 20 args) w := enters_of Tryd.func20 (by kernel_rfl) rfl
    have hcon := AnyQ.slices_SortFunc YtcbgchohcinecaaDoor.sortLay 3 Tryd.isAgg33 Tryd.sizeOf33 cells3 (fun _ => rfl) (fun x v hv => by simp only [cells3, List.mem_cons, List.not_mem_nil, or_false] at hv; rcases hv with rfl | rfl | rfl <;> rfl) cmpA swo_cmpA 20 #[] g 0 cap l.toArray w1 eg (cmpLays g 0 _ w1) h4 hg (by simp; omega)
    have hsz : l.toArray.size = l.length := by simp
    rw [hsz] at hcon
    refine Calls.mono (P := Tryd.prog) (f := 19) hcon ?_
    rintro e w' ⟨rfl, d', n, os, hp, hs, rfl⟩
    have hz : d'.size = l.length := by rw [hp.1, hsz]
    have hH := holdsK_sortWorldK cells3 3 w1 g 0 n l.toArray d' os hg h4 (by rw [hz, hsz])
    refine ⟨rfl, d'.toList, .inr ⟨g, 0, cap, by simp [hz], by rw [Array.length_toList, hz]; exact h1, h2, holds_aces hH⟩, ?_, ?_, ?_⟩
    · have a1 : Below w.heap.size w (putRow id (Sort.ahead w1 n) g 0 (flatK cells3 3 d')) := Lib.below_putRow hq hb
      have a2 := Go.Lib.below_grow w.heap.size (putRow id (Sort.ahead w1 n) g 0 (flatK cells3 3 d')) a1.size 0 os
      exact a1.trans a2
    · have h := hp.2.2
      have e1 : (d'.extract 0 l.length) = d' := by rw [← hz]; exact Array.extract_size
      have e2 : (l.toArray.extract 0 l.length) = l.toArray := by rw [← hsz]; exact Array.extract_size
      rw [e1, e2] at h
      exact h
    · rw [List.pairwise_iff_getElem]
      intro i j hi hj hij
      have := hs i j (by omega) hij (by simpa [hz] using hj)
      rw [lt_cmpA] at this
      have hi' : i < d'.size := by simpa using hi
      have hj' : j < d'.size := by simpa using hj
      rw [getElem!_pos d' i hi', getElem!_pos d' j hj'] at this
      have := of_decide_eq_false this
      simp only [Array.getElem_toList]
      exact this

def NormPost (l : List Ace) (w : World) (e : Ending) (w' : World) : Prop := ∃ v r, e = .returned (.tuple #[v, .int .i64 (normC l)]) ∧ AcesAt w' v r ∧ Q w w' ∧ NormR l r
theorem normC_arg {l : List Ace} (h : ¬ AllOk l) : normC l = 1 := if_pos h
theorem normC_exist {l : List Ace} (h : AllOk l) (h1 : ¬ Once l) : normC l = 6 := by unfold normC; rw [if_neg (by simpa using h), if_pos h1]
theorem normC_limit {l : List Ace} (h : AllOk l) (h1 : Once l) (h2 : 16 < l.length) : normC l = 13 := by unfold normC; rw [if_neg (by simpa using h), if_neg (by simpa using h1), if_pos h2]
theorem normC_none {l : List Ace} (h : AllOk l) (h1 : Once l) (h2 : ¬ 16 < l.length) (h3 : needsB l = true) : normC l = 7 := by unfold normC; rw [if_neg (by simpa using h), if_neg (by simpa using h1), if_neg h2, if_pos h3]
theorem normC_ok {l : List Ace} (h : AllOk l) (h1 : Once l) (h2 : ¬ 16 < l.length) (h3 : needsB l = false) : normC l = 0 := by unfold normC; rw [if_neg (by simpa using h), if_neg (by simpa using h1), if_neg h2, if_neg (by simp [h3])]
theorem post_err {l : List Ace} {w w' : World} {c : Int} (hc : normC l = c) (h0 : c ≠ 0) (hq : Q w w') : NormPost l w (.returned (.tuple #[.slice none 0 0, .int .i64 c])) w' :=
  ⟨_, [], by rw [hc], AcesAt.nil_ _, hq, normR_err (by rw [hc]; exact h0)⟩
theorem post_ok {l r : List Ace} {w w' : World} {v : Value} (hc : normC l = 0) (hv : AcesAt w' v r) (hq : Q w w') (hr : NormR l r) : NormPost l w (.returned (.tuple #[v, .int .i64 0])) w' :=
  ⟨v, r, by rw [hc], hv, hq, hr⟩

set_option maxHeartbeats 2000000 in
theorem norm_any (v : Value) (l : List Ace) (w : World) (h : AcesAt w v l) (hl : l.length ≤ 100000) :
    Calls Tryd.prog 8 #[v] w (NormPost l w) := by
  have HE := Lib.hid (fun w (h : AcesAt w v l) => entries_any v l w h)
  by_cases h1 : AllOk l
  · rw [decide_eq_true h1] at HE
    have H1 := Lib.hid h1
    have hb := Nat.le_refl w.heap.size
    clear h1
    go_enter Tryd.func8, Tryd.ntmps8
    go_wp2_with fail
    refine (HE.out _ h).mono ?_
    rintro e w1 ⟨rfl, q1⟩
    have hw1 := q1.q.size
    replace h := h.keep q1.q
    go_wp2_with (at_builtin; refine wpList_append_aces rfl (.const (.slice none 0 0)) (.tmp 8) rfl w.heap.size _ [] rfl (OwnA.nil_ _ _) v l rfl h (by simp; omega) hw1 ?_)
    intro v2 w2 hown2 hg2 _
    have hq2 : Q w w2 := Below.grown q1.q hg2 hw1 fun g hg => by cases hg
    clear hg2 hw1 hb HE h
    go_wp2_with fail
    refine (sortFunc_own v2 l w w2 hown2 hl hq2).mono ?_
    rintro e w3 ⟨rfl, r, hr, q3, Hp⟩
    clear hown2 hq2
    have HR := Lib.hid (rising_any v2 r w3 hr)
    have HO := Lib.hid (once_rise Hp.out.1 Hp.out.2)
    have Hlr := Lib.hid Hp.out.1.length_eq
    obtain ⟨A, c, rfl⟩ := hr.form
    by_cases h2 : Rise r
    · rw [decide_eq_true h2] at HR
      have H2 := Lib.hid h2
      clear h2
      go_wp2_with fail
      refine HR.out.mono ?_
      rintro e w4 ⟨rfl, q4⟩
      replace hr := hr.keep q4.q
      by_cases h3 : 16 < r.length
      · have t3 : decide ((16 : Int) < (r.length : Int)) = true := decide_eq_true (by omega)
        have E := Lib.hid (normC_limit H1.out (HO.out.1 H2.out) (by have := Hlr.out; omega))
        clear h3
        go_wp2
        go_ret2
        exact post_err E.out (by decide) (q3.trans q4.q)
      · have t3 : decide ((16 : Int) < (r.length : Int)) = false := decide_eq_false (by omega)
        have H3 := Lib.hid h3
        clear h3
        have HM := Lib.hid (masked_any _ r w4 hr)
        have HN := Lib.hid (show needsB l = !lastM r by rw [← needs_perm Hp.out.1]; exact lastM_eq ((allOk_perm Hp.out.1).2 H1.out) H2.out)
        cases hb : lastM r with
        | true =>
          rw [hb] at HM HN
          clear hb
          go_wp2_with fail
          refine HM.out.mono ?_
          rintro e w5 ⟨rfl, rfl⟩
          have E := Lib.hid (normC_ok H1.out (HO.out.1 H2.out) (by have := H3.out; have := Hlr.out; omega) HN.out)
          go_wp2
          go_ret2
          exact post_ok E.out hr (q3.trans q4.q) (normR_zero E.out Hp.out.1 H2.out)
        | false =>
          rw [hb] at HM HN
          clear hb
          go_wp2_with fail
          refine HM.out.mono ?_
          rintro e w5 ⟨rfl, rfl⟩
          have E := Lib.hid (normC_none H1.out (HO.out.1 H2.out) (by have := H3.out; have := Hlr.out; omega) HN.out)
          go_wp2
          go_ret2
          exact post_err E.out (by decide) (q3.trans q4.q)
    · rw [decide_eq_false h2] at HR
      have E := Lib.hid (normC_exist H1.out (fun k => h2 (HO.out.2 k)))
      clear h2
      go_wp2_with fail
      refine HR.out.mono ?_
      rintro e w4 ⟨rfl, q4⟩
      go_wp2
      go_ret2
      exact post_err E.out (by decide) (q3.trans q4.q)
  · rw [decide_eq_false h1] at HE
    have E := Lib.hid (normC_arg h1)
    clear h1
    go_enter Tryd.func8, Tryd.ntmps8
    go_wp2_with fail
    refine (HE.out _ h).mono ?_
    rintro e w1 ⟨rfl, q1⟩
    go_wp2
    go_ret2
    exact post_err E.out (by decide) q1.q
end Go.Proofs.YtcbgchohcinecaaDoor
