/-
  The contract of meta.Norm.
-/
import Derived.Test.YtidpcoolfomgjaaFns
import Derived.Test.YtidpcoolfomgjaaLaySort
import Derived.Lib.AppendIntMem
namespace Go.Proofs.Ytidpcoolfomgjaa
open Go.RowKit Go.Sort

/-! ### The words of the sort -/
theorem flatKT_at (d : Array Attr) (i c : Nat) (hi : i < d.size) (hc : c < 2) : (flatK cellsT 2 d)[i * 2 + c]! = (cellsT d[i])[c]! := by
  rw [get_flatK cellsT 2 d (i * 2 + c) (by omega)]
  rw [show (i * 2 + c) / 2 = i by omega, show (i * 2 + c) % 2 = c by omega, getElem!_pos d i hi]
theorem holds_ats {w : World} {g : Nat} {d : Array Attr} (h : HoldsK cellsT 2 w g 0 d) : ∀ i (hi : i < d.toList.length) c u, (cellsT d.toList[i])[c]? = some u → w.cell? ⟨g, 0 + i * 2 + c, none⟩ = some u := by
  intro i hi c u hu
  have hi' : i < d.size := by simpa using hi
  have hc : c < 2 := by
    rcases Nat.lt_or_ge c 2 with h | h
    · exact h
    · rw [List.getElem?_eq_none (by simp [cellsT]; exact h)] at hu; cases hu
  have hz : (flatK cellsT 2 d).size = d.size * 2 := size_flatK cellsT 2 d
  have a0 := (h (i * 2 + c) (by omega)).1
  rw [flatKT_at d i c hi' hc] at a0
  simp only [Nat.zero_add] at a0 ⊢
  rw [a0]
  simp only [Array.getElem_toList] at hu
  rw [id_eq, getElem!_pos (cellsT d[i]) c (by simp [cellsT]; exact hc)]
  rw [List.getElem?_eq_getElem (by simp [cellsT]; exact hc)] at hu
  exact hu
theorem holds_of_ownT {w : World} {B : Nat} {v : Value} {l : List Attr} (h : OwnT w B v l) (hv : v ≠ .slice none 0 0) :
    ∃ g cap, v = .slice (some ⟨g, 0, none⟩) l.length cap ∧ B ≤ g ∧ g < w.heap.size ∧ l.length ≤ cap ∧ cap ≤ maxLen ∧ HoldsK cellsT 2 w g 0 l.toArray := by
  rcases h.2 with ⟨e0, _⟩ | ⟨g, cap, cur, rfl, hb, hg, hn, hm, hs, ht⟩
  · exact absurd e0 hv
  · have hlt : g < w.heap.size := by
      rcases Nat.lt_or_ge g w.heap.size with h' | h'
      · exact h'
      · rw [Array.getElem?_eq_none h'] at hg; cases hg
    refine ⟨g, cap, rfl, hb, hlt, hn, hm, fun j hj => ?_⟩
    have hj' : j < l.length * 2 := by rw [size_flatK] at hj; simpa using hj
    refine ⟨?_, by simp [World.frozen?, hg]⟩
    have hc := World.ownsRow.cells h (g := g) rfl j
    have hi : j / 2 < l.length := by omega
    have hjd : j = j / 2 * 2 + j % 2 := by omega
    have e1 : (flatR cellsT l)[j]? = (cellsT l[j / 2])[j % 2]? := by
      conv => lhs; rw [hjd]
      exact flatR_at flatT l (j / 2) (j % 2) hi (by omega)
    have e2 : (flatK cellsT 2 l.toArray)[j]! = (cellsT l[j / 2])[j % 2]! := by
      conv => lhs; rw [hjd]
      rw [flatKT_at l.toArray (j / 2) (j % 2) (by simpa using hi) (by omega)]
      rfl
    have h3 : j % 2 < (cellsT l[j / 2]).length := by simp [cellsT]; omega
    have := hc ((cellsT l[j / 2])[j % 2]) (by rw [e1, List.getElem?_eq_getElem h3])
    rw [Addr.add_lit] at this
    rw [this, e2, id_eq, getElem!_pos (cellsT l[j / 2]) (j % 2) h3]
theorem lt_cmpT (x y : Attr) : ltOf cmpT x y = decide (ltT x y) := by
  unfold ltOf
  rw [decide_eq_decide]
  exact cmpT_lt x y
theorem swo_cmpT : Go.Sort.SWO (ltOf cmpT) where
  irrefl x := by rw [lt_cmpT]; simp [ltT_irrefl]
  trans x y z h1 h2 := by rw [lt_cmpT] at *; simp only [decide_eq_true_eq] at *; exact ltT_trans h1 h2
  ntrans x y z h1 h2 := by rw [lt_cmpT] at *; simp only [decide_eq_false_iff_not] at *; exact ltT_ntrans h1 h2
theorem cmpLaysT (blk off size : Nat) (w : World) : CmpLays Try.prog 20 #[] cellsT 2 cmpT blk off size w :=
  fun _ _ _ _ x y => compareT_any x y _

set_option maxHeartbeats 1000000 in
theorem sortT_own (v : Value) (l : List Attr) (w w1 : World) (ho : OwnT w1 w.heap.size v l) (hl : l.length ≤ 100000) (hq : Q w w1) :
    Calls Try.prog 19 #[v, .func (.func 20) #[] #[]] w1 fun e w' => e = .returned (.tuple #[]) ∧ ∃ r : List Attr, AtsAt w' v r ∧ Q w w' ∧ Hid (r.Perm l ∧ r.Pairwise fun x y => ¬ ltT y x) := by
  by_cases h0 : l.length = 0
  · have e0 : l = [] := List.eq_nil_of_length_eq_zero h0
    subst e0
    obtain ⟨A, c, rfl⟩ := ho.form flatT
    have hx := ho.row flatT
    have hcon := AnyF.slices_SortFunc_none (P := Try.prog) (ρ := Ytidpcoolfomgjaa.sortLay_ren) Ytidpcoolfomgjaa.sortLay A c (.func (.func 20) #[] #[]) w1
    refine Calls.mono (P := Try.prog) (f := 19) hcon ?_
    rintro e w' ⟨rfl, rfl⟩
    exact ⟨rfl, [], hx, hq, List.Perm.refl _, List.Pairwise.nil⟩
  · have hv : v ≠ .slice none 0 0 := by
      rintro rfl
      rcases ho.2 with ⟨_, h⟩ | ⟨g, cap, cur, e, _⟩
      · exact h0 h
      · cases e
    obtain ⟨g, cap, rfl, hb, hg, h1, h2, h4⟩ := holds_of_ownT ho hv
    have eg : ∀ args w, (callFunc 20 args).run Try.prog w = .ok (.enter 20 args) w := enters_of Try.func20 (by kernel_rfl) rfl
    have hcon := AnyQ.slices_SortFunc Ytidpcoolfomgjaa.sortLay 2 Try.isAgg36 Try.sizeOf36 cellsT (fun _ => rfl) (fun x v hv => flatT.one x v hv) cmpT swo_cmpT 20 #[] g 0 cap l.toArray w1 eg (cmpLaysT g 0 _ w1) h4 hg (by simp; omega)
    have hsz : l.toArray.size = l.length := by simp
    rw [hsz] at hcon
    refine Calls.mono (P := Try.prog) (f := 19) hcon ?_
    rintro e w' ⟨rfl, d', n, os, hp, hs, rfl⟩
    have hz : d'.size = l.length := by rw [hp.1, hsz]
    have hH := holdsK_sortWorldK cellsT 2 w1 g 0 n l.toArray d' os hg h4 (by rw [hz, hsz])
    refine ⟨rfl, d'.toList, .inr ⟨g, 0, cap, by simp [hz], by rw [Array.length_toList, hz]; exact h1, h2, holds_ats hH⟩, ?_, ?_, ?_⟩
    · have a1 : Below w.heap.size w (putRow id (Sort.ahead w1 n) g 0 (flatK cellsT 2 d')) := Lib.below_putRow hq hb
      have a2 := Go.Lib.below_grow w.heap.size (putRow id (Sort.ahead w1 n) g 0 (flatK cellsT 2 d')) a1.size 0 os
      exact a1.trans a2
    · have h := hp.2.2
      have e1 : (d'.extract 0 l.length) = d' := by rw [← hz]; exact Array.extract_size
      have e2 : (l.toArray.extract 0 l.length) = l.toArray := by rw [← hsz]; exact Array.extract_size
      rw [e1, e2] at h
      exact h
    · rw [List.pairwise_iff_getElem]
      intro i j hi hj hij
      have := hs i j (by omega) hij (by simpa [hz] using hj)
      rw [lt_cmpT] at this
      have hi' : i < d'.size := by simpa using hi
      have hj' : j < d'.size := by simpa using hj
      rw [getElem!_pos d' i hi', getElem!_pos d' j hj'] at this
      have := of_decide_eq_false this
      simp only [Array.getElem_toList]
      exact this

def NormPostT (l : List Attr) (w : World) (e : Ending) (w' : World) : Prop := ∃ v r, e = .returned (.tuple #[v, .int .i64 (normCT l)]) ∧ AtsAt w' v r ∧ Q w w' ∧ NormRT l r
theorem postT_err {l : List Attr} {w w' : World} {c : Int} (hc : normCT l = c) (h0 : c ≠ 0) (hq : Q w w') : NormPostT l w (.returned (.tuple #[.slice none 0 0, .int .i64 c])) w' :=
  ⟨_, [], by rw [hc], RowAt.nil_ _, hq, normRT_err (by rw [hc]; exact h0)⟩
theorem postT_ok {l r : List Attr} {w w' : World} {v : Value} (hc : normCT l = 0) (hv : AtsAt w' v r) (hq : Q w w') (hr : NormRT l r) : NormPostT l w (.returned (.tuple #[v, .int .i64 0])) w' :=
  ⟨v, r, by rw [hc], hv, hq, hr⟩

set_option maxHeartbeats 2000000 in
theorem normT_any (v : Value) (l : List Attr) (w : World) (h : AtsAt w v l) (hl : l.length ≤ 100000) :
    Calls Try.prog 9 #[v] w (NormPostT l w) := by
  have HE := Lib.hid (fun w (h : AtsAt w v l) => attrs_any v l w h)
  by_cases h1 : AllOkT l
  · rw [decide_eq_true h1] at HE
    have H1 := Lib.hid h1
    have hb := Nat.le_refl w.heap.size
    clear h1
    go_enter Try.func9, Try.ntmps9
    go_wp2_with fail
    refine (HE.out _ h).mono ?_
    rintro e w1 ⟨rfl, q1⟩
    have hw1 := q1.q.size
    replace h := h.keep q1.q
    go_wp2_with (at_builtin; refine wpList_append_ats rfl (.const (.slice none 0 0)) (.tmp 8) rfl w.heap.size _ [] rfl (OwnR.nil_ _ _ _) v l rfl h (by simp; omega) hw1 ?_)
    intro v2 w2 hown2 hg2 _
    have hq2 : Q w w2 := Below.grown q1.q hg2 hw1 fun g hg => by cases hg
    clear hg2 hw1 hb HE h
    go_wp2_with fail
    refine (sortT_own v2 l w w2 hown2 hl hq2).mono ?_
    rintro e w3 ⟨rfl, r, hr, q3, Hp⟩
    clear hown2 hq2
    have HR := Lib.hid (risingT_any v2 r w3 hr)
    have HO := Lib.hid (onceT_rise Hp.out.1 Hp.out.2)
    have Hlr := Lib.hid Hp.out.1.length_eq
    obtain ⟨A, c, rfl⟩ := hr.form
    by_cases h2 : RiseT r
    · rw [decide_eq_true h2] at HR
      have H2 := Lib.hid h2
      clear h2
      go_wp2_with fail
      refine HR.out.mono ?_
      rintro e w4 ⟨rfl, q4⟩
      replace hr := hr.keep q4.q
      by_cases h3 : 8 < r.length
      · have t3 : decide ((8 : Int) < (r.length : Int)) = true := decide_eq_true (by omega)
        have E := Lib.hid (normCT_limit H1.out (HO.out.1 H2.out) (by have := Hlr.out; omega))
        clear h3
        go_wp2
        go_ret2
        exact postT_err E.out (by decide) (q3.trans q4.q)
      · have t3 : decide ((8 : Int) < (r.length : Int)) = false := decide_eq_false (by omega)
        have E := Lib.hid (normCT_ok H1.out (HO.out.1 H2.out) (by have := Hlr.out; omega))
        clear h3
        go_wp2
        go_ret2
        exact postT_ok E.out hr (q3.trans q4.q) (normRT_zero E.out Hp.out.1 H2.out)
    · rw [decide_eq_false h2] at HR
      have E := Lib.hid (normCT_exist H1.out (fun k => h2 (HO.out.2 k)))
      clear h2
      go_wp2_with fail
      refine HR.out.mono ?_
      rintro e w4 ⟨rfl, q4⟩
      go_wp2
      go_ret2
      exact postT_err E.out (by decide) (q3.trans q4.q)
  · rw [decide_eq_false h1] at HE
    have E := Lib.hid (normCT_arg h1)
    clear h1
    go_enter Try.func9, Try.ntmps9
    go_wp2_with fail
    refine (HE.out _ h).mono ?_
    rintro e w1 ⟨rfl, q1⟩
    go_wp2
    go_ret2
    exact postT_err E.out (by decide) q1.q
end Go.Proofs.Ytidpcoolfomgjaa
