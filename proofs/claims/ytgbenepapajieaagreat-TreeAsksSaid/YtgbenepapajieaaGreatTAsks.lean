/-
  The walk of TreeAsks.
-/
import Derived.Test.YtgbenepapajieaaGreatTRefS
import Derived.Test.YtgbenepapajieaaGreatTFew
import Derived.Test.YtgbenepapajieaaGreatTRefK
import Derived.Test.YtgbenepapajieaaGreatTTold
import Derived.Test.YtgbenepapajieaaGreatTRef
import Derived.Test.YtgbenepapajieaaGreatTRefO
import Derived.Test.YtgbenepapajieaaGreatTMay
import Derived.Test.YtgbenepapajieaaGreatPRef3
namespace Go.Proofs.YtgbenepapajieaaGreat.Tr.As
open Go.RowKit
open Go.Proofs.YtgbenepapajieaaGreat.Nd (Nd mayN sumP nodeV NodeAt PcsAt)
open Go.Proofs.YtgbenepapajieaaGreat.Pa (lessB parentB hasParentB lastB underB joinB)

theorem keepT {w w' : World} {v : Value} {ls : List ByteArray} (h : Pa.StrsAt w v ls) (q : Q w w') : Pa.StrsAt w' v ls := by
  rcases h with h | ⟨g, cap, e, h1, h2, h3⟩
  · exact .inl h
  · exact .inr ⟨g, cap, e, h1, h2, fun i hi => q.cell (h3 i hi)⟩
theorem treeAt_form {w : World} {v : Value} {t : Tree} (h : TreeAt w v t) : ∃ A c B d, v = .agg #[.slice A t.1.length c, .slice B t.2.length d] := by
  obtain ⟨ve, vn, rfl, h1, h2⟩ := h
  obtain ⟨A, c, rfl⟩ := h1.form
  obtain ⟨B, d, rfl⟩ := h2.form
  exact ⟨A, c, B, d, rfl⟩
set_option maxRecDepth 100000 in
set_option maxHeartbeats 8000000 in
theorem walk (v0 v1 : Value) (t u : Tree) (p : ByteArray) (v3 : Value) (tops : List ByteArray) (w : World) (h0 : TreeAt w v0 t) (h1 : TreeAt w v1 u) (hp : p.size ≤ maxLen) (h3 : RowAt cellsS 1 w v3 tops) :
    Calls Tryz.prog 3 #[v0, v1, .string p, v3] w fun e w' => e = .returned (.bool true) ∧ Q w w' := by
  have mixed : Tryz.prog.follows .mixedOrders = true := by kernel_rfl
  have HF0 : Hid (∀ w', Q w w' → Calls Tryz.prog 9 #[v0] w' fun e w'' => e = .returned (.bool (fewT t)) ∧ Q w' w'') := fun w' q => few_any v0 t w' (h0.keep q)
  have HF1 : Hid (∀ w', Q w w' → Calls Tryz.prog 9 #[v1] w' fun e w'' => e = .returned (.bool (fewT u)) ∧ Q w' w'') := fun w' q => few_any v1 u w' (h1.keep q)
  have HT0 : Hid (∀ w', Q w w' → TreeAt w' v0 t) := fun w' q => h0.keep q
  have HT1 : Hid (∀ w', Q w w' → TreeAt w' v1 u) := fun w' q => h1.keep q
  have HS : Hid (∀ w', Q w w' → RowAt cellsS 1 w' v3 tops) := fun w' q => h3.keep q
  have HTold := Lib.hid told_any
  have FT : Hid (fewT t = true → Fits t) := fewT_fits
  have FU : Hid (fewT u = true → Fits u) := fewT_fits
  unfold maxLen at hp
  obtain ⟨A, c, B, d, rfl⟩ := treeAt_form h0
  obtain ⟨A', c', B', d', rfl⟩ := treeAt_form h1
  have hl3 := h3.len
  unfold maxLen at hl3
  obtain ⟨S, cS, rfl⟩ := h3.form
  clear h0 h1 h3
  generalize hn1 : t.1.length = n1 at *
  generalize hn2 : t.2.length = n2 at *
  generalize hn3 : u.1.length = n3 at *
  generalize hn4 : u.2.length = n4 at *
  clear hn1 hn2 hn3 hn4
  have x1 := BoxT.new w (.slice A n1 c) (.slice B n2 d)
  have y1 := BoxT.new (w.alloc (.cells #[.slice A n1 c, .slice B n2 d] 25)) (.slice A' n3 c') (.slice B' n4 d')
  rw [World.size_alloc] at y1
  replace x1 := x1.keep ((Q.refl _).alloc (.cells #[.slice A' n3 c', .slice B' n4 d'] 25))
  have q1 : Q w ((w.alloc (.cells #[.slice A n1 c, .slice B n2 d] 25)).alloc (.cells #[.slice A' n3 c', .slice B' n4 d'] 25)) := ((Q.refl w).alloc _).alloc _
  obtain ⟨b0, b1⟩ := x1.cells
  obtain ⟨e0, e1⟩ := y1.cells
  have hlx := x1.lt
  have hly := y1.lt
  cases hb0 : fewT t
  · rw [hb0] at HF0
    go_enter Tryz.func3, Tryz.ntmps3
    go_wp2_with fail
    refine (HF0.out _ q1).mono ?_
    rintro e w2 ⟨rfl, q2⟩
    go_wp2_with fail
    refine (HTold.out _).mono ?_
    rintro e w3 ⟨rfl, q3⟩
    go_wp2
    go_ret
    exact ⟨rfl, (q1.trans q2).trans q3⟩
  rw [hb0] at HF0
  have fT := Lib.hid (FT.out hb0)
  cases hb1 : fewT u
  · rw [hb1] at HF1
    go_enter Tryz.func3, Tryz.ntmps3
    go_wp2_with fail
    refine (HF0.out _ q1).mono ?_
    rintro e w2 ⟨rfl, q2⟩
    have e0' := q2.cell e0
    have e1' := q2.cell e1
    go_wp2_with fail
    refine (HF1.out _ (q1.trans q2)).mono ?_
    rintro e w3 ⟨rfl, q3⟩
    go_wp2_with fail
    refine (HTold.out _).mono ?_
    rintro e w4 ⟨rfl, q4⟩
    go_wp2
    go_ret
    exact ⟨rfl, ((q1.trans q2).trans q3).trans q4⟩
  rw [hb1] at HF1
  have fU := Lib.hid (FU.out hb1)
  clear FT FU hb0 hb1
  by_cases hps : 120 < p.size
  · have t1 : decide ((120 : Int) < (p.size : Int)) = true := decide_eq_true (by omega)
    go_enter Tryz.func3, Tryz.ntmps3
    go_wp2_with fail
    refine (HF0.out _ q1).mono ?_
    rintro e w2 ⟨rfl, q2⟩
    have e0' := q2.cell e0
    have e1' := q2.cell e1
    go_wp2_with fail
    refine (HF1.out _ (q1.trans q2)).mono ?_
    rintro e w3 ⟨rfl, q3⟩
    go_wp2_with fail
    refine (HTold.out _).mono ?_
    rintro e w4 ⟨rfl, q4⟩
    go_wp2
    go_ret
    exact ⟨rfl, ((q1.trans q2).trans q3).trans q4⟩
  have t1 : decide ((120 : Int) < (p.size : Int)) = false := decide_eq_false (by omega)
  by_cases hts : 5 < tops.length
  · have t2 : decide ((5 : Int) < (tops.length : Int)) = true := decide_eq_true (by omega)
    go_enter Tryz.func3, Tryz.ntmps3
    go_wp2_with fail
    refine (HF0.out _ q1).mono ?_
    rintro e w2 ⟨rfl, q2⟩
    have e0' := q2.cell e0
    have e1' := q2.cell e1
    go_wp2_with fail
    refine (HF1.out _ (q1.trans q2)).mono ?_
    rintro e w3 ⟨rfl, q3⟩
    go_wp2_with fail
    refine (HTold.out _).mono ?_
    rintro e w4 ⟨rfl, q4⟩
    go_wp2
    go_ret
    exact ⟨rfl, ((q1.trans q2).trans q3).trans q4⟩
  have t2 : decide ((5 : Int) < (tops.length : Int)) = false := decide_eq_false (by omega)
  go_enter Tryz.func3, Tryz.ntmps3
  go_wp2_with fail
  refine (HF0.out _ q1).mono ?_
  rintro e w2 ⟨rfl, q2⟩
  have e0' := q2.cell e0
  have e1' := q2.cell e1
  go_wp2_with fail
  refine (HF1.out _ (q1.trans q2)).mono ?_
  rintro e w3 ⟨rfl, q3⟩
  replace x1 := x1.keep (q2.trans q3)
  replace y1 := y1.keep (q2.trans q3)
  replace q1 := (q1.trans q2).trans q3
  clear q2 q3 e0' e1' b0 b1 e0 e1 hlx hly HF0 HF1
  go_wp2_with fail
  go_loopw [9] (fun iv wr => ∃ i : Nat, iv = .int .i64 i ∧ i ≤ tops.length ∧ Q w3 wr ∧ Hid (∀ j (h : j < tops.length), j < i → tops[j].size ≤ 120)) (fun iv _ => tops.length - (intOf iv).toNat)
  case atStart => exact ⟨0, rfl, by omega, Q.refl _, fun j _ h => by omega⟩
  case round =>
    obtain ⟨i, rfl, hi, hq, H⟩ := hrel
    by_cases hlt : i < tops.length
    · have lt2 : (i : Int) < (tops.length : Int) := by omega
      obtain ⟨gs, os, cs, ea, _, _, hc⟩ := (HS.out _ (q1.trans hq)).at_ (by omega)
      cases ea
      have ct := hc i hlt 0 _ rfl
      rw [show os + i * 1 + 0 = os + i by omega] at ct
      have EY : Hid (tops[i].size ≤ 120 → ∀ j (h : j < tops.length), j < i + 1 → tops[j].size ≤ 120) := fun h j hj hji => by
        by_cases e : j = i
        · subst e; exact h
        · exact H.out j hj (by omega)
      clear hc H
      generalize tops[i] = s at *
      by_cases hs : s.size ≤ 120
      · have t3 : decide ((120 : Int) < (s.size : Int)) = false := decide_eq_false (by omega)
        have E := Lib.hid (EY.out hs)
        clear EY hs
        go_wp2
        go_roundw
        case rel => exact ⟨i + 1, by go_num, by omega, hq, E⟩
        case measure => simp [intOf]; omega
      · have t3 : decide ((120 : Int) < (s.size : Int)) = true := decide_eq_true (by omega)
        clear EY hs
        go_wp2_with fail
        refine (HTold.out _).mono ?_
        rintro e w4 ⟨rfl, q4⟩
        go_wp2
        go_ret
        exact ⟨rfl, (q1.trans hq).trans q4⟩
    · have lt2 : ¬ (i : Int) < (tops.length : Int) := by omega
      have hts2 : ∀ x ∈ tops, x.size ≤ 90000 := fun x hx => by
        obtain ⟨j, hj, rfl⟩ := List.getElem_of_mem hx
        have := H.out j hj (by omega)
        omega
      replace x1 := x1.keep hq
      replace y1 := y1.keep hq
      have qr := q1.trans hq
      have HN1 : Hid (∀ w', Q w w' → Calls Tryz.prog 11 #[.agg #[.slice A n1 c, .slice B n2 d]] w' (NormPost t w')) := fun w' q => norm_any _ t w' (HT0.out _ q) fT.out
      have HN2 : Hid (∀ w', Q w w' → Calls Tryz.prog 12 #[.agg #[.slice A n1 c, .slice B n2 d]] w' (NormPostR t w')) := fun w' q => rNormT_any _ t w' (HT0.out _ q) fT.out
      have HP1 : Hid (∀ w', Q w w' → Calls Tryz.prog 13 #[.agg #[.slice A n1 c, .slice B n2 d], .slice S tops.length cS] w' (PartPost t tops w')) := fun w' q => part_any _ _ t tops w' (HT0.out _ q) fT.out (HS.out _ q) (by omega) hts2
      have HP2 : Hid (∀ w', Q w w' → Calls Tryz.prog 14 #[.agg #[.slice A n1 c, .slice B n2 d], .slice S tops.length cS] w' (PartPostR t tops w')) := fun w' q => rPartOf_any _ _ t tops w' (HT0.out _ q) fT.out (HS.out _ q) (by omega) hts2
      have HD1 : Hid (∀ w', Q w w' → Calls Tryz.prog 15 #[.agg #[.slice A n1 c, .slice B n2 d], .string p] w' fun e w'' => e = .returned (.tuple #[.int .i64 ((findE t.1 p).getD 0), .bool (findE t.1 p).isSome]) ∧ Grew w' w'') := fun w' q => find_any _ t p w' (HT0.out _ q)
      have HD2 : Hid (∀ w', Q w w' → Calls Tryz.prog 16 #[.agg #[.slice A n1 c, .slice B n2 d], .string p] w' fun e w'' => e = .returned (.tuple #[.int .i64 ((findE t.1 p).getD 0), .bool (findE t.1 p).isSome]) ∧ Grew w' w'') := fun w' q => rFind_any _ t p w' (HT0.out _ q)
      unfold NormPost at HN1
      unfold NormPostR at HN2
      unfold PartPost at HP1
      unfold PartPostR at HP2
      clear H hts2 hi hlt q1 hq
      generalize hrT : resT (normT t.1 t.2) = rt at *
      generalize hrC : resC (normT t.1 t.2) = rc at *
      generalize hpT : (partT t.1 t.2 tops).1 = pt at *
      generalize hpC : (partT t.1 t.2 tops).2 = pc at *
      generalize hfD : (findE t.1 p).getD 0 = fd at *
      generalize hfS : (findE t.1 p).isSome = fs at *
      clear hrT hrC hpT hpC hfD hfS
      obtain ⟨b0, b1⟩ := x1.cells
      have hlx := x1.lt
      have xt := x1
      have yt := y1
      obtain ⟨b0, b1⟩ := xt.cells
      have hlx := xt.lt
      go_wp2_with fail
      refine (HN1.out _ qr).mono ?_
      rintro e w4 ⟨va, rfl, tv, qn⟩
      have Tva := Lib.hid (tv.at_)
      obtain ⟨A4, m4, B4, o4, rfl⟩ := treeAt_form tv.at_
      clear tv
      replace qr := qr.trans qn
      replace xt := xt.keep qn
      replace yt := yt.keep qn
      clear b0 b1 hlx
      have x4 := BoxT.new w4 (.slice A4 rt.1.length m4) (.slice B4 rt.2.length o4)
      replace xt := xt.keep ((Q.refl w4).alloc (.cells #[.slice A4 rt.1.length m4, .slice B4 rt.2.length o4] 25))
      replace yt := yt.keep ((Q.refl w4).alloc (.cells #[.slice A4 rt.1.length m4, .slice B4 rt.2.length o4] 25))
      replace Tva := Lib.hid (Tva.out.keep ((Q.refl w4).alloc (.cells #[.slice A4 rt.1.length m4, .slice B4 rt.2.length o4] 25)))
      replace qr := qr.alloc (.cells #[.slice A4 rt.1.length m4, .slice B4 rt.2.length o4] 25)
      clear qn
      obtain ⟨b0, b1⟩ := xt.cells
      have hlx := xt.lt
      go_wp2_with fail
      refine (HN2.out _ qr).mono ?_
      rintro e w5 ⟨vb, rfl, tv, qn⟩
      have Tvb := Lib.hid (tv)
      obtain ⟨A5, m5, B5, o5, rfl⟩ := treeAt_form tv
      clear tv
      replace qr := qr.trans qn
      replace xt := xt.keep qn
      replace yt := yt.keep qn
      replace Tva := Lib.hid (Tva.out.keep qn)
      clear b0 b1 hlx
      have x5 := BoxT.new w5 (.slice A5 rt.1.length m5) (.slice B5 rt.2.length o5)
      replace xt := xt.keep ((Q.refl w5).alloc (.cells #[.slice A5 rt.1.length m5, .slice B5 rt.2.length o5] 25))
      replace yt := yt.keep ((Q.refl w5).alloc (.cells #[.slice A5 rt.1.length m5, .slice B5 rt.2.length o5] 25))
      replace Tva := Lib.hid (Tva.out.keep ((Q.refl w5).alloc (.cells #[.slice A5 rt.1.length m5, .slice B5 rt.2.length o5] 25)))
      replace Tvb := Lib.hid (Tvb.out.keep ((Q.refl w5).alloc (.cells #[.slice A5 rt.1.length m5, .slice B5 rt.2.length o5] 25)))
      replace x4 := (x4.keep qn).keep ((Q.refl w5).alloc (.cells #[.slice A5 rt.1.length m5, .slice B5 rt.2.length o5] 25))
      replace qr := qr.alloc (.cells #[.slice A5 rt.1.length m5, .slice B5 rt.2.length o5] 25)
      clear qn
      obtain ⟨b0, b1⟩ := xt.cells
      have hlx := xt.lt
      go_wp2_with fail
      refine (HP1.out _ qr).mono ?_
      rintro e w6 ⟨vx, rfl, tv, qn⟩
      have Tvx := Lib.hid (tv)
      obtain ⟨A6, m6, B6, o6, rfl⟩ := treeAt_form tv
      clear tv
      replace qr := qr.trans qn
      replace xt := xt.keep qn
      replace yt := yt.keep qn
      replace Tva := Lib.hid (Tva.out.keep qn)
      replace Tvb := Lib.hid (Tvb.out.keep qn)
      clear b0 b1 hlx
      have x6 := BoxT.new w6 (.slice A6 pt.1.length m6) (.slice B6 pt.2.length o6)
      replace xt := xt.keep ((Q.refl w6).alloc (.cells #[.slice A6 pt.1.length m6, .slice B6 pt.2.length o6] 25))
      replace yt := yt.keep ((Q.refl w6).alloc (.cells #[.slice A6 pt.1.length m6, .slice B6 pt.2.length o6] 25))
      replace Tva := Lib.hid (Tva.out.keep ((Q.refl w6).alloc (.cells #[.slice A6 pt.1.length m6, .slice B6 pt.2.length o6] 25)))
      replace Tvb := Lib.hid (Tvb.out.keep ((Q.refl w6).alloc (.cells #[.slice A6 pt.1.length m6, .slice B6 pt.2.length o6] 25)))
      replace Tvx := Lib.hid (Tvx.out.keep ((Q.refl w6).alloc (.cells #[.slice A6 pt.1.length m6, .slice B6 pt.2.length o6] 25)))
      replace x4 := (x4.keep qn).keep ((Q.refl w6).alloc (.cells #[.slice A6 pt.1.length m6, .slice B6 pt.2.length o6] 25))
      replace x5 := (x5.keep qn).keep ((Q.refl w6).alloc (.cells #[.slice A6 pt.1.length m6, .slice B6 pt.2.length o6] 25))
      replace qr := qr.alloc (.cells #[.slice A6 pt.1.length m6, .slice B6 pt.2.length o6] 25)
      clear qn
      obtain ⟨b0, b1⟩ := xt.cells
      have hlx := xt.lt
      go_wp2_with fail
      refine (HP2.out _ qr).mono ?_
      rintro e w7 ⟨vy, rfl, tv, qn⟩
      have Tvy := Lib.hid (tv)
      obtain ⟨A7, m7, B7, o7, rfl⟩ := treeAt_form tv
      clear tv
      replace qr := qr.trans qn
      replace xt := xt.keep qn
      replace yt := yt.keep qn
      replace Tva := Lib.hid (Tva.out.keep qn)
      replace Tvb := Lib.hid (Tvb.out.keep qn)
      replace Tvx := Lib.hid (Tvx.out.keep qn)
      clear b0 b1 hlx
      have x7 := BoxT.new w7 (.slice A7 pt.1.length m7) (.slice B7 pt.2.length o7)
      replace xt := xt.keep ((Q.refl w7).alloc (.cells #[.slice A7 pt.1.length m7, .slice B7 pt.2.length o7] 25))
      replace yt := yt.keep ((Q.refl w7).alloc (.cells #[.slice A7 pt.1.length m7, .slice B7 pt.2.length o7] 25))
      replace Tva := Lib.hid (Tva.out.keep ((Q.refl w7).alloc (.cells #[.slice A7 pt.1.length m7, .slice B7 pt.2.length o7] 25)))
      replace Tvb := Lib.hid (Tvb.out.keep ((Q.refl w7).alloc (.cells #[.slice A7 pt.1.length m7, .slice B7 pt.2.length o7] 25)))
      replace Tvx := Lib.hid (Tvx.out.keep ((Q.refl w7).alloc (.cells #[.slice A7 pt.1.length m7, .slice B7 pt.2.length o7] 25)))
      replace Tvy := Lib.hid (Tvy.out.keep ((Q.refl w7).alloc (.cells #[.slice A7 pt.1.length m7, .slice B7 pt.2.length o7] 25)))
      replace x4 := (x4.keep qn).keep ((Q.refl w7).alloc (.cells #[.slice A7 pt.1.length m7, .slice B7 pt.2.length o7] 25))
      replace x5 := (x5.keep qn).keep ((Q.refl w7).alloc (.cells #[.slice A7 pt.1.length m7, .slice B7 pt.2.length o7] 25))
      replace x6 := (x6.keep qn).keep ((Q.refl w7).alloc (.cells #[.slice A7 pt.1.length m7, .slice B7 pt.2.length o7] 25))
      replace qr := qr.alloc (.cells #[.slice A7 pt.1.length m7, .slice B7 pt.2.length o7] 25)
      clear qn
      obtain ⟨b0, b1⟩ := xt.cells
      have hlx := xt.lt
      go_wp2_with fail
      refine (HD1.out _ qr).mono ?_
      rintro e w8 ⟨rfl, g8⟩
      replace qr := qr.trans g8.q
      replace xt := xt.keep g8.q
      replace yt := yt.keep g8.q
      replace Tva := Lib.hid (Tva.out.keep g8.q)
      replace Tvb := Lib.hid (Tvb.out.keep g8.q)
      replace Tvx := Lib.hid (Tvx.out.keep g8.q)
      replace Tvy := Lib.hid (Tvy.out.keep g8.q)
      replace x4 := x4.keep g8.q
      replace x5 := x5.keep g8.q
      replace x6 := x6.keep g8.q
      replace x7 := x7.keep g8.q
      obtain ⟨b0, b1⟩ := xt.cells
      have hlx := xt.lt
      go_wp2_with fail
      refine (HD2.out _ qr).mono ?_
      rintro e w9 ⟨rfl, g9⟩
      replace qr := qr.trans g9.q
      replace xt := xt.keep g9.q
      replace yt := yt.keep g9.q
      replace Tva := Lib.hid (Tva.out.keep g9.q)
      replace Tvb := Lib.hid (Tvb.out.keep g9.q)
      replace Tvx := Lib.hid (Tvx.out.keep g9.q)
      replace Tvy := Lib.hid (Tvy.out.keep g9.q)
      replace x4 := x4.keep g9.q
      replace x5 := x5.keep g9.q
      replace x6 := x6.keep g9.q
      replace x7 := x7.keep g9.q
      have kt0 : ∀ w', Q w9 w' → w'.cell? ⟨w.heap.size, 0, none⟩ = some (.slice A n1 c) := fun w' q => (xt.keep q).cells.1
      have kt1 : ∀ w', Q w9 w' → w'.cell? ⟨w.heap.size, 1, none⟩ = some (.slice B n2 d) := fun w' q => (xt.keep q).cells.2
      have ku0 : ∀ w', Q w9 w' → w'.cell? ⟨w.heap.size + 1, 0, none⟩ = some (.slice A' n3 c') := fun w' q => (yt.keep q).cells.1
      have ku1 : ∀ w', Q w9 w' → w'.cell? ⟨w.heap.size + 1, 1, none⟩ = some (.slice B' n4 d') := fun w' q => (yt.keep q).cells.2
      have ka0 : ∀ w', Q w9 w' → w'.cell? ⟨w4.heap.size, 0, none⟩ = some (.slice A4 rt.1.length m4) := fun w' q => (x4.keep q).cells.1
      have ka1 : ∀ w', Q w9 w' → w'.cell? ⟨w4.heap.size, 1, none⟩ = some (.slice B4 rt.2.length o4) := fun w' q => (x4.keep q).cells.2
      have kb0 : ∀ w', Q w9 w' → w'.cell? ⟨w5.heap.size, 0, none⟩ = some (.slice A5 rt.1.length m5) := fun w' q => (x5.keep q).cells.1
      have kb1 : ∀ w', Q w9 w' → w'.cell? ⟨w5.heap.size, 1, none⟩ = some (.slice B5 rt.2.length o5) := fun w' q => (x5.keep q).cells.2
      have kx0 : ∀ w', Q w9 w' → w'.cell? ⟨w6.heap.size, 0, none⟩ = some (.slice A6 pt.1.length m6) := fun w' q => (x6.keep q).cells.1
      have kx1 : ∀ w', Q w9 w' → w'.cell? ⟨w6.heap.size, 1, none⟩ = some (.slice B6 pt.2.length o6) := fun w' q => (x6.keep q).cells.2
      have ky0 : ∀ w', Q w9 w' → w'.cell? ⟨w7.heap.size, 0, none⟩ = some (.slice A7 pt.1.length m7) := fun w' q => (x7.keep q).cells.1
      have ky1 : ∀ w', Q w9 w' → w'.cell? ⟨w7.heap.size, 1, none⟩ = some (.slice B7 pt.2.length o7) := fun w' q => (x7.keep q).cells.2
      have CM : Hid (∀ w', Q w9 w' → Calls Tryz.prog 17 #[.agg #[.slice A n1 c, .slice B n2 d]] w' fun e w'' => e = .returned (.bool (mayT t.1 t.2)) ∧ Q w' w'') := fun w' q => may_any _ t w' (HT0.out _ (qr.trans q)) fT.out
      have CR : Hid (∀ w', Q w9 w' → Calls Tryz.prog 18 #[.agg #[.slice A n1 c, .slice B n2 d]] w' fun e w'' => e = .returned (.bool (mayT t.1 t.2)) ∧ Q w' w'') := fun w' q => by
        have := rMayT_any _ t w' (HT0.out _ (qr.trans q)) fT.out
        rwa [may_same] at this
      have CA : Hid (∀ w', Q w9 w' → Calls Tryz.prog 19 #[.agg #[.slice A4 rt.1.length m4, .slice B4 rt.2.length o4], .agg #[.slice A5 rt.1.length m5, .slice B5 rt.2.length o5]] w' fun e w'' => e = .returned (.bool true) ∧ Q w' w'') := fun w' q => by
        have := alike_any _ _ rt rt w' (Tva.out.keep q) (Tvb.out.keep q)
        rwa [show alikeT rt rt = true from decide_eq_true rfl] at this
      have CB : Hid (∀ w', Q w9 w' → Calls Tryz.prog 19 #[.agg #[.slice A6 pt.1.length m6, .slice B6 pt.2.length o6], .agg #[.slice A7 pt.1.length m7, .slice B7 pt.2.length o7]] w' fun e w'' => e = .returned (.bool true) ∧ Q w' w'') := fun w' q => by
        have := alike_any _ _ pt pt w' (Tvx.out.keep q) (Tvy.out.keep q)
        rwa [show alikeT pt pt = true from decide_eq_true rfl] at this
      have CS : Hid (∀ w', Q w9 w' → Calls Tryz.prog 20 #[.agg #[.slice A n1 c, .slice B n2 d], .agg #[.slice A' n3 c', .slice B' n4 d']] w' fun e w'' => e = .returned (.bool (sameT (normT t.1 t.2) (normT u.1 u.2))) ∧ Q w' w'') := fun w' q => same_any _ _ t u w' (HT0.out _ (qr.trans q)) (HT1.out _ (qr.trans q)) fT.out fU.out
      have CT : Hid (∀ w', Q w9 w' → Calls Tryz.prog 21 #[.agg #[.slice A n1 c, .slice B n2 d], .agg #[.slice A' n3 c', .slice B' n4 d']] w' fun e w'' => e = .returned (.bool (sameT (normT t.1 t.2) (normT u.1 u.2))) ∧ Q w' w'') := fun w' q => rSameT_any _ _ t u w' (HT0.out _ (qr.trans q)) (HT1.out _ (qr.trans q)) fT.out fU.out
      have CK1 : Hid (∀ w', Q w9 w' → Calls Tryz.prog 23 #[.agg #[.slice A n1 c, .slice B n2 d], .string p] w' fun e w'' => ∃ v', e = .returned v' ∧ OwnS w'' w'.heap.size v' (kidsE t.1 p) ∧ Q w' w'') := fun w' q => kids_any _ t p w' (HT0.out _ (qr.trans q)) fT.out
      have CK2 : Hid (∀ w', Q w9 w' → Calls Tryz.prog 24 #[.agg #[.slice A n1 c, .slice B n2 d], .string p] w' fun e w'' => ∃ v', e = .returned v' ∧ OwnS w'' w'.heap.size v' (kidsE t.1 p) ∧ Q w' w'') := fun w' q => rKids_any _ t p w' (HT0.out _ (qr.trans q)) fT.out
      have CC1 : Hid (∀ w', Q w9 w' → Calls Tryz.prog 25 #[.agg #[.slice A n1 c, .slice B n2 d], .string p] w' fun e w'' => ∃ v', e = .returned v' ∧ OwnS w'' w'.heap.size v' (classT t.1 p) ∧ Q w' w'') := fun w' q => class_any _ t p w' (HT0.out _ (qr.trans q)) fT.out
      have CC2 : Hid (∀ w', Q w9 w' → Calls Tryz.prog 26 #[.agg #[.slice A n1 c, .slice B n2 d], .string p] w' fun e w'' => ∃ v', e = .returned v' ∧ OwnS w'' w'.heap.size v' (classT t.1 p) ∧ Q w' w'') := fun w' q => rClass_any _ t p w' (HT0.out _ (qr.trans q)) fT.out
      have CB1 : Hid (∀ w', Q w9 w' → Calls Tryz.prog 27 #[.agg #[.slice A n1 c, .slice B n2 d]] w' fun e w'' => e = .returned (.int .i64 (sumN t.2 : Nat)) ∧ Q w' w'') := fun w' q => bytes_any _ t w' (HT0.out _ (qr.trans q)) fT.out
      have CB2 : Hid (∀ w', Q w9 w' → Calls Tryz.prog 28 #[.agg #[.slice A n1 c, .slice B n2 d]] w' fun e w'' => e = .returned (.int .i64 (sumN t.2 : Nat)) ∧ Q w' w'') := fun w' q => rTotal_any _ t w' (HT0.out _ (qr.trans q)) fT.out
      have CO : Hid (∀ w', Q w9 w' → Calls Tryz.prog 10 #[] w' fun e w'' => e = .returned (.bool true) ∧ Q w' w'') := fun w' _ => told_any w'
      have CX : Hid (∀ x y ls w', Pa.StrsAt w' x ls → Pa.StrsAt w' y ls → Calls Tryz.prog 22 #[x, y] w' fun e w'' => e = .returned (.bool true) ∧ Q w' w'') := fun x y ls w' h k => (Pa.texts_same x y ls w' h k).mono fun e w'' h => ⟨h.1, h.2.1⟩
      generalize mayT t.1 t.2 = bm at *
      generalize sameT (normT t.1 t.2) (normT u.1 u.2) = bs at *
      generalize kidsE t.1 p = ks at *
      generalize classT t.1 p = cs at *
      generalize sumN t.2 = sn at *
      have nm : (bm != bm) = false := by cases bm <;> rfl
      have ns : (bs != bs) = false := by cases bs <;> rfl
      have nr : (rc != rc) = false := by simp
      have np : (pc != pc) = false := by simp
      have yf : (fd == fd) = true := by simp
      have yg : (fs == fs) = true := by simp
      have yn : ((sn : Int) == (sn : Int)) = true := by simp
      clear HT0 HT1 HS HTold fT fU HN1 HN2 HP1 HP2 HD1 HD2 xt yt x1 y1 x4 x5 x6 x7 Tva Tvb Tvx Tvy b0 b1 hlx g8 g9
      go_wp2_with fail
      try simp only [List.append_eq, List.cons_append, List.nil_append]
      go_region_held3 (fun w' => Q w9 w') (first | assumption | exact Q.drew (Q.refl _) | exact Q.drew (by assumption)) (first
        | (go_at_call 17; refine (CM.out _ (by assumption)).mono ?_; rintro e wn ⟨rfl, qn0⟩; have qn : Q w9 wn := Q.trans (by assumption) qn0; clear qn0)
        | (go_at_call 18; refine (CR.out _ (by assumption)).mono ?_; rintro e wn ⟨rfl, qn0⟩; have qn : Q w9 wn := Q.trans (by assumption) qn0; clear qn0)
        | (go_at_call_of 19 (Value.agg #[.slice A4 rt.1.length m4, .slice B4 rt.2.length o4]); refine (CA.out _ (by assumption)).mono ?_; rintro e wn ⟨rfl, qn0⟩; have qn : Q w9 wn := Q.trans (by assumption) qn0; clear qn0)
        | (go_at_call_of 19 (Value.agg #[.slice A6 pt.1.length m6, .slice B6 pt.2.length o6]); refine (CB.out _ (by assumption)).mono ?_; rintro e wn ⟨rfl, qn0⟩; have qn : Q w9 wn := Q.trans (by assumption) qn0; clear qn0)
        | (go_at_call 20; refine (CS.out _ (by assumption)).mono ?_; rintro e wn ⟨rfl, qn0⟩; have qn : Q w9 wn := Q.trans (by assumption) qn0; clear qn0)
        | (go_at_call 21; refine (CT.out _ (by assumption)).mono ?_; rintro e wn ⟨rfl, qn0⟩; have qn : Q w9 wn := Q.trans (by assumption) qn0; clear qn0))
      clear CA CB CS CT CM
      cases bm
      · go_wp2_with fail
        refine (CR.out _ (by assumption)).mono ?_
        rintro e wA ⟨rfl, qA0⟩
        have qA : Q w9 wA := Q.trans (by assumption) qA0
        go_wp2_with fail
        refine (CO.out _ qA).mono ?_
        rintro e wB ⟨rfl, qB⟩
        go_wp2
        go_ret
        exact ⟨rfl, (qr.trans qA).trans qB⟩
      · go_wp2_with fail
        refine (CR.out _ (by assumption)).mono ?_
        rintro e wA ⟨rfl, qA0⟩
        have qA : Q w9 wA := Q.trans (by assumption) qA0
        clear qA0 CR
        go_wp2_with fail
        try simp only [List.append_eq, List.cons_append, List.nil_append]
        go_region_held3 (fun w' => Q w9 w') (first | assumption | exact Q.drew (by assumption)) (first
          | (go_at_call 10; refine (CO.out _ (by assumption)).mono ?_; rintro e wn ⟨rfl, qn0⟩; have qn : Q w9 wn := Q.trans (by assumption) qn0; clear qn0)
          | (go_at_call 23; refine (CK1.out _ (by assumption)).mono ?_; rintro e wn ⟨vk1, rfl, hk1, qn0⟩; have qn : Q w9 wn := Q.trans (by assumption) qn0; clear qn0; have hs1 : Hid (∀ w', Q wn w' → Pa.StrsAt w' vk1 ks) := (fun w' q => keepT (OwnS.strs hk1) q))
          | (go_at_call 24; refine (CK2.out _ (by assumption)).mono ?_; rintro e wn ⟨vk2, rfl, hk2, qn0⟩; have qn : Q w9 wn := Q.trans (by assumption) qn0; have hs2 : Hid (∀ w', Q wn w' → Pa.StrsAt w' vk2 ks) := (fun w' q => keepT (OwnS.strs hk2) q))
          | (go_at_call_of 22 vk1; refine (CX.out _ _ ks _ (hs1.out _ (by assumption)) (hs2.out _ (Q.refl _))).mono ?_; rintro e wn ⟨rfl, qn1⟩; have qn : Q w9 wn := Q.trans (by assumption) qn1)
          | (go_at_call 25; refine (CC1.out _ (by assumption)).mono ?_; rintro e wn ⟨vc1, rfl, hk3, qn0⟩; have qn : Q w9 wn := Q.trans (by assumption) qn0; clear qn0; have hs3 : Hid (∀ w', Q wn w' → Pa.StrsAt w' vc1 cs) := (fun w' q => keepT (OwnS.strs hk3) q))
          | (go_at_call 26; refine (CC2.out _ (by assumption)).mono ?_; rintro e wn ⟨vc2, rfl, hk4, qn0⟩; have qn : Q w9 wn := Q.trans (by assumption) qn0; have hs4 : Hid (∀ w', Q wn w' → Pa.StrsAt w' vc2 cs) := (fun w' q => keepT (OwnS.strs hk4) q))
          | (go_at_call_of 22 vc1; refine (CX.out _ _ cs _ (hs3.out _ (by assumption)) (hs4.out _ (Q.refl _))).mono ?_; rintro e wn ⟨rfl, qn1⟩; have qn : Q w9 wn := Q.trans (by assumption) qn1)
          | (go_at_call 28; refine (CB2.out _ (by assumption)).mono ?_; rintro e wn ⟨rfl, qn0⟩; have qn : Q w9 wn := Q.trans (by assumption) qn0; clear qn0)
          | (go_at_call 27; refine (CB1.out _ (by assumption)).mono ?_; rintro e wn ⟨rfl, qn0⟩; have qn : Q w9 wn := Q.trans (by assumption) qn0; clear qn0))
        go_wp2
        go_ret
        exact ⟨rfl, qr.trans (by assumption)⟩
end Go.Proofs.YtgbenepapajieaaGreat.Tr.As
