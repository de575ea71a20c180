/-
  For every two nodes (few, else it is told), every place, every string and every length: what the code answers is what the document answers. No condition.
-/
import Derived.Test.YtheobpilmphdjaaGreatNOpen
import Derived.Test.YtheobpilmphdjaaGreatNRefD
import Derived.Test.YtheobpilmphdjaaGreatNRefW
import Derived.Test.YtheobpilmphdjaaGreatNRefR
import Derived.Deep.RegionHeld3
namespace Go.Proofs.YtheobpilmphdjaaGreat.Nd.asks
open Go.RowKit
open Go.Proofs.YtheobpilmphdjaaGreat.Ex.Rng
open Go.Proofs.YtheobpilmphdjaaGreat.Ex (E ExtsAt)

/-- A node's twelve cells: each goes into one. -/
def Sto (c : Value) : Prop := ∀ a m w, Sem.run Tryz.prog (store a c m) w = stored Tryz.prog w a c m
theorem sto {c : Value} (h : c.oneCell' = true) : Sto c := fun a m w => run_store Tryz.prog w a c m h
theorem form12 {w : World} {v : Value} {n : Nd} (h : NodeAt w v n) : ∃ c0 c1 c2 c3 c4 c5 c6 c7 c8 c9 c10 c11, v = .agg #[c0, c1, c2, c3, c4, c5, c6, c7, c8, c9, c10, c11] ∧ Sto c0 ∧ Sto c1 ∧ Sto c2 ∧ Sto c3 ∧ Sto c4 ∧ Sto c5 ∧ Sto c6 ∧ Sto c7 ∧ Sto c8 ∧ Sto c9 ∧ Sto c10 ∧ Sto c11 := by
  obtain ⟨va, vl, vd, rfl, h1, h2, h3⟩ := h
  obtain ⟨A1, k1, rfl⟩ := h1.form
  obtain ⟨A2, k2, rfl⟩ := h2.form
  obtain ⟨A3, k3, rfl⟩ := h3.form
  exact ⟨_, _, _, _, _, _, _, _, _, _, _, _, rfl, sto rfl, sto rfl, sto rfl, sto rfl, sto rfl, sto rfl, sto rfl, sto rfl, sto rfl, sto rfl, sto rfl, sto rfl⟩
theorem flat_E : ∀ l : List X, flatR cellsX l = l.map E
  | [] => rfl
  | x :: r => by show [E x] ++ flatR cellsX r = E x :: r.map E; rw [flat_E r]; rfl
theorem exts_own {w : World} {B : Nat} {v : Value} {l : List X} (h : OwnX w B v l) : ExtsAt w v l := by
  refine ExtsAt.of_own (base := B) (e := 57) ?_
  rw [← flat_E l]
  exact h
/-- The contracts of the calls, the answer being named. -/
theorem w1_c {v : Value} {n n' : Nd} {a c : Int} {s : ByteArray} {w : World} (h : NodeAt w v n) (hf : Fit n) (hss : s.size ≤ 90000) (hw : writeN n a s = (n', c)) :
    Calls Tryz.prog 6 #[v, .int .i64 a, .string s] w fun e w' => ∃ v', e = .returned (.tuple #[v', .int .i64 c]) ∧ NodeAt w' v' n' ∧ Q w w' := by
  have := write_any v n a s w h hf hss
  rwa [hw] at this
theorem w2_c {v : Value} {n n' : Nd} {a c : Int} {s : ByteArray} {w : World} (h : NodeAt w v n) (hf : Fit n) (ht : n.target.size ≤ 1000000) (hss : s.size ≤ 90000) (hw : writeN n a s = (n', c)) :
    Calls Tryz.prog 7 #[v, .int .i64 a, .string s] w fun e w' => ∃ v', e = .returned (.tuple #[v', .int .i64 c]) ∧ NodeAt w' v' n' ∧ Q w w' := by
  have := rWrite_any v n a s w h hf ht hss
  rwa [hw] at this
theorem c1_c {v : Value} {n n' : Nd} {a c : Int} {w : World} (h : NodeAt w v n) (hf : Fit n) (hw : cutNd n a = (n', c)) :
    Calls Tryz.prog 8 #[v, .int .i64 a] w fun e w' => ∃ v', e = .returned (.tuple #[v', .int .i64 c]) ∧ NodeAt w' v' n' ∧ Q w w' := by
  have := cut_any v n a w h hf
  rwa [hw] at this
theorem c2_c {v : Value} {n n' : Nd} {a c : Int} {w : World} (h : NodeAt w v n) (hf : Fit n) (ht : n.target.size ≤ 1000000) (hw : cutNd n a = (n', c)) :
    Calls Tryz.prog 9 #[v, .int .i64 a] w fun e w' => ∃ v', e = .returned (.tuple #[v', .int .i64 c]) ∧ NodeAt w' v' n' ∧ Q w w' := by
  have := rCut_any v n a w h hf ht
  rwa [hw] at this
theorem r2_c {v : Value} {n : Nd} {a long c : Int} {s : ByteArray} {w : World} (h : NodeAt w v n) (hf : Fit n) (ht : n.target.size ≤ 1000000) (hr : readN n a long = (s, c)) :
    Calls Tryz.prog 11 #[v, .int .i64 a, .int .i64 long] w fun e w' => e = .returned (.tuple #[.string s, .int .i64 c]) ∧ Q w w' := by
  have := rRead_any v n a long w h hf ht
  rwa [hr] at this

set_option maxRecDepth 100000 in
set_option maxHeartbeats 16000000 in
theorem walk (va vb : Value) (na nb : Nd) (a : Int) (s : ByteArray) (long : Int) (w : World) (ha : NodeAt w va na) (hb : NodeAt w vb nb) (wa : (Lit.int .i64 a).wf = true) :
    Calls Tryz.prog 3 #[va, vb, .int .i64 a, .string s, .int .i64 long] w fun e w' => e = .returned (.bool true) ∧ Q w w' := by
  have ha9 : a ≤ 9223372036854775807 := (fits_wf wa).2
  obtain ⟨a0, a1, a2, a3, a4, a5, a6, a7, a8, a9, a10, a11, rfl, -⟩ := form12 ha
  obtain ⟨b0, b1, b2, b3, b4, b5, b6, b7, b8, b9, b10, b11, rfl, -⟩ := form12 hb
  have HA : Hid (∀ w', Q w w' → NodeAt w' (.agg #[a0, a1, a2, a3, a4, a5, a6, a7, a8, a9, a10, a11]) na) := fun w' q => ha.keep q
  have HB : Hid (∀ w', Q w w' → NodeAt w' (.agg #[b0, b1, b2, b3, b4, b5, b6, b7, b8, b9, b10, b11]) nb) := fun w' q => hb.keep q
  clear ha hb wa
  have HFa : Hid (∀ w', Q w w' → Calls Tryz.prog 4 #[.agg #[a0, a1, a2, a3, a4, a5, a6, a7, a8, a9, a10, a11]] w' fun e w'' => e = .returned (.bool (fewNd na)) ∧ Q w' w'') := fun w' q => fewNd_any _ na w' (HA.out _ q)
  have HFb : Hid (∀ w', Q w w' → Calls Tryz.prog 4 #[.agg #[b0, b1, b2, b3, b4, b5, b6, b7, b8, b9, b10, b11]] w' fun e w'' => e = .returned (.bool (fewNd nb)) ∧ Q w' w'') := fun w' q => fewNd_any _ nb w' (HB.out _ q)
  have HFF : Hid (fewNd na = true → Fit na ∧ na.target.size ≤ 1000000) := fun k => ⟨(few_bounds k).1, by have := (few_bounds k).2.2.1; omega⟩
  generalize fewNd na = fa at *
  generalize fewNd nb = fb at *
  go_enter Tryz.func3, Tryz.ntmps3
  go_wp2_with fail
  have xa : BoxN ((w.alloc (.cells #[a0, a1, a2, a3, a4, a5, a6, a7, a8, a9, a10, a11] 28)).alloc (.cells #[b0, b1, b2, b3, b4, b5, b6, b7, b8, b9, b10, b11] 28)) w.heap.size #[a0, a1, a2, a3, a4, a5, a6, a7, a8, a9, a10, a11] := (BoxN.new w _).keep ((Q.refl _).alloc _)
  have xb := BoxN.new (w.alloc (.cells #[a0, a1, a2, a3, a4, a5, a6, a7, a8, a9, a10, a11] 28)) #[b0, b1, b2, b3, b4, b5, b6, b7, b8, b9, b10, b11]
  rw [World.size_alloc] at xb
  have q1 : Q w ((w.alloc (.cells #[a0, a1, a2, a3, a4, a5, a6, a7, a8, a9, a10, a11] 28)).alloc (.cells #[b0, b1, b2, b3, b4, b5, b6, b7, b8, b9, b10, b11] 28)) := ((Q.refl w).alloc _).alloc _
  generalize (w.alloc (.cells #[a0, a1, a2, a3, a4, a5, a6, a7, a8, a9, a10, a11] 28)).alloc (.cells #[b0, b1, b2, b3, b4, b5, b6, b7, b8, b9, b10, b11] 28) = w1 at *
  generalize hgB : w.heap.size + 1 = gB at *
  generalize w.heap.size = gA at *
  clear hgB
  refine (HFa.out _ q1).mono ?_
  rintro e w2 ⟨rfl, q2⟩
  replace xa := xa.keep q2
  replace xb := xb.keep q2
  replace q1 := q1.trans q2
  clear q2 HFa
  cases fa with
  | false =>
    clear HFb HFF HA HB xa xb
    go_wp2_with fail
    refine (told_any _).mono ?_
    rintro e w9 ⟨rfl, qa⟩
    go_wp2
    go_ret
    exact ⟨rfl, q1.trans qa⟩
  | true =>
    obtain ⟨hfit, htg⟩ := HFF.out rfl
    replace hfit := Lib.hid hfit
    clear HFF
    obtain ⟨kb0, kb1, kb2, kb3, kb4, kb5, kb6, kb7, kb8, kb9, kb10, kb11⟩ := xb.cells
    go_wp2_with fail
    clear kb0 kb1 kb2 kb3 kb4 kb5 kb6 kb7 kb8 kb9 kb10 kb11
    refine (HFb.out _ q1).mono ?_
    rintro e w3 ⟨rfl, q2⟩
    replace xa := xa.keep q2
    replace xb := xb.keep q2
    replace q1 := q1.trans q2
    clear q2 HFb
    cases fb with
    | false =>
      clear HA HB xa xb
      go_wp2_with fail
      refine (told_any _).mono ?_
      rintro e w9 ⟨rfl, qa⟩
      go_wp2
      go_ret
      exact ⟨rfl, q1.trans qa⟩
    | true =>
      by_cases hs : (300 : Int) < (s.size : Int)
      · have t1 : decide ((300 : Int) < (s.size : Int)) = true := decide_eq_true hs
        clear HA HB xa xb hs
        go_wp2_with fail
        refine (told_any _).mono ?_
        rintro e w9 ⟨rfl, qa⟩
        go_wp2
        go_ret
        exact ⟨rfl, q1.trans qa⟩
      have t1 : decide ((300 : Int) < (s.size : Int)) = false := decide_eq_false hs
      replace hs : s.size ≤ 90000 := by omega
      obtain ⟨n1, c1, e1⟩ : ∃ n1 c1, writeN na a s = (n1, c1) := ⟨_, _, rfl⟩
      obtain ⟨n2, c2, e2⟩ : ∃ n2 c2, cutNd na a = (n2, c2) := ⟨_, _, rfl⟩
      obtain ⟨r3, c3, e3⟩ : ∃ r3 c3, readN na a (min long 1000) = (r3, c3) := ⟨_, _, rfl⟩
      have HW1 : Hid (∀ w', Q w w' → Calls Tryz.prog 6 #[.agg #[a0, a1, a2, a3, a4, a5, a6, a7, a8, a9, a10, a11], .int .i64 a, .string s] w' fun e w'' => ∃ v', e = .returned (.tuple #[v', .int .i64 c1]) ∧ NodeAt w'' v' n1 ∧ Q w' w'') := fun w' q => w1_c (HA.out _ q) hfit.out hs e1
      have HW2 : Hid (∀ w', Q w w' → Calls Tryz.prog 7 #[.agg #[a0, a1, a2, a3, a4, a5, a6, a7, a8, a9, a10, a11], .int .i64 a, .string s] w' fun e w'' => ∃ v', e = .returned (.tuple #[v', .int .i64 c1]) ∧ NodeAt w'' v' n1 ∧ Q w' w'') := fun w' q => w2_c (HA.out _ q) hfit.out htg hs e1
      have HC1 : Hid (∀ w', Q w w' → Calls Tryz.prog 8 #[.agg #[a0, a1, a2, a3, a4, a5, a6, a7, a8, a9, a10, a11], .int .i64 a] w' fun e w'' => ∃ v', e = .returned (.tuple #[v', .int .i64 c2]) ∧ NodeAt w'' v' n2 ∧ Q w' w'') := fun w' q => c1_c (HA.out _ q) hfit.out e2
      have HC2 : Hid (∀ w', Q w w' → Calls Tryz.prog 9 #[.agg #[a0, a1, a2, a3, a4, a5, a6, a7, a8, a9, a10, a11], .int .i64 a] w' fun e w'' => ∃ v', e = .returned (.tuple #[v', .int .i64 c2]) ∧ NodeAt w'' v' n2 ∧ Q w' w'') := fun w' q => c2_c (HA.out _ q) hfit.out htg e2
      have HR1 : Hid (∀ w', Q w w' → Calls Tryz.prog 10 #[.agg #[a0, a1, a2, a3, a4, a5, a6, a7, a8, a9, a10, a11], .int .i64 a, .int .i64 (min long 1000)] w' fun e w'' => e = .returned (.tuple #[.string r3, .int .i64 c3]) ∧ Q w' w'') := fun w' q => read_c (HA.out _ q) hfit.out ha9 e3
      have HR2 : Hid (∀ w', Q w w' → Calls Tryz.prog 11 #[.agg #[a0, a1, a2, a3, a4, a5, a6, a7, a8, a9, a10, a11], .int .i64 a, .int .i64 (min long 1000)] w' fun e w'' => e = .returned (.tuple #[.string r3, .int .i64 c3]) ∧ Q w' w'') := fun w' q => r2_c (HA.out _ q) hfit.out htg e3
      clear e1 e2 e3
      obtain ⟨ka0, ka1, ka2, ka3, ka4, ka5, ka6, ka7, ka8, ka9, ka10, ka11⟩ := xa.cells
      go_wp2_with fail
      clear ka0 ka1 ka2 ka3 ka4 ka5 ka6 ka7 ka8 ka9 ka10 ka11
      refine (HW1.out _ q1).mono ?_
      rintro e w4 ⟨v4, rfl, hx, q2⟩
      obtain ⟨x0, x1, x2, x3, x4, x5, x6, x7, x8, x9, x10, x11, rfl, ho0, ho1, ho2, ho3, ho4, ho5, ho6, ho7, ho8, ho9, ho10, ho11⟩ := form12 hx
      replace xa := xa.keep q2
      replace xb := xb.keep q2
      replace q1 := q1.trans q2
      clear q2 HW1
      obtain ⟨ka0, ka1, ka2, ka3, ka4, ka5, ka6, ka7, ka8, ka9, ka10, ka11⟩ := xa.cells
      have hlta := xa.lt
      unfold Sto at ho0 ho1 ho2 ho3 ho4 ho5 ho6 ho7 ho8 ho9 ho10 ho11
      go_wp2_with fail
      clear ka0 ka1 ka2 ka3 ka4 ka5 ka6 ka7 ka8 ka9 ka10 ka11 hlta ho0 ho1 ho2 ho3 ho4 ho5 ho6 ho7 ho8 ho9 ho10 ho11
      have xx := BoxN.new w4 #[x0, x1, x2, x3, x4, x5, x6, x7, x8, x9, x10, x11]
      have q2 : Q w4 (w4.alloc (.cells #[x0, x1, x2, x3, x4, x5, x6, x7, x8, x9, x10, x11] 28)) := (Q.refl _).alloc _
      replace hx := Lib.hid (hx.keep q2)
      replace xa := xa.keep q2
      replace xb := xb.keep q2
      replace q1 := q1.trans q2
      clear q2
      generalize w4.alloc (.cells #[x0, x1, x2, x3, x4, x5, x6, x7, x8, x9, x10, x11] 28) = m4 at *
      generalize w4.heap.size = gX at *
      refine (HW2.out _ q1).mono ?_
      rintro e w5 ⟨v4, rfl, hy, q2⟩
      obtain ⟨y0, y1, y2, y3, y4, y5, y6, y7, y8, y9, y10, y11, rfl, ho0, ho1, ho2, ho3, ho4, ho5, ho6, ho7, ho8, ho9, ho10, ho11⟩ := form12 hy
      replace xa := xa.keep q2
      replace xb := xb.keep q2
      replace xx := xx.keep q2
      replace hx := Lib.hid (hx.out.keep q2)
      replace q1 := q1.trans q2
      clear q2 HW2
      obtain ⟨ka0, ka1, ka2, ka3, ka4, ka5, ka6, ka7, ka8, ka9, ka10, ka11⟩ := xa.cells
      have hlta := xa.lt
      unfold Sto at ho0 ho1 ho2 ho3 ho4 ho5 ho6 ho7 ho8 ho9 ho10 ho11
      go_wp2_with fail
      clear ka0 ka1 ka2 ka3 ka4 ka5 ka6 ka7 ka8 ka9 ka10 ka11 hlta ho0 ho1 ho2 ho3 ho4 ho5 ho6 ho7 ho8 ho9 ho10 ho11
      have xy := BoxN.new w5 #[y0, y1, y2, y3, y4, y5, y6, y7, y8, y9, y10, y11]
      have q2 : Q w5 (w5.alloc (.cells #[y0, y1, y2, y3, y4, y5, y6, y7, y8, y9, y10, y11] 28)) := (Q.refl _).alloc _
      replace hy := Lib.hid (hy.keep q2)
      replace xa := xa.keep q2
      replace xb := xb.keep q2
      replace xx := xx.keep q2
      replace hx := Lib.hid (hx.out.keep q2)
      replace q1 := q1.trans q2
      clear q2
      generalize w5.alloc (.cells #[y0, y1, y2, y3, y4, y5, y6, y7, y8, y9, y10, y11] 28) = m5 at *
      generalize w5.heap.size = gY at *
      refine (HC1.out _ q1).mono ?_
      rintro e w6 ⟨v4, rfl, hu, q2⟩
      obtain ⟨u0, u1, u2, u3, u4, u5, u6, u7, u8, u9, u10, u11, rfl, ho0, ho1, ho2, ho3, ho4, ho5, ho6, ho7, ho8, ho9, ho10, ho11⟩ := form12 hu
      replace xa := xa.keep q2
      replace xb := xb.keep q2
      replace xx := xx.keep q2
      replace hx := Lib.hid (hx.out.keep q2)
      replace xy := xy.keep q2
      replace hy := Lib.hid (hy.out.keep q2)
      replace q1 := q1.trans q2
      clear q2 HC1
      obtain ⟨ka0, ka1, ka2, ka3, ka4, ka5, ka6, ka7, ka8, ka9, ka10, ka11⟩ := xa.cells
      have hlta := xa.lt
      unfold Sto at ho0 ho1 ho2 ho3 ho4 ho5 ho6 ho7 ho8 ho9 ho10 ho11
      go_wp2_with fail
      clear ka0 ka1 ka2 ka3 ka4 ka5 ka6 ka7 ka8 ka9 ka10 ka11 hlta ho0 ho1 ho2 ho3 ho4 ho5 ho6 ho7 ho8 ho9 ho10 ho11
      have xu := BoxN.new w6 #[u0, u1, u2, u3, u4, u5, u6, u7, u8, u9, u10, u11]
      have q2 : Q w6 (w6.alloc (.cells #[u0, u1, u2, u3, u4, u5, u6, u7, u8, u9, u10, u11] 28)) := (Q.refl _).alloc _
      replace hu := Lib.hid (hu.keep q2)
      replace xa := xa.keep q2
      replace xb := xb.keep q2
      replace xx := xx.keep q2
      replace hx := Lib.hid (hx.out.keep q2)
      replace xy := xy.keep q2
      replace hy := Lib.hid (hy.out.keep q2)
      replace q1 := q1.trans q2
      clear q2
      generalize w6.alloc (.cells #[u0, u1, u2, u3, u4, u5, u6, u7, u8, u9, u10, u11] 28) = m6 at *
      generalize w6.heap.size = gU at *
      refine (HC2.out _ q1).mono ?_
      rintro e w7 ⟨v4, rfl, hv, q2⟩
      obtain ⟨v0, v1, v2, v3, v4, v5, v6, v7, v8, v9, v10, v11, rfl, ho0, ho1, ho2, ho3, ho4, ho5, ho6, ho7, ho8, ho9, ho10, ho11⟩ := form12 hv
      replace xa := xa.keep q2
      replace xb := xb.keep q2
      replace xx := xx.keep q2
      replace hx := Lib.hid (hx.out.keep q2)
      replace xy := xy.keep q2
      replace hy := Lib.hid (hy.out.keep q2)
      replace xu := xu.keep q2
      replace hu := Lib.hid (hu.out.keep q2)
      replace q1 := q1.trans q2
      clear q2 HC2
      obtain ⟨ka0, ka1, ka2, ka3, ka4, ka5, ka6, ka7, ka8, ka9, ka10, ka11⟩ := xa.cells
      have hlta := xa.lt
      unfold Sto at ho0 ho1 ho2 ho3 ho4 ho5 ho6 ho7 ho8 ho9 ho10 ho11
      go_wp2_with fail
      clear ka0 ka1 ka2 ka3 ka4 ka5 ka6 ka7 ka8 ka9 ka10 ka11 hlta ho0 ho1 ho2 ho3 ho4 ho5 ho6 ho7 ho8 ho9 ho10 ho11
      have xv := BoxN.new w7 #[v0, v1, v2, v3, v4, v5, v6, v7, v8, v9, v10, v11]
      have q2 : Q w7 (w7.alloc (.cells #[v0, v1, v2, v3, v4, v5, v6, v7, v8, v9, v10, v11] 28)) := (Q.refl _).alloc _
      replace hv := Lib.hid (hv.keep q2)
      replace xa := xa.keep q2
      replace xb := xb.keep q2
      replace xx := xx.keep q2
      replace hx := Lib.hid (hx.out.keep q2)
      replace xy := xy.keep q2
      replace hy := Lib.hid (hy.out.keep q2)
      replace xu := xu.keep q2
      replace hu := Lib.hid (hu.out.keep q2)
      replace q1 := q1.trans q2
      clear q2
      generalize w7.alloc (.cells #[v0, v1, v2, v3, v4, v5, v6, v7, v8, v9, v10, v11] 28) = m7 at *
      generalize w7.heap.size = gV at *
      refine (HR1.out _ q1).mono ?_
      rintro e w8 ⟨rfl, q2⟩
      replace xa := xa.keep q2
      replace xb := xb.keep q2
      replace xx := xx.keep q2
      replace hx := Lib.hid (hx.out.keep q2)
      replace xy := xy.keep q2
      replace hy := Lib.hid (hy.out.keep q2)
      replace xu := xu.keep q2
      replace hu := Lib.hid (hu.out.keep q2)
      replace xv := xv.keep q2
      replace hv := Lib.hid (hv.out.keep q2)
      replace q1 := q1.trans q2
      clear q2 HR1
      obtain ⟨ka0, ka1, ka2, ka3, ka4, ka5, ka6, ka7, ka8, ka9, ka10, ka11⟩ := xa.cells
      go_wp2_with fail
      clear ka0 ka1 ka2 ka3 ka4 ka5 ka6 ka7 ka8 ka9 ka10 ka11
      refine (HR2.out _ q1).mono ?_
      rintro e w9 ⟨rfl, q2⟩
      replace xa := xa.keep q2
      replace xb := xb.keep q2
      replace xx := xx.keep q2
      replace hx := Lib.hid (hx.out.keep q2)
      replace xy := xy.keep q2
      replace hy := Lib.hid (hy.out.keep q2)
      replace xu := xu.keep q2
      replace hu := Lib.hid (hu.out.keep q2)
      replace xv := xv.keep q2
      replace hv := Lib.hid (hv.out.keep q2)
      replace q1 := q1.trans q2
      clear q2 HR2
      have HA9 : Hid (∀ w', Q w9 w' → NodeAt w' (.agg #[a0, a1, a2, a3, a4, a5, a6, a7, a8, a9, a10, a11]) na) := fun w' q => HA.out _ (q1.trans q)
      have HB9 : Hid (∀ w', Q w9 w' → NodeAt w' (.agg #[b0, b1, b2, b3, b4, b5, b6, b7, b8, b9, b10, b11]) nb) := fun w' q => HB.out _ (q1.trans q)
      have CT : Hid (∀ w', Q w9 w' → Calls Tryz.prog 5 #[] w' fun e w'' => e = .returned (.bool true) ∧ Q w9 w'') := fun w' q => (told_any w').mono fun _ _ h => ⟨h.1, q.trans h.2⟩
      have CM1 : Hid (∀ w', Q w9 w' → Calls Tryz.prog 12 #[.agg #[a0, a1, a2, a3, a4, a5, a6, a7, a8, a9, a10, a11]] w' fun e w'' => e = .returned (.bool (mayN na)) ∧ Q w9 w'') := fun w' q => (may_any _ na w' (HA9.out _ q) hfit.out.da).mono fun _ _ h => ⟨h.1, q.trans h.2⟩
      have CM2 : Hid (∀ w', Q w9 w' → Calls Tryz.prog 13 #[.agg #[a0, a1, a2, a3, a4, a5, a6, a7, a8, a9, a10, a11]] w' fun e w'' => e = .returned (.bool (mayN na)) ∧ Q w9 w'') := fun w' q => (rMayN_any _ na w' (HA9.out _ q) hfit.out.da htg).mono fun _ _ h => ⟨h.1, q.trans h.2⟩
      have CX : Hid (∀ w', Q w9 w' → Calls Tryz.prog 14 #[.agg #[x0, x1, x2, x3, x4, x5, x6, x7, x8, x9, x10, x11], .agg #[y0, y1, y2, y3, y4, y5, y6, y7, y8, y9, y10, y11]] w' fun e w'' => e = .returned (.bool (decide (n1 = n1))) ∧ Q w9 w'') := fun w' q => (sameNRef_any _ _ n1 n1 w' (hx.out.keep q) (hy.out.keep q)).mono fun _ _ h => ⟨h.1, q.trans h.2⟩
      have CU : Hid (∀ w', Q w9 w' → Calls Tryz.prog 14 #[.agg #[u0, u1, u2, u3, u4, u5, u6, u7, u8, u9, u10, u11], .agg #[v0, v1, v2, v3, v4, v5, v6, v7, v8, v9, v10, v11]] w' fun e w'' => e = .returned (.bool (decide (n2 = n2))) ∧ Q w9 w'') := fun w' q => (sameNRef_any _ _ n2 n2 w' (hu.out.keep q) (hv.out.keep q)).mono fun _ _ h => ⟨h.1, q.trans h.2⟩
      have CD1 : Hid (∀ w', Q w9 w' → Calls Tryz.prog 15 #[.agg #[a0, a1, a2, a3, a4, a5, a6, a7, a8, a9, a10, a11], .agg #[b0, b1, b2, b3, b4, b5, b6, b7, b8, b9, b10, b11]] w' fun e w'' => e = .returned (.string (diffN na nb)) ∧ Q w9 w'') := fun w' q => (diffN_any _ _ na nb w' (HA9.out _ q) (HB9.out _ q)).mono fun _ _ h => ⟨h.1, q.trans h.2⟩
      have CD2 : Hid (∀ w', Q w9 w' → Calls Tryz.prog 16 #[.agg #[a0, a1, a2, a3, a4, a5, a6, a7, a8, a9, a10, a11], .agg #[b0, b1, b2, b3, b4, b5, b6, b7, b8, b9, b10, b11]] w' fun e w'' => e = .returned (.string (diffN na nb)) ∧ Q w9 w'') := fun w' q => (diffNRef_any _ _ na nb w' (HA9.out _ q) (HB9.out _ q)).mono fun _ _ h => ⟨h.1, q.trans h.2⟩
      have CS1 : Hid (∀ w', Q w9 w' → Calls Tryz.prog 17 #[.agg #[a0, a1, a2, a3, a4, a5, a6, a7, a8, a9, a10, a11], .agg #[b0, b1, b2, b3, b4, b5, b6, b7, b8, b9, b10, b11]] w' fun e w'' => e = .returned (.bool (decide (na = nb))) ∧ Q w9 w'') := fun w' q => (sameN_any _ _ na nb w' (HA9.out _ q) (HB9.out _ q)).mono fun _ _ h => ⟨h.1, q.trans h.2⟩
      have CS2 : Hid (∀ w', Q w9 w' → Calls Tryz.prog 14 #[.agg #[a0, a1, a2, a3, a4, a5, a6, a7, a8, a9, a10, a11], .agg #[b0, b1, b2, b3, b4, b5, b6, b7, b8, b9, b10, b11]] w' fun e w'' => e = .returned (.bool (decide (na = nb))) ∧ Q w9 w'') := fun w' q => (sameNRef_any _ _ na nb w' (HA9.out _ q) (HB9.out _ q)).mono fun _ _ h => ⟨h.1, q.trans h.2⟩
      have CB1 : Hid (∀ w', Q w9 w' → Calls Tryz.prog 18 #[.agg #[a0, a1, a2, a3, a4, a5, a6, a7, a8, a9, a10, a11]] w' fun e w'' => e = .returned (.int .i64 (sumP na.data : Nat)) ∧ Q w9 w'') := fun w' q => (bytes_any _ na w' (HA9.out _ q) hfit.out.da).mono fun _ _ h => ⟨h.1, q.trans h.2⟩
      have CB2 : Hid (∀ w', Q w9 w' → Calls Tryz.prog 19 #[.agg #[a0, a1, a2, a3, a4, a5, a6, a7, a8, a9, a10, a11]] w' fun e w'' => e = .returned (.int .i64 (sumP na.data : Nat)) ∧ Q w9 w'') := fun w' q => (rBytes_any _ na w' (HA9.out _ q) hfit.out.da).mono fun _ _ h => ⟨h.1, q.trans h.2.q⟩
      have CE1 : Hid (∀ w', Q w9 w' → Calls Tryz.prog 21 #[.agg #[a0, a1, a2, a3, a4, a5, a6, a7, a8, a9, a10, a11]] w' fun e w'' => ∃ A1 k1, e = .returned (.slice A1 na.data.length k1) ∧ (∀ w3, Q w'' w3 → ExtsAt w3 (.slice A1 na.data.length k1) (na.data.map xOf)) ∧ Q w' w'' ∧ Q w9 w'') := fun w' q => (nodeExtents_any _ na w' (HA9.out _ q) hfit.out.da.1).mono (by
        rintro e w'' ⟨v', rfl, ho, q'⟩
        have hx' : ExtsAt w'' v' (na.data.map xOf) := ExtsAt.of_own (base := w'.heap.size) (e := 57) (by rw [List.length_map]; exact ho)
        obtain ⟨A1, k1, e1⟩ := hx'.form
        rw [List.length_map] at e1
        subst e1
        exact ⟨A1, k1, rfl, fun w3 q3 => hx'.keep q3, q', q.trans q'⟩)
      have CE2 : Hid (∀ w', Q w9 w' → Calls Tryz.prog 22 #[.agg #[a0, a1, a2, a3, a4, a5, a6, a7, a8, a9, a10, a11]] w' fun e w'' => ∃ A1 k1, e = .returned (.slice A1 na.data.length k1) ∧ (∀ w3, Q w'' w3 → ExtsAt w3 (.slice A1 na.data.length k1) (na.data.map xOf)) ∧ Q w' w'' ∧ Q w9 w'') := fun w' q => (rExtents_any _ na w' (HA9.out _ q) hfit.out.da.1).mono (by
        rintro e w'' ⟨v', rfl, ho, q'⟩
        have hx' : ExtsAt w'' v' (na.data.map xOf) := exts_own ho
        obtain ⟨A1, k1, e1⟩ := hx'.form
        rw [List.length_map] at e1
        subst e1
        exact ⟨A1, k1, rfl, fun w3 q3 => hx'.keep q3, q', q.trans q'⟩)
      have CL : Hid (∀ v1 v2 w', ExtsAt w' v1 (na.data.map xOf) → ExtsAt w' v2 (na.data.map xOf) → Q w9 w' → Calls Tryz.prog 20 #[v1, v2] w' fun e w'' => e = .returned (.bool (decide (na.data.map xOf = na.data.map xOf))) ∧ Q w9 w'') := fun v1 v2 w' h1 h2 q => (Ex.same_any v1 v2 _ _ w' h1 h2 (fun y hy => by obtain ⟨p, _, rfl⟩ := List.mem_map.1 hy; exact xOf_ok p) (fun y hy => by obtain ⟨p, _, rfl⟩ := List.mem_map.1 hy; exact xOf_ok p)).mono fun _ _ h => ⟨h.1, q.trans h.2⟩
      rw [decide_eq_true rfl] at CX CU CL
      generalize mayN na = bm at *
      generalize diffN na nb = dd at *
      generalize decide (na = nb) = bs at *
      generalize sumP na.data = sb at *
      generalize na.data.map xOf = lx at *
      generalize na.data.length = ln at *
      have ka0 : ∀ w', Q w9 w' → w'.cell? ⟨gA, 0, none⟩ = some a0 := fun w' q => (xa.keep q).cells.1
      have ka1 : ∀ w', Q w9 w' → w'.cell? ⟨gA, 1, none⟩ = some a1 := fun w' q => (xa.keep q).cells.2.1
      have ka2 : ∀ w', Q w9 w' → w'.cell? ⟨gA, 2, none⟩ = some a2 := fun w' q => (xa.keep q).cells.2.2.1
      have ka3 : ∀ w', Q w9 w' → w'.cell? ⟨gA, 3, none⟩ = some a3 := fun w' q => (xa.keep q).cells.2.2.2.1
      have ka4 : ∀ w', Q w9 w' → w'.cell? ⟨gA, 4, none⟩ = some a4 := fun w' q => (xa.keep q).cells.2.2.2.2.1
      have ka5 : ∀ w', Q w9 w' → w'.cell? ⟨gA, 5, none⟩ = some a5 := fun w' q => (xa.keep q).cells.2.2.2.2.2.1
      have ka6 : ∀ w', Q w9 w' → w'.cell? ⟨gA, 6, none⟩ = some a6 := fun w' q => (xa.keep q).cells.2.2.2.2.2.2.1
      have ka7 : ∀ w', Q w9 w' → w'.cell? ⟨gA, 7, none⟩ = some a7 := fun w' q => (xa.keep q).cells.2.2.2.2.2.2.2.1
      have ka8 : ∀ w', Q w9 w' → w'.cell? ⟨gA, 8, none⟩ = some a8 := fun w' q => (xa.keep q).cells.2.2.2.2.2.2.2.2.1
      have ka9 : ∀ w', Q w9 w' → w'.cell? ⟨gA, 9, none⟩ = some a9 := fun w' q => (xa.keep q).cells.2.2.2.2.2.2.2.2.2.1
      have ka10 : ∀ w', Q w9 w' → w'.cell? ⟨gA, 10, none⟩ = some a10 := fun w' q => (xa.keep q).cells.2.2.2.2.2.2.2.2.2.2.1
      have ka11 : ∀ w', Q w9 w' → w'.cell? ⟨gA, 11, none⟩ = some a11 := fun w' q => (xa.keep q).cells.2.2.2.2.2.2.2.2.2.2.2
      have kb0 : ∀ w', Q w9 w' → w'.cell? ⟨gB, 0, none⟩ = some b0 := fun w' q => (xb.keep q).cells.1
      have kb1 : ∀ w', Q w9 w' → w'.cell? ⟨gB, 1, none⟩ = some b1 := fun w' q => (xb.keep q).cells.2.1
      have kb2 : ∀ w', Q w9 w' → w'.cell? ⟨gB, 2, none⟩ = some b2 := fun w' q => (xb.keep q).cells.2.2.1
      have kb3 : ∀ w', Q w9 w' → w'.cell? ⟨gB, 3, none⟩ = some b3 := fun w' q => (xb.keep q).cells.2.2.2.1
      have kb4 : ∀ w', Q w9 w' → w'.cell? ⟨gB, 4, none⟩ = some b4 := fun w' q => (xb.keep q).cells.2.2.2.2.1
      have kb5 : ∀ w', Q w9 w' → w'.cell? ⟨gB, 5, none⟩ = some b5 := fun w' q => (xb.keep q).cells.2.2.2.2.2.1
      have kb6 : ∀ w', Q w9 w' → w'.cell? ⟨gB, 6, none⟩ = some b6 := fun w' q => (xb.keep q).cells.2.2.2.2.2.2.1
      have kb7 : ∀ w', Q w9 w' → w'.cell? ⟨gB, 7, none⟩ = some b7 := fun w' q => (xb.keep q).cells.2.2.2.2.2.2.2.1
      have kb8 : ∀ w', Q w9 w' → w'.cell? ⟨gB, 8, none⟩ = some b8 := fun w' q => (xb.keep q).cells.2.2.2.2.2.2.2.2.1
      have kb9 : ∀ w', Q w9 w' → w'.cell? ⟨gB, 9, none⟩ = some b9 := fun w' q => (xb.keep q).cells.2.2.2.2.2.2.2.2.2.1
      have kb10 : ∀ w', Q w9 w' → w'.cell? ⟨gB, 10, none⟩ = some b10 := fun w' q => (xb.keep q).cells.2.2.2.2.2.2.2.2.2.2.1
      have kb11 : ∀ w', Q w9 w' → w'.cell? ⟨gB, 11, none⟩ = some b11 := fun w' q => (xb.keep q).cells.2.2.2.2.2.2.2.2.2.2.2
      have kx0 : ∀ w', Q w9 w' → w'.cell? ⟨gX, 0, none⟩ = some x0 := fun w' q => (xx.keep q).cells.1
      have kx1 : ∀ w', Q w9 w' → w'.cell? ⟨gX, 1, none⟩ = some x1 := fun w' q => (xx.keep q).cells.2.1
      have kx2 : ∀ w', Q w9 w' → w'.cell? ⟨gX, 2, none⟩ = some x2 := fun w' q => (xx.keep q).cells.2.2.1
      have kx3 : ∀ w', Q w9 w' → w'.cell? ⟨gX, 3, none⟩ = some x3 := fun w' q => (xx.keep q).cells.2.2.2.1
      have kx4 : ∀ w', Q w9 w' → w'.cell? ⟨gX, 4, none⟩ = some x4 := fun w' q => (xx.keep q).cells.2.2.2.2.1
      have kx5 : ∀ w', Q w9 w' → w'.cell? ⟨gX, 5, none⟩ = some x5 := fun w' q => (xx.keep q).cells.2.2.2.2.2.1
      have kx6 : ∀ w', Q w9 w' → w'.cell? ⟨gX, 6, none⟩ = some x6 := fun w' q => (xx.keep q).cells.2.2.2.2.2.2.1
      have kx7 : ∀ w', Q w9 w' → w'.cell? ⟨gX, 7, none⟩ = some x7 := fun w' q => (xx.keep q).cells.2.2.2.2.2.2.2.1
      have kx8 : ∀ w', Q w9 w' → w'.cell? ⟨gX, 8, none⟩ = some x8 := fun w' q => (xx.keep q).cells.2.2.2.2.2.2.2.2.1
      have kx9 : ∀ w', Q w9 w' → w'.cell? ⟨gX, 9, none⟩ = some x9 := fun w' q => (xx.keep q).cells.2.2.2.2.2.2.2.2.2.1
      have kx10 : ∀ w', Q w9 w' → w'.cell? ⟨gX, 10, none⟩ = some x10 := fun w' q => (xx.keep q).cells.2.2.2.2.2.2.2.2.2.2.1
      have kx11 : ∀ w', Q w9 w' → w'.cell? ⟨gX, 11, none⟩ = some x11 := fun w' q => (xx.keep q).cells.2.2.2.2.2.2.2.2.2.2.2
      have ky0 : ∀ w', Q w9 w' → w'.cell? ⟨gY, 0, none⟩ = some y0 := fun w' q => (xy.keep q).cells.1
      have ky1 : ∀ w', Q w9 w' → w'.cell? ⟨gY, 1, none⟩ = some y1 := fun w' q => (xy.keep q).cells.2.1
      have ky2 : ∀ w', Q w9 w' → w'.cell? ⟨gY, 2, none⟩ = some y2 := fun w' q => (xy.keep q).cells.2.2.1
      have ky3 : ∀ w', Q w9 w' → w'.cell? ⟨gY, 3, none⟩ = some y3 := fun w' q => (xy.keep q).cells.2.2.2.1
      have ky4 : ∀ w', Q w9 w' → w'.cell? ⟨gY, 4, none⟩ = some y4 := fun w' q => (xy.keep q).cells.2.2.2.2.1
      have ky5 : ∀ w', Q w9 w' → w'.cell? ⟨gY, 5, none⟩ = some y5 := fun w' q => (xy.keep q).cells.2.2.2.2.2.1
      have ky6 : ∀ w', Q w9 w' → w'.cell? ⟨gY, 6, none⟩ = some y6 := fun w' q => (xy.keep q).cells.2.2.2.2.2.2.1
      have ky7 : ∀ w', Q w9 w' → w'.cell? ⟨gY, 7, none⟩ = some y7 := fun w' q => (xy.keep q).cells.2.2.2.2.2.2.2.1
      have ky8 : ∀ w', Q w9 w' → w'.cell? ⟨gY, 8, none⟩ = some y8 := fun w' q => (xy.keep q).cells.2.2.2.2.2.2.2.2.1
      have ky9 : ∀ w', Q w9 w' → w'.cell? ⟨gY, 9, none⟩ = some y9 := fun w' q => (xy.keep q).cells.2.2.2.2.2.2.2.2.2.1
      have ky10 : ∀ w', Q w9 w' → w'.cell? ⟨gY, 10, none⟩ = some y10 := fun w' q => (xy.keep q).cells.2.2.2.2.2.2.2.2.2.2.1
      have ky11 : ∀ w', Q w9 w' → w'.cell? ⟨gY, 11, none⟩ = some y11 := fun w' q => (xy.keep q).cells.2.2.2.2.2.2.2.2.2.2.2
      have ku0 : ∀ w', Q w9 w' → w'.cell? ⟨gU, 0, none⟩ = some u0 := fun w' q => (xu.keep q).cells.1
      have ku1 : ∀ w', Q w9 w' → w'.cell? ⟨gU, 1, none⟩ = some u1 := fun w' q => (xu.keep q).cells.2.1
      have ku2 : ∀ w', Q w9 w' → w'.cell? ⟨gU, 2, none⟩ = some u2 := fun w' q => (xu.keep q).cells.2.2.1
      have ku3 : ∀ w', Q w9 w' → w'.cell? ⟨gU, 3, none⟩ = some u3 := fun w' q => (xu.keep q).cells.2.2.2.1
      have ku4 : ∀ w', Q w9 w' → w'.cell? ⟨gU, 4, none⟩ = some u4 := fun w' q => (xu.keep q).cells.2.2.2.2.1
      have ku5 : ∀ w', Q w9 w' → w'.cell? ⟨gU, 5, none⟩ = some u5 := fun w' q => (xu.keep q).cells.2.2.2.2.2.1
      have ku6 : ∀ w', Q w9 w' → w'.cell? ⟨gU, 6, none⟩ = some u6 := fun w' q => (xu.keep q).cells.2.2.2.2.2.2.1
      have ku7 : ∀ w', Q w9 w' → w'.cell? ⟨gU, 7, none⟩ = some u7 := fun w' q => (xu.keep q).cells.2.2.2.2.2.2.2.1
      have ku8 : ∀ w', Q w9 w' → w'.cell? ⟨gU, 8, none⟩ = some u8 := fun w' q => (xu.keep q).cells.2.2.2.2.2.2.2.2.1
      have ku9 : ∀ w', Q w9 w' → w'.cell? ⟨gU, 9, none⟩ = some u9 := fun w' q => (xu.keep q).cells.2.2.2.2.2.2.2.2.2.1
      have ku10 : ∀ w', Q w9 w' → w'.cell? ⟨gU, 10, none⟩ = some u10 := fun w' q => (xu.keep q).cells.2.2.2.2.2.2.2.2.2.2.1
      have ku11 : ∀ w', Q w9 w' → w'.cell? ⟨gU, 11, none⟩ = some u11 := fun w' q => (xu.keep q).cells.2.2.2.2.2.2.2.2.2.2.2
      have kv0 : ∀ w', Q w9 w' → w'.cell? ⟨gV, 0, none⟩ = some v0 := fun w' q => (xv.keep q).cells.1
      have kv1 : ∀ w', Q w9 w' → w'.cell? ⟨gV, 1, none⟩ = some v1 := fun w' q => (xv.keep q).cells.2.1
      have kv2 : ∀ w', Q w9 w' → w'.cell? ⟨gV, 2, none⟩ = some v2 := fun w' q => (xv.keep q).cells.2.2.1
      have kv3 : ∀ w', Q w9 w' → w'.cell? ⟨gV, 3, none⟩ = some v3 := fun w' q => (xv.keep q).cells.2.2.2.1
      have kv4 : ∀ w', Q w9 w' → w'.cell? ⟨gV, 4, none⟩ = some v4 := fun w' q => (xv.keep q).cells.2.2.2.2.1
      have kv5 : ∀ w', Q w9 w' → w'.cell? ⟨gV, 5, none⟩ = some v5 := fun w' q => (xv.keep q).cells.2.2.2.2.2.1
      have kv6 : ∀ w', Q w9 w' → w'.cell? ⟨gV, 6, none⟩ = some v6 := fun w' q => (xv.keep q).cells.2.2.2.2.2.2.1
      have kv7 : ∀ w', Q w9 w' → w'.cell? ⟨gV, 7, none⟩ = some v7 := fun w' q => (xv.keep q).cells.2.2.2.2.2.2.2.1
      have kv8 : ∀ w', Q w9 w' → w'.cell? ⟨gV, 8, none⟩ = some v8 := fun w' q => (xv.keep q).cells.2.2.2.2.2.2.2.2.1
      have kv9 : ∀ w', Q w9 w' → w'.cell? ⟨gV, 9, none⟩ = some v9 := fun w' q => (xv.keep q).cells.2.2.2.2.2.2.2.2.2.1
      have kv10 : ∀ w', Q w9 w' → w'.cell? ⟨gV, 10, none⟩ = some v10 := fun w' q => (xv.keep q).cells.2.2.2.2.2.2.2.2.2.2.1
      have kv11 : ∀ w', Q w9 w' → w'.cell? ⟨gV, 11, none⟩ = some v11 := fun w' q => (xv.keep q).cells.2.2.2.2.2.2.2.2.2.2.2
      clear HA9 HB9 HA HB hx hy hu hv hfit htg xa xb xx xy xu xv
      go_wp2_with fail
      simp only [List.append_eq, List.cons_append, List.nil_append]
      as_aux_lemma =>
        go_region_held3 (fun w' => Q w9 w') (first | assumption | exact Q.drew (Q.refl _) | exact Q.drew (by assumption)) (first
          | (go_at_call 5; refine (CT.out _ (by assumption)).mono ?_; rintro e wn ⟨rfl, qn⟩)
          | (go_at_call 12; refine (CM1.out _ (by assumption)).mono ?_; rintro e wn ⟨rfl, qn⟩)
          | (go_at_call 13; refine (CM2.out _ (by assumption)).mono ?_; rintro e wn ⟨rfl, qn⟩)
          | (go_at_call_of 14 x0; refine (CX.out _ (by assumption)).mono ?_; rintro e wn ⟨rfl, qn⟩)
          | (go_at_call_of 14 u0; refine (CU.out _ (by assumption)).mono ?_; rintro e wn ⟨rfl, qn⟩)
          | (go_at_call_of 14 a0; refine (CS2.out _ (by assumption)).mono ?_; rintro e wn ⟨rfl, qn⟩)
          | (go_at_call 15; refine (CD1.out _ (by assumption)).mono ?_; rintro e wn ⟨rfl, qn⟩)
          | (go_at_call 16; refine (CD2.out _ (by assumption)).mono ?_; rintro e wn ⟨rfl, qn⟩)
          | (go_at_call 17; refine (CS1.out _ (by assumption)).mono ?_; rintro e wn ⟨rfl, qn⟩)
          | (go_at_call 18; refine (CB1.out _ (by assumption)).mono ?_; rintro e wn ⟨rfl, qn⟩)
          | (go_at_call 19; refine (CB2.out _ (by assumption)).mono ?_; rintro e wn ⟨rfl, qn⟩)
          | (go_at_call 21; refine (CE1.out _ (by assumption)).mono ?_; rintro e we ⟨A1, k1, rfl, hE1, qe1, qn1⟩)
          | (go_at_call 22; refine (CE2.out _ (by assumption)).mono ?_; rintro e wf ⟨A2, k2, rfl, hE2, qe2, qn2⟩)
          | (go_at_call 20; refine (CL.out _ _ _ (hE1 _ qe2) (hE2 _ (Q.refl _)) qn2).mono ?_; rintro e wn ⟨rfl, qn⟩))
        go_wp2
        go_ret
        exact ⟨rfl, q1.trans (by assumption)⟩
end Go.Proofs.YtheobpilmphdjaaGreat.Nd.asks
