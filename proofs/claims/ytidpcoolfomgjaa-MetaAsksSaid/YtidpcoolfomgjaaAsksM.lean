/-
  For any two metadata: May, Norm, Diff, Same return what the document's own functions return, and a copy is the same as what it is a copy of.
-/
import Derived.Test.YtidpcoolfomgjaaToldT
import Derived.Test.YtidpcoolfomgjaaOpenM
import Derived.Test.YtidpcoolfomgjaaMayRef
import Derived.Test.YtidpcoolfomgjaaNormTRef
import Derived.Test.YtidpcoolfomgjaaFew
namespace Go.Proofs.Ytidpcoolfomgjaa.asks
open Go.ChangeShapes Go.WideShapes Go.ChangeAt Go.WideMaps Go.WideElems Go.RowKit

theorem normTRef_c (v : Value) (l r : List Attr) (c : Int) (w : World) (h : AtsAt w v l) (hl : l.length ≤ 30000) (hc : normCT l = c) (hr : NormRT l r) :
    Calls Try.prog 10 #[v] w fun e w' => ∃ v', e = .returned (.tuple #[v', .int .i64 c]) ∧ AtsAt w' v' r ∧ Q w w' := by
  refine (normTRef_any v l w h hl).mono ?_
  rintro e w' ⟨v', r', rfl, h1, h2, h3⟩
  exact ⟨v', by rw [hc], by rw [hr.uniq h3]; exact h1, h2⟩
theorem mayRef_c (v : Value) (m : Mt) (b : Bool) (w : World) (h : MetaAt w v m) (hb : mayM m = b) : Calls Try.prog 12 #[v] w fun e w' => e = .returned (.bool b) ∧ Q w w' := by
  refine (metaMayRef_any v m w h).mono ?_
  rintro e w' ⟨rfl, h1⟩
  exact ⟨by rw [hb], h1.q⟩
theorem diffRef_c (va vb : Value) (a b : Mt) (s : ByteArray) (w : World) (ha : MetaAt w va a) (hb : MetaAt w vb b) (hs : diffM a b = s) : Calls Try.prog 15 #[va, vb] w fun e w' => e = .returned (.string s) ∧ Q w w' := by
  refine (diffRef_any va vb a b w ha hb).mono ?_
  rintro e w' ⟨rfl, h1⟩
  exact ⟨by rw [hs], h1⟩
theorem sameTRef_c (va vb : Value) (a b : List Attr) (r : Bool) (w : World) (ha : AtsAt w va a) (hb : AtsAt w vb b) (hr : decide (a = b) = r) : Calls Try.prog 13 #[va, vb] w fun e w' => e = .returned (.bool r) ∧ Q w w' := by
  refine (sameTRef_any va vb a b w ha hb).mono ?_
  rintro e w' ⟨rfl, h1⟩
  exact ⟨by rw [hr], h1⟩
theorem few_c (v : Value) (m : Mt) (b : Bool) (w : World) (h : MetaAt w v m) (hb : fewM m = b) : Calls Try.prog 7 #[v] w fun e w' => e = .returned (.bool b) ∧ Q w w' := by
  refine (few_any v m w h).mono ?_
  rintro e w' ⟨rfl, h1⟩
  exact ⟨by rw [hb], h1.q⟩

set_option maxHeartbeats 8000000 in
set_option maxRecDepth 100000 in
theorem walk (va vb : Value) (a b : Mt) (w : World) (ha : MetaAt w va a) (hb : MetaAt w vb b) :
    Calls Try.prog 3 #[va, vb] w fun e w' => e = .returned (.bool true) ∧ Q w w' := by
  have HMA : Hid (∀ w', Q w w' → MetaAt w' va a) := fun w' q => ha.keep q
  have HMB : Hid (∀ w', Q w w' → MetaAt w' vb b) := fun w' q => hb.keep q
  obtain ⟨xa, xl, rfl, ta, la⟩ := ha
  obtain ⟨ya, yl, rfl, tb, lb⟩ := hb
  unfold metaV at *
  have mixed : Try.prog.follows .mixedOrders = true := by kernel_rfl
  obtain ⟨f1, hf1⟩ : ∃ f, fewM a = f := ⟨_, rfl⟩
  obtain ⟨f2, hf2⟩ : ∃ f, fewM b = f := ⟨_, rfl⟩
  have F1 := Lib.hid hf1
  have F2 := Lib.hid hf2
  clear hf1 hf2
  go_enter Try.func3, Try.ntmps3
  go_wp2_with fail
  have x0 : ((w.alloc (.cells #[.int .i64 a.mode, .int .i64 a.uid, .int .i64 a.gid, .int .i64 a.time, xa, xl] 25)).alloc (.cells #[.int .i64 b.mode, .int .i64 b.uid, .int .i64 b.gid, .int .i64 b.time, ya, yl] 25)).cell? ⟨w.heap.size, 0, none⟩ = some (.int .i64 a.mode) := by simp
  have x1 : ((w.alloc (.cells #[.int .i64 a.mode, .int .i64 a.uid, .int .i64 a.gid, .int .i64 a.time, xa, xl] 25)).alloc (.cells #[.int .i64 b.mode, .int .i64 b.uid, .int .i64 b.gid, .int .i64 b.time, ya, yl] 25)).cell? ⟨w.heap.size, 1, none⟩ = some (.int .i64 a.uid) := by simp
  have x2 : ((w.alloc (.cells #[.int .i64 a.mode, .int .i64 a.uid, .int .i64 a.gid, .int .i64 a.time, xa, xl] 25)).alloc (.cells #[.int .i64 b.mode, .int .i64 b.uid, .int .i64 b.gid, .int .i64 b.time, ya, yl] 25)).cell? ⟨w.heap.size, 2, none⟩ = some (.int .i64 a.gid) := by simp
  have x3 : ((w.alloc (.cells #[.int .i64 a.mode, .int .i64 a.uid, .int .i64 a.gid, .int .i64 a.time, xa, xl] 25)).alloc (.cells #[.int .i64 b.mode, .int .i64 b.uid, .int .i64 b.gid, .int .i64 b.time, ya, yl] 25)).cell? ⟨w.heap.size, 3, none⟩ = some (.int .i64 a.time) := by simp
  have x4 : ((w.alloc (.cells #[.int .i64 a.mode, .int .i64 a.uid, .int .i64 a.gid, .int .i64 a.time, xa, xl] 25)).alloc (.cells #[.int .i64 b.mode, .int .i64 b.uid, .int .i64 b.gid, .int .i64 b.time, ya, yl] 25)).cell? ⟨w.heap.size, 4, none⟩ = some (xa) := by simp
  have x5 : ((w.alloc (.cells #[.int .i64 a.mode, .int .i64 a.uid, .int .i64 a.gid, .int .i64 a.time, xa, xl] 25)).alloc (.cells #[.int .i64 b.mode, .int .i64 b.uid, .int .i64 b.gid, .int .i64 b.time, ya, yl] 25)).cell? ⟨w.heap.size, 5, none⟩ = some (xl) := by simp
  have y0 : ((w.alloc (.cells #[.int .i64 a.mode, .int .i64 a.uid, .int .i64 a.gid, .int .i64 a.time, xa, xl] 25)).alloc (.cells #[.int .i64 b.mode, .int .i64 b.uid, .int .i64 b.gid, .int .i64 b.time, ya, yl] 25)).cell? ⟨w.heap.size + 1, 0, none⟩ = some (.int .i64 b.mode) := by simp
  have y1 : ((w.alloc (.cells #[.int .i64 a.mode, .int .i64 a.uid, .int .i64 a.gid, .int .i64 a.time, xa, xl] 25)).alloc (.cells #[.int .i64 b.mode, .int .i64 b.uid, .int .i64 b.gid, .int .i64 b.time, ya, yl] 25)).cell? ⟨w.heap.size + 1, 1, none⟩ = some (.int .i64 b.uid) := by simp
  have y2 : ((w.alloc (.cells #[.int .i64 a.mode, .int .i64 a.uid, .int .i64 a.gid, .int .i64 a.time, xa, xl] 25)).alloc (.cells #[.int .i64 b.mode, .int .i64 b.uid, .int .i64 b.gid, .int .i64 b.time, ya, yl] 25)).cell? ⟨w.heap.size + 1, 2, none⟩ = some (.int .i64 b.gid) := by simp
  have y3 : ((w.alloc (.cells #[.int .i64 a.mode, .int .i64 a.uid, .int .i64 a.gid, .int .i64 a.time, xa, xl] 25)).alloc (.cells #[.int .i64 b.mode, .int .i64 b.uid, .int .i64 b.gid, .int .i64 b.time, ya, yl] 25)).cell? ⟨w.heap.size + 1, 3, none⟩ = some (.int .i64 b.time) := by simp
  have y4 : ((w.alloc (.cells #[.int .i64 a.mode, .int .i64 a.uid, .int .i64 a.gid, .int .i64 a.time, xa, xl] 25)).alloc (.cells #[.int .i64 b.mode, .int .i64 b.uid, .int .i64 b.gid, .int .i64 b.time, ya, yl] 25)).cell? ⟨w.heap.size + 1, 4, none⟩ = some (ya) := by simp
  have y5 : ((w.alloc (.cells #[.int .i64 a.mode, .int .i64 a.uid, .int .i64 a.gid, .int .i64 a.time, xa, xl] 25)).alloc (.cells #[.int .i64 b.mode, .int .i64 b.uid, .int .i64 b.gid, .int .i64 b.time, ya, yl] 25)).cell? ⟨w.heap.size + 1, 5, none⟩ = some (yl) := by simp
  have q0 : Q w ((w.alloc (.cells #[.int .i64 a.mode, .int .i64 a.uid, .int .i64 a.gid, .int .i64 a.time, xa, xl] 25)).alloc (.cells #[.int .i64 b.mode, .int .i64 b.uid, .int .i64 b.gid, .int .i64 b.time, ya, yl] 25)) := ((Q.refl _).alloc _).alloc _
  generalize ((w.alloc (.cells #[.int .i64 a.mode, .int .i64 a.uid, .int .i64 a.gid, .int .i64 a.time, xa, xl] 25)).alloc (.cells #[.int .i64 b.mode, .int .i64 b.uid, .int .i64 b.gid, .int .i64 b.time, ya, yl] 25)) = w2 at *
  refine (few_c _ a f1 _ (HMA.out _ q0) F1.out).mono ?_
  rintro e w3 ⟨rfl, q3⟩
  replace x0 := q3.cell x0
  replace x1 := q3.cell x1
  replace x2 := q3.cell x2
  replace x3 := q3.cell x3
  replace x4 := q3.cell x4
  replace x5 := q3.cell x5
  replace y0 := q3.cell y0
  replace y1 := q3.cell y1
  replace y2 := q3.cell y2
  replace y3 := q3.cell y3
  replace y4 := q3.cell y4
  replace y5 := q3.cell y5
  replace q0 := q0.trans q3
  clear q3
  cases f1 with
  | false =>
    go_wp2_with fail
    refine (told_any _).mono ?_
    rintro e w4 ⟨rfl, q4⟩
    go_wp2
    go_ret
    exact ⟨rfl, q0.trans q4⟩
  | true =>
  go_wp2_with fail
  refine (few_c _ b f2 _ (HMB.out _ q0) F2.out).mono ?_
  rintro e w4 ⟨rfl, q4⟩
  replace x0 := q4.cell x0
  replace x1 := q4.cell x1
  replace x2 := q4.cell x2
  replace x3 := q4.cell x3
  replace x4 := q4.cell x4
  replace x5 := q4.cell x5
  replace y0 := q4.cell y0
  replace y1 := q4.cell y1
  replace y2 := q4.cell y2
  replace y3 := q4.cell y3
  replace y4 := q4.cell y4
  replace y5 := q4.cell y5
  replace q0 := q0.trans q4
  clear q4
  cases f2 with
  | false =>
    go_wp2_with fail
    refine (told_any _).mono ?_
    rintro e w5 ⟨rfl, q5⟩
    go_wp2
    go_ret
    exact ⟨rfl, q0.trans q5⟩
  | true =>
  obtain ⟨-, L12, L20⟩ := fewM_bounds F1.out
  have L1 := Lib.hid L12
  have L2 := Lib.hid L20
  clear L12 L20
  obtain ⟨c0, hc⟩ : ∃ c, normCT a.attrs = c := ⟨_, rfl⟩
  obtain ⟨n, hn⟩ := normT_some a.attrs
  obtain ⟨b1, hb1⟩ : ∃ c, mayM a = c := ⟨_, rfl⟩
  obtain ⟨s, hs⟩ : ∃ c, diffM a b = c := ⟨_, rfl⟩
  obtain ⟨b4, hb4⟩ : ∃ c, decide (a = b) = c := ⟨_, rfl⟩
  have hE : s.toList.isEmpty = b4 := by rw [← hs, ← hb4]; exact diffM_empty a b
  have C := Lib.hid hc
  have N := Lib.hid hn
  have B1 := Lib.hid hb1
  have D := Lib.hid hs
  have B4 := Lib.hid hb4
  clear hc hn hb1 hs hb4 la lb tb
  go_wp2_with fail
  refine (normT_c _ a.attrs n c0 _ (ta.keep q0) (by have := L1.out; omega) C.out N.out).mono ?_
  rintro e w5 ⟨vx, rfl, hx, q5⟩
  replace x0 := q5.cell x0
  replace x1 := q5.cell x1
  replace x2 := q5.cell x2
  replace x3 := q5.cell x3
  replace x4 := q5.cell x4
  replace x5 := q5.cell x5
  replace y0 := q5.cell y0
  replace y1 := q5.cell y1
  replace y2 := q5.cell y2
  replace y3 := q5.cell y3
  replace y4 := q5.cell y4
  replace y5 := q5.cell y5
  replace q0 := q0.trans q5
  clear q5
  go_wp2_with fail
  refine (normTRef_c _ a.attrs n c0 _ (ta.keep q0) (by have := L1.out; omega) C.out N.out).mono ?_
  rintro e w6 ⟨vy, rfl, hy, q6⟩
  replace hx := hx.keep q6
  replace x0 := q6.cell x0
  replace x1 := q6.cell x1
  replace x2 := q6.cell x2
  replace x3 := q6.cell x3
  replace x4 := q6.cell x4
  replace x5 := q6.cell x5
  replace y0 := q6.cell y0
  replace y1 := q6.cell y1
  replace y2 := q6.cell y2
  replace y3 := q6.cell y3
  replace y4 := q6.cell y4
  replace y5 := q6.cell y5
  replace q0 := q0.trans q6
  clear q6
  go_wp2_with fail
  have QA : Hid (∀ w', Q w6 w' → MetaAt w' (.agg #[.int .i64 a.mode, .int .i64 a.uid, .int .i64 a.gid, .int .i64 a.time, xa, xl]) a) := fun w' q => HMA.out w' (q0.trans q)
  have QB : Hid (∀ w', Q w6 w' → MetaAt w' (.agg #[.int .i64 b.mode, .int .i64 b.uid, .int .i64 b.gid, .int .i64 b.time, ya, yl]) b) := fun w' q => HMB.out w' (q0.trans q)
  have HX : Hid (∀ w', Q w6 w' → AtsAt w' vx n) := fun w' q => hx.keep q
  have HY : Hid (∀ w', Q w6 w' → AtsAt w' vy n) := fun w' q => hy.keep q
  obtain ⟨Ax, cx, rfl⟩ := hx.form
  obtain ⟨Ay, cy, rfl⟩ := hy.form
  have tc : (c0 == c0) = true := by simp
  have tb1 : (b1 == b1) = true := by simp
  have tb4 : (b4 == b4) = true := by simp
  have ts : (s.toList == s.toList) = true := by simp
  clear hx hy ta HMA HMB F1 F2
  go_region_held3 (fun w' => Q w6 w' ∧ w'.cell? ⟨w.heap.size, 0, none⟩ = some (.int .i64 a.mode) ∧ w'.cell? ⟨w.heap.size, 1, none⟩ = some (.int .i64 a.uid) ∧ w'.cell? ⟨w.heap.size, 2, none⟩ = some (.int .i64 a.gid) ∧ w'.cell? ⟨w.heap.size, 3, none⟩ = some (.int .i64 a.time) ∧ w'.cell? ⟨w.heap.size, 4, none⟩ = some (xa) ∧ w'.cell? ⟨w.heap.size, 5, none⟩ = some (xl) ∧ w'.cell? ⟨w.heap.size + 1, 0, none⟩ = some (.int .i64 b.mode) ∧ w'.cell? ⟨w.heap.size + 1, 1, none⟩ = some (.int .i64 b.uid) ∧ w'.cell? ⟨w.heap.size + 1, 2, none⟩ = some (.int .i64 b.gid) ∧ w'.cell? ⟨w.heap.size + 1, 3, none⟩ = some (.int .i64 b.time) ∧ w'.cell? ⟨w.heap.size + 1, 4, none⟩ = some (ya) ∧ w'.cell? ⟨w.heap.size + 1, 5, none⟩ = some (yl)) (first | exact keep12 (by assumption) (by assumption) | exact keep12 ⟨Q.refl _, x0, x1, x2, x3, x4, x5, y0, y1, y2, y3, y4, y5⟩ (Q.drew (Q.refl _))) (first
    | (go_at_call 8; refine (told_any _).mono ?_; rintro e wn ⟨rfl, qn⟩)
    | (go_at_call 11; refine (metaMay_c _ a b1 _ (QA.out _ (And.left (by assumption))) B1.out).mono ?_; rintro e wn ⟨rfl, qn⟩)
    | (go_at_call 12; refine (mayRef_c _ a b1 _ (QA.out _ (And.left (by assumption))) B1.out).mono ?_; rintro e wn ⟨rfl, qn⟩)
    | (go_at_call 13; refine (sameTRef_c _ _ n n true _ (HX.out _ (And.left (by assumption))) (HY.out _ (And.left (by assumption))) (by simp)).mono ?_; rintro e wn ⟨rfl, qn⟩)
    | (go_at_call 14; refine (diff_c _ _ a b s _ (QA.out _ (And.left (by assumption))) (QB.out _ (And.left (by assumption))) D.out).mono ?_; rintro e wn ⟨rfl, qn⟩)
    | (go_at_call 15; refine (diffRef_c _ _ a b s _ (QA.out _ (And.left (by assumption))) (QB.out _ (And.left (by assumption))) D.out).mono ?_; rintro e wn ⟨rfl, qn⟩)
    | (go_at_call 17; refine (copy_any _ a _ (QA.out _ (And.left (by assumption))) (by have := L1.out; omega) (by have := L2.out; omega)).mono ?_; rintro e wn ⟨_, rfl, ⟨vc, lc, rfl, oc, ol⟩, qn⟩; have hcp : MetaAt wn _ a := OwnM.at_ ⟨vc, lc, rfl, oc, ol⟩)
    | (go_at_call_of 16 vc; refine (metaSame_c _ _ a a true _ hcp (QA.out _ (And.left (by assumption))) (by simp)).mono ?_; rintro e wn ⟨rfl, qn⟩)
    | (go_at_call 16; refine (metaSame_c _ _ a b b4 _ (QA.out _ (And.left (by assumption))) (QB.out _ (And.left (by assumption))) B4.out).mono ?_; rintro e wn ⟨rfl, qn⟩))
  go_wp2
  go_ret
  exact ⟨rfl, q0.trans (And.left (by assumption))⟩

/-! ### The row -/
set_option maxRecDepth 100000 in
theorem lifted (os : Os) (started : os.Started) (H : Type) (enc : TypeId × Value → H) :
    ReturnsInHanded {} Try.checked os 3 .any (Rows.metaAsksSpec.pre6 enc Try.prog Try.f3 Rows.metaAsksRow.domain false) (Rows.metaAsksSpec.post enc Try.prog Try.f3 false true false false) := by
  refine returnsInHanded_of_change (C := Try.checked) own started (by kernel_rfl) Try.func3
    (ChangeSpec.witness6 (enc := enc) (C := Try.checked) false ⟨#[], #[.agg #[.int .i64 0, .int .i64 0, .int .i64 0, .int .i64 0, .slice none 0 0, .slice none 0 0], .agg #[.int .i64 0, .int .i64 0, .int .i64 0, .int .i64 0, .slice none 0 0, .slice none 0 0]], []⟩ 8 (by kernel_rfl) (by kernel_rfl) (by kernel_rfl) (by kernel_rfl)) ?_
  intro W base args ds gs before hval0 hW hcnd _
  have hval : ∀ (j : Nat) t v, Try.f3.params[j]? = some t → args[j]? = some v → Value.okWide Try.prog W .any base t v := hval0
  have hW' := hW
  obtain ⟨p, q, hA0, hV, rfl, hfz, hnd⟩ := hW
  have hA : DataW.TrodAll enc Try.prog W 0 (fun _ => true) true Try.f3.params.toList args.toList ds p := hA0
  rw [Try.params3] at hA hval
  obtain ⟨v0, vs0, d0, ds0, p0, q0, hargs, rfl, rfl, h0, r0⟩ := trodAll_cons hA
  obtain ⟨v1, vs1, d1, ds1, p1, q1, rfl, rfl, rfl, h1, r1⟩ := trodAll_cons r0
  obtain ⟨rfl, rfl, rfl⟩ := trodAll_nil r1
  obtain rfl : args = #[v0, v1] := by cases args; simp_all
  obtain ⟨rfl, rfl⟩ := trodVars_none hV
  have k0 := h0
  have lt0 : ∀ x ∈ p0, x.block < W.heap.size := by obtain ⟨m, hm⟩ := k0; exact DataW.trod_lt m _ _ _ hm
  obtain ⟨z0, w0, f0⟩ := open_meta (hval 0 25 v0 rfl rfl) h0
  have k1 := h1
  have lt1 : ∀ x ∈ p1, x.block < W.heap.size := by obtain ⟨m, hm⟩ := k1; exact DataW.trod_lt m _ _ _ hm
  obtain ⟨z1, w1, f1⟩ := open_meta (hval 1 25 v1 rfl rfl) h1
  clear hA0 hval0
  try simp only [List.append_nil] at hW'
  refine (walk _ _ z0 z1 W w0 w1).mono fun e W' ⟨he, bel⟩ => ?_
  subst he
  exact ⟨_, rfl, _, _, _, [], _, [], hW', trodAll_mk1 (shut_bool Try.underlying4 _), (trodAll_cons_mk (Below.trod laidOut (by kernel_rfl) (of_decide_eq_true (by kernel_rfl)) k0 bel lt0) (trodAll_cons_mk (Below.trod laidOut (by kernel_rfl) (of_decide_eq_true (by kernel_rfl)) k1 bel lt1) trodAll_mk0)), rfl, Below.frame bel _, fun h => by cases h⟩

theorem over : Rows.metaAsksRow.holds Try.pinned (OpenSpec.ofChange Rows.metaAsksSpec) :=
  OpenClaim.holds_of_wide 3 Try.f3 rfl rfl rfl rfl rfl rfl rfl ⟨rfl, rfl, rfl, rfl, rfl⟩ rfl rfl rfl rfl rfl (by kernel_rfl) Try.func3 (by kernel_rfl)
    (of_decide_eq_true (by kernel_rfl)) (by unfold Func.isWrapper; first | (rw [if_pos (by decide +kernel)]; kernel_rfl) | (rw [if_neg (by decide +kernel)]; exact ⟨rfl, rfl⟩))
    (fun os started H enc _ => lifted os started H enc)

theorem proved : Rows.MetaAsksSaid := over


end Go.Proofs.Ytidpcoolfomgjaa.asks
