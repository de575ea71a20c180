/-
  For any valid metadata and any field: with that field changed, Diff returns its name, both ways round, and Same is false.
-/
import Derived.Test.YtidpcoolfomgjaaToldT
import Derived.Test.YtidpcoolfomgjaaOpenM
import Derived.Test.YtidpcoolfomgjaaFew
import Derived.Test.YtidpcoolfomgjaaNormTRef
namespace Go.Proofs.Ytidpcoolfomgjaa.parts
open Go.ChangeShapes Go.WideShapes Go.ChangeAt Go.WideMaps Go.WideElems Go.RowKit

theorem few_c (v : Value) (m : Mt) (b : Bool) (w : World) (h : MetaAt w v m) (hb : fewM m = b) : Calls Try.prog 7 #[v] w fun e w' => e = .returned (.bool b) ∧ Q w w' := by
  refine (few_any v m w h).mono ?_
  rintro e w' ⟨rfl, h1⟩
  exact ⟨by rw [hb], h1.q⟩
theorem ofInt_bxor (x y : Int) : BitVec.ofInt 64 (bits .xor .i64 x y) = BitVec.ofInt 64 x ^^^ BitVec.ofInt 64 y := by
  show BitVec.ofInt 64 (IntKind.i64.wrap ((BitVec.ofInt 64 x ^^^ BitVec.ofInt 64 y).toNat : Int)) = _
  rw [ofInt_wrap, BitVec.ofInt_natCast, BitVec.ofNat_toNat, BitVec.setWidth_eq]
theorem aces_built (w : World) (x : Ace) (t : TypeId) : AcesAt (w.alloc (.cells #[.int .i64 x.1, .int .i64 x.2.1, .int .i64 x.2.2] t)) (.slice (some ⟨w.heap.size, 0, none⟩) 1 1) [x] :=
  .inr ⟨w.heap.size, 0, 1, rfl, by simp, by unfold maxLen; omega, fun i hi => by
    obtain rfl : i = 0 := by simpa using hi
    simp⟩
/-- A number with its lowest bit turned is another. -/
theorem bxor_ne (x : Int) : bits .xor .i64 x 1 ≠ x := by
  intro e
  have h := ofInt_bxor x 1
  rw [e] at h
  have h2 : BitVec.ofInt 64 x ^^^ BitVec.ofInt 64 x = BitVec.ofInt 64 x ^^^ (BitVec.ofInt 64 x ^^^ BitVec.ofInt 64 1) := by rw [← h]
  rw [BitVec.xor_self, ← BitVec.xor_assoc, BitVec.xor_self, BitVec.zero_xor] at h2
  exact absurd h2 (by decide)

set_option maxHeartbeats 8000000 in
set_option maxRecDepth 100000 in
theorem walk (v : Value) (m : Mt) (part : Int) (w : World) (h : MetaAt w v m) :
    Calls Try.prog 4 #[v, .int .i64 part] w fun e w' => e = .returned (.bool true) ∧ Q w w' := by
  have HM : Hid (∀ w', Q w w' → MetaAt w' v m) := fun w' q => h.keep q
  obtain ⟨xa, xl, rfl, ta, la⟩ := h
  unfold metaV at *
  obtain ⟨f1, hf1⟩ : ∃ f, fewM m = f := ⟨_, rfl⟩
  obtain ⟨f2, hf2⟩ : ∃ f, mayM m = f := ⟨_, rfl⟩
  have F1 := Lib.hid hf1
  have F2 := Lib.hid hf2
  clear hf1 hf2
  go_enter Try.func4, Try.ntmps4
  go_wp2_with fail
  have x0 : (w.alloc (.cells #[.int .i64 m.mode, .int .i64 m.uid, .int .i64 m.gid, .int .i64 m.time, xa, xl] 25)).cell? ⟨w.heap.size, 0, none⟩ = some (.int .i64 m.mode) := by simp
  have x1 : (w.alloc (.cells #[.int .i64 m.mode, .int .i64 m.uid, .int .i64 m.gid, .int .i64 m.time, xa, xl] 25)).cell? ⟨w.heap.size, 1, none⟩ = some (.int .i64 m.uid) := by simp
  have x2 : (w.alloc (.cells #[.int .i64 m.mode, .int .i64 m.uid, .int .i64 m.gid, .int .i64 m.time, xa, xl] 25)).cell? ⟨w.heap.size, 2, none⟩ = some (.int .i64 m.gid) := by simp
  have x3 : (w.alloc (.cells #[.int .i64 m.mode, .int .i64 m.uid, .int .i64 m.gid, .int .i64 m.time, xa, xl] 25)).cell? ⟨w.heap.size, 3, none⟩ = some (.int .i64 m.time) := by simp
  have x4 : (w.alloc (.cells #[.int .i64 m.mode, .int .i64 m.uid, .int .i64 m.gid, .int .i64 m.time, xa, xl] 25)).cell? ⟨w.heap.size, 4, none⟩ = some (xa) := by simp
  have x5 : (w.alloc (.cells #[.int .i64 m.mode, .int .i64 m.uid, .int .i64 m.gid, .int .i64 m.time, xa, xl] 25)).cell? ⟨w.heap.size, 5, none⟩ = some (xl) := by simp
  have q0 : Q w (w.alloc (.cells #[.int .i64 m.mode, .int .i64 m.uid, .int .i64 m.gid, .int .i64 m.time, xa, xl] 25)) := (Q.refl _).alloc _
  generalize (w.alloc (.cells #[.int .i64 m.mode, .int .i64 m.uid, .int .i64 m.gid, .int .i64 m.time, xa, xl] 25)) = w2 at *
  refine (few_c _ m f1 _ (HM.out _ q0) F1.out).mono ?_
  rintro e w3 ⟨rfl, q3⟩
  replace x0 := q3.cell x0
  replace x1 := q3.cell x1
  replace x2 := q3.cell x2
  replace x3 := q3.cell x3
  replace x4 := q3.cell x4
  replace x5 := q3.cell x5
  replace q0 := q0.trans q3
  clear q3
  cases f1 with
  | false =>
    go_wp2_with fail
    refine (told_any _).mono ?_
    rintro e w4 ⟨rfl, q4⟩
    go_wp2
    go_ret
    exact ⟨rfl, q0.trans q4⟩
  | true =>
  go_wp2_with fail
  refine (metaMay_c _ m f2 _ (HM.out _ q0) F2.out).mono ?_
  rintro e w4 ⟨rfl, q4⟩
  replace x0 := q4.cell x0
  replace x1 := q4.cell x1
  replace x2 := q4.cell x2
  replace x3 := q4.cell x3
  replace x4 := q4.cell x4
  replace x5 := q4.cell x5
  replace q0 := q0.trans q4
  clear q4
  cases f2 with
  | false =>
    go_wp2_with fail
    refine (told_any _).mono ?_
    rintro e w5 ⟨rfl, q5⟩
    go_wp2
    go_ret
    exact ⟨rfl, q0.trans q5⟩
  | true =>
  obtain ⟨-, L12, L20⟩ := fewM_bounds F1.out
  have L1 := Lib.hid L12
  have L2 := Lib.hid L20
  clear L12 L20
  go_wp2_with fail
  refine (copy_any _ m _ (HM.out _ q0) (by have := L1.out; omega) (by have := L2.out; omega)).mono ?_
  rintro e w5 ⟨_, rfl, ⟨vc, lc, rfl, oc, ol⟩, q5⟩
  replace x0 := q5.cell x0
  replace x1 := q5.cell x1
  replace x2 := q5.cell x2
  replace x3 := q5.cell x3
  replace x4 := q5.cell x4
  replace x5 := q5.cell x5
  replace q0 := q0.trans q5
  clear q5
  obtain ⟨Ac, cc, rfl⟩ := oc.form flatT
  obtain ⟨Al, cl, rfl⟩ := ol.form flat3
  unfold metaV
  go_upto_region 4 with (fail)
  have bz : Box (w5.alloc (.cells #[.int .i64 m.mode, .int .i64 m.uid, .int .i64 m.gid, .int .i64 m.time, .slice Ac m.attrs.length cc, .slice Al m.acl.length cl] 25)) w5.heap.size #[.int .i64 m.mode, .int .i64 m.uid, .int .i64 m.gid, .int .i64 m.time, .slice Ac m.attrs.length cc, .slice Al m.acl.length cl] := Box.new w5 _
  have q6 : Q w5 (w5.alloc (.cells #[.int .i64 m.mode, .int .i64 m.uid, .int .i64 m.gid, .int .i64 m.time, .slice Ac m.attrs.length cc, .slice Al m.acl.length cl] 25)) := (Q.refl _).alloc _
  have s6 : (w5.alloc (.cells #[.int .i64 m.mode, .int .i64 m.uid, .int .i64 m.gid, .int .i64 m.time, .slice Ac m.attrs.length cc, .slice Al m.acl.length cl] 25)).heap.size = w5.heap.size + 1 := by rw [World.size_alloc]
  generalize (w5.alloc (.cells #[.int .i64 m.mode, .int .i64 m.uid, .int .i64 m.gid, .int .i64 m.time, .slice Ac m.attrs.length cc, .slice Al m.acl.length cl] 25)) = w6 at *
  have hb : w5.heap.size < w6.heap.size := by rw [s6]; omega
  clear ta la s6
  by_cases e0 : (IntKind.u64.wrap part).tmod 6 = 0
  · have t0 : ((IntKind.u64.wrap part).tmod 6 == 0) = true := beq_iff_eq.2 e0
    clear e0 hb
    obtain ⟨z0, z1, z2, z3, z4, z5⟩ := bz.cells
    have zf := bz.soft 0
    go_wp2_with fail
    have qW : Q w5 (w6.setCell ⟨w5.heap.size, 0, none⟩ (.int .i64 (bits .xor .i64 m.mode 1))) := Below.setCell q6 (p := ⟨w5.heap.size, 0, none⟩) (Nat.le_refl _) (.int .i64 (bits .xor .i64 m.mode 1))
    have bW := bz.set 0 (.int .i64 (bits .xor .i64 m.mode 1))
    simp only [List.setIfInBounds_toArray, List.set_cons_zero] at bW
    clear z0 z1 z2 z3 z4 z5 zf bz q6
    obtain ⟨z0, z1, z2, z3, z4, z5⟩ := bW.cells
    replace x0 := qW.cell x0
    replace x1 := qW.cell x1
    replace x2 := qW.cell x2
    replace x3 := qW.cell x3
    replace x4 := qW.cell x4
    replace x5 := qW.cell x5
    replace oc := OwnR.keep oc qW
    replace ol := OwnR.keep ol qW
    replace q0 := q0.trans qW
    clear bW qW
    generalize (w6.setCell ⟨w5.heap.size, 0, none⟩ (.int .i64 (bits .xor .i64 m.mode 1))) = w7 at *
    have HN : Hid (∀ w', Q w7 w' → MetaAt w' (.agg #[.int .i64 (bits .xor .i64 m.mode 1), .int .i64 m.uid, .int .i64 m.gid, .int .i64 m.time, .slice Ac m.attrs.length cc, .slice Al m.acl.length cl]) (⟨bits .xor .i64 m.mode 1, m.uid, m.gid, m.time, m.attrs, m.acl⟩ : Mt)) := fun w' q => ⟨_, _, rfl, (oc.row flatT).keep q, ((ol.row flat3).aces).keep q⟩
    have D1 : Hid (diffM m (⟨bits .xor .i64 m.mode 1, m.uid, m.gid, m.time, m.attrs, m.acl⟩ : Mt) = ⟨#[109, 111, 100, 101]⟩) := by show diffM _ _ = _; unfold diffM; simp [(bxor_ne m.mode).symm]
    have D2 : Hid (diffM (⟨bits .xor .i64 m.mode 1, m.uid, m.gid, m.time, m.attrs, m.acl⟩ : Mt) m = ⟨#[109, 111, 100, 101]⟩) := by show diffM _ _ = _; unfold diffM; simp [bxor_ne m.mode]
    have D3 : Hid (decide (m = (⟨bits .xor .i64 m.mode 1, m.uid, m.gid, m.time, m.attrs, m.acl⟩ : Mt)) = false) := decide_eq_false fun e => by
      have := congrArg Mt.mode e
      exact (bxor_ne m.mode).symm this
    refine (told_any _).mono ?_
    rintro e wa ⟨rfl, qa⟩
    replace x0 := qa.cell x0
    replace x1 := qa.cell x1
    replace x2 := qa.cell x2
    replace x3 := qa.cell x3
    replace x4 := qa.cell x4
    replace x5 := qa.cell x5
    replace z0 := qa.cell z0
    replace z1 := qa.cell z1
    replace z2 := qa.cell z2
    replace z3 := qa.cell z3
    replace z4 := qa.cell z4
    replace z5 := qa.cell z5
    have qb := qa
    go_wp2_with fail
    refine (diff_c _ _ m _ _ _ (HM.out _ (q0.trans qb)) (HN.out _ qb) D1.out).mono ?_
    rintro e wb ⟨rfl, qa⟩
    replace x0 := qa.cell x0
    replace x1 := qa.cell x1
    replace x2 := qa.cell x2
    replace x3 := qa.cell x3
    replace x4 := qa.cell x4
    replace x5 := qa.cell x5
    replace z0 := qa.cell z0
    replace z1 := qa.cell z1
    replace z2 := qa.cell z2
    replace z3 := qa.cell z3
    replace z4 := qa.cell z4
    replace z5 := qa.cell z5
    replace qb := qb.trans qa
    go_wp2_with fail
    refine (diff_c _ _ _ m _ _ (HN.out _ qb) (HM.out _ (q0.trans qb)) D2.out).mono ?_
    rintro e wc ⟨rfl, qa⟩
    replace x0 := qa.cell x0
    replace x1 := qa.cell x1
    replace x2 := qa.cell x2
    replace x3 := qa.cell x3
    replace x4 := qa.cell x4
    replace x5 := qa.cell x5
    replace z0 := qa.cell z0
    replace z1 := qa.cell z1
    replace z2 := qa.cell z2
    replace z3 := qa.cell z3
    replace z4 := qa.cell z4
    replace z5 := qa.cell z5
    replace qb := qb.trans qa
    go_wp2_with fail
    refine (metaSame_c _ _ m _ false _ (HM.out _ (q0.trans qb)) (HN.out _ qb) D3.out).mono ?_
    rintro e wd ⟨rfl, qa⟩
    go_wp2
    go_ret
    exact ⟨rfl, q0.trans (qb.trans qa)⟩
  have t0 : ((IntKind.u64.wrap part).tmod 6 == 0) = false := beq_eq_false_iff_ne.2 e0
  clear e0
  by_cases e1 : (IntKind.u64.wrap part).tmod 6 = 1
  · have t1 : ((IntKind.u64.wrap part).tmod 6 == 1) = true := beq_iff_eq.2 e1
    clear e1 hb
    obtain ⟨z0, z1, z2, z3, z4, z5⟩ := bz.cells
    have zf := bz.soft 1
    go_wp2_with fail
    have qW : Q w5 (w6.setCell ⟨w5.heap.size, 1, none⟩ (.int .i64 (bits .xor .i64 m.uid 1))) := Below.setCell q6 (p := ⟨w5.heap.size, 1, none⟩) (Nat.le_refl _) (.int .i64 (bits .xor .i64 m.uid 1))
    have bW := bz.set 1 (.int .i64 (bits .xor .i64 m.uid 1))
    simp only [List.setIfInBounds_toArray, List.set_cons_succ, List.set_cons_zero] at bW
    clear z0 z1 z2 z3 z4 z5 zf bz q6
    obtain ⟨z0, z1, z2, z3, z4, z5⟩ := bW.cells
    replace x0 := qW.cell x0
    replace x1 := qW.cell x1
    replace x2 := qW.cell x2
    replace x3 := qW.cell x3
    replace x4 := qW.cell x4
    replace x5 := qW.cell x5
    replace oc := OwnR.keep oc qW
    replace ol := OwnR.keep ol qW
    replace q0 := q0.trans qW
    clear bW qW
    generalize (w6.setCell ⟨w5.heap.size, 1, none⟩ (.int .i64 (bits .xor .i64 m.uid 1))) = w7 at *
    have HN : Hid (∀ w', Q w7 w' → MetaAt w' (.agg #[.int .i64 m.mode, .int .i64 (bits .xor .i64 m.uid 1), .int .i64 m.gid, .int .i64 m.time, .slice Ac m.attrs.length cc, .slice Al m.acl.length cl]) (⟨m.mode, bits .xor .i64 m.uid 1, m.gid, m.time, m.attrs, m.acl⟩ : Mt)) := fun w' q => ⟨_, _, rfl, (oc.row flatT).keep q, ((ol.row flat3).aces).keep q⟩
    have D1 : Hid (diffM m (⟨m.mode, bits .xor .i64 m.uid 1, m.gid, m.time, m.attrs, m.acl⟩ : Mt) = ⟨#[117, 105, 100]⟩) := by show diffM _ _ = _; unfold diffM; simp [(bxor_ne m.uid).symm]
    have D2 : Hid (diffM (⟨m.mode, bits .xor .i64 m.uid 1, m.gid, m.time, m.attrs, m.acl⟩ : Mt) m = ⟨#[117, 105, 100]⟩) := by show diffM _ _ = _; unfold diffM; simp [bxor_ne m.uid]
    have D3 : Hid (decide (m = (⟨m.mode, bits .xor .i64 m.uid 1, m.gid, m.time, m.attrs, m.acl⟩ : Mt)) = false) := decide_eq_false fun e => by
      have := congrArg Mt.uid e
      exact (bxor_ne m.uid).symm this
    refine (told_any _).mono ?_
    rintro e wa ⟨rfl, qa⟩
    replace x0 := qa.cell x0
    replace x1 := qa.cell x1
    replace x2 := qa.cell x2
    replace x3 := qa.cell x3
    replace x4 := qa.cell x4
    replace x5 := qa.cell x5
    replace z0 := qa.cell z0
    replace z1 := qa.cell z1
    replace z2 := qa.cell z2
    replace z3 := qa.cell z3
    replace z4 := qa.cell z4
    replace z5 := qa.cell z5
    have qb := qa
    go_wp2_with fail
    refine (diff_c _ _ m _ _ _ (HM.out _ (q0.trans qb)) (HN.out _ qb) D1.out).mono ?_
    rintro e wb ⟨rfl, qa⟩
    replace x0 := qa.cell x0
    replace x1 := qa.cell x1
    replace x2 := qa.cell x2
    replace x3 := qa.cell x3
    replace x4 := qa.cell x4
    replace x5 := qa.cell x5
    replace z0 := qa.cell z0
    replace z1 := qa.cell z1
    replace z2 := qa.cell z2
    replace z3 := qa.cell z3
    replace z4 := qa.cell z4
    replace z5 := qa.cell z5
    replace qb := qb.trans qa
    go_wp2_with fail
    refine (diff_c _ _ _ m _ _ (HN.out _ qb) (HM.out _ (q0.trans qb)) D2.out).mono ?_
    rintro e wc ⟨rfl, qa⟩
    replace x0 := qa.cell x0
    replace x1 := qa.cell x1
    replace x2 := qa.cell x2
    replace x3 := qa.cell x3
    replace x4 := qa.cell x4
    replace x5 := qa.cell x5
    replace z0 := qa.cell z0
    replace z1 := qa.cell z1
    replace z2 := qa.cell z2
    replace z3 := qa.cell z3
    replace z4 := qa.cell z4
    replace z5 := qa.cell z5
    replace qb := qb.trans qa
    go_wp2_with fail
    refine (metaSame_c _ _ m _ false _ (HM.out _ (q0.trans qb)) (HN.out _ qb) D3.out).mono ?_
    rintro e wd ⟨rfl, qa⟩
    go_wp2
    go_ret
    exact ⟨rfl, q0.trans (qb.trans qa)⟩
  have t1 : ((IntKind.u64.wrap part).tmod 6 == 1) = false := beq_eq_false_iff_ne.2 e1
  clear e1
  by_cases e2 : (IntKind.u64.wrap part).tmod 6 = 2
  · have t2 : ((IntKind.u64.wrap part).tmod 6 == 2) = true := beq_iff_eq.2 e2
    clear e2 hb
    obtain ⟨z0, z1, z2, z3, z4, z5⟩ := bz.cells
    have zf := bz.soft 2
    go_wp2_with fail
    have qW : Q w5 (w6.setCell ⟨w5.heap.size, 2, none⟩ (.int .i64 (bits .xor .i64 m.gid 1))) := Below.setCell q6 (p := ⟨w5.heap.size, 2, none⟩) (Nat.le_refl _) (.int .i64 (bits .xor .i64 m.gid 1))
    have bW := bz.set 2 (.int .i64 (bits .xor .i64 m.gid 1))
    simp only [List.setIfInBounds_toArray, List.set_cons_succ, List.set_cons_zero] at bW
    clear z0 z1 z2 z3 z4 z5 zf bz q6
    obtain ⟨z0, z1, z2, z3, z4, z5⟩ := bW.cells
    replace x0 := qW.cell x0
    replace x1 := qW.cell x1
    replace x2 := qW.cell x2
    replace x3 := qW.cell x3
    replace x4 := qW.cell x4
    replace x5 := qW.cell x5
    replace oc := OwnR.keep oc qW
    replace ol := OwnR.keep ol qW
    replace q0 := q0.trans qW
    clear bW qW
    generalize (w6.setCell ⟨w5.heap.size, 2, none⟩ (.int .i64 (bits .xor .i64 m.gid 1))) = w7 at *
    have HN : Hid (∀ w', Q w7 w' → MetaAt w' (.agg #[.int .i64 m.mode, .int .i64 m.uid, .int .i64 (bits .xor .i64 m.gid 1), .int .i64 m.time, .slice Ac m.attrs.length cc, .slice Al m.acl.length cl]) (⟨m.mode, m.uid, bits .xor .i64 m.gid 1, m.time, m.attrs, m.acl⟩ : Mt)) := fun w' q => ⟨_, _, rfl, (oc.row flatT).keep q, ((ol.row flat3).aces).keep q⟩
    have D1 : Hid (diffM m (⟨m.mode, m.uid, bits .xor .i64 m.gid 1, m.time, m.attrs, m.acl⟩ : Mt) = ⟨#[103, 105, 100]⟩) := by show diffM _ _ = _; unfold diffM; simp [(bxor_ne m.gid).symm]
    have D2 : Hid (diffM (⟨m.mode, m.uid, bits .xor .i64 m.gid 1, m.time, m.attrs, m.acl⟩ : Mt) m = ⟨#[103, 105, 100]⟩) := by show diffM _ _ = _; unfold diffM; simp [bxor_ne m.gid]
    have D3 : Hid (decide (m = (⟨m.mode, m.uid, bits .xor .i64 m.gid 1, m.time, m.attrs, m.acl⟩ : Mt)) = false) := decide_eq_false fun e => by
      have := congrArg Mt.gid e
      exact (bxor_ne m.gid).symm this
    refine (told_any _).mono ?_
    rintro e wa ⟨rfl, qa⟩
    replace x0 := qa.cell x0
    replace x1 := qa.cell x1
    replace x2 := qa.cell x2
    replace x3 := qa.cell x3
    replace x4 := qa.cell x4
    replace x5 := qa.cell x5
    replace z0 := qa.cell z0
    replace z1 := qa.cell z1
    replace z2 := qa.cell z2
    replace z3 := qa.cell z3
    replace z4 := qa.cell z4
    replace z5 := qa.cell z5
    have qb := qa
    go_wp2_with fail
    refine (diff_c _ _ m _ _ _ (HM.out _ (q0.trans qb)) (HN.out _ qb) D1.out).mono ?_
    rintro e wb ⟨rfl, qa⟩
    replace x0 := qa.cell x0
    replace x1 := qa.cell x1
    replace x2 := qa.cell x2
    replace x3 := qa.cell x3
    replace x4 := qa.cell x4
    replace x5 := qa.cell x5
    replace z0 := qa.cell z0
    replace z1 := qa.cell z1
    replace z2 := qa.cell z2
    replace z3 := qa.cell z3
    replace z4 := qa.cell z4
    replace z5 := qa.cell z5
    replace qb := qb.trans qa
    go_wp2_with fail
    refine (diff_c _ _ _ m _ _ (HN.out _ qb) (HM.out _ (q0.trans qb)) D2.out).mono ?_
    rintro e wc ⟨rfl, qa⟩
    replace x0 := qa.cell x0
    replace x1 := qa.cell x1
    replace x2 := qa.cell x2
    replace x3 := qa.cell x3
    replace x4 := qa.cell x4
    replace x5 := qa.cell x5
    replace z0 := qa.cell z0
    replace z1 := qa.cell z1
    replace z2 := qa.cell z2
    replace z3 := qa.cell z3
    replace z4 := qa.cell z4
    replace z5 := qa.cell z5
    replace qb := qb.trans qa
    go_wp2_with fail
    refine (metaSame_c _ _ m _ false _ (HM.out _ (q0.trans qb)) (HN.out _ qb) D3.out).mono ?_
    rintro e wd ⟨rfl, qa⟩
    go_wp2
    go_ret
    exact ⟨rfl, q0.trans (qb.trans qa)⟩
  have t2 : ((IntKind.u64.wrap part).tmod 6 == 2) = false := beq_eq_false_iff_ne.2 e2
  clear e2
  by_cases e3 : (IntKind.u64.wrap part).tmod 6 = 3
  · have t3 : ((IntKind.u64.wrap part).tmod 6 == 3) = true := beq_iff_eq.2 e3
    clear e3 hb
    obtain ⟨z0, z1, z2, z3, z4, z5⟩ := bz.cells
    have zf := bz.soft 3
    go_wp2_with fail
    have qW : Q w5 (w6.setCell ⟨w5.heap.size, 3, none⟩ (.int .i64 (bits .xor .i64 m.time 1))) := Below.setCell q6 (p := ⟨w5.heap.size, 3, none⟩) (Nat.le_refl _) (.int .i64 (bits .xor .i64 m.time 1))
    have bW := bz.set 3 (.int .i64 (bits .xor .i64 m.time 1))
    simp only [List.setIfInBounds_toArray, List.set_cons_succ, List.set_cons_zero] at bW
    clear z0 z1 z2 z3 z4 z5 zf bz q6
    obtain ⟨z0, z1, z2, z3, z4, z5⟩ := bW.cells
    replace x0 := qW.cell x0
    replace x1 := qW.cell x1
    replace x2 := qW.cell x2
    replace x3 := qW.cell x3
    replace x4 := qW.cell x4
    replace x5 := qW.cell x5
    replace oc := OwnR.keep oc qW
    replace ol := OwnR.keep ol qW
    replace q0 := q0.trans qW
    clear bW qW
    generalize (w6.setCell ⟨w5.heap.size, 3, none⟩ (.int .i64 (bits .xor .i64 m.time 1))) = w7 at *
    have HN : Hid (∀ w', Q w7 w' → MetaAt w' (.agg #[.int .i64 m.mode, .int .i64 m.uid, .int .i64 m.gid, .int .i64 (bits .xor .i64 m.time 1), .slice Ac m.attrs.length cc, .slice Al m.acl.length cl]) (⟨m.mode, m.uid, m.gid, bits .xor .i64 m.time 1, m.attrs, m.acl⟩ : Mt)) := fun w' q => ⟨_, _, rfl, (oc.row flatT).keep q, ((ol.row flat3).aces).keep q⟩
    have D1 : Hid (diffM m (⟨m.mode, m.uid, m.gid, bits .xor .i64 m.time 1, m.attrs, m.acl⟩ : Mt) = ⟨#[116, 105, 109, 101]⟩) := by show diffM _ _ = _; unfold diffM; simp [(bxor_ne m.time).symm]
    have D2 : Hid (diffM (⟨m.mode, m.uid, m.gid, bits .xor .i64 m.time 1, m.attrs, m.acl⟩ : Mt) m = ⟨#[116, 105, 109, 101]⟩) := by show diffM _ _ = _; unfold diffM; simp [bxor_ne m.time]
    have D3 : Hid (decide (m = (⟨m.mode, m.uid, m.gid, bits .xor .i64 m.time 1, m.attrs, m.acl⟩ : Mt)) = false) := decide_eq_false fun e => by
      have := congrArg Mt.time e
      exact (bxor_ne m.time).symm this
    refine (told_any _).mono ?_
    rintro e wa ⟨rfl, qa⟩
    replace x0 := qa.cell x0
    replace x1 := qa.cell x1
    replace x2 := qa.cell x2
    replace x3 := qa.cell x3
    replace x4 := qa.cell x4
    replace x5 := qa.cell x5
    replace z0 := qa.cell z0
    replace z1 := qa.cell z1
    replace z2 := qa.cell z2
    replace z3 := qa.cell z3
    replace z4 := qa.cell z4
    replace z5 := qa.cell z5
    have qb := qa
    go_wp2_with fail
    refine (diff_c _ _ m _ _ _ (HM.out _ (q0.trans qb)) (HN.out _ qb) D1.out).mono ?_
    rintro e wb ⟨rfl, qa⟩
    replace x0 := qa.cell x0
    replace x1 := qa.cell x1
    replace x2 := qa.cell x2
    replace x3 := qa.cell x3
    replace x4 := qa.cell x4
    replace x5 := qa.cell x5
    replace z0 := qa.cell z0
    replace z1 := qa.cell z1
    replace z2 := qa.cell z2
    replace z3 := qa.cell z3
    replace z4 := qa.cell z4
    replace z5 := qa.cell z5
    replace qb := qb.trans qa
    go_wp2_with fail
    refine (diff_c _ _ _ m _ _ (HN.out _ qb) (HM.out _ (q0.trans qb)) D2.out).mono ?_
    rintro e wc ⟨rfl, qa⟩
    replace x0 := qa.cell x0
    replace x1 := qa.cell x1
    replace x2 := qa.cell x2
    replace x3 := qa.cell x3
    replace x4 := qa.cell x4
    replace x5 := qa.cell x5
    replace z0 := qa.cell z0
    replace z1 := qa.cell z1
    replace z2 := qa.cell z2
    replace z3 := qa.cell z3
    replace z4 := qa.cell z4
    replace z5 := qa.cell z5
    replace qb := qb.trans qa
    go_wp2_with fail
    refine (metaSame_c _ _ m _ false _ (HM.out _ (q0.trans qb)) (HN.out _ qb) D3.out).mono ?_
    rintro e wd ⟨rfl, qa⟩
    go_wp2
    go_ret
    exact ⟨rfl, q0.trans (qb.trans qa)⟩
  have t3 : ((IntKind.u64.wrap part).tmod 6 == 3) = false := beq_eq_false_iff_ne.2 e3
  clear e3
  obtain ⟨z0, z1, z2, z3, z4, z5⟩ := bz.cells
  by_cases e4 : (IntKind.u64.wrap part).tmod 6 = 4
  · have t4 : ((IntKind.u64.wrap part).tmod 6 == 4) = true := beq_iff_eq.2 e4
    clear e4
    have hlen := L1.out
    have q6e : Q w5 (w6.alloc (.cells #[] 36)) := q6.alloc _
    go_wp2_with (at_builtin; refine wpList_append_ats rfl (.tmp 55) (.tmp 57) rfl w6.heap.size _ [] rfl (own_empty _ w6 _ (Nat.le_refl _)) (.slice Ac m.attrs.length cc) m.attrs rfl ((oc.row flatT).keep q6e) (by simp; omega) (by rw [World.size_alloc]; omega) ?_)
    intro v7 w7 hown7 hg7
    try intro _
    replace hown7 : OwnT w7 w6.heap.size v7 m.attrs := hown7
    have q7 : Q w6 w7 := Below.grown ((Q.refl w6).alloc _) hg7 (by rw [World.size_alloc]; omega) fun g hg => by cases hg; exact Nat.le_refl _
    have s7 := q7.size
    clear hg7 q6e
    go_wp2_with (at_builtin; refine wpList_append_ats rfl (.tmp 58) (.tmp 60) rfl w6.heap.size v7 m.attrs rfl (World.ownsRow.alloc hown7 _) (.slice (some ⟨w7.heap.size, 0, none⟩) 1 1) [((⟨#[122, 122, 122]⟩, ⟨#[]⟩) : Attr)] rfl (ats_built w7 (⟨#[122, 122, 122]⟩, ⟨#[]⟩) _) (by simp; omega) (by rw [World.size_alloc]; omega) ?_)
    intro v8 w8 hown8 hg8
    try intro _
    have q8 : Q w6 w8 := Below.grown (q7.alloc _) hg8 (q7.alloc _).size fun g hg => (World.ownsRow.lt hown7 g hg).1
    obtain ⟨A8, n8, e8⟩ := OwnR.form flatT hown8
    rw [List.length_append, List.length_singleton] at e8
    subst e8
    clear z0 z1 z2 z3 z4 z5 hg8 hown7
    replace bz := bz.keep q8
    obtain ⟨z0, z1, z2, z3, z4, z5⟩ := bz.cells
    have zf := bz.soft 4
    go_wp2_with fail
    have q58 := q6.trans q8
    have qW : Q w5 (w8.setCell ⟨w5.heap.size, 4, none⟩ (.slice A8 (m.attrs.length + 1) n8)) := Below.setCell q58 (p := ⟨w5.heap.size, 4, none⟩) (Nat.le_refl _) (.slice A8 (m.attrs.length + 1) n8)
    have oW := OwnR.setCell hown8 ⟨w5.heap.size, 4, none⟩ (.slice A8 (m.attrs.length + 1) n8) hb
    have bW := bz.set 4 (.slice A8 (m.attrs.length + 1) n8)
    simp only [List.setIfInBounds_toArray, List.set_cons_succ, List.set_cons_zero] at bW
    clear z0 z1 z2 z3 z4 z5 zf bz q6 q7 q8 hown8 q58
    obtain ⟨z0, z1, z2, z3, z4, z5⟩ := bW.cells
    replace x0 := qW.cell x0
    replace x1 := qW.cell x1
    replace x2 := qW.cell x2
    replace x3 := qW.cell x3
    replace x4 := qW.cell x4
    replace x5 := qW.cell x5
    replace oc := OwnR.keep oc qW
    replace ol := OwnR.keep ol qW
    replace q0 := q0.trans qW
    clear bW qW hb s7
    generalize (w8.setCell ⟨w5.heap.size, 4, none⟩ (.slice A8 (m.attrs.length + 1) n8)) = w9 at *
    have HN : Hid (∀ w', Q w9 w' → MetaAt w' (.agg #[.int .i64 m.mode, .int .i64 m.uid, .int .i64 m.gid, .int .i64 m.time, .slice A8 (m.attrs.length + 1) n8, .slice Al m.acl.length cl]) (⟨m.mode, m.uid, m.gid, m.time, m.attrs ++ [((⟨#[122, 122, 122]⟩, ⟨#[]⟩) : Attr)], m.acl⟩ : Mt)) := fun w' q => ⟨_, _, rfl, (OwnR.row flatT oW).keep q, ((ol.row flat3).aces).keep q⟩
    have D1 : Hid (diffM m (⟨m.mode, m.uid, m.gid, m.time, m.attrs ++ [((⟨#[122, 122, 122]⟩, ⟨#[]⟩) : Attr)], m.acl⟩ : Mt) = ⟨#[97, 116, 116, 114, 115]⟩) := by show diffM _ _ = _; unfold diffM; simp
    have D2 : Hid (diffM (⟨m.mode, m.uid, m.gid, m.time, m.attrs ++ [((⟨#[122, 122, 122]⟩, ⟨#[]⟩) : Attr)], m.acl⟩ : Mt) m = ⟨#[97, 116, 116, 114, 115]⟩) := by show diffM _ _ = _; unfold diffM; simp
    have D3 : Hid (decide (m = (⟨m.mode, m.uid, m.gid, m.time, m.attrs ++ [((⟨#[122, 122, 122]⟩, ⟨#[]⟩) : Attr)], m.acl⟩ : Mt)) = false) := decide_eq_false fun e => by
      have := congrArg Mt.attrs e
      simp at this
    refine (told_any _).mono ?_
    rintro e wa ⟨rfl, qa⟩
    replace x0 := qa.cell x0
    replace x1 := qa.cell x1
    replace x2 := qa.cell x2
    replace x3 := qa.cell x3
    replace x4 := qa.cell x4
    replace x5 := qa.cell x5
    replace z0 := qa.cell z0
    replace z1 := qa.cell z1
    replace z2 := qa.cell z2
    replace z3 := qa.cell z3
    replace z4 := qa.cell z4
    replace z5 := qa.cell z5
    have qb := qa
    go_wp2_with fail
    refine (diff_c _ _ m _ _ _ (HM.out _ (q0.trans qb)) (HN.out _ qb) D1.out).mono ?_
    rintro e wb ⟨rfl, qa⟩
    replace x0 := qa.cell x0
    replace x1 := qa.cell x1
    replace x2 := qa.cell x2
    replace x3 := qa.cell x3
    replace x4 := qa.cell x4
    replace x5 := qa.cell x5
    replace z0 := qa.cell z0
    replace z1 := qa.cell z1
    replace z2 := qa.cell z2
    replace z3 := qa.cell z3
    replace z4 := qa.cell z4
    replace z5 := qa.cell z5
    replace qb := qb.trans qa
    go_wp2_with fail
    refine (diff_c _ _ _ m _ _ (HN.out _ qb) (HM.out _ (q0.trans qb)) D2.out).mono ?_
    rintro e wc ⟨rfl, qa⟩
    replace x0 := qa.cell x0
    replace x1 := qa.cell x1
    replace x2 := qa.cell x2
    replace x3 := qa.cell x3
    replace x4 := qa.cell x4
    replace x5 := qa.cell x5
    replace z0 := qa.cell z0
    replace z1 := qa.cell z1
    replace z2 := qa.cell z2
    replace z3 := qa.cell z3
    replace z4 := qa.cell z4
    replace z5 := qa.cell z5
    replace qb := qb.trans qa
    go_wp2_with fail
    refine (metaSame_c _ _ m _ false _ (HM.out _ (q0.trans qb)) (HN.out _ qb) D3.out).mono ?_
    rintro e wd ⟨rfl, qa⟩
    go_wp2
    go_ret
    exact ⟨rfl, q0.trans (qb.trans qa)⟩
  · have t4 : ((IntKind.u64.wrap part).tmod 6 == 4) = false := beq_eq_false_iff_ne.2 e4
    clear e4
    have hlen := L2.out
    have q6e : Q w5 (w6.alloc (.cells #[] 38)) := q6.alloc _
    go_wp2_with (at_builtin; refine wpList_append_aces rfl (.tmp 21) (.tmp 23) rfl w6.heap.size _ [] rfl (own_empty _ w6 _ (Nat.le_refl _)) (.slice Al m.acl.length cl) m.acl rfl ((ol.row flat3).aces.keep q6e) (by simp; omega) (by rw [World.size_alloc]; omega) ?_)
    intro v7 w7 hown7 hg7
    try intro _
    replace hown7 : OwnA w7 w6.heap.size v7 m.acl := hown7
    have q7 : Q w6 w7 := Below.grown ((Q.refl w6).alloc _) hg7 (by rw [World.size_alloc]; omega) fun g hg => by cases hg; exact Nat.le_refl _
    have s7 := q7.size
    clear hg7 q6e
    go_wp2_with (at_builtin; refine wpList_append_aces rfl (.tmp 24) (.tmp 26) rfl w6.heap.size v7 m.acl rfl (World.ownsRow.alloc hown7 _) (.slice (some ⟨w7.heap.size, 0, none⟩) 1 1) [((1, 9, 0) : Ace)] rfl (aces_built w7 (1, 9, 0) _) (by simp; omega) (by rw [World.size_alloc]; omega) ?_)
    intro v8 w8 hown8 hg8
    try intro _
    have q8 : Q w6 w8 := Below.grown (q7.alloc _) hg8 (q7.alloc _).size fun g hg => (World.ownsRow.lt hown7 g hg).1
    obtain ⟨A8, n8, e8⟩ := OwnR.form flat3 hown8
    rw [List.length_append, List.length_singleton] at e8
    subst e8
    clear z0 z1 z2 z3 z4 z5 hg8 hown7
    replace bz := bz.keep q8
    obtain ⟨z0, z1, z2, z3, z4, z5⟩ := bz.cells
    have zf := bz.soft 5
    go_wp2_with fail
    have q58 := q6.trans q8
    have qW : Q w5 (w8.setCell ⟨w5.heap.size, 5, none⟩ (.slice A8 (m.acl.length + 1) n8)) := Below.setCell q58 (p := ⟨w5.heap.size, 5, none⟩) (Nat.le_refl _) (.slice A8 (m.acl.length + 1) n8)
    have oW := OwnR.setCell hown8 ⟨w5.heap.size, 5, none⟩ (.slice A8 (m.acl.length + 1) n8) hb
    have bW := bz.set 5 (.slice A8 (m.acl.length + 1) n8)
    simp only [List.setIfInBounds_toArray, List.set_cons_succ, List.set_cons_zero] at bW
    clear z0 z1 z2 z3 z4 z5 zf bz q6 q7 q8 hown8 q58
    obtain ⟨z0, z1, z2, z3, z4, z5⟩ := bW.cells
    replace x0 := qW.cell x0
    replace x1 := qW.cell x1
    replace x2 := qW.cell x2
    replace x3 := qW.cell x3
    replace x4 := qW.cell x4
    replace x5 := qW.cell x5
    replace oc := OwnR.keep oc qW
    replace ol := OwnR.keep ol qW
    replace q0 := q0.trans qW
    clear bW qW hb s7
    generalize (w8.setCell ⟨w5.heap.size, 5, none⟩ (.slice A8 (m.acl.length + 1) n8)) = w9 at *
    have HN : Hid (∀ w', Q w9 w' → MetaAt w' (.agg #[.int .i64 m.mode, .int .i64 m.uid, .int .i64 m.gid, .int .i64 m.time, .slice Ac m.attrs.length cc, .slice A8 (m.acl.length + 1) n8]) (⟨m.mode, m.uid, m.gid, m.time, m.attrs, m.acl ++ [((1, 9, 0) : Ace)]⟩ : Mt)) := fun w' q => ⟨_, _, rfl, (oc.row flatT).keep q, ((OwnR.row flat3 oW).aces).keep q⟩
    have D1 : Hid (diffM m (⟨m.mode, m.uid, m.gid, m.time, m.attrs, m.acl ++ [((1, 9, 0) : Ace)]⟩ : Mt) = ⟨#[97, 99, 108]⟩) := by show diffM _ _ = _; unfold diffM; simp
    have D2 : Hid (diffM (⟨m.mode, m.uid, m.gid, m.time, m.attrs, m.acl ++ [((1, 9, 0) : Ace)]⟩ : Mt) m = ⟨#[97, 99, 108]⟩) := by show diffM _ _ = _; unfold diffM; simp
    have D3 : Hid (decide (m = (⟨m.mode, m.uid, m.gid, m.time, m.attrs, m.acl ++ [((1, 9, 0) : Ace)]⟩ : Mt)) = false) := decide_eq_false fun e => by
      have := congrArg Mt.acl e
      simp at this
    refine (told_any _).mono ?_
    rintro e wa ⟨rfl, qa⟩
    replace x0 := qa.cell x0
    replace x1 := qa.cell x1
    replace x2 := qa.cell x2
    replace x3 := qa.cell x3
    replace x4 := qa.cell x4
    replace x5 := qa.cell x5
    replace z0 := qa.cell z0
    replace z1 := qa.cell z1
    replace z2 := qa.cell z2
    replace z3 := qa.cell z3
    replace z4 := qa.cell z4
    replace z5 := qa.cell z5
    have qb := qa
    go_wp2_with fail
    refine (diff_c _ _ m _ _ _ (HM.out _ (q0.trans qb)) (HN.out _ qb) D1.out).mono ?_
    rintro e wb ⟨rfl, qa⟩
    replace x0 := qa.cell x0
    replace x1 := qa.cell x1
    replace x2 := qa.cell x2
    replace x3 := qa.cell x3
    replace x4 := qa.cell x4
    replace x5 := qa.cell x5
    replace z0 := qa.cell z0
    replace z1 := qa.cell z1
    replace z2 := qa.cell z2
    replace z3 := qa.cell z3
    replace z4 := qa.cell z4
    replace z5 := qa.cell z5
    replace qb := qb.trans qa
    go_wp2_with fail
    refine (diff_c _ _ _ m _ _ (HN.out _ qb) (HM.out _ (q0.trans qb)) D2.out).mono ?_
    rintro e wc ⟨rfl, qa⟩
    replace x0 := qa.cell x0
    replace x1 := qa.cell x1
    replace x2 := qa.cell x2
    replace x3 := qa.cell x3
    replace x4 := qa.cell x4
    replace x5 := qa.cell x5
    replace z0 := qa.cell z0
    replace z1 := qa.cell z1
    replace z2 := qa.cell z2
    replace z3 := qa.cell z3
    replace z4 := qa.cell z4
    replace z5 := qa.cell z5
    replace qb := qb.trans qa
    go_wp2_with fail
    refine (metaSame_c _ _ m _ false _ (HM.out _ (q0.trans qb)) (HN.out _ qb) D3.out).mono ?_
    rintro e wd ⟨rfl, qa⟩
    go_wp2
    go_ret
    exact ⟨rfl, q0.trans (qb.trans qa)⟩

/-! ### The row -/
set_option maxRecDepth 100000 in
theorem lifted (os : Os) (started : os.Started) (H : Type) (enc : TypeId × Value → H) :
    ReturnsInHanded {} Try.checked os 4 .any (Rows.metaPartsSpec.pre6 enc Try.prog Try.f4 Rows.metaPartsRow.domain false) (Rows.metaPartsSpec.post enc Try.prog Try.f4 false true false false) := by
  refine returnsInHanded_of_change (C := Try.checked) own started (by kernel_rfl) Try.func4
    (ChangeSpec.witness6 (enc := enc) (C := Try.checked) false ⟨#[], #[.agg #[.int .i64 0, .int .i64 0, .int .i64 0, .int .i64 0, .slice none 0 0, .slice none 0 0], .int .i64 0], []⟩ 8 (by kernel_rfl) (by kernel_rfl) (by kernel_rfl) (by kernel_rfl)) ?_
  intro W base args ds gs before hval0 hW hcnd _
  have hval : ∀ (j : Nat) t v, Try.f4.params[j]? = some t → args[j]? = some v → Value.okWide Try.prog W .any base t v := hval0
  have hW' := hW
  obtain ⟨p, q, hA0, hV, rfl, hfz, hnd⟩ := hW
  have hA : DataW.TrodAll enc Try.prog W 0 (fun _ => true) true Try.f4.params.toList args.toList ds p := hA0
  rw [Try.params4] at hA hval
  obtain ⟨v0, vs0, d0, ds0, p0, q0, hargs, rfl, rfl, h0, r0⟩ := trodAll_cons hA
  obtain ⟨v1, vs1, d1, ds1, p1, q1, rfl, rfl, rfl, h1, r1⟩ := trodAll_cons r0
  obtain ⟨rfl, rfl, rfl⟩ := trodAll_nil r1
  obtain rfl : args = #[v0, v1] := by cases args; simp_all
  obtain ⟨rfl, rfl⟩ := trodVars_none hV
  have k0 := h0
  have lt0 : ∀ x ∈ p0, x.block < W.heap.size := by obtain ⟨m, hm⟩ := k0; exact DataW.trod_lt m _ _ _ hm
  obtain ⟨z0, w0, f0⟩ := open_meta (hval 0 25 v0 rfl rfl) h0
  obtain ⟨a1, rfl, rfl, rfl, w1⟩ := open_int Try.underlying3 (hval 1 3 v1 rfl rfl) h1
  clear hA0 hval0
  try simp only [List.append_nil] at hW'
  refine (walk _ z0 a1 W w0).mono fun e W' ⟨he, bel⟩ => ?_
  subst he
  exact ⟨_, rfl, _, _, _, [], _, [], hW', trodAll_mk1 (shut_bool Try.underlying4 _), (trodAll_cons_mk (Below.trod laidOut (by kernel_rfl) (of_decide_eq_true (by kernel_rfl)) k0 bel lt0) (trodAll_cons_mk (shut_int Try.underlying3 w1) trodAll_mk0)), rfl, Below.frame bel _, fun h => by cases h⟩

theorem over : Rows.metaPartsRow.holds Try.pinned (OpenSpec.ofChange Rows.metaPartsSpec) :=
  OpenClaim.holds_of_wide 4 Try.f4 rfl rfl rfl rfl rfl rfl rfl ⟨rfl, rfl, rfl, rfl, rfl⟩ rfl rfl rfl rfl rfl (by kernel_rfl) Try.func4 (by kernel_rfl)
    (of_decide_eq_true (by kernel_rfl)) (by unfold Func.isWrapper; first | (rw [if_pos (by decide +kernel)]; kernel_rfl) | (rw [if_neg (by decide +kernel)]; exact ⟨rfl, rfl⟩))
    (fun os started H enc _ => lifted os started H enc)

theorem proved : Rows.MetaPartsSaid := over


end Go.Proofs.Ytidpcoolfomgjaa.parts
