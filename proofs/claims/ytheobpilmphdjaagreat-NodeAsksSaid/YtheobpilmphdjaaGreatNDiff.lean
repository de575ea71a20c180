/-
  The contract of node.Diff, of Same, and of slices.Equal at pieces.
-/
import Derived.Test.YtheobpilmphdjaaGreatNFile
import Derived.Laws.StructEq
namespace Go.Proofs.YtheobpilmphdjaaGreat.Nd
open Go.RowKit
open Go.Proofs.YtheobpilmphdjaaGreat.Ex.Rng
open Go.Proofs.YtheobpilmphdjaaGreat.Ex (E ExtsAt)


theorem guardP : Tryz.prog.eqGuardType Tryz.prog.depth 44 = false := by kernel_rfl
theorem equalP (x y : Pc) (w : World) : (Op.equalIn 10000 44 (aggP x) (aggP y)).run Tryz.prog w = .ok (decide (x = y)) w := by
  obtain ⟨n, v⟩ := x
  obtain ⟨n', v'⟩ := y
  have u3 := Tryz.underlying9
  have a3 := Tryz.isAgg9
  have z3 := Tryz.sizeOf9
  have u4 := Tryz.underlying2
  have a4 := Tryz.isAgg2
  have z4 := Tryz.sizeOf2
  have hS : Tryz.prog.underlying 44 = some (.struct (Tryz.prog.fieldsOf 44)) := by kernel_rfl
  have hp : Tryz.prog.stoodInHeld 44 = false := by kernel_rfl
  unfold aggP
  rw [show (10000 : Nat) = 9999 + 1 from rfl, run_equalIn_agg w 9999 44 _ _ hS hp]
  simp only [Program.fieldsOf, Tryz.underlying44]
  go_simp
  have e2 : (v.toList = v'.toList) = (v = v') := propext ⟨str_inj, fun e => by rw [e]⟩
  by_cases h1 : n = n' <;> by_cases h2 : v = v' <;> simp [h1, h2, e2]
theorem neqP (x y : Pc) (w : World) : Sem.run Tryz.prog (binOp .neq 44 (aggP x) (aggP y)) w = .ok (.bool (!decide (x = y))) w := by
  have h := equalP x y w
  unfold aggP at *
  rw [run_neq_struct]
  rw [h]
  rfl
theorem same_headP {a b : List Pc} (h : a.length = b.length) {k : Nat} (hk : k < a.length) (hs : a.take k = b.take k) (h1 : a[k] = b[k]) : a.take (k + 1) = b.take (k + 1) := by
  rw [List.take_succ_eq_append_getElem hk, List.take_succ_eq_append_getElem (by omega : k < b.length), hs, h1]
theorem same_noP {a b : List Pc} {k : Nat} (hk : k < a.length) (hk' : k < b.length) (h1 : ¬ a[k] = b[k]) : ¬ a = b := by
  intro e
  subst e
  exact h1 rfl
set_option maxRecDepth 100000 in
set_option maxHeartbeats 4000000 in
theorem equal_any (va vb : Value) (a b : List Pc) (w : World) (ha : PcsAt w va a) (hb : PcsAt w vb b) :
    Calls Tryz.prog 44 #[va, vb] w fun e w' => e = .returned (.bool (decide (a = b))) ∧ Q w w' := by
  have la := ha.len
  have lb := hb.len
  obtain ⟨A, ca, rfl⟩ := ha.form
  obtain ⟨B, cb, rfl⟩ := hb.form
  by_cases hl : a.length = b.length
  · have t1 : ((a.length : Int) != (b.length : Int)) = false := by rw [bne_eq_false_iff_eq]; omega
    have E0 : Hid (a.take a.length = b.take a.length → a = b) := by intro h; rwa [List.take_length, hl, List.take_length] at h
    replace hl := Lib.hid hl
    unfold maxLen at la lb
    go_enter Tryz.func44, Tryz.ntmps44
    go_wp2
    go_loopw [5, 13] (fun _ i wr => ∃ k : Nat, i = .int .i64 k ∧ k ≤ a.length ∧ Q w wr ∧ Hid (a.take k = b.take k)) (fun _ i _ => a.length - (intOf i).toNat)
    case atStart => exact ⟨0, rfl, by omega, Q.refl _, rfl⟩
    case round =>
      obtain ⟨k, rfl, hk, hq, H⟩ := hrel
      by_cases hlt : k < a.length
      · have hlt' : k < b.length := by have := hl.out; omega
        obtain ⟨ga, oa, _, ea, _, _, hca⟩ := (ha.keep hq).atP (by omega)
        obtain ⟨gb, ob, _, eb, _, _, hcb⟩ := (hb.keep hq).atP (by omega)
        obtain ⟨rfl, -, rfl⟩ := Value.slice.inj ea
        obtain ⟨rfl, -, rfl⟩ := Value.slice.inj eb
        obtain ⟨c1, c2⟩ := hca k hlt
        obtain ⟨c3, c4⟩ := hcb k hlt'
        have En : Hid (¬ a[k] = b[k] → ¬ a = b) := same_noP hlt hlt'
        have Ey : Hid (a[k] = b[k] → a.take (k + 1) = b.take (k + 1)) := same_headP hl.out hlt H.out
        have hnq := fun w => neqP a[k] b[k] w
        unfold aggP at hnq
        have lt2 : (k : Int) < (a.length : Int) := by omega
        have lt3 : (k : Int) < (b.length : Int) := by omega
        clear hca hcb ha hb
        generalize a[k] = x at *
        generalize b[k] = y at *
        by_cases h1 : x = y
        · rw [decide_eq_true h1] at hnq
          have E1 := Lib.hid (Ey.out h1)
          simp only [Bool.not_true] at hnq
          clear h1 Ey En H
          go_wp2_with fail
          go_quiet (fail)
          go_wp2
          go_roundw
          case rel => exact ⟨k + 1, by go_num, by omega, (hq.drewN _), E1⟩
          case measure => simp [intOf]; omega
        · rw [decide_eq_false h1] at hnq
          have E1 := Lib.hid (En.out h1)
          simp only [Bool.not_false] at hnq
          clear h1 Ey En H
          go_wp2_with fail
          go_quiet (fail)
          go_wp2
          go_ret
          exact ⟨ret_bool (decide_eq_false E1.out).symm, hq.drewN _⟩
      · have : k = a.length := by omega
        subst this
        have E1 := Lib.hid (E0.out H.out)
        go_wp2
        go_ret
        exact ⟨ret_bool (decide_eq_true E1.out).symm, hq⟩
  · have t1 : ((a.length : Int) != (b.length : Int)) = true := by rw [bne_iff_ne]; omega
    have E0 : Hid (¬ a = b) := by intro e; exact hl (by rw [e])
    go_enter Tryz.func44, Tryz.ntmps44
    go_wp2
    go_ret
    exact ⟨ret_bool (decide_eq_false E0.out).symm, Q.refl _⟩

/-! ### Diff -/
def diffN (a b : Nd) : ByteArray :=
  if a.kind ≠ b.kind then ⟨#[107, 105, 110, 100]⟩ else if a.mt ≠ b.mt then diffM a.mt b.mt else if a.size ≠ b.size then ⟨#[115, 105, 122, 101]⟩ else if a.data ≠ b.data then ⟨#[100, 97, 116, 97]⟩
  else if a.target ≠ b.target then ⟨#[116, 97, 114, 103, 101, 116]⟩ else if a.major ≠ b.major ∨ a.minor ≠ b.minor then ⟨#[100, 101, 118, 105, 99, 101]⟩ else ⟨#[]⟩
theorem diffN_empty (a b : Nd) : (diffN a b).toList.isEmpty = decide (a = b) := by
  have hm := diffM_empty a.mt b.mt
  obtain ⟨a1, a2, a3, a4, a5, a6, a7⟩ := a
  obtain ⟨b1, b2, b3, b4, b5, b6, b7⟩ := b
  unfold diffN
  simp only [Nd.mk.injEq] at hm ⊢
  by_cases h1 : a1 = b1
  · by_cases h2 : a2 = b2
    · by_cases h3 : a3 = b3
      · by_cases h4 : a4 = b4
        · by_cases h5 : a5 = b5
          · by_cases h6 : a6 = b6
            · by_cases h7 : a7 = b7
              · simp [h1, h2, h3, h4, h5, h6, h7, Lib.toList_data]
              · simp [h1, h2, h3, h4, h5, h6, h7, Lib.toList_data]
            · simp [h1, h2, h3, h4, h5, h6, Lib.toList_data]
          · simp [h1, h2, h3, h4, h5, Lib.toList_data]
        · simp [h1, h2, h3, h4, Lib.toList_data]
      · simp [h1, h2, h3, Lib.toList_data]
    · simp only [h1, ne_eq, not_true_eq_false, if_false, h2, not_false_eq_true, if_true, hm, true_and, false_and]
  · simp [h1, Lib.toList_data]

set_option maxRecDepth 100000 in
set_option maxHeartbeats 8000000 in
theorem diffN_any (v v' : Value) (a b : Nd) (w : World) (ha : NodeAt w v a) (hb : NodeAt w v' b) :
    Calls Tryz.prog 15 #[v, v'] w fun e w' => e = .returned (.string (diffN a b)) ∧ Q w w' := by
  obtain ⟨vaa, val, vad, rfl, haa, hal, had⟩ := ha
  obtain ⟨vba, vbl, vbd, rfl, hba, hbl, hbd⟩ := hb
  have HM : Hid (∀ w', Q w w' → Calls Tryz.prog 43 #[.agg #[.int .i64 a.mt.mode, .int .i64 a.mt.uid, .int .i64 a.mt.gid, .int .i64 a.mt.time, vaa, val], .agg #[.int .i64 b.mt.mode, .int .i64 b.mt.uid, .int .i64 b.mt.gid, .int .i64 b.mt.time, vba, vbl]] w' fun e w'' => e = .returned (.string (diffM a.mt b.mt)) ∧ Q w' w'') := fun w' q => diff_any _ _ a.mt b.mt w' ⟨vaa, val, rfl, haa.keep q, hal.keep q⟩ ⟨vba, vbl, rfl, hba.keep q, hbl.keep q⟩
  have HE : Hid (∀ w', Q w w' → Calls Tryz.prog 44 #[vad, vbd] w' fun e w'' => e = .returned (.bool (decide (a.data = b.data))) ∧ Q w' w'') := fun w' q => equal_any _ _ _ _ w' (had.keep q) (hbd.keep q)
  have hme := diffM_empty a.mt b.mt
  have E : Hid (diffN a b = if a.kind ≠ b.kind then ⟨#[107, 105, 110, 100]⟩ else if a.mt ≠ b.mt then diffM a.mt b.mt else if a.size ≠ b.size then ⟨#[115, 105, 122, 101]⟩ else if a.data ≠ b.data then ⟨#[100, 97, 116, 97]⟩
  else if a.target ≠ b.target then ⟨#[116, 97, 114, 103, 101, 116]⟩ else if a.major ≠ b.major ∨ a.minor ≠ b.minor then ⟨#[100, 101, 118, 105, 99, 101]⟩ else ⟨#[]⟩) := rfl
  generalize diffN a b = r at *
  generalize diffM a.mt b.mt = dm at *
  clear haa hal had hba hbl hbd
  obtain ⟨ka, ma, sza, da, tga, maa, mia⟩ := a
  obtain ⟨kb, mb, szb, db, tgb, mab, mib⟩ := b
  unfold nodeV
  simp only at HM HE hme E ⊢
  have Em : Hid (ma = mb ↔ decide (ma = mb) = true) := (decide_eq_true_iff (p := ma = mb)).symm
  go_enter Tryz.func15, Tryz.ntmps15
  by_cases h1 : ka = kb
  rotate_left
  · have t1 : (ka != kb) = true := bne_iff_ne.2 h1
    replace E := Lib.hid (E.out.trans (if_pos h1))
    clear h1
    go_wp2
    go_ret
    exact ⟨ret_string E.out.symm, ((Q.refl w).alloc _).alloc _⟩
  have t1 : (ka != kb) = false := by rw [bne_eq_false_iff_eq]; exact h1
  replace E := Lib.hid (E.out.trans (if_neg fun k => k h1))
  clear h1
  go_wp2_with fail
  generalize hmA : ma.mode = moa at *
  generalize ma.uid = ua at *
  generalize ma.gid = ga at *
  generalize ma.time = tia at *
  generalize mb.mode = mob at *
  generalize mb.uid = ub at *
  generalize mb.gid = gb at *
  generalize mb.time = tib at *
  clear hmA
  have x1 : BoxN ((w.alloc (.cells #[.int .i64 ka, .int .i64 moa, .int .i64 ua, .int .i64 ga, .int .i64 tia, vaa, val, .int .i64 sza, vad, .string tga, .int .i64 maa, .int .i64 mia] 28)).alloc (.cells #[.int .i64 kb, .int .i64 mob, .int .i64 ub, .int .i64 gb, .int .i64 tib, vba, vbl, .int .i64 szb, vbd, .string tgb, .int .i64 mab, .int .i64 mib] 28)) w.heap.size #[.int .i64 ka, .int .i64 moa, .int .i64 ua, .int .i64 ga, .int .i64 tia, vaa, val, .int .i64 sza, vad, .string tga, .int .i64 maa, .int .i64 mia] := (BoxN.new w _).keep ((Q.refl _).alloc _)
  have y1 := BoxN.new (w.alloc (.cells #[.int .i64 ka, .int .i64 moa, .int .i64 ua, .int .i64 ga, .int .i64 tia, vaa, val, .int .i64 sza, vad, .string tga, .int .i64 maa, .int .i64 mia] 28)) #[.int .i64 kb, .int .i64 mob, .int .i64 ub, .int .i64 gb, .int .i64 tib, vba, vbl, .int .i64 szb, vbd, .string tgb, .int .i64 mab, .int .i64 mib]
  rw [World.size_alloc] at y1
  have q1 : Q w ((w.alloc (.cells #[.int .i64 ka, .int .i64 moa, .int .i64 ua, .int .i64 ga, .int .i64 tia, vaa, val, .int .i64 sza, vad, .string tga, .int .i64 maa, .int .i64 mia] 28)).alloc (.cells #[.int .i64 kb, .int .i64 mob, .int .i64 ub, .int .i64 gb, .int .i64 tib, vba, vbl, .int .i64 szb, vbd, .string tgb, .int .i64 mab, .int .i64 mib] 28)) := ((Q.refl w).alloc _).alloc _
  generalize (w.alloc (.cells #[.int .i64 ka, .int .i64 moa, .int .i64 ua, .int .i64 ga, .int .i64 tia, vaa, val, .int .i64 sza, vad, .string tga, .int .i64 maa, .int .i64 mia] 28)).alloc (.cells #[.int .i64 kb, .int .i64 mob, .int .i64 ub, .int .i64 gb, .int .i64 tib, vba, vbl, .int .i64 szb, vbd, .string tgb, .int .i64 mab, .int .i64 mib] 28) = w1 at *
  refine (HM.out _ q1).mono ?_
  rintro e w2 ⟨rfl, q2⟩
  replace x1 := x1.keep q2
  replace y1 := y1.keep q2
  replace q1 := q1.trans q2
  clear q2 HM
  obtain ⟨i0, i1, i2, i3, i4, i5, i6, i7, i8, i9, i10, i11⟩ := x1.cells
  obtain ⟨j0, j1, j2, j3, j4, j5, j6, j7, j8, j9, j10, j11⟩ := y1.cells
  by_cases h2 : ma = mb
  rotate_left
  · rw [decide_eq_false h2] at hme
    replace E := Lib.hid (E.out.trans (if_pos h2))
    clear h2 Em
    go_wp2
    go_ret
    exact ⟨ret_string E.out.symm, q1⟩
  rw [decide_eq_true h2] at hme
  replace E := Lib.hid (E.out.trans (if_neg fun k => k h2))
  clear h2 Em
  by_cases h3 : sza = szb
  rotate_left
  · have t3 : (sza != szb) = true := bne_iff_ne.2 h3
    replace E := Lib.hid (E.out.trans (if_pos h3))
    clear h3
    go_wp2
    go_ret
    exact ⟨ret_string E.out.symm, q1⟩
  have t3 : (sza != szb) = false := by rw [bne_eq_false_iff_eq]; exact h3
  replace E := Lib.hid (E.out.trans (if_neg fun k => k h3))
  clear h3
  go_wp2_with fail
  refine (HE.out _ q1).mono ?_
  rintro e w3 ⟨rfl, q3⟩
  clear i0 i1 i2 i3 i4 i5 i6 i7 i8 i9 i10 i11 j0 j1 j2 j3 j4 j5 j6 j7 j8 j9 j10 j11
  replace x1 := x1.keep q3
  replace y1 := y1.keep q3
  replace q1 := q1.trans q3
  clear q3 HE
  obtain ⟨i0, i1, i2, i3, i4, i5, i6, i7, i8, i9, i10, i11⟩ := x1.cells
  obtain ⟨j0, j1, j2, j3, j4, j5, j6, j7, j8, j9, j10, j11⟩ := y1.cells
  by_cases h4 : da = db
  rotate_left
  · rw [decide_eq_false h4]
    replace E := Lib.hid (E.out.trans (if_pos h4))
    clear h4
    go_wp2
    go_ret
    exact ⟨ret_string E.out.symm, q1⟩
  rw [decide_eq_true h4]
  replace E := Lib.hid (E.out.trans (if_neg fun k => k h4))
  clear h4
  by_cases h5 : tga = tgb
  rotate_left
  · have t5 : (tga.toList == tgb.toList) = false := beq_eq_false_iff_ne.2 fun k => h5 (str_inj k)
    replace E := Lib.hid (E.out.trans (if_pos h5))
    clear h5
    go_wp2
    go_ret
    exact ⟨ret_string E.out.symm, q1⟩
  have t5 : (tga.toList == tgb.toList) = true := beq_iff_eq.2 (by rw [h5])
  replace E := Lib.hid (E.out.trans (if_neg fun k => k h5))
  clear h5
  by_cases h6 : maa = mab
  rotate_left
  · have t6 : (maa != mab) = true := bne_iff_ne.2 h6
    replace E := Lib.hid (E.out.trans (if_pos (.inl h6)))
    clear h6
    go_wp2
    go_ret
    exact ⟨ret_string E.out.symm, q1⟩
  have t6 : (maa != mab) = false := by rw [bne_eq_false_iff_eq]; exact h6
  by_cases h7 : mia = mib
  rotate_left
  · have t7 : (mia != mib) = true := bne_iff_ne.2 h7
    replace E := Lib.hid (E.out.trans (if_pos (.inr h7)))
    clear h6 h7
    go_wp2
    go_ret
    exact ⟨ret_string E.out.symm, q1⟩
  have t7 : (mia != mib) = false := by rw [bne_eq_false_iff_eq]; exact h7
  replace E := Lib.hid (E.out.trans (if_neg fun k => k.elim (fun k => k h6) (fun k => k h7)))
  clear h6 h7
  go_wp2
  go_ret
  exact ⟨ret_string E.out.symm, q1⟩

set_option maxRecDepth 100000 in
set_option maxHeartbeats 4000000 in
theorem sameN_any (v v' : Value) (a b : Nd) (w : World) (ha : NodeAt w v a) (hb : NodeAt w v' b) :
    Calls Tryz.prog 17 #[v, v'] w fun e w' => e = .returned (.bool (decide (a = b))) ∧ Q w w' := by
  have HD : Hid (∀ w', Q w w' → Calls Tryz.prog 15 #[v, v'] w' fun e w'' => e = .returned (.string (diffN a b)) ∧ Q w' w'') := fun w' q => diffN_any v v' a b w' (ha.keep q) (hb.keep q)
  have he := diffN_empty a b
  generalize decide (a = b) = r at *
  generalize diffN a b = s at *
  obtain ⟨vaa, val, vad, rfl, -, -, -⟩ := ha
  obtain ⟨vba, vbl, vbd, rfl, -, -, -⟩ := hb
  unfold nodeV at HD ⊢
  go_enter Tryz.func17, Tryz.ntmps17
  go_wp2_with fail
  refine (HD.out _ (((Q.refl w).alloc _).alloc _)).mono ?_
  rintro e w2 ⟨rfl, q2⟩
  have q3 := (((Q.refl w).alloc _).alloc _).trans q2
  clear q2 HD
  go_wp2
  go_ret
  exact ⟨rfl, q3⟩
end Go.Proofs.YtheobpilmphdjaaGreat.Nd
