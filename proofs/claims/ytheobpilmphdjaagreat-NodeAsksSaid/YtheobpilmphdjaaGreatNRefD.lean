/-
  The contracts of the document's SamePieces, DiffNode, SameNode.
-/
import Derived.Test.YtheobpilmphdjaaGreatNDiff
namespace Go.Proofs.YtheobpilmphdjaaGreat.Nd
open Go.RowKit
open Go.Proofs.YtheobpilmphdjaaGreat.Ex.Rng
open Go.Proofs.YtheobpilmphdjaaGreat.Ex (E ExtsAt)

set_option maxRecDepth 100000 in
set_option maxHeartbeats 4000000 in
theorem samePRef_any (va vb : Value) (a b : List Pc) (w : World) (ha : PcsAt w va a) (hb : PcsAt w vb b) :
    Calls Tryz.prog 46 #[va, vb] w fun e w' => e = .returned (.bool (decide (a = b))) ∧ Q w w' := by
  have la := ha.len
  have lb := hb.len
  obtain ⟨A, ca, rfl⟩ := ha.form
  obtain ⟨B, cb, rfl⟩ := hb.form
  by_cases hl : a.length = b.length
  · have t1 : ((a.length : Int) != (b.length : Int)) = false := by rw [bne_eq_false_iff_eq]; omega
    have E0 : Hid (a.take a.length = b.take a.length → a = b) := by intro h; rwa [List.take_length, hl, List.take_length] at h
    unfold maxLen at la lb
    go_enter Tryz.func46, Tryz.ntmps46
    go_wp2
    go_loopw [5] (fun i wr => ∃ k : Nat, i = .int .i64 k ∧ k ≤ a.length ∧ Q w wr ∧ Hid (a.take k = b.take k)) (fun i _ => a.length - (intOf i).toNat)
    case atStart => exact ⟨0, rfl, by omega, Q.refl _, rfl⟩
    case round =>
      obtain ⟨k, rfl, hk, hq, H⟩ := hrel
      by_cases hlt : k < a.length
      · have hlt' : k < b.length := by omega
        obtain ⟨ga, oa, _, ea, _, _, hca⟩ := (ha.keep hq).atP (by omega)
        obtain ⟨gb, ob, _, eb, _, _, hcb⟩ := (hb.keep hq).atP (by omega)
        cases ea
        cases eb
        obtain ⟨c1, c2⟩ := hca k hlt
        obtain ⟨d1, d2⟩ := hcb k hlt'
        have En : Hid (¬ a[k] = b[k] → ¬ a = b) := same_noP hlt hlt'
        have Ey : Hid (a[k] = b[k] → a.take (k + 1) = b.take (k + 1)) := same_headP hl hlt H.out
        have n1 : ∀ w, Sem.run Tryz.prog (binOp .neq 44 (aggP a[k]) (aggP b[k])) w = .ok (.bool (!decide (a[k] = b[k]))) w := fun w => neqP _ _ w
        unfold aggP at n1
        have gd := guardP
        clear hca hcb ha hb H
        generalize a[k] = x at *
        generalize b[k] = y at *
        have m2 : (k : Int) < (b.length : Int) := by omega
        by_cases h1 : x = y
        · rw [decide_eq_true h1] at n1
          have E := Lib.hid (Ey.out h1)
          simp only [Bool.not_true] at n1
          clear h1 Ey En
          go_wp2
          go_quiet (fail)
          go_wp2
          go_roundw
          case rel => exact ⟨k + 1, by go_num, by omega, (hq.drewN _), E⟩
          case measure => simp [intOf]; omega
        · rw [decide_eq_false h1] at n1
          have E := Lib.hid (En.out h1)
          simp only [Bool.not_false] at n1
          clear h1 Ey En
          go_wp2
          go_quiet (fail)
          go_wp2
          go_ret
          exact ⟨ret_bool (b_false E.out), hq.drewN _⟩
      · have : k = a.length := by omega
        subst this
        have E1 := Lib.hid (E0.out H.out)
        go_wp2
        go_ret
        exact ⟨ret_bool (b_true E1.out), hq⟩
  · have t1 : ((a.length : Int) != (b.length : Int)) = true := by rw [bne_iff_ne]; omega
    have E0 : Hid (¬ a = b) := by intro e; exact hl (by rw [e])
    go_enter Tryz.func46, Tryz.ntmps46
    go_wp2
    go_ret
    exact ⟨ret_bool (b_false E0.out), Q.refl _⟩

set_option maxRecDepth 100000 in
set_option maxHeartbeats 8000000 in
theorem diffNRef_any (v v' : Value) (a b : Nd) (w : World) (ha : NodeAt w v a) (hb : NodeAt w v' b) :
    Calls Tryz.prog 16 #[v, v'] w fun e w' => e = .returned (.string (diffN a b)) ∧ Q w w' := by
  obtain ⟨vaa, val, vad, rfl, haa, hal, had⟩ := ha
  obtain ⟨vba, vbl, vbd, rfl, hba, hbl, hbd⟩ := hb
  have HM : Hid (∀ w', Q w w' → Calls Tryz.prog 45 #[.agg #[.int .i64 a.mt.mode, .int .i64 a.mt.uid, .int .i64 a.mt.gid, .int .i64 a.mt.time, vaa, val], .agg #[.int .i64 b.mt.mode, .int .i64 b.mt.uid, .int .i64 b.mt.gid, .int .i64 b.mt.time, vba, vbl]] w' fun e w'' => e = .returned (.string (diffM a.mt b.mt)) ∧ Q w' w'') := fun w' q => diffRef_any _ _ a.mt b.mt w' ⟨vaa, val, rfl, haa.keep q, hal.keep q⟩ ⟨vba, vbl, rfl, hba.keep q, hbl.keep q⟩
  have HE : Hid (∀ w', Q w w' → Calls Tryz.prog 46 #[vad, vbd] w' fun e w'' => e = .returned (.bool (decide (a.data = b.data))) ∧ Q w' w'') := fun w' q => samePRef_any _ _ _ _ w' (had.keep q) (hbd.keep q)
  have hme := diffM_empty a.mt b.mt
  have E : Hid (diffN a b = if a.kind ≠ b.kind then ⟨#[107, 105, 110, 100]⟩ else if a.mt ≠ b.mt then diffM a.mt b.mt else if a.size ≠ b.size then ⟨#[115, 105, 122, 101]⟩ else if a.data ≠ b.data then ⟨#[100, 97, 116, 97]⟩
  else if a.target ≠ b.target then ⟨#[116, 97, 114, 103, 101, 116]⟩ else if a.major ≠ b.major ∨ a.minor ≠ b.minor then ⟨#[100, 101, 118, 105, 99, 101]⟩ else ⟨#[]⟩) := rfl
  generalize diffN a b = r at *
  generalize diffM a.mt b.mt = dm at *
  clear haa hal had hba hbl hbd
  obtain ⟨ka, ma, sza, da, tga, maa, mia⟩ := a
  obtain ⟨kb, mb, szb, db, tgb, mab, mib⟩ := b
  unfold nodeV
  simp only at HM HE hme E ⊢
  have Em : Hid (ma = mb ↔ decide (ma = mb) = true) := (decide_eq_true_iff (p := ma = mb)).symm
  go_enter Tryz.func16, Tryz.ntmps16
  by_cases h1 : ka = kb
  rotate_left
  · have t1 : (ka != kb) = true := bne_iff_ne.2 h1
    replace E := Lib.hid (E.out.trans (if_pos h1))
    clear h1
    go_wp2
    go_ret
    exact ⟨ret_string E.out.symm, ((Q.refl w).alloc _).alloc _⟩
  have t1 : (ka != kb) = false := by rw [bne_eq_false_iff_eq]; exact h1
  replace E := Lib.hid (E.out.trans (if_neg fun k => k h1))
  clear h1
  go_wp2_with fail
  generalize hmA : ma.mode = moa at *
  generalize ma.uid = ua at *
  generalize ma.gid = ga at *
  generalize ma.time = tia at *
  generalize mb.mode = mob at *
  generalize mb.uid = ub at *
  generalize mb.gid = gb at *
  generalize mb.time = tib at *
  clear hmA
  have x1 : BoxN ((w.alloc (.cells #[.int .i64 ka, .int .i64 moa, .int .i64 ua, .int .i64 ga, .int .i64 tia, vaa, val, .int .i64 sza, vad, .string tga, .int .i64 maa, .int .i64 mia] 28)).alloc (.cells #[.int .i64 kb, .int .i64 mob, .int .i64 ub, .int .i64 gb, .int .i64 tib, vba, vbl, .int .i64 szb, vbd, .string tgb, .int .i64 mab, .int .i64 mib] 28)) w.heap.size #[.int .i64 ka, .int .i64 moa, .int .i64 ua, .int .i64 ga, .int .i64 tia, vaa, val, .int .i64 sza, vad, .string tga, .int .i64 maa, .int .i64 mia] := (BoxN.new w _).keep ((Q.refl _).alloc _)
  have y1 := BoxN.new (w.alloc (.cells #[.int .i64 ka, .int .i64 moa, .int .i64 ua, .int .i64 ga, .int .i64 tia, vaa, val, .int .i64 sza, vad, .string tga, .int .i64 maa, .int .i64 mia] 28)) #[.int .i64 kb, .int .i64 mob, .int .i64 ub, .int .i64 gb, .int .i64 tib, vba, vbl, .int .i64 szb, vbd, .string tgb, .int .i64 mab, .int .i64 mib]
  rw [World.size_alloc] at y1
  have q1 : Q w ((w.alloc (.cells #[.int .i64 ka, .int .i64 moa, .int .i64 ua, .int .i64 ga, .int .i64 tia, vaa, val, .int .i64 sza, vad, .string tga, .int .i64 maa, .int .i64 mia] 28)).alloc (.cells #[.int .i64 kb, .int .i64 mob, .int .i64 ub, .int .i64 gb, .int .i64 tib, vba, vbl, .int .i64 szb, vbd, .string tgb, .int .i64 mab, .int .i64 mib] 28)) := ((Q.refl w).alloc _).alloc _
  generalize (w.alloc (.cells #[.int .i64 ka, .int .i64 moa, .int .i64 ua, .int .i64 ga, .int .i64 tia, vaa, val, .int .i64 sza, vad, .string tga, .int .i64 maa, .int .i64 mia] 28)).alloc (.cells #[.int .i64 kb, .int .i64 mob, .int .i64 ub, .int .i64 gb, .int .i64 tib, vba, vbl, .int .i64 szb, vbd, .string tgb, .int .i64 mab, .int .i64 mib] 28) = w1 at *
  refine (HM.out _ q1).mono ?_
  rintro e w2 ⟨rfl, q2⟩
  replace x1 := x1.keep q2
  replace y1 := y1.keep q2
  replace q1 := q1.trans q2
  clear q2 HM
  obtain ⟨i0, i1, i2, i3, i4, i5, i6, i7, i8, i9, i10, i11⟩ := x1.cells
  obtain ⟨j0, j1, j2, j3, j4, j5, j6, j7, j8, j9, j10, j11⟩ := y1.cells
  by_cases h2 : ma = mb
  rotate_left
  · rw [decide_eq_false h2] at hme
    replace E := Lib.hid (E.out.trans (if_pos h2))
    clear h2 Em
    go_wp2
    go_ret
    exact ⟨ret_string E.out.symm, q1⟩
  rw [decide_eq_true h2] at hme
  replace E := Lib.hid (E.out.trans (if_neg fun k => k h2))
  clear h2 Em
  by_cases h3 : sza = szb
  rotate_left
  · have t3 : (sza != szb) = true := bne_iff_ne.2 h3
    replace E := Lib.hid (E.out.trans (if_pos h3))
    clear h3
    go_wp2
    go_ret
    exact ⟨ret_string E.out.symm, q1⟩
  have t3 : (sza != szb) = false := by rw [bne_eq_false_iff_eq]; exact h3
  replace E := Lib.hid (E.out.trans (if_neg fun k => k h3))
  clear h3
  go_wp2_with fail
  refine (HE.out _ q1).mono ?_
  rintro e w3 ⟨rfl, q3⟩
  clear i0 i1 i2 i3 i4 i5 i6 i7 i8 i9 i10 i11 j0 j1 j2 j3 j4 j5 j6 j7 j8 j9 j10 j11
  replace x1 := x1.keep q3
  replace y1 := y1.keep q3
  replace q1 := q1.trans q3
  clear q3 HE
  obtain ⟨i0, i1, i2, i3, i4, i5, i6, i7, i8, i9, i10, i11⟩ := x1.cells
  obtain ⟨j0, j1, j2, j3, j4, j5, j6, j7, j8, j9, j10, j11⟩ := y1.cells
  by_cases h4 : da = db
  rotate_left
  · rw [decide_eq_false h4]
    replace E := Lib.hid (E.out.trans (if_pos h4))
    clear h4
    go_wp2
    go_ret
    exact ⟨ret_string E.out.symm, q1⟩
  rw [decide_eq_true h4]
  replace E := Lib.hid (E.out.trans (if_neg fun k => k h4))
  clear h4
  by_cases h5 : tga = tgb
  rotate_left
  · have t5 : (tga.toList == tgb.toList) = false := beq_eq_false_iff_ne.2 fun k => h5 (str_inj k)
    replace E := Lib.hid (E.out.trans (if_pos h5))
    clear h5
    go_wp2
    go_ret
    exact ⟨ret_string E.out.symm, q1⟩
  have t5 : (tga.toList == tgb.toList) = true := beq_iff_eq.2 (by rw [h5])
  replace E := Lib.hid (E.out.trans (if_neg fun k => k h5))
  clear h5
  by_cases h6 : maa = mab
  rotate_left
  · have t6 : (maa != mab) = true := bne_iff_ne.2 h6
    replace E := Lib.hid (E.out.trans (if_pos (.inl h6)))
    clear h6
    go_wp2
    go_ret
    exact ⟨ret_string E.out.symm, q1⟩
  have t6 : (maa != mab) = false := by rw [bne_eq_false_iff_eq]; exact h6
  by_cases h7 : mia = mib
  rotate_left
  · have t7 : (mia != mib) = true := bne_iff_ne.2 h7
    replace E := Lib.hid (E.out.trans (if_pos (.inr h7)))
    clear h6 h7
    go_wp2
    go_ret
    exact ⟨ret_string E.out.symm, q1⟩
  have t7 : (mia != mib) = false := by rw [bne_eq_false_iff_eq]; exact h7
  replace E := Lib.hid (E.out.trans (if_neg fun k => k.elim (fun k => k h6) (fun k => k h7)))
  clear h6 h7
  go_wp2
  go_ret
  exact ⟨ret_string E.out.symm, q1⟩

set_option maxRecDepth 100000 in
set_option maxHeartbeats 4000000 in
theorem sameNRef_any (v v' : Value) (a b : Nd) (w : World) (ha : NodeAt w v a) (hb : NodeAt w v' b) :
    Calls Tryz.prog 14 #[v, v'] w fun e w' => e = .returned (.bool (decide (a = b))) ∧ Q w w' := by
  have HD : Hid (∀ w', Q w w' → Calls Tryz.prog 16 #[v, v'] w' fun e w'' => e = .returned (.string (diffN a b)) ∧ Q w' w'') := fun w' q => diffNRef_any v v' a b w' (ha.keep q) (hb.keep q)
  have he := diffN_empty a b
  generalize decide (a = b) = r at *
  generalize diffN a b = s at *
  obtain ⟨vaa, val, vad, rfl, -, -, -⟩ := ha
  obtain ⟨vba, vbl, vbd, rfl, -, -, -⟩ := hb
  unfold nodeV at HD ⊢
  go_enter Tryz.func14, Tryz.ntmps14
  go_wp2_with fail
  refine (HD.out _ (((Q.refl w).alloc _).alloc _)).mono ?_
  rintro e w2 ⟨rfl, q2⟩
  have q3 := (((Q.refl w).alloc _).alloc _).trans q2
  clear q2 HD
  go_wp2
  go_ret
  exact ⟨rfl, q3⟩
end Go.Proofs.YtheobpilmphdjaaGreat.Nd
