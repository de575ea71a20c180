/-
  The contract of node.Diff, of Same, and of slices.Equal at pieces. The contracts of the document's SamePieces, DiffNode, SameNode. The contract of node.Read. The contract of node.Write. The contract of node.Cut. The contract of the law's told: what the document says of a few.
-/
import Derived.Laws.StructEq
import Derived.Test.YtgbenepapajieaaGreatNFile
namespace Go.Proofs.YtgbenepapajieaaGreat.Nd
open Go.RowKit
open Go.Proofs.YtgbenepapajieaaGreat.Ex.Rng
open Go.Proofs.YtgbenepapajieaaGreat.Ex (E ExtsAt)


theorem guardP : Tryz.prog.eqGuardType Tryz.prog.depth 87 = false := by kernel_rfl
theorem equalP (x y : Pc) (w : World) : (Op.equalIn 10000 87 (aggP x) (aggP y)).run Tryz.prog w = .ok (decide (x = y)) w := by
  obtain ⟨n, v⟩ := x
  obtain ⟨n', v'⟩ := y
  have u3 := Tryz.underlying9
  have a3 := Tryz.isAgg9
  have z3 := Tryz.sizeOf9
  have u4 := Tryz.underlying2
  have a4 := Tryz.isAgg2
  have z4 := Tryz.sizeOf2
  have hS : Tryz.prog.underlying 87 = some (.struct (Tryz.prog.fieldsOf 87)) := by kernel_rfl
  have hp : Tryz.prog.stoodInHeld 87 = false := by kernel_rfl
  unfold aggP
  rw [show (10000 : Nat) = 9999 + 1 from rfl, run_equalIn_agg w 9999 87 _ _ hS hp]
  simp only [Program.fieldsOf, Tryz.underlying87]
  go_simp
  have e2 : (v.toList = v'.toList) = (v = v') := propext ⟨str_inj, fun e => by rw [e]⟩
  by_cases h1 : n = n' <;> by_cases h2 : v = v' <;> simp [h1, h2, e2]
theorem neqP (x y : Pc) (w : World) : Sem.run Tryz.prog (binOp .neq 87 (aggP x) (aggP y)) w = .ok (.bool (!decide (x = y))) w := by
  have h := equalP x y w
  unfold aggP at *
  rw [run_neq_struct]
  rw [h]
  rfl
theorem same_headP {a b : List Pc} (h : a.length = b.length) {k : Nat} (hk : k < a.length) (hs : a.take k = b.take k) (h1 : a[k] = b[k]) : a.take (k + 1) = b.take (k + 1) := by
  rw [List.take_succ_eq_append_getElem hk, List.take_succ_eq_append_getElem (by omega : k < b.length), hs, h1]
theorem same_noP {a b : List Pc} {k : Nat} (hk : k < a.length) (hk' : k < b.length) (h1 : ¬ a[k] = b[k]) : ¬ a = b := by
  intro e
  subst e
  exact h1 rfl
set_option maxRecDepth 100000 in
set_option maxHeartbeats 4000000 in
theorem equal_any (va vb : Value) (a b : List Pc) (w : World) (ha : PcsAt w va a) (hb : PcsAt w vb b) :
    Calls Tryz.prog 101 #[va, vb] w fun e w' => e = .returned (.bool (decide (a = b))) ∧ Q w w' := by
  have la := ha.len
  have lb := hb.len
  obtain ⟨A, ca, rfl⟩ := ha.form
  obtain ⟨B, cb, rfl⟩ := hb.form
  by_cases hl : a.length = b.length
  · have t1 : ((a.length : Int) != (b.length : Int)) = false := by rw [bne_eq_false_iff_eq]; omega
    have E0 : Hid (a.take a.length = b.take a.length → a = b) := by intro h; rwa [List.take_length, hl, List.take_length] at h
    replace hl := Lib.hid hl
    unfold maxLen at la lb
    go_enter Tryz.func101, Tryz.ntmps101
    go_wp2
    go_loopw [5, 13] (fun _ i wr => ∃ k : Nat, i = .int .i64 k ∧ k ≤ a.length ∧ Q w wr ∧ Hid (a.take k = b.take k)) (fun _ i _ => a.length - (intOf i).toNat)
    case atStart => exact ⟨0, rfl, by omega, Q.refl _, rfl⟩
    case round =>
      obtain ⟨k, rfl, hk, hq, H⟩ := hrel
      by_cases hlt : k < a.length
      · have hlt' : k < b.length := by have := hl.out; omega
        obtain ⟨ga, oa, _, ea, _, _, hca⟩ := (ha.keep hq).atP (by omega)
        obtain ⟨gb, ob, _, eb, _, _, hcb⟩ := (hb.keep hq).atP (by omega)
        obtain ⟨rfl, -, rfl⟩ := Value.slice.inj ea
        obtain ⟨rfl, -, rfl⟩ := Value.slice.inj eb
        obtain ⟨c1, c2⟩ := hca k hlt
        obtain ⟨c3, c4⟩ := hcb k hlt'
        have En : Hid (¬ a[k] = b[k] → ¬ a = b) := same_noP hlt hlt'
        have Ey : Hid (a[k] = b[k] → a.take (k + 1) = b.take (k + 1)) := same_headP hl.out hlt H.out
        have hnq := fun w => neqP a[k] b[k] w
        unfold aggP at hnq
        have lt2 : (k : Int) < (a.length : Int) := by omega
        have lt3 : (k : Int) < (b.length : Int) := by omega
        clear hca hcb ha hb
        generalize a[k] = x at *
        generalize b[k] = y at *
        by_cases h1 : x = y
        · rw [decide_eq_true h1] at hnq
          have E1 := Lib.hid (Ey.out h1)
          simp only [Bool.not_true] at hnq
          clear h1 Ey En H
          go_wp2_with fail
          go_quiet (fail)
          go_wp2
          go_roundw
          case rel => exact ⟨k + 1, by go_num, by omega, (hq.drewN _), E1⟩
          case measure => simp [intOf]; omega
        · rw [decide_eq_false h1] at hnq
          have E1 := Lib.hid (En.out h1)
          simp only [Bool.not_false] at hnq
          clear h1 Ey En H
          go_wp2_with fail
          go_quiet (fail)
          go_wp2
          go_ret
          exact ⟨ret_bool (decide_eq_false E1.out).symm, hq.drewN _⟩
      · have : k = a.length := by omega
        subst this
        have E1 := Lib.hid (E0.out H.out)
        go_wp2
        go_ret
        exact ⟨ret_bool (decide_eq_true E1.out).symm, hq⟩
  · have t1 : ((a.length : Int) != (b.length : Int)) = true := by rw [bne_iff_ne]; omega
    have E0 : Hid (¬ a = b) := by intro e; exact hl (by rw [e])
    go_enter Tryz.func101, Tryz.ntmps101
    go_wp2
    go_ret
    exact ⟨ret_bool (decide_eq_false E0.out).symm, Q.refl _⟩

/-! ### Diff -/
def diffN (a b : Nd) : ByteArray :=
  if a.kind ≠ b.kind then ⟨#[107, 105, 110, 100]⟩ else if a.mt ≠ b.mt then diffM a.mt b.mt else if a.size ≠ b.size then ⟨#[115, 105, 122, 101]⟩ else if a.data ≠ b.data then ⟨#[100, 97, 116, 97]⟩
  else if a.target ≠ b.target then ⟨#[116, 97, 114, 103, 101, 116]⟩ else if a.major ≠ b.major ∨ a.minor ≠ b.minor then ⟨#[100, 101, 118, 105, 99, 101]⟩ else ⟨#[]⟩
theorem diffN_empty (a b : Nd) : (diffN a b).toList.isEmpty = decide (a = b) := by
  have hm := diffM_empty a.mt b.mt
  obtain ⟨a1, a2, a3, a4, a5, a6, a7⟩ := a
  obtain ⟨b1, b2, b3, b4, b5, b6, b7⟩ := b
  unfold diffN
  simp only [Nd.mk.injEq] at hm ⊢
  by_cases h1 : a1 = b1
  · by_cases h2 : a2 = b2
    · by_cases h3 : a3 = b3
      · by_cases h4 : a4 = b4
        · by_cases h5 : a5 = b5
          · by_cases h6 : a6 = b6
            · by_cases h7 : a7 = b7
              · simp [h1, h2, h3, h4, h5, h6, h7, Lib.toList_data]
              · simp [h1, h2, h3, h4, h5, h6, h7, Lib.toList_data]
            · simp [h1, h2, h3, h4, h5, h6, Lib.toList_data]
          · simp [h1, h2, h3, h4, h5, Lib.toList_data]
        · simp [h1, h2, h3, h4, Lib.toList_data]
      · simp [h1, h2, h3, Lib.toList_data]
    · simp only [h1, ne_eq, not_true_eq_false, if_false, h2, not_false_eq_true, if_true, hm, true_and, false_and]
  · simp [h1, Lib.toList_data]

set_option maxRecDepth 100000 in
set_option maxHeartbeats 8000000 in
theorem diffN_any (v v' : Value) (a b : Nd) (w : World) (ha : NodeAt w v a) (hb : NodeAt w v' b) :
    Calls Tryz.prog 79 #[v, v'] w fun e w' => e = .returned (.string (diffN a b)) ∧ Q w w' := by
  obtain ⟨vaa, val, vad, rfl, haa, hal, had⟩ := ha
  obtain ⟨vba, vbl, vbd, rfl, hba, hbl, hbd⟩ := hb
  have HM : Hid (∀ w', Q w w' → Calls Tryz.prog 100 #[.agg #[.int .i64 a.mt.mode, .int .i64 a.mt.uid, .int .i64 a.mt.gid, .int .i64 a.mt.time, vaa, val], .agg #[.int .i64 b.mt.mode, .int .i64 b.mt.uid, .int .i64 b.mt.gid, .int .i64 b.mt.time, vba, vbl]] w' fun e w'' => e = .returned (.string (diffM a.mt b.mt)) ∧ Q w' w'') := fun w' q => diff_any _ _ a.mt b.mt w' ⟨vaa, val, rfl, haa.keep q, hal.keep q⟩ ⟨vba, vbl, rfl, hba.keep q, hbl.keep q⟩
  have HE : Hid (∀ w', Q w w' → Calls Tryz.prog 101 #[vad, vbd] w' fun e w'' => e = .returned (.bool (decide (a.data = b.data))) ∧ Q w' w'') := fun w' q => equal_any _ _ _ _ w' (had.keep q) (hbd.keep q)
  have hme := diffM_empty a.mt b.mt
  have E : Hid (diffN a b = if a.kind ≠ b.kind then ⟨#[107, 105, 110, 100]⟩ else if a.mt ≠ b.mt then diffM a.mt b.mt else if a.size ≠ b.size then ⟨#[115, 105, 122, 101]⟩ else if a.data ≠ b.data then ⟨#[100, 97, 116, 97]⟩
  else if a.target ≠ b.target then ⟨#[116, 97, 114, 103, 101, 116]⟩ else if a.major ≠ b.major ∨ a.minor ≠ b.minor then ⟨#[100, 101, 118, 105, 99, 101]⟩ else ⟨#[]⟩) := rfl
  generalize diffN a b = r at *
  generalize diffM a.mt b.mt = dm at *
  clear haa hal had hba hbl hbd
  obtain ⟨ka, ma, sza, da, tga, maa, mia⟩ := a
  obtain ⟨kb, mb, szb, db, tgb, mab, mib⟩ := b
  unfold nodeV
  simp only at HM HE hme E ⊢
  have Em : Hid (ma = mb ↔ decide (ma = mb) = true) := (decide_eq_true_iff (p := ma = mb)).symm
  go_enter Tryz.func79, Tryz.ntmps79
  by_cases h1 : ka = kb
  rotate_left
  · have t1 : (ka != kb) = true := bne_iff_ne.2 h1
    replace E := Lib.hid (E.out.trans (if_pos h1))
    clear h1
    go_wp2
    go_ret
    exact ⟨ret_string E.out.symm, ((Q.refl w).alloc _).alloc _⟩
  have t1 : (ka != kb) = false := by rw [bne_eq_false_iff_eq]; exact h1
  replace E := Lib.hid (E.out.trans (if_neg fun k => k h1))
  clear h1
  go_wp2_with fail
  generalize hmA : ma.mode = moa at *
  generalize ma.uid = ua at *
  generalize ma.gid = ga at *
  generalize ma.time = tia at *
  generalize mb.mode = mob at *
  generalize mb.uid = ub at *
  generalize mb.gid = gb at *
  generalize mb.time = tib at *
  clear hmA
  have x1 : BoxN ((w.alloc (.cells #[.int .i64 ka, .int .i64 moa, .int .i64 ua, .int .i64 ga, .int .i64 tia, vaa, val, .int .i64 sza, vad, .string tga, .int .i64 maa, .int .i64 mia] 47)).alloc (.cells #[.int .i64 kb, .int .i64 mob, .int .i64 ub, .int .i64 gb, .int .i64 tib, vba, vbl, .int .i64 szb, vbd, .string tgb, .int .i64 mab, .int .i64 mib] 47)) w.heap.size #[.int .i64 ka, .int .i64 moa, .int .i64 ua, .int .i64 ga, .int .i64 tia, vaa, val, .int .i64 sza, vad, .string tga, .int .i64 maa, .int .i64 mia] := (BoxN.new w _).keep ((Q.refl _).alloc _)
  have y1 := BoxN.new (w.alloc (.cells #[.int .i64 ka, .int .i64 moa, .int .i64 ua, .int .i64 ga, .int .i64 tia, vaa, val, .int .i64 sza, vad, .string tga, .int .i64 maa, .int .i64 mia] 47)) #[.int .i64 kb, .int .i64 mob, .int .i64 ub, .int .i64 gb, .int .i64 tib, vba, vbl, .int .i64 szb, vbd, .string tgb, .int .i64 mab, .int .i64 mib]
  rw [World.size_alloc] at y1
  have q1 : Q w ((w.alloc (.cells #[.int .i64 ka, .int .i64 moa, .int .i64 ua, .int .i64 ga, .int .i64 tia, vaa, val, .int .i64 sza, vad, .string tga, .int .i64 maa, .int .i64 mia] 47)).alloc (.cells #[.int .i64 kb, .int .i64 mob, .int .i64 ub, .int .i64 gb, .int .i64 tib, vba, vbl, .int .i64 szb, vbd, .string tgb, .int .i64 mab, .int .i64 mib] 47)) := ((Q.refl w).alloc _).alloc _
  generalize (w.alloc (.cells #[.int .i64 ka, .int .i64 moa, .int .i64 ua, .int .i64 ga, .int .i64 tia, vaa, val, .int .i64 sza, vad, .string tga, .int .i64 maa, .int .i64 mia] 47)).alloc (.cells #[.int .i64 kb, .int .i64 mob, .int .i64 ub, .int .i64 gb, .int .i64 tib, vba, vbl, .int .i64 szb, vbd, .string tgb, .int .i64 mab, .int .i64 mib] 47) = w1 at *
  refine (HM.out _ q1).mono ?_
  rintro e w2 ⟨rfl, q2⟩
  replace x1 := x1.keep q2
  replace y1 := y1.keep q2
  replace q1 := q1.trans q2
  clear q2 HM
  obtain ⟨i0, i1, i2, i3, i4, i5, i6, i7, i8, i9, i10, i11⟩ := x1.cells
  obtain ⟨j0, j1, j2, j3, j4, j5, j6, j7, j8, j9, j10, j11⟩ := y1.cells
  by_cases h2 : ma = mb
  rotate_left
  · rw [decide_eq_false h2] at hme
    replace E := Lib.hid (E.out.trans (if_pos h2))
    clear h2 Em
    go_wp2
    go_ret
    exact ⟨ret_string E.out.symm, q1⟩
  rw [decide_eq_true h2] at hme
  replace E := Lib.hid (E.out.trans (if_neg fun k => k h2))
  clear h2 Em
  by_cases h3 : sza = szb
  rotate_left
  · have t3 : (sza != szb) = true := bne_iff_ne.2 h3
    replace E := Lib.hid (E.out.trans (if_pos h3))
    clear h3
    go_wp2
    go_ret
    exact ⟨ret_string E.out.symm, q1⟩
  have t3 : (sza != szb) = false := by rw [bne_eq_false_iff_eq]; exact h3
  replace E := Lib.hid (E.out.trans (if_neg fun k => k h3))
  clear h3
  go_wp2_with fail
  refine (HE.out _ q1).mono ?_
  rintro e w3 ⟨rfl, q3⟩
  clear i0 i1 i2 i3 i4 i5 i6 i7 i8 i9 i10 i11 j0 j1 j2 j3 j4 j5 j6 j7 j8 j9 j10 j11
  replace x1 := x1.keep q3
  replace y1 := y1.keep q3
  replace q1 := q1.trans q3
  clear q3 HE
  obtain ⟨i0, i1, i2, i3, i4, i5, i6, i7, i8, i9, i10, i11⟩ := x1.cells
  obtain ⟨j0, j1, j2, j3, j4, j5, j6, j7, j8, j9, j10, j11⟩ := y1.cells
  by_cases h4 : da = db
  rotate_left
  · rw [decide_eq_false h4]
    replace E := Lib.hid (E.out.trans (if_pos h4))
    clear h4
    go_wp2
    go_ret
    exact ⟨ret_string E.out.symm, q1⟩
  rw [decide_eq_true h4]
  replace E := Lib.hid (E.out.trans (if_neg fun k => k h4))
  clear h4
  by_cases h5 : tga = tgb
  rotate_left
  · have t5 : (tga.toList == tgb.toList) = false := beq_eq_false_iff_ne.2 fun k => h5 (str_inj k)
    replace E := Lib.hid (E.out.trans (if_pos h5))
    clear h5
    go_wp2
    go_ret
    exact ⟨ret_string E.out.symm, q1⟩
  have t5 : (tga.toList == tgb.toList) = true := beq_iff_eq.2 (by rw [h5])
  replace E := Lib.hid (E.out.trans (if_neg fun k => k h5))
  clear h5
  by_cases h6 : maa = mab
  rotate_left
  · have t6 : (maa != mab) = true := bne_iff_ne.2 h6
    replace E := Lib.hid (E.out.trans (if_pos (.inl h6)))
    clear h6
    go_wp2
    go_ret
    exact ⟨ret_string E.out.symm, q1⟩
  have t6 : (maa != mab) = false := by rw [bne_eq_false_iff_eq]; exact h6
  by_cases h7 : mia = mib
  rotate_left
  · have t7 : (mia != mib) = true := bne_iff_ne.2 h7
    replace E := Lib.hid (E.out.trans (if_pos (.inr h7)))
    clear h6 h7
    go_wp2
    go_ret
    exact ⟨ret_string E.out.symm, q1⟩
  have t7 : (mia != mib) = false := by rw [bne_eq_false_iff_eq]; exact h7
  replace E := Lib.hid (E.out.trans (if_neg fun k => k.elim (fun k => k h6) (fun k => k h7)))
  clear h6 h7
  go_wp2
  go_ret
  exact ⟨ret_string E.out.symm, q1⟩

set_option maxRecDepth 100000 in
set_option maxHeartbeats 4000000 in
theorem sameN_any (v v' : Value) (a b : Nd) (w : World) (ha : NodeAt w v a) (hb : NodeAt w v' b) :
    Calls Tryz.prog 52 #[v, v'] w fun e w' => e = .returned (.bool (decide (a = b))) ∧ Q w w' := by
  have HD : Hid (∀ w', Q w w' → Calls Tryz.prog 79 #[v, v'] w' fun e w'' => e = .returned (.string (diffN a b)) ∧ Q w' w'') := fun w' q => diffN_any v v' a b w' (ha.keep q) (hb.keep q)
  have he := diffN_empty a b
  generalize decide (a = b) = r at *
  generalize diffN a b = s at *
  obtain ⟨vaa, val, vad, rfl, -, -, -⟩ := ha
  obtain ⟨vba, vbl, vbd, rfl, -, -, -⟩ := hb
  unfold nodeV at HD ⊢
  go_enter Tryz.func52, Tryz.ntmps52
  go_wp2_with fail
  refine (HD.out _ (((Q.refl w).alloc _).alloc _)).mono ?_
  rintro e w2 ⟨rfl, q2⟩
  have q3 := (((Q.refl w).alloc _).alloc _).trans q2
  clear q2 HD
  go_wp2
  go_ret
  exact ⟨rfl, q3⟩
end Go.Proofs.YtgbenepapajieaaGreat.Nd
namespace Go.Proofs.YtgbenepapajieaaGreat.Nd
open Go.RowKit
open Go.Proofs.YtgbenepapajieaaGreat.Ex.Rng
open Go.Proofs.YtgbenepapajieaaGreat.Ex (E ExtsAt)

set_option maxRecDepth 100000 in
set_option maxHeartbeats 4000000 in
theorem samePRef_any (va vb : Value) (a b : List Pc) (w : World) (ha : PcsAt w va a) (hb : PcsAt w vb b) :
    Calls Tryz.prog 84 #[va, vb] w fun e w' => e = .returned (.bool (decide (a = b))) ∧ Q w w' := by
  have la := ha.len
  have lb := hb.len
  obtain ⟨A, ca, rfl⟩ := ha.form
  obtain ⟨B, cb, rfl⟩ := hb.form
  by_cases hl : a.length = b.length
  · have t1 : ((a.length : Int) != (b.length : Int)) = false := by rw [bne_eq_false_iff_eq]; omega
    have E0 : Hid (a.take a.length = b.take a.length → a = b) := by intro h; rwa [List.take_length, hl, List.take_length] at h
    unfold maxLen at la lb
    go_enter Tryz.func84, Tryz.ntmps84
    go_wp2
    go_loopw [5] (fun i wr => ∃ k : Nat, i = .int .i64 k ∧ k ≤ a.length ∧ Q w wr ∧ Hid (a.take k = b.take k)) (fun i _ => a.length - (intOf i).toNat)
    case atStart => exact ⟨0, rfl, by omega, Q.refl _, rfl⟩
    case round =>
      obtain ⟨k, rfl, hk, hq, H⟩ := hrel
      by_cases hlt : k < a.length
      · have hlt' : k < b.length := by omega
        obtain ⟨ga, oa, _, ea, _, _, hca⟩ := (ha.keep hq).atP (by omega)
        obtain ⟨gb, ob, _, eb, _, _, hcb⟩ := (hb.keep hq).atP (by omega)
        cases ea
        cases eb
        obtain ⟨c1, c2⟩ := hca k hlt
        obtain ⟨d1, d2⟩ := hcb k hlt'
        have En : Hid (¬ a[k] = b[k] → ¬ a = b) := same_noP hlt hlt'
        have Ey : Hid (a[k] = b[k] → a.take (k + 1) = b.take (k + 1)) := same_headP hl hlt H.out
        have n1 : ∀ w, Sem.run Tryz.prog (binOp .neq 87 (aggP a[k]) (aggP b[k])) w = .ok (.bool (!decide (a[k] = b[k]))) w := fun w => neqP _ _ w
        unfold aggP at n1
        have gd := guardP
        clear hca hcb ha hb H
        generalize a[k] = x at *
        generalize b[k] = y at *
        have m2 : (k : Int) < (b.length : Int) := by omega
        by_cases h1 : x = y
        · rw [decide_eq_true h1] at n1
          have E := Lib.hid (Ey.out h1)
          simp only [Bool.not_true] at n1
          clear h1 Ey En
          go_wp2
          go_quiet (fail)
          go_wp2
          go_roundw
          case rel => exact ⟨k + 1, by go_num, by omega, (hq.drewN _), E⟩
          case measure => simp [intOf]; omega
        · rw [decide_eq_false h1] at n1
          have E := Lib.hid (En.out h1)
          simp only [Bool.not_false] at n1
          clear h1 Ey En
          go_wp2
          go_quiet (fail)
          go_wp2
          go_ret
          exact ⟨ret_bool (b_false E.out), hq.drewN _⟩
      · have : k = a.length := by omega
        subst this
        have E1 := Lib.hid (E0.out H.out)
        go_wp2
        go_ret
        exact ⟨ret_bool (b_true E1.out), hq⟩
  · have t1 : ((a.length : Int) != (b.length : Int)) = true := by rw [bne_iff_ne]; omega
    have E0 : Hid (¬ a = b) := by intro e; exact hl (by rw [e])
    go_enter Tryz.func84, Tryz.ntmps84
    go_wp2
    go_ret
    exact ⟨ret_bool (b_false E0.out), Q.refl _⟩

set_option maxRecDepth 100000 in
set_option maxHeartbeats 8000000 in
theorem diffNRef_any (v v' : Value) (a b : Nd) (w : World) (ha : NodeAt w v a) (hb : NodeAt w v' b) :
    Calls Tryz.prog 61 #[v, v'] w fun e w' => e = .returned (.string (diffN a b)) ∧ Q w w' := by
  obtain ⟨vaa, val, vad, rfl, haa, hal, had⟩ := ha
  obtain ⟨vba, vbl, vbd, rfl, hba, hbl, hbd⟩ := hb
  have HM : Hid (∀ w', Q w w' → Calls Tryz.prog 83 #[.agg #[.int .i64 a.mt.mode, .int .i64 a.mt.uid, .int .i64 a.mt.gid, .int .i64 a.mt.time, vaa, val], .agg #[.int .i64 b.mt.mode, .int .i64 b.mt.uid, .int .i64 b.mt.gid, .int .i64 b.mt.time, vba, vbl]] w' fun e w'' => e = .returned (.string (diffM a.mt b.mt)) ∧ Q w' w'') := fun w' q => diffRef_any _ _ a.mt b.mt w' ⟨vaa, val, rfl, haa.keep q, hal.keep q⟩ ⟨vba, vbl, rfl, hba.keep q, hbl.keep q⟩
  have HE : Hid (∀ w', Q w w' → Calls Tryz.prog 84 #[vad, vbd] w' fun e w'' => e = .returned (.bool (decide (a.data = b.data))) ∧ Q w' w'') := fun w' q => samePRef_any _ _ _ _ w' (had.keep q) (hbd.keep q)
  have hme := diffM_empty a.mt b.mt
  have E : Hid (diffN a b = if a.kind ≠ b.kind then ⟨#[107, 105, 110, 100]⟩ else if a.mt ≠ b.mt then diffM a.mt b.mt else if a.size ≠ b.size then ⟨#[115, 105, 122, 101]⟩ else if a.data ≠ b.data then ⟨#[100, 97, 116, 97]⟩
  else if a.target ≠ b.target then ⟨#[116, 97, 114, 103, 101, 116]⟩ else if a.major ≠ b.major ∨ a.minor ≠ b.minor then ⟨#[100, 101, 118, 105, 99, 101]⟩ else ⟨#[]⟩) := rfl
  generalize diffN a b = r at *
  generalize diffM a.mt b.mt = dm at *
  clear haa hal had hba hbl hbd
  obtain ⟨ka, ma, sza, da, tga, maa, mia⟩ := a
  obtain ⟨kb, mb, szb, db, tgb, mab, mib⟩ := b
  unfold nodeV
  simp only at HM HE hme E ⊢
  have Em : Hid (ma = mb ↔ decide (ma = mb) = true) := (decide_eq_true_iff (p := ma = mb)).symm
  go_enter Tryz.func61, Tryz.ntmps61
  by_cases h1 : ka = kb
  rotate_left
  · have t1 : (ka != kb) = true := bne_iff_ne.2 h1
    replace E := Lib.hid (E.out.trans (if_pos h1))
    clear h1
    go_wp2
    go_ret
    exact ⟨ret_string E.out.symm, ((Q.refl w).alloc _).alloc _⟩
  have t1 : (ka != kb) = false := by rw [bne_eq_false_iff_eq]; exact h1
  replace E := Lib.hid (E.out.trans (if_neg fun k => k h1))
  clear h1
  go_wp2_with fail
  generalize hmA : ma.mode = moa at *
  generalize ma.uid = ua at *
  generalize ma.gid = ga at *
  generalize ma.time = tia at *
  generalize mb.mode = mob at *
  generalize mb.uid = ub at *
  generalize mb.gid = gb at *
  generalize mb.time = tib at *
  clear hmA
  have x1 : BoxN ((w.alloc (.cells #[.int .i64 ka, .int .i64 moa, .int .i64 ua, .int .i64 ga, .int .i64 tia, vaa, val, .int .i64 sza, vad, .string tga, .int .i64 maa, .int .i64 mia] 47)).alloc (.cells #[.int .i64 kb, .int .i64 mob, .int .i64 ub, .int .i64 gb, .int .i64 tib, vba, vbl, .int .i64 szb, vbd, .string tgb, .int .i64 mab, .int .i64 mib] 47)) w.heap.size #[.int .i64 ka, .int .i64 moa, .int .i64 ua, .int .i64 ga, .int .i64 tia, vaa, val, .int .i64 sza, vad, .string tga, .int .i64 maa, .int .i64 mia] := (BoxN.new w _).keep ((Q.refl _).alloc _)
  have y1 := BoxN.new (w.alloc (.cells #[.int .i64 ka, .int .i64 moa, .int .i64 ua, .int .i64 ga, .int .i64 tia, vaa, val, .int .i64 sza, vad, .string tga, .int .i64 maa, .int .i64 mia] 47)) #[.int .i64 kb, .int .i64 mob, .int .i64 ub, .int .i64 gb, .int .i64 tib, vba, vbl, .int .i64 szb, vbd, .string tgb, .int .i64 mab, .int .i64 mib]
  rw [World.size_alloc] at y1
  have q1 : Q w ((w.alloc (.cells #[.int .i64 ka, .int .i64 moa, .int .i64 ua, .int .i64 ga, .int .i64 tia, vaa, val, .int .i64 sza, vad, .string tga, .int .i64 maa, .int .i64 mia] 47)).alloc (.cells #[.int .i64 kb, .int .i64 mob, .int .i64 ub, .int .i64 gb, .int .i64 tib, vba, vbl, .int .i64 szb, vbd, .string tgb, .int .i64 mab, .int .i64 mib] 47)) := ((Q.refl w).alloc _).alloc _
  generalize (w.alloc (.cells #[.int .i64 ka, .int .i64 moa, .int .i64 ua, .int .i64 ga, .int .i64 tia, vaa, val, .int .i64 sza, vad, .string tga, .int .i64 maa, .int .i64 mia] 47)).alloc (.cells #[.int .i64 kb, .int .i64 mob, .int .i64 ub, .int .i64 gb, .int .i64 tib, vba, vbl, .int .i64 szb, vbd, .string tgb, .int .i64 mab, .int .i64 mib] 47) = w1 at *
  refine (HM.out _ q1).mono ?_
  rintro e w2 ⟨rfl, q2⟩
  replace x1 := x1.keep q2
  replace y1 := y1.keep q2
  replace q1 := q1.trans q2
  clear q2 HM
  obtain ⟨i0, i1, i2, i3, i4, i5, i6, i7, i8, i9, i10, i11⟩ := x1.cells
  obtain ⟨j0, j1, j2, j3, j4, j5, j6, j7, j8, j9, j10, j11⟩ := y1.cells
  by_cases h2 : ma = mb
  rotate_left
  · rw [decide_eq_false h2] at hme
    replace E := Lib.hid (E.out.trans (if_pos h2))
    clear h2 Em
    go_wp2
    go_ret
    exact ⟨ret_string E.out.symm, q1⟩
  rw [decide_eq_true h2] at hme
  replace E := Lib.hid (E.out.trans (if_neg fun k => k h2))
  clear h2 Em
  by_cases h3 : sza = szb
  rotate_left
  · have t3 : (sza != szb) = true := bne_iff_ne.2 h3
    replace E := Lib.hid (E.out.trans (if_pos h3))
    clear h3
    go_wp2
    go_ret
    exact ⟨ret_string E.out.symm, q1⟩
  have t3 : (sza != szb) = false := by rw [bne_eq_false_iff_eq]; exact h3
  replace E := Lib.hid (E.out.trans (if_neg fun k => k h3))
  clear h3
  go_wp2_with fail
  refine (HE.out _ q1).mono ?_
  rintro e w3 ⟨rfl, q3⟩
  clear i0 i1 i2 i3 i4 i5 i6 i7 i8 i9 i10 i11 j0 j1 j2 j3 j4 j5 j6 j7 j8 j9 j10 j11
  replace x1 := x1.keep q3
  replace y1 := y1.keep q3
  replace q1 := q1.trans q3
  clear q3 HE
  obtain ⟨i0, i1, i2, i3, i4, i5, i6, i7, i8, i9, i10, i11⟩ := x1.cells
  obtain ⟨j0, j1, j2, j3, j4, j5, j6, j7, j8, j9, j10, j11⟩ := y1.cells
  by_cases h4 : da = db
  rotate_left
  · rw [decide_eq_false h4]
    replace E := Lib.hid (E.out.trans (if_pos h4))
    clear h4
    go_wp2
    go_ret
    exact ⟨ret_string E.out.symm, q1⟩
  rw [decide_eq_true h4]
  replace E := Lib.hid (E.out.trans (if_neg fun k => k h4))
  clear h4
  by_cases h5 : tga = tgb
  rotate_left
  · have t5 : (tga.toList == tgb.toList) = false := beq_eq_false_iff_ne.2 fun k => h5 (str_inj k)
    replace E := Lib.hid (E.out.trans (if_pos h5))
    clear h5
    go_wp2
    go_ret
    exact ⟨ret_string E.out.symm, q1⟩
  have t5 : (tga.toList == tgb.toList) = true := beq_iff_eq.2 (by rw [h5])
  replace E := Lib.hid (E.out.trans (if_neg fun k => k h5))
  clear h5
  by_cases h6 : maa = mab
  rotate_left
  · have t6 : (maa != mab) = true := bne_iff_ne.2 h6
    replace E := Lib.hid (E.out.trans (if_pos (.inl h6)))
    clear h6
    go_wp2
    go_ret
    exact ⟨ret_string E.out.symm, q1⟩
  have t6 : (maa != mab) = false := by rw [bne_eq_false_iff_eq]; exact h6
  by_cases h7 : mia = mib
  rotate_left
  · have t7 : (mia != mib) = true := bne_iff_ne.2 h7
    replace E := Lib.hid (E.out.trans (if_pos (.inr h7)))
    clear h6 h7
    go_wp2
    go_ret
    exact ⟨ret_string E.out.symm, q1⟩
  have t7 : (mia != mib) = false := by rw [bne_eq_false_iff_eq]; exact h7
  replace E := Lib.hid (E.out.trans (if_neg fun k => k.elim (fun k => k h6) (fun k => k h7)))
  clear h6 h7
  go_wp2
  go_ret
  exact ⟨ret_string E.out.symm, q1⟩

set_option maxRecDepth 100000 in
set_option maxHeartbeats 4000000 in
theorem sameNRef_any (v v' : Value) (a b : Nd) (w : World) (ha : NodeAt w v a) (hb : NodeAt w v' b) :
    Calls Tryz.prog 31 #[v, v'] w fun e w' => e = .returned (.bool (decide (a = b))) ∧ Q w w' := by
  have HD : Hid (∀ w', Q w w' → Calls Tryz.prog 61 #[v, v'] w' fun e w'' => e = .returned (.string (diffN a b)) ∧ Q w' w'') := fun w' q => diffNRef_any v v' a b w' (ha.keep q) (hb.keep q)
  have he := diffN_empty a b
  generalize decide (a = b) = r at *
  generalize diffN a b = s at *
  obtain ⟨vaa, val, vad, rfl, -, -, -⟩ := ha
  obtain ⟨vba, vbl, vbd, rfl, -, -, -⟩ := hb
  unfold nodeV at HD ⊢
  go_enter Tryz.func31, Tryz.ntmps31
  go_wp2_with fail
  refine (HD.out _ (((Q.refl w).alloc _).alloc _)).mono ?_
  rintro e w2 ⟨rfl, q2⟩
  have q3 := (((Q.refl w).alloc _).alloc _).trans q2
  clear q2 HD
  go_wp2
  go_ret
  exact ⟨rfl, q3⟩
end Go.Proofs.YtgbenepapajieaaGreat.Nd
namespace Go.Proofs.YtgbenepapajieaaGreat.Nd
open Go.RowKit
open Go.Proofs.YtgbenepapajieaaGreat.Ex.Rng
open Go.Proofs.YtgbenepapajieaaGreat.Ex (E ExtsAt)


theorem keep2c {w0 w w' : World} {g i j : Nat} {u v : Value} (h : Q w0 w ∧ w.cell? ⟨g, i, none⟩ = some u ∧ w.cell? ⟨g, j, none⟩ = some v) (q : Q w w') : Q w0 w' ∧ w'.cell? ⟨g, i, none⟩ = some u ∧ w'.cell? ⟨g, j, none⟩ = some v :=
  ⟨h.1.trans q, q.cell h.2.1, q.cell h.2.2⟩
end Go.Proofs.YtgbenepapajieaaGreat.Nd
namespace Go.Proofs.YtgbenepapajieaaGreat.Nd
open Go.RowKit
open Go.Proofs.YtgbenepapajieaaGreat.Ex.Rng
open Go.Proofs.YtgbenepapajieaaGreat.Ex (E ExtsAt)


theorem sumX_mem {r : List X} {z : X} (h : z ∈ r) : z.2 ≤ sumX r := by
  induction r with
  | nil => cases h
  | cons x r ih =>
    simp only [sumX]
    rcases List.mem_cons.1 h with rfl | k
    · omega
    · have := ih k; omega
theorem small_one (a : Int) (s : ByteArray) {d : List Pc} (h : Small d) (h1 : d.length ≤ 16) (hs : s.size ≤ 100000) : Small (d ++ [(a, s)]) :=
  ⟨by simp; omega, fun p hp => (List.mem_append.1 hp).elim (h.2 p) fun k => by rw [List.mem_singleton.1 k]; exact hs⟩
end Go.Proofs.YtgbenepapajieaaGreat.Nd
namespace Go.Proofs.YtgbenepapajieaaGreat.Nd
open Go.RowKit
open Go.Proofs.YtgbenepapajieaaGreat.Ex.Rng
open Go.Proofs.YtgbenepapajieaaGreat.Ex (E ExtsAt)


/-- A block of these cells but for the ninth. -/
def Kept (R : Array Value) (w : World) (g : Nat) : Prop := ∃ u : Value, BoxN w g (R.setIfInBounds 8 u)
theorem Kept.keep {R : Array Value} {w w' : World} {g : Nat} (h : Kept R w g) (q : Q w w') : Kept R w' g := by
  obtain ⟨u, h1⟩ := h
  exact ⟨u, h1.keep q⟩
theorem Kept.lt2 {R : Array Value} {w0 w : World} {B : Nat} {P : Prop} (h : Below B w0 w ∧ Kept R w B ∧ P) : B < w.heap.size := by
  obtain ⟨u, h1⟩ := h.2.1
  exact h1.lt
theorem Kept.keep2 {R : Array Value} {w0 w w' : World} {B : Nat} {P : Prop} (q : Q w w') (h : Below B w0 w ∧ Kept R w B ∧ P) : Kept R w' B := h.2.1.keep q
/-- What it holds at its ninth place. -/
def heldAt (w : World) (g : Nat) : Value := (w.cell? ⟨g, 8, none⟩).getD undef
theorem Kept.held {R : Array Value} (hR : R.size = 12) {w : World} {g : Nat} (h : Kept R w g) : w.cell? ⟨g, 8, none⟩ = some (heldAt w g) ∧ w.frozen? ⟨g, 8, none⟩ = false := by
  obtain ⟨u, h1⟩ := h
  refine ⟨?_, h1.soft 8⟩
  unfold heldAt
  have hc : w.cell? ⟨g, 8, none⟩ = some u := by
    unfold BoxN at h1
    simp [World.cell?, h1, hR]
  rw [hc]
  rfl
theorem Kept.put {R : Array Value} {w : World} {g : Nat} (h : Kept R w g) (v : Value) : BoxN (w.setCell ⟨g, 8, none⟩ v) g (R.setIfInBounds 8 v) := by
  obtain ⟨u, h1⟩ := h
  have := h1.set 8 v
  rwa [Array.setIfInBounds_setIfInBounds] at this
theorem Band.below {lo hi : Nat} {w a b : World} (h : Band lo hi w a) (k : Below hi a b) : Band lo hi w b := ⟨Nat.le_trans h.1 k.size, fun x h1 h2 => (k.block x h2).trans (h.2 x h1 h2)⟩
theorem keepK {R : Array Value} (hR : R.size = 12) {B : Nat} {w0 w w' : World} {g : Nat} {v0 v1 v2 v3 v4 v5 v6 v7 v8 v9 v10 v11 : Value} (h : Below B w0 w ∧ Kept R w B ∧ w.cell? ⟨B, 8, none⟩ = some (heldAt w B) ∧ w.frozen? ⟨B, 8, none⟩ = false ∧ w.cell? ⟨g, 0, none⟩ = some v0 ∧ w.cell? ⟨g, 1, none⟩ = some v1 ∧ w.cell? ⟨g, 2, none⟩ = some v2 ∧ w.cell? ⟨g, 3, none⟩ = some v3 ∧ w.cell? ⟨g, 4, none⟩ = some v4 ∧ w.cell? ⟨g, 5, none⟩ = some v5 ∧ w.cell? ⟨g, 6, none⟩ = some v6 ∧ w.cell? ⟨g, 7, none⟩ = some v7 ∧ w.cell? ⟨g, 8, none⟩ = some v8 ∧ w.cell? ⟨g, 9, none⟩ = some v9 ∧ w.cell? ⟨g, 10, none⟩ = some v10 ∧ w.cell? ⟨g, 11, none⟩ = some v11) (q : Q w w') : Below B w0 w' ∧ Kept R w' B ∧ w'.cell? ⟨B, 8, none⟩ = some (heldAt w' B) ∧ w'.frozen? ⟨B, 8, none⟩ = false ∧ w'.cell? ⟨g, 0, none⟩ = some v0 ∧ w'.cell? ⟨g, 1, none⟩ = some v1 ∧ w'.cell? ⟨g, 2, none⟩ = some v2 ∧ w'.cell? ⟨g, 3, none⟩ = some v3 ∧ w'.cell? ⟨g, 4, none⟩ = some v4 ∧ w'.cell? ⟨g, 5, none⟩ = some v5 ∧ w'.cell? ⟨g, 6, none⟩ = some v6 ∧ w'.cell? ⟨g, 7, none⟩ = some v7 ∧ w'.cell? ⟨g, 8, none⟩ = some v8 ∧ w'.cell? ⟨g, 9, none⟩ = some v9 ∧ w'.cell? ⟨g, 10, none⟩ = some v10 ∧ w'.cell? ⟨g, 11, none⟩ = some v11 := by
  obtain ⟨h0, hk, -, -, h1, h2, h3, h4, h5, h6, h7, h8, h9, h10, h11, h12⟩ := h
  have hB : B ≤ w.heap.size := by obtain ⟨u, h1⟩ := hk; exact Nat.le_of_lt h1.lt
  have hk' := hk.keep q
  exact ⟨Below.trans h0 (Below.mono q hB), hk', (hk'.held hR).1, (hk'.held hR).2, q.cell h1, q.cell h2, q.cell h3, q.cell h4, q.cell h5, q.cell h6, q.cell h7, q.cell h8, q.cell h9, q.cell h10, q.cell h11, q.cell h12⟩
theorem keepS {R : Array Value} (hR : R.size = 12) {B : Nat} {w0 w : World} {g : Nat} (hg : g ≠ B) (u : Value) {v0 v1 v2 v3 v4 v5 v6 v7 v8 v9 v10 v11 : Value} (h : Below B w0 w ∧ Kept R w B ∧ w.cell? ⟨B, 8, none⟩ = some (heldAt w B) ∧ w.frozen? ⟨B, 8, none⟩ = false ∧ w.cell? ⟨g, 0, none⟩ = some v0 ∧ w.cell? ⟨g, 1, none⟩ = some v1 ∧ w.cell? ⟨g, 2, none⟩ = some v2 ∧ w.cell? ⟨g, 3, none⟩ = some v3 ∧ w.cell? ⟨g, 4, none⟩ = some v4 ∧ w.cell? ⟨g, 5, none⟩ = some v5 ∧ w.cell? ⟨g, 6, none⟩ = some v6 ∧ w.cell? ⟨g, 7, none⟩ = some v7 ∧ w.cell? ⟨g, 8, none⟩ = some v8 ∧ w.cell? ⟨g, 9, none⟩ = some v9 ∧ w.cell? ⟨g, 10, none⟩ = some v10 ∧ w.cell? ⟨g, 11, none⟩ = some v11) : Below B w0 (w.setCell ⟨B, 8, none⟩ u) ∧ Kept R (w.setCell ⟨B, 8, none⟩ u) B ∧ (w.setCell ⟨B, 8, none⟩ u).cell? ⟨B, 8, none⟩ = some (heldAt (w.setCell ⟨B, 8, none⟩ u) B) ∧ (w.setCell ⟨B, 8, none⟩ u).frozen? ⟨B, 8, none⟩ = false ∧ (w.setCell ⟨B, 8, none⟩ u).cell? ⟨g, 0, none⟩ = some v0 ∧ (w.setCell ⟨B, 8, none⟩ u).cell? ⟨g, 1, none⟩ = some v1 ∧ (w.setCell ⟨B, 8, none⟩ u).cell? ⟨g, 2, none⟩ = some v2 ∧ (w.setCell ⟨B, 8, none⟩ u).cell? ⟨g, 3, none⟩ = some v3 ∧ (w.setCell ⟨B, 8, none⟩ u).cell? ⟨g, 4, none⟩ = some v4 ∧ (w.setCell ⟨B, 8, none⟩ u).cell? ⟨g, 5, none⟩ = some v5 ∧ (w.setCell ⟨B, 8, none⟩ u).cell? ⟨g, 6, none⟩ = some v6 ∧ (w.setCell ⟨B, 8, none⟩ u).cell? ⟨g, 7, none⟩ = some v7 ∧ (w.setCell ⟨B, 8, none⟩ u).cell? ⟨g, 8, none⟩ = some v8 ∧ (w.setCell ⟨B, 8, none⟩ u).cell? ⟨g, 9, none⟩ = some v9 ∧ (w.setCell ⟨B, 8, none⟩ u).cell? ⟨g, 10, none⟩ = some v10 ∧ (w.setCell ⟨B, 8, none⟩ u).cell? ⟨g, 11, none⟩ = some v11 := by
  obtain ⟨h0, hk, -, -, h1, h2, h3, h4, h5, h6, h7, h8, h9, h10, h11, h12⟩ := h
  have hk' : Kept R (w.setCell ⟨B, 8, none⟩ u) B := ⟨u, hk.put u⟩
  exact ⟨Below.setCell h0 (p := ⟨B, 8, none⟩) (Nat.le_refl _) u, hk', (hk'.held hR).1, (hk'.held hR).2, ((Far.refl B w).chain 8 u).cell hg h1, ((Far.refl B w).chain 8 u).cell hg h2, ((Far.refl B w).chain 8 u).cell hg h3, ((Far.refl B w).chain 8 u).cell hg h4, ((Far.refl B w).chain 8 u).cell hg h5, ((Far.refl B w).chain 8 u).cell hg h6, ((Far.refl B w).chain 8 u).cell hg h7, ((Far.refl B w).chain 8 u).cell hg h8, ((Far.refl B w).chain 8 u).cell hg h9, ((Far.refl B w).chain 8 u).cell hg h10, ((Far.refl B w).chain 8 u).cell hg h11, ((Far.refl B w).chain 8 u).cell hg h12⟩

end Go.Proofs.YtgbenepapajieaaGreat.Nd
namespace Go.Proofs.YtgbenepapajieaaGreat.Nd
open Go.RowKit
open Go.Proofs.YtgbenepapajieaaGreat.Ex.Rng
open Go.Proofs.YtgbenepapajieaaGreat.Ex (E ExtsAt)

theorem may_c {v : Value} {n : Nd} {b : Bool} {w : World} (h : NodeAt w v n) (hs : Small n.data) (hb : mayN n = b) : Calls Tryz.prog 75 #[v] w fun e w' => e = .returned (.bool b) ∧ Q w w' := by
  rw [← hb]; exact may_any v n w h hs
instance (l : List Pc) : Decidable (Small l) := inferInstanceAs (Decidable (_ ∧ _))

theorem fit_of {n : Nd} (h : n.mt.attrs.length ≤ 10000 ∧ n.mt.acl.length ≤ 10000 ∧ Small n.data) : Fit n := ⟨h.1, h.2.1, h.2.2⟩
theorem n0_fit : Fit ⟨2, ⟨0, 0, 0, 0, [], []⟩, 0, [], ⟨#[]⟩, 0, 0⟩ := fit_of (by decide +kernel)
theorem nA_fit : Fit ⟨2, ⟨0, 0, 0, 0, [], []⟩, 5, [(3, ⟨#[97, 98]⟩)], ⟨#[]⟩, 0, 0⟩ := fit_of (by decide +kernel)
theorem nB_fit : Fit ⟨2, ⟨0, 0, 0, 0, [], []⟩, 5, [(1, ⟨#[120, 121, 122, 98]⟩)], ⟨#[]⟩, 0, 0⟩ := fit_of (by decide +kernel)
theorem n1_fit : Fit ⟨1, ⟨0, 0, 0, 0, [], []⟩, 0, [], ⟨#[]⟩, 0, 0⟩ := fit_of (by decide +kernel)
theorem w_a : writeN ⟨2, ⟨0, 0, 0, 0, [], []⟩, 0, [], ⟨#[]⟩, 0, 0⟩ 3 ⟨#[97, 98]⟩ = (⟨2, ⟨0, 0, 0, 0, [], []⟩, 5, [(3, ⟨#[97, 98]⟩)], ⟨#[]⟩, 0, 0⟩, 0) := by decide +kernel
theorem w_b : writeN ⟨2, ⟨0, 0, 0, 0, [], []⟩, 5, [(3, ⟨#[97, 98]⟩)], ⟨#[]⟩, 0, 0⟩ 1 ⟨#[120, 121, 122]⟩ = (⟨2, ⟨0, 0, 0, 0, [], []⟩, 5, [(1, ⟨#[120, 121, 122, 98]⟩)], ⟨#[]⟩, 0, 0⟩, 0) := by decide +kernel
theorem w_c : cutNd ⟨2, ⟨0, 0, 0, 0, [], []⟩, 5, [(1, ⟨#[120, 121, 122, 98]⟩)], ⟨#[]⟩, 0, 0⟩ 2 = (⟨2, ⟨0, 0, 0, 0, [], []⟩, 2, [(1, ⟨#[120]⟩)], ⟨#[]⟩, 0, 0⟩, 0) := by decide +kernel
theorem w_s : readN ⟨2, ⟨0, 0, 0, 0, [], []⟩, 5, [(1, ⟨#[120, 121, 122, 98]⟩)], ⟨#[]⟩, 0, 0⟩ 0 9 = (⟨#[0, 120, 121, 122, 98]⟩, 0) := by decide +kernel
theorem w_i : writeN ⟨1, ⟨0, 0, 0, 0, [], []⟩, 0, [], ⟨#[]⟩, 0, 0⟩ 0 ⟨#[97]⟩ = (⟨1, ⟨0, 0, 0, 0, [], []⟩, 0, [], ⟨#[]⟩, 0, 0⟩, 1) := by decide +kernel
theorem w_j : writeN ⟨2, ⟨0, 0, 0, 0, [], []⟩, 0, [], ⟨#[]⟩, 0, 0⟩ 1099511627776 ⟨#[97]⟩ = (⟨2, ⟨0, 0, 0, 0, [], []⟩, 0, [], ⟨#[]⟩, 0, 0⟩, 2) := by decide +kernel
theorem w_d : cutNd ⟨2, ⟨0, 0, 0, 0, [], []⟩, 5, [(1, ⟨#[120, 121, 122, 98]⟩)], ⟨#[]⟩, 0, 0⟩ 9 = (⟨2, ⟨0, 0, 0, 0, [], []⟩, 9, [(1, ⟨#[120, 121, 122, 98]⟩)], ⟨#[]⟩, 0, 0⟩, 0) := by decide +kernel
theorem m_b : mayN ⟨2, ⟨0, 0, 0, 0, [], []⟩, 5, [(1, ⟨#[120, 121, 122, 98]⟩)], ⟨#[]⟩, 0, 0⟩ = true := by decide +kernel
theorem m_z : mayN ⟨0, ⟨0, 0, 0, 0, [], []⟩, 0, [], ⟨#[]⟩, 0, 0⟩ = false := by decide +kernel
theorem d_bc : diffN ⟨2, ⟨0, 0, 0, 0, [], []⟩, 5, [(1, ⟨#[120, 121, 122, 98]⟩)], ⟨#[]⟩, 0, 0⟩ ⟨2, ⟨0, 0, 0, 0, [], []⟩, 2, [(1, ⟨#[120]⟩)], ⟨#[]⟩, 0, 0⟩ = ⟨#[115, 105, 122, 101]⟩ := by decide +kernel
end Go.Proofs.YtgbenepapajieaaGreat.Nd
