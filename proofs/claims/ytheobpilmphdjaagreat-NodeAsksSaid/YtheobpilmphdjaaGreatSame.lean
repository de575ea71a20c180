/-
  The contracts of acl.Same and of the document's SameAcl.
-/
import Derived.Test.YtheobpilmphdjaaGreatMem
import Derived.Laws.StructEq
namespace Go.Proofs.YtheobpilmphdjaaGreat
open Go.RowKit

theorem guardA : Tryz.prog.eqGuardType Tryz.prog.depth 87 = false := by kernel_rfl
theorem equalA (x y : Ace) (w : World) : (Op.equalIn 10000 87 (aggA x) (aggA y)).run Tryz.prog w = .ok (decide (x = y)) w := by
  obtain ⟨k, i, p⟩ := x
  obtain ⟨k', i', p'⟩ := y
  have u3 := Tryz.underlying3
  have a3 := Tryz.isAgg3
  have z3 := Tryz.sizeOf3
  have hS : Tryz.prog.underlying 87 = some (.struct (Tryz.prog.fieldsOf 87)) := by kernel_rfl
  have hp : Tryz.prog.stoodInHeld 87 = false := by kernel_rfl
  unfold aggA
  rw [show (10000 : Nat) = 9999 + 1 from rfl, run_equalIn_agg w 9999 87 _ _ hS hp]
  simp only [Program.fieldsOf, Tryz.underlying87]
  go_simp
  by_cases h1 : k = k' <;> by_cases h2 : i = i' <;> by_cases h3 : p = p' <;> simp [h1, h2, h3]
theorem neqA (x y : Ace) (w : World) : Sem.run Tryz.prog (binOp .neq 87 (aggA x) (aggA y)) w = .ok (.bool (!decide (x = y))) w := by
  have h := equalA x y w
  unfold aggA at *
  rw [run_neq_struct]
  rw [h]
  rfl
theorem eqA (x y : Ace) (w : World) : Sem.run Tryz.prog (binOp .eql 87 (aggA x) (aggA y)) w = .ok (.bool (decide (x = y))) w := by
  have h := equalA x y w
  unfold aggA at *
  rw [run_eql_struct]
  rw [h]
  rfl

theorem same_head {a b : List Ace} (h : a.length = b.length) {k : Nat} (hk : k < a.length) (hs : a.take k = b.take k) (h1 : a[k] = b[k]) : a.take (k + 1) = b.take (k + 1) := by
  rw [List.take_succ_eq_append_getElem hk, List.take_succ_eq_append_getElem (by omega : k < b.length), hs, h1]
theorem same_no {a b : List Ace} {k : Nat} (hk : k < a.length) (hk' : k < b.length) (h1 : ¬ a[k] = b[k]) : ¬ a = b := by
  intro e
  subst e
  exact h1 rfl

set_option maxRecDepth 100000 in
set_option maxHeartbeats 2000000 in
theorem same_any (va vb : Value) (a b : List Ace) (w : World) (ha : AcesAt w va a) (hb : AcesAt w vb b) :
    Calls Tryz.prog 67 #[va, vb] w fun e w' => e = .returned (.bool (decide (a = b))) ∧ Q w w' := by
  have la := ha.len
  have lb := hb.len
  obtain ⟨A, ca, rfl⟩ := ha.form
  obtain ⟨B, cb, rfl⟩ := hb.form
  by_cases hl : a.length = b.length
  · have t1 : ((a.length : Int) != (b.length : Int)) = false := by rw [bne_eq_false_iff_eq]; omega
    have E0 : Hid (a.take a.length = b.take a.length → a = b) := by intro h; rwa [List.take_length, hl, List.take_length] at h
    unfold maxLen at la lb
    go_enter Tryz.func67, Tryz.ntmps67
    go_wp2
    refine wp_scope_goto 0 (fun a' w' => Q w w' ∧ ∃ (k : Nat) (u6 u7 u8 u9 u10 u11 u12 u13 u14 u15 u16 u17 u18 u19 u20 u21 u22 u23 u24 u25 : Value), a' = { tmps := #[.slice A a.length ca, .slice B b.length cb, undef, undef, .bool false, .int .i64 k, u6, u7, u8, u9, u10, u11, u12, u13, u14, u15, u16, u17, u18, u19, u20, u21, u22, u23, u24, u25], defers := [] } ∧ k ≤ a.length ∧ Hid (a.take k = b.take k)) (fun a' _ => a.length - (intOf (a'.tmps.getD 5 undef)).toNat) rfl ?_ ?_
    · intro hh
      go_wp2
      go_step3
      rename_i hK
      exact hK _ _ (hh.out _ _ ⟨Q.refl _, 0, _, _, _, _, _, _, _, _, _, _, _, _, _, _, _, _, _, _, _, _, rfl, by omega, rfl⟩)
    · rintro a' w' ⟨hq, k, u6, u7, u8, u9, u10, u11, u12, u13, u14, u15, u16, u17, u18, u19, u20, u21, u22, u23, u24, u25, rfl, hk, H⟩
      by_cases hlt : k < a.length
      · have hlt' : k < b.length := by omega
        have t2 : ((k : Int) == (a.length : Int)) = false := beq_eq_false_iff_ne.2 (by omega)
        obtain ⟨ga, oa, _, ea, _, _, hca⟩ := (ha.keep hq).at_ (by omega)
        obtain ⟨gb, ob, _, eb, _, _, hcb⟩ := (hb.keep hq).at_ (by omega)
        cases ea
        cases eb
        obtain ⟨c1, c2, c3⟩ := hca k hlt
        obtain ⟨d1, d2, d3⟩ := hcb k hlt'
        have En : Hid (¬ a[k] = b[k] → ¬ a = b) := same_no hlt hlt'
        have Ey : Hid (a[k] = b[k] → a.take (k + 1) = b.take (k + 1)) := same_head hl hlt H.out
        have n1 : ∀ w, Sem.run Tryz.prog (binOp .neq 87 (aggA a[k]) (aggA b[k])) w = .ok (.bool (!decide (a[k] = b[k]))) w := fun w => neqA _ _ w
        unfold aggA at n1
        have gd := guardA
        clear hca hcb ha hb H
        generalize a[k] = x at *
        generalize b[k] = y at *
        have m1 : (k : Int) < (a.length : Int) := by omega
        have m2 : (k : Int) < (b.length : Int) := by omega
        by_cases h1 : x = y
        · rw [decide_eq_true h1] at n1
          have E := Lib.hid (Ey.out h1)
          simp only [Bool.not_true] at n1
          clear h1 Ey En
          go_wp2
          go_quiet (fail)
          go_wp2
          go_step3
          exact ⟨rfl, ⟨hq.drewN _, k + 1, _, _, _, _, _, _, _, _, _, _, _, _, _, _, _, _, _, _, _, _, rfl, hlt, E⟩, by simp [intOf]; omega⟩
        · rw [decide_eq_false h1] at n1
          have E := Lib.hid (En.out h1)
          simp only [Bool.not_false] at n1
          clear h1 Ey En
          go_wp2
          go_quiet (fail)
          go_wp2
          simp only [Exit.jump]
          go_ret
          exact ⟨ret_bool (b_false E.out), hq.drewN _⟩
      · have t2 : ((k : Int) == (a.length : Int)) = true := beq_iff_eq.2 (by omega)
        have : k = a.length := by omega
        subst this
        have E := Lib.hid (E0.out H.out)
        clear H
        go_wp2
        simp only [Exit.jump]
        go_ret
        exact ⟨ret_bool (b_true E.out), hq⟩
  · have t1 : ((a.length : Int) != (b.length : Int)) = true := by rw [bne_iff_ne]; omega
    have E0 : Hid (¬ a = b) := by intro e; exact hl (by rw [e])
    go_enter Tryz.func67, Tryz.ntmps67
    go_wp2
    refine wp_scope_goto 0 (fun _ _ => False) (fun _ _ => 0) rfl ?_ ?_
    · intro _
      go_wp2
      simp only [Exit.jump]
      go_ret
      exact ⟨ret_bool (b_false E0.out), Q.refl _⟩
    · exact fun _ _ h => h.elim

set_option maxRecDepth 100000 in
set_option maxHeartbeats 2000000 in
theorem sameRef_any (va vb : Value) (a b : List Ace) (w : World) (ha : AcesAt w va a) (hb : AcesAt w vb b) :
    Calls Tryz.prog 69 #[va, vb] w fun e w' => e = .returned (.bool (decide (a = b))) ∧ Q w w' := by
  have la := ha.len
  have lb := hb.len
  obtain ⟨A, ca, rfl⟩ := ha.form
  obtain ⟨B, cb, rfl⟩ := hb.form
  by_cases hl : a.length = b.length
  · have t1 : ((a.length : Int) != (b.length : Int)) = false := by rw [bne_eq_false_iff_eq]; omega
    have E0 : Hid (a.take a.length = b.take a.length → a = b) := by intro h; rwa [List.take_length, hl, List.take_length] at h
    unfold maxLen at la lb
    go_enter Tryz.func69, Tryz.ntmps69
    go_wp2
    go_loopw [5] (fun i wr => ∃ k : Nat, i = .int .i64 k ∧ k ≤ a.length ∧ Q w wr ∧ Hid (a.take k = b.take k)) (fun i _ => a.length - (intOf i).toNat)
    case atStart => exact ⟨0, rfl, by omega, Q.refl _, rfl⟩
    case round =>
      obtain ⟨k, rfl, hk, hq, H⟩ := hrel
      by_cases hlt : k < a.length
      · have hlt' : k < b.length := by omega
        obtain ⟨ga, oa, _, ea, _, _, hca⟩ := (ha.keep hq).at_ (by omega)
        obtain ⟨gb, ob, _, eb, _, _, hcb⟩ := (hb.keep hq).at_ (by omega)
        cases ea
        cases eb
        obtain ⟨c1, c2, c3⟩ := hca k hlt
        obtain ⟨d1, d2, d3⟩ := hcb k hlt'
        have En : Hid (¬ a[k] = b[k] → ¬ a = b) := same_no hlt hlt'
        have Ey : Hid (a[k] = b[k] → a.take (k + 1) = b.take (k + 1)) := same_head hl hlt H.out
        have n1 : ∀ w, Sem.run Tryz.prog (binOp .neq 87 (aggA a[k]) (aggA b[k])) w = .ok (.bool (!decide (a[k] = b[k]))) w := fun w => neqA _ _ w
        unfold aggA at n1
        have gd := guardA
        clear hca hcb ha hb H
        generalize a[k] = x at *
        generalize b[k] = y at *
        have m2 : (k : Int) < (b.length : Int) := by omega
        by_cases h1 : x = y
        · rw [decide_eq_true h1] at n1
          have E := Lib.hid (Ey.out h1)
          simp only [Bool.not_true] at n1
          clear h1 Ey En
          go_wp2
          go_quiet (fail)
          go_wp2
          go_roundw
          case rel => exact ⟨k + 1, by go_num, by omega, (hq.drewN _), E⟩
          case measure => simp [intOf]; omega
        · rw [decide_eq_false h1] at n1
          have E := Lib.hid (En.out h1)
          simp only [Bool.not_false] at n1
          clear h1 Ey En
          go_wp2
          go_quiet (fail)
          go_wp2
          go_ret
          exact ⟨ret_bool (b_false E.out), hq.drewN _⟩
      · have : k = a.length := by omega
        subst this
        have E1 := Lib.hid (E0.out H.out)
        go_wp2
        go_ret
        exact ⟨ret_bool (b_true E1.out), hq⟩
  · have t1 : ((a.length : Int) != (b.length : Int)) = true := by rw [bne_iff_ne]; omega
    have E0 : Hid (¬ a = b) := by intro e; exact hl (by rw [e])
    go_enter Tryz.func69, Tryz.ntmps69
    go_wp2
    go_ret
    exact ⟨ret_bool (b_false E0.out), Q.refl _⟩
end Go.Proofs.YtheobpilmphdjaaGreat
