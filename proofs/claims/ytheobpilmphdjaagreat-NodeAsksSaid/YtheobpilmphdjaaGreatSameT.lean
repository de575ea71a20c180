/-
  The contracts of meta.sameAttrs and of the document's SameAttrs.
-/
import Derived.Test.YtheobpilmphdjaaGreatFns
import Derived.Laws.StructEq
namespace Go.Proofs.YtheobpilmphdjaaGreat
open Go.RowKit

theorem guardT : Tryz.prog.eqGuardType Tryz.prog.depth 66 = false := by kernel_rfl
theorem equalT (x y : Attr) (w : World) : (Op.equalIn 10000 66 (aggT x) (aggT y)).run Tryz.prog w = .ok (decide (x = y)) w := by
  obtain ⟨n, v⟩ := x
  obtain ⟨n', v'⟩ := y
  have u3 := Tryz.underlying9
  have a3 := Tryz.isAgg9
  have z3 := Tryz.sizeOf9
  have hS : Tryz.prog.underlying 66 = some (.struct (Tryz.prog.fieldsOf 66)) := by kernel_rfl
  have hp : Tryz.prog.stoodInHeld 66 = false := by kernel_rfl
  unfold aggT
  rw [show (10000 : Nat) = 9999 + 1 from rfl, run_equalIn_agg w 9999 66 _ _ hS hp]
  simp only [Program.fieldsOf, Tryz.underlying66]
  go_simp
  have e1 : (n.toList = n'.toList) = (n = n') := propext ⟨str_inj, fun e => by rw [e]⟩
  have e2 : (v.toList = v'.toList) = (v = v') := propext ⟨str_inj, fun e => by rw [e]⟩
  by_cases h1 : n = n' <;> by_cases h2 : v = v' <;> simp [h1, h2, e1, e2]
theorem neqT (x y : Attr) (w : World) : Sem.run Tryz.prog (binOp .neq 66 (aggT x) (aggT y)) w = .ok (.bool (!decide (x = y))) w := by
  have h := equalT x y w
  unfold aggT at *
  rw [run_neq_struct]
  rw [h]
  rfl
theorem eqT (x y : Attr) (w : World) : Sem.run Tryz.prog (binOp .eql 66 (aggT x) (aggT y)) w = .ok (.bool (decide (x = y))) w := by
  have h := equalT x y w
  unfold aggT at *
  rw [run_eql_struct]
  rw [h]
  rfl

theorem same_headT {a b : List Attr} (h : a.length = b.length) {k : Nat} (hk : k < a.length) (hs : a.take k = b.take k) (h1 : a[k] = b[k]) : a.take (k + 1) = b.take (k + 1) := by
  rw [List.take_succ_eq_append_getElem hk, List.take_succ_eq_append_getElem (by omega : k < b.length), hs, h1]
theorem same_noT {a b : List Attr} {k : Nat} (hk : k < a.length) (hk' : k < b.length) (h1 : ¬ a[k] = b[k]) : ¬ a = b := by
  intro e
  subst e
  exact h1 rfl

set_option maxRecDepth 100000 in
set_option maxHeartbeats 2000000 in
theorem sameT_any (va vb : Value) (a b : List Attr) (w : World) (ha : AtsAt w va a) (hb : AtsAt w vb b) :
    Calls Tryz.prog 66 #[va, vb] w fun e w' => e = .returned (.bool (decide (a = b))) ∧ Q w w' := by
  have la := ha.len
  have lb := hb.len
  obtain ⟨A, ca, rfl⟩ := ha.form
  obtain ⟨B, cb, rfl⟩ := hb.form
  by_cases hl : a.length = b.length
  · have t1 : ((a.length : Int) != (b.length : Int)) = false := by rw [bne_eq_false_iff_eq]; omega
    have E0 : Hid (a.take a.length = b.take a.length → a = b) := by intro h; rwa [List.take_length, hl, List.take_length] at h
    unfold maxLen at la lb
    go_enter Tryz.func66, Tryz.ntmps66
    go_wp2
    refine wp_scope_goto 0 (fun a' w' => Q w w' ∧ ∃ (k : Nat) (u6 u7 u8 u9 u10 u11 u12 u13 u14 u15 u16 u17 u18 u19 u20 u21 u22 u23 u24 u25 : Value), a' = { tmps := #[.slice A a.length ca, .slice B b.length cb, undef, undef, .bool false, .int .i64 k, u6, u7, u8, u9, u10, u11, u12, u13, u14, u15, u16, u17, u18, u19, u20, u21, u22, u23, u24, u25], defers := [] } ∧ k ≤ a.length ∧ Hid (a.take k = b.take k)) (fun a' _ => a.length - (intOf (a'.tmps.getD 5 undef)).toNat) rfl ?_ ?_
    · intro hh
      go_wp2
      go_step3
      rename_i hK
      exact hK _ _ (hh.out _ _ ⟨Q.refl _, 0, _, _, _, _, _, _, _, _, _, _, _, _, _, _, _, _, _, _, _, _, rfl, by omega, rfl⟩)
    · rintro a' w' ⟨hq, k, u6, u7, u8, u9, u10, u11, u12, u13, u14, u15, u16, u17, u18, u19, u20, u21, u22, u23, u24, u25, rfl, hk, H⟩
      by_cases hlt : k < a.length
      · have hlt' : k < b.length := by omega
        have t2 : ((k : Int) == (a.length : Int)) = false := beq_eq_false_iff_ne.2 (by omega)
        obtain ⟨ga, oa, _, ea, _, _, hca⟩ := (ha.keep hq).atT (by omega)
        obtain ⟨gb, ob, _, eb, _, _, hcb⟩ := (hb.keep hq).atT (by omega)
        cases ea
        cases eb
        obtain ⟨c1, c2⟩ := hca k hlt
        obtain ⟨d1, d2⟩ := hcb k hlt'
        have En : Hid (¬ a[k] = b[k] → ¬ a = b) := same_noT hlt hlt'
        have Ey : Hid (a[k] = b[k] → a.take (k + 1) = b.take (k + 1)) := same_headT hl hlt H.out
        have n1 : ∀ w, Sem.run Tryz.prog (binOp .neq 66 (aggT a[k]) (aggT b[k])) w = .ok (.bool (!decide (a[k] = b[k]))) w := fun w => neqT _ _ w
        unfold aggT at n1
        have gd := guardT
        clear hca hcb ha hb H
        generalize a[k] = x at *
        generalize b[k] = y at *
        have m1 : (k : Int) < (a.length : Int) := by omega
        have m2 : (k : Int) < (b.length : Int) := by omega
        by_cases h1 : x = y
        · rw [decide_eq_true h1] at n1
          have E := Lib.hid (Ey.out h1)
          simp only [Bool.not_true] at n1
          clear h1 Ey En
          go_wp2
          go_quiet (fail)
          go_wp2
          go_step3
          exact ⟨rfl, ⟨hq.drewN _, k + 1, _, _, _, _, _, _, _, _, _, _, _, _, _, _, _, _, _, _, _, _, rfl, hlt, E⟩, by simp [intOf]; omega⟩
        · rw [decide_eq_false h1] at n1
          have E := Lib.hid (En.out h1)
          simp only [Bool.not_false] at n1
          clear h1 Ey En
          go_wp2
          go_quiet (fail)
          go_wp2
          simp only [Exit.jump]
          go_ret
          exact ⟨ret_bool (b_false E.out), hq.drewN _⟩
      · have t2 : ((k : Int) == (a.length : Int)) = true := beq_iff_eq.2 (by omega)
        have : k = a.length := by omega
        subst this
        have E := Lib.hid (E0.out H.out)
        clear H
        go_wp2
        simp only [Exit.jump]
        go_ret
        exact ⟨ret_bool (b_true E.out), hq⟩
  · have t1 : ((a.length : Int) != (b.length : Int)) = true := by rw [bne_iff_ne]; omega
    have E0 : Hid (¬ a = b) := by intro e; exact hl (by rw [e])
    go_enter Tryz.func66, Tryz.ntmps66
    go_wp2
    refine wp_scope_goto 0 (fun _ _ => False) (fun _ _ => 0) rfl ?_ ?_
    · intro _
      go_wp2
      simp only [Exit.jump]
      go_ret
      exact ⟨ret_bool (b_false E0.out), Q.refl _⟩
    · exact fun _ _ h => h.elim

set_option maxRecDepth 100000 in
set_option maxHeartbeats 2000000 in
theorem sameTRef_any (va vb : Value) (a b : List Attr) (w : World) (ha : AtsAt w va a) (hb : AtsAt w vb b) :
    Calls Tryz.prog 68 #[va, vb] w fun e w' => e = .returned (.bool (decide (a = b))) ∧ Q w w' := by
  have la := ha.len
  have lb := hb.len
  obtain ⟨A, ca, rfl⟩ := ha.form
  obtain ⟨B, cb, rfl⟩ := hb.form
  by_cases hl : a.length = b.length
  · have t1 : ((a.length : Int) != (b.length : Int)) = false := by rw [bne_eq_false_iff_eq]; omega
    have E0 : Hid (a.take a.length = b.take a.length → a = b) := by intro h; rwa [List.take_length, hl, List.take_length] at h
    unfold maxLen at la lb
    go_enter Tryz.func68, Tryz.ntmps68
    go_wp2
    go_loopw [5] (fun i wr => ∃ k : Nat, i = .int .i64 k ∧ k ≤ a.length ∧ Q w wr ∧ Hid (a.take k = b.take k)) (fun i _ => a.length - (intOf i).toNat)
    case atStart => exact ⟨0, rfl, by omega, Q.refl _, rfl⟩
    case round =>
      obtain ⟨k, rfl, hk, hq, H⟩ := hrel
      by_cases hlt : k < a.length
      · have hlt' : k < b.length := by omega
        obtain ⟨ga, oa, _, ea, _, _, hca⟩ := (ha.keep hq).atT (by omega)
        obtain ⟨gb, ob, _, eb, _, _, hcb⟩ := (hb.keep hq).atT (by omega)
        cases ea
        cases eb
        obtain ⟨c1, c2⟩ := hca k hlt
        obtain ⟨d1, d2⟩ := hcb k hlt'
        have En : Hid (¬ a[k] = b[k] → ¬ a = b) := same_noT hlt hlt'
        have Ey : Hid (a[k] = b[k] → a.take (k + 1) = b.take (k + 1)) := same_headT hl hlt H.out
        have n1 : ∀ w, Sem.run Tryz.prog (binOp .neq 66 (aggT a[k]) (aggT b[k])) w = .ok (.bool (!decide (a[k] = b[k]))) w := fun w => neqT _ _ w
        unfold aggT at n1
        have gd := guardT
        clear hca hcb ha hb H
        generalize a[k] = x at *
        generalize b[k] = y at *
        have m2 : (k : Int) < (b.length : Int) := by omega
        by_cases h1 : x = y
        · rw [decide_eq_true h1] at n1
          have E := Lib.hid (Ey.out h1)
          simp only [Bool.not_true] at n1
          clear h1 Ey En
          go_wp2
          go_quiet (fail)
          go_wp2
          go_roundw
          case rel => exact ⟨k + 1, by go_num, by omega, (hq.drewN _), E⟩
          case measure => simp [intOf]; omega
        · rw [decide_eq_false h1] at n1
          have E := Lib.hid (En.out h1)
          simp only [Bool.not_false] at n1
          clear h1 Ey En
          go_wp2
          go_quiet (fail)
          go_wp2
          go_ret
          exact ⟨ret_bool (b_false E.out), hq.drewN _⟩
      · have : k = a.length := by omega
        subst this
        have E1 := Lib.hid (E0.out H.out)
        go_wp2
        go_ret
        exact ⟨ret_bool (b_true E1.out), hq⟩
  · have t1 : ((a.length : Int) != (b.length : Int)) = true := by rw [bne_iff_ne]; omega
    have E0 : Hid (¬ a = b) := by intro e; exact hl (by rw [e])
    go_enter Tryz.func68, Tryz.ntmps68
    go_wp2
    go_ret
    exact ⟨ret_bool (b_false E0.out), Q.refl _⟩
end Go.Proofs.YtheobpilmphdjaaGreat
