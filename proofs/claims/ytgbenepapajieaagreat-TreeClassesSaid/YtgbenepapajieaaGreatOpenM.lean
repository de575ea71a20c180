/-
  The contracts of meta.sameAttrs and of the document's SameAttrs. Metadata: as plain mathematics, as a value; the contracts of meta.May, Diff, Same. The contracts of meta.Diff, meta.Same and of the document's DiffMeta. The contract of meta.Copy: equal metadata, in memory of its own. Metadata that came in.
-/
import Derived.Laws.StructEq
import Derived.Test.YtgbenepapajieaaGreatFns
import Derived.ProofKit
import Derived.OpenShut
import Derived.Deep.Slices
import Derived.ChangeShapes
namespace Go.Proofs.YtgbenepapajieaaGreat
open Go.RowKit

theorem guardT : Tryz.prog.eqGuardType Tryz.prog.depth 78 = false := by kernel_rfl
theorem equalT (x y : Attr) (w : World) : (Op.equalIn 10000 78 (aggT x) (aggT y)).run Tryz.prog w = .ok (decide (x = y)) w := by
  obtain ⟨n, v⟩ := x
  obtain ⟨n', v'⟩ := y
  have u3 := Tryz.underlying9
  have a3 := Tryz.isAgg9
  have z3 := Tryz.sizeOf9
  have hS : Tryz.prog.underlying 78 = some (.struct (Tryz.prog.fieldsOf 78)) := by kernel_rfl
  have hp : Tryz.prog.stoodInHeld 78 = false := by kernel_rfl
  unfold aggT
  rw [show (10000 : Nat) = 9999 + 1 from rfl, run_equalIn_agg w 9999 78 _ _ hS hp]
  simp only [Program.fieldsOf, Tryz.underlying78]
  go_simp
  have e1 : (n.toList = n'.toList) = (n = n') := propext ⟨str_inj, fun e => by rw [e]⟩
  have e2 : (v.toList = v'.toList) = (v = v') := propext ⟨str_inj, fun e => by rw [e]⟩
  by_cases h1 : n = n' <;> by_cases h2 : v = v' <;> simp [h1, h2, e1, e2]
theorem neqT (x y : Attr) (w : World) : Sem.run Tryz.prog (binOp .neq 78 (aggT x) (aggT y)) w = .ok (.bool (!decide (x = y))) w := by
  have h := equalT x y w
  unfold aggT at *
  rw [run_neq_struct]
  rw [h]
  rfl
theorem eqT (x y : Attr) (w : World) : Sem.run Tryz.prog (binOp .eql 78 (aggT x) (aggT y)) w = .ok (.bool (decide (x = y))) w := by
  have h := equalT x y w
  unfold aggT at *
  rw [run_eql_struct]
  rw [h]
  rfl

theorem same_headT {a b : List Attr} (h : a.length = b.length) {k : Nat} (hk : k < a.length) (hs : a.take k = b.take k) (h1 : a[k] = b[k]) : a.take (k + 1) = b.take (k + 1) := by
  rw [List.take_succ_eq_append_getElem hk, List.take_succ_eq_append_getElem (by omega : k < b.length), hs, h1]
theorem same_noT {a b : List Attr} {k : Nat} (hk : k < a.length) (hk' : k < b.length) (h1 : ¬ a[k] = b[k]) : ¬ a = b := by
  intro e
  subst e
  exact h1 rfl

set_option maxRecDepth 100000 in
set_option maxHeartbeats 2000000 in
theorem sameT_any (va vb : Value) (a b : List Attr) (w : World) (ha : AtsAt w va a) (hb : AtsAt w vb b) :
    Calls Tryz.prog 140 #[va, vb] w fun e w' => e = .returned (.bool (decide (a = b))) ∧ Q w w' := by
  have la := ha.len
  have lb := hb.len
  obtain ⟨A, ca, rfl⟩ := ha.form
  obtain ⟨B, cb, rfl⟩ := hb.form
  by_cases hl : a.length = b.length
  · have t1 : ((a.length : Int) != (b.length : Int)) = false := by rw [bne_eq_false_iff_eq]; omega
    have E0 : Hid (a.take a.length = b.take a.length → a = b) := by intro h; rwa [List.take_length, hl, List.take_length] at h
    unfold maxLen at la lb
    go_enter Tryz.func140, Tryz.ntmps140
    go_wp2
    refine wp_scope_goto 0 (fun a' w' => Q w w' ∧ ∃ (k : Nat) (u6 u7 u8 u9 u10 u11 u12 u13 u14 u15 u16 u17 u18 u19 u20 u21 u22 u23 u24 u25 : Value), a' = { tmps := #[.slice A a.length ca, .slice B b.length cb, undef, undef, .bool false, .int .i64 k, u6, u7, u8, u9, u10, u11, u12, u13, u14, u15, u16, u17, u18, u19, u20, u21, u22, u23, u24, u25], defers := [] } ∧ k ≤ a.length ∧ Hid (a.take k = b.take k)) (fun a' _ => a.length - (intOf (a'.tmps.getD 5 undef)).toNat) rfl ?_ ?_
    · intro hh
      go_wp2
      go_step3
      rename_i hK
      exact hK _ _ (hh.out _ _ ⟨Q.refl _, 0, _, _, _, _, _, _, _, _, _, _, _, _, _, _, _, _, _, _, _, _, rfl, by omega, rfl⟩)
    · rintro a' w' ⟨hq, k, u6, u7, u8, u9, u10, u11, u12, u13, u14, u15, u16, u17, u18, u19, u20, u21, u22, u23, u24, u25, rfl, hk, H⟩
      by_cases hlt : k < a.length
      · have hlt' : k < b.length := by omega
        have t2 : ((k : Int) == (a.length : Int)) = false := beq_eq_false_iff_ne.2 (by omega)
        obtain ⟨ga, oa, _, ea, _, _, hca⟩ := (ha.keep hq).atT (by omega)
        obtain ⟨gb, ob, _, eb, _, _, hcb⟩ := (hb.keep hq).atT (by omega)
        cases ea
        cases eb
        obtain ⟨c1, c2⟩ := hca k hlt
        obtain ⟨d1, d2⟩ := hcb k hlt'
        have En : Hid (¬ a[k] = b[k] → ¬ a = b) := same_noT hlt hlt'
        have Ey : Hid (a[k] = b[k] → a.take (k + 1) = b.take (k + 1)) := same_headT hl hlt H.out
        have n1 : ∀ w, Sem.run Tryz.prog (binOp .neq 78 (aggT a[k]) (aggT b[k])) w = .ok (.bool (!decide (a[k] = b[k]))) w := fun w => neqT _ _ w
        unfold aggT at n1
        have gd := guardT
        clear hca hcb ha hb H
        generalize a[k] = x at *
        generalize b[k] = y at *
        have m1 : (k : Int) < (a.length : Int) := by omega
        have m2 : (k : Int) < (b.length : Int) := by omega
        by_cases h1 : x = y
        · rw [decide_eq_true h1] at n1
          have E := Lib.hid (Ey.out h1)
          simp only [Bool.not_true] at n1
          clear h1 Ey En
          go_wp2
          go_quiet (fail)
          go_wp2
          go_step3
          exact ⟨rfl, ⟨hq.drewN _, k + 1, _, _, _, _, _, _, _, _, _, _, _, _, _, _, _, _, _, _, _, _, rfl, hlt, E⟩, by simp [intOf]; omega⟩
        · rw [decide_eq_false h1] at n1
          have E := Lib.hid (En.out h1)
          simp only [Bool.not_false] at n1
          clear h1 Ey En
          go_wp2
          go_quiet (fail)
          go_wp2
          simp only [Exit.jump]
          go_ret
          exact ⟨ret_bool (b_false E.out), hq.drewN _⟩
      · have t2 : ((k : Int) == (a.length : Int)) = true := beq_iff_eq.2 (by omega)
        have : k = a.length := by omega
        subst this
        have E := Lib.hid (E0.out H.out)
        clear H
        go_wp2
        simp only [Exit.jump]
        go_ret
        exact ⟨ret_bool (b_true E.out), hq⟩
  · have t1 : ((a.length : Int) != (b.length : Int)) = true := by rw [bne_iff_ne]; omega
    have E0 : Hid (¬ a = b) := by intro e; exact hl (by rw [e])
    go_enter Tryz.func140, Tryz.ntmps140
    go_wp2
    refine wp_scope_goto 0 (fun _ _ => False) (fun _ _ => 0) rfl ?_ ?_
    · intro _
      go_wp2
      simp only [Exit.jump]
      go_ret
      exact ⟨ret_bool (b_false E0.out), Q.refl _⟩
    · exact fun _ _ h => h.elim

set_option maxRecDepth 100000 in
set_option maxHeartbeats 2000000 in
theorem sameTRef_any (va vb : Value) (a b : List Attr) (w : World) (ha : AtsAt w va a) (hb : AtsAt w vb b) :
    Calls Tryz.prog 102 #[va, vb] w fun e w' => e = .returned (.bool (decide (a = b))) ∧ Q w w' := by
  have la := ha.len
  have lb := hb.len
  obtain ⟨A, ca, rfl⟩ := ha.form
  obtain ⟨B, cb, rfl⟩ := hb.form
  by_cases hl : a.length = b.length
  · have t1 : ((a.length : Int) != (b.length : Int)) = false := by rw [bne_eq_false_iff_eq]; omega
    have E0 : Hid (a.take a.length = b.take a.length → a = b) := by intro h; rwa [List.take_length, hl, List.take_length] at h
    unfold maxLen at la lb
    go_enter Tryz.func102, Tryz.ntmps102
    go_wp2
    go_loopw [5] (fun i wr => ∃ k : Nat, i = .int .i64 k ∧ k ≤ a.length ∧ Q w wr ∧ Hid (a.take k = b.take k)) (fun i _ => a.length - (intOf i).toNat)
    case atStart => exact ⟨0, rfl, by omega, Q.refl _, rfl⟩
    case round =>
      obtain ⟨k, rfl, hk, hq, H⟩ := hrel
      by_cases hlt : k < a.length
      · have hlt' : k < b.length := by omega
        obtain ⟨ga, oa, _, ea, _, _, hca⟩ := (ha.keep hq).atT (by omega)
        obtain ⟨gb, ob, _, eb, _, _, hcb⟩ := (hb.keep hq).atT (by omega)
        cases ea
        cases eb
        obtain ⟨c1, c2⟩ := hca k hlt
        obtain ⟨d1, d2⟩ := hcb k hlt'
        have En : Hid (¬ a[k] = b[k] → ¬ a = b) := same_noT hlt hlt'
        have Ey : Hid (a[k] = b[k] → a.take (k + 1) = b.take (k + 1)) := same_headT hl hlt H.out
        have n1 : ∀ w, Sem.run Tryz.prog (binOp .neq 78 (aggT a[k]) (aggT b[k])) w = .ok (.bool (!decide (a[k] = b[k]))) w := fun w => neqT _ _ w
        unfold aggT at n1
        have gd := guardT
        clear hca hcb ha hb H
        generalize a[k] = x at *
        generalize b[k] = y at *
        have m2 : (k : Int) < (b.length : Int) := by omega
        by_cases h1 : x = y
        · rw [decide_eq_true h1] at n1
          have E := Lib.hid (Ey.out h1)
          simp only [Bool.not_true] at n1
          clear h1 Ey En
          go_wp2
          go_quiet (fail)
          go_wp2
          go_roundw
          case rel => exact ⟨k + 1, by go_num, by omega, (hq.drewN _), E⟩
          case measure => simp [intOf]; omega
        · rw [decide_eq_false h1] at n1
          have E := Lib.hid (En.out h1)
          simp only [Bool.not_false] at n1
          clear h1 Ey En
          go_wp2
          go_quiet (fail)
          go_wp2
          go_ret
          exact ⟨ret_bool (b_false E.out), hq.drewN _⟩
      · have : k = a.length := by omega
        subst this
        have E1 := Lib.hid (E0.out H.out)
        go_wp2
        go_ret
        exact ⟨ret_bool (b_true E1.out), hq⟩
  · have t1 : ((a.length : Int) != (b.length : Int)) = true := by rw [bne_iff_ne]; omega
    have E0 : Hid (¬ a = b) := by intro e; exact hl (by rw [e])
    go_enter Tryz.func102, Tryz.ntmps102
    go_wp2
    go_ret
    exact ⟨ret_bool (b_false E0.out), Q.refl _⟩
end Go.Proofs.YtgbenepapajieaaGreat
namespace Go.Proofs.YtgbenepapajieaaGreat
open Go.RowKit

/-- Metadata. -/
structure Mt where
  mode : Int
  uid : Int
  gid : Int
  time : Int
  attrs : List Attr
  acl : List Ace
deriving DecidableEq
def mayM (m : Mt) : Bool := decide (0 ≤ m.mode) && decide (m.mode ≤ 4095) && idB m.uid && idB m.gid && decide (0 ≤ m.time) && decide ((m.attrs.length : Int) ≤ 8) && decide (AllOkT m.attrs) && decide (RiseT m.attrs) && mayB m.acl
def diffM (a b : Mt) : ByteArray :=
  if a.mode ≠ b.mode then ⟨#[109, 111, 100, 101]⟩ else if a.uid ≠ b.uid then ⟨#[117, 105, 100]⟩ else if a.gid ≠ b.gid then ⟨#[103, 105, 100]⟩ else if a.time ≠ b.time then ⟨#[116, 105, 109, 101]⟩
  else if a.attrs ≠ b.attrs then ⟨#[97, 116, 116, 114, 115]⟩ else if a.acl ≠ b.acl then ⟨#[97, 99, 108]⟩ else ⟨#[]⟩
theorem diffM_empty (a b : Mt) : (diffM a b).toList.isEmpty = decide (a = b) := by
  rw [Lib.toList_data]
  obtain ⟨a1, a2, a3, a4, a5, a6⟩ := a
  obtain ⟨b1, b2, b3, b4, b5, b6⟩ := b
  unfold diffM
  simp only [Mt.mk.injEq]
  by_cases h1 : a1 = b1
  · by_cases h2 : a2 = b2
    · by_cases h3 : a3 = b3
      · by_cases h4 : a4 = b4
        · by_cases h5 : a5 = b5
          · by_cases h6 : a6 = b6
            · simp [h1, h2, h3, h4, h5, h6]
            · simp [h1, h2, h3, h4, h5, h6]
          · simp [h1, h2, h3, h4, h5]
        · simp [h1, h2, h3, h4]
      · simp [h1, h2, h3]
    · simp [h1, h2]
  · simp [h1]

def metaV (m : Mt) (va vl : Value) : Value := .agg #[.int .i64 m.mode, .int .i64 m.uid, .int .i64 m.gid, .int .i64 m.time, va, vl]
def MetaAt (w : World) (v : Value) (m : Mt) : Prop := ∃ va vl, v = metaV m va vl ∧ AtsAt w va m.attrs ∧ AcesAt w vl m.acl
theorem MetaAt.keep {w w' : World} {v : Value} {m : Mt} (h : MetaAt w v m) (q : Q w w') : MetaAt w' v m := by
  obtain ⟨va, vl, e, h1, h2⟩ := h
  exact ⟨va, vl, e, h1.keep q, h2.keep q⟩

set_option maxRecDepth 100000 in
set_option maxHeartbeats 4000000 in
theorem metaMay_any (v : Value) (m : Mt) (w : World) (h : MetaAt w v m) :
    Calls Tryz.prog 95 #[v] w fun e w' => e = .returned (.bool (mayM m)) ∧ Grew w w' := by
  obtain ⟨va, vl, rfl, ha, hl⟩ := h
  obtain ⟨mode, uid, gid, time, attrs, acl⟩ := m
  unfold metaV
  simp only at ha hl ⊢
  have ll := ha.len
  unfold maxLen at ll
  obtain ⟨A, ca, rfl⟩ := ha.form
  have HU := Lib.hid (fun w => id_any uid w)
  have HG := Lib.hid (fun w => id_any gid w)
  have HA := Lib.hid (fun w' (q : Q w w') => attrs_any _ attrs w' (ha.keep q))
  have HR := Lib.hid (fun w' (q : Q w w') => risingT_any _ attrs w' (ha.keep q))
  have HL := Lib.hid (fun w' (q : Q w w') => may_any _ acl w' (hl.keep q))
  have E : Hid (mayM ⟨mode, uid, gid, time, attrs, acl⟩ = (decide (0 ≤ mode) && decide (mode ≤ 4095) && idB uid && idB gid && decide (0 ≤ time) && decide ((attrs.length : Int) ≤ 8) && decide (AllOkT attrs) && decide (RiseT attrs) && mayB acl)) := rfl
  generalize mayM ⟨mode, uid, gid, time, attrs, acl⟩ = r at *
  generalize idB uid = b1 at *
  generalize idB gid = b2 at *
  generalize decide (AllOkT attrs) = b3 at *
  generalize decide (RiseT attrs) = b4 at *
  generalize mayB acl = b5 at *
  clear ha hl
  go_enter Tryz.func95, Tryz.ntmps95
  by_cases h1 : 0 ≤ mode ∧ mode ≤ 4095
  · obtain ⟨h1, h1'⟩ := h1
    have t1 : decide (0 ≤ mode) = true := decide_eq_true h1
    have t2 : decide (mode ≤ 4095) = true := decide_eq_true h1'
    clear h1 h1'
    go_wp2_with fail
    refine (HU.out _).mono ?_
    rintro e w1 ⟨rfl, rfl⟩
    cases b1 with
    | false =>
      go_wp2
      go_ret
      exact ⟨ret_bool (by rw [E.out]; simp), Grew.alloc _ _⟩
    | true =>
      go_wp2_with fail
      refine (HG.out _).mono ?_
      rintro e w1 ⟨rfl, rfl⟩
      cases b2 with
      | false =>
        go_wp2
        go_ret
        exact ⟨ret_bool (by rw [E.out]; simp), Grew.alloc _ _⟩
      | true =>
        by_cases h2 : 0 ≤ time
        · have t3 : decide (0 ≤ time) = true := decide_eq_true h2
          clear h2
          by_cases h3 : (attrs.length : Int) ≤ 8
          · have t4 : decide ((attrs.length : Int) ≤ 8) = true := decide_eq_true h3
            rw [t1, t2, t3, t4] at E
            clear h3
            go_wp2_with fail
            refine (HA.out _ ((Q.refl _).alloc _)).mono ?_
            rintro e w1 ⟨rfl, q1⟩
            have q0 := (Grew.alloc w _).trans q1
            have c5 := q1.q.cell (b := w.heap.size) (o := 4) (v := .slice A attrs.length ca) (by simp)
            have c6 := q1.q.cell (b := w.heap.size) (o := 5) (v := vl) (by simp)
            clear q1
            cases b3 with
            | false =>
              go_wp2
              go_ret
              exact ⟨ret_bool (by rw [E.out]; simp), q0⟩
            | true =>
              go_wp2_with fail
              refine (HR.out _ q0.q).mono ?_
              rintro e w2 ⟨rfl, q2⟩
              replace q0 := q0.trans q2
              replace c6 := q2.q.cell c6
              clear c5 q2
              cases b4 with
              | false =>
                go_wp2
                go_ret
                exact ⟨ret_bool (by rw [E.out]; simp), q0⟩
              | true =>
                go_wp2_with fail
                refine (HL.out _ q0.q).mono ?_
                rintro e w3 ⟨rfl, q3⟩
                go_wp2
                all_goals
                  go_ret
                  exact ⟨ret_bool (by rw [E.out]; simp_all), q0.trans q3⟩
          · have t4 : decide ((attrs.length : Int) ≤ 8) = false := decide_eq_false h3
            rw [t1, t2, t3, t4] at E
            clear h3
            go_wp2
            go_ret
            exact ⟨ret_bool (by rw [E.out]; simp), Grew.alloc _ _⟩
        · have t3 : decide (0 ≤ time) = false := decide_eq_false h2
          rw [t1, t2, t3] at E
          clear h2
          go_wp2
          go_ret
          exact ⟨ret_bool (by rw [E.out]; simp), Grew.alloc _ _⟩
  · have E2 : Hid (r = false) := by
      show r = false
      rw [E.out]
      by_cases h2 : 0 ≤ mode
      · have : ¬ mode ≤ 4095 := fun h => h1 ⟨h2, h⟩
        simp [this]
      · simp [h2]
    by_cases h2 : 0 ≤ mode
    · have t1 : decide (0 ≤ mode) = true := decide_eq_true h2
      have t2 : decide (mode ≤ 4095) = false := decide_eq_false fun h => h1 ⟨h2, h⟩
      clear h1 h2
      go_wp2
      go_ret
      exact ⟨ret_bool E2.out.symm, Grew.alloc _ _⟩
    · have t1 : decide (0 ≤ mode) = false := decide_eq_false h2
      clear h1 h2
      go_wp2
      go_ret
      exact ⟨ret_bool E2.out.symm, Grew.alloc _ _⟩
end Go.Proofs.YtgbenepapajieaaGreat
namespace Go.Proofs.YtgbenepapajieaaGreat
open Go.RowKit

set_option maxRecDepth 100000 in
set_option maxHeartbeats 4000000 in
theorem diff_any (va vb : Value) (a b : Mt) (w : World) (ha : MetaAt w va a) (hb : MetaAt w vb b) :
    Calls Tryz.prog 100 #[va, vb] w fun e w' => e = .returned (.string (diffM a b)) ∧ Q w w' := by
  obtain ⟨xa, xl, rfl, ha, hla⟩ := ha
  obtain ⟨ya, yl, rfl, hb, hlb⟩ := hb
  obtain ⟨a1, a2, a3, a4, a5, a6⟩ := a
  obtain ⟨b1, b2, b3, b4, b5, b6⟩ := b
  unfold metaV
  simp only at ha hla hb hlb ⊢
  have HA := Lib.hid (fun w' (q : Q w w') => sameT_any xa ya a5 b5 w' (ha.keep q) (hb.keep q))
  have HL := Lib.hid (fun w' (q : Q w w') => same_any xl yl a6 b6 w' (hla.keep q) (hlb.keep q))
  have E : Hid (diffM ⟨a1, a2, a3, a4, a5, a6⟩ ⟨b1, b2, b3, b4, b5, b6⟩ = if a1 ≠ b1 then ⟨#[109, 111, 100, 101]⟩ else if a2 ≠ b2 then ⟨#[117, 105, 100]⟩ else if a3 ≠ b3 then ⟨#[103, 105, 100]⟩ else if a4 ≠ b4 then ⟨#[116, 105, 109, 101]⟩ else if a5 ≠ b5 then ⟨#[97, 116, 116, 114, 115]⟩ else if a6 ≠ b6 then ⟨#[97, 99, 108]⟩ else ⟨#[]⟩) := rfl
  generalize diffM ⟨a1, a2, a3, a4, a5, a6⟩ ⟨b1, b2, b3, b4, b5, b6⟩ = r at *
  clear ha hla hb hlb
  go_enter Tryz.func100, Tryz.ntmps100
  by_cases h1 : a1 = b1
  · have t1 : (a1 != b1) = false := by rw [bne_eq_false_iff_eq]; exact h1
    replace E := Lib.hid (E.out.trans (if_neg (fun k => k h1)))
    clear h1
    by_cases h2 : a2 = b2
    · have t2 : (a2 != b2) = false := by rw [bne_eq_false_iff_eq]; exact h2
      replace E := Lib.hid (E.out.trans (if_neg (fun k => k h2)))
      clear h2
      by_cases h3 : a3 = b3
      · have t3 : (a3 != b3) = false := by rw [bne_eq_false_iff_eq]; exact h3
        replace E := Lib.hid (E.out.trans (if_neg (fun k => k h3)))
        clear h3
        by_cases h4 : a4 = b4
        · have t4 : (a4 != b4) = false := by rw [bne_eq_false_iff_eq]; exact h4
          replace E := Lib.hid (E.out.trans (if_neg (fun k => k h4)))
          clear h4
          go_wp2_with fail
          refine (HA.out _ (((Q.refl _).alloc _).alloc _)).mono ?_
          rintro e w1 ⟨rfl, q1⟩
          have q0 : Q w w1 := (((Q.refl w).alloc _).alloc _).trans q1
          have c5 := q1.cell (b := w.heap.size) (o := 5) (v := xl) (by simp)
          have d5 := q1.cell (b := w.heap.size + 1) (o := 5) (v := yl) (by simp)
          clear q1
          by_cases h5 : a5 = b5
          · rw [decide_eq_true h5]
            replace E := Lib.hid (E.out.trans (if_neg (fun k => k h5)))
            clear h5
            go_wp2_with fail
            refine (HL.out _ q0).mono ?_
            rintro e w2 ⟨rfl, q2⟩
            replace q0 := q0.trans q2
            by_cases h6 : a6 = b6
            · rw [decide_eq_true h6]
              replace E := Lib.hid (E.out.trans (if_neg (fun k => k h6)))
              clear h6
              go_wp2
              go_ret
              exact ⟨ret_string E.out.symm, q0⟩
            · rw [decide_eq_false h6]
              replace E := Lib.hid (E.out.trans (if_pos h6))
              clear h6
              go_wp2
              go_ret
              exact ⟨ret_string E.out.symm, q0⟩
          · rw [decide_eq_false h5]
            replace E := Lib.hid (E.out.trans (if_pos h5))
            clear h5
            go_wp2
            go_ret
            exact ⟨ret_string E.out.symm, q0⟩
        · have t4 : (a4 != b4) = true := bne_iff_ne.2 h4
          replace E := Lib.hid (E.out.trans (if_pos h4))
          clear h4
          go_wp2
          go_ret
          exact ⟨ret_string E.out.symm, ((Q.refl _).alloc _).alloc _⟩
      · have t3 : (a3 != b3) = true := bne_iff_ne.2 h3
        replace E := Lib.hid (E.out.trans (if_pos h3))
        clear h3
        go_wp2
        go_ret
        exact ⟨ret_string E.out.symm, ((Q.refl _).alloc _).alloc _⟩
    · have t2 : (a2 != b2) = true := bne_iff_ne.2 h2
      replace E := Lib.hid (E.out.trans (if_pos h2))
      clear h2
      go_wp2
      go_ret
      exact ⟨ret_string E.out.symm, ((Q.refl _).alloc _).alloc _⟩
  · have t1 : (a1 != b1) = true := bne_iff_ne.2 h1
    replace E := Lib.hid (E.out.trans (if_pos h1))
    clear h1
    go_wp2
    go_ret
    exact ⟨ret_string E.out.symm, ((Q.refl _).alloc _).alloc _⟩
set_option maxRecDepth 100000 in
set_option maxHeartbeats 4000000 in
theorem diffRef_any (va vb : Value) (a b : Mt) (w : World) (ha : MetaAt w va a) (hb : MetaAt w vb b) :
    Calls Tryz.prog 83 #[va, vb] w fun e w' => e = .returned (.string (diffM a b)) ∧ Q w w' := by
  obtain ⟨xa, xl, rfl, ha, hla⟩ := ha
  obtain ⟨ya, yl, rfl, hb, hlb⟩ := hb
  obtain ⟨a1, a2, a3, a4, a5, a6⟩ := a
  obtain ⟨b1, b2, b3, b4, b5, b6⟩ := b
  unfold metaV
  simp only at ha hla hb hlb ⊢
  have HA := Lib.hid (fun w' (q : Q w w') => sameTRef_any xa ya a5 b5 w' (ha.keep q) (hb.keep q))
  have HL := Lib.hid (fun w' (q : Q w w') => sameRef_any xl yl a6 b6 w' (hla.keep q) (hlb.keep q))
  have E : Hid (diffM ⟨a1, a2, a3, a4, a5, a6⟩ ⟨b1, b2, b3, b4, b5, b6⟩ = if a1 ≠ b1 then ⟨#[109, 111, 100, 101]⟩ else if a2 ≠ b2 then ⟨#[117, 105, 100]⟩ else if a3 ≠ b3 then ⟨#[103, 105, 100]⟩ else if a4 ≠ b4 then ⟨#[116, 105, 109, 101]⟩ else if a5 ≠ b5 then ⟨#[97, 116, 116, 114, 115]⟩ else if a6 ≠ b6 then ⟨#[97, 99, 108]⟩ else ⟨#[]⟩) := rfl
  generalize diffM ⟨a1, a2, a3, a4, a5, a6⟩ ⟨b1, b2, b3, b4, b5, b6⟩ = r at *
  clear ha hla hb hlb
  go_enter Tryz.func83, Tryz.ntmps83
  by_cases h1 : a1 = b1
  · have t1 : (a1 != b1) = false := by rw [bne_eq_false_iff_eq]; exact h1
    replace E := Lib.hid (E.out.trans (if_neg (fun k => k h1)))
    clear h1
    by_cases h2 : a2 = b2
    · have t2 : (a2 != b2) = false := by rw [bne_eq_false_iff_eq]; exact h2
      replace E := Lib.hid (E.out.trans (if_neg (fun k => k h2)))
      clear h2
      by_cases h3 : a3 = b3
      · have t3 : (a3 != b3) = false := by rw [bne_eq_false_iff_eq]; exact h3
        replace E := Lib.hid (E.out.trans (if_neg (fun k => k h3)))
        clear h3
        by_cases h4 : a4 = b4
        · have t4 : (a4 != b4) = false := by rw [bne_eq_false_iff_eq]; exact h4
          replace E := Lib.hid (E.out.trans (if_neg (fun k => k h4)))
          clear h4
          go_wp2_with fail
          refine (HA.out _ (((Q.refl _).alloc _).alloc _)).mono ?_
          rintro e w1 ⟨rfl, q1⟩
          have q0 : Q w w1 := (((Q.refl w).alloc _).alloc _).trans q1
          have c5 := q1.cell (b := w.heap.size) (o := 5) (v := xl) (by simp)
          have d5 := q1.cell (b := w.heap.size + 1) (o := 5) (v := yl) (by simp)
          clear q1
          by_cases h5 : a5 = b5
          · rw [decide_eq_true h5]
            replace E := Lib.hid (E.out.trans (if_neg (fun k => k h5)))
            clear h5
            go_wp2_with fail
            refine (HL.out _ q0).mono ?_
            rintro e w2 ⟨rfl, q2⟩
            replace q0 := q0.trans q2
            by_cases h6 : a6 = b6
            · rw [decide_eq_true h6]
              replace E := Lib.hid (E.out.trans (if_neg (fun k => k h6)))
              clear h6
              go_wp2
              go_ret
              exact ⟨ret_string E.out.symm, q0⟩
            · rw [decide_eq_false h6]
              replace E := Lib.hid (E.out.trans (if_pos h6))
              clear h6
              go_wp2
              go_ret
              exact ⟨ret_string E.out.symm, q0⟩
          · rw [decide_eq_false h5]
            replace E := Lib.hid (E.out.trans (if_pos h5))
            clear h5
            go_wp2
            go_ret
            exact ⟨ret_string E.out.symm, q0⟩
        · have t4 : (a4 != b4) = true := bne_iff_ne.2 h4
          replace E := Lib.hid (E.out.trans (if_pos h4))
          clear h4
          go_wp2
          go_ret
          exact ⟨ret_string E.out.symm, ((Q.refl _).alloc _).alloc _⟩
      · have t3 : (a3 != b3) = true := bne_iff_ne.2 h3
        replace E := Lib.hid (E.out.trans (if_pos h3))
        clear h3
        go_wp2
        go_ret
        exact ⟨ret_string E.out.symm, ((Q.refl _).alloc _).alloc _⟩
    · have t2 : (a2 != b2) = true := bne_iff_ne.2 h2
      replace E := Lib.hid (E.out.trans (if_pos h2))
      clear h2
      go_wp2
      go_ret
      exact ⟨ret_string E.out.symm, ((Q.refl _).alloc _).alloc _⟩
  · have t1 : (a1 != b1) = true := bne_iff_ne.2 h1
    replace E := Lib.hid (E.out.trans (if_pos h1))
    clear h1
    go_wp2
    go_ret
    exact ⟨ret_string E.out.symm, ((Q.refl _).alloc _).alloc _⟩
end Go.Proofs.YtgbenepapajieaaGreat
namespace Go.Proofs.YtgbenepapajieaaGreat
open Go.RowKit

/-! ### Entries as a flat row -/
def cells3 (x : Ace) : List Value := [.int .i64 x.1, .int .i64 x.2.1, .int .i64 x.2.2]
theorem flat3 : Flat cells3 3 where
  len _ := rfl
  one x u hu := by
    simp only [cells3, List.mem_cons, List.not_mem_nil, or_false] at hu
    rcases hu with rfl | rfl | rfl <;> rfl
  pos := by decide
abbrev OwnA (w : World) (B : Nat) (v : Value) (l : List Ace) : Prop := OwnR 80 cells3 3 w B v l
theorem AcesAt.row {w : World} {v : Value} {l : List Ace} (h : AcesAt w v l) : RowAt cells3 3 w v l := by
  rcases h with h | ⟨g, o, cap, e, h1, h2, h3⟩
  · exact .inl h
  · refine .inr ⟨g, o, cap, e, h1, h2, fun i hi c u hu => ?_⟩
    obtain ⟨c0, c1, c2⟩ := h3 i hi
    match c, hu with
    | 0, hu => cases hu; exact c0
    | 1, hu => cases hu; exact c1
    | 2, hu => cases hu; exact c2
theorem RowAt.aces {w : World} {v : Value} {l : List Ace} (h : RowAt cells3 3 w v l) : AcesAt w v l := by
  rcases h with h | ⟨g, o, cap, e, h1, h2, h3⟩
  · exact .inl h
  · exact .inr ⟨g, o, cap, e, h1, h2, fun i hi => ⟨by simpa using h3 i hi 0 _ rfl, h3 i hi 1 _ rfl, h3 i hi 2 _ rfl⟩⟩
theorem info_ace : (Tryz.prog.info? 80).map (fun i => (i.zero, i.size, i.bytes)) = some (some (.agg #[.int .i64 0, .int .i64 0, .int .i64 0]), 3, 24) := by kernel_rfl
theorem run_append_aces {w : World} (ty : TypeId) (B : Nat) (v : Value) (l : List Ace) (hown : OwnA w B v l) (vx : Value) (m : List Ace) (he : AcesAt w vx m) (hnl : l.length + m.length ≤ 100000) (hbase : B ≤ w.heap.size) :
    ∃ v' w', (Builtin.append_ #[42, 42] ty #[v, vx]).run Tryz.prog w = .ok v' w' ∧ OwnA w' B v' (l ++ m) ∧ w.grownBy w' v.ownBlock ∧ (v' = .slice none 0 0 → l ++ m = []) := by
  obtain ⟨i0, hi0, hz0, hz1, hz2⟩ := info_parts info_ace
  exact run_append_row flat3 Tryz.underlying42 hi0 hz0 hz1 hz2 rfl (by decide) ty B v l hown vx m he.row hnl hbase
/-- .. at an operation that is wanted. -/
theorem wpList_append_aces {ops : Array Oper} {rest : List Oper} {o : Oper} {a : Act} {Q0 : Exit → Act → World → Prop} {w : World} (hw : Region.wanted o (yielded ops a.tmps) = true) (s x : Operand)
    (ho : o.op = .call { callee := .builtin .append, args := #[s, x], argTypes := #[42, 42] })
    (B : Nat) (v : Value) (l : List Ace) (hs : a.eval s = v) (hown : OwnA w B v l) (vx : Value) (m : List Ace) (hx : a.eval x = vx) (he : AcesAt w vx m) (hnl : l.length + m.length ≤ 100000) (hbase : B ≤ w.heap.size)
    (h : ∀ v' w', OwnA w' B v' (l ++ m) → w.grownBy w' v.ownBlock → (v' = .slice none 0 0 → l ++ m = []) → wpList Tryz.prog ops Q0 rest (a.put o.dst v') w') : wpList Tryz.prog ops Q0 (o :: rest) a w := by
  obtain ⟨v', w', hr, a2, a3, a4⟩ := run_append_aces o.type B v l hown vx m he hnl hbase
  refine wpList_step fun K hK => ?_
  rw [if_pos hw]
  unfold Oper.wp execOp
  simp only [ho, resolve, invoke, builtin, Sem.run_bind, Sem.run_pure, Result.andThen_ok, List.map_toArray, List.map_cons, List.map_nil, hs, hx, hr]
  exact hK _ _ (h v' w' a2 a3 a4)

/-! ### A row of its own is untouched by what happens in other blocks -/
theorem OwnR.other {α : Type} {cs : α → List Value} {k : Nat} {E : TypeId} {w w' : World} {B : Nat} {v : Value} {l : List α} (h : OwnR E cs k w B v l) (q : ∀ g, v.ownBlock = some g → w'.heap[g]? = w.heap[g]?) : OwnR E cs k w' B v l := by
  obtain ⟨hl, h0 | ⟨g, cap, cur, rfl, hb, hh, r⟩⟩ := h
  · exact ⟨hl, .inl h0⟩
  · exact ⟨hl, .inr ⟨g, cap, cur, rfl, hb, (q g rfl).trans hh, r⟩⟩
theorem heap_setCell_far (w : World) (p : Addr) (u : Value) {g : Nat} (hne : g ≠ p.block) : (w.setCell p u).heap[g]? = w.heap[g]? := by
  unfold World.setCell
  simp [Array.getElem?_modify, Ne.symm hne]
theorem OwnR.setCell {α : Type} {cs : α → List Value} {k : Nat} {E : TypeId} {w : World} {B : Nat} {v : Value} {l : List α} (h : OwnR E cs k w B v l) (p : Addr) (u : Value) (hp : p.block < B) : OwnR E cs k (w.setCell p u) B v l := by
  refine h.other fun g hg => ?_
  have h1 := h.lt g hg
  exact heap_setCell_far w p u (by omega)

/-- A block of six cells. -/
def Box (w : World) (g : Nat) (cs : Array Value) : Prop := w.heap[g]? = some (.cells cs 44 (0, 0))
theorem Box.cells {w : World} {g : Nat} {c0 c1 c2 c3 c4 c5 : Value} (h : Box w g #[c0, c1, c2, c3, c4, c5]) :
    w.cell? ⟨g, 0, none⟩ = some c0 ∧ w.cell? ⟨g, 1, none⟩ = some c1 ∧ w.cell? ⟨g, 2, none⟩ = some c2 ∧ w.cell? ⟨g, 3, none⟩ = some c3 ∧ w.cell? ⟨g, 4, none⟩ = some c4 ∧ w.cell? ⟨g, 5, none⟩ = some c5 := by
  unfold Box at h
  simp [World.cell?, h]
theorem Box.soft {w : World} {g : Nat} {cs : Array Value} (h : Box w g cs) (o : Nat) : w.frozen? ⟨g, o, none⟩ = false := by
  unfold Box at h
  simp [World.frozen?, h]
theorem Box.lt {w : World} {g : Nat} {cs : Array Value} (h : Box w g cs) : g < w.heap.size := by
  rcases Nat.lt_or_ge g w.heap.size with h' | h'
  · exact h'
  · unfold Box at h; rw [Array.getElem?_eq_none h'] at h; cases h
theorem Box.set {w : World} {g : Nat} {cs : Array Value} (h : Box w g cs) (i : Nat) (u : Value) : Box (w.setCell ⟨g, i, none⟩ u) g (cs.setIfInBounds i u) := by
  unfold Box World.setCell at *
  simp [Array.getElem?_modify, h]
theorem Box.other {w w' : World} {g : Nat} {cs : Array Value} (h : Box w g cs) (q : w'.heap[g]? = w.heap[g]?) : Box w' g cs := q.trans h
theorem Box.keep {w w' : World} {g : Nat} {cs : Array Value} (h : Box w g cs) (q : Q w w') : Box w' g cs := h.other (q.block g h.lt)
theorem Box.new (w : World) (cs : Array Value) : Box (w.alloc (.cells cs 44)) w.heap.size cs := by
  show (w.heap.push _)[w.heap.size]? = _
  simp

/-- What Copy makes: metadata whose rows are the call's own. -/
def OwnM (w : World) (B : Nat) (v : Value) (m : Mt) : Prop := ∃ va vl, v = metaV m va vl ∧ OwnT w B va m.attrs ∧ OwnA w B vl m.acl
theorem OwnM.at_ {w : World} {B : Nat} {v : Value} {m : Mt} (h : OwnM w B v m) : MetaAt w v m := by
  obtain ⟨va, vl, e, h1, h2⟩ := h
  exact ⟨va, vl, e, h1.row flatT, (h2.row flat3).aces⟩

end Go.Proofs.YtgbenepapajieaaGreat
namespace Go.Proofs.YtgbenepapajieaaGreat
open Go.RowKit Go.WideShapes

set_option maxRecDepth 100000 in
theorem own : ownKnob Tryz.prog.godebug = none := by kernel_rfl
set_option maxRecDepth 100000 in
theorem laidOut : laidOutB Tryz.prog = true := by kernel_rfl

/-- A number that is an int. -/
def FitsI (n : Int) : Prop := -9223372036854775808 ≤ n ∧ n ≤ 9223372036854775807
set_option maxRecDepth 100000 in
theorem fits_wf {n : Int} (h : (Lit.int .i64 n).wf = true) : FitsI n := by
  simp [Lit.wf] at h
  have m0 : IntKind.i64.min = -9223372036854775808 := by decide
  have m1 : IntKind.i64.max = 9223372036854775807 := by decide
  rw [m0] at h
  first | exact h | (rw [m1] at h; exact h)

set_option maxRecDepth 100000 in
theorem spot_none {w : World} {x : Addr} {v : Value} (h : w.cell? x = some v) : ∃ g o, x = ⟨g, o, none⟩ := by
  obtain ⟨g, o, s⟩ := x
  cases s with
  | none => exact ⟨g, o, rfl⟩
  | some s =>
    unfold World.cell? at h
    simp at h
    split at h <;> cases h

section
variable {H : Type} {enc : TypeId × Value → H} {w : World} {base : Nat} {sp : Nat → Bool} {held : Bool} {n : Nat}
set_option maxRecDepth 100000 in
theorem ace_trod {cs : List Value} {D : DataW H × List MemPlace} (h : DataW.trod enc Tryz.prog w base sp held n 80 cs = some D) : ∃ x : Ace, cs = cells3 x ∧ Fits x := by
  obtain ⟨xs, k, rfl, _, hl, hxl, hf⟩ := DataW.trod_struct Tryz.underlying80 h
  have ca : Tryz.prog.cellsOf 80 = 3 := by kernel_rfl
  have ci : Tryz.prog.cellsOf 3 = 1 := by kernel_rfl
  rw [ca] at hl
  match cs, hl with
  | [v0, v1, v2], _ =>
    match xs, hxl with
    | [y0, y1, y2], _ =>
      have g0 := hf 0 _ rfl
      have g1 := hf 1 _ rfl
      have g2 := hf 2 _ rfl
      simp [ci] at g0 g1 g2
      obtain ⟨n0, e0, _, w0⟩ := DataW.trod_int Tryz.underlying3 g0
      obtain ⟨n1, e1, _, w1⟩ := DataW.trod_int Tryz.underlying3 g1
      obtain ⟨n2, e2, _, w2⟩ := DataW.trod_int Tryz.underlying3 g2
      cases e0
      cases e1
      cases e2
      exact ⟨(n0, n1, n2), rfl, fits_wf w0, fits_wf w1, fits_wf w2⟩
set_option maxRecDepth 100000 in
theorem attr_trod {cs : List Value} {D : DataW H × List MemPlace} (h : DataW.trod enc Tryz.prog w base sp held n 78 cs = some D) : ∃ x : Attr, cs = cellsT x := by
  obtain ⟨xs, k, rfl, _, hl, hxl, hf⟩ := DataW.trod_struct Tryz.underlying78 h
  have ca : Tryz.prog.cellsOf 78 = 2 := by kernel_rfl
  have ci : Tryz.prog.cellsOf 9 = 1 := by kernel_rfl
  rw [ca] at hl
  match cs, hl with
  | [v0, v1], _ =>
    match xs, hxl with
    | [y0, y1], _ =>
      have g0 := hf 0 _ rfl
      have g1 := hf 1 _ rfl
      simp [ci] at g0 g1
      obtain ⟨n0, e0, _, _⟩ := DataW.trod_string Tryz.underlying9 g0
      obtain ⟨n1, e1, _, _⟩ := DataW.trod_string Tryz.underlying9 g1
      cases e0
      cases e1
      exact ⟨(n0, n1), rfl⟩
end

/-- A slice of flat structs that came in. -/
theorem open_row {α : Type} [Inhabited α] {cs : α → List Value} {k : Nat} (F : Flat cs k) (R : α → Prop) {P : Program} {S E : TypeId} (hS : P.underlying S = some (.slice E)) (hE : P.cellsOf E = k) {H : Type} {enc : TypeId × Value → H} {w : World} {base : Nat} {sp : Nat → Bool} {held : Bool}
    (each : ∀ {n : Nat} {c : List Value} {D : DataW H × List MemPlace}, DataW.trod enc P w base sp held n E c = some D → ∃ x, c = cs x ∧ R x)
    {fuel : Nat} {v : Value} {x : DataW H × List MemPlace} (h : DataW.trod enc P w base sp held fuel S [v] = some x) : ∃ l, RowAt cs k w v l ∧ ∀ x ∈ l, R x := by
  rcases Go.Deep.open_slice hS h with ⟨e, _⟩ | ⟨A, len, cap, m, n, D, Pl, e, _, hl, hm, hmm, _, hx⟩
  · cases e
    exact ⟨[], RowAt.nil_ _, fun x hx => by cases hx⟩
  · cases e
    have hmc : len ≤ m := by rw [hmm]; split <;> omega
    by_cases h0 : len = 0
    · subst h0
      exact ⟨[], .inl ⟨rfl, _, _, rfl, fun e => by cases e⟩, fun x hx => by cases hx⟩
    · have one : ∀ i, i < len → ∃ y : α, (∀ j, j < k → w.cell? ((A.add (i * k)).add j) = (cs y)[j]?) ∧ R y := by
        intro i hi
        obtain ⟨c', h1, h2⟩ := hx i (by omega)
        rw [hE] at h1
        obtain ⟨y, rfl, hy⟩ := each h2
        exact ⟨y, (World.cells?_some h1).2.2, hy⟩
      obtain ⟨V, hV⟩ := Go.Deep.choose_lt one
      obtain ⟨g, o, rfl⟩ : ∃ g o, A = ⟨g, o, none⟩ := by
        have h0 := (hV 0 (by omega)).1 0 F.pos
        have hc : ∃ u, (cs (V 0))[0]? = some u := ⟨(cs (V 0))[0]'(by rw [F.len]; exact F.pos), List.getElem?_eq_getElem _⟩
        obtain ⟨u, hu⟩ := hc
        obtain ⟨g, o, s⟩ := A
        cases s with
        | none => exact ⟨g, o, rfl⟩
        | some s =>
          obtain ⟨g', o', e⟩ := spot_none (h0.trans hu)
          unfold Addr.add at e
          simp at e
      refine ⟨(List.range len).map V, .inr ⟨g, o, cap, by simp, by rw [List.length_map, List.length_range]; exact hl, hm, fun i hi c u hu => ?_⟩, ?_⟩
      · have hi' : i < len := by simpa using hi
        simp only [List.getElem_map, List.getElem_range] at hu
        have hc : c < k := by
          rcases Nat.lt_or_ge c k with h | h
          · exact h
          · rw [List.getElem?_eq_none (by rw [F.len]; exact h)] at hu; cases hu
        have q0 := (hV i hi').1 c hc
        simp only [Addr.add_lit] at q0
        rw [q0]
        exact hu
      · intro z hz
        obtain ⟨i, hi, rfl⟩ := List.mem_map.1 hz
        exact (hV i (List.mem_range.1 hi)).2

def FitsM (m : Mt) : Prop := FitsI m.mode ∧ FitsI m.uid ∧ FitsI m.gid ∧ FitsI m.time ∧ ∀ x ∈ m.acl, Fits x
set_option maxRecDepth 100000 in
theorem open_meta {H : Type} {enc : TypeId × Value → H} {w : World} {r : Reach} {b0 base : Nat} {sp : Nat → Bool} {held : Bool} {v : Value} {d : DataW H} {p : List MemPlace} (hv : Value.okWide Tryz.prog w r b0 44 v)
    (h : DataW.Trod enc Tryz.prog w base sp held 44 v d p) : ∃ m, MetaAt w v m ∧ FitsM m := by
  obtain ⟨cs, rfl, hsz⟩ := okWide_struct Tryz.underlying44 hv
  obtain ⟨fuel, h⟩ := h
  obtain ⟨xs, k, rfl, _, hl, hxl, hf⟩ := DataW.trod_struct Tryz.underlying44 h
  have ca : Tryz.prog.cellsOf 44 = 6 := by kernel_rfl
  have ci : Tryz.prog.cellsOf 3 = 1 := by kernel_rfl
  have ck : Tryz.prog.cellsOf 2 = 1 := by kernel_rfl
  have ct : Tryz.prog.cellsOf 41 = 1 := by kernel_rfl
  have cl : Tryz.prog.cellsOf 42 = 1 := by kernel_rfl
  rw [ca] at hsz
  obtain ⟨cs⟩ := cs
  match cs, hsz with
  | [v0, v1, v2, v3, v4, v5], _ =>
    match xs, hxl with
    | [y0, y1, y2, y3, y4, y5], _ =>
      have g0 := hf 0 _ rfl
      have g1 := hf 1 _ rfl
      have g2 := hf 2 _ rfl
      have g3 := hf 3 _ rfl
      have g4 := hf 4 _ rfl
      have g5 := hf 5 _ rfl
      simp [Value.cells, ci, ck, ct, cl] at g0 g1 g2 g3 g4 g5
      obtain ⟨n0, e0, _, w0⟩ := DataW.trod_int Tryz.underlying3 g0
      obtain ⟨n1, e1, _, w1⟩ := DataW.trod_int Tryz.underlying3 g1
      obtain ⟨n2, e2, _, w2⟩ := DataW.trod_int Tryz.underlying3 g2
      obtain ⟨n3, e3, _, w3⟩ := DataW.trod_int Tryz.underlying2 g3
      cases e0
      cases e1
      cases e2
      cases e3
      obtain ⟨la, ha, _⟩ := open_row flatT (fun _ => True) Tryz.underlying41 (by kernel_rfl) (fun h => by obtain ⟨x, hx⟩ := attr_trod h; exact ⟨x, hx, trivial⟩) g4
      obtain ⟨ll, hl, hfl⟩ := open_row flat3 Fits Tryz.underlying42 (by kernel_rfl) (fun h => ace_trod h) g5
      exact ⟨⟨n0, n1, n2, n3, la, ll⟩, ⟨v4, v5, rfl, ha, hl.aces⟩, fits_wf w0, fits_wf w1, fits_wf w2, fits_wf w3, hfl⟩
end Go.Proofs.YtgbenepapajieaaGreat
