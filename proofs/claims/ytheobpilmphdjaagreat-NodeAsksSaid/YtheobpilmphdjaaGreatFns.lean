/-
  The contracts of package meta's small functions, and of the document's own.
-/
import Derived.Test.YtheobpilmphdjaaGreatAttr
import Derived.Test.YtheobpilmphdjaaGreatSame
import Derived.Test.YtheobpilmphdjaaGreatLoops
import Derived.Deep.QuietTactic
import Derived.BigQuiet
namespace Go.Proofs.YtheobpilmphdjaaGreat
open Go.RowKit

set_option maxRecDepth 100000 in
set_option maxHeartbeats 1000000 in
theorem cmpStr_any (a b : ByteArray) (w : World) : Calls Tryz.prog 91 #[.string a, .string b] w fun e w' => e = .returned (.int .i64 (Lib.compareBytes a.toList b.toList)) ∧ w' = w := by
  have inner : ∀ w, Calls Tryz.prog 105 #[.string a, .string b] w fun e w' => e = .returned (.int .i64 (Lib.compareBytes a.toList b.toList)) ∧ w' = w := by
    intro w
    go_enter Tryz.func105, Tryz.ntmps105
    go_wp2_with fail
    rw [run_callFunc_extern Tryz.func114 (by kernel_rfl) (by kernel_rfl) (by kernel_rfl) (e := Extern.BytealgCompare.compare) (by kernel_rfl), Lib.run_compareString]
    simp only [Result.andThen]
    rw [Oper.upon_value]
    go_wp2
    go_ret
    exact ⟨ret_int (by rw [Lib.toList_data, Lib.toList_data]), rfl⟩
  go_enter Tryz.func91, Tryz.ntmps91
  go_wp2_with fail
  refine (inner _).mono ?_
  rintro e w1 ⟨rfl, rfl⟩
  go_wp2
  go_ret
  exact ⟨rfl, rfl⟩

def cmpT (x y : Attr) : Int := Lib.compareBytes x.1.toList y.1.toList
theorem cmpT_lt (x y : Attr) : cmpT x y < 0 ↔ ltT x y := cmpB_lt _ _
set_option maxRecDepth 100000 in
set_option maxHeartbeats 1000000 in
theorem compareT_any (x y : Attr) (w : World) : Calls Tryz.prog 78 #[aggT x, aggT y] w fun e w' => e = .returned (.int .i64 (cmpT x y)) ∧ Grew w w' := by
  obtain ⟨n, v⟩ := x
  obtain ⟨n', v'⟩ := y
  have H := Lib.hid (fun w => cmpStr_any n n' w)
  unfold aggT cmpT
  simp only
  go_enter Tryz.func78, Tryz.ntmps78
  go_wp2_with fail
  refine (H.out _).mono ?_
  rintro e w1 ⟨rfl, rfl⟩
  go_wp2
  go_ret
  exact ⟨rfl, (Grew.alloc _ _).trans (Grew.alloc _ _)⟩

set_option maxRecDepth 100000 in
set_option maxHeartbeats 1000000 in
theorem attr_any (x : Attr) (w : World) : Calls Tryz.prog 77 #[aggT x] w fun e w' => e = .returned (.bool (decide (OkT x))) ∧ Grew w w' := by
  obtain ⟨n, v⟩ := x
  unfold aggT
  simp only
  go_enter Tryz.func77, Tryz.ntmps77
  go_wp2
  all_goals
    go_ret
    exact ⟨ret_bool (by first | exact b_false (by simp only [OkT]; omega) | exact b_true (by simp only [OkT]; omega) | exact b_iff (by simp only [OkT]; omega)), Grew.alloc _ _⟩
set_option maxRecDepth 100000 in
set_option maxHeartbeats 1000000 in
theorem attrRef_any (x : Attr) (w : World) : Calls Tryz.prog 63 #[aggT x] w fun e w' => e = .returned (.bool (decide (OkT x))) ∧ Grew w w' := by
  obtain ⟨n, v⟩ := x
  unfold aggT
  simp only
  go_enter Tryz.func63, Tryz.ntmps63
  go_wp2
  all_goals
    go_ret
    exact ⟨ret_bool (by first | exact b_false (by simp only [OkT]; omega) | exact b_true (by simp only [OkT]; omega) | exact b_iff (by simp only [OkT]; omega)), Grew.alloc _ _⟩
def idB (n : Int) : Bool := decide (0 ≤ n ∧ n ≤ 2147483647)
theorem id_any (n : Int) (w : World) : Calls Tryz.prog 59 #[.int .i64 n] w fun e w' => e = .returned (.bool (idB n)) ∧ w' = w := by
  go_enter Tryz.func59, Tryz.ntmps59
  go_wp2
  all_goals
    go_ret
    exact ⟨ret_bool (by unfold idB; first | exact b_false (by omega) | exact b_iff (by omega)), rfl⟩

set_option maxRecDepth 100000 in
set_option maxHeartbeats 1000000 in
theorem attrs_any (v : Value) (l : List Attr) (w : World) (h : AtsAt w v l) :
    Calls Tryz.prog 60 #[v] w fun e w' => e = .returned (.bool (decide (AllOkT l))) ∧ Grew w w' := by
  have ll := h.len
  obtain ⟨A, c, rfl⟩ := h.form
  unfold maxLen at ll
  go_enter Tryz.func60, Tryz.ntmps60
  go_wp2
  refine wp_scope_goto 0 (fun a' w' => Grew w w' ∧ ∃ (k : Nat) (u4 u5 u6 u7 u8 u9 u10 u11 u12 u13 u14 u15 : Value), a' = { tmps := #[.slice A l.length c, undef, .bool false, .int .i64 k, u4, u5, u6, u7, u8, u9, u10, u11, u12, u13, u14, u15], defers := [] } ∧ k ≤ l.length ∧ Hid (AllOkT (l.take k))) (fun a' _ => l.length - (intOf (a'.tmps.getD 3 undef)).toNat) rfl ?_ ?_
  · intro hh
    go_wp2
    go_step3
    rename_i hK
    exact hK _ _ (hh.out _ _ ⟨Grew.refl _, 0, _, _, _, _, _, _, _, _, _, _, _, _, rfl, by omega, fun x hx => by cases hx⟩)
  · rintro a' w' ⟨hq, k, u4, u5, u6, u7, u8, u9, u10, u11, u12, u13, u14, u15, rfl, hk, H⟩
    by_cases hlt : k < l.length
    · have t1 : ((k : Int) == (l.length : Int)) = false := beq_eq_false_iff_ne.2 (by omega)
      obtain ⟨g, o, _, ea, _, _, hc⟩ := (h.keep hq.q).atT (by omega)
      cases ea
      obtain ⟨c1, c2⟩ := hc k hlt
      have En : Hid (¬ OkT l[k] → ¬ AllOkT l) := allOkT_not hlt
      have Ey : Hid (OkT l[k] → AllOkT (l.take (k + 1))) := allOkT_step hlt H.out
      have HE := Lib.hid (fun w => attr_any l[k] w)
      clear hc h H
      generalize l[k] = x at *
      by_cases hx : OkT x
      · rw [decide_eq_true hx] at HE
        have E := Lib.hid (Ey.out hx)
        clear hx En Ey
        go_wp2_with fail
        refine (HE.out _).mono ?_
        rintro e w1 ⟨rfl, hq1⟩
        go_wp2
        go_step3
        exact ⟨rfl, ⟨hq.trans hq1, k + 1, _, _, _, _, _, _, _, _, _, _, _, _, rfl, hlt, E⟩, by simp [intOf]; omega⟩
      · rw [decide_eq_false hx] at HE
        have E := Lib.hid (En.out hx)
        clear hx En Ey
        go_wp2_with fail
        refine (HE.out _).mono ?_
        rintro e w1 ⟨rfl, hq1⟩
        go_wp2
        simp only [Exit.jump]
        go_ret
        exact ⟨ret_bool (b_false E.out), hq.trans hq1⟩
    · have t1 : ((k : Int) == (l.length : Int)) = true := beq_iff_eq.2 (by omega)
      have E := Lib.hid (allOkT_end (by omega) H.out)
      clear H
      go_wp2
      simp only [Exit.jump]
      go_ret
      exact ⟨ret_bool (b_true E.out), hq⟩

set_option maxRecDepth 100000 in
set_option maxHeartbeats 2000000 in
theorem risingT_any (v : Value) (l : List Attr) (w : World) (h : AtsAt w v l) :
    Calls Tryz.prog 61 #[v] w fun e w' => e = .returned (.bool (decide (RiseT l))) ∧ Grew w w' := by
  have ll := h.len
  obtain ⟨A, c, rfl⟩ := h.form
  unfold maxLen at ll
  go_enter Tryz.func61, Tryz.ntmps61
  go_wp2
  refine wp_scope_goto 0 (fun a' w' => Grew w w' ∧ ∃ (k : Nat) (u4 u5 u6 u7 u8 u9 u10 u11 u12 u13 u14 u15 u16 u17 u18 u19 u20 : Value), a' = { tmps := #[.slice A l.length c, undef, .bool false, .int .i64 ((k : Int) + 1), u4, u5, u6, u7, u8, u9, u10, u11, u12, u13, u14, u15, u16, u17, u18, u19, u20], defers := [] } ∧ k ≤ l.length ∧ Hid (UpToT l (k + 1))) (fun a' _ => l.length + 1 - (intOf (a'.tmps.getD 3 undef)).toNat) rfl ?_ ?_
  · intro hh
    go_wp2
    go_step3
    rename_i hK
    exact hK _ _ (hh.out _ _ ⟨Grew.refl _, 0, _, _, _, _, _, _, _, _, _, _, _, _, _, _, _, _, _, rfl, by omega, UpToT.start l⟩)
  · rintro a' w' ⟨hq, k, u4, u5, u6, u7, u8, u9, u10, u11, u12, u13, u14, u15, u16, u17, u18, u19, u20, rfl, hk, H⟩
    by_cases hlt : k + 1 < l.length
    · have t1 : decide ((l.length : Int) ≤ (k : Int) + 1) = false := decide_eq_false (by omega)
      obtain ⟨g, o, _, ea, _, _, hc⟩ := (h.keep hq.q).atT (by omega)
      cases ea
      obtain ⟨c1, c2⟩ := hc k (by omega)
      obtain ⟨d1, d2⟩ := hc (k + 1) hlt
      have En : Hid (¬ ltT l[k] l[k + 1] → ¬ RiseT l) := RiseT.not hlt
      have Ey : Hid (ltT l[k] l[k + 1] → UpToT l (k + 2)) := UpToT.step hlt H.out
      have HE := Lib.hid (fun w => compareT_any l[k] l[k + 1] w)
      have hcm := cmpT_lt l[k] l[k + 1]
      clear hc h H
      generalize l[k] = x at *
      generalize l[k + 1] = y at *
      generalize cmpT x y = r at *
      have hgb := World.block_lt_of_cell? w' _ c1
      have lt2 : (k : Int) < (l.length : Int) := by omega
      have lt3 : (k : Int) + 1 < (l.length : Int) := by omega
      have nn2 : (0 : Int) ≤ (k : Int) := by omega
      have nn3 : (0 : Int) ≤ (k : Int) + 1 := by omega
      have wr2 : IntKind.i64.wrap (k : Int) = k := IntWalk.i64_in _ (by omega)
      have mixed : Tryz.prog.follows .mixedOrders = true := by kernel_rfl
      have b1 := cell_grown (a := ⟨g, o + k * 2, none⟩) hgb c1
      have b2 := cell_grown (a := ⟨g, o + k * 2 + 1, none⟩) hgb c2
      have e1 := cell_grown (a := ⟨g, o + (k + 1) * 2, none⟩) hgb d1
      have e2 := cell_grown (a := ⟨g, o + (k + 1) * 2 + 1, none⟩) hgb d2
      by_cases hx : ltT x y
      · have t2 : decide (0 ≤ r) = false := decide_eq_false (by have := hcm.2 hx; omega)
        have E := Lib.hid (Ey.out hx)
        clear hx En Ey hcm
        go_wp2_with fail
        (refine wp_region_quiet_grown (by assumption) (by kernel_rfl) ?_; (repeat (go_big_quiet_step ((go_at_call 78; exact Grew.calls (HE.out _))))); refine wpQuiet_nil ?_; intro _ hw'; obtain ⟨⟨nq, osq⟩, hw2⟩ := hw'; subst hw2)
        go_wp2
        go_step3
        exact ⟨rfl, ⟨hq.trans ⟨_, _, rfl⟩, k + 1, _, _, _, _, _, _, _, _, _, _, _, _, _, _, _, _, _, rfl, by omega, E⟩, by simp [intOf]; omega⟩
      · have t2 : decide (0 ≤ r) = true := decide_eq_true (by have := mt hcm.1 hx; omega)
        have E := Lib.hid (En.out hx)
        clear hx En Ey hcm
        go_wp2_with fail
        (refine wp_region_quiet_grown (by assumption) (by kernel_rfl) ?_; (repeat (go_big_quiet_step ((go_at_call 78; exact Grew.calls (HE.out _))))); refine wpQuiet_nil ?_; intro _ hw'; obtain ⟨⟨nq, osq⟩, hw2⟩ := hw'; subst hw2)
        go_wp2
        simp only [Exit.jump]
        go_ret
        exact ⟨ret_bool (b_false E.out), hq.trans ⟨_, _, rfl⟩⟩
    · have t1 : decide ((l.length : Int) ≤ (k : Int) + 1) = true := decide_eq_true (by omega)
      have E := Lib.hid (H.out.rise (by omega))
      clear H
      go_wp2
      simp only [Exit.jump]
      go_ret
      exact ⟨ret_bool (b_true E.out), hq⟩
end Go.Proofs.YtheobpilmphdjaaGreat
