/-
  The document's own extents: the contracts of Part, At, Long, Bound, Of, and of Norm and HasPlace at lists in order with gaps.
-/
import Derived.Test.YtheobpilmphdjaaGreatNBytes
import Derived.Deep.DeepCutAuto
import Derived.Deep.AppendLies
import Derived.RegionTactic
import Derived.Lib.MinMax
namespace Go.Proofs.YtheobpilmphdjaaGreat.Nd
open Go.RowKit
open Go.Proofs.YtheobpilmphdjaaGreat.Ex.Rng
open Go.Proofs.YtheobpilmphdjaaGreat.Ex (E ExtsAt fl fl_zero fl_most gt_fl eq_fl toInt_fl)

set_option maxRecDepth 100000 in
set_option maxHeartbeats 1000000 in
theorem part_any (n : Nat) (w : World) (h : n ≤ M) : Calls Tryz.prog 94 #[.float .f64 (fl n)] w fun e w' => e = .returned (.int .i64 n) ∧ w' = w := by
  unfold M at h
  have g1 := gt_fl n 1099511627776 (by omega) (by omega)
  have e1 := eq_fl n 1099511627776 (by omega) (by omega)
  have g2 := gt_fl n 0 (by omega) (by omega)
  have e2 := eq_fl n 0 (by omega) (by omega)
  rw [fl_most] at g1 e1
  rw [fl_zero] at g2 e2
  have hc : ∀ w, Sem.run Tryz.prog (convert 64 2 (.float .f64 (fl n))) w = .ok (.int .i64 n) w := fun w => run_convert_float_int w _ _ _ _ _ _ (by kernel_rfl) (by kernel_rfl) (toInt_fl n (by omega))
  rw [decide_eq_false (by omega)] at g1
  by_cases h1 : n = 1099511627776
  · rw [decide_eq_true h1] at e1
    have hr := Lib.hid h1
    clear g2 e2 hc h1 h
    go_enter Tryz.func94, Tryz.ntmps94
    go_wp2
    go_ret
    exact ⟨ret_int (by rw [hr.out]; rfl), rfl⟩
  · rw [decide_eq_false h1] at e1
    have hge : (FloatKind.f64.format.order (fl n) 0 == some .gt || FloatKind.f64.format.order (fl n) 0 == some .eq) = true := by
      rw [g2, e2]
      by_cases h0 : n = 0
      · simp [h0]
      · simp; omega
    clear g2 e2 h1 h
    go_enter Tryz.func94, Tryz.ntmps94
    go_wp2
    go_ret
    exact ⟨rfl, rfl⟩
set_option maxRecDepth 100000 in
set_option maxHeartbeats 400000 in
theorem rAt_any (x : X) (w : World) (h : x.1 ≤ M) : Calls Tryz.prog 86 #[E x] w fun e w' => e = .returned (.int .i64 x.1) ∧ w' = w := by
  unfold E
  go_enter Tryz.func86, Tryz.ntmps86
  go_wp2_with (go_at_call 94; refine (part_any x.1 _ h).mono ?_; rintro e w1 ⟨rfl, rfl⟩)
  go_ret
  exact ⟨rfl, rfl⟩
set_option maxRecDepth 100000 in
set_option maxHeartbeats 400000 in
theorem rLong_any (x : X) (w : World) (h : x.2 ≤ M) : Calls Tryz.prog 85 #[E x] w fun e w' => e = .returned (.int .i64 x.2) ∧ w' = w := by
  unfold E
  go_enter Tryz.func85, Tryz.ntmps85
  go_wp2_with (go_at_call 94; refine (part_any x.2 _ h).mono ?_; rintro e w1 ⟨rfl, rfl⟩)
  go_ret
  exact ⟨rfl, rfl⟩
set_option maxRecDepth 100000 in
set_option maxHeartbeats 400000 in
theorem bound_any (n : Int) (w : World) : Calls Tryz.prog 70 #[.int .i64 n] w fun e w' => e = .returned (.int .i64 (lim n)) ∧ w' = w := by
  have E : Hid (lim n = min (max n 0) 1099511627776) := by show ((min (max n 0).toNat M : Nat) : Int) = _; unfold M; omega
  go_enter Tryz.func70, Tryz.ntmps70
  go_wp2
  go_ret
  exact ⟨ret_int E.out.symm, rfl⟩
set_option maxRecDepth 100000 in
set_option maxHeartbeats 400000 in
theorem rOf_any (a b : Int) (w : World) : Calls Tryz.prog 47 #[.int .i64 a, .int .i64 b] w fun e w' => e = .returned (E (limN a, limN b)) ∧ w' = w := by
  go_enter Tryz.func47, Tryz.ntmps47
  go_wp2_with fail
  refine (bound_any a _).mono ?_
  rintro e w1 ⟨rfl, rfl⟩
  go_wp2_with fail
  refine (bound_any b _).mono ?_
  rintro e w1 ⟨rfl, rfl⟩
  go_wp2
  go_ret
  exact ⟨rfl, rfl⟩

/-! ### Rows of extents, generic -/
def cellsX (x : X) : List Value := [E x]
theorem flatX : Flat cellsX 1 where
  len _ := rfl
  one x u hu := by rw [List.mem_singleton.1 hu]; rfl
  pos := by decide
abbrev XsAt (w : World) (v : Value) (l : List X) : Prop := RowAt cellsX 1 w v l
abbrev OwnX (w : World) (B : Nat) (v : Value) (l : List X) : Prop := OwnR 57 cellsX 1 w B v l
theorem _root_.Go.Proofs.YtheobpilmphdjaaGreat.Ex.ExtsAt.xs {w : World} {v : Value} {l : List X} (h : ExtsAt w v l) : XsAt w v l := by
  rcases h with ⟨rfl, rfl⟩ | ⟨g, og, cap, e, h1, h2, h3⟩
  · exact RowAt.nil_ _
  · refine .inr ⟨g, og, cap, e, h1, h2, fun i hi c u hu => ?_⟩
    match c, hu with
    | 0, hu => cases hu; rw [Nat.mul_one, Nat.add_zero]; exact h3 i hi
theorem _root_.Go.Proofs.YtheobpilmphdjaaGreat.RowAt.atX {w : World} {v : Value} {l : List X} (h : XsAt w v l) (hn : 0 < l.length) : ∃ g o cap, v = .slice (some ⟨g, o, none⟩) l.length cap ∧ l.length ≤ cap ∧ cap ≤ maxLen ∧ ∀ i (h : i < l.length), w.cell? ⟨g, o + i, none⟩ = some (E l[i]) := by
  obtain ⟨g, o, cap, e, h1, h2, h3⟩ := h.at_ hn
  exact ⟨g, o, cap, e, h1, h2, fun i hi => by have := h3 i hi 0 (E l[i]) rfl; rwa [Nat.mul_one, Nat.add_zero] at this⟩
theorem run_append_xs {w : World} (ty : TypeId) (B : Nat) (v : Value) (l : List X) (hown : OwnX w B v l) (vx : Value) (m : List X) (he : XsAt w vx m) (hnl : l.length + m.length ≤ 100000) (hbase : B ≤ w.heap.size) :
    ∃ v' w', (Builtin.append_ #[40, 40] ty #[v, vx]).run Tryz.prog w = .ok v' w' ∧ OwnX w' B v' (l ++ m) ∧ w.grownBy w' v.ownBlock ∧ (v' = .slice none 0 0 → l ++ m = []) := by
  obtain ⟨i0, hi0, hz0, hz1, hz2⟩ := info_parts info_c
  exact run_append_row flatX Tryz.underlying40 hi0 hz0 hz1 hz2 rfl (by decide) ty B v l hown vx m he hnl hbase
theorem wpList_append_xs {ops : Array Oper} {rest : List Oper} {o : Oper} {a : Act} {Q0 : Exit → Act → World → Prop} {w : World} (hw : Region.wanted o (yielded ops a.tmps) = true) (s x : Operand)
    (ho : o.op = .call { callee := .builtin .append, args := #[s, x], argTypes := #[40, 40] })
    (B : Nat) (v : Value) (l : List X) (hs : a.eval s = v) (hown : OwnX w B v l) (vx : Value) (m : List X) (hx : a.eval x = vx) (he : XsAt w vx m) (hnl : l.length + m.length ≤ 100000) (hbase : B ≤ w.heap.size)
    (h : ∀ v' w', OwnX w' B v' (l ++ m) → w.grownBy w' v.ownBlock → wpList Tryz.prog ops Q0 rest (a.put o.dst v') w') : wpList Tryz.prog ops Q0 (o :: rest) a w := by
  obtain ⟨v', w', hr, a2, a3, a4⟩ := run_append_xs o.type B v l hown vx m he hnl hbase
  refine wpList_step fun K hK => ?_
  rw [if_pos hw]
  unfold Oper.wp execOp
  simp only [ho, resolve, invoke, builtin, Sem.run_bind, Sem.run_pure, Result.andThen_ok, List.map_toArray, List.map_cons, List.map_nil, hs, hx, hr]
  exact hK _ _ (h v' w' a2 a3)
theorem step_append_xs {ops : Array Oper} {o : Oper} {a : Act} {w : World} {K : Act → World → Prop} {Q0 : Exit → Act → World → Prop} {E : Prop} (hgd : o.guard = none) (s x : Operand)
    (ho : o.op = .call { callee := .builtin .append, args := #[s, x], argTypes := #[40, 40] })
    (B : Nat) (v : Value) (l : List X) (hs : a.eval s = v) (hown : OwnX w B v l) (vx : Value) (m : List X) (hx : a.eval x = vx) (he : XsAt w vx m) (hnl : l.length + m.length ≤ 100000) (hbase : B ≤ w.heap.size)
    (h : ∀ v' w', OwnX w' B v' (l ++ m) → w.grownBy w' v.ownBlock → K (a.put o.dst v') w') :
    if Region.wanted o (yielded ops a.tmps) = true then Oper.wp Tryz.prog o a w K Q0 else E := by
  have hw : Region.wanted o (yielded ops a.tmps) = true := by simp [Region.wanted, hgd]
  rw [if_pos hw]
  obtain ⟨v', w', hr, a2, a3, _⟩ := run_append_xs o.type B v l hown vx m he hnl hbase
  unfold Oper.wp execOp
  simp only [ho, resolve, invoke, builtin, Sem.run_bind, Sem.run_pure, Result.andThen_ok, List.map_toArray, List.map_cons, List.map_nil, hs, hx, hr]
  exact h v' w' a2 a3
end Go.Proofs.YtheobpilmphdjaaGreat.Nd
