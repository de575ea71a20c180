/-
  The contract of the document's data.
-/
import Derived.Deep.RegionHeld3
import Derived.Test.YtgbenepapajieaaGreatNRefN
namespace Go.Proofs.YtgbenepapajieaaGreat.Nd
open Go.RowKit
open Go.Proofs.YtgbenepapajieaaGreat.Ex.Rng
open Go.Proofs.YtgbenepapajieaaGreat.Ex (E ExtsAt)

theorem data_no2 {s : Int} {d : List Pc} {k : Nat} (hk : k < d.length) (h : d[k].2.size = 0) : contentB s d = false := by
  cases hc : contentB s d with
  | false => rfl
  | true => have := ((contentB_vf hc).wf.1 _ (List.getElem_mem hk)).2; omega
theorem data_no3 {s : Int} {d : List Pc} (h : ¬ (0 ≤ s ∧ s ≤ 1099511627776)) : contentB s d = false := by
  cases hc : contentB s d with
  | false => rfl
  | true => exact absurd ⟨(contentB_vf hc).s0, (contentB_vf hc).s1⟩ h
theorem data_yes {s : Int} {d : List Pc} (h : d.all (fun p => offB p.1) = true) (h1 : sumP d ≤ 4000) (h2 : d.length ≤ 16) : contentB s d = Ex.mayB (d.map xOf) s := by
  unfold contentB
  rw [h, decide_eq_true (by omega), decide_eq_true (by omega)]
  rfl
theorem data_no4 {s : Int} {d : List Pc} (h : 4000 < sumP d ∨ 16 < d.length) : contentB s d = false := by
  cases hc : contentB s d with
  | false => rfl
  | true => have h1 := (contentB_vf hc).sum; have h2 := (contentB_vf hc).len; omega

set_option maxRecDepth 100000 in
set_option maxHeartbeats 8000000 in
theorem rData_any (v : Value) (n : Nd) (w : World) (h : NodeAt w v n) (hs : Small n.data) :
    Calls Tryz.prog 78 #[v] w fun e w' => e = .returned (.bool (contentB n.size n.data)) ∧ Q w w' := by
  have HB0 : Hid (∀ w', Q w w' → Calls Tryz.prog 57 #[v] w' fun e w'' => e = .returned (.int .i64 (sumP n.data : Nat)) ∧ Grew w' w'') := fun w' q => rBytes_any v n w' (h.keep q) hs
  have HX0 : Hid (∀ w', Q w w' → Calls Tryz.prog 99 #[v] w' fun e w'' => ∃ v', e = .returned v' ∧ OwnX w'' w'.heap.size v' (n.data.map xOf) ∧ Q w' w'') := fun w' q => rExtents_any v n w' (h.keep q) hs.1
  have HM0 : Hid (∀ v' w', XsAt w' v' (n.data.map xOf) → Calls Tryz.prog 98 #[v', .int .i64 n.size] w' fun e w'' => e = .returned (.bool (Ex.mayB (n.data.map xOf) n.size)) ∧ Q w' w'') := fun v' w' hx => mayExts_any v' _ n.size w' hx (fun y hy => by obtain ⟨p, _, rfl⟩ := List.mem_map.1 hy; exact xOf_ok p)
  have Y : Hid (n.data.all (fun p => offB p.1) = true → sumP n.data ≤ 4000 → n.data.length ≤ 16 → contentB n.size n.data = Ex.mayB (n.data.map xOf) n.size) := data_yes
  have N1 : Hid (∀ k (hk : k < n.data.length), offB n.data[k].1 = false → contentB n.size n.data = false) := fun k hk => content_no hk
  have N2 : Hid (∀ k (hk : k < n.data.length), n.data[k].2.size = 0 → contentB n.size n.data = false) := fun k hk => data_no2 hk
  have N3 : Hid (¬ (0 ≤ n.size ∧ n.size ≤ 1099511627776) → contentB n.size n.data = false) := data_no3
  have N4 : Hid (4000 < sumP n.data ∨ 16 < n.data.length → contentB n.size n.data = false) := data_no4
  generalize contentB n.size n.data = r at *
  generalize Ex.mayB (n.data.map xOf) n.size = b at *
  clear hs
  obtain ⟨va, vl, vd, rfl, ha, hl, hd⟩ := h
  obtain ⟨kind, ⟨mode, uid, gid, time, attrs, acl⟩, size, data, target, major, minor⟩ := n
  simp only at ha hl hd HB0 HX0 HM0 Y N1 N2 N3 N4 ⊢
  obtain ⟨A, c, rfl⟩ := hd.form
  have HD : Hid (∀ w', Q w w' → PcsAt w' (.slice A data.length c) data) := fun w' q => hd.keep q
  have hdl := hd.len
  unfold maxLen at hdl
  unfold nodeV at HB0 HX0 ⊢
  simp only at HB0 HX0 ⊢
  clear hd ha hl
  have mixed : Tryz.prog.follows .mixedOrders = true := by kernel_rfl
  go_enter Tryz.func78, Tryz.ntmps78
  go_wp2_with fail
  have x1 := BoxN.new w #[.int .i64 kind, .int .i64 mode, .int .i64 uid, .int .i64 gid, .int .i64 time, va, vl, .int .i64 size, .slice A data.length c, .string target, .int .i64 major, .int .i64 minor]
  have q1 : Q w (w.alloc (.cells #[.int .i64 kind, .int .i64 mode, .int .i64 uid, .int .i64 gid, .int .i64 time, va, vl, .int .i64 size, .slice A data.length c, .string target, .int .i64 major, .int .i64 minor] 47)) := (Q.refl w).alloc _
  generalize w.alloc (.cells #[.int .i64 kind, .int .i64 mode, .int .i64 uid, .int .i64 gid, .int .i64 time, va, vl, .int .i64 size, .slice A data.length c, .string target, .int .i64 major, .int .i64 minor] 47) = w1 at *
  obtain ⟨k0, k1, k2, k3, k4, k5, k6, k7, k8, k9, k10, k11⟩ := x1.cells
  clear x1
  have HB : Hid (∀ w', Q w1 w' → Calls Tryz.prog 57 #[.agg #[.int .i64 kind, .int .i64 mode, .int .i64 uid, .int .i64 gid, .int .i64 time, va, vl, .int .i64 size, .slice A data.length c, .string target, .int .i64 major, .int .i64 minor]] w' fun e w'' => e = .returned (.int .i64 (sumP data : Nat)) ∧ Q w1 w'') := fun w' q => (HB0.out w' (q1.trans q)).mono fun _ _ h => ⟨h.1, q.trans h.2.q⟩
  have HG : Hid (∀ w', Q w1 w' → Calls Tryz.prog 57 #[.agg #[.int .i64 kind, .int .i64 mode, .int .i64 uid, .int .i64 gid, .int .i64 time, va, vl, .int .i64 size, .slice A data.length c, .string target, .int .i64 major, .int .i64 minor]] w' fun e w'' => e = .returned (.int .i64 (sumP data : Nat)) ∧ Grew w' w'') := fun w' q => HB0.out w' (q1.trans q)
  have HX : Hid (∀ w', Q w1 w' → Calls Tryz.prog 99 #[.agg #[.int .i64 kind, .int .i64 mode, .int .i64 uid, .int .i64 gid, .int .i64 time, va, vl, .int .i64 size, .slice A data.length c, .string target, .int .i64 major, .int .i64 minor]] w' fun e w'' => ∃ AX cX, e = .returned (.slice AX data.length cX) ∧ (∀ w3, Q w'' w3 → XsAt w3 (.slice AX data.length cX) (data.map xOf)) ∧ Q w1 w'') := fun w' q => (HX0.out w' (q1.trans q)).mono (by
    rintro e w'' ⟨v', rfl, ho, q'⟩
    have hx := ho.row flatX
    obtain ⟨AX, cX, rfl⟩ := hx.form
    rw [List.length_map] at hx ⊢
    exact ⟨AX, cX, rfl, fun w3 q3 => hx.keep q3, q.trans q'⟩)
  have HM : Hid (∀ v' w', XsAt w' v' (data.map xOf) → Q w1 w' → Calls Tryz.prog 98 #[v', .int .i64 size] w' fun e w'' => e = .returned (.bool b) ∧ Q w1 w'') := fun v' w' hx q => (HM0.out v' w' hx).mono fun _ _ h => ⟨h.1, q.trans h.2⟩
  clear HB0 HX0 HM0
  go_wp2
  go_loopw [3] (fun i wr => ∃ k : Nat, i = .int .i64 k ∧ k ≤ data.length ∧ Q w1 wr ∧ Hid ((data.take k).all (fun p => offB p.1) = true)) (fun i _ => data.length - (intOf i).toNat)
  case atStart => exact ⟨0, rfl, by omega, Q.refl _, rfl⟩
  case round =>
    obtain ⟨k, rfl, hk, hq, H⟩ := hrel
    by_cases hlt : k < data.length
    · obtain ⟨g, og, _, ea, _, _, hc⟩ := (HD.out _ (q1.trans hq)).atP (by omega)
      obtain ⟨rfl, -, rfl⟩ := Value.slice.inj ea
      obtain ⟨c1, c2⟩ := hc k hlt
      have E1 : Hid (offB data[k].1 = false → r = false) := N1.out k hlt
      have E2 : Hid (offB data[k].1 = true → (data.take (k + 1)).all (fun p => offB p.1) = true) := all_step hlt H.out
      have E3 : Hid (data[k].2.size = 0 → r = false) := N2.out k hlt
      have c8 := hq.cell k8
      clear hc H HB HX HM Y N1 N2 N3 N4 HD ea k0 k1 k2 k3 k4 k5 k6 k7 k8 k9 k10 k11
      generalize data[k] = x at *
      obtain ⟨x1, xs⟩ := x
      simp only at c1 c2 E1 E2 E3
      have lt2 : (k : Int) < (data.length : Int) := by omega
      by_cases h1 : x1 < 0
      · have t1 : decide (x1 < 0) = true := decide_eq_true h1
        have E := Lib.hid (E1.out (decide_eq_false (by omega)))
        clear h1 E1 E2 E3
        go_wp2
        go_ret
        exact ⟨ret_bool E.out.symm, q1.trans hq⟩
      have t1 : decide (x1 < 0) = false := decide_eq_false h1
      by_cases h2 : 1099511627776 < x1
      · have t2 : decide (1099511627776 < x1) = true := decide_eq_true h2
        have E := Lib.hid (E1.out (decide_eq_false (by omega)))
        clear h1 h2 E1 E2 E3
        go_wp2
        go_ret
        exact ⟨ret_bool E.out.symm, q1.trans hq⟩
      have t2 : decide (1099511627776 < x1) = false := decide_eq_false h2
      by_cases h3 : xs.size = 0
      · have t3 : ((xs.size : Int) == 0) = true := beq_iff_eq.2 (by omega)
        have E := Lib.hid (E3.out h3)
        clear h1 h2 h3 E1 E2 E3
        go_wp2
        go_ret
        exact ⟨ret_bool E.out.symm, q1.trans hq⟩
      have t3 : ((xs.size : Int) == 0) = false := beq_eq_false_iff_ne.2 (by omega)
      have E := Lib.hid (E2.out (decide_eq_true (by omega)))
      clear h1 h2 h3 E1 E2 E3
      go_wp2
      go_roundw
      case rel => exact ⟨k + 1, by go_num, by omega, hq, E⟩
      case measure => simp [intOf]; omega
    · have hall : Hid (data.all (fun p => offB p.1) = true) := by
        have := H.out
        rwa [List.take_of_length_le (by omega)] at this
      have KS : ∀ w', Q w1 w' → Q w1 w' ∧ w'.cell? ⟨w.heap.size, 0, none⟩ = some (.int .i64 kind) ∧ w'.cell? ⟨w.heap.size, 1, none⟩ = some (.int .i64 mode) ∧ w'.cell? ⟨w.heap.size, 2, none⟩ = some (.int .i64 uid) ∧ w'.cell? ⟨w.heap.size, 3, none⟩ = some (.int .i64 gid) ∧ w'.cell? ⟨w.heap.size, 4, none⟩ = some (.int .i64 time) ∧ w'.cell? ⟨w.heap.size, 5, none⟩ = some (va) ∧ w'.cell? ⟨w.heap.size, 6, none⟩ = some (vl) ∧ w'.cell? ⟨w.heap.size, 7, none⟩ = some (.int .i64 size) ∧ w'.cell? ⟨w.heap.size, 8, none⟩ = some (.slice A data.length c) ∧ w'.cell? ⟨w.heap.size, 9, none⟩ = some (.string target) ∧ w'.cell? ⟨w.heap.size, 10, none⟩ = some (.int .i64 major) ∧ w'.cell? ⟨w.heap.size, 11, none⟩ = some (.int .i64 minor) := fun w' q => ⟨q, q.cell k0, q.cell k1, q.cell k2, q.cell k3, q.cell k4, q.cell k5, q.cell k6, q.cell k7, q.cell k8, q.cell k9, q.cell k10, q.cell k11⟩
      replace KS := Lib.hid KS
      have k8' := hq.cell k8
      have k7' := hq.cell k7
      clear H HD N1 N2
      by_cases h1 : 0 ≤ size
      rotate_left
      · have t1 : decide (0 ≤ size) = false := decide_eq_false h1
        have E := Lib.hid (N3.out fun h => h1 h.1)
        clear h1 Y N3 N4 hall
        have hgb := World.block_lt_of_cell? wr _ (hq.cell k8)
        have m0 := cell_grown (a := ⟨w.heap.size, 0, none⟩) hgb (hq.cell k0)
        have m1 := cell_grown (a := ⟨w.heap.size, 1, none⟩) hgb (hq.cell k1)
        have m2 := cell_grown (a := ⟨w.heap.size, 2, none⟩) hgb (hq.cell k2)
        have m3 := cell_grown (a := ⟨w.heap.size, 3, none⟩) hgb (hq.cell k3)
        have m4 := cell_grown (a := ⟨w.heap.size, 4, none⟩) hgb (hq.cell k4)
        have m5 := cell_grown (a := ⟨w.heap.size, 5, none⟩) hgb (hq.cell k5)
        have m6 := cell_grown (a := ⟨w.heap.size, 6, none⟩) hgb (hq.cell k6)
        have m7 := cell_grown (a := ⟨w.heap.size, 7, none⟩) hgb (hq.cell k7)
        have m8 := cell_grown (a := ⟨w.heap.size, 8, none⟩) hgb (hq.cell k8)
        have m9 := cell_grown (a := ⟨w.heap.size, 9, none⟩) hgb (hq.cell k9)
        have m10 := cell_grown (a := ⟨w.heap.size, 10, none⟩) hgb (hq.cell k10)
        have m11 := cell_grown (a := ⟨w.heap.size, 11, none⟩) hgb (hq.cell k11)
        clear k0 k1 k2 k3 k4 k5 k6 k7 k8 k9 k10 k11
        go_wp2_with fail
        (refine wp_region_quiet_grown (by assumption) (by kernel_rfl) ?_; (repeat (go_big_quiet_step ((go_at_call 57; exact Grew.calls (HG.out _ (Q.grown hq _ _)))))); refine wpQuiet_nil ?_; intro _ hw'; obtain ⟨⟨nq, osq⟩, hw2⟩ := hw'; subst hw2)
        go_wp2
        go_ret
        exact ⟨ret_bool E.out.symm, q1.trans (Q.grown hq _ _)⟩
      have t1 : decide (0 ≤ size) = true := decide_eq_true h1
      by_cases h2 : size ≤ 1099511627776
      rotate_left
      · have t2 : decide (size ≤ 1099511627776) = false := decide_eq_false h2
        have E := Lib.hid (N3.out fun h => h2 h.2)
        clear h1 h2 Y N3 N4 hall
        have hgb := World.block_lt_of_cell? wr _ (hq.cell k8)
        have m0 := cell_grown (a := ⟨w.heap.size, 0, none⟩) hgb (hq.cell k0)
        have m1 := cell_grown (a := ⟨w.heap.size, 1, none⟩) hgb (hq.cell k1)
        have m2 := cell_grown (a := ⟨w.heap.size, 2, none⟩) hgb (hq.cell k2)
        have m3 := cell_grown (a := ⟨w.heap.size, 3, none⟩) hgb (hq.cell k3)
        have m4 := cell_grown (a := ⟨w.heap.size, 4, none⟩) hgb (hq.cell k4)
        have m5 := cell_grown (a := ⟨w.heap.size, 5, none⟩) hgb (hq.cell k5)
        have m6 := cell_grown (a := ⟨w.heap.size, 6, none⟩) hgb (hq.cell k6)
        have m7 := cell_grown (a := ⟨w.heap.size, 7, none⟩) hgb (hq.cell k7)
        have m8 := cell_grown (a := ⟨w.heap.size, 8, none⟩) hgb (hq.cell k8)
        have m9 := cell_grown (a := ⟨w.heap.size, 9, none⟩) hgb (hq.cell k9)
        have m10 := cell_grown (a := ⟨w.heap.size, 10, none⟩) hgb (hq.cell k10)
        have m11 := cell_grown (a := ⟨w.heap.size, 11, none⟩) hgb (hq.cell k11)
        clear k0 k1 k2 k3 k4 k5 k6 k7 k8 k9 k10 k11
        go_wp2_with fail
        (refine wp_region_quiet_grown (by assumption) (by kernel_rfl) ?_; (repeat (go_big_quiet_step ((go_at_call 57; exact Grew.calls (HG.out _ (Q.grown hq _ _)))))); refine wpQuiet_nil ?_; intro _ hw'; obtain ⟨⟨nq, osq⟩, hw2⟩ := hw'; subst hw2)
        go_wp2
        go_ret
        exact ⟨ret_bool E.out.symm, q1.trans (Q.grown hq _ _)⟩
      have t2 : decide (size ≤ 1099511627776) = true := decide_eq_true h2
      by_cases h3 : sumP data ≤ 4000
      rotate_left
      · have t3 : decide ((sumP data : Int) ≤ 4000) = false := decide_eq_false (by omega)
        have E := Lib.hid (N4.out (by omega))
        clear h1 h2 h3 Y N3 N4 hall
        have hgb := World.block_lt_of_cell? wr _ (hq.cell k8)
        have m0 := cell_grown (a := ⟨w.heap.size, 0, none⟩) hgb (hq.cell k0)
        have m1 := cell_grown (a := ⟨w.heap.size, 1, none⟩) hgb (hq.cell k1)
        have m2 := cell_grown (a := ⟨w.heap.size, 2, none⟩) hgb (hq.cell k2)
        have m3 := cell_grown (a := ⟨w.heap.size, 3, none⟩) hgb (hq.cell k3)
        have m4 := cell_grown (a := ⟨w.heap.size, 4, none⟩) hgb (hq.cell k4)
        have m5 := cell_grown (a := ⟨w.heap.size, 5, none⟩) hgb (hq.cell k5)
        have m6 := cell_grown (a := ⟨w.heap.size, 6, none⟩) hgb (hq.cell k6)
        have m7 := cell_grown (a := ⟨w.heap.size, 7, none⟩) hgb (hq.cell k7)
        have m8 := cell_grown (a := ⟨w.heap.size, 8, none⟩) hgb (hq.cell k8)
        have m9 := cell_grown (a := ⟨w.heap.size, 9, none⟩) hgb (hq.cell k9)
        have m10 := cell_grown (a := ⟨w.heap.size, 10, none⟩) hgb (hq.cell k10)
        have m11 := cell_grown (a := ⟨w.heap.size, 11, none⟩) hgb (hq.cell k11)
        clear k0 k1 k2 k3 k4 k5 k6 k7 k8 k9 k10 k11
        go_wp2_with fail
        (refine wp_region_quiet_grown (by assumption) (by kernel_rfl) ?_; (repeat (go_big_quiet_step ((go_at_call 57; exact Grew.calls (HG.out _ (Q.grown hq _ _)))))); refine wpQuiet_nil ?_; intro _ hw'; obtain ⟨⟨nq, osq⟩, hw2⟩ := hw'; subst hw2)
        go_wp2
        go_ret
        exact ⟨ret_bool E.out.symm, q1.trans (Q.grown hq _ _)⟩
      have t3 : decide ((sumP data : Int) ≤ 4000) = true := decide_eq_true (by omega)
      by_cases h4 : data.length ≤ 16
      rotate_left
      · have t4 : decide ((data.length : Int) ≤ 16) = false := decide_eq_false (by omega)
        have E := Lib.hid (N4.out (by omega))
        clear h1 h2 h3 h4 Y N3 N4 hall
        have hgb := World.block_lt_of_cell? wr _ (hq.cell k8)
        have m0 := cell_grown (a := ⟨w.heap.size, 0, none⟩) hgb (hq.cell k0)
        have m1 := cell_grown (a := ⟨w.heap.size, 1, none⟩) hgb (hq.cell k1)
        have m2 := cell_grown (a := ⟨w.heap.size, 2, none⟩) hgb (hq.cell k2)
        have m3 := cell_grown (a := ⟨w.heap.size, 3, none⟩) hgb (hq.cell k3)
        have m4 := cell_grown (a := ⟨w.heap.size, 4, none⟩) hgb (hq.cell k4)
        have m5 := cell_grown (a := ⟨w.heap.size, 5, none⟩) hgb (hq.cell k5)
        have m6 := cell_grown (a := ⟨w.heap.size, 6, none⟩) hgb (hq.cell k6)
        have m7 := cell_grown (a := ⟨w.heap.size, 7, none⟩) hgb (hq.cell k7)
        have m8 := cell_grown (a := ⟨w.heap.size, 8, none⟩) hgb (hq.cell k8)
        have m9 := cell_grown (a := ⟨w.heap.size, 9, none⟩) hgb (hq.cell k9)
        have m10 := cell_grown (a := ⟨w.heap.size, 10, none⟩) hgb (hq.cell k10)
        have m11 := cell_grown (a := ⟨w.heap.size, 11, none⟩) hgb (hq.cell k11)
        clear k0 k1 k2 k3 k4 k5 k6 k7 k8 k9 k10 k11
        go_wp2_with fail
        (refine wp_region_quiet_grown (by assumption) (by kernel_rfl) ?_; (repeat (go_big_quiet_step ((go_at_call 57; exact Grew.calls (HG.out _ (Q.grown hq _ _)))))); refine wpQuiet_nil ?_; intro _ hw'; obtain ⟨⟨nq, osq⟩, hw2⟩ := hw'; subst hw2)
        go_wp2
        go_ret
        exact ⟨ret_bool E.out.symm, q1.trans (Q.grown hq _ _)⟩
      have t4 : decide ((data.length : Int) ≤ 16) = true := decide_eq_true (by omega)
      have E := Lib.hid (Y.out hall.out h3 h4)
      clear h1 h2 h3 h4 Y N3 N4 hall HG k0 k1 k2 k3 k4 k5 k6 k7 k8 k9 k10 k11
      go_wp2_with fail
      go_region_held3 (fun w' => Q w1 w' ∧ w'.cell? ⟨w.heap.size, 0, none⟩ = some (.int .i64 kind) ∧ w'.cell? ⟨w.heap.size, 1, none⟩ = some (.int .i64 mode) ∧ w'.cell? ⟨w.heap.size, 2, none⟩ = some (.int .i64 uid) ∧ w'.cell? ⟨w.heap.size, 3, none⟩ = some (.int .i64 gid) ∧ w'.cell? ⟨w.heap.size, 4, none⟩ = some (.int .i64 time) ∧ w'.cell? ⟨w.heap.size, 5, none⟩ = some (va) ∧ w'.cell? ⟨w.heap.size, 6, none⟩ = some (vl) ∧ w'.cell? ⟨w.heap.size, 7, none⟩ = some (.int .i64 size) ∧ w'.cell? ⟨w.heap.size, 8, none⟩ = some (.slice A data.length c) ∧ w'.cell? ⟨w.heap.size, 9, none⟩ = some (.string target) ∧ w'.cell? ⟨w.heap.size, 10, none⟩ = some (.int .i64 major) ∧ w'.cell? ⟨w.heap.size, 11, none⟩ = some (.int .i64 minor)) (first | assumption | exact KS.out _ (by assumption) | exact KS.out _ (Q.drew hq) | exact KS.out _ (Q.alloc (And.left (by assumption)) _) | exact KS.out _ (Q.drew (And.left (by assumption)))) (first
      | (go_at_call 57; refine (HB.out _ (And.left (by assumption))).mono ?_; rintro e wn ⟨rfl, qn⟩)
      | (go_at_call 99; refine (HX.out _ (And.left (by assumption))).mono ?_; rintro e wn ⟨AX, cX, rfl, hx, qn⟩)
      | (go_at_call 98; refine (HM.out _ _ (hx _ (Q.refl _)) (And.left (by assumption))).mono ?_; rintro e wn2 ⟨rfl, qn2⟩)
      | (go_at_call 98; refine (HM.out _ _ (hx _ (Q.refl _).drew) (And.left (by assumption))).mono ?_; rintro e wn2 ⟨rfl, qn2⟩))
      go_wp2
      go_ret
      exact ⟨ret_bool E.out.symm, q1.trans (And.left (by assumption))⟩
end Go.Proofs.YtgbenepapajieaaGreat.Nd
