/-
  The contract of the statements' Few. The contract of the document's MayMeta.
-/
import Derived.Test.YtgbenepapajieaaGreatOpenM
import Derived.Test.YtgbenepapajieaaGreatRow
namespace Go.Proofs.YtgbenepapajieaaGreat
open Go.RowKit

def smallT (x : Attr) : Prop := x.1.size ≤ 250 ∧ x.2.size ≤ 250
instance (x : Attr) : Decidable (smallT x) := by unfold smallT; infer_instance
def Smalls (l : List Attr) : Prop := ∀ x ∈ l, smallT x
instance (l : List Attr) : Decidable (Smalls l) := by unfold Smalls; infer_instance
def fewM (m : Mt) : Bool := decide (Smalls m.attrs) && decide ((m.attrs.length : Int) ≤ 12) && decide ((m.acl.length : Int) ≤ 20)
theorem fewM_bounds {m : Mt} (h : fewM m = true) : Smalls m.attrs ∧ m.attrs.length ≤ 12 ∧ m.acl.length ≤ 20 := by
  unfold fewM at h
  simp only [Bool.and_eq_true, decide_eq_true_eq] at h
  exact ⟨h.1.1, by omega, by omega⟩
theorem smalls_step {l : List Attr} {k : Nat} (hk : k < l.length) (h : Smalls (l.take k)) (h1 : smallT l[k]) : Smalls (l.take (k + 1)) := by
  rw [List.take_succ_eq_append_getElem hk]
  intro x hx
  rcases List.mem_append.1 hx with hx | hx
  · exact h x hx
  · rw [List.mem_singleton.1 hx]; exact h1
theorem smalls_not {m : Mt} {k : Nat} (hk : k < m.attrs.length) (h1 : ¬ smallT m.attrs[k]) : fewM m = false := by
  have : ¬ Smalls m.attrs := fun h => h1 (h _ (List.getElem_mem hk))
  unfold fewM
  simp [this]
theorem smalls_end {m : Mt} {k : Nat} (hk : m.attrs.length ≤ k) (h : Smalls (m.attrs.take k)) : fewM m = (decide ((m.attrs.length : Int) ≤ 12) && decide ((m.acl.length : Int) ≤ 20)) := by
  rw [List.take_of_length_le hk] at h
  unfold fewM
  simp [h]

set_option maxRecDepth 100000 in
set_option maxHeartbeats 4000000 in
theorem few_any (v : Value) (m : Mt) (w : World) (h : MetaAt w v m) :
    Calls Tryz.prog 64 #[v] w fun e w' => e = .returned (.bool (fewM m)) ∧ Grew w w' := by
  obtain ⟨va, vl, rfl, ha, hl⟩ := h
  have En : Hid (∀ k (hk : k < m.attrs.length), ¬ smallT m.attrs[k] → fewM m = false) := fun k hk => smalls_not hk
  have Ee : Hid (∀ k, m.attrs.length ≤ k → Smalls (m.attrs.take k) → fewM m = (decide ((m.attrs.length : Int) ≤ 12) && decide ((m.acl.length : Int) ≤ 20))) := fun k => smalls_end
  obtain ⟨mode, uid, gid, time, attrs, acl⟩ := m
  generalize fewM ⟨mode, uid, gid, time, attrs, acl⟩ = r at *
  unfold metaV
  simp only at ha hl En Ee ⊢
  have ll := ha.len
  have lc := hl.len
  unfold maxLen at ll lc
  obtain ⟨A, ca, rfl⟩ := ha.form
  obtain ⟨B, cb, rfl⟩ := hl.form
  go_enter Tryz.func64, Tryz.ntmps64
  go_wp2
  have gw : Grew w (w.alloc (.cells #[.int .i64 mode, .int .i64 uid, .int .i64 gid, .int .i64 time, .slice A attrs.length ca, .slice B acl.length cb] 44)) := Grew.alloc _ _
  have k4 : (w.alloc (.cells #[.int .i64 mode, .int .i64 uid, .int .i64 gid, .int .i64 time, .slice A attrs.length ca, .slice B acl.length cb] 44)).cell? ⟨w.heap.size, 4, none⟩ = some (.slice A attrs.length ca) := by simp
  have k5 : (w.alloc (.cells #[.int .i64 mode, .int .i64 uid, .int .i64 gid, .int .i64 time, .slice A attrs.length ca, .slice B acl.length cb] 44)).cell? ⟨w.heap.size, 5, none⟩ = some (.slice B acl.length cb) := by simp
  generalize w.alloc (.cells #[.int .i64 mode, .int .i64 uid, .int .i64 gid, .int .i64 time, .slice A attrs.length ca, .slice B acl.length cb] 44) = w1 at *
  go_loopw [3] (fun i wr => ∃ k : Nat, i = .int .i64 k ∧ k ≤ attrs.length ∧ wr = w1 ∧ Hid (Smalls (attrs.take k))) (fun i _ => attrs.length - (intOf i).toNat)
  case atStart => exact ⟨0, rfl, by omega, rfl, (fun x hx => by cases hx)⟩
  case round =>
    obtain ⟨k, rfl, hk, rfl, H⟩ := hrel
    by_cases hlt : k < attrs.length
    · obtain ⟨g, o, _, ea, _, _, hc⟩ := (ha.keep gw.q).atT (by omega)
      cases ea
      obtain ⟨c1, c2⟩ := hc k hlt
      have lt2 : (k : Int) < (attrs.length : Int) := by omega
      have E1 : Hid (¬ smallT attrs[k] → r = false) := En.out k hlt
      have E2 : Hid (smallT attrs[k] → Smalls (attrs.take (k + 1))) := smalls_step hlt H.out
      clear hc ha hl H Ee En
      generalize attrs[k] = x at *
      obtain ⟨n, u⟩ := x
      by_cases h1 : 250 < n.size
      · have t1 : decide ((250 : Int) < (n.size : Int)) = true := decide_eq_true (by omega)
        have E := Lib.hid (E1.out (by unfold smallT; simp only; omega))
        clear h1 E1 E2
        go_wp2
        go_ret
        exact ⟨ret_bool E.out.symm, gw⟩
      · have t1 : decide ((250 : Int) < (n.size : Int)) = false := decide_eq_false (by omega)
        by_cases h2 : 250 < u.size
        · have t2 : decide ((250 : Int) < (u.size : Int)) = true := decide_eq_true (by omega)
          have E := Lib.hid (E1.out (by unfold smallT; simp only; omega))
          clear h1 h2 E1 E2
          go_wp2
          go_ret
          exact ⟨ret_bool E.out.symm, gw⟩
        · have t2 : decide ((250 : Int) < (u.size : Int)) = false := decide_eq_false (by omega)
          have E := Lib.hid (E2.out (by unfold smallT; simp only; omega))
          clear h1 h2 E1 E2
          go_wp2
          go_roundw
          case rel => exact ⟨k + 1, by go_num, by omega, trivial, E⟩
          case measure => simp [intOf]; omega
    · have E := Lib.hid (Ee.out k (by omega) H.out)
      clear H ha hl Ee En
      by_cases h1 : (attrs.length : Int) ≤ 12
      · have t1 : decide ((attrs.length : Int) ≤ 12) = true := decide_eq_true h1
        rw [t1] at E
        clear h1
        go_wp2
        all_goals
          go_ret
          exact ⟨ret_bool (by rw [E.out]; simp_all), gw⟩
      · have t1 : decide ((attrs.length : Int) ≤ 12) = false := decide_eq_false h1
        rw [t1] at E
        clear h1
        go_wp2
        go_ret
        exact ⟨ret_bool (by rw [E.out]; simp_all), gw⟩
end Go.Proofs.YtgbenepapajieaaGreat
namespace Go.Proofs.YtgbenepapajieaaGreat
open Go.RowKit

theorem leT (x y : Attr) : (Op.bytesLess x.1.toList y.1.toList || x.1.toList == y.1.toList) = decide (¬ ltT y x) := by
  rw [Bool.eq_iff_iff, Bool.or_eq_true, decide_eq_true_eq, beq_iff_eq]
  constructor
  · rintro (h | h)
    · exact fun k => ltT_irrefl _ (ltT_trans (x := x) (y := y) h k)
    · exact ltT_name (str_inj h).symm
  · intro h
    rcases ltT_total x y with k | k | k
    · exact .inl k
    · exact .inr (by rw [k])
    · exact absurd k h
theorem mayM_no1 {m : Mt} (h : ¬ AllOkT m.attrs) : mayM m = false := by unfold mayM; simp [h]
theorem mayM_no2 {m : Mt} (h : ¬ RiseT m.attrs) : mayM m = false := by unfold mayM; simp [h]
theorem mayM_yes {m : Mt} (h1 : AllOkT m.attrs) (h2 : RiseT m.attrs) : mayM m = (decide (0 ≤ m.mode) && decide (m.mode ≤ 4095) && decide (0 ≤ m.uid) && decide (m.uid ≤ 2147483647) && decide (0 ≤ m.gid) && decide (m.gid ≤ 2147483647) && decide (0 ≤ m.time) && decide ((m.attrs.length : Int) ≤ 8) && mayB m.acl) := by
  unfold mayM idB
  simp only [h1, h2, decide_true, Bool.and_true, Bool.decide_and, Bool.and_assoc]

set_option maxRecDepth 100000 in
set_option maxHeartbeats 8000000 in
theorem metaMayRef_any (v : Value) (m : Mt) (w : World) (h : MetaAt w v m) :
    Calls Tryz.prog 77 #[v] w fun e w' => e = .returned (.bool (mayM m)) ∧ Grew w w' := by
  obtain ⟨va, vl, rfl, ha, hl⟩ := h
  obtain ⟨mode, uid, gid, time, attrs, acl⟩ := m
  unfold metaV
  simp only at ha hl ⊢
  have ll := ha.len
  unfold maxLen at ll
  obtain ⟨A, ca, rfl⟩ := ha.form
  have HL := Lib.hid (fun w' (q : Q w w') => mayRef_any _ acl w' (hl.keep q))
  have N1 : Hid (¬ AllOkT attrs → mayM ⟨mode, uid, gid, time, attrs, acl⟩ = false) := mayM_no1 (m := ⟨mode, uid, gid, time, attrs, acl⟩)
  have N2 : Hid (¬ RiseT attrs → mayM ⟨mode, uid, gid, time, attrs, acl⟩ = false) := mayM_no2 (m := ⟨mode, uid, gid, time, attrs, acl⟩)
  have Y : Hid (AllOkT attrs → RiseT attrs → mayM ⟨mode, uid, gid, time, attrs, acl⟩ = (decide (0 ≤ mode) && decide (mode ≤ 4095) && decide (0 ≤ uid) && decide (uid ≤ 2147483647) && decide (0 ≤ gid) && decide (gid ≤ 2147483647) && decide (0 ≤ time) && decide ((attrs.length : Int) ≤ 8) && mayB acl)) := mayM_yes (m := ⟨mode, uid, gid, time, attrs, acl⟩)
  generalize mayM ⟨mode, uid, gid, time, attrs, acl⟩ = r at *
  generalize mayB acl = b5 at *
  have mixed : Tryz.prog.follows .mixedOrders = true := by kernel_rfl
  go_enter Tryz.func77, Tryz.ntmps77
  go_wp2
  have gw : Grew w (w.alloc (.cells #[.int .i64 mode, .int .i64 uid, .int .i64 gid, .int .i64 time, .slice A attrs.length ca, vl] 44)) := Grew.alloc _ _
  have k0 : (w.alloc (.cells #[.int .i64 mode, .int .i64 uid, .int .i64 gid, .int .i64 time, .slice A attrs.length ca, vl] 44)).cell? ⟨w.heap.size, 0, none⟩ = some (.int .i64 mode) := by simp
  have k1 : (w.alloc (.cells #[.int .i64 mode, .int .i64 uid, .int .i64 gid, .int .i64 time, .slice A attrs.length ca, vl] 44)).cell? ⟨w.heap.size, 1, none⟩ = some (.int .i64 uid) := by simp
  have k2 : (w.alloc (.cells #[.int .i64 mode, .int .i64 uid, .int .i64 gid, .int .i64 time, .slice A attrs.length ca, vl] 44)).cell? ⟨w.heap.size, 2, none⟩ = some (.int .i64 gid) := by simp
  have k3 : (w.alloc (.cells #[.int .i64 mode, .int .i64 uid, .int .i64 gid, .int .i64 time, .slice A attrs.length ca, vl] 44)).cell? ⟨w.heap.size, 3, none⟩ = some (.int .i64 time) := by simp
  have k4 : (w.alloc (.cells #[.int .i64 mode, .int .i64 uid, .int .i64 gid, .int .i64 time, .slice A attrs.length ca, vl] 44)).cell? ⟨w.heap.size, 4, none⟩ = some (.slice A attrs.length ca) := by simp
  have k5 : (w.alloc (.cells #[.int .i64 mode, .int .i64 uid, .int .i64 gid, .int .i64 time, .slice A attrs.length ca, vl] 44)).cell? ⟨w.heap.size, 5, none⟩ = some vl := by simp
  generalize w.alloc (.cells #[.int .i64 mode, .int .i64 uid, .int .i64 gid, .int .i64 time, .slice A attrs.length ca, vl] 44) = w1 at *
  go_loopw [3] (fun i wr => ∃ k : Nat, i = .int .i64 k ∧ k ≤ attrs.length ∧ Grew w1 wr ∧ Hid (AllOkT (attrs.take k)) ∧ Hid (UpToT attrs k)) (fun i _ => attrs.length - (intOf i).toNat)
  case atStart => exact ⟨0, rfl, by omega, Grew.refl _, (fun x hx => by cases hx), UpToT.zero attrs⟩
  case round =>
    obtain ⟨k, rfl, hk, hq, H, U⟩ := hrel
    replace k0 := hq.q.cell k0
    replace k1 := hq.q.cell k1
    replace k2 := hq.q.cell k2
    replace k3 := hq.q.cell k3
    replace k4 := hq.q.cell k4
    replace k5 := hq.q.cell k5
    have gq := gw.trans hq
    by_cases hlt : k < attrs.length
    · obtain ⟨g, o, _, ea, _, _, hc⟩ := (ha.keep gq.q).atT (by omega)
      cases ea
      obtain ⟨c1, c2⟩ := hc k hlt
      have hgb := World.block_lt_of_cell? wr _ c1
      have hgk := World.block_lt_of_cell? wr _ k4
      have lt2 : (k : Int) < (attrs.length : Int) := by omega
      have b1 := cell_grown (a := ⟨g, o + k * 2, none⟩) hgb c1
      have b2 := cell_grown (a := ⟨g, o + k * 2 + 1, none⟩) hgb c2
      have b4 := cell_grown (a := ⟨w.heap.size, 4, none⟩) hgk k4
      have En : Hid (¬ OkT attrs[k] → r = false) := fun hx => N1.out (allOkT_not hlt hx)
      have Ey : Hid (OkT attrs[k] → AllOkT (attrs.take (k + 1))) := allOkT_step hlt H.out
      have HE := Lib.hid (fun w => attrRef_any attrs[k] w)
      by_cases hx : OkT attrs[k]
      · rw [decide_eq_true hx] at HE
        have E := Lib.hid (Ey.out hx)
        clear hx En Ey H
        by_cases h0 : k = 0
        · subst h0
          have U1 : Hid (UpToT attrs 1) := UpToT.start attrs
          clear hc ha U
          generalize attrs[0] = x at *
          replace b1 : ∀ n os, (Go.Sort.grow (wr.drewN n) os).cell? ⟨g, o, none⟩ = some (.string x.1) := by simpa using b1
          replace b2 : ∀ n os, (Go.Sort.grow (wr.drewN n) os).cell? ⟨g, o + 1, none⟩ = some (.string x.2) := by simpa using b2
          have lt2 : (0 : Int) < (attrs.length : Int) := by omega
          go_wp2_with fail
          (refine wp_region_quiet_grown (by assumption) (by kernel_rfl) ?_; (repeat (go_big_quiet_step ((go_at_call 96; exact Grew.calls (HE.out _))))); refine wpQuiet_nil ?_; intro _ hw'; obtain ⟨⟨nq, osq⟩, hw2⟩ := hw'; subst hw2)
          go_wp2
          go_roundw
          case rel => exact ⟨0 + 1, by go_num, by omega, hq.trans ⟨_, _, rfl⟩, E, U1⟩
          case measure => simp [intOf]; omega
        · obtain ⟨j, rfl⟩ : ∃ j, k = j + 1 := ⟨k - 1, by omega⟩
          obtain ⟨d1, d2⟩ := hc j (by omega)
          have e1 := cell_grown (a := ⟨g, o + j * 2, none⟩) hgb d1
          have e2 := cell_grown (a := ⟨g, o + j * 2 + 1, none⟩) hgb d2
          have En : Hid (¬ ltT attrs[j] attrs[j + 1] → r = false) := fun hx => N2.out (RiseT.not hlt hx)
          have Ey : Hid (ltT attrs[j] attrs[j + 1] → UpToT attrs (j + 2)) := UpToT.step hlt U.out
          have hle := leT attrs[j + 1] attrs[j]
          clear hc ha U
          generalize attrs[j + 1] = x at *
          generalize attrs[j] = y at *
          have wr2 : IntKind.i64.wrap (j : Int) = j := IntWalk.i64_in _ (by omega)
          have nn2 : (0 : Int) ≤ (j : Int) := by omega
          have nn3 : (0 : Int) ≤ (j : Int) + 1 := by omega
          have t3 : decide ((0 : Int) < (j : Int) + 1) = true := decide_eq_true (by omega)
          have lt3 : (j : Int) < (attrs.length : Int) := by omega
          rw [show ((j + 1 : Nat) : Int) = (j : Int) + 1 from rfl] at *
          by_cases hx : ltT y x
          · rw [decide_eq_false (by simpa using hx)] at hle
            have U1 := Lib.hid (Ey.out hx)
            clear hx En Ey
            go_wp2_with fail
            (refine wp_region_quiet_grown (by assumption) (by kernel_rfl) ?_; (repeat (go_big_quiet_step ((go_at_call 96; exact Grew.calls (HE.out _))))); refine wpQuiet_nil ?_; intro _ hw'; obtain ⟨⟨nq, osq⟩, hw2⟩ := hw'; subst hw2)
            go_wp2
            go_roundw
            case rel => exact ⟨j + 1 + 1, by go_num, by omega, hq.trans ⟨_, _, rfl⟩, E, U1⟩
            case measure => simp [intOf]; omega
          · rw [decide_eq_true hx] at hle
            have U1 := Lib.hid (En.out hx)
            clear hx En Ey
            go_wp2_with fail
            (refine wp_region_quiet_grown (by assumption) (by kernel_rfl) ?_; (repeat (go_big_quiet_step ((go_at_call 96; exact Grew.calls (HE.out _))))); refine wpQuiet_nil ?_; intro _ hw'; obtain ⟨⟨nq, osq⟩, hw2⟩ := hw'; subst hw2)
            go_wp2
            go_ret
            exact ⟨ret_bool U1.out.symm, gq.trans ⟨_, _, rfl⟩⟩
      · rw [decide_eq_false hx] at HE
        have E := Lib.hid (En.out hx)
        clear hx En Ey H U hc ha
        generalize attrs[k] = x at *
        go_wp2_with fail
        (refine wp_region_quiet_grown (by assumption) (by kernel_rfl) ?_; (repeat (go_big_quiet_step ((go_at_call 96; exact Grew.calls (HE.out _))))); refine wpQuiet_nil ?_; intro _ hw'; obtain ⟨⟨nq, osq⟩, hw2⟩ := hw'; subst hw2)
        go_wp2
        go_ret
        exact ⟨ret_bool E.out.symm, gq.trans ⟨_, _, rfl⟩⟩
    · have E := Lib.hid (Y.out (allOkT_end (by omega) H.out) (U.out.rise (by omega)))
      clear H U ha N1 N2 Y
      have HM := Lib.hid (HL.out wr gq.q)
      clear HL
      by_cases h0 : 0 ≤ mode
      · have t0 : decide (0 ≤ mode) = true := decide_eq_true h0
        rw [t0] at E
        clear h0
        by_cases h1 : mode ≤ 4095
        · have t1 : decide (mode ≤ 4095) = true := decide_eq_true h1
          rw [t1] at E
          clear h1
          by_cases h2 : 0 ≤ uid
          · have t2 : decide (0 ≤ uid) = true := decide_eq_true h2
            rw [t2] at E
            clear h2
            by_cases h3 : uid ≤ 2147483647
            · have t3 : decide (uid ≤ 2147483647) = true := decide_eq_true h3
              rw [t3] at E
              clear h3
              by_cases h4 : 0 ≤ gid
              · have t4 : decide (0 ≤ gid) = true := decide_eq_true h4
                rw [t4] at E
                clear h4
                by_cases h5 : gid ≤ 2147483647
                · have t5 : decide (gid ≤ 2147483647) = true := decide_eq_true h5
                  rw [t5] at E
                  clear h5
                  by_cases h6 : 0 ≤ time
                  · have t6 : decide (0 ≤ time) = true := decide_eq_true h6
                    rw [t6] at E
                    clear h6
                    by_cases h7 : (attrs.length : Int) ≤ 8
                    · have t7 : decide ((attrs.length : Int) ≤ 8) = true := decide_eq_true h7
                      rw [t7] at E
                      clear h7
                      go_wp2_with fail
                      refine HM.out.mono ?_
                      rintro e w2 ⟨rfl, q2⟩
                      go_wp2
                      all_goals
                        go_ret
                        exact ⟨ret_bool (by rw [E.out]; simp_all), gq.trans q2⟩
                    · have t7 : decide ((attrs.length : Int) ≤ 8) = false := decide_eq_false h7
                      rw [t7] at E
                      clear h7
                      go_wp2
                      go_ret
                      exact ⟨ret_bool (by rw [E.out]; simp), gq⟩
                  · have t6 : decide (0 ≤ time) = false := decide_eq_false h6
                    rw [t6] at E
                    clear h6
                    go_wp2
                    go_ret
                    exact ⟨ret_bool (by rw [E.out]; simp), gq⟩
                · have t5 : decide (gid ≤ 2147483647) = false := decide_eq_false h5
                  rw [t5] at E
                  clear h5
                  go_wp2
                  go_ret
                  exact ⟨ret_bool (by rw [E.out]; simp), gq⟩
              · have t4 : decide (0 ≤ gid) = false := decide_eq_false h4
                rw [t4] at E
                clear h4
                go_wp2
                go_ret
                exact ⟨ret_bool (by rw [E.out]; simp), gq⟩
            · have t3 : decide (uid ≤ 2147483647) = false := decide_eq_false h3
              rw [t3] at E
              clear h3
              go_wp2
              go_ret
              exact ⟨ret_bool (by rw [E.out]; simp), gq⟩
          · have t2 : decide (0 ≤ uid) = false := decide_eq_false h2
            rw [t2] at E
            clear h2
            go_wp2
            go_ret
            exact ⟨ret_bool (by rw [E.out]; simp), gq⟩
        · have t1 : decide (mode ≤ 4095) = false := decide_eq_false h1
          rw [t1] at E
          clear h1
          go_wp2
          go_ret
          exact ⟨ret_bool (by rw [E.out]; simp), gq⟩
      · have t0 : decide (0 ≤ mode) = false := decide_eq_false h0
        rw [t0] at E
        clear h0
        go_wp2
        go_ret
        exact ⟨ret_bool (by rw [E.out]; simp), gq⟩
end Go.Proofs.YtgbenepapajieaaGreat
