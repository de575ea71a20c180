/-
  The contracts of acl.entries, acl.rising acl.masked and acl.May. A region that draws its order, by an invariant: what holds of the frame and the memory, given which operations have come up; each operation keeps it. The contracts of the document's own functions: needs, MayAcl. Slices of flat structs, whatever the struct: read, of the call's own, appended to.
-/
import Derived.Test.YtgbenepapajieaaGreatCmp
import Derived.StillTail
import Derived.BigRegion
import Derived.RegionTactic
import Derived.Laws.OwnMore
import Derived.Deep.Onto
import Derived.Lib.OwnBridge
import Derived.Deep.AppendLies
namespace Go.Proofs.YtgbenepapajieaaGreat
open Go.RowKit

set_option maxRecDepth 100000 in
set_option maxHeartbeats 1000000 in
theorem entries_any (v : Value) (l : List Ace) (w : World) (h : AcesAt w v l) :
    Calls Tryz.prog 159 #[v] w fun e w' => e = .returned (.bool (decide (AllOk l))) ∧ Grew w w' := by
  have ll := h.len
  obtain ⟨A, c, rfl⟩ := h.form
  unfold maxLen at ll
  go_enter Tryz.func159, Tryz.ntmps159
  go_wp2
  refine wp_scope_goto 0 (fun a' w' => Grew w w' ∧ ∃ (k : Nat) (u4 u5 u6 u7 u8 u9 u10 u11 u12 u13 u14 u15 : Value), a' = { tmps := #[.slice A l.length c, undef, .bool false, .int .i64 k, u4, u5, u6, u7, u8, u9, u10, u11, u12, u13, u14, u15], defers := [] } ∧ k ≤ l.length ∧ Hid (AllOk (l.take k))) (fun a' _ => l.length - (intOf (a'.tmps.getD 3 undef)).toNat) rfl ?_ ?_
  · intro hh
    go_wp2
    go_step3
    rename_i hK
    exact hK _ _ (hh.out _ _ ⟨Grew.refl _, 0, _, _, _, _, _, _, _, _, _, _, _, _, rfl, by omega, fun x hx => by cases hx⟩)
  · rintro a' w' ⟨hq, k, u4, u5, u6, u7, u8, u9, u10, u11, u12, u13, u14, u15, rfl, hk, H⟩
    by_cases hlt : k < l.length
    · have t1 : ((k : Int) == (l.length : Int)) = false := beq_eq_false_iff_ne.2 (by omega)
      obtain ⟨g, o, _, ea, _, _, hc⟩ := (h.keep hq.q).at_ (by omega)
      cases ea
      obtain ⟨c1, c2, c3⟩ := hc k hlt
      have En : Hid (¬ OkA l[k] → ¬ AllOk l) := allOk_not hlt
      have Ey : Hid (OkA l[k] → AllOk (l.take (k + 1))) := allOk_step hlt H.out
      have HE := Lib.hid (fun w => entry_any l[k] w)
      clear hc h H
      generalize l[k] = x at *
      by_cases hx : OkA x
      · rw [decide_eq_true hx] at HE
        have E := Lib.hid (Ey.out hx)
        clear hx En Ey
        go_wp2_with fail
        refine (HE.out _).mono ?_
        rintro e w1 ⟨rfl, hq1⟩
        go_wp2
        go_step3
        exact ⟨rfl, ⟨hq.trans hq1, k + 1, _, _, _, _, _, _, _, _, _, _, _, _, rfl, hlt, E⟩, by simp [intOf]; omega⟩
      · rw [decide_eq_false hx] at HE
        have E := Lib.hid (En.out hx)
        clear hx En Ey
        go_wp2_with fail
        refine (HE.out _).mono ?_
        rintro e w1 ⟨rfl, hq1⟩
        go_wp2
        simp only [Exit.jump]
        go_ret
        exact ⟨ret_bool (b_false E.out), hq.trans hq1⟩
    · have t1 : ((k : Int) == (l.length : Int)) = true := beq_iff_eq.2 (by omega)
      have E := Lib.hid (allOk_end (by omega) H.out)
      clear H
      go_wp2
      simp only [Exit.jump]
      go_ret
      exact ⟨ret_bool (b_true E.out), hq⟩

set_option maxRecDepth 100000 in
set_option maxHeartbeats 2000000 in
theorem rising_any (v : Value) (l : List Ace) (w : World) (h : AcesAt w v l) :
    Calls Tryz.prog 160 #[v] w fun e w' => e = .returned (.bool (decide (Rise l))) ∧ Grew w w' := by
  have ll := h.len
  obtain ⟨A, c, rfl⟩ := h.form
  unfold maxLen at ll
  go_enter Tryz.func160, Tryz.ntmps160
  go_wp2
  refine wp_scope_goto 0 (fun a' w' => Grew w w' ∧ ∃ (k : Nat) (u4 u5 u6 u7 u8 u9 u10 u11 u12 u13 u14 u15 u16 u17 u18 u19 u20 : Value), a' = { tmps := #[.slice A l.length c, undef, .bool false, .int .i64 ((k : Int) + 1), u4, u5, u6, u7, u8, u9, u10, u11, u12, u13, u14, u15, u16, u17, u18, u19, u20], defers := [] } ∧ k ≤ l.length ∧ Hid (UpTo l (k + 1))) (fun a' _ => l.length + 1 - (intOf (a'.tmps.getD 3 undef)).toNat) rfl ?_ ?_
  · intro hh
    go_wp2
    go_step3
    rename_i hK
    exact hK _ _ (hh.out _ _ ⟨Grew.refl _, 0, _, _, _, _, _, _, _, _, _, _, _, _, _, _, _, _, _, rfl, by omega, UpTo.start l⟩)
  · rintro a' w' ⟨hq, k, u4, u5, u6, u7, u8, u9, u10, u11, u12, u13, u14, u15, u16, u17, u18, u19, u20, rfl, hk, H⟩
    by_cases hlt : k + 1 < l.length
    · have t1 : decide ((l.length : Int) ≤ (k : Int) + 1) = false := decide_eq_false (by omega)
      obtain ⟨g, o, _, ea, _, _, hc⟩ := (h.keep hq.q).at_ (by omega)
      cases ea
      obtain ⟨c1, c2, c3⟩ := hc k (by omega)
      obtain ⟨d1, d2, d3⟩ := hc (k + 1) hlt
      have En : Hid (¬ ltA l[k] l[k + 1] → ¬ Rise l) := Rise.not hlt
      have Ey : Hid (ltA l[k] l[k + 1] → UpTo l (k + 2)) := UpTo.step hlt H.out
      have HE := Lib.hid (fun w => compare_any l[k] l[k + 1] w)
      have hcm := cmpA_lt l[k] l[k + 1]
      clear hc h H
      generalize l[k] = x at *
      generalize l[k + 1] = y at *
      generalize cmpA x y = r at *
      have hgb := World.block_lt_of_cell? w' _ c1
      have lt2 : (k : Int) < (l.length : Int) := by omega
      have lt3 : (k : Int) + 1 < (l.length : Int) := by omega
      have nn2 : (0 : Int) ≤ (k : Int) := by omega
      have nn3 : (0 : Int) ≤ (k : Int) + 1 := by omega
      have wr2 : IntKind.i64.wrap (k : Int) = k := IntWalk.i64_in _ (by omega)
      have mixed : Tryz.prog.follows .mixedOrders = true := by kernel_rfl
      have b1 := cell_grown (a := ⟨g, o + k * 3, none⟩) hgb c1
      have b2 := cell_grown (a := ⟨g, o + k * 3 + 1, none⟩) hgb c2
      have b3 := cell_grown (a := ⟨g, o + k * 3 + 2, none⟩) hgb c3
      have e1 := cell_grown (a := ⟨g, o + (k + 1) * 3, none⟩) hgb d1
      have e2 := cell_grown (a := ⟨g, o + (k + 1) * 3 + 1, none⟩) hgb d2
      have e3 := cell_grown (a := ⟨g, o + (k + 1) * 3 + 2, none⟩) hgb d3
      by_cases hx : ltA x y
      · have t2 : decide (0 ≤ r) = false := decide_eq_false (by have := hcm.2 hx; omega)
        have E := Lib.hid (Ey.out hx)
        clear hx En Ey hcm
        go_wp2_with fail
        go_quiet_grown (first | (go_at_call 171; exact Grew.calls (HE.out _)))
        go_wp2
        go_step3
        exact ⟨rfl, ⟨hq.trans ⟨_, _, rfl⟩, k + 1, _, _, _, _, _, _, _, _, _, _, _, _, _, _, _, _, _, rfl, by omega, E⟩, by simp [intOf]; omega⟩
      · have t2 : decide (0 ≤ r) = true := decide_eq_true (by have := mt hcm.1 hx; omega)
        have E := Lib.hid (En.out hx)
        clear hx En Ey hcm
        go_wp2_with fail
        go_quiet_grown (first | (go_at_call 171; exact Grew.calls (HE.out _)))
        go_wp2
        simp only [Exit.jump]
        go_ret
        exact ⟨ret_bool (b_false E.out), hq.trans ⟨_, _, rfl⟩⟩
    · have t1 : decide ((l.length : Int) ≤ (k : Int) + 1) = true := decide_eq_true (by omega)
      have E := Lib.hid (H.out.rise (by omega))
      clear H
      go_wp2
      simp only [Exit.jump]
      go_ret
      exact ⟨ret_bool (b_true E.out), hq⟩

set_option maxRecDepth 100000 in
set_option maxHeartbeats 1000000 in
theorem masked_any (v : Value) (l : List Ace) (w : World) (h : AcesAt w v l) :
    Calls Tryz.prog 161 #[v] w fun e w' => e = .returned (.bool (lastM l)) ∧ w' = w := by
  have ll := h.len
  unfold maxLen at ll
  by_cases h0 : l.length = 0
  · obtain rfl := List.eq_nil_of_length_eq_zero h0
    obtain ⟨A, c, rfl⟩ := h.form
    go_enter Tryz.func161, Tryz.ntmps161
    go_wp2
    go_ret
    exact ⟨rfl, rfl⟩
  · obtain ⟨k, hk⟩ : ∃ k, l.length = k + 1 := ⟨l.length - 1, by omega⟩
    obtain ⟨g, o, cap, rfl, _, _, hc⟩ := h.at_ (by omega)
    obtain ⟨c1, c2, c3⟩ := hc k (by omega)
    have E := Lib.hid (show lastM l = ((l[k]'(by omega)).1 == 3) by unfold lastM; rw [last_at hk])
    generalize l[k]'(by omega) = x at *
    rw [hk]
    rw [hk] at ll
    clear hc h hk h0
    have t0 : ((k : Int) + 1 == 0) = false := beq_eq_false_iff_ne.2 (by omega)
    have wr2 : IntKind.i64.wrap (k : Int) = k := IntWalk.i64_in _ (by omega)
    have lt2 : (k : Int) < (k : Int) + 1 := by omega
    go_enter Tryz.func161, Tryz.ntmps161
    go_wp2
    go_ret
    exact ⟨ret_bool E.out.symm, rfl⟩

set_option maxRecDepth 100000 in
set_option maxHeartbeats 1000000 in
theorem may_any (v : Value) (l : List Ace) (w : World) (h : AcesAt w v l) :
    Calls Tryz.prog 133 #[v] w fun e w' => e = .returned (.bool (mayB l)) ∧ Grew w w' := by
  have ll := h.len
  unfold maxLen at ll
  obtain ⟨A, c, rfl⟩ := h.form
  by_cases h0 : l.length ≤ 16
  · have t0 : decide ((l.length : Int) ≤ 16) = true := decide_eq_true (by omega)
    have HE := Lib.hid (fun w (h : AcesAt w (.slice A l.length c) l) => entries_any _ l w h)
    by_cases h1 : AllOk l
    · rw [decide_eq_true h1] at HE
      have HR := Lib.hid (fun w (h : AcesAt w (.slice A l.length c) l) => rising_any _ l w h)
      by_cases h2 : Rise l
      · rw [decide_eq_true h2] at HR
        have HM := Lib.hid (fun w (h : AcesAt w (.slice A l.length c) l) => masked_any _ l w h)
        have E := Lib.hid (show lastM l = mayB l by
          have := lastM_eq h1 h2
          unfold mayB
          rw [Bool.eq_iff_iff, decide_eq_true_eq]
          constructor
          · exact fun e => ⟨h0, h1, h2, by rw [this, e]; rfl⟩
          · exact fun e => by have e := e.2.2.2; rw [this] at e; simpa using e)
        clear h0 h1 h2
        go_enter Tryz.func133, Tryz.ntmps133
        go_wp2_with fail
        refine (HE.out _ h).mono ?_
        rintro e w1 ⟨rfl, q1⟩
        replace h := h.keep q1.q
        go_wp2_with fail
        refine (HR.out _ h).mono ?_
        rintro e w2 ⟨rfl, q2⟩
        replace h := h.keep q2.q
        go_wp2_with fail
        refine (HM.out _ h).mono ?_
        rintro e w3 ⟨rfl, rfl⟩
        generalize lastM l = b at *
        go_wp2
        all_goals
          go_ret
          exact ⟨ret_bool E.out, q1.trans q2⟩
      · rw [decide_eq_false h2] at HR
        have E := Lib.hid (show mayB l = false from decide_eq_false fun h => h2 h.2.2.1)
        clear h0 h1 h2
        go_enter Tryz.func133, Tryz.ntmps133
        go_wp2_with fail
        refine (HE.out _ h).mono ?_
        rintro e w1 ⟨rfl, q1⟩
        replace h := h.keep q1.q
        go_wp2_with fail
        refine (HR.out _ h).mono ?_
        rintro e w2 ⟨rfl, q2⟩
        go_wp2
        go_ret
        exact ⟨ret_bool E.out.symm, q1.trans q2⟩
    · rw [decide_eq_false h1] at HE
      have E := Lib.hid (show mayB l = false from decide_eq_false fun h => h1 h.2.1)
      clear h0 h1
      go_enter Tryz.func133, Tryz.ntmps133
      go_wp2_with fail
      refine (HE.out _ h).mono ?_
      rintro e w1 ⟨rfl, q1⟩
      go_wp2
      go_ret
      exact ⟨ret_bool E.out.symm, q1⟩
  · have t0 : decide ((l.length : Int) ≤ 16) = false := decide_eq_false (by omega)
    have E := Lib.hid (show mayB l = false from decide_eq_false fun h => h0 h.1)
    clear h0
    go_enter Tryz.func133, Tryz.ntmps133
    go_wp2
    go_ret
    exact ⟨ret_bool E.out.symm, Grew.refl _⟩
end Go.Proofs.YtgbenepapajieaaGreat
namespace Go.Proofs.YtgbenepapajieaaGreat
open Go.RowKit

/-- Behind operation i too. -/
def upon (c : Nat → Bool) (i : Nat) : Nat → Bool := fun j => c j || j == i
def Dag (md : Region.Mode) (ops : Array Oper) : Bool := (List.range ops.size).all fun i => match ops[i]? with | some o => o.after.all fun e => !Region.binds md e || decide (e.on < i) | none => true
theorem Dag.spec {md : Region.Mode} {ops : Array Oper} (h : Dag md ops = true) {i : Nat} {o : Oper} (ho : ops[i]? = some o) : ∀ e ∈ o.after, Region.binds md e = true → e.on < i := by
  intro e he hb
  have hi : i < ops.size := (Array.getElem?_eq_some_iff.1 ho).1
  have h1 := List.all_eq_true.1 h i (List.mem_range.2 hi)
  simp only [ho] at h1
  have h2 := Array.all_eq_true_iff_forall_mem.1 h1 e he
  rw [hb] at h2
  simpa using h2
def Left (n : Nat) (c : Nat → Bool) : Nat := ((List.range n).filter fun j => !c j).length
theorem Left.lt {n : Nat} {c : Nat → Bool} {i : Nat} (hi : i < n) (hc : c i = false) : Left n (upon c i) < Left n c := by
  have e : ((List.range n).filter fun j => !upon c i j) = ((List.range n).filter fun j => !c j).filter fun j => !(j == i) := by
    rw [List.filter_filter]
    congr 1
    funext j
    unfold upon
    cases c j <;> cases j == i <;> rfl
  unfold Left
  rw [e]
  refine List.length_filter_lt_length_iff_exists.2 ⟨i, ?_, by simp⟩
  rw [List.mem_filter]
  exact ⟨List.mem_range.2 hi, by rw [hc]; rfl⟩

theorem wpAny_inv {P : Program} {md : Region.Mode} {ops : Array Oper} {Q0 : Exit → Act → World → Prop} (Inv : (Nat → Bool) → Act → World → Prop) (hdag : Dag md ops = true)
    (hstep : ∀ (c : Nat → Bool) (a : Act) (w : World) (i : Nat) (o : Oper), Inv c a w → ops[i]? = some o → c i = false → (∀ e ∈ o.after, Region.binds md e = true → c e.on = true) → wpOp P ops Q0 i (Inv (upon c i)) a w)
    (hfin : ∀ (c : Nat → Bool) (a : Act) (w : World), Inv c a w → (∀ i, i < ops.size → c i = true) → Q0 .normal a w) :
    ∀ (n : Nat) (listed : Array Bool) (a : Act) (w : World), listed.size = ops.size → Left ops.size (fun j => listed.getD j false) ≤ n → Inv (fun j => listed.getD j false) a w → wpAny P md ops Q0 n listed a w := by
  have bothD : ∀ (listed : Array Bool) (i : Nat), i < listed.size → (listed.getD i true = false ↔ listed.getD i false = false) := by
    intro listed i hi
    simp [hi]
  have hend : ∀ (listed : Array Bool) (a : Act) (w : World), listed.size = ops.size → Inv (fun j => listed.getD j false) a w → Region.ready md ops listed = [] → Q0 .normal a w := by
    intro listed a w hs hI hr
    refine hfin _ a w hI ?_
    intro i
    induction i using Nat.strongRecOn with
    | _ i ih =>
      intro hi
      cases hc : listed.getD i false with
      | true => rfl
      | false =>
        exfalso
        have ho : ops[i]? = some ops[i] := Array.getElem?_eq_getElem hi
        have : i ∈ Region.ready md ops listed := mem_ready.2 ⟨(bothD listed i (by omega)).2 hc, _, ho, fun e he hb => ih e.on (Dag.spec hdag ho e he hb) (by have := Dag.spec hdag ho e he hb; omega)⟩
        rw [hr] at this
        cases this
  intro n
  induction n with
  | zero =>
    intro listed a w hs hn hI
    have hr : Region.ready md ops listed = [] := by
      rw [List.eq_nil_iff_forall_not_mem]
      intro i hi
      obtain ⟨h0, o, ho, _⟩ := mem_ready.1 hi
      have hin : i < ops.size := (Array.getElem?_eq_some_iff.1 ho).1
      have := Left.lt (c := fun j => listed.getD j false) hin ((bothD listed i (by omega)).1 h0)
      omega
    exact ⟨hr, hend listed a w hs hI hr⟩
  | succ n ih =>
    intro listed a w hs hn hI
    refine ⟨fun hr => hend listed a w hs hI hr, fun i hi => ?_⟩
    obtain ⟨h0, o, ho, hd⟩ := mem_ready.1 hi
    have hin : i < ops.size := (Array.getElem?_eq_some_iff.1 ho).1
    have hc := (bothD listed i (by omega)).1 h0
    have e : (fun j => (listed.setIfInBounds i true).getD j false) = upon (fun j => listed.getD j false) i := by
      funext j
      unfold upon
      by_cases hji : j = i
      · subst hji
        simp [hs, hin]
      · rw [getD_set_ne false (Ne.symm hji)]
        simp [hji]
    refine wpOp_mono (fun a' w' hI' => ih _ a' w' (by simp [hs]) ?_ (by rw [e]; exact hI')) (hstep _ a w i o hI ho hc hd)
    rw [e]
    have := Left.lt (c := fun j => listed.getD j false) hin hc
    omega
/-- The region as a whole. -/
theorem wp_region_inv {P : Program} {id : Nat} {ops : Array Oper} {Q0 : Exit → Act → World → Prop} {a : Act} {w : World} (Inv : (Nat → Bool) → Act → World → Prop) (hm : P.follows .mixedOrders = true) (hdag : Dag .any ops = true)
    (h0 : Inv (fun _ => false) a w.drew)
    (hstep : ∀ (c : Nat → Bool) (a : Act) (w : World) (i : Nat) (o : Oper), Inv c a w → ops[i]? = some o → c i = false → (∀ e ∈ o.after, Region.binds .any e = true → c e.on = true) → wpOp P ops Q0 i (Inv (upon c i)) a w)
    (hfin : ∀ (c : Nat → Bool) (a : Act) (w : World), Inv c a w → (∀ i, i < ops.size → c i = true) → Q0 .normal a w) : (Code.region id ops true).wp P Q0 a w := by
  refine wp_region_any hm (wpAny_inv Inv hdag hstep hfin ops.size _ a w.drew (by simp) ?_ ?_)
  · exact Nat.le_trans (List.length_filter_le _ _) (by simp)
  · have e : (fun j => (Array.replicate ops.size false).getD j false) = fun _ => false := by
      funext j
      by_cases hj : j < ops.size
      · simp [hj]
      · simp [hj]
    rw [e]
    exact h0
end Go.Proofs.YtgbenepapajieaaGreat
namespace Go.Proofs.YtgbenepapajieaaGreat
open Go.RowKit

theorem noM_step {l : List Ace} {k : Nat} (hk : k < l.length) (h : ¬ HasM (l.take k)) (h1 : ¬ l[k].1 = 3) : ¬ HasM (l.take (k + 1)) := by
  rintro ⟨x, hx, h3⟩
  rw [List.take_succ_eq_append_getElem hk] at hx
  rcases List.mem_append.1 hx with hx | hx
  · exact h ⟨x, hx, h3⟩
  · rw [List.mem_singleton.1 hx] at h3
    exact h1 h3
theorem needs_no {l : List Ace} {k : Nat} (hk : k < l.length) (h1 : l[k].1 = 3) : needsB l = false :=
  decide_eq_false fun h => h.2 ⟨_, List.getElem_mem hk, h1⟩
theorem needs_end {l : List Ace} {k : Nat} (hk : l.length ≤ k) (h : ¬ HasM (l.take k)) : needsB l = decide ((0 : Int) < (l.length : Int)) := by
  rw [List.take_of_length_le hk] at h
  unfold needsB
  rw [decide_eq_decide]
  constructor
  · intro e
    have := List.length_pos_iff.2 e.1
    omega
  · exact fun e => ⟨List.length_pos_iff.1 (by omega), h⟩

set_option maxRecDepth 100000 in
set_option maxHeartbeats 1000000 in
theorem needs_any (v : Value) (l : List Ace) (w : World) (h : AcesAt w v l) :
    Calls Tryz.prog 136 #[v] w fun e w' => e = .returned (.bool (needsB l)) ∧ w' = w := by
  have ll := h.len
  obtain ⟨A, c, rfl⟩ := h.form
  unfold maxLen at ll
  go_enter Tryz.func136, Tryz.ntmps136
  go_wp2
  go_loopw [3] (fun i wr => ∃ k : Nat, i = .int .i64 k ∧ k ≤ l.length ∧ wr = w ∧ Hid (¬ HasM (l.take k))) (fun i _ => l.length - (intOf i).toNat)
  case atStart => exact ⟨0, rfl, by omega, rfl, by rintro ⟨x, hx, _⟩; cases hx⟩
  case round =>
    obtain ⟨k, rfl, hk, rfl, H⟩ := hrel
    by_cases hlt : k < l.length
    · obtain ⟨g, o, _, ea, _, _, hc⟩ := h.at_ (by omega)
      cases ea
      obtain ⟨c1, c2, c3⟩ := hc k hlt
      have En : Hid (l[k].1 = 3 → needsB l = false) := needs_no hlt
      have Ey : Hid (¬ l[k].1 = 3 → ¬ HasM (l.take (k + 1))) := noM_step hlt H.out
      clear hc h H
      generalize l[k] = x at *
      by_cases h3 : x.1 = 3
      · have t1 : (x.1 == 3) = true := beq_iff_eq.2 h3
        have E := Lib.hid (En.out h3)
        clear h3 En Ey
        go_wp2
        go_ret
        exact ⟨ret_bool E.out.symm, rfl⟩
      · have t1 : (x.1 == 3) = false := beq_eq_false_iff_ne.2 h3
        have E := Lib.hid (Ey.out h3)
        clear h3 En Ey
        go_wp2
        go_roundw
        case rel => exact ⟨k + 1, by go_num, by omega, trivial, E⟩
        case measure => simp [intOf]; omega
    · have E := Lib.hid (needs_end (by omega) H.out)
      clear H
      go_wp2
      all_goals
        go_ret
        exact ⟨ret_bool (by rw [E.out]; first | exact b_true (by omega) | exact b_false (by omega) | exact b_iff (by omega)), rfl⟩

theorem may_no_ok {l : List Ace} {k : Nat} (hk : k < l.length) (h1 : ¬ OkA l[k]) : mayB l = false := decide_eq_false fun h => allOk_not hk h1 h.2.1
theorem may_no_lt {l : List Ace} {k : Nat} (hk : k + 1 < l.length) (h1 : ¬ ltA l[k] l[k + 1]) : mayB l = false := decide_eq_false fun h => Rise.not hk h1 h.2.2.1
theorem may_end {l : List Ace} {k : Nat} (hk : l.length ≤ k) (h : AllOk (l.take k)) (h1 : UpTo l k) : mayB l = (decide ((l.length : Int) ≤ 16) && !needsB l) := by
  have a := allOk_end hk h
  have b := h1.rise hk
  unfold mayB
  rw [Bool.eq_iff_iff]
  simp only [decide_eq_true_eq, Bool.and_eq_true, Bool.not_eq_true']
  constructor
  · exact fun e => ⟨by omega, e.2.2.2⟩
  · exact fun e => ⟨by omega, a, b, e.2⟩

set_option maxRecDepth 100000 in
set_option maxHeartbeats 2000000 in
theorem mayRef_any (v : Value) (l : List Ace) (w : World) (h : AcesAt w v l) :
    Calls Tryz.prog 97 #[v] w fun e w' => e = .returned (.bool (mayB l)) ∧ Grew w w' := by
  have ll := h.len
  obtain ⟨A, c, rfl⟩ := h.form
  unfold maxLen at ll
  have mixed : Tryz.prog.follows .mixedOrders = true := by kernel_rfl
  go_enter Tryz.func97, Tryz.ntmps97
  go_wp2
  go_loopw [3] (fun i wr => ∃ k : Nat, i = .int .i64 k ∧ k ≤ l.length ∧ Grew w wr ∧ Hid (AllOk (l.take k)) ∧ Hid (UpTo l k)) (fun i _ => l.length - (intOf i).toNat)
  case atStart => exact ⟨0, rfl, by omega, Grew.refl _, (fun x hx => by cases hx), UpTo.zero l⟩
  case round =>
    obtain ⟨k, rfl, hk, hq, H, U⟩ := hrel
    by_cases hlt : k < l.length
    · obtain ⟨g, o, _, ea, _, _, hc⟩ := (h.keep hq.q).at_ (by omega)
      cases ea
      obtain ⟨c1, c2, c3⟩ := hc k hlt
      have hgb := World.block_lt_of_cell? wr _ c1
      have lt2 : (k : Int) < (l.length : Int) := by omega
      have b1 := cell_grown (a := ⟨g, o + k * 3, none⟩) hgb c1
      have b2 := cell_grown (a := ⟨g, o + k * 3 + 1, none⟩) hgb c2
      have b3 := cell_grown (a := ⟨g, o + k * 3 + 2, none⟩) hgb c3
      have En : Hid (¬ OkA l[k] → mayB l = false) := may_no_ok hlt
      have Ey : Hid (OkA l[k] → AllOk (l.take (k + 1))) := allOk_step hlt H.out
      have HE := Lib.hid (fun w => ace_any l[k] w)
      by_cases hx : OkA l[k]
      · rw [decide_eq_true hx] at HE
        have E := Lib.hid (Ey.out hx)
        clear hx En Ey H
        by_cases h0 : k = 0
        · subst h0
          have U1 : Hid (UpTo l 1) := UpTo.start l
          clear hc h U
          generalize l[0] = x at *
          replace b1 : ∀ n os, (Go.Sort.grow (wr.drewN n) os).cell? ⟨g, o, none⟩ = some (.int .i64 x.1) := by simpa using b1
          replace b2 : ∀ n os, (Go.Sort.grow (wr.drewN n) os).cell? ⟨g, o + 1, none⟩ = some (.int .i64 x.2.1) := by simpa using b2
          replace b3 : ∀ n os, (Go.Sort.grow (wr.drewN n) os).cell? ⟨g, o + 2, none⟩ = some (.int .i64 x.2.2) := by simpa using b3
          have lt2 : (0 : Int) < (l.length : Int) := by omega
          go_wp2_with fail
          (refine wp_region_quiet_grown (by assumption) (by kernel_rfl) ?_; (repeat (go_big_quiet_step (first | (go_at_call 134; exact Grew.calls (HE.out _))))); refine wpQuiet_nil ?_; intro _ hw'; obtain ⟨⟨nq, osq⟩, hw2⟩ := hw'; subst hw2)
          go_wp2
          go_roundw
          case rel => exact ⟨0 + 1, by go_num, by omega, hq.trans ⟨_, _, rfl⟩, E, U1⟩
          case measure => simp [intOf]; omega
        · obtain ⟨j, rfl⟩ : ∃ j, k = j + 1 := ⟨k - 1, by omega⟩
          obtain ⟨d1, d2, d3⟩ := hc j (by omega)
          have e1 := cell_grown (a := ⟨g, o + j * 3, none⟩) hgb d1
          have e2 := cell_grown (a := ⟨g, o + j * 3 + 1, none⟩) hgb d2
          have e3 := cell_grown (a := ⟨g, o + j * 3 + 2, none⟩) hgb d3
          have En : Hid (¬ ltA l[j] l[j + 1] → mayB l = false) := may_no_lt hlt
          have Ey : Hid (ltA l[j] l[j + 1] → UpTo l (j + 2)) := UpTo.step hlt U.out
          have HL := Lib.hid (fun w => less_any l[j] l[j + 1] w)
          clear hc h U
          generalize l[j + 1] = x at *
          generalize l[j] = y at *
          have wr2 : IntKind.i64.wrap (j : Int) = j := IntWalk.i64_in _ (by omega)
          have nn2 : (0 : Int) ≤ (j : Int) := by omega
          have nn3 : (0 : Int) ≤ (j : Int) + 1 := by omega
          have t3 : decide ((0 : Int) < (j : Int) + 1) = true := decide_eq_true (by omega)
          have lt3 : (j : Int) < (l.length : Int) := by omega
          rw [show ((j + 1 : Nat) : Int) = (j : Int) + 1 from rfl] at *
          by_cases hx : ltA y x
          · rw [decide_eq_true hx] at HL
            have U1 := Lib.hid (Ey.out hx)
            clear hx En Ey
            go_wp2_with fail
            (refine wp_region_quiet_grown (by assumption) (by kernel_rfl) ?_; (repeat (go_big_quiet_step (first | (go_at_call 134; exact Grew.calls (HE.out _)) | (go_at_call 135; exact Grew.calls (HL.out _))))); refine wpQuiet_nil ?_; intro _ hw'; obtain ⟨⟨nq, osq⟩, hw2⟩ := hw'; subst hw2)
            go_wp2
            go_roundw
            case rel => exact ⟨j + 1 + 1, by go_num, by omega, hq.trans ⟨_, _, rfl⟩, E, U1⟩
            case measure => simp [intOf]; omega
          · rw [decide_eq_false hx] at HL
            have U1 := Lib.hid (En.out hx)
            clear hx En Ey
            go_wp2_with fail
            (refine wp_region_quiet_grown (by assumption) (by kernel_rfl) ?_; (repeat (go_big_quiet_step (first | (go_at_call 134; exact Grew.calls (HE.out _)) | (go_at_call 135; exact Grew.calls (HL.out _))))); refine wpQuiet_nil ?_; intro _ hw'; obtain ⟨⟨nq, osq⟩, hw2⟩ := hw'; subst hw2)
            go_wp2
            go_ret
            exact ⟨ret_bool U1.out.symm, hq.trans ⟨_, _, rfl⟩⟩
      · rw [decide_eq_false hx] at HE
        have E := Lib.hid (En.out hx)
        clear hx En Ey H U hc h
        generalize l[k] = x at *
        go_wp2_with fail
        (refine wp_region_quiet_grown (by assumption) (by kernel_rfl) ?_; (repeat (go_big_quiet_step (first | (go_at_call 134; exact Grew.calls (HE.out _))))); refine wpQuiet_nil ?_; intro _ hw'; obtain ⟨⟨nq, osq⟩, hw2⟩ := hw'; subst hw2)
        go_wp2
        go_ret
        exact ⟨ret_bool E.out.symm, hq.trans ⟨_, _, rfl⟩⟩
    · have E := Lib.hid (may_end (by omega) H.out U.out)
      have HN := Lib.hid (needs_any _ l wr (h.keep hq.q))
      generalize needsB l = n at *
      clear H U h
      by_cases h16 : l.length ≤ 16
      · have t1 : decide ((l.length : Int) ≤ 16) = true := decide_eq_true (by omega)
        rw [t1] at E
        clear h16
        go_wp2_with fail
        refine HN.out.mono ?_
        rintro e w1 ⟨rfl, rfl⟩
        go_wp2
        all_goals
          go_ret
          exact ⟨ret_bool (by have := E.out; simp_all), hq⟩
      · have t1 : decide ((l.length : Int) ≤ 16) = false := decide_eq_false (by omega)
        rw [t1] at E
        clear h16
        go_wp2_with fail
        go_ret
        exact ⟨ret_bool (by have := E.out; simp_all), hq⟩
end Go.Proofs.YtgbenepapajieaaGreat
namespace Go.Proofs.YtgbenepapajieaaGreat
open Go.RowKit

/-- How a struct lies in memory: so many cells. -/
structure Flat {α : Type} (cs : α → List Value) (k : Nat) : Prop where
  len : ∀ x, (cs x).length = k
  one : ∀ x, ∀ u ∈ cs x, u.oneCell' = true
  pos : 0 < k
def flatR {α : Type} (cs : α → List Value) (l : List α) : List Value := l.flatMap cs
section
variable {α : Type} {cs : α → List Value} {k : Nat}
theorem flatR_len (F : Flat cs k) (l : List α) : (flatR cs l).length = l.length * k := by
  induction l with
  | nil => simp [flatR]
  | cons x r ih => rw [flatR, List.flatMap_cons, List.length_append, ← flatR, ih, F.len, List.length_cons, Nat.succ_mul]; omega
theorem flatR_add (l m : List α) : flatR cs (l ++ m) = flatR cs l ++ flatR cs m := List.flatMap_append
theorem flatR_at (F : Flat cs k) : ∀ (l : List α) (i c : Nat) (hi : i < l.length), c < k → (flatR cs l)[i * k + c]? = (cs l[i])[c]?
  | x :: r, 0, c, _, hc => by
    rw [flatR, List.flatMap_cons, List.getElem?_append_left (by rw [F.len]; omega)]
    simp
  | x :: r, i + 1, c, hi, hc => by
    have e : (i + 1) * k + c = k + (i * k + c) := by rw [Nat.succ_mul]; omega
    rw [flatR, List.flatMap_cons, List.getElem?_append_right (by rw [F.len]; omega)]
    have := flatR_at F r i c (by simpa using hi) hc
    rw [flatR] at this
    rw [show (i + 1) * k + c - (cs x).length = i * k + c by rw [F.len]; omega, this]
    rfl
theorem flatR_one (F : Flat cs k) (l : List α) : ∀ u ∈ flatR cs l, u.oneCell' = true := by
  intro u hu
  obtain ⟨x, _, hx⟩ := List.mem_flatMap.1 hu
  exact F.one x u hx

/-- A slice value that reads as these. -/
def RowAt (cs : α → List Value) (k : Nat) (w : World) (v : Value) (l : List α) : Prop :=
  (l = [] ∧ ∃ a cap, v = .slice a 0 cap ∧ (a = none → cap = 0)) ∨
  ∃ g o cap, v = .slice (some ⟨g, o, none⟩) l.length cap ∧ l.length ≤ cap ∧ cap ≤ maxLen ∧ ∀ i (h : i < l.length) c u, (cs l[i])[c]? = some u → w.cell? ⟨g, o + i * k + c, none⟩ = some u
theorem RowAt.nil_ (w : World) : RowAt cs k w (.slice none 0 0) [] := .inl ⟨rfl, _, _, rfl, fun _ => rfl⟩
theorem RowAt.form {w : World} {v : Value} {l : List α} (h : RowAt cs k w v l) : ∃ A c, v = .slice A l.length c := by
  rcases h with ⟨rfl, a, c, rfl, _⟩ | ⟨g, o, cap, rfl, _⟩
  · exact ⟨_, _, rfl⟩
  · exact ⟨_, _, rfl⟩
theorem RowAt.len {w : World} {v : Value} {l : List α} (h : RowAt cs k w v l) : l.length ≤ maxLen := by
  rcases h with ⟨rfl, a, c, rfl, _⟩ | ⟨g, o, cap, rfl, h1, h2, _⟩
  · simp
  · omega
theorem RowAt.at_ {w : World} {v : Value} {l : List α} (h : RowAt cs k w v l) (hn : 0 < l.length) : ∃ g o cap, v = .slice (some ⟨g, o, none⟩) l.length cap ∧ l.length ≤ cap ∧ cap ≤ maxLen ∧ ∀ i (h : i < l.length) c u, (cs l[i])[c]? = some u → w.cell? ⟨g, o + i * k + c, none⟩ = some u := by
  rcases h with ⟨rfl, a, c, rfl, _⟩ | h
  · simp at hn
  · exact h
theorem RowAt.keep {w w' : World} {v : Value} {l : List α} (h : RowAt cs k w v l) (q : Q w w') : RowAt cs k w' v l := by
  rcases h with h | ⟨g, o, cap, e, h1, h2, h3⟩
  · exact .inl h
  · exact .inr ⟨g, o, cap, e, h1, h2, fun i hi c u hu => q.cell (h3 i hi c u hu)⟩

/-- A row of the call's own. -/
def OwnR (E : TypeId) (cs : α → List Value) (k : Nat) (w : World) (B : Nat) (v : Value) (l : List α) : Prop := w.ownsRow B E k v l.length (flatR cs l)
theorem OwnR.row {E : TypeId} (F : Flat cs k) {w : World} {B : Nat} {v : Value} {l : List α} (h : OwnR E cs k w B v l) : RowAt cs k w v l := by
  rcases h.2 with ⟨rfl, hn⟩ | ⟨g, cap, cur, rfl, hb, hg, h1, h2, h3, h4⟩
  · exact .inl ⟨List.eq_nil_of_length_eq_zero hn, _, _, rfl, fun _ => rfl⟩
  · refine .inr ⟨g, 0, cap, rfl, h1, h2, fun i hi c u hu => ?_⟩
    have hc : c < k := by
      rcases Nat.lt_or_ge c k with h | h
      · exact h
      · rw [List.getElem?_eq_none (by rw [F.len]; exact h)] at hu; cases hu
    have := h.cells (g := g) rfl (i * k + c) u (by rw [flatR_at F l i c hi hc]; exact hu)
    rw [Addr.add_lit] at this
    rw [Nat.add_assoc]
    exact this
theorem OwnR.nil_ (E : TypeId) (w : World) (B : Nat) : OwnR E cs k w B (.slice none 0 0) [] := ⟨by simp [flatR], .inl ⟨rfl, rfl⟩⟩
theorem OwnR.form {E : TypeId} (F : Flat cs k) {w : World} {B : Nat} {v : Value} {l : List α} (h : OwnR E cs k w B v l) : ∃ A c, v = .slice A l.length c := (h.row F).form
theorem OwnR.mono {E : TypeId} {w : World} {B B' : Nat} {v : Value} {l : List α} (h : OwnR E cs k w B v l) (hB : B' ≤ B) : OwnR E cs k w B' v l := World.ownsRow.mono h hB
theorem OwnR.lt {E : TypeId} {w : World} {B : Nat} {v : Value} {l : List α} (h : OwnR E cs k w B v l) (g : Nat) (hg : v.ownBlock = some g) : B ≤ g ∧ g < w.heap.size := World.ownsRow.lt h g hg
theorem OwnR.grew {E : TypeId} {w w' : World} {B : Nat} {v : Value} {l : List α} (h : OwnR E cs k w B v l) (g : Grew w w') : OwnR E cs k w' B v l := by
  obtain ⟨p, os, rfl⟩ := g
  obtain ⟨hl, h0 | ⟨g, cap, cur, hv, hb, hh, r⟩⟩ := h
  · exact ⟨hl, .inl h0⟩
  · have hg : g < w.heap.size := by
      rcases Nat.lt_or_ge g w.heap.size with h1 | h1
      · exact h1
      · rw [Array.getElem?_eq_none h1] at hh
        cases hh
    exact ⟨hl, .inr ⟨g, cap, cur, hv, hb, by show (w.heap ++ os)[g]? = _; rw [Array.getElem?_append_left hg]; exact hh, r⟩⟩
/-- .. below which all is as it was. -/
theorem OwnR.keep {E : TypeId} {w w' : World} {B : Nat} {v : Value} {l : List α} (h : OwnR E cs k w B v l) (q : Q w w') : OwnR E cs k w' B v l := by
  obtain ⟨hl, h0 | ⟨g, cap, cur, hv, hb, hh, r⟩⟩ := h
  · exact ⟨hl, .inl h0⟩
  · have hg : g < w.heap.size := by
      rcases Nat.lt_or_ge g w.heap.size with h1 | h1
      · exact h1
      · rw [Array.getElem?_eq_none h1] at hh
        cases hh
    exact ⟨hl, .inr ⟨g, cap, cur, hv, hb, (q.block g hg).trans hh, r⟩⟩
/-- An empty row that is not nil. -/
theorem own_empty (E : TypeId) (w : World) (B : Nat) (hB : B ≤ w.heap.size) : OwnR E cs k (w.alloc (.cells #[] E)) B (.slice (some ⟨w.heap.size, 0, none⟩) 0 0) [] :=
  ⟨by simp [flatR], .inr ⟨w.heap.size, 0, #[], rfl, hB, by show (w.heap.push _)[w.heap.size]? = _; simp, Nat.le_refl _, by unfold maxLen; omega, by simp, by simp [flatR]⟩⟩
theorem own_one (F : Flat cs k) (E : TypeId) (w : World) (B : Nat) (hB : B ≤ w.heap.size) (x : α) : OwnR E cs k (w.alloc (.cells (cs x).toArray E)) B (.slice (some ⟨w.heap.size, 0, none⟩) 1 1) [x] :=
  ⟨by rw [flatR_len F], .inr ⟨w.heap.size, 1, (cs x).toArray, rfl, hB, by show (w.heap.push _)[w.heap.size]? = _; simp, Nat.le_refl _, by unfold maxLen; omega, by simp [F.len], by simp [flatR, F.len, List.take_of_length_le]⟩⟩

theorem row_take {w : World} {g o n cap : Nat} {l : List α} {j : Nat} (h : RowAt cs k w (.slice (some ⟨g, o, none⟩) n cap) l) (hk : j ≤ l.length) (hc : j ≤ cap) : RowAt cs k w (.slice (some ⟨g, o, none⟩) j cap) (l.take j) := by
  rcases h with ⟨rfl, a, c, e, _⟩ | ⟨g', o', cap', e, h1, h2, h3⟩
  · exact .inl ⟨by simp, _, _, by rw [show j = 0 by simpa using hk], fun e => by cases e⟩
  · cases e
    refine .inr ⟨g, o, cap, by rw [List.length_take, Nat.min_eq_left hk], by rw [List.length_take]; omega, h2, fun i hi => ?_⟩
    have hi' : i < l.length := by rw [List.length_take] at hi; omega
    rw [List.getElem_take]
    exact h3 i hi'
theorem row_drop {w : World} {g o n cap : Nat} {l : List α} {j : Nat} (h : RowAt cs k w (.slice (some ⟨g, o, none⟩) n cap) l) (hn : n = l.length) (hk : j ≤ l.length) (o' cap' : Nat) (ho : j < l.length → o' = o + j * k) (hc : l.length - j ≤ cap') (hc' : cap' ≤ maxLen) : RowAt cs k w (.slice (some ⟨g, o', none⟩) (n - j) cap') (l.drop j) := by
  by_cases e : j = l.length
  · exact .inl ⟨by rw [e]; simp, _, _, by rw [hn, e, Nat.sub_self], fun e => by cases e⟩
  · have hlt : j < l.length := by omega
    obtain rfl := ho hlt
    obtain ⟨g', o', cap2, e, h1, h2, h3⟩ := h.at_ (by omega)
    cases e
    refine .inr ⟨g, o + j * k, cap', by rw [List.length_drop], by rw [List.length_drop]; omega, hc', fun i hi => ?_⟩
    rw [List.length_drop] at hi
    rw [List.getElem_drop, show o + j * k + i * k = o + (j + i) * k by rw [Nat.add_mul]; omega]
    exact h3 (j + i) (by omega)
theorem row_cells (F : Flat cs k) {w : World} {g o : Nat} {l : List α} (hc : ∀ i (h : i < l.length) c u, (cs l[i])[c]? = some u → w.cell? ⟨g, o + i * k + c, none⟩ = some u) :
    ∀ j u, (flatR cs l)[j]? = some u → w.cell? ((⟨g, o, none⟩ : Addr).add j) = some u := by
  intro j u hu
  have hk := F.pos
  have hj : j < l.length * k := by
    rw [← flatR_len F]
    rcases Nat.lt_or_ge j (flatR cs l).length with h | h
    · exact h
    · rw [List.getElem?_eq_none h] at hu; cases hu
  have hi : j / k < l.length := (Nat.div_lt_iff_lt_mul hk).2 hj
  have hjd : j / k * k + j % k = j := by rw [Nat.mul_comm]; exact Nat.div_add_mod j k
  rw [← hjd, flatR_at F l (j / k) (j % k) hi (Nat.mod_lt _ hk)] at hu
  rw [Addr.add_lit]
  have := hc (j / k) hi _ u hu
  rw [Nat.add_assoc, hjd] at this
  exact this

/-- append of a slice that reads as these to an own row. -/
theorem run_append_row {P : Program} {S E : TypeId} {i0 : TypeInfo} {z : Value} {bytes : Nat} (F : Flat cs k) (hS : P.underlying S = some (.slice E)) (hi0 : P.info? E = some i0) (hz0 : i0.zero = some z) (hz1 : i0.size = k) (hz2 : i0.bytes = bytes) (hzs : z.cells.size = k) (hby : bytes ≤ 1000000)
    {w : World} (ty : TypeId) (B : Nat) (v : Value) (l : List α) (hown : OwnR E cs k w B v l) (vx : Value) (m : List α) (he : RowAt cs k w vx m) (hnl : l.length + m.length ≤ 100000) (hbase : B ≤ w.heap.size) :
    ∃ v' w', (Builtin.append_ #[S, S] ty #[v, vx]).run P w = .ok v' w' ∧ OwnR E cs k w' B v' (l ++ m) ∧ w.grownBy w' v.ownBlock ∧ (v' = .slice none 0 0 → l ++ m = []) := by
  have he' : m = [] ∧ vx = .slice none 0 0 ∨ ∃ A cap, vx = .slice (some A) m.length cap ∧ ∀ j u, (flatR cs m)[j]? = some u → w.cell? (A.add j) = some u := by
    rcases he with ⟨rfl, a, c, rfl, ha⟩ | ⟨g, o, cap, rfl, h1, h2, h3⟩
    · cases a with
      | none => rw [ha rfl]; exact .inl ⟨rfl, rfl⟩
      | some A => exact .inr ⟨A, c, rfl, fun j u hu => by simp [flatR] at hu⟩
    · exact .inr ⟨_, cap, rfl, row_cells F h3⟩
  rcases he' with ⟨rfl, rfl⟩ | ⟨A, cap, rfl, h3⟩
  · have hr := run_append_owned_none (P := P) w B S ty E i0 k hS hi0 v l.length (flatR cs l) hown
    refine ⟨v, w, hr, by rw [List.append_nil]; exact hown, ⟨rfl, rfl, rfl, Nat.le_refl _, fun _ _ _ => rfl⟩, ?_⟩
    rintro rfl
    rcases hown.2 with ⟨_, h⟩ | ⟨g, cap, cur, e, _⟩
    · rw [List.append_nil]; exact List.eq_nil_of_length_eq_zero h
    · cases e
  · have hr := run_append_own (P := P) w B S ty E i0 _ k bytes hS hi0 hz0 hz1 hz2 hzs F.pos v l.length (flatR cs l) hown A m.length cap (flatR cs m) (flatR_len F m) h3 (flatR_one F m) (by unfold maxLen; omega) (Nat.le_trans (Nat.mul_le_mul hnl hby) (by decide)) hbase
    obtain ⟨v', w', hr, a2, a3, a4⟩ := hr
    refine ⟨v', w', hr, by unfold OwnR; rw [List.length_append, flatR_add]; exact a2, a3, fun e => ?_⟩
    obtain ⟨rfl, hm⟩ := a4.1 e
    rcases hown.2 with ⟨_, h⟩ | ⟨g, cap, cur, e, _⟩
    · rw [List.eq_nil_of_length_eq_zero h, List.eq_nil_of_length_eq_zero hm]; rfl
    · cases e
end
end Go.Proofs.YtgbenepapajieaaGreat
