/-
  The document's Norm and HasPlace at lists in order with gaps: the list again; a place that lies in it.
-/
import Derived.Test.YtheobpilmphdjaaNRefX
namespace Go.Proofs.Ytheobpilmphdjaa.Nd
open Go.RowKit
open Go.Proofs.Ytheobpilmphdjaa.Ex.Rng
open Go.Proofs.Ytheobpilmphdjaa.Ex (E ExtsAt)

set_option maxRecDepth 100000 in
theorem cut_x0 (g o n c h : Nat) (h2 : h ≤ c) (h3 : ¬ c = 0) (w : World) :
    Sem.run Try.prog (Instr.sliceAt 43 (.slice (some ⟨g, o, none⟩) n c) none (some (.int .i64 (h : Int))) none) w = .ok (.slice (some ⟨g, o, none⟩) h c) w := by
  rw [run_sliceAt_slice (P := Try.prog) w 43 _ _ _ _ Try.underlying43, run_slice_h (P := Try.prog) w 43 _ n c Try.underlying43 .i64 (h : Int) (by omega) (by omega)]
  rw [show Try.prog.elem 43 = 65 from by kernel_rfl, Try.sizeOf65]
  simp [Result.andThen, sliced, h3, Addr.add_lit]
set_option maxRecDepth 100000 in
theorem cut_xe (A : Option Addr) (n c : Nat) : ∃ A' c', (A' = none → A = none) ∧ c' = c - n ∧ ∀ w, Sem.run Try.prog (Instr.sliceAt 43 (.slice A n c) (some (.int .i64 (n : Int))) none none) w = .ok (.slice A' 0 c') w := by
  refine ⟨if c = n then A else A.map (·.add (n * 1)), c - n, fun h => ?_, rfl, fun w => ?_⟩
  · split at h
    · exact h
    · cases A with
      | none => rfl
      | some a => simp at h
  · rw [run_sliceAt_slice (P := Try.prog) w 43 _ _ _ _ Try.underlying43, run_slice_l (P := Try.prog) w 43 _ n c Try.underlying43 .i64 (n : Int) (by omega) (by omega)]
    rw [show Try.prog.elem 43 = 65 from by kernel_rfl, Try.sizeOf65]
    simp [Result.andThen, sliced]
set_option maxRecDepth 100000 in
theorem cut_xn (w : World) :
    Sem.run Try.prog (Instr.sliceAt 43 (.slice none 0 0) none (some (.int .i64 (0 : Int))) none) w = .ok (.slice none 0 0) w := by
  rw [run_sliceAt_slice (P := Try.prog) w 43 _ _ _ _ Try.underlying43, run_slice_h (P := Try.prog) w 43 _ 0 0 Try.underlying43 .i64 (0 : Int) (by omega) (by omega)]
  rw [show Try.prog.elem 43 = 65 from by kernel_rfl, Try.sizeOf65]
  simp [Result.andThen, sliced]

set_option maxRecDepth 100000 in
theorem cut_xp (A : Option Addr) (n c : Nat) (hn : n ≤ c) : ∃ A', (∀ w, Sem.run Try.prog (Instr.sliceAt 43 (.slice A n c) none (some (.int .i64 (n : Int))) none) w = .ok (.slice A' n c) w) ∧ ∀ (w' : World) (ms : List X), XsAt w' (.slice A n c) ms → XsAt w' (.slice A' n c) ms := by
  refine ⟨if c = 0 then A else A.map (·.add (0 * 1)), fun w => ?_, fun w' ms h => ?_⟩
  · rw [run_sliceAt_slice (P := Try.prog) w 43 _ _ _ _ Try.underlying43, run_slice_h (P := Try.prog) w 43 _ n c Try.underlying43 .i64 (n : Int) (by omega) (by omega)]
    rw [show Try.prog.elem 43 = 65 from by kernel_rfl, Try.sizeOf65]
    simp [Result.andThen, sliced]
  · rcases h with ⟨rfl, a, c', e, ha⟩ | ⟨g, o, cap, e, h1, h2, h3⟩
    · cases e
      refine .inl ⟨rfl, _, _, rfl, fun k => ha ?_⟩
      split at k
      · exact k
      · cases A with
        | none => rfl
        | some a => simp at k
    · obtain ⟨rfl, rfl, rfl⟩ := Value.slice.inj e
      refine .inr ⟨g, o, c, ?_, h1, h2, h3⟩
      split
      · rfl
      · simp [Addr.add_lit]

theorem val_step {l : List X} (hv : Val l) {k : Nat} (hk : k + 1 < l.length) : l[k].1 + l[k].2 < l[k + 1].1 :=
  (List.pairwise_iff_getElem.1 hv.2) k (k + 1) (by omega) hk (Nat.lt_succ_self _)

set_option maxRecDepth 100000 in
set_option maxHeartbeats 16000000 in
theorem rNorm_any (v : Value) (l : List X) (w : World) (h : XsAt w v l) (hv : Val l) (hu : Upto M l) (h9 : l.length ≤ 10000) :
    Calls Try.prog 33 #[v] w fun e w' => ∃ v', e = .returned v' ∧ OwnX w' w.heap.size v' l ∧ Q w w' := by
  have bM : M = 1099511627776 := rfl
  have HV : Hid (∀ w', Q w w' → XsAt w' v l) := fun w' q => h.keep q
  have HS : Hid (∀ k (hk : k + 1 < l.length), l[k].1 + l[k].2 < l[k + 1].1) := fun k hk => val_step hv hk
  have HU : Hid (∀ k (hk : k < l.length), l[k].1 + l[k].2 ≤ 1099511627776 ∧ 0 < l[k].2) := fun k hk => ⟨hu _ (List.getElem_mem hk), hv.1 _ (List.getElem_mem hk)⟩
  obtain ⟨A, c, rfl⟩ := h.form
  clear h hv hu
  go_enter Try.func33, Try.ntmps33
  go_wp2
  go_loopw [3, 4, 5, 6, 7, 8] (fun m i _ _ _ _ wr => ∃ (k : Nat) (ms : List X), i = .int .i64 k ∧ k ≤ l.length ∧ OwnX wr w.heap.size m ms ∧ Q w wr ∧ Hid (ms = l.take k)) (fun _ i _ _ _ _ _ => l.length - (intOf i).toNat)
  case atStart => exact ⟨0, [], rfl, by omega, OwnR.nil_ _ _ _, Q.refl _, rfl⟩
  case round =>
    obtain ⟨k, ms, rfl, hk, hown, hq, H⟩ := hrel
    obtain ⟨Am, cm, rfl⟩ := hown.form flatX
    have hml : ms.length = k := by rw [H.out, List.length_take]; omega
    by_cases hlt : k < l.length
    · obtain ⟨g, og, _, ea, _, _, hc⟩ := (HV.out _ hq).atX (by omega)
      obtain ⟨rfl, -, rfl⟩ := Value.slice.inj ea
      have c1 := hc k hlt
      obtain ⟨u1, u2⟩ := HU.out k hlt
      have E1 : Hid ([] ++ ms ++ [l[k]] ++ [] = l.take (k + 1)) := Lib.hid (by rw [H.out, List.take_succ_eq_append_getElem hlt]; simp)
      have Hprev : Hid (∀ j, k = j + 1 → ∃ y : X, ms[j]? = some y ∧ y.1 ≤ l[k].1 ∧ y.1 ≤ 1099511627776) := by
        intro j hj
        subst hj
        have s1 := HS.out j hlt
        have s2 := (HU.out j (by omega)).1
        refine ⟨l[j], ?_, by omega, by omega⟩
        rw [H.out, List.getElem?_take_of_lt (by omega), List.getElem?_eq_getElem (by omega)]
      clear hc H HV HS HU ea
      generalize l[k] = x at *
      have lt2 : (k : Int) < (l.length : Int) := by omega
      have hmin : min (x.2 : Int) (1099511627776 - (x.1 : Int)) = (x.2 : Int) := by omega
      have wM : IntKind.i64.wrap (1099511627776 - (x.1 : Int)) = 1099511627776 - (x.1 : Int) := IntWalk.i64_in _ (by omega)
      have tz : ((x.2 : Int) == 0) = false := beq_eq_false_iff_ne.2 (by omega)
      have hx1 : x.1 ≤ M := by omega
      have hx2 : x.2 ≤ M := by omega
      have hof : Hid ((limN (x.1 : Int), limN (x.2 : Int)) = x) := by
        show (_, _) = _
        rw [limN_nat _ hx1, limN_nat _ hx2]
      go_wp2_with fail
      refine (rAt_any x _ hx1).mono ?_
      rintro e w1 ⟨rfl, rfl⟩
      go_wp2_with fail
      refine (rLong_any x _ hx2).mono ?_
      rintro e w1 ⟨rfl, rfl⟩
      clear u1 u2 c1
      go_wp2_with fail
      have hxm := hown.row flatX
      have hcap : ms.length ≤ cm := by
        rcases hxm with ⟨e, a, c', e', _⟩ | ⟨g, o, cap, e', h1, h2, h3⟩
        · rw [e]; exact Nat.zero_le _
        · obtain ⟨rfl, _, rfl⟩ := Value.slice.inj e'; exact h1
      have hnil : Am = none → cm = 0 := by
        intro e
        rcases hxm with ⟨_, a, c', e', ha⟩ | ⟨g, o, cap, e', h1, h2, h3⟩
        · obtain ⟨rfl, _, rfl⟩ := Value.slice.inj e'; exact ha e
        · obtain ⟨rfl, _, rfl⟩ := Value.slice.inj e'; cases e
      go_loopw [7] (fun kv wi => kv = .int .i64 k ∧ wi = w1) (fun kv _ => 0)
      case atStart => exact ⟨rfl, rfl⟩
      case round =>
        obtain ⟨rfl, hwi⟩ := hrel
        subst hwi
        by_cases hk0 : k = 0
        · have t1 : decide ((0 : Int) < (k : Int)) = false := decide_eq_false (by omega)
          have t1' : ¬ 0 < k := by omega
          clear hk0
          have cz : ms.length ≤ cm := hcap
          obtain ⟨A1, hA1, hX1⟩ := cut_xp Am k cm (by omega)
          obtain ⟨A2, c2, hA2, hc2, hX2⟩ := cut_xe Am k cm
          go_wp2_with (at_builtin; refine wpList_append_xs rfl (.tmp 50) (.tmp 53) rfl wr.heap.size _ [] rfl (own_empty 65 wr wr.heap.size (Nat.le_refl _)) _ ms rfl (hX1 _ _ (by rw [hml] at hxm; exact hxm.keep ((Q.refl wr).alloc _))) (by simp; omega) (by rw [World.size_alloc]; omega) ?_)
          intro v3 w3 hown3 hg3
          have q3 : Q wr w3 := Below.grown ((Q.refl wr).alloc _) hg3 (by rw [World.size_alloc]; omega) fun g hg => by cases hg; exact Nat.le_refl _
          clear hg3
          go_wp2_with fail
          have hem : ∀ w', XsAt w' (.slice A2 0 c2) [] := fun w' => .inl ⟨rfl, _, _, rfl, fun k => by rw [hc2]; have := hnil (hA2 k); omega⟩
          obtain ⟨y1, y2, hE⟩ : ∃ a b, E x = .complex .f64 a b := ⟨_, _, rfl⟩
          have HO : Hid (∀ w, Calls Try.prog 54 #[.int .i64 x.1, .int .i64 x.2] w fun e w' => e = .returned (.complex .f64 y1 y2) ∧ w' = w) := fun w => by
            have := rOf_any (x.1 : Int) (x.2 : Int) w
            rwa [hof.out, hE] at this
          have HB : Hid (∀ w' : World, XsAt (w'.alloc (.cells #[.complex .f64 y1 y2] 65)) (.slice (some ⟨w'.heap.size, 0, none⟩) 1 1) [x]) := fun w' => by
            have := (own_one flatX 65 w' w'.heap.size (Nat.le_refl _) x).row flatX
            unfold cellsX at this
            rw [hE] at this
            exact this
          replace hE := Lib.hid hE
          replace hem := Lib.hid hem
          have s3 := q3.size
          clear hA2 hc2 hnil hA1 hX1 hxm hof
          go_region_held3 (fun w' => Q wr w') (first | assumption | exact Q.alloc (by assumption) _ | exact Q.drew q3) (first
            | (go_at_call 54; refine (HO.out _).mono ?_; rintro e wo ⟨rfl, rfl⟩)
            | (refine step_append_xs rfl (.tmp 60) (.tmp 63) rfl wr.heap.size v5 ([] ++ ms ++ [x]) (by simp [Act.eval]) hown5 (.slice A2 0 c2) [] (by simp [Act.eval]) (hem.out w5) (by simp; try omega) q5.size ?_; intro v6 w6 hown6 hg6; have q6 : Q wr w6 := Below.grown q5 hg6 q5.size fun g hg => (hown5.lt g hg).1)
            | (refine step_append_xs rfl (.tmp 55) (.tmp 59) rfl wr.heap.size v3 ([] ++ ms) (by simp [Act.eval]) (World.ownsRow.drew (World.ownsRow.alloc hown3 _)) (.slice (some ⟨w3.heap.size, 0, none⟩) 1 1) [x] (by simp [Act.eval]) ((HB.out w3).keep ((Q.refl _).drew)) (by simp; try omega) (by show _ ≤ (w3.alloc _).heap.size; rw [World.size_alloc]; exact Nat.le_succ_of_le s3) ?_; intro v5 w5 hown5 hg5; have q5 : Q wr w5 := Below.grown ((q3.alloc _).drew) hg5 ((q3.alloc _).drew.size) fun g hg => (hown3.lt g hg).1))
          have hown7 : OwnX w6 w.heap.size v6 ([] ++ ms ++ [x] ++ []) := hown6.mono hq.size
          have q7 := hq.trans q6
          clear hown6 hown5 hg6 hg5 hown3 q5 q6 q3 s3 HO HB hem hE hown hX2
          generalize [] ++ ms ++ [x] ++ [] = ms2 at *
          go_wp2
          go_roundw
          case rel => exact ⟨k + 1, ms2, by go_num, by omega, hown7, q7, E1⟩
          case measure => simp [intOf]; omega
        · obtain ⟨j, hj⟩ : ∃ j, k = j + 1 := ⟨k - 1, by omega⟩
          obtain ⟨y, hy, hy1, hy2⟩ := Hprev.out j hj
          obtain ⟨gm, om, cm2, em, _, _, hmc⟩ := hxm.atX (by omega)
          obtain ⟨rfl, -, rfl⟩ := Value.slice.inj em
          have cj := hmc j (by omega)
          rw [(List.getElem?_eq_some_iff.1 hy).2] at cj
          have wj : IntKind.i64.wrap ((k : Int) - 1) = (j : Int) := by rw [show (k : Int) - 1 = (j : Int) by omega]; exact IntWalk.i64_in _ (by omega)
          have t1 : decide ((0 : Int) < (k : Int)) = true := decide_eq_true (by omega)
          have t1' : 0 < k := by omega
          have t2 : decide ((x.1 : Int) < (y.1 : Int)) = false := decide_eq_false (by omega)
          have t2' : ¬ x.1 < y.1 := by omega
          have lj : (j : Int) < (k : Int) := by omega
          have hyM : y.1 ≤ M := by omega
          clear hk0 hj hmc em hy hy1 hy2 Hprev
          go_wp2_with fail
          refine (rAt_any y _ hyM).mono ?_
          rintro e w2 ⟨rfl, rfl⟩
          clear cj wj lj
          have cz : ms.length ≤ cm := hcap
          obtain ⟨A1, hA1, hX1⟩ := cut_xp (some ⟨gm, om, none⟩) k cm (by omega)
          obtain ⟨A2, c2, hA2, hc2, hX2⟩ := cut_xe (some ⟨gm, om, none⟩) k cm
          go_wp2_with (at_builtin; refine wpList_append_xs rfl (.tmp 50) (.tmp 53) rfl w2.heap.size _ [] rfl (own_empty 65 w2 w2.heap.size (Nat.le_refl _)) _ ms rfl (hX1 _ _ (by rw [hml] at hxm; exact hxm.keep ((Q.refl w2).alloc _))) (by simp; omega) (by rw [World.size_alloc]; omega) ?_)
          intro v3 w3 hown3 hg3
          have q3 : Q w2 w3 := Below.grown ((Q.refl w2).alloc _) hg3 (by rw [World.size_alloc]; omega) fun g hg => by cases hg; exact Nat.le_refl _
          clear hg3
          go_wp2_with fail
          have hem : ∀ w', XsAt w' (.slice A2 0 c2) [] := fun w' => .inl ⟨rfl, _, _, rfl, fun k => by rw [hc2]; have := hnil (hA2 k); omega⟩
          obtain ⟨y1, y2, hE⟩ : ∃ a b, E x = .complex .f64 a b := ⟨_, _, rfl⟩
          have HO : Hid (∀ w, Calls Try.prog 54 #[.int .i64 x.1, .int .i64 x.2] w fun e w' => e = .returned (.complex .f64 y1 y2) ∧ w' = w) := fun w => by
            have := rOf_any (x.1 : Int) (x.2 : Int) w
            rwa [hof.out, hE] at this
          have HB : Hid (∀ w' : World, XsAt (w'.alloc (.cells #[.complex .f64 y1 y2] 65)) (.slice (some ⟨w'.heap.size, 0, none⟩) 1 1) [x]) := fun w' => by
            have := (own_one flatX 65 w' w'.heap.size (Nat.le_refl _) x).row flatX
            unfold cellsX at this
            rw [hE] at this
            exact this
          replace hE := Lib.hid hE
          replace hem := Lib.hid hem
          have s3 := q3.size
          clear hA2 hc2 hnil hA1 hX1 hxm hof
          go_region_held3 (fun w' => Q w2 w') (first | assumption | exact Q.alloc (by assumption) _ | exact Q.drew q3) (first
            | (go_at_call 54; refine (HO.out _).mono ?_; rintro e wo ⟨rfl, rfl⟩)
            | (refine step_append_xs rfl (.tmp 60) (.tmp 63) rfl w2.heap.size v5 ([] ++ ms ++ [x]) (by simp [Act.eval]) hown5 (.slice A2 0 c2) [] (by simp [Act.eval]) (hem.out w5) (by simp; try omega) q5.size ?_; intro v6 w6 hown6 hg6; have q6 : Q w2 w6 := Below.grown q5 hg6 q5.size fun g hg => (hown5.lt g hg).1)
            | (refine step_append_xs rfl (.tmp 55) (.tmp 59) rfl w2.heap.size v3 ([] ++ ms) (by simp [Act.eval]) (World.ownsRow.drew (World.ownsRow.alloc hown3 _)) (.slice (some ⟨w3.heap.size, 0, none⟩) 1 1) [x] (by simp [Act.eval]) ((HB.out w3).keep ((Q.refl _).drew)) (by simp; try omega) (by show _ ≤ (w3.alloc _).heap.size; rw [World.size_alloc]; exact Nat.le_succ_of_le s3) ?_; intro v5 w5 hown5 hg5; have q5 : Q w2 w5 := Below.grown ((q3.alloc _).drew) hg5 ((q3.alloc _).drew.size) fun g hg => (hown3.lt g hg).1))
          have hown7 : OwnX w6 w.heap.size v6 ([] ++ ms ++ [x] ++ []) := hown6.mono hq.size
          have q7 := hq.trans q6
          clear hown6 hown5 hg6 hg5 hown3 q5 q6 q3 s3 HO HB hem hE hown hX2
          generalize [] ++ ms ++ [x] ++ [] = ms2 at *
          go_wp2
          go_roundw
          case rel => exact ⟨k + 1, ms2, by go_num, by omega, hown7, q7, E1⟩
          case measure => simp [intOf]; omega
    · have ek : k = l.length := by omega
      have hml2 : ms = l := by have := H.out; rwa [List.take_of_length_le (by omega)] at this
      clear H HV hml
      replace hml2 := hml2.symm
      subst hml2
      have hxm : XsAt wr (.slice Am l.length cm) l := hown.row flatX
      subst ek
      go_wp2
      clear hown hlt hk
      generalize hw0 : wr = w0 at *
      clear hw0
      go_loopw [9, 10, 11, 12] (fun o i _ _ wi => ∃ (k : Nat) (ns : List X), i = .int .i64 k ∧ k ≤ l.length ∧ OwnX wi w0.heap.size o ns ∧ Q w0 wi ∧ Hid (ns = l.take k)) (fun _ i _ _ _ => l.length - (intOf i).toNat)
      case atStart => exact ⟨0, [], rfl, by omega, OwnR.nil_ _ _ _, Q.refl _, rfl⟩
      case round =>
        obtain ⟨k, ns, rfl, hk2, hown2, hq2, H2⟩ := hrel
        obtain ⟨Ao, co, rfl⟩ := hown2.form flatX
        have hnl : ns.length = k := by rw [H2.out, List.length_take]; omega
        by_cases hlt : k < l.length
        · obtain ⟨gm, om, _, em, _, _, hmc⟩ := (hxm.keep hq2).atX (by omega)
          obtain ⟨rfl, -, rfl⟩ := Value.slice.inj em
          have c1 := hmc k hlt
          obtain ⟨u1, u2⟩ := HU.out k hlt
          have E1 : Hid (ns ++ [l[k]] = l.take (k + 1)) := Lib.hid (by rw [H2.out, List.take_succ_eq_append_getElem hlt])
          have Hprev : Hid (∀ j, k = j + 1 → ∃ y : X, ns[j]? = some y ∧ y.1 + y.2 < l[k].1 ∧ y.1 + y.2 ≤ 1099511627776) := by
            intro j hj
            subst hj
            have s1 := HS.out j hlt
            have s2 := (HU.out j (by omega)).1
            refine ⟨l[j], ?_, s1, s2⟩
            rw [H2.out, List.getElem?_take_of_lt (by omega), List.getElem?_eq_getElem (by omega)]
          clear hmc H2 HS HU em hxm
          generalize l[k] = x at *
          have lt2 : (k : Int) < (l.length : Int) := by omega
          have hx1 : x.1 ≤ M := by omega
          have hxm2 := hown2.row flatX
          clear u1 u2
          by_cases hk0 : k = 0
          · have wj : IntKind.i64.wrap ((k : Int) - 1) = -1 := by rw [hk0]; exact IntWalk.i64_in _ (by omega)
            clear hk0 Hprev hxm2
            go_wp2_with fail
            go_quiet (fail)
            obtain ⟨z1, z2, hE⟩ : ∃ a b, E x = .complex .f64 a b := ⟨_, _, rfl⟩
            have HB : Hid (∀ w' : World, XsAt (w'.alloc (.cells #[.complex .f64 z1 z2] 65)) (.slice (some ⟨w'.heap.size, 0, none⟩) 1 1) [x]) := fun w' => by
              have := (own_one flatX 65 w' w'.heap.size (Nat.le_refl _) x).row flatX
              unfold cellsX at this
              rw [hE] at this
              exact this
            rw [hE] at c1
            have hq4 : Q w0 (wr.drewN nq) := hq2.drewN nq
            have hown4b : OwnX (wr.drewN nq) w0.heap.size (.slice Ao ns.length co) ns := hown2.keep ((Q.refl _).drewN nq)
            have hown4 : OwnX (wr.drewN nq) w0.heap.size (.slice Ao k co) ns := by
              have := hown4b
              rwa [hnl] at this
            have hlen : ns.length + [x].length ≤ 100000 := by simp only [List.length_cons, List.length_nil]; omega
            have hsz := hq4.size
            try rw [hE]
            clear hE hown2 hq2
            go_wp2_with (at_builtin; first | refine wpList_append_xs rfl (.tmp 134) (.tmp 139) rfl w0.heap.size _ ns rfl (hown4b.grew (Grew.alloc _ _)) _ [x] rfl (HB.out _) hlen (by rw [World.size_alloc]; omega) ?_ | refine wpList_append_xs rfl (.tmp 134) (.tmp 139) rfl w0.heap.size _ ns rfl (hown4.grew (Grew.alloc _ _)) _ [x] rfl (HB.out _) hlen (by rw [World.size_alloc]; omega) ?_)
            intro v3 w3 hown3 hg3
            have q3 : Q w0 w3 := Below.grown (hq4.alloc _) hg3 (by rw [World.size_alloc]; omega) fun g hg => (hown4.lt g hg).1
            clear hg3 hown4 hown4b hq4 hsz HB hlen
            generalize ns ++ [x] = ns3 at *
            go_wp2
            go_roundw
            case rel =>
              first | exact ⟨k + 1, ns3, by go_num, by omega, hown3, q3, E1⟩ | exact ⟨_, ⟨k + 1, ns3, by go_num, by omega, hown3, q3, E1⟩, rfl⟩ | exact ⟨_, k + 1, ns3, by go_num, by omega, hown3, q3, E1⟩ | exact ⟨_, _, k + 1, ns3, by go_num, by omega, hown3, q3, E1⟩
            case measure => simp [intOf]; omega
          · obtain ⟨j, hj⟩ : ∃ j, k = j + 1 := ⟨k - 1, by omega⟩
            obtain ⟨y, hy, hy1, hy2⟩ := Hprev.out j hj
            obtain ⟨go, oo, co2, eo, _, _, hoc⟩ := hxm2.atX (by omega)
            obtain ⟨rfl, -, rfl⟩ := Value.slice.inj eo
            have cj := hoc j (by omega)
            rw [(List.getElem?_eq_some_iff.1 hy).2] at cj
            have wj : IntKind.i64.wrap ((k : Int) - 1) = (j : Int) := by rw [show (k : Int) - 1 = (j : Int) by omega]; exact IntWalk.i64_in _ (by omega)
            have t2 : decide ((x.1 : Int) ≤ (y.1 : Int) + (y.2 : Int)) = false := decide_eq_false (by omega)
            have wy : IntKind.i64.wrap ((y.1 : Int) + (y.2 : Int)) = (y.1 : Int) + (y.2 : Int) := IntWalk.i64_in _ (by omega)
            have lj : (j : Int) < (k : Int) := by omega
            have hyM : y.1 ≤ M := by omega
            have hyM2 : y.2 ≤ M := by omega
            clear hk0 hj hoc eo hy hy1 hy2 Hprev hxm2
            go_wp2_with fail
            go_quiet (first
              | ((go_at_call_of 34 (E x); exact Calls.quiet_of_same (rAt_any x _ hx1)))
              | ((go_at_call_of 34 (E y); exact Calls.quiet_of_same (rAt_any y _ hyM)))
              | ((go_at_call 35; exact Calls.quiet_of_same (rLong_any y _ hyM2))))
            clear cj wj lj t2 wy
            obtain ⟨z1, z2, hE⟩ : ∃ a b, E x = .complex .f64 a b := ⟨_, _, rfl⟩
            have HB : Hid (∀ w' : World, XsAt (w'.alloc (.cells #[.complex .f64 z1 z2] 65)) (.slice (some ⟨w'.heap.size, 0, none⟩) 1 1) [x]) := fun w' => by
              have := (own_one flatX 65 w' w'.heap.size (Nat.le_refl _) x).row flatX
              unfold cellsX at this
              rw [hE] at this
              exact this
            rw [hE] at c1
            have hq4 : Q w0 (wr.drewN nq) := hq2.drewN nq
            have hown4b : OwnX (wr.drewN nq) w0.heap.size (.slice (some ⟨go, oo, none⟩) ns.length co) ns := hown2.keep ((Q.refl _).drewN nq)
            have hown4 : OwnX (wr.drewN nq) w0.heap.size (.slice (some ⟨go, oo, none⟩) k co) ns := by
              have := hown4b
              rwa [hnl] at this
            have hlen : ns.length + [x].length ≤ 100000 := by simp only [List.length_cons, List.length_nil]; omega
            have hsz := hq4.size
            try rw [hE]
            clear hE hown2 hq2
            go_wp2_with (at_builtin; first | refine wpList_append_xs rfl (.tmp 134) (.tmp 139) rfl w0.heap.size _ ns rfl (hown4b.grew (Grew.alloc _ _)) _ [x] rfl (HB.out _) hlen (by rw [World.size_alloc]; omega) ?_ | refine wpList_append_xs rfl (.tmp 134) (.tmp 139) rfl w0.heap.size _ ns rfl (hown4.grew (Grew.alloc _ _)) _ [x] rfl (HB.out _) hlen (by rw [World.size_alloc]; omega) ?_)
            intro v3 w3 hown3 hg3
            have q3 : Q w0 w3 := Below.grown (hq4.alloc _) hg3 (by rw [World.size_alloc]; omega) fun g hg => (hown4.lt g hg).1
            clear hg3 hown4 hown4b hq4 hsz HB hlen
            generalize ns ++ [x] = ns3 at *
            go_wp2
            go_roundw
            case rel =>
              first | exact ⟨k + 1, ns3, by go_num, by omega, hown3, q3, E1⟩ | exact ⟨_, ⟨k + 1, ns3, by go_num, by omega, hown3, q3, E1⟩, rfl⟩ | exact ⟨_, k + 1, ns3, by go_num, by omega, hown3, q3, E1⟩ | exact ⟨_, _, k + 1, ns3, by go_num, by omega, hown3, q3, E1⟩
            case measure => simp [intOf]; omega
        · have ek2 : k = l.length := by omega
          have hns : ns = l := by have := H2.out; rwa [List.take_of_length_le (by omega)] at this
          have h5 : OwnX wr w.heap.size (.slice Ao ns.length co) ns := hown2.mono hq.size
          have h6 : ∀ L : List X, L = ns → OwnX wr w.heap.size (.slice Ao ns.length co) L := fun L e => by rw [e]; exact h5
          have hown5 := Lib.hid (h6 l hns.symm)
          clear h5 h6 hns
          clear H2 HS HU hown2
          replace ek2 := Lib.hid ek2
          go_wp2
          go_ret
          exact ⟨_, rfl, by first | exact hown5.out | (have := hown5.out; rw [hnl] at this; exact this), hq.trans hq2⟩
end Go.Proofs.Ytheobpilmphdjaa.Nd
