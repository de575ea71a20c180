/-
  The contracts of the document's MayExtents and clip.
-/
import Derived.Test.YtheobpilmphdjaaGreatNRefX
import Derived.Deep.RegionHeld3
namespace Go.Proofs.YtheobpilmphdjaaGreat.Nd
open Go.RowKit
open Go.Proofs.YtheobpilmphdjaaGreat.Ex.Rng
open Go.Proofs.YtheobpilmphdjaaGreat.Ex (E ExtsAt)

theorem mayB_out {l : List X} {s : Int} (h : ¬ (0 ≤ s ∧ s ≤ 1099511627776)) : Ex.mayB l s = false := by
  unfold Ex.mayB
  rw [decide_eq_false (by unfold lim limN M; omega)]
  rfl
theorem mayB_in {l : List X} {s : Int} (h0 : 0 ≤ s) (h1 : s ≤ 1099511627776) : Ex.mayB l s = Ex.mayGo (-1) l s := by
  unfold Ex.mayB
  rw [decide_eq_true (by unfold lim limN M; omega)]
  rfl
set_option maxRecDepth 100000 in
set_option maxHeartbeats 2000000 in
theorem mayExts_any (v : Value) (l : List X) (s : Int) (w : World) (h : XsAt w v l) (hl : ∀ x ∈ l, x.1 ≤ M ∧ x.2 ≤ M) :
    Calls Tryz.prog 65 #[v, .int .i64 s] w fun e w' => e = .returned (.bool (Ex.mayB l s)) ∧ Q w w' := by
  have ll := h.len
  unfold maxLen at ll
  have bM : M = 1099511627776 := rfl
  have HV : Hid (∀ w', Q w w' → XsAt w' v l) := fun w' q => h.keep q
  have HB : Hid (∀ k (hk : k < l.length), l[k].1 ≤ M ∧ l[k].2 ≤ M) := fun k hk => hl _ (List.getElem_mem hk)
  obtain ⟨A, c, rfl⟩ := h.form
  clear h hl
  by_cases h0 : s < 0
  · have t0 : decide (s < 0) = true := decide_eq_true h0
    have E0 : Hid (Ex.mayB l s = false) := mayB_out (by omega)
    clear h0
    go_enter Tryz.func65, Tryz.ntmps65
    go_wp2
    go_ret
    exact ⟨ret_bool E0.out.symm, Q.refl _⟩
  have t0 : decide (s < 0) = false := decide_eq_false h0
  by_cases h1 : 1099511627776 < s
  · have t1 : decide (1099511627776 < s) = true := decide_eq_true h1
    have E0 : Hid (Ex.mayB l s = false) := mayB_out (by omega)
    clear h1 h0
    go_enter Tryz.func65, Tryz.ntmps65
    go_wp2
    go_ret
    exact ⟨ret_bool E0.out.symm, Q.refl _⟩
  have t1 : decide (1099511627776 < s) = false := decide_eq_false h1
  have E0 : Hid (Ex.mayB l s = Ex.mayGo (-1) l s) := mayB_in (by omega) (by omega)
  generalize Ex.mayB l s = r at *
  clear h0 h1
  go_enter Tryz.func65, Tryz.ntmps65
  go_wp2
  go_loopw [5, 6] (fun b i wr => ∃ (k : Nat) (last : Int), i = .int .i64 k ∧ b = .int .i64 last ∧ k ≤ l.length ∧ Q w wr ∧ Hid (r = Ex.mayGo last (l.drop k) s)) (fun _ i _ => l.length - (intOf i).toNat)
  case atStart => exact ⟨0, -1, rfl, rfl, by omega, Q.refl _, E0.out⟩
  case round =>
    obtain ⟨k, last, rfl, rfl, hk, hq, H⟩ := hrel
    by_cases hlt : k < l.length
    · obtain ⟨g, og, _, ea, _, _, hc⟩ := (HV.out _ hq).atX (by omega)
      obtain ⟨rfl, -, rfl⟩ := Value.slice.inj ea
      have c1 := hc k hlt
      obtain ⟨o1, o2⟩ := HB.out k hlt
      have En : Hid (¬ (l[k].2 ≠ 0 ∧ last < (l[k].1 : Int)) → r = false) := Ex.mayGo_no hlt H.out
      have Ey : Hid ((l[k].2 ≠ 0 ∧ last < (l[k].1 : Int)) → r = Ex.mayGo ((l[k].1 : Int) + l[k].2) (l.drop (k + 1)) s) := Ex.mayGo_on hlt H.out
      clear hc H E0 HV HB ea
      generalize l[k] = x at *
      have lt2 : (k : Int) < (l.length : Int) := by omega
      have wx : IntKind.i64.wrap ((x.1 : Int) + (x.2 : Int)) = (x.1 : Int) + (x.2 : Int) := IntWalk.i64_in _ (by omega)
      go_wp2_with fail
      refine (rLong_any x _ o2).mono ?_
      rintro e w2 ⟨rfl, rfl⟩
      by_cases h1 : x.2 = 0
      · have t2 : (((x.2 : Nat) : Int) == 0) = true := beq_iff_eq.2 (by omega)
        have E1 := Lib.hid (En.out (fun h => h.1 h1))
        clear h1 Ey En
        go_wp2
        go_ret
        exact ⟨ret_bool E1.out.symm, hq⟩
      have t2 : (((x.2 : Nat) : Int) == 0) = false := beq_eq_false_iff_ne.2 (by omega)
      by_cases h2 : last < (x.1 : Int)
      · have t3 : decide ((x.1 : Int) ≤ last) = false := decide_eq_false (by omega)
        have E1 := Lib.hid (Ey.out ⟨h1, h2⟩)
        clear h1 h2 Ey En
        go_wp2_with fail
        refine (rAt_any x _ o1).mono ?_
        rintro e w2 ⟨rfl, rfl⟩
        go_wp2_with fail
        go_quiet (first | ((go_at_call 86; exact Calls.quiet_of_same (rAt_any x _ o1))) | ((go_at_call 85; exact Calls.quiet_of_same (rLong_any x _ o2))))
        go_wp2
        go_roundw
        case rel => exact ⟨k + 1, _, by go_num, rfl, by omega, hq.drewN _, E1⟩
        case measure => simp [intOf]; omega
      · have t3 : decide ((x.1 : Int) ≤ last) = true := decide_eq_true (by omega)
        have E1 := Lib.hid (En.out (fun h => h2 h.2))
        clear h1 h2 Ey En
        go_wp2_with fail
        refine (rAt_any x _ o1).mono ?_
        rintro e w2 ⟨rfl, rfl⟩
        go_wp2
        go_ret
        exact ⟨ret_bool E1.out.symm, hq⟩
    · have E1 : Hid (r = decide (last ≤ s)) := Lib.hid (Ex.mayGo_end hlt H.out)
      clear H
      go_wp2
      go_ret
      exact ⟨ret_bool E1.out.symm, hq⟩

/-! ### clip -/
theorem keep2g {w0 w w' : World} {g h i j : Nat} {u v : Value} (k : Q w0 w ∧ w.cell? ⟨g, i, none⟩ = some u ∧ w.cell? ⟨h, j, none⟩ = some v) (q : Q w w') : Q w0 w' ∧ w'.cell? ⟨g, i, none⟩ = some u ∧ w'.cell? ⟨h, j, none⟩ = some v :=
  ⟨k.1.trans q, q.cell k.2.1, q.cell k.2.2⟩
theorem clip_take {l : List Pc} {lo hi : Int} {k : Nat} (hk : k < l.length) (h : max lo l[k].1 < min hi (l[k].1 + l[k].2.size)) : clipP (l.take k) lo hi ++ [cutP lo hi l[k]] = clipP (l.take (k + 1)) lo hi := by
  rw [List.take_succ_eq_append_getElem hk]
  unfold clipP
  rw [List.filterMap_append]
  simp [h]
theorem clip_skip {l : List Pc} {lo hi : Int} {k : Nat} (hk : k < l.length) (h : ¬ max lo l[k].1 < min hi (l[k].1 + l[k].2.size)) : clipP (l.take k) lo hi = clipP (l.take (k + 1)) lo hi := by
  rw [List.take_succ_eq_append_getElem hk]
  unfold clipP
  rw [List.filterMap_append]
  simp [h]
theorem step_append_pcs {ops : Array Oper} {o : Oper} {a : Act} {w : World} {K : Act → World → Prop} {Q0 : Exit → Act → World → Prop} {E : Prop} (hgd : o.guard = none) (s x : Operand)
    (ho : o.op = .call { callee := .builtin .append, args := #[s, x], argTypes := #[26, 26] })
    (B : Nat) (v : Value) (l : List Pc) (hs : a.eval s = v) (hown : OwnP w B v l) (vx : Value) (m : List Pc) (hx : a.eval x = vx) (he : PcsAt w vx m) (hnl : l.length + m.length ≤ 100000) (hbase : B ≤ w.heap.size)
    (h : ∀ v' w', OwnP w' B v' (l ++ m) → w.grownBy w' v.ownBlock → K (a.put o.dst v') w') :
    if Region.wanted o (yielded ops a.tmps) = true then Oper.wp Tryz.prog o a w K Q0 else E := by
  have hw : Region.wanted o (yielded ops a.tmps) = true := by simp [Region.wanted, hgd]
  rw [if_pos hw]
  obtain ⟨v', w', hr, a2, a3, _⟩ := run_append_pcs o.type B v l hown vx m he hnl hbase
  unfold Oper.wp execOp
  simp only [ho, resolve, invoke, builtin, Sem.run_bind, Sem.run_pure, Result.andThen_ok, List.map_toArray, List.map_cons, List.map_nil, hs, hx, hr]
  exact h v' w' a2 a3
set_option maxRecDepth 100000 in
set_option maxHeartbeats 4000000 in
theorem clip_any (v : Value) (l : List Pc) (lo hi : Int) (w : World) (h : PcsAt w v l) (hl : l.length ≤ 10000) (hok : ∀ p ∈ l, PcOk p) (h0 : 0 ≤ lo) (h1 : lo ≤ 2199023255552) (h2 : 0 ≤ hi) (h3 : hi ≤ 2199023255552) :
    Calls Tryz.prog 32 #[v, .int .i64 lo, .int .i64 hi] w fun e w' => ∃ v', e = .returned v' ∧ OwnP w' w.heap.size v' (clipP l lo hi) ∧ Q w w' := by
  have HV : Hid (∀ w', Q w w' → PcsAt w' v l) := fun w' q => h.keep q
  have HB : Hid (∀ k (hk : k < l.length), PcOk l[k]) := fun k hk => hok _ (List.getElem_mem hk)
  obtain ⟨A, c, rfl⟩ := h.form
  clear h hok
  go_enter Tryz.func32, Tryz.ntmps32
  go_wp2
  go_loopw [7, 8, 9, 10] (fun o i _ _ wr => ∃ (k : Nat) (ns : List Pc), i = .int .i64 k ∧ k ≤ l.length ∧ OwnP wr w.heap.size o ns ∧ Q w wr ∧ ns.length ≤ k ∧ Hid (ns = clipP (l.take k) lo hi)) (fun _ i _ _ _ => l.length - (intOf i).toNat)
  case atStart => exact ⟨0, [], rfl, by omega, OwnR.nil_ _ _ _, Q.refl _, by simp, by rw [List.take_zero]; rfl⟩
  case round =>
    obtain ⟨k, ns, rfl, hk, hown, hq, hn, H⟩ := hrel
    obtain ⟨B, cb, rfl⟩ := hown.form flatP
    by_cases hlt : k < l.length
    · obtain ⟨g, og, _, ea, _, _, hc⟩ := (HV.out _ hq).atP (by omega)
      obtain ⟨rfl, -, rfl⟩ := Value.slice.inj ea
      obtain ⟨c1, c2⟩ := hc k hlt
      obtain ⟨gw, ow, _, eaw, _, _, hcw⟩ := (HV.out _ (Q.refl w)).atP (by omega)
      obtain ⟨eaw1, -, -⟩ := Value.slice.inj eaw
      cases eaw1
      obtain ⟨b1, b2⟩ := hcw k hlt
      have o1 := HB.out k hlt
      have E1 : Hid (max lo l[k].1 < min hi (l[k].1 + l[k].2.size) → ns ++ [cutP lo hi l[k]] = clipP (l.take (k + 1)) lo hi) := fun hh => by rw [H.out]; exact clip_take hlt hh
      have E2 : Hid (¬ max lo l[k].1 < min hi (l[k].1 + l[k].2.size) → ns = clipP (l.take (k + 1)) lo hi) := fun hh => by rw [H.out]; exact clip_skip hlt hh
      clear hc hcw H HV HB ea eaw
      generalize l[k] = x at *
      obtain ⟨x1, xs⟩ := x
      unfold PcOk at o1
      unfold cutP at E1
      simp only at c1 c2 b1 b2 o1 E1 E2
      have lt2 : (k : Int) < (l.length : Int) := by omega
      have wx : IntKind.i64.wrap (x1 + (xs.size : Int)) = x1 + (xs.size : Int) := IntWalk.i64_in _ (by omega)
      by_cases hab : max lo x1 < min hi (x1 + (xs.size : Int))
      · have t1 : decide (max lo x1 < min hi (x1 + (xs.size : Int))) = true := decide_eq_true hab
        obtain ⟨n1, hn1⟩ : ∃ n : Nat, max lo x1 - x1 = (n : Int) := ⟨(max lo x1 - x1).toNat, by omega⟩
        obtain ⟨n2, hn2⟩ : ∃ n : Nat, min hi (x1 + (xs.size : Int)) - x1 = (n : Int) := ⟨(min hi (x1 + (xs.size : Int)) - x1).toNat, by omega⟩
        have w1 : IntKind.i64.wrap (max lo x1 - x1) = (n1 : Int) := by rw [hn1]; exact IntWalk.i64_in _ (by omega)
        have w2 : IntKind.i64.wrap (min hi (x1 + (xs.size : Int)) - x1) = (n2 : Int) := by rw [hn2]; exact IntWalk.i64_in _ (by omega)
        have hs : ∀ w, Sem.run Tryz.prog (Instr.sliceAt 9 (.string xs) (some (.int .i64 (n1 : Int))) (some (.int .i64 (n2 : Int))) none) w = .ok (.string (xs.extract n1 n2)) w := fun w => cut_str xs n1 n2 (by omega) (by omega) w
        have E3 := Lib.hid (E1.out hab)
        rw [hn1, hn2, Int.toNat_natCast, Int.toNat_natCast] at E3
        generalize xs.extract n1 n2 = ys at *
        clear hn1 hn2 E1 E2 hab
        go_wp2_with fail
        go_quiet (fail)
        go_wp2_with fail
        have hq1 := hq.drewN nq
        have hown1 := hown.keep ((Q.refl wr).drewN nq)
        have d1 := hq1.cell b1
        have d2 := hq1.cell b2
        have KS : ∀ w', Q w w' → Q w w' ∧ w'.cell? ⟨g, og + k * 2, none⟩ = some (.int .i64 x1) ∧ w'.cell? ⟨g, og + k * 2 + 1, none⟩ = some (.string xs) := fun w' q => ⟨q, q.cell b1, q.cell b2⟩
        clear hq hown c1 c2
        generalize wr.drewN nq = w3 at *
        have hq2 : Q w (w3.alloc (.cells #[.int .i64 (max lo x1), .string ys] 44)).drew := (hq1.alloc _).drew
        have hown2 : OwnP (w3.alloc (.cells #[.int .i64 (max lo x1), .string ys] 44)).drew w.heap.size (.slice B ns.length cb) ns := (hown1.keep ((Q.refl w3).alloc _)).keep (Q.refl _).drew
        have hone : PcsAt (w3.alloc (.cells #[.int .i64 (max lo x1), .string ys] 44)).drew (.slice (some ⟨w3.heap.size, 0, none⟩) 1 1) [(max lo x1, ys)] := ((own_one flatP 44 w3 w3.heap.size (Nat.le_refl _) (max lo x1, ys)).row flatP).keep (Q.refl _).drew
        replace KS := Lib.hid KS
        go_region_held3 (fun w' => Q w w' ∧ w'.cell? ⟨g, og + k * 2, none⟩ = some (.int .i64 x1) ∧ w'.cell? ⟨g, og + k * 2 + 1, none⟩ = some (.string xs)) (first | assumption | exact KS.out _ (by assumption) | exact KS.out _ (Q.drew hq1) | exact KS.out _ (Q.alloc (And.left (by assumption)) _) | exact KS.out _ (Q.drew (And.left (by assumption)))) (first
          | (refine step_append_pcs rfl (.tmp 41) (.tmp 64) rfl w.heap.size (.slice B ns.length cb) ns (by simp [Act.eval]) hown2 (.slice (some ⟨w3.heap.size, 0, none⟩) 1 1) [(max lo x1, ys)] (by simp [Act.eval]) hone (by simp; omega) hq2.size ?_; intro v6 w6 hown6 hg6; have q6 : Q w w6 := Below.grown hq2 hg6 hq2.size fun g hg => (hown2.lt g hg).1))
        clear hown1 hown2 hone hq1 hq2 hg6 KS d1 d2
        have hl6 : (ns ++ [(max lo x1, ys)]).length ≤ k + 1 := by simp; omega
        generalize ns ++ [(max lo x1, ys)] = ns6 at *
        go_wp2
        go_roundw
        case rel => exact ⟨k + 1, ns6, by go_num, by omega, hown6, q6, hl6, E3⟩
        case measure => simp [intOf]; omega
      · have t1 : decide (max lo x1 < min hi (x1 + (xs.size : Int))) = false := decide_eq_false hab
        have E3 := Lib.hid (E2.out hab)
        clear E1 E2 hab
        go_wp2_with fail
        go_quiet (fail)
        go_wp2
        go_roundw
        case rel => exact ⟨k + 1, ns, by go_num, by omega, hown.keep ((Q.refl _).drewN _), hq.drewN _, by omega, E3⟩
        case measure => simp [intOf]; omega
    · have E1 : Hid (ns = clipP l lo hi) := by
        have := H.out
        rwa [List.take_of_length_le (by omega)] at this
      clear H
      go_wp2
      go_ret
      exact ⟨_, rfl, by rw [← E1.out]; exact hown, hq⟩

end Go.Proofs.YtheobpilmphdjaaGreat.Nd
