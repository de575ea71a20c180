/-
  For whatever numbers: a normal row and its holes below 300 have 300 places, cover all, and the holes of the holes are the row. No condition.
-/
import Derived.Test.YtgpnhhfmfdbmdaaLawFacts
import Derived.ShutString
import Derived.ChangeOld
import Derived.Deep.DeepCutAuto
namespace Go.Proofs.Ytgpnhhfmfdbmdaa.sums
open Go.ChangeShapes Go.WideShapes Go.ChangeAt Go.RowKit
open Go.ChangeMaps (open_string shut_string)
open Rng

theorem own : ownKnob Try.prog.godebug = none := by kernel_rfl
theorem laidOut : laidOutB Try.prog = true := by kernel_rfl

theorem exts_cells {w : World} {g : Nat} {l : List X} (hc : ∀ i (h : i < l.length), w.cell? ⟨g, i, none⟩ = some (E l[i])) : ∀ j u, (l.map E)[j]? = some u → w.cell? ((⟨g, 0, none⟩ : Addr).add j) = some u := by
  intro j u hu
  rw [List.getElem?_map] at hu
  by_cases hj : j < l.length
  · rw [List.getElem?_eq_getElem hj] at hu
    have := hc j hj
    rw [show ((⟨g, 0, none⟩ : Addr).add j) = ⟨g, j, none⟩ by simp [Addr.add_lit], this]
    exact hu
  · rw [List.getElem?_eq_none (by omega)] at hu
    cases hu

theorem f_300 : fl 300 = 4643985272004935680 := by decide +kernel

/-- append of a row that reads as these extents, at an operation that is wanted. -/
theorem wpList_append_exts {ops : Array Oper} {rest : List Oper} {o : Oper} {a : Act} {Q0 : Exit → Act → World → Prop} {w : World} (hw : Region.wanted o (yielded ops a.tmps) = true) (s x : Operand)
    (ho : o.op = .call { callee := .builtin .append, args := #[s, x], argTypes := #[23, 23] })
    (base : Nat) (v : Value) (n : Nat) (xs : List Value) (hs : a.eval s = v) (hown : w.ownsRow base 31 1 v n xs)
    (vx : Value) (l : List X) (hx : a.eval x = vx) (he : ExtsAt w vx l) (hnl : n + l.length ≤ 100000) (hbase : base ≤ w.heap.size)
    (h : ∀ v' w', w'.ownsRow base 31 1 v' (n + l.length) (xs ++ l.map E) → w.grownBy w' v.ownBlock → wpList Try.prog ops Q0 rest (a.put o.dst v') w') : wpList Try.prog ops Q0 (o :: rest) a w := by
  obtain ⟨i0, hi0, hz0, hz1, hz2⟩ := info_parts info_ext
  refine wpList_step fun K hK => ?_
  rw [if_pos hw]
  rcases he with ⟨rfl, rfl⟩ | ⟨g, cap, rfl, h1, h2, h3⟩
  · have hr := run_append_owned_none (P := Try.prog) w base 23 o.type 31 i0 1 Try.underlying23 hi0 v n xs hown
    have hk := h v w (by simpa using hown) ⟨rfl, rfl, rfl, Nat.le_refl _, fun _ _ _ => rfl⟩
    unfold Oper.wp execOp
    simp only [ho, resolve, invoke, builtin, Sem.run_bind, Sem.run_pure, Result.andThen_ok, List.map_toArray, List.map_cons, List.map_nil, hs, hx, hr]
    exact hK _ _ hk
  · have hr := run_append_own (P := Try.prog) w base 23 o.type 31 i0 _ 1 16 Try.underlying23 hi0 hz0 hz1 hz2 rfl (by decide) v n xs hown ⟨g, 0, none⟩ l.length cap (l.map E) (by simp) (exts_cells h3) (by intro u hu; obtain ⟨y, _, rfl⟩ := List.mem_map.1 hu; rfl) (by unfold maxLen; omega) (by omega) hbase
    obtain ⟨v', w', hr, a2, a3, _⟩ := hr
    unfold Oper.wp execOp
    simp only [ho, resolve, invoke, builtin, Sem.run_bind, Sem.run_pure, Result.andThen_ok, List.map_toArray, List.map_cons, List.map_nil, hs, hx, hr]
    exact hK _ _ (h v' w' a2 a3)

set_option maxRecDepth 100000 in
set_option maxHeartbeats 8000000 in
theorem walk (a : Option Addr) (len cap : Nat) (zs : List Int) (w : World) (hr : IsRow .i64 w a len cap zs) :
    Calls Try.prog 5 #[.slice a len cap] w fun e w' => e = .returned (.bool true) ∧ Q w w' := by
  go_enter Try.func5, Try.ntmps5
  go_wp2_with fail
  refine (row_any a len cap zs _ hr).mono ?_
  rintro e w1 ⟨va, l, rfl, hown1, hq1, hl20, Hsm⟩
  have hua : Upto M l := small_max Hsm.out
  have hua2 : Hid (Upto 269 l) := small_upto Hsm.out
  have hxa := ExtsAt.of_own hown1
  clear hown1 hr
  go_wp2_with fail
  refine (norm_any va l _ hxa hua.ok (by omega)).mono ?_
  rintro e w2 ⟨vn, n, rfl, hown2, hq2, Hn⟩
  have hnl : n.length ≤ 20 := by have := Hn.out.2.2.2; omega
  have hxn := ExtsAt.of_own hown2
  have hun : Upto M n := Hn.out.2.1
  replace hxa := hxa.keep hq2
  replace hq1 := hq1.trans hq2
  clear hown2 hq2
  go_wp2_with fail
  refine (holes_any va l 300 _ hxa hua.ok (by omega)).mono ?_
  rintro e w3 ⟨vh, h, rfl, hown3, hq3, Hh⟩
  replace Hh : Hid (IsHoles l 300 h) := by
    have := Hh.out
    rwa [show limN 300 = 300 from by decide +kernel] at this
  have hhl : h.length ≤ 21 := by have := Hh.out.2.2.2; omega
  have hxh := ExtsAt.of_own hown3
  have huh : Upto M h := Hh.out.2.1.mono (by unfold M; omega)
  replace hxn := hxn.keep hq3
  replace hq1 := hq1.trans hq3
  clear hown3 hq3 hxa
  have hsum : Hid (sumL n + sumL h = 300) := sum_both (hua2.out.mono (by omega)) (by unfold M; omega) Hn.out Hh.out
  have hle : Hid (∀ k, k ≤ n.length → sumL (n.take k) ≤ sumL n) := fun k hk => by
    unfold sumL
    conv => rhs; rw [← List.take_append_drop k n]
    rw [List.map_append, List.sum_append]
    omega
  have hle2 : Hid (∀ k, k ≤ h.length → sumL (h.take k) ≤ sumL h) := fun k hk => by
    unfold sumL
    conv => rhs; rw [← List.take_append_drop k h]
    rw [List.map_append, List.sum_append]
    omega
  have hua := Lib.hid hua
  have hun := Lib.hid hun
  have huh := Lib.hid huh
  obtain ⟨A, ca, rfl⟩ := hxn.form
  obtain ⟨B, cb, rfl⟩ := hxh.form
  go_wp2
  go_loopw [6, 7] (fun s i wr => ∃ k : Nat, i = .int .i64 k ∧ s = .int .i64 (sumL (n.take k)) ∧ k ≤ n.length ∧ Q w3 wr) (fun _ i _ => n.length - (intOf i).toNat)
  case atStart => exact ⟨0, rfl, rfl, by omega, Q.refl _⟩
  case round =>
    obtain ⟨k, rfl, rfl, hk, hq⟩ := hrel
    by_cases hkl : k < n.length
    · obtain ⟨g, _, ea, _, _, hc⟩ := (hxn.keep hq).at_ (by omega)
      cases ea
      have c1 := hc k hkl
      have o1 := hun.out _ (List.getElem_mem hkl)
      have hnx := sum_next n k hkl
      have hb1 := hle.out k (by omega)
      have hb2 := hle.out (k + 1) (by omega)
      have hb3 := hsum.out
      clear hc
      generalize n[k] = z at *
      have o2 : z.2 ≤ M := by omega
      generalize sumL (n.take k) = S at *
      generalize hS2 : sumL (n.take (k + 1)) = S2 at *
      go_wp2_with fail
      refine (long_any z _ o2).mono ?_
      rintro e w4 ⟨rfl, rfl⟩
      go_wp2
      go_roundw
      case rel => exact ⟨k + 1, by go_num, by rw [hS2, hnx]; go_num, by omega, hq⟩
      case measure => simp [intOf]; omega
    · have e1 : sumL (n.take k) = sumL n := by rw [List.take_of_length_le (by omega)]
      rw [e1]
      clear e1
      go_wp2
      go_loopw [6, 8] (fun s i wr => ∃ k : Nat, i = .int .i64 k ∧ s = .int .i64 ((sumL n + sumL (h.take k) : Nat) : Int) ∧ k ≤ h.length ∧ Q w3 wr) (fun _ i _ => h.length - (intOf i).toNat)
      case atStart => exact ⟨0, rfl, rfl, by omega, hq⟩
      case round =>
        obtain ⟨k, rfl, rfl, hk, hq⟩ := hrel
        by_cases hkl : k < h.length
        · obtain ⟨g, _, ea, _, _, hc⟩ := (hxh.keep hq).at_ (by omega)
          cases ea
          have c1 := hc k hkl
          have o1 := huh.out _ (List.getElem_mem hkl)
          have hnx := sum_next h k hkl
          have hb1 := hle2.out k (by omega)
          have hb2 := hle2.out (k + 1) (by omega)
          have hb3 := hsum.out
          clear hc
          generalize h[k] = z at *
          have o2 : z.2 ≤ M := by omega
          generalize sumL (h.take k) = S at *
          generalize hS2 : sumL (h.take (k + 1)) = S2 at *
          generalize sumL n = Sn at *
          go_wp2_with fail
          refine (long_any z _ o2).mono ?_
          rintro e w4 ⟨rfl, rfl⟩
          go_wp2
          go_roundw
          case rel => exact ⟨k + 1, by go_num, by rw [hS2, hnx]; go_num, by omega, hq⟩
          case measure => simp [intOf]; omega
        · have e1 : ((sumL n + sumL (h.take k) : Nat) : Int) = 300 := by
            rw [List.take_of_length_le (by omega), hsum.out]
            rfl
          rw [e1]
          clear e1 hle hle2
          replace hxn := hxn.keep hq
          replace hxh := hxh.keep hq
          replace hq1 := hq1.trans hq
          clear hq
          go_wp2_with fail
          refine (told_any _).mono ?_
          rintro e w4 ⟨rfl, hq4⟩
          replace hxn := hxn.keep hq4
          replace hxh := hxh.keep hq4
          replace hq1 := hq1.trans hq4
          clear hq4
          have hx3 : ExtsAt (w4.alloc (.cells #[] 31)) (.slice A n.length ca) n := hxn.keep ((Q.refl _).alloc _)
          go_wp2_with (at_builtin; refine wpList_append_exts rfl (.tmp 47) (.tmp 48) rfl w4.heap.size _ 0 [] rfl (World.ownsRow_lit w4 #[] 0 (Nat.le_refl _) (by decide) rfl) _ n rfl hx3 (by omega) (by rw [World.size_alloc]; omega) ?_)
          intro v5 w5 hown5 hg5
          have hq5 : Q w4 w5 := Below.grown ((Q.refl w4).alloc _) hg5 (by rw [World.size_alloc]; omega) fun g hg => by cases hg; exact Nat.le_refl _
          have hsz5 := hq5.size
          clear hx3 hg5
          go_wp2_with (at_builtin; refine wpList_append_exts rfl (.tmp 49) (.tmp 50) rfl w4.heap.size _ n.length _ rfl hown5 _ h rfl (hxh.keep hq5) (by omega) hsz5 ?_)
          intro v6 w6 hown6 hg6
          have hq6 : Q w4 w6 := Below.grown hq5 hg6 hsz5 fun g hg => (hown5.lt g hg).1
          have hx6 : ExtsAt w6 v6 (n ++ h) := by
            refine ExtsAt.of_own (base := w4.heap.size) (e := 31) ?_
            rw [List.length_append, List.map_append]
            exact hown6
          replace hxn := hxn.keep hq6
          replace hxh := hxh.keep hq6
          replace hq1 := hq1.trans hq6
          have hok : Ok (n ++ h) := fun x hx => (List.mem_append.1 hx).elim (hun.out.ok x) (huh.out.ok x)
          have hl6 : (n ++ h).length ≤ 100000 := by rw [List.length_append]; omega
          clear hown6 hown5 hg6 hsz5 hq5 hq6
          go_wp2_with fail
          refine (norm_any v6 (n ++ h) _ hx6 hok hl6).mono ?_
          rintro e w7 ⟨v7, r, rfl, hown7, hq7, Hr⟩
          obtain rfl := cover hua.out Hn.out Hh.out Hr.out (hua2.out.mono (by omega))
          have hx7 := ExtsAt.of_own hown7
          replace hxn := hxn.keep hq7
          replace hxh := hxh.keep hq7
          replace hq1 := hq1.trans hq7
          clear hown7 hq7 hx6 hok hl6
          have hx8 := ExtsAt.built w7 #[.complex .f64 0 4643985272004935680] 31 [(0, 300)] (by unfold E; simp only [List.map_cons, List.map_nil, f_0, f_300]) (by decide +kernel)
          have ok8 : Ok [(0, 300)] := ok_of_le (by decide +kernel)
          go_wp2_with fail
          refine (same_any v7 _ [(0, 300)] [(0, 300)] _ (hx7.keep ((Q.refl _).alloc _)) hx8 ok8 ok8).mono ?_
          rintro e w8 ⟨rfl, hq8⟩
          rw [decide_self]
          replace hq8 := ((Q.refl w7).alloc _).trans hq8
          replace hxn := hxn.keep hq8
          replace hxh := hxh.keep hq8
          replace hq1 := hq1.trans hq8
          clear hq8 hx7 hx8 ok8
          go_wp2_with fail
          refine (holes_any _ h 300 _ hxh huh.out.ok (by omega)).mono ?_
          rintro e w9 ⟨v9, r, rfl, hown9, hq9, Hr⟩
          obtain rfl := holes_back hua.out Hn.out Hh.out (hua2.out.mono (by omega)) (by have := Hr.out; rwa [show limN 300 = 300 from by decide +kernel] at this)
          have hx9 := ExtsAt.of_own hown9
          replace hxn := hxn.keep hq9
          replace hq1 := hq1.trans hq9
          clear hown9 hq9 hxh
          go_wp2_with fail
          refine (same_any v9 _ _ _ _ hx9 hxn hun.out.ok hun.out.ok).mono ?_
          rintro e w10 ⟨rfl, hq10⟩
          rw [decide_self]
          go_wp2
          go_ret
          exact ⟨rfl, hq1.trans hq10⟩

/-! ### The row -/
set_option maxRecDepth 100000 in
theorem lifted (os : Os) (started : os.Started) (H : Type) (enc : TypeId × Value → H) :
    ReturnsInHanded {} Try.checked os 5 .any (Rows.extentSumsSpec.pre6 enc Try.prog Try.f5 Rows.extentSumsRow.domain false) (Rows.extentSumsSpec.post enc Try.prog Try.f5 false true false false) := by
  refine returnsInHanded_of_change (C := Try.checked) own started (by kernel_rfl) Try.func5
    (ChangeSpec.witness6 (enc := enc) (C := Try.checked) false ⟨#[], #[.slice none 0 0], []⟩ 8 (by kernel_rfl) (by kernel_rfl) (by kernel_rfl) (by kernel_rfl)) ?_
  intro W base args ds gs before hval0 hW hcnd _
  have hval : ∀ (j : Nat) t v, Try.f5.params[j]? = some t → args[j]? = some v → Value.okWide Try.prog W .any base t v := hval0
  have hW' := hW
  obtain ⟨p, q, hA0, hV, rfl, hfz, hnd⟩ := hW
  have hA : DataW.TrodAll enc Try.prog W 0 (fun _ => true) true Try.f5.params.toList args.toList ds p := hA0
  rw [Try.params5] at hA hval
  obtain ⟨v0, vs0, d0, ds0, p0, q0, hargs, rfl, rfl, h0, r0⟩ := trodAll_cons hA
  obtain ⟨rfl, rfl, rfl⟩ := trodAll_nil r0
  obtain rfl : args = #[v0] := by cases args; simp_all
  obtain ⟨rfl, rfl⟩ := trodVars_none hV
  obtain ⟨a0, len0, cap0, rfl⟩ := okWide_slice Try.underlying22 (hval 0 22 v0 rfl rfl)
  have k0 := h0
  have lt0 : ∀ x ∈ p0, x.block < W.heap.size := by obtain ⟨m, hm⟩ := k0; exact DataW.trod_lt m _ _ _ hm
  obtain ⟨z0, w0⟩ : ∃ zs, IsRow .i64 W a0 len0 cap0 zs := by
    obtain ⟨fuel, hf⟩ := h0
    rcases open_ints Try.underlying22 Try.underlying3 (by kernel_rfl) hf with ⟨hcs, _⟩ | ⟨x, l, c, zs, hcs, _, hl, hm, hz, _, hcell, hwz⟩
    · simp [Value.cells] at hcs
      obtain ⟨rfl, rfl, rfl⟩ := hcs
      exact ⟨[], .inl ⟨rfl, rfl, rfl, rfl⟩⟩
    · simp [Value.cells] at hcs
      obtain ⟨rfl, rfl, rfl⟩ := hcs
      exact ⟨zs, .inr ⟨_, rfl, hl, hm, by simpa using hz, hcell, hwz⟩⟩
  clear hA0 hval0
  refine (walk a0 len0 cap0 z0 W w0).mono fun e W' ⟨he, bel⟩ => ?_
  subst he
  exact ⟨_, rfl, _, _, _, [], _, [], hW', trodAll_mk1 (shut_bool Try.underlying4 _), (trodAll_cons_mk (Below.trod laidOut (by kernel_rfl) (of_decide_eq_true (by kernel_rfl)) k0 bel lt0) trodAll_mk0), rfl, Below.frame bel _, fun h => by cases h⟩

theorem over : Rows.extentSumsRow.holds Try.pinned (OpenSpec.ofChange Rows.extentSumsSpec) :=
  OpenClaim.holds_of_wide 5 Try.f5 rfl rfl rfl rfl rfl rfl rfl ⟨rfl, rfl, rfl, rfl, rfl⟩ rfl rfl rfl rfl rfl (by kernel_rfl) Try.func5 (by kernel_rfl)
    (of_decide_eq_true (by kernel_rfl)) (by unfold Func.isWrapper; first | (rw [if_pos (by decide +kernel)]; kernel_rfl) | (rw [if_neg (by decide +kernel)]; exact ⟨rfl, rfl⟩))
    (fun os started H enc _ => lifted os started H enc)

theorem proved : Rows.ExtentSumsSaid := over


end Go.Proofs.Ytgpnhhfmfdbmdaa.sums
