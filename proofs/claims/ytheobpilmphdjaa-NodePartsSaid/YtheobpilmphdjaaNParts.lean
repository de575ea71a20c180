/-
  For every node (a valid file that is few, else it is told), every place in it and every two lengths: what is read in two parts is what is read at once. No condition.
-/
import Derived.Test.YtheobpilmphdjaaNOpen
import Derived.ShutString
import Derived.ChangeOld
namespace Go.Proofs.Ytheobpilmphdjaa.Nd.parts
open Go.ChangeShapes Go.WideShapes Go.ChangeAt Go.RowKit
open Go.ChangeMaps (open_string shut_string)
open Go.Proofs.Ytheobpilmphdjaa.Ex.Rng

theorem txt_zero (l : List Pc) (a : Nat) : txt l a 0 = ⟨#[]⟩ := rfl
theorem txt_append (l : List Pc) (a m n : Nat) : txt l a m ++ txt l (a + m) n = txt l a (m + n) := by
  refine ByteArray.ext ?_
  rw [ByteArray.data_append]
  refine Array.toList_inj.1 ?_
  unfold txt
  simp only [Array.toList_append, List.range_add, List.map_append, List.map_map]
  congr 1
  refine List.map_congr_left fun i _ => ?_
  show _ = (byteOf l (a + (m + i))).getD 0
  rw [Nat.add_assoc]
theorem two_reads {d : List Pc} {s p : Int} {x y : Nat} (h0 : 0 ≤ p) (h1 : p ≤ s) (h2 : s ≤ 1099511627776) :
    txt d (limN p) (limN (min (x : Int) (s - p))) ++ txt d (limN (p + (x : Int))) (limN (min (y : Int) (s - (p + (x : Int))))) = txt d (limN p) (limN (min ((x : Int) + (y : Int)) (s - p))) ∧ (txt d (limN p) (limN (min ((x : Int) + (y : Int)) (s - p)))).size ≤ x + y ∧ (txt d (limN p) (limN (min (x : Int) (s - p)))).size ≤ x ∧ (txt d (limN (p + (x : Int))) (limN (min (y : Int) (s - (p + (x : Int)))))).size ≤ y := by
  simp only [txt_size]
  refine ⟨?_, by unfold limN; omega, by unfold limN; omega, by unfold limN; omega⟩
  by_cases hx : (x : Int) ≤ s - p
  · rw [show limN (p + (x : Int)) = limN p + limN (min (x : Int) (s - p)) by unfold limN M; omega, txt_append]
    rw [show limN (min (x : Int) (s - p)) + limN (min (y : Int) (s - (p + (x : Int)))) = limN (min ((x : Int) + (y : Int)) (s - p)) by unfold limN M; omega]
  · rw [show limN (min (y : Int) (s - (p + (x : Int)))) = 0 by unfold limN; omega, txt_zero, show limN (min (x : Int) (s - p)) = limN (min ((x : Int) + (y : Int)) (s - p)) by unfold limN; omega]
    exact ByteArray.append_empty
theorem readV {n : Nd} {a long : Int} (h : fileB n = true) (h0 : 0 ≤ a) (h1 : 0 ≤ long) (h2 : long ≤ 4000) : readN n a long = (txt n.data (limN a) (limN (min long (n.size - a))), 0) := by
  unfold readN
  rw [if_pos ⟨h, h0, h1, h2⟩]
/-- All that the walk is told of a valid file. -/
theorem facts {n : Nd} (h : fileB n = true) (p : Int) (x y : Nat) (h0 : 0 ≤ p) (h1 : p ≤ n.size) (hx : x < 1000) (hy : y < 1000) :
    ∃ u v t : ByteArray, readN n p (x : Int) = (u, 0) ∧ readN n (p + (x : Int)) (y : Int) = (v, 0) ∧ readN n p ((x : Int) + (y : Int)) = (t, 0) ∧ u ++ v = t ∧ t.size ≤ x + y ∧ u.size ≤ x ∧ v.size ≤ y := by
  have hv := (fileB_vf h).2
  obtain ⟨e1, e2, e3, e4⟩ := two_reads (d := n.data) (x := x) (y := y) h0 h1 hv.s1
  exact ⟨_, _, _, readV h h0 (by omega) (by omega), readV h (by omega) (by omega) (by omega), readV h h0 (by omega) (by omega), e1, e2, e3, e4⟩

set_option maxRecDepth 100000 in
set_option maxHeartbeats 16000000 in
theorem walk (v : Value) (n : Nd) (at_ a b : Int) (w : World) (h : NodeAt w v n) :
    Calls Try.prog 4 #[v, .int .i64 at_, .int .i64 a, .int .i64 b] w fun e w' => e = .returned (.bool true) ∧ Q w w' := by
  have HF : Hid (∀ w', Q w w' → Calls Try.prog 14 #[v] w' fun e w'' => e = .returned (.bool (fewNd n)) ∧ Q w' w'') := fun w' q => fewNd_any v n w' (h.keep q)
  have HM : Hid (fewNd n = true → ∀ w', Q w w' → Calls Try.prog 11 #[v] w' fun e w'' => e = .returned (.bool (mayN n)) ∧ Q w' w'') := fun k w' q => may_any v n w' (h.keep q) (few_bounds k).1.da
  have HR : Hid (fewNd n = true → ∀ (a long c : Int) (s : ByteArray), a ≤ 9223372036854775807 → readN n a long = (s, c) → ∀ w', Q w w' → Calls Try.prog 10 #[v, .int .i64 a, .int .i64 long] w' fun e w'' => e = .returned (.tuple #[.string s, .int .i64 c]) ∧ Q w' w'') := fun k a long c s ha hr w' q => read_c (h.keep q) (few_bounds k).1 ha hr
  have FX : Hid (n.kind = 2 → mayN n = true → ∀ (p : Int) (x y : Nat), 0 ≤ p → p ≤ n.size → x < 1000 → y < 1000 → ∃ u v t : ByteArray, readN n p (x : Int) = (u, 0) ∧ readN n (p + (x : Int)) (y : Int) = (v, 0) ∧ readN n p ((x : Int) + (y : Int)) = (t, 0) ∧ u ++ v = t ∧ t.size ≤ x + y ∧ u.size ≤ x ∧ v.size ≤ y) := fun k1 k2 p x y => facts (by unfold fileB; rw [k2, k1]; rfl) p x y
  have HV : Hid (n.kind = 2 → mayN n = true → 0 ≤ n.size ∧ n.size ≤ 1099511627776) := fun k1 k2 => by
    have := (fileB_vf (n := n) (by unfold fileB; rw [k2, k1]; rfl)).2
    exact ⟨this.s0, this.s1⟩
  obtain ⟨va, vl, vd, rfl, -, -, -⟩ := h
  obtain ⟨kind, ⟨mode, uid, gid, time, attrs, acl⟩, size, data, target, major, minor⟩ := n
  unfold nodeV at HF HM HR ⊢
  simp only at HF HM HR FX HV ⊢
  go_enter Try.func4, Try.ntmps4
  go_wp2_with fail
  have x1 := BoxN.new w #[.int .i64 kind, .int .i64 mode, .int .i64 uid, .int .i64 gid, .int .i64 time, va, vl, .int .i64 size, vd, .string target, .int .i64 major, .int .i64 minor]
  have q1 : Q w (w.alloc (.cells #[.int .i64 kind, .int .i64 mode, .int .i64 uid, .int .i64 gid, .int .i64 time, va, vl, .int .i64 size, vd, .string target, .int .i64 major, .int .i64 minor] 29)) := (Q.refl w).alloc _
  generalize w.alloc (.cells #[.int .i64 kind, .int .i64 mode, .int .i64 uid, .int .i64 gid, .int .i64 time, va, vl, .int .i64 size, vd, .string target, .int .i64 major, .int .i64 minor] 29) = w1 at *
  generalize w.heap.size = gB at *
  refine (HF.out _ q1).mono ?_
  rintro e w2 ⟨rfl, q2⟩
  replace x1 := x1.keep q2
  replace q1 := q1.trans q2
  clear q2 HF
  cases hf : fewNd ⟨kind, ⟨mode, uid, gid, time, attrs, acl⟩, size, data, target, major, minor⟩ with
  | false =>
    clear HM HR FX HV hf
    go_wp2_with fail
    refine (told_any _).mono ?_
    rintro e w3 ⟨rfl, qa⟩
    go_wp2
    go_ret
    exact ⟨rfl, q1.trans qa⟩
  | true =>
    replace HM := Lib.hid (HM.out hf)
    replace HR := Lib.hid (HR.out hf)
    obtain ⟨k0, k1, k2, k3, k4, k5, k6, k7, k8, k9, k10, k11⟩ := x1.cells
    go_wp2_with fail
    clear k0 k1 k2 k3 k4 k5 k6 k7 k8 k9 k10 k11
    refine (HM.out _ q1).mono ?_
    rintro e w3 ⟨rfl, q2⟩
    replace x1 := x1.keep q2
    replace q1 := q1.trans q2
    clear q2 HM
    cases hm : mayN ⟨kind, ⟨mode, uid, gid, time, attrs, acl⟩, size, data, target, major, minor⟩ with
    | false =>
      clear HR FX HV hf hm
      go_wp2_with fail
      refine (told_any _).mono ?_
      rintro e w4 ⟨rfl, qa⟩
      go_wp2
      go_ret
      exact ⟨rfl, q1.trans qa⟩
    | true =>
      by_cases hk : kind = 2
      rotate_left
      · have t1 : (kind != (2 : Int)) = true := bne_iff_ne.2 hk
        obtain ⟨k0, k1, k2, k3, k4, k5, k6, k7, k8, k9, k10, k11⟩ := x1.cells
        clear HR FX HV hf hm hk
        go_wp2_with fail
        refine (told_any _).mono ?_
        rintro e w4 ⟨rfl, qa⟩
        go_wp2
        go_ret
        exact ⟨rfl, q1.trans qa⟩
      subst hk
      obtain ⟨s0, s1⟩ := HV.out rfl hm
      replace FX := Lib.hid (FX.out rfl hm)
      clear HV hm hf
      -- the place
      have wS : IntKind.i64.wrap (size + 1) = size + 1 := IntWalk.i64_in _ (by omega)
      have wU : IntKind.u64.wrap (size + 1) = size + 1 := by simp [IntKind.wrap, IntKind.bits, IntKind.signed]; omega
      have hne : ¬ (size + 1 = 0) := by omega
      obtain ⟨p, hp⟩ : ∃ p : Int, (IntKind.u64.wrap at_).tmod (size + 1) = p := ⟨_, rfl⟩
      have hpb : 0 ≤ p ∧ p ≤ size := by
        have h1 := Int.emod_lt_of_pos (IntKind.u64.wrap at_) (show (0 : Int) < size + 1 by omega)
        have h2 := Int.tmod_nonneg (size + 1) (wrap_u64_nonneg at_)
        rw [Int.tmod_eq_emod_of_nonneg (wrap_u64_nonneg at_)] at hp h2
        omega
      have wP : IntKind.i64.wrap p = p := IntWalk.i64_in _ (by omega)
      obtain ⟨x, hx, lx⟩ := rem_nat a 1000 (by decide)
      obtain ⟨y, hy, ly⟩ := rem_nat b 1000 (by decide)
      have hx' : (IntKind.u64.wrap a).tmod 1000 = (x : Int) := hx
      have hy' : (IntKind.u64.wrap b).tmod 1000 = (y : Int) := hy
      have wX : IntKind.i64.wrap (x : Int) = (x : Int) := IntWalk.i64_in _ (by omega)
      have wY : IntKind.i64.wrap (y : Int) = (y : Int) := IntWalk.i64_in _ (by omega)
      have wXY : IntKind.i64.wrap ((x : Int) + (y : Int)) = (x : Int) + (y : Int) := IntWalk.i64_in _ (by omega)
      have wPX : IntKind.i64.wrap (p + (x : Int)) = p + (x : Int) := IntWalk.i64_in _ (by omega)
      obtain ⟨u, v, t, r1, r2, r3, huv, ht, hu, hv⟩ := FX.out p x y hpb.1 hpb.2 lx ly
      have R1 := Lib.hid (HR.out p (x : Int) 0 u (by omega) r1)
      have R2 := Lib.hid (HR.out (p + (x : Int)) (y : Int) 0 v (by omega) r2)
      have R3 := Lib.hid (HR.out p ((x : Int) + (y : Int)) 0 t (by omega) r3)
      have had : Op.stringOp .add u v = pure (.string t) := by rw [add_str (by omega), huv]
      have hle : decide ((t.size : Int) ≤ (x : Int) + (y : Int)) = true := decide_eq_true (by omega)
      clear hx hy r1 r2 r3 huv ht hu hv FX HR lx ly
      replace hpb := Lib.hid hpb
      obtain ⟨k0, k1, k2, k3, k4, k5, k6, k7, k8, k9, k10, k11⟩ := x1.cells
      go_wp2_with fail
      clear k0 k1 k2 k3 k4 k5 k6 k7 k8 k9 k10 k11
      refine (R1.out _ q1).mono ?_
      rintro e w4 ⟨rfl, qa⟩
      replace x1 := x1.keep qa
      replace q1 := q1.trans qa
      obtain ⟨k0, k1, k2, k3, k4, k5, k6, k7, k8, k9, k10, k11⟩ := x1.cells
      go_wp2_with fail
      clear k0 k1 k2 k3 k4 k5 k6 k7 k8 k9 k10 k11
      refine (R2.out _ q1).mono ?_
      rintro e w5 ⟨rfl, qa⟩
      replace x1 := x1.keep qa
      replace q1 := q1.trans qa
      obtain ⟨k0, k1, k2, k3, k4, k5, k6, k7, k8, k9, k10, k11⟩ := x1.cells
      go_wp2_with fail
      clear k0 k1 k2 k3 k4 k5 k6 k7 k8 k9 k10 k11
      refine (R3.out _ q1).mono ?_
      rintro e w6 ⟨rfl, qa⟩
      replace q1 := q1.trans qa
      clear R1 R2 R3 x1 qa wP wU wS wX wY wPX hx' hy' hp
      go_wp2_with fail
      refine (told_any _).mono ?_
      rintro e w7 ⟨rfl, qa⟩
      replace q1 := q1.trans qa
      clear qa
      go_wp2
      go_ret
      exact ⟨rfl, q1⟩

/-! ### The row -/
set_option maxRecDepth 100000 in
theorem lifted (os : Os) (started : os.Started) (H : Type) (enc : TypeId × Value → H) :
    ReturnsInHanded {} Try.checked os 4 .any (Rows.nodePartsSpec.pre6 enc Try.prog Try.f4 Rows.nodePartsRow.domain false) (Rows.nodePartsSpec.post enc Try.prog Try.f4 false true false false) := by
  refine returnsInHanded_of_change (C := Try.checked) own started (by kernel_rfl) Try.func4
    (ChangeSpec.witness6 (enc := enc) (C := Try.checked) false ⟨#[], #[.agg #[.int .i64 0, .int .i64 0, .int .i64 0, .int .i64 0, .int .i64 0, .slice none 0 0, .slice none 0 0, .int .i64 0, .slice none 0 0, .string ByteArray.empty, .int .i64 0, .int .i64 0], .int .i64 0, .int .i64 0, .int .i64 0], []⟩ 8 (by kernel_rfl) (by kernel_rfl) (by kernel_rfl) (by kernel_rfl)) ?_
  intro W base args ds gs before hval0 hW hcnd _
  have hval : ∀ (j : Nat) t v, Try.f4.params[j]? = some t → args[j]? = some v → Value.okWide Try.prog W .any base t v := hval0
  have hW' := hW
  obtain ⟨p, q, hA0, hV, rfl, hfz, hnd⟩ := hW
  have hA : DataW.TrodAll enc Try.prog W 0 (fun _ => true) true Try.f4.params.toList args.toList ds p := hA0
  rw [Try.params4] at hA hval
  obtain ⟨v0, vs0, d0, ds0, p0, q0, hargs, rfl, rfl, h0, r0⟩ := trodAll_cons hA
  obtain ⟨v1, vs1, d1, ds1, p1, q1, rfl, rfl, rfl, h1, r1⟩ := trodAll_cons r0
  obtain ⟨v2, vs2, d2, ds2, p2, q2, rfl, rfl, rfl, h2, r2⟩ := trodAll_cons r1
  obtain ⟨v3, vs3, d3, ds3, p3, q3, rfl, rfl, rfl, h3, r3⟩ := trodAll_cons r2
  obtain ⟨rfl, rfl, rfl⟩ := trodAll_nil r3
  obtain rfl : args = #[v0, v1, v2, v3] := by cases args; simp_all
  obtain ⟨rfl, rfl⟩ := trodVars_none hV
  have k0 := h0
  have lt0 : ∀ x ∈ p0, x.block < W.heap.size := by obtain ⟨m, hm⟩ := k0; exact DataW.trod_lt m _ _ _ hm
  obtain ⟨z0, w0, f0⟩ := open_node (hval 0 29 v0 rfl rfl) h0
  obtain ⟨a1, rfl, rfl, rfl, w1⟩ := open_int Try.underlying2 (hval 1 2 v1 rfl rfl) h1
  obtain ⟨a2, rfl, rfl, rfl, w2⟩ := open_int Try.underlying3 (hval 2 3 v2 rfl rfl) h2
  obtain ⟨a3, rfl, rfl, rfl, w3⟩ := open_int Try.underlying3 (hval 3 3 v3 rfl rfl) h3
  clear hA0 hval0
  try simp only [List.append_nil] at hW'
  refine (walk _ z0 a1 a2 a3 W w0).mono fun e W' ⟨he, bel⟩ => ?_
  subst he
  exact ⟨_, rfl, _, _, _, [], _, [], hW', trodAll_mk1 (shut_bool Try.underlying4 _), (trodAll_cons_mk (Below.trod laidOut (by kernel_rfl) (of_decide_eq_true (by kernel_rfl)) k0 bel lt0) (trodAll_cons_mk (shut_int Try.underlying2 w1) (trodAll_cons_mk (shut_int Try.underlying3 w2) (trodAll_cons_mk (shut_int Try.underlying3 w3) trodAll_mk0)))), rfl, Below.frame bel _, fun h => by cases h⟩

theorem over : Rows.nodePartsRow.holds Try.pinned (OpenSpec.ofChange Rows.nodePartsSpec) :=
  OpenClaim.holds_of_wide 4 Try.f4 rfl rfl rfl rfl rfl rfl rfl ⟨rfl, rfl, rfl, rfl, rfl⟩ rfl rfl rfl rfl rfl (by kernel_rfl) Try.func4 (by kernel_rfl)
    (of_decide_eq_true (by kernel_rfl)) (by unfold Func.isWrapper; first | (rw [if_pos (by decide +kernel)]; kernel_rfl) | (rw [if_neg (by decide +kernel)]; exact ⟨rfl, rfl⟩))
    (fun os started H enc _ => lifted os started H enc)

theorem proved : Rows.NodePartsSaid := over

end Go.Proofs.Ytheobpilmphdjaa.Nd.parts
