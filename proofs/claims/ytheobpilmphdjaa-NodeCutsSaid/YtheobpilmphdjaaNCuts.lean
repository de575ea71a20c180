/-
  For every string (of at most 200 bytes, else it is told) and every two numbers: what was cut off reads as 0 when the file is made longer again. No condition.
-/
import Derived.Test.YtheobpilmphdjaaNLaws
import Derived.Test.YtheobpilmphdjaaOpenM
import Derived.ShutString
import Derived.ChangeOld
namespace Go.Proofs.Ytheobpilmphdjaa.Nd.cuts
open Go.ChangeShapes Go.WideShapes Go.ChangeAt Go.RowKit
open Go.ChangeMaps (open_string shut_string)
open Go.Proofs.Ytheobpilmphdjaa.Ex.Rng

/-- What is wanted of the first k bytes. -/
def want (s : ByteArray) (y k : Nat) : List UInt8 := (List.range y).map fun i => if i < k then s.data.getD i 0 else 0
theorem want_len (s : ByteArray) (y k : Nat) : (want s y k).length = y := by simp [want]
theorem want_start (s : ByteArray) (y : Nat) : List.replicate y (0 : UInt8) = want s y 0 := by
  refine List.ext_getElem (by simp [want]) fun i h1 h2 => ?_
  simp [want]
theorem want_step {s : ByteArray} {y k : Nat} : (want s y k).set k (s.data.getD k 0) = want s y (k + 1) := by
  refine List.ext_getElem (by simp [want]) fun i h1 h2 => ?_
  have hi : i < y := by simpa [want] using h2
  rw [List.getElem_set]
  by_cases h : k = i
  · subst h
    simp [want]
  · rw [if_neg h]
    simp only [want, List.getElem_map, List.getElem_range]
    by_cases h3 : i < k
    · rw [if_pos h3, if_pos (by omega)]
    · rw [if_neg h3, if_neg (by omega)]
/-- The pieces of one write at the beginning. -/
def d1 (s : ByteArray) : List Pc := if s.size = 0 then [] else [(0, s)]
theorem d1_w {s : ByteArray} (h : s.size ≤ 200) : writeN (F 0 []) 0 s = (F s.size (d1 s), 0) ∧ VF s.size (d1 s) := by
  have hv0 := vf_nil (s := 0) (by omega) (by omega)
  unfold d1
  by_cases h0 : s.size = 0
  · rw [if_pos h0]
    refine ⟨?_, vf_nil (by omega) (by omega)⟩
    rw [writeF_nil hv0 (by omega) (by omega) h0, h0]; rfl
  · rw [if_neg h0]
    have hd : wData [] 0 s = [(0, s)] := rfl
    have hl : (wData [] 0 s).length ≤ 16 := by rw [hd]; simp
    have hm : sumP (wData [] 0 s) ≤ 4000 := by rw [hd]; simp [sumP]; omega
    have hmx : max (0 : Int) (0 + (s.size : Int)) = s.size := by omega
    have e1 := writeF hv0 (a := 0) (by omega) (by omega) (by omega) hl hm
    have e2 := vf_write hv0 (a := 0) (by omega) (by omega) (by omega) hl hm
    rw [hmx, hd] at e1 e2
    exact ⟨e1, e2⟩
theorem d1_byte (s : ByteArray) (q : Nat) : byteOf (d1 s) q = if q < s.size then some (s.data.getD q 0) else none := by
  unfold d1
  by_cases h0 : s.size = 0
  · rw [if_pos h0, if_neg (by omega)]; rfl
  · rw [if_neg h0, show [((0 : Int), s)] = [] ++ [((0 : Int), s)] from rfl, byteOf_add, byteOf_nil]
    by_cases h : q < s.size
    · rw [if_pos h, if_pos (by unfold PIn; simp only; omega)]
      simp [byteP]
    · rw [if_neg h, if_neg (by unfold PIn; simp only; omega)]
theorem read_want {s : ByteArray} {x y k : Nat} (hk : k ≤ s.size) (hx : k ≤ x) (hy : k ≤ y) (hstop : ¬ (k < s.size ∧ k < x ∧ k < y)) : txt (clipP (clipP (d1 s) 0 x) 0 y) 0 y = ⟨(want s y k).toArray⟩ := by
  unfold txt want
  congr 2
  refine List.map_congr_left fun i hi => ?_
  have hi := List.mem_range.1 hi
  rw [clipP_byte, clipP_byte, d1_byte, Nat.zero_add, if_pos (show (0 : Int) ≤ (i : Int) ∧ (i : Int) < (y : Int) by omega)]
  by_cases h1 : i < k
  · rw [if_pos h1, if_pos (show (0 : Int) ≤ (i : Int) ∧ (i : Int) < (x : Int) by omega), if_pos (by omega)]; rfl
  · rw [if_neg h1]
    by_cases h2 : i < x
    · rw [if_pos (show (0 : Int) ≤ (i : Int) ∧ (i : Int) < (x : Int) by omega), if_neg (by omega)]; rfl
    · rw [if_neg (show ¬ ((0 : Int) ≤ (i : Int) ∧ (i : Int) < (x : Int)) by omega)]; rfl

set_option maxRecDepth 100000 in
set_option maxHeartbeats 16000000 in
theorem walk (s : ByteArray) (a b : Int) (w : World) :
    Calls Try.prog 6 #[.string s, .int .i64 a, .int .i64 b] w fun e w' => e = .returned (.bool true) ∧ Q w w' := by
  by_cases h2 : (200 : Int) < (s.size : Int)
  · have t1 : decide ((200 : Int) < (s.size : Int)) = true := decide_eq_true h2
    clear h2
    go_enter Try.func6, Try.ntmps6
    go_wp2_with fail
    refine (told_any _).mono ?_
    rintro e w1 ⟨rfl, q⟩
    go_wp2
    go_ret
    exact ⟨rfl, q⟩
  have t1 : decide ((200 : Int) < (s.size : Int)) = false := decide_eq_false h2
  obtain ⟨x, hx, lx⟩ := rem_nat a 301 (by decide)
  obtain ⟨y, hy, ly⟩ := rem_nat b 301 (by decide)
  have hx' : (IntKind.u64.wrap a).tmod 301 = (x : Int) := hx
  have hy' : (IntKind.u64.wrap b).tmod 301 = (y : Int) := hy
  clear hx hy
  have hs : s.size ≤ 200 := by omega
  obtain ⟨ew, hv1⟩ := d1_w hs
  have hv0 := vf_nil (s := 0) (by omega) (by omega)
  have ec := cutF (x := (x : Int)) hv1 (by omega) (by omega)
  have hv2 := vf_cut (x := (x : Int)) hv1 (by omega) (by omega)
  have ec2 := cutF (x := (y : Int)) hv2 (by omega) (by omega)
  have hv3 := vf_cut (x := (y : Int)) hv2 (by omega) (by omega)
  have er := readF hv3 (a := 0) (long := 400) (by omega) (by omega) (by omega)
  rw [show limN 0 = 0 from rfl, show limN (min 400 ((y : Int) - 0)) = y by unfold limN M; omega] at er
  have Hend : Hid (∀ k, k ≤ s.size → k ≤ x → k ≤ y → ¬ (k < s.size ∧ k < x ∧ k < y) → txt (clipP (clipP (d1 s) 0 x) 0 y) 0 y = ⟨(want s y k).toArray⟩) := fun k => read_want
  have hm3 := Lib.hid (F_may hv3)
  generalize hD1 : d1 s = e1 at *
  generalize hD2 : clipP e1 0 (x : Int) = e2 at *
  generalize hD3 : clipP e2 0 (y : Int) = e3 at *
  generalize txt e3 0 y = T at *
  clear hD1 hD2 hD3 h2
  replace ew := Lib.hid ew
  replace ec := Lib.hid ec
  replace ec2 := Lib.hid ec2
  replace er := Lib.hid er
  go_enter Try.func6, Try.ntmps6
  go_wp2_with fail
  refine (wF_c (F_zero _) hv0 (by omega) ew.out).mono ?_
  rintro e w1 ⟨Aa, ca, Al, cl, Ad, cd, rfl, ha, hl, hd, q⟩
  clear hx' hy'
  go_wp2_with fail
  have qa : Q w1 (w1.alloc (.cells #[.int .i64 2, .int .i64 0, .int .i64 0, .int .i64 0, .int .i64 0, .slice Aa 0 ca, .slice Al 0 cl, .int .i64 (s.size : Int), .slice Ad e1.length cd, .string ⟨#[]⟩, .int .i64 0, .int .i64 0] 29)) := (Q.refl _).alloc _
  replace ha := ha.keep qa
  replace hl := hl.keep qa
  replace hd := hd.keep qa
  replace q := q.trans qa
  generalize w1.alloc (.cells #[.int .i64 2, .int .i64 0, .int .i64 0, .int .i64 0, .int .i64 0, .slice Aa 0 ca, .slice Al 0 cl, .int .i64 (s.size : Int), .slice Ad e1.length cd, .string ⟨#[]⟩, .int .i64 0, .int .i64 0] 29) = w1b at *
  clear qa
  refine (cF_c (F_at ha hl hd) hv1 ec.out).mono ?_
  clear ha hl hd
  rintro e w2 ⟨Aa2, ca2, Al2, cl2, Ad2, cd2, rfl, ha, hl, hd, qa⟩
  replace q := q.trans qa
  clear qa
  go_wp2_with fail
  have qa : Q w2 (w2.alloc (.cells #[.int .i64 2, .int .i64 0, .int .i64 0, .int .i64 0, .int .i64 0, .slice Aa2 0 ca2, .slice Al2 0 cl2, .int .i64 (x : Int), .slice Ad2 e2.length cd2, .string ⟨#[]⟩, .int .i64 0, .int .i64 0] 29)) := (Q.refl _).alloc _
  replace ha := ha.keep qa
  replace hl := hl.keep qa
  replace hd := hd.keep qa
  replace q := q.trans qa
  generalize w2.alloc (.cells #[.int .i64 2, .int .i64 0, .int .i64 0, .int .i64 0, .int .i64 0, .slice Aa2 0 ca2, .slice Al2 0 cl2, .int .i64 (x : Int), .slice Ad2 e2.length cd2, .string ⟨#[]⟩, .int .i64 0, .int .i64 0] 29) = w2b at *
  clear qa
  refine (cF_c (F_at ha hl hd) hv2 ec2.out).mono ?_
  clear ha hl hd
  rintro e w3 ⟨Aa3, ca3, Al3, cl3, Ad3, cd3, rfl, ha, hl, hd, qa⟩
  replace q := q.trans qa
  clear qa
  go_wp2_with fail
  have bx := BoxN.new w3 #[.int .i64 2, .int .i64 0, .int .i64 0, .int .i64 0, .int .i64 0, .slice Aa3 0 ca3, .slice Al3 0 cl3, .int .i64 (y : Int), .slice Ad3 e3.length cd3, .string ⟨#[]⟩, .int .i64 0, .int .i64 0]
  have qa : Q w3 (w3.alloc (.cells #[.int .i64 2, .int .i64 0, .int .i64 0, .int .i64 0, .int .i64 0, .slice Aa3 0 ca3, .slice Al3 0 cl3, .int .i64 (y : Int), .slice Ad3 e3.length cd3, .string ⟨#[]⟩, .int .i64 0, .int .i64 0] 29)) := (Q.refl _).alloc _
  replace ha := ha.keep qa
  replace hl := hl.keep qa
  replace hd := hd.keep qa
  replace q := q.trans qa
  generalize w3.alloc (.cells #[.int .i64 2, .int .i64 0, .int .i64 0, .int .i64 0, .int .i64 0, .slice Aa3 0 ca3, .slice Al3 0 cl3, .int .i64 (y : Int), .slice Ad3 e3.length cd3, .string ⟨#[]⟩, .int .i64 0, .int .i64 0] 29) = w3b at *
  clear qa
  refine (read_c (F_at ha hl hd) (F_fit hv3) (by decide) er.out).mono ?_
  rintro e w4 ⟨rfl, qa⟩
  replace q := q.trans qa
  replace ha := ha.keep qa
  replace hl := hl.keep qa
  replace hd := hd.keep qa
  replace bx := bx.keep qa
  generalize w3.heap.size = gO at *
  clear qa ew ec ec2 er
  obtain ⟨Z, hZ⟩ : ∃ Z, Z = ((List.replicate y (0 : UInt8)).map byteV).toArray := ⟨_, rfl⟩
  have mk : ∀ w, (Instr.makeSlice 41 (.int .i64 (y : Int)) (.int .i64 (y : Int))).run Try.prog w = .ok (.slice (some ⟨w.heap.size, 0, none⟩) y y) (w.alloc (.cells Z 5)) := by rw [hZ]; exact make8 .i64 y (by omega)
  replace hZ := Lib.hid hZ
  go_wp2
  have R0 : Hid (Row8 (w4.alloc (.cells Z 5)) w4.heap.size (want s y 0)) := by
    show Row8 _ _ _
    rw [hZ.out, ← want_start]; exact Row8.new w4 _
  have q0 : Q w4 (w4.alloc (.cells Z 5)) := (Q.refl _).alloc _
  generalize w4.alloc (.cells Z 5) = w5 at *
  clear mk hZ
  go_loopw [18] (fun i wr => ∃ (k : Nat), i = .int .i64 k ∧ k ≤ s.size ∧ k ≤ x ∧ k ≤ y ∧ Q w4 wr ∧ Hid (Row8 wr w4.heap.size (want s y k))) (fun i _ => s.size - (intOf i).toNat)
  case atStart => exact ⟨0, rfl, by omega, by omega, by omega, q0, R0⟩
  case round =>
    obtain ⟨k, rfl, hks, hkx, hky, hq, R⟩ := hrel
    by_cases h1 : k < s.size
    · have u1 : decide ((k : Int) < (s.size : Int)) = true := decide_eq_true (by omega)
      by_cases h2 : k < x
      · have u2 : decide ((k : Int) < (x : Int)) = true := decide_eq_true (by omega)
        by_cases h3 : k < y
        · have u3 : decide ((k : Int) < (y : Int)) = true := decide_eq_true (by omega)
          have lt1 : (k : Int) < (s.size : Int) := by omega
          have lt2 : (k : Int) < (y : Int) := by omega
          have cc := R.out.cell k (by rw [want_len]; exact h3)
          have fr := R.out.soft k
          have R2 : Hid (Row8 (wr.setCell ⟨w4.heap.size, k, none⟩ (.int .u8 (s[k].toNat : Int))) w4.heap.size (want s y (k + 1))) := by
            have hsk : s[k] = s.data.getD k 0 := getB s k h1
            show Row8 _ _ _
            rw [← want_step, ← hsk]
            exact R.out.set k s[k]
          have hq2 : Q w4 (wr.setCell ⟨w4.heap.size, k, none⟩ (.int .u8 (s[k].toNat : Int))) := Q.setCell hq (Nat.le_refl _) _ _
          go_wp2
          go_roundw
          case rel => exact ⟨k + 1, by go_num, by omega, by omega, by omega, hq2, R2⟩
          case measure => simp [intOf]; omega
        · have u3 : decide ((k : Int) < (y : Int)) = false := decide_eq_false (by omega)
          obtain rfl := Hend.out k hks hkx hky (by omega)
          have cv := string8 wr w4.heap.size y (want s y k) R.out y (want_len _ _ _).symm
          go_wp2_with fail
          refine (told_any _).mono ?_
          rintro e w6 ⟨rfl, qa⟩
          have q6 := hq.trans qa
          have cv6 := string8 w6 w4.heap.size y (want s y k) (R.out.keep qa) y (want_len _ _ _).symm
          obtain ⟨k0, k1, k2, k3, k4, k5, k6, k7, k8, k9, k10, k11⟩ := (bx.keep q6).cells
          clear cv
          go_wp2_with fail
          refine (may_c (F_at (ha.keep q6) (hl.keep q6) (hd.keep q6)) hv3.small hm3.out).mono ?_
          rintro e w7 ⟨rfl, qb⟩
          go_wp2
          go_ret
          exact ⟨rfl, q.trans (q6.trans qb)⟩
      · have u2 : decide ((k : Int) < (x : Int)) = false := decide_eq_false (by omega)
        obtain rfl := Hend.out k hks hkx hky (by omega)
        have cv := string8 wr w4.heap.size y (want s y k) R.out y (want_len _ _ _).symm
        go_wp2_with fail
        refine (told_any _).mono ?_
        rintro e w6 ⟨rfl, qa⟩
        have q6 := hq.trans qa
        have cv6 := string8 w6 w4.heap.size y (want s y k) (R.out.keep qa) y (want_len _ _ _).symm
        obtain ⟨k0, k1, k2, k3, k4, k5, k6, k7, k8, k9, k10, k11⟩ := (bx.keep q6).cells
        clear cv
        go_wp2_with fail
        refine (may_c (F_at (ha.keep q6) (hl.keep q6) (hd.keep q6)) hv3.small hm3.out).mono ?_
        rintro e w7 ⟨rfl, qb⟩
        go_wp2
        go_ret
        exact ⟨rfl, q.trans (q6.trans qb)⟩
    · have u1 : decide ((k : Int) < (s.size : Int)) = false := decide_eq_false (by omega)
      obtain rfl := Hend.out k hks hkx hky (by omega)
      have cv := string8 wr w4.heap.size y (want s y k) R.out y (want_len _ _ _).symm
      go_wp2_with fail
      refine (told_any _).mono ?_
      rintro e w6 ⟨rfl, qa⟩
      have q6 := hq.trans qa
      have cv6 := string8 w6 w4.heap.size y (want s y k) (R.out.keep qa) y (want_len _ _ _).symm
      obtain ⟨k0, k1, k2, k3, k4, k5, k6, k7, k8, k9, k10, k11⟩ := (bx.keep q6).cells
      clear cv
      go_wp2_with fail
      refine (may_c (F_at (ha.keep q6) (hl.keep q6) (hd.keep q6)) hv3.small hm3.out).mono ?_
      rintro e w7 ⟨rfl, qb⟩
      go_wp2
      go_ret
      exact ⟨rfl, q.trans (q6.trans qb)⟩

/-! ### The row -/
set_option maxRecDepth 100000 in
theorem lifted (os : Os) (started : os.Started) (H : Type) (enc : TypeId × Value → H) :
    ReturnsInHanded {} Try.checked os 6 .any (Rows.nodeCutsSpec.pre6 enc Try.prog Try.f6 Rows.nodeCutsRow.domain false) (Rows.nodeCutsSpec.post enc Try.prog Try.f6 false true false false) := by
  refine returnsInHanded_of_change (C := Try.checked) own started (by kernel_rfl) Try.func6
    (ChangeSpec.witness6 (enc := enc) (C := Try.checked) false ⟨#[], #[.string ByteArray.empty, .int .i64 0, .int .i64 0], []⟩ 8 (by kernel_rfl) (by kernel_rfl) (by kernel_rfl) (by kernel_rfl)) ?_
  intro W base args ds gs before hval0 hW hcnd _
  have hval : ∀ (j : Nat) t v, Try.f6.params[j]? = some t → args[j]? = some v → Value.okWide Try.prog W .any base t v := hval0
  have hW' := hW
  obtain ⟨p, q, hA0, hV, rfl, hfz, hnd⟩ := hW
  have hA : DataW.TrodAll enc Try.prog W 0 (fun _ => true) true Try.f6.params.toList args.toList ds p := hA0
  rw [Try.params6] at hA hval
  obtain ⟨v0, vs0, d0, ds0, p0, q0, hargs, rfl, rfl, h0, r0⟩ := trodAll_cons hA
  obtain ⟨v1, vs1, d1, ds1, p1, q1, rfl, rfl, rfl, h1, r1⟩ := trodAll_cons r0
  obtain ⟨v2, vs2, d2, ds2, p2, q2, rfl, rfl, rfl, h2, r2⟩ := trodAll_cons r1
  obtain ⟨rfl, rfl, rfl⟩ := trodAll_nil r2
  obtain rfl : args = #[v0, v1, v2] := by cases args; simp_all
  obtain ⟨rfl, rfl⟩ := trodVars_none hV
  obtain ⟨a0, rfl, rfl, rfl, w0⟩ := open_string Try.underlying9 (hval 0 9 v0 rfl rfl) h0
  obtain ⟨a1, rfl, rfl, rfl, w1⟩ := open_int Try.underlying3 (hval 1 3 v1 rfl rfl) h1
  obtain ⟨a2, rfl, rfl, rfl, w2⟩ := open_int Try.underlying3 (hval 2 3 v2 rfl rfl) h2
  clear hA0 hval0
  try simp only [List.append_nil] at hW'
  refine (walk a0 a1 a2 W).mono fun e W' ⟨he, bel⟩ => ?_
  subst he
  exact ⟨_, rfl, _, _, _, [], _, [], hW', trodAll_mk1 (shut_bool Try.underlying4 _), (trodAll_cons_mk (shut_string Try.underlying9 w0) (trodAll_cons_mk (shut_int Try.underlying3 w1) (trodAll_cons_mk (shut_int Try.underlying3 w2) trodAll_mk0))), rfl, Below.frame bel _, fun h => by cases h⟩

theorem over : Rows.nodeCutsRow.holds Try.pinned (OpenSpec.ofChange Rows.nodeCutsSpec) :=
  OpenClaim.holds_of_wide 6 Try.f6 rfl rfl rfl rfl rfl rfl rfl ⟨rfl, rfl, rfl, rfl, rfl⟩ rfl rfl rfl rfl rfl (by kernel_rfl) Try.func6 (by kernel_rfl)
    (of_decide_eq_true (by kernel_rfl)) (by unfold Func.isWrapper; first | (rw [if_pos (by decide +kernel)]; kernel_rfl) | (rw [if_neg (by decide +kernel)]; exact ⟨rfl, rfl⟩))
    (fun os started H enc _ => lifted os started H enc)

theorem proved : Rows.NodeCutsSaid := over

end Go.Proofs.Ytheobpilmphdjaa.Nd.cuts
