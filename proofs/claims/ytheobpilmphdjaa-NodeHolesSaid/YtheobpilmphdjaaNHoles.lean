/-
  For every two numbers: two writes apart leave a hole that reads as 0s and costs nothing; what is written into it makes all one piece. No condition.
-/
import Derived.Test.YtheobpilmphdjaaNLaws
import Derived.Test.YtheobpilmphdjaaOpenM
import Derived.ShutString
import Derived.ChangeOld
namespace Go.Proofs.Ytheobpilmphdjaa.Nd.holes
open Go.ChangeShapes Go.WideShapes Go.ChangeAt Go.RowKit
open Go.ChangeMaps (open_string shut_string)
open Go.Proofs.Ytheobpilmphdjaa.Ex.Rng

/-- A byte, n times. -/
def rep (c : UInt8) (n : Nat) : ByteArray := ⟨(List.replicate n c).toArray⟩
theorem rep_size (c : UInt8) (n : Nat) : (rep c n).size = n := by show ((List.replicate n c).toArray).size = n; simp
theorem rep_add (c : UInt8) (n : Nat) : rep c n ++ ⟨#[c]⟩ = rep c (n + 1) := by
  refine ByteArray.ext ?_
  rw [ByteArray.data_append]
  refine Array.toList_inj.1 ?_
  simp [rep, List.replicate_succ']
theorem rep_at (c : UInt8) (n i : Nat) (h : i < n) : (rep c n).data.getD i 0 = c := by simp [rep, Array.getD, h]
theorem rep_get (c : UInt8) (n i : Nat) : (rep c n).data[i]? = if i < n then some c else none := by
  unfold rep
  simp only [List.getElem?_toArray, List.getElem?_replicate]
theorem one_w (k g : Nat) : wData [(0, rep 120 k)] ((k : Int) + (g : Int)) (rep 120 k) = [(0, rep 120 k), ((k : Int) + (g : Int), rep 120 k)] ∨ ¬ (0 < k ∧ 0 < g ∧ k ≤ 50 ∧ g ≤ 300) := by
  by_cases h : 0 < k ∧ 0 < g ∧ k ≤ 50 ∧ g ≤ 300
  · left
    have hs := rep_size 120 k
    have hw : WF [((0 : Int), rep 120 k)] := WF.nil_.add (by simp) (by rw [hs]; omega) (by simp)
    have hw2 : WF ([((0 : Int), rep 120 k)] ++ [((k : Int) + (g : Int), rep 120 k)]) := hw.add (by simp only; omega) (by rw [hs]; omega) (fun x hx => by rw [List.mem_singleton.1 hx]; simp only [hs]; omega)
    refine wf_ext (wData_wf hw (by omega) (by rw [hs]; omega)) hw2 fun q => ?_
    change byteOf (wData [((0 : Int), rep 120 k)] ((k : Int) + (g : Int)) (rep 120 k)) q = byteOf ([((0 : Int), rep 120 k)] ++ [((k : Int) + (g : Int), rep 120 k)]) q
    rw [wData_byte hw (fun p hp => by rw [List.mem_singleton.1 hp]; simp only [hs]; omega) (by omega) (by rw [hs]; omega), byteOf_add]
  · right; exact h
theorem two_w (k g : Nat) (h : 0 < k ∧ 0 < g ∧ k ≤ 50 ∧ g ≤ 300) : wData [(0, rep 120 k), ((k : Int) + (g : Int), rep 120 k)] (k : Int) (rep 121 g) = [(0, rep 120 k ++ rep 121 g ++ rep 120 k)] := by
  have hs := rep_size 120 k
  have hg := rep_size 121 g
  have hS : (rep 120 k ++ rep 121 g ++ rep 120 k).size = k + g + k := by simp [hs, hg]
  have hw : WF [((0 : Int), rep 120 k)] := WF.nil_.add (by simp) (by rw [hs]; omega) (by simp)
  have hw2 : WF ([((0 : Int), rep 120 k)] ++ [((k : Int) + (g : Int), rep 120 k)]) := hw.add (by simp only; omega) (by rw [hs]; omega) (fun x hx => by rw [List.mem_singleton.1 hx]; simp only [hs]; omega)
  have hw3 : WF ([] ++ [((0 : Int), rep 120 k ++ rep 121 g ++ rep 120 k)]) := WF.nil_.add (by simp) (by rw [hS]; omega) (by simp)
  refine wf_ext (wData_wf hw2 (by omega) (by rw [hg]; omega)) hw3 fun q => ?_
  change byteOf (wData ([((0 : Int), rep 120 k)] ++ [((k : Int) + (g : Int), rep 120 k)]) (k : Int) (rep 121 g)) q = byteOf ([] ++ [((0 : Int), rep 120 k ++ rep 121 g ++ rep 120 k)]) q
  rw [wData_byte hw2 (fun p hp => by
    rcases List.mem_append.1 hp with hp | hp
    · rw [List.mem_singleton.1 hp]; simp only [hs]; omega
    · rw [List.mem_singleton.1 hp]; simp only [hs]; omega) (by omega) (by rw [hg]; omega), byteOf_add, byteOf_add, byteOf_nil, show [((0 : Int), rep 120 k)] = [] ++ [((0 : Int), rep 120 k)] from rfl, byteOf_add, byteOf_nil]
  unfold PIn byteP
  simp only [hs, hg, hS, ByteArray.data_append, Array.getD_eq_getD_getElem?, Array.getElem?_append, rep_get, Array.size_append, show (rep 120 k).data.size = k from hs, show (rep 121 g).data.size = g from hg]
  by_cases h1 : q < k
  · have a1 : ¬ ((k : Int) ≤ q ∧ (q : Int) < (k : Int) + (g : Int)) := by omega
    have a2 : ¬ ((k : Int) + (g : Int) ≤ q ∧ (q : Int) < (k : Int) + (g : Int) + (k : Int)) := by omega
    have a3 : (0 : Int) ≤ q ∧ (q : Int) < 0 + (k : Int) := by omega
    have a4 : (0 : Int) ≤ q ∧ (q : Int) < 0 + ((k + g + k : Nat) : Int) := by omega
    have e : ((q : Int) - 0).toNat = q := by omega
    rw [if_neg a1, if_neg a2, if_pos a3, if_pos a4, e, if_pos (show q < k + g by omega), if_pos h1, if_pos h1]
  · by_cases h2 : q < k + g
    · have a1 : (k : Int) ≤ q ∧ (q : Int) < (k : Int) + (g : Int) := by omega
      have a4 : (0 : Int) ≤ q ∧ (q : Int) < 0 + ((k + g + k : Nat) : Int) := by omega
      have e : ((q : Int) - 0).toNat = q := by omega
      rw [if_pos a1, if_pos a4, e, if_pos h2, if_neg h1, if_pos (show ((q : Int) - (k : Int)).toNat < g by omega), if_pos (show q - k < g by omega)]
    · by_cases h3 : q < k + g + k
      · have a1 : ¬ ((k : Int) ≤ q ∧ (q : Int) < (k : Int) + (g : Int)) := by omega
        have a2 : (k : Int) + (g : Int) ≤ q ∧ (q : Int) < (k : Int) + (g : Int) + (k : Int) := by omega
        have a4 : (0 : Int) ≤ q ∧ (q : Int) < 0 + ((k + g + k : Nat) : Int) := by omega
        have e : ((q : Int) - 0).toNat = q := by omega
        rw [if_neg a1, if_pos a2, if_pos a4, e, if_neg h2, if_pos (show ((q : Int) - ((k : Int) + (g : Int))).toNat < k by omega), if_pos (show q - (k + g) < k by omega)]
      · have a1 : ¬ ((k : Int) ≤ q ∧ (q : Int) < (k : Int) + (g : Int)) := by omega
        have a2 : ¬ ((k : Int) + (g : Int) ≤ q ∧ (q : Int) < (k : Int) + (g : Int) + (k : Int)) := by omega
        have a3 : ¬ ((0 : Int) ≤ q ∧ (q : Int) < 0 + (k : Int)) := by omega
        have a4 : ¬ ((0 : Int) ≤ q ∧ (q : Int) < 0 + ((k + g + k : Nat) : Int)) := by omega
        rw [if_neg a1, if_neg a2, if_neg a3, if_neg a4]
theorem hole_read (k g : Nat) (_ : 0 < g) : txt [(0, rep 120 k), ((k : Int) + (g : Int), rep 120 k)] k g = ⟨(List.replicate g (0 : UInt8)).toArray⟩ := by
  unfold txt
  congr 2
  refine List.ext_getElem (by simp) fun i h1 h2 => ?_
  have hi : i < g := by simpa using h1
  simp only [List.getElem_map, List.getElem_range, List.getElem_replicate]
  rw [byteOf_none]
  · rfl
  · intro p hp hin
    have hs := rep_size 120 k
    unfold PIn at hin
    rcases List.mem_cons.1 hp with rfl | hp
    · simp only [hs] at hin; omega
    · rw [List.mem_singleton.1 hp] at hin; simp only [hs] at hin; omega
/-- All that the walk is told. -/
theorem facts (k g : Nat) (h : 0 < k ∧ 0 < g ∧ k ≤ 50 ∧ g ≤ 300) :
    writeN (F 0 []) 0 (rep 120 k) = (F (k : Int) [(0, rep 120 k)], 0) ∧ VF (k : Int) [(0, rep 120 k)] ∧
    writeN (F (k : Int) [(0, rep 120 k)]) ((k : Int) + (g : Int)) (rep 120 k) = (F ((k : Int) + (g : Int) + (k : Int)) [(0, rep 120 k), ((k : Int) + (g : Int), rep 120 k)], 0) ∧ VF ((k : Int) + (g : Int) + (k : Int)) [(0, rep 120 k), ((k : Int) + (g : Int), rep 120 k)] ∧
    readN (F ((k : Int) + (g : Int) + (k : Int)) [(0, rep 120 k), ((k : Int) + (g : Int), rep 120 k)]) (k : Int) (g : Int) = (⟨(List.replicate g (0 : UInt8)).toArray⟩, 0) ∧
    writeN (F ((k : Int) + (g : Int) + (k : Int)) [(0, rep 120 k), ((k : Int) + (g : Int), rep 120 k)]) (k : Int) (rep 121 g) = (F ((k : Int) + (g : Int) + (k : Int)) [(0, rep 120 k ++ rep 121 g ++ rep 120 k)], 0) := by
  have hs := rep_size 120 k
  have hg := rep_size 121 g
  have hv0 := vf_nil (s := 0) (by omega) (by omega)
  have e0 : wData [] 0 (rep 120 k) = [(0, rep 120 k)] := rfl
  have l0 : (wData [] 0 (rep 120 k)).length ≤ 16 := by rw [e0]; simp
  have m0 : sumP (wData [] 0 (rep 120 k)) ≤ 4000 := by rw [e0]; simp only [sumP, hs]; omega
  have w1 := writeF hv0 (a := 0) (by omega) (by omega) (by omega) l0 m0
  have v1 := vf_write hv0 (a := 0) (by omega) (by omega) (by omega) l0 m0
  rw [e0, hs, show max (0 : Int) (0 + (k : Int)) = (k : Int) by omega] at w1 v1
  have e1 := (one_w k g).resolve_right (fun hn => hn h)
  have l1 : (wData [(0, rep 120 k)] ((k : Int) + (g : Int)) (rep 120 k)).length ≤ 16 := by rw [e1]; simp
  have m1 : sumP (wData [(0, rep 120 k)] ((k : Int) + (g : Int)) (rep 120 k)) ≤ 4000 := by rw [e1]; simp only [sumP, hs]; omega
  have w2 := writeF v1 (a := (k : Int) + (g : Int)) (by omega) (by omega) (by omega) l1 m1
  have v2 := vf_write v1 (a := (k : Int) + (g : Int)) (by omega) (by omega) (by omega) l1 m1
  rw [e1, hs, show max (k : Int) ((k : Int) + (g : Int) + (k : Int)) = (k : Int) + (g : Int) + (k : Int) by omega] at w2 v2
  have r2 := readF v2 (a := (k : Int)) (long := (g : Int)) (by omega) (by omega) (by omega)
  rw [show limN (k : Int) = k by unfold limN M; omega, show limN (min (g : Int) ((k : Int) + (g : Int) + (k : Int) - (k : Int))) = g by unfold limN M; omega, hole_read k g h.2.1] at r2
  have e3 := two_w k g h
  have l3 : (wData [(0, rep 120 k), ((k : Int) + (g : Int), rep 120 k)] (k : Int) (rep 121 g)).length ≤ 16 := by rw [e3]; simp
  have m3 : sumP (wData [(0, rep 120 k), ((k : Int) + (g : Int), rep 120 k)] (k : Int) (rep 121 g)) ≤ 4000 := by rw [e3]; simp only [sumP, ByteArray.size_append, hs, hg]; omega
  have w3 := writeF v2 (a := (k : Int)) (by omega) (by omega) (by omega) l3 m3
  rw [e3, hg, show max ((k : Int) + (g : Int) + (k : Int)) ((k : Int) + (g : Int)) = (k : Int) + (g : Int) + (k : Int) by omega] at w3
  exact ⟨w1, v1, w2, v2, r2, w3⟩

set_option maxRecDepth 100000 in
set_option maxHeartbeats 16000000 in
theorem walk (a b : Int) (w : World) :
    Calls Try.prog 5 #[.int .i64 a, .int .i64 b] w fun e w' => e = .returned (.bool true) ∧ Q w w' := by
  obtain ⟨x, hx, lx⟩ := rem_nat a 300 (by decide)
  obtain ⟨y, hy, ly⟩ := rem_nat b 50 (by decide)
  have hx' : (IntKind.u64.wrap a).tmod 300 = (x : Int) := hx
  have hy' : (IntKind.u64.wrap b).tmod 50 = (y : Int) := hy
  clear hx hy
  obtain ⟨g, hg⟩ : ∃ g, g = 1 + x := ⟨_, rfl⟩
  obtain ⟨k, hk⟩ : ∃ k, k = 1 + y := ⟨_, rfl⟩
  have wg : IntKind.i64.wrap (1 + (x : Int)) = (g : Int) := by rw [show (1 : Int) + (x : Int) = (g : Int) by omega]; exact IntWalk.i64_in _ (by omega)
  have wk : IntKind.i64.wrap (1 + (y : Int)) = (k : Int) := by rw [show (1 : Int) + (y : Int) = (k : Int) by omega]; exact IntWalk.i64_in _ (by omega)
  have wx : IntKind.i64.wrap (x : Int) = (x : Int) := IntWalk.i64_in _ (by omega)
  have wy : IntKind.i64.wrap (y : Int) = (y : Int) := IntWalk.i64_in _ (by omega)
  have gb : 0 < k ∧ 0 < g ∧ k ≤ 50 ∧ g ≤ 300 := by omega
  clear hg hk lx ly
  obtain ⟨w1, v1, w2, v2, r2, w3⟩ := facts k g gb
  have hv0 := vf_nil (s := 0) (by omega) (by omega)
  have hs := rep_size 120 k
  have hgs := rep_size 121 g
  obtain ⟨k0, g0, k1, g1⟩ := gb
  have hsum : Hid (sumP [((0 : Int), rep 120 k), ((k : Int) + (g : Int), rep 120 k)] = 2 * k) := by simp only [sumP, hs, Hid]; omega
  have hadd : ∀ i, i ≤ 50 → Op.stringOp .add (rep 120 i) ⟨#[120]⟩ = pure (.string (rep 120 (i + 1))) := fun i hi => by rw [add_str (by rw [rep_size]; show i + 1 ≤ 1000000; omega), rep_add]
  have hadd2 : ∀ i, i ≤ 300 → Op.stringOp .add (rep 121 i) ⟨#[121]⟩ = pure (.string (rep 121 (i + 1))) := fun i hi => by rw [add_str (by rw [rep_size]; show i + 1 ≤ 1000000; omega), rep_add]
  have ad1 : Op.stringOp .add (rep 120 k) (rep 121 g) = pure (.string (rep 120 k ++ rep 121 g)) := add_str (by rw [hs, hgs]; omega)
  have ad2 : Op.stringOp .add (rep 120 k ++ rep 121 g) (rep 120 k) = pure (.string (rep 120 k ++ rep 121 g ++ rep 120 k)) := add_str (by rw [ByteArray.size_append, hs, hgs]; omega)
  have hstart : Hid ((⟨#[]⟩ : ByteArray) = rep 120 0 ∧ (⟨#[]⟩ : ByteArray) = rep 121 0) := ⟨rfl, rfl⟩
  replace w1 := Lib.hid w1
  replace w2 := Lib.hid w2
  replace w3 := Lib.hid w3
  replace r2 := Lib.hid r2
  replace hs := Lib.hid hs
  replace hgs := Lib.hid hgs
  replace hadd := Lib.hid hadd
  replace hadd2 := Lib.hid hadd2
  go_enter Try.func5, Try.ntmps5
  go_wp2
  clear hx' hy' wg wk wx wy
  go_loopw [7, 8] (fun s i wr => ∃ (j : Nat), i = .int .i64 j ∧ s = .string (rep 120 j) ∧ j ≤ k ∧ Q w wr) (fun _ i _ => k - (intOf i).toNat)
  case atStart => exact ⟨0, rfl, by rw [hstart.out.1], by omega, Q.refl _⟩
  case round =>
    obtain ⟨j, rfl, rfl, hj, q⟩ := hrel
    by_cases h1 : j < k
    · have u1 : decide ((j : Int) < (k : Int)) = true := decide_eq_true (by omega)
      have ha := hadd.out j (by omega)
      go_wp2
      go_roundw
      case rel => exact ⟨j + 1, by go_num, rfl, by omega, q⟩
      case measure => simp [intOf]; omega
    obtain rfl : j = k := by omega
    clear h1 hj
    go_wp2_with fail
    refine (wF_c (F_zero _) hv0 (by rw [hs.out]; omega) w1.out).mono ?_
    rintro e w4 ⟨Aa, ca, Al, cl, Ad, cd, rfl, ha, hl, hd, qa⟩
    replace q := q.trans qa
    clear qa
    simp only [List.length_cons, List.length_nil, Nat.zero_add] at hd ⊢
    have wkg : IntKind.i64.wrap ((j : Int) + (g : Int)) = (j : Int) + (g : Int) := IntWalk.i64_in _ (by omega)
    go_wp2_with fail
    have qa : Q w4 (w4.alloc (.cells #[.int .i64 2, .int .i64 0, .int .i64 0, .int .i64 0, .int .i64 0, .slice Aa 0 ca, .slice Al 0 cl, .int .i64 (j : Int), .slice Ad 1 cd, .string ⟨#[]⟩, .int .i64 0, .int .i64 0] 29)) := (Q.refl _).alloc _
    replace ha := ha.keep qa
    replace hl := hl.keep qa
    replace hd := hd.keep qa
    replace q := q.trans qa
    generalize w4.alloc (.cells #[.int .i64 2, .int .i64 0, .int .i64 0, .int .i64 0, .int .i64 0, .slice Aa 0 ca, .slice Al 0 cl, .int .i64 (j : Int), .slice Ad 1 cd, .string ⟨#[]⟩, .int .i64 0, .int .i64 0] 29) = w4b at *
    clear qa
    refine (wF_c (F_at ha hl hd) v1 (by rw [hs.out]; omega) w2.out).mono ?_
    clear ha hl hd wkg
    rintro e w5 ⟨Aa2, ca2, Al2, cl2, Ad2, cd2, rfl, ha, hl, hd, qa⟩
    replace q := q.trans qa
    clear qa
    simp only [List.length_cons, List.length_nil, Nat.zero_add] at hd ⊢
    go_wp2_with fail
    have bm := BoxN.new w5 #[.int .i64 2, .int .i64 0, .int .i64 0, .int .i64 0, .int .i64 0, .slice Aa2 0 ca2, .slice Al2 0 cl2, .int .i64 ((j : Int) + (g : Int) + (j : Int)), .slice Ad2 2 cd2, .string ⟨#[]⟩, .int .i64 0, .int .i64 0]
    have qa : Q w5 (w5.alloc (.cells #[.int .i64 2, .int .i64 0, .int .i64 0, .int .i64 0, .int .i64 0, .slice Aa2 0 ca2, .slice Al2 0 cl2, .int .i64 ((j : Int) + (g : Int) + (j : Int)), .slice Ad2 2 cd2, .string ⟨#[]⟩, .int .i64 0, .int .i64 0] 29)) := (Q.refl _).alloc _
    replace ha := ha.keep qa
    replace hl := hl.keep qa
    replace hd := hd.keep qa
    replace q := q.trans qa
    generalize w5.alloc (.cells #[.int .i64 2, .int .i64 0, .int .i64 0, .int .i64 0, .int .i64 0, .slice Aa2 0 ca2, .slice Al2 0 cl2, .int .i64 ((j : Int) + (g : Int) + (j : Int)), .slice Ad2 2 cd2, .string ⟨#[]⟩, .int .i64 0, .int .i64 0] 29) = w5b at *
    clear qa
    generalize w5.heap.size = gbm at *
    refine (read_c (F_at ha hl hd) (F_fit v2) (by omega) r2.out).mono ?_
    rintro e w6 ⟨rfl, qa⟩
    replace q := q.trans qa
    replace ha := ha.keep qa
    replace hl := hl.keep qa
    replace hd := hd.keep qa
    replace bm := bm.keep qa
    clear qa r2
    obtain ⟨Z, hZ⟩ : ∃ Z, Z = ((List.replicate g (0 : UInt8)).map byteV).toArray := ⟨_, rfl⟩
    have mk : ∀ w, (Instr.makeSlice 41 (.int .i64 (g : Int)) (.int .i64 (g : Int))).run Try.prog w = .ok (.slice (some ⟨w.heap.size, 0, none⟩) g g) (w.alloc (.cells Z 5)) := by rw [hZ]; exact make8 .i64 g (by omega)
    have R0 : Row8 (w6.alloc (.cells Z 5)) w6.heap.size (List.replicate g (0 : UInt8)) := by rw [hZ]; exact Row8.new w6 _
    have cv := string8 (w6.alloc (.cells Z 5)) w6.heap.size g (List.replicate g (0 : UInt8)) R0 g (by simp)
    generalize hT : (⟨(List.replicate g (0 : UInt8)).toArray⟩ : ByteArray) = T at *
    replace hT := Lib.hid hT
    replace hZ := Lib.hid hZ
    clear R0
    go_wp2
    have qa : Q w6 (w6.alloc (.cells Z 5)) := (Q.refl _).alloc _
    replace q := q.trans qa
    replace ha := ha.keep qa
    replace hl := hl.keep qa
    replace hd := hd.keep qa
    replace bm := bm.keep qa
    generalize w6.alloc (.cells Z 5) = w7 at *
    clear mk cv hZ qa
    go_loopw [16, 17] (fun s i wr => ∃ (h : Nat), i = .int .i64 h ∧ s = .string (rep 121 h) ∧ h ≤ g ∧ wr = w7) (fun _ i _ => g - (intOf i).toNat)
    case atStart => exact ⟨0, rfl, by rw [hstart.out.2], by omega, rfl⟩
    case round =>
      obtain ⟨h, rfl, rfl, hh, hwr⟩ := hrel
      subst hwr
      by_cases h1 : h < g
      · have u1 : decide ((h : Int) < (g : Int)) = true := decide_eq_true (by omega)
        have hb := hadd2.out h (by omega)
        clear hd hl ha bm
        go_wp2
        go_roundw
        case rel => exact ⟨h + 1, by go_num, rfl, by omega, trivial⟩
        case measure => simp [intOf]; omega
      obtain rfl : h = g := by omega
      clear h1 hh
      have k0c := bm.lt
      obtain ⟨i0, i1, i2, i3, i4, i5, i6, i7, i8, i9, i10, i11⟩ := bm.cells
      go_wp2_with fail
      clear i0 i1 i2 i3 i4 i5 i6 i7 i8 i9 i10 i11
      refine (wF_c (F_at ha hl hd) v2 (by rw [hgs.out]; omega) w3.out).mono ?_
      rintro e w8 ⟨Aa3, ca3, Al3, cl3, Ad3, cd3, rfl, ha3, hl3, hd3, qa⟩
      replace q := q.trans qa
      replace ha := ha.keep qa
      replace hl := hl.keep qa
      replace hd := hd.keep qa
      replace bm := bm.keep qa
      clear qa k0c
      simp only [List.length_cons, List.length_nil, Nat.zero_add] at hd3 ⊢
      go_wp2_with fail
      have bo := BoxN.new w8 #[.int .i64 2, .int .i64 0, .int .i64 0, .int .i64 0, .int .i64 0, .slice Aa3 0 ca3, .slice Al3 0 cl3, .int .i64 ((j : Int) + (h : Int) + (j : Int)), .slice Ad3 1 cd3, .string ⟨#[]⟩, .int .i64 0, .int .i64 0]
      have qa : Q w8 (w8.alloc (.cells #[.int .i64 2, .int .i64 0, .int .i64 0, .int .i64 0, .int .i64 0, .slice Aa3 0 ca3, .slice Al3 0 cl3, .int .i64 ((j : Int) + (h : Int) + (j : Int)), .slice Ad3 1 cd3, .string ⟨#[]⟩, .int .i64 0, .int .i64 0] 29)) := (Q.refl _).alloc _
      replace ha := ha.keep qa
      replace hl := hl.keep qa
      replace hd := hd.keep qa
      replace bm := bm.keep qa
      replace ha3 := ha3.keep qa
      replace hl3 := hl3.keep qa
      replace hd3 := hd3.keep qa
      replace q := q.trans qa
      generalize w8.alloc (.cells #[.int .i64 2, .int .i64 0, .int .i64 0, .int .i64 0, .int .i64 0, .slice Aa3 0 ca3, .slice Al3 0 cl3, .int .i64 ((j : Int) + (h : Int) + (j : Int)), .slice Ad3 1 cd3, .string ⟨#[]⟩, .int .i64 0, .int .i64 0] 29) = w9 at *
      clear qa
      generalize w8.heap.size = gbo at *
      refine (told_any _).mono ?_
      rintro e w10 ⟨rfl, qa⟩
      replace q := q.trans qa
      replace ha := ha.keep qa
      replace hl := hl.keep qa
      replace hd := hd.keep qa
      replace hd3 := hd3.keep qa
      replace bm := bm.keep qa
      replace bo := bo.keep qa
      clear qa ha3 hl3
      obtain ⟨gp, op, cp, ep, -, -, hp⟩ := hd3.atP (by simp)
      obtain ⟨rfl, -, rfl⟩ := Value.slice.inj ep
      obtain ⟨pa, pb⟩ := hp 0 (by simp)
      simp only [List.getElem_cons_zero, Nat.zero_mul, Nat.add_zero] at pa pb
      clear hp ep
      obtain ⟨i0, i1, i2, i3, i4, i5, i6, i7, i8, i9, i10, i11⟩ := bm.cells
      obtain ⟨o0, o1, o2, o3, o4, o5, o6, o7, o8, o9, o10, o11⟩ := bo.cells
      have m1 : IntKind.i64.wrap (2 * (j : Int)) = 2 * (j : Int) := IntWalk.i64_in _ (by omega)
      have m2 : IntKind.i64.wrap (2 * (j : Int) + (h : Int)) = 2 * (j : Int) + (h : Int) := IntWalk.i64_in _ (by omega)
      have te : ((j : Int) + (h : Int) + (j : Int) == 2 * (j : Int) + (h : Int)) = true := beq_iff_eq.2 (by omega)
      go_wp2_with fail
      clear i0 i1 i2 i3 i4 i5 i6 i7 i8 i9 i10 i11 o0 o1 o2 o3 o4 o5 o6 o7 o8 o9 o10 o11 pa pb
      refine (bytes_any _ (F ((j : Int) + (h : Int) + (j : Int)) [(0, rep 120 j), ((j : Int) + (h : Int), rep 120 j)]) w10 (F_at ha hl hd) v2.small).mono ?_
      rw [show sumP (F ((j : Int) + (h : Int) + (j : Int)) [(0, rep 120 j), ((j : Int) + (h : Int), rep 120 j)]).data = 2 * j from hsum.out]
      rintro e w11 ⟨rfl, qa⟩
      have te2 : (((2 * j : Nat) : Int) == 2 * (j : Int)) = true := beq_iff_eq.2 (by omega)
      go_wp2
      go_ret
      exact ⟨rfl, q.trans qa⟩

/-! ### The row -/
set_option maxRecDepth 100000 in
theorem lifted (os : Os) (started : os.Started) (H : Type) (enc : TypeId × Value → H) :
    ReturnsInHanded {} Try.checked os 5 .any (Rows.nodeHolesSpec.pre6 enc Try.prog Try.f5 Rows.nodeHolesRow.domain false) (Rows.nodeHolesSpec.post enc Try.prog Try.f5 false true false false) := by
  refine returnsInHanded_of_change (C := Try.checked) own started (by kernel_rfl) Try.func5
    (ChangeSpec.witness6 (enc := enc) (C := Try.checked) false ⟨#[], #[.int .i64 0, .int .i64 0], []⟩ 8 (by kernel_rfl) (by kernel_rfl) (by kernel_rfl) (by kernel_rfl)) ?_
  intro W base args ds gs before hval0 hW hcnd _
  have hval : ∀ (j : Nat) t v, Try.f5.params[j]? = some t → args[j]? = some v → Value.okWide Try.prog W .any base t v := hval0
  have hW' := hW
  obtain ⟨p, q, hA0, hV, rfl, hfz, hnd⟩ := hW
  have hA : DataW.TrodAll enc Try.prog W 0 (fun _ => true) true Try.f5.params.toList args.toList ds p := hA0
  rw [Try.params5] at hA hval
  obtain ⟨v0, vs0, d0, ds0, p0, q0, hargs, rfl, rfl, h0, r0⟩ := trodAll_cons hA
  obtain ⟨v1, vs1, d1, ds1, p1, q1, rfl, rfl, rfl, h1, r1⟩ := trodAll_cons r0
  obtain ⟨rfl, rfl, rfl⟩ := trodAll_nil r1
  obtain rfl : args = #[v0, v1] := by cases args; simp_all
  obtain ⟨rfl, rfl⟩ := trodVars_none hV
  obtain ⟨a0, rfl, rfl, rfl, w0⟩ := open_int Try.underlying3 (hval 0 3 v0 rfl rfl) h0
  obtain ⟨a1, rfl, rfl, rfl, w1⟩ := open_int Try.underlying3 (hval 1 3 v1 rfl rfl) h1
  clear hA0 hval0
  try simp only [List.append_nil] at hW'
  refine (walk a0 a1 W).mono fun e W' ⟨he, bel⟩ => ?_
  subst he
  exact ⟨_, rfl, _, _, _, [], _, [], hW', trodAll_mk1 (shut_bool Try.underlying4 _), (trodAll_cons_mk (shut_int Try.underlying3 w0) (trodAll_cons_mk (shut_int Try.underlying3 w1) trodAll_mk0)), rfl, Below.frame bel _, fun h => by cases h⟩

theorem over : Rows.nodeHolesRow.holds Try.pinned (OpenSpec.ofChange Rows.nodeHolesSpec) :=
  OpenClaim.holds_of_wide 5 Try.f5 rfl rfl rfl rfl rfl rfl rfl ⟨rfl, rfl, rfl, rfl, rfl⟩ rfl rfl rfl rfl rfl (by kernel_rfl) Try.func5 (by kernel_rfl)
    (of_decide_eq_true (by kernel_rfl)) (by unfold Func.isWrapper; first | (rw [if_pos (by decide +kernel)]; kernel_rfl) | (rw [if_neg (by decide +kernel)]; exact ⟨rfl, rfl⟩))
    (fun os started H enc _ => lifted os started H enc)

theorem proved : Rows.NodeHolesSaid := over

end Go.Proofs.Ytheobpilmphdjaa.Nd.holes
