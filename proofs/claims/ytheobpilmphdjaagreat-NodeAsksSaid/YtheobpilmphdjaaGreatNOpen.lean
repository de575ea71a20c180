/-
  Nodes that came in; the contract of the law's Few.
-/
import Derived.Test.YtheobpilmphdjaaGreatNLaws
import Derived.Test.YtheobpilmphdjaaGreatOpenM
import Derived.Test.YtheobpilmphdjaaGreatFew
namespace Go.Proofs.YtheobpilmphdjaaGreat.Nd
open Go.RowKit Go.WideShapes
open Go.Proofs.YtheobpilmphdjaaGreat.Ex.Rng

section
variable {H : Type} {enc : TypeId × Value → H} {w : World} {base : Nat} {sp : Nat → Bool} {held : Bool} {n : Nat}
set_option maxRecDepth 100000 in
theorem piece_trod {cs : List Value} {D : DataW H × List MemPlace} (h : DataW.trod enc Tryz.prog w base sp held n 44 cs = some D) : ∃ x : Pc, cs = cellsP x ∧ FitsI x.1 := by
  obtain ⟨xs, k, rfl, _, hl, hxl, hf⟩ := DataW.trod_struct Tryz.underlying44 h
  have ca : Tryz.prog.cellsOf 44 = 2 := by kernel_rfl
  have ci : Tryz.prog.cellsOf 9 = 1 := by kernel_rfl
  have ck : Tryz.prog.cellsOf 2 = 1 := by kernel_rfl
  rw [ca] at hl
  match cs, hl with
  | [v0, v1], _ =>
    match xs, hxl with
    | [y0, y1], _ =>
      have g0 := hf 0 _ rfl
      have g1 := hf 1 _ rfl
      simp [ci, ck] at g0 g1
      obtain ⟨n0, e0, _, w0⟩ := DataW.trod_int Tryz.underlying2 g0
      obtain ⟨n1, e1, _, _⟩ := DataW.trod_string Tryz.underlying9 g1
      cases e0
      cases e1
      exact ⟨(n0, n1), rfl, fits_wf w0⟩
set_option maxRecDepth 100000 in
theorem metaC_trod {cs : List Value} {D : DataW H × List MemPlace} (h : DataW.trod enc Tryz.prog w base sp held n 25 cs = some D) : ∃ (m : Mt) (va vl : Value), cs = [.int .i64 m.mode, .int .i64 m.uid, .int .i64 m.gid, .int .i64 m.time, va, vl] ∧ AtsAt w va m.attrs ∧ AcesAt w vl m.acl := by
  obtain ⟨xs, k, rfl, _, hl, hxl, hf⟩ := DataW.trod_struct Tryz.underlying25 h
  have ca : Tryz.prog.cellsOf 25 = 6 := by kernel_rfl
  have ci : Tryz.prog.cellsOf 3 = 1 := by kernel_rfl
  have ck : Tryz.prog.cellsOf 2 = 1 := by kernel_rfl
  have ct : Tryz.prog.cellsOf 22 = 1 := by kernel_rfl
  have cl : Tryz.prog.cellsOf 23 = 1 := by kernel_rfl
  rw [ca] at hl
  match cs, hl with
  | [v0, v1, v2, v3, v4, v5], _ =>
    match xs, hxl with
    | [y0, y1, y2, y3, y4, y5], _ =>
      have g0 := hf 0 _ rfl
      have g1 := hf 1 _ rfl
      have g2 := hf 2 _ rfl
      have g3 := hf 3 _ rfl
      have g4 := hf 4 _ rfl
      have g5 := hf 5 _ rfl
      simp [ci, ck, ct, cl] at g0 g1 g2 g3 g4 g5
      obtain ⟨n0, e0, _, w0⟩ := DataW.trod_int Tryz.underlying3 g0
      obtain ⟨n1, e1, _, w1⟩ := DataW.trod_int Tryz.underlying3 g1
      obtain ⟨n2, e2, _, w2⟩ := DataW.trod_int Tryz.underlying3 g2
      obtain ⟨n3, e3, _, w3⟩ := DataW.trod_int Tryz.underlying2 g3
      cases e0
      cases e1
      cases e2
      cases e3
      obtain ⟨la, ha, _⟩ := open_row flatT (fun _ => True) Tryz.underlying22 (by kernel_rfl) (fun h => by obtain ⟨x, hx⟩ := attr_trod h; exact ⟨x, hx, trivial⟩) g4
      obtain ⟨ll, hl, hfl⟩ := open_row flat3 Fits Tryz.underlying23 (by kernel_rfl) (fun h => ace_trod h) g5
      exact ⟨⟨n0, n1, n2, n3, la, ll⟩, v4, v5, rfl, ha, hl.aces⟩
end
set_option maxRecDepth 100000 in
theorem open_node {H : Type} {enc : TypeId × Value → H} {w : World} {r : Reach} {b0 base : Nat} {sp : Nat → Bool} {held : Bool} {v : Value} {d : DataW H} {p : List MemPlace} (hv : Value.okWide Tryz.prog w r b0 28 v)
    (h : DataW.Trod enc Tryz.prog w base sp held 28 v d p) : ∃ n, NodeAt w v n ∧ True := by
  obtain ⟨cs, rfl, hsz⟩ := okWide_struct Tryz.underlying28 hv
  obtain ⟨fuel, h⟩ := h
  obtain ⟨xs, k, rfl, _, hl, hxl, hf⟩ := DataW.trod_struct Tryz.underlying28 h
  have ca : Tryz.prog.cellsOf 28 = 12 := by kernel_rfl
  have cm : Tryz.prog.cellsOf 25 = 6 := by kernel_rfl
  have ci : Tryz.prog.cellsOf 3 = 1 := by kernel_rfl
  have ck : Tryz.prog.cellsOf 2 = 1 := by kernel_rfl
  have cp : Tryz.prog.cellsOf 26 = 1 := by kernel_rfl
  have cs' : Tryz.prog.cellsOf 9 = 1 := by kernel_rfl
  rw [ca] at hsz
  obtain ⟨cs⟩ := cs
  match cs, hsz with
  | [v0, v1, v2, v3, v4, v5, v6, v7, v8, v9, v10, v11], _ =>
    match xs, hxl with
    | [y0, y1, y2, y3, y4, y5, y6], _ =>
      have g0 := hf 0 _ rfl
      have g1 := hf 1 _ rfl
      have g2 := hf 2 _ rfl
      have g3 := hf 3 _ rfl
      have g4 := hf 4 _ rfl
      have g5 := hf 5 _ rfl
      have g6 := hf 6 _ rfl
      simp [Value.cells, ci, ck, cp, cs', cm] at g0 g1 g2 g3 g4 g5 g6
      obtain ⟨n0, e0, _, w0⟩ := DataW.trod_int Tryz.underlying3 g0
      obtain ⟨m, va, vl, e1, hm1, hm2⟩ := metaC_trod g1
      obtain ⟨n2, e2, _, w2⟩ := DataW.trod_int Tryz.underlying2 g2
      obtain ⟨lp, hp, _⟩ := open_row flatP (fun x => FitsI x.1) Tryz.underlying26 (by kernel_rfl) (fun h => piece_trod h) g3
      obtain ⟨n4, e4, _, _⟩ := DataW.trod_string Tryz.underlying9 g4
      obtain ⟨n5, e5, _, w5⟩ := DataW.trod_int Tryz.underlying3 g5
      obtain ⟨n6, e6, _, w6⟩ := DataW.trod_int Tryz.underlying3 g6
      cases e0
      cases e1
      cases e2
      cases e4
      cases e5
      cases e6
      exact ⟨⟨n0, m, n2, lp, n4, n5, n6⟩, ⟨_, _, _, rfl, hm1, hm2, hp⟩, trivial⟩

/-! ### Few -/
def fewP (p : Pc) : Bool := decide (p.2.size ≤ 300)
def fewNd (n : Nd) : Bool := n.data.all fewP && decide ((n.data.length : Int) ≤ 20) && decide ((n.target.size : Int) ≤ 300) && fewM n.mt
theorem fewNd_no {n : Nd} {k : Nat} (hk : k < n.data.length) (h : ¬ n.data[k].2.size ≤ 300) : fewNd n = false := by
  unfold fewNd
  have : n.data.all fewP = false := List.all_eq_false.2 ⟨_, List.getElem_mem hk, by unfold fewP; simp; omega⟩
  rw [this]
  simp
theorem few_step {d : List Pc} {k : Nat} (hk : k < d.length) (h : (d.take k).all fewP = true) (h1 : d[k].2.size ≤ 300) : (d.take (k + 1)).all fewP = true := by
  rw [List.take_succ_eq_append_getElem hk, List.all_append, h]
  simp [fewP, h1]
theorem few_end {n : Nd} {k : Nat} (hk : n.data.length ≤ k) (h : (n.data.take k).all fewP = true) : fewNd n = (decide ((n.data.length : Int) ≤ 20) && decide ((n.target.size : Int) ≤ 300) && fewM n.mt) := by
  rw [List.take_of_length_le hk] at h
  unfold fewNd
  rw [h]
  simp
theorem few_bounds {n : Nd} (h : fewNd n = true) : Fit n ∧ n.data.length ≤ 20 ∧ n.target.size ≤ 300 ∧ fewM n.mt = true ∧ ∀ p ∈ n.data, p.2.size ≤ 300 := by
  unfold fewNd at h
  simp only [Bool.and_eq_true, decide_eq_true_eq] at h
  obtain ⟨⟨⟨h1, h2⟩, h3⟩, h4⟩ := h
  have hp : ∀ p ∈ n.data, p.2.size ≤ 300 := fun p hp => by have := List.all_eq_true.1 h1 p hp; unfold fewP at this; exact of_decide_eq_true this
  obtain ⟨_, b2, b3⟩ := fewM_bounds h4
  exact ⟨⟨by omega, by omega, ⟨by omega, fun p hpp => by have := hp p hpp; omega⟩⟩, by omega, by omega, h4, hp⟩

set_option maxRecDepth 100000 in
set_option maxHeartbeats 8000000 in
theorem fewNd_any (v : Value) (n : Nd) (w : World) (h : NodeAt w v n) :
    Calls Tryz.prog 4 #[v] w fun e w' => e = .returned (.bool (fewNd n)) ∧ Q w w' := by
  obtain ⟨va, vl, vd, rfl, ha, hl, hd⟩ := h
  have HM : Hid (∀ w', Q w w' → Calls Tryz.prog 23 #[.agg #[.int .i64 n.mt.mode, .int .i64 n.mt.uid, .int .i64 n.mt.gid, .int .i64 n.mt.time, va, vl]] w' fun e w'' => e = .returned (.bool (fewM n.mt)) ∧ Grew w' w'') := fun w' q => few_any _ n.mt w' ⟨va, vl, rfl, ha.keep q, hl.keep q⟩
  have En : Hid (∀ k (hk : k < n.data.length), ¬ n.data[k].2.size ≤ 300 → fewNd n = false) := fun k hk => fewNd_no hk
  have Ee : Hid (∀ k, n.data.length ≤ k → (n.data.take k).all fewP = true → fewNd n = (decide ((n.data.length : Int) ≤ 20) && decide ((n.target.size : Int) ≤ 300) && fewM n.mt)) := fun k => few_end
  have ll := hd.len
  unfold maxLen at ll
  obtain ⟨A, c, rfl⟩ := hd.form
  generalize fewNd n = r at *
  generalize fewM n.mt = b at *
  obtain ⟨kind, ⟨mode, uid, gid, time, attrs, acl⟩, size, data, target, major, minor⟩ := n
  unfold nodeV
  simp only at HM En Ee hd ll ⊢
  clear ha hl
  go_enter Tryz.func4, Tryz.ntmps4
  go_wp2
  have x1 := BoxN.new w #[.int .i64 kind, .int .i64 mode, .int .i64 uid, .int .i64 gid, .int .i64 time, va, vl, .int .i64 size, .slice A data.length c, .string target, .int .i64 major, .int .i64 minor]
  have q1 : Q w (w.alloc (.cells #[.int .i64 kind, .int .i64 mode, .int .i64 uid, .int .i64 gid, .int .i64 time, va, vl, .int .i64 size, .slice A data.length c, .string target, .int .i64 major, .int .i64 minor] 28)) := (Q.refl w).alloc _
  generalize w.alloc (.cells #[.int .i64 kind, .int .i64 mode, .int .i64 uid, .int .i64 gid, .int .i64 time, va, vl, .int .i64 size, .slice A data.length c, .string target, .int .i64 major, .int .i64 minor] 28) = w1 at *
  have HD : Hid (PcsAt w1 (.slice A data.length c) data) := hd.keep q1
  generalize w.heap.size = gB at *
  obtain ⟨k0, k1, k2, k3, k4, k5, k6, k7, k8, k9, k10, k11⟩ := x1.cells
  clear x1 hd
  go_loopw [3] (fun i wr => ∃ k : Nat, i = .int .i64 k ∧ k ≤ data.length ∧ wr = w1 ∧ Hid ((data.take k).all fewP = true)) (fun i _ => data.length - (intOf i).toNat)
  case atStart => exact ⟨0, rfl, by omega, rfl, rfl⟩
  case round =>
    obtain ⟨k, rfl, hk, hwr, H⟩ := hrel
    subst hwr
    by_cases hlt : k < data.length
    · obtain ⟨g, og, _, ea, _, _, hc⟩ := HD.out.atP (by omega)
      obtain ⟨rfl, -, rfl⟩ := Value.slice.inj ea
      obtain ⟨c1, c2⟩ := hc k hlt
      have E1 : Hid (¬ data[k].2.size ≤ 300 → r = false) := En.out k hlt
      have E2 : Hid (data[k].2.size ≤ 300 → (data.take (k + 1)).all fewP = true) := few_step hlt H.out
      clear hc H Ee En ea
      generalize data[k] = x at *
      have lt2 : (k : Int) < (data.length : Int) := by omega
      by_cases h1 : (300 : Int) < (x.2.size : Int)
      · have t1 : decide ((300 : Int) < (x.2.size : Int)) = true := decide_eq_true h1
        have E := Lib.hid (E1.out (by omega))
        clear h1 E1 E2
        go_wp2
        go_ret
        exact ⟨ret_bool E.out.symm, q1⟩
      · have t1 : decide ((300 : Int) < (x.2.size : Int)) = false := decide_eq_false h1
        have E := Lib.hid (E2.out (by omega))
        clear h1 E1 E2
        go_wp2
        go_roundw
        case rel => exact ⟨k + 1, by go_num, by omega, trivial, E⟩
        case measure => simp [intOf]; omega
    · have E := Lib.hid (Ee.out k (by omega) H.out)
      clear H Ee En
      by_cases h1 : (data.length : Int) ≤ 20
      · have t1 : decide ((data.length : Int) ≤ 20) = true := decide_eq_true h1
        rw [t1] at E
        clear h1
        by_cases h2 : (target.size : Int) ≤ 300
        · have t2 : decide ((target.size : Int) ≤ 300) = true := decide_eq_true h2
          rw [t2] at E
          clear h2
          go_wp2_with fail
          refine (HM.out _ q1).mono ?_
          rintro e w9 ⟨rfl, q9⟩
          have q10 := q1.trans q9.q
          clear q9
          cases b <;> (go_wp2; go_ret; exact ⟨ret_bool (by rw [E.out]; simp), q10⟩)
        · have t2 : decide ((target.size : Int) ≤ 300) = false := decide_eq_false h2
          rw [t2] at E
          clear h2
          go_wp2
          go_ret
          exact ⟨ret_bool (by rw [E.out]; simp), q1⟩
      · have t1 : decide ((data.length : Int) ≤ 20) = false := decide_eq_false h1
        rw [t1] at E
        clear h1
        go_wp2
        go_ret
        exact ⟨ret_bool (by rw [E.out]; simp), q1⟩
end Go.Proofs.YtheobpilmphdjaaGreat.Nd
