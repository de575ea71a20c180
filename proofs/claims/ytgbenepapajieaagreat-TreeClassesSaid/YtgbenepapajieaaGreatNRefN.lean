/-
  Plain files (no metadata): as mathematics, and the contracts of Write, Cut, Read at them. Nodes that came in; the contract of the law's Few. The contracts of the document's Extents, Bytes, data.
-/
import Derived.Test.YtgbenepapajieaaGreatNTold
import Derived.Test.YtgbenepapajieaaGreatOpenM
import Derived.Test.YtgbenepapajieaaGreatMayRef
import Derived.Test.YtgbenepapajieaaGreatNRefC
namespace Go.Proofs.YtgbenepapajieaaGreat.Nd
open Go.RowKit
open Go.Proofs.YtgbenepapajieaaGreat.Ex.Rng
open Go.Proofs.YtgbenepapajieaaGreat.Ex (E ExtsAt)

/-- A file of this size with these pieces, all else 0. -/
def F (sz : Int) (d : List Pc) : Nd := ⟨2, ⟨0, 0, 0, 0, [], []⟩, sz, d, ⟨#[]⟩, 0, 0⟩
theorem F_fit {sz : Int} {d : List Pc} (h : VF sz d) : Fit (F sz d) := ⟨by simp [F], by simp [F], h.small⟩
theorem may0 : mayM ⟨0, 0, 0, 0, [], []⟩ = true := by decide +kernel
theorem F_file {sz : Int} {d : List Pc} (h : VF sz d) : fileB (F sz d) = true := by
  unfold fileB mayN F
  simp only
  rw [if_neg (by omega), if_pos trivial, contentB_of h, may0]
  simp [Lib.toList_data]
theorem F_may {sz : Int} {d : List Pc} (h : VF sz d) : mayN (F sz d) = true := by
  have := F_file h
  unfold fileB at this
  rw [Bool.and_eq_true] at this
  exact this.2
theorem ends_of {l : List Pc} {s : Int} (h : WF l) (hb : ∀ q, (byteOf l q).isSome = true → (q : Int) < s) : ∀ p ∈ l, p.1 + (p.2.size : Int) ≤ s := by
  intro p hp
  obtain ⟨h0, h1⟩ := h.1 p hp
  have := hb (p.1.toNat + p.2.size - 1) (byteOf_some.2 ⟨p, hp, by unfold PIn; omega⟩)
  omega
theorem vf_nil {s : Int} (h0 : 0 ≤ s) (h1 : s ≤ 1099511627776) : VF s [] := ⟨by simp, by simp [sumP], WF.nil_, by simp, h0, h1⟩
theorem vf_write {sz a : Int} {d : List Pc} {s : ByteArray} (h : VF sz d) (h0 : 0 ≤ a) (h1 : a + (s.size : Int) ≤ 1099511627776) (hs : 0 < s.size) (hl : (wData d a s).length ≤ 16) (hm : sumP (wData d a s) ≤ 4000) : VF (max sz (a + (s.size : Int))) (wData d a s) := by
  have hw := wData_wf h.wf h0 hs
  refine ⟨hl, hm, hw, ends_of hw fun q hq => ?_, by have := h.s0; omega, by have := h.s1; omega⟩
  rw [wData_byte h.wf h.top h0 hs] at hq
  by_cases hp : PIn q (a, s)
  · unfold PIn at hp; simp only at hp; omega
  · rw [if_neg hp] at hq
    obtain ⟨p, hp1, hp2⟩ := byteOf_some.1 hq
    have := h.ends p hp1
    unfold PIn at hp2
    omega
theorem writeF {sz a : Int} {d : List Pc} {s : ByteArray} (h : VF sz d) (h0 : 0 ≤ a) (h1 : a + (s.size : Int) ≤ 1099511627776) (hs : 0 < s.size) (hl : (wData d a s).length ≤ 16) (hm : sumP (wData d a s) ≤ 4000) : writeN (F sz d) a s = (F (max sz (a + (s.size : Int))) (wData d a s), 0) := by
  unfold writeN
  rw [if_pos ⟨F_file h, decide_eq_true (by omega)⟩, if_neg (by omega), if_neg (by omega), if_neg (by show ¬ (16 < (wData d a s).length ∨ 4000 < sumP (wData d a s)); omega)]
  rfl
theorem writeF_nil {sz a : Int} {d : List Pc} {s : ByteArray} (h : VF sz d) (h0 : 0 ≤ a) (h1 : a ≤ 1099511627776) (hs : s.size = 0) : writeN (F sz d) a s = (F sz d, 0) := by
  unfold writeN
  rw [if_pos ⟨F_file h, decide_eq_true (by omega)⟩, if_neg (by omega), if_pos hs]
theorem vf_cut {sz x : Int} {d : List Pc} (h : VF sz d) (h0 : 0 ≤ x) (h1 : x ≤ 1099511627776) : VF x (clipP d 0 x) :=
  ⟨Nat.le_trans (clipP_len _ _ _) h.len, Nat.le_trans (clipP_sum _ _ _) h.sum, clipP_wf h.wf _ _, fun _ hp => (clipP_ends hp).2.1, h0, h1⟩
theorem cutF {sz x : Int} {d : List Pc} (h : VF sz d) (h0 : 0 ≤ x) (h1 : x ≤ 1099511627776) : cutNd (F sz d) x = (F x (clipP d 0 x), 0) := by
  unfold cutNd
  rw [if_pos ⟨F_file h, decide_eq_true ⟨h0, h1⟩⟩]
  rfl
theorem readF {sz a long : Int} {d : List Pc} (h : VF sz d) (h0 : 0 ≤ a) (h1 : 0 ≤ long) (h2 : long ≤ 4000) : readN (F sz d) a long = (txt d (limN a) (limN (min long (sz - a))), 0) := by
  unfold readN
  rw [if_pos ⟨F_file h, h0, h1, h2⟩]
  rfl

/-! ### The contracts -/
theorem F_at {w : World} {Aa Al Ad : Option Addr} {ca cl cd : Nat} {sz : Int} {d : List Pc} (h1 : AtsAt w (.slice Aa 0 ca) []) (h2 : AcesAt w (.slice Al 0 cl) []) (h3 : PcsAt w (.slice Ad d.length cd) d) : NodeAt w (.agg #[.int .i64 2, .int .i64 0, .int .i64 0, .int .i64 0, .int .i64 0, .slice Aa 0 ca, .slice Al 0 cl, .int .i64 sz, .slice Ad d.length cd, .string ⟨#[]⟩, .int .i64 0, .int .i64 0]) (F sz d) := ⟨_, _, _, rfl, h1, h2, h3⟩
theorem F_zero (w : World) : NodeAt w (.agg #[.int .i64 2, .int .i64 0, .int .i64 0, .int .i64 0, .int .i64 0, .slice none 0 0, .slice none 0 0, .int .i64 0, .slice none 0 0, .string ⟨#[]⟩, .int .i64 0, .int .i64 0]) (F 0 []) := ⟨_, _, _, rfl, RowAt.nil_ _, AcesAt.nil_ _, RowAt.nil_ _⟩
def FPost (sz c : Int) (d : List Pc) (w : World) (e : Ending) (w' : World) : Prop := ∃ Aa ca Al cl Ad cd, e = .returned (.tuple #[.agg #[.int .i64 2, .int .i64 0, .int .i64 0, .int .i64 0, .int .i64 0, .slice Aa 0 ca, .slice Al 0 cl, .int .i64 sz, .slice Ad d.length cd, .string ⟨#[]⟩, .int .i64 0, .int .i64 0], .int .i64 c]) ∧ AtsAt w' (.slice Aa 0 ca) [] ∧ AcesAt w' (.slice Al 0 cl) [] ∧ PcsAt w' (.slice Ad d.length cd) d ∧ Q w w'
theorem fpost {sz c : Int} {d : List Pc} {w : World} {e : Ending} {w' : World} {va vl vd : Value} (he : e = .returned (.tuple #[nodeV (F sz d) va vl vd, .int .i64 c])) (h1 : AtsAt w' va (F sz d).mt.attrs) (h2 : AcesAt w' vl (F sz d).mt.acl) (h3 : PcsAt w' vd (F sz d).data) (q : Q w w') : FPost sz c d w e w' := by
  subst he
  obtain ⟨Aa, ca, rfl⟩ := h1.form
  obtain ⟨Al, cl, rfl⟩ := h2.form
  obtain ⟨Ad, cd, rfl⟩ := h3.form
  exact ⟨Aa, ca, Al, cl, Ad, cd, rfl, h1, h2, h3, q⟩
theorem add_str {a b : ByteArray} (h : a.size + b.size ≤ 1000000) : Op.stringOp .add a b = pure (.string (a ++ b)) := by
  unfold Op.stringOp
  simp only
  rw [if_neg]
  simp only [IntKind.max]
  show ¬ (_ > (9223372036854775807 : Int))
  omega
theorem rem_nat (z : Int) (m : Nat) (hm : 0 < m) : ∃ x : Nat, (IntKind.u64.wrap z).tmod (m : Int) = (x : Int) ∧ x < m := by
  refine ⟨((IntKind.u64.wrap z).tmod (m : Int)).toNat, (Int.toNat_of_nonneg (Int.tmod_nonneg _ (wrap_u64_nonneg z))).symm, ?_⟩
  have h1 := Int.emod_lt_of_pos (IntKind.u64.wrap z) (show (0 : Int) < (m : Int) by omega)
  have h2 := Int.tmod_nonneg (m : Int) (wrap_u64_nonneg z)
  rw [Int.tmod_eq_emod_of_nonneg (wrap_u64_nonneg z)] at h2 ⊢
  omega
theorem getB (s : ByteArray) (k : Nat) (h : k < s.size) : s[k] = s.data.getD k 0 := by
  rw [Array.getD_eq_getD_getElem?, Array.getElem?_eq_getElem (show k < s.data.size from h)]
  rfl
theorem str_beq {a b : ByteArray} (h : a = b) : (a.toList == b.toList) = true := by rw [h]; exact beq_self_eq_true _
end Go.Proofs.YtgbenepapajieaaGreat.Nd
namespace Go.Proofs.YtgbenepapajieaaGreat.Nd
open Go.RowKit Go.WideShapes
open Go.Proofs.YtgbenepapajieaaGreat.Ex.Rng

section
variable {H : Type} {enc : TypeId × Value → H} {w : World} {base : Nat} {sp : Nat → Bool} {held : Bool} {n : Nat}
set_option maxRecDepth 100000 in
theorem piece_trod {cs : List Value} {D : DataW H × List MemPlace} (h : DataW.trod enc Tryz.prog w base sp held n 87 cs = some D) : ∃ x : Pc, cs = cellsP x ∧ FitsI x.1 := by
  obtain ⟨xs, k, rfl, _, hl, hxl, hf⟩ := DataW.trod_struct Tryz.underlying87 h
  have ca : Tryz.prog.cellsOf 87 = 2 := by kernel_rfl
  have ci : Tryz.prog.cellsOf 9 = 1 := by kernel_rfl
  have ck : Tryz.prog.cellsOf 2 = 1 := by kernel_rfl
  rw [ca] at hl
  match cs, hl with
  | [v0, v1], _ =>
    match xs, hxl with
    | [y0, y1], _ =>
      have g0 := hf 0 _ rfl
      have g1 := hf 1 _ rfl
      simp [ci, ck] at g0 g1
      obtain ⟨n0, e0, _, w0⟩ := DataW.trod_int Tryz.underlying2 g0
      obtain ⟨n1, e1, _, _⟩ := DataW.trod_string Tryz.underlying9 g1
      cases e0
      cases e1
      exact ⟨(n0, n1), rfl, fits_wf w0⟩
set_option maxRecDepth 100000 in
theorem metaC_trod {cs : List Value} {D : DataW H × List MemPlace} (h : DataW.trod enc Tryz.prog w base sp held n 44 cs = some D) : ∃ (m : Mt) (va vl : Value), cs = [.int .i64 m.mode, .int .i64 m.uid, .int .i64 m.gid, .int .i64 m.time, va, vl] ∧ AtsAt w va m.attrs ∧ AcesAt w vl m.acl := by
  obtain ⟨xs, k, rfl, _, hl, hxl, hf⟩ := DataW.trod_struct Tryz.underlying44 h
  have ca : Tryz.prog.cellsOf 44 = 6 := by kernel_rfl
  have ci : Tryz.prog.cellsOf 3 = 1 := by kernel_rfl
  have ck : Tryz.prog.cellsOf 2 = 1 := by kernel_rfl
  have ct : Tryz.prog.cellsOf 41 = 1 := by kernel_rfl
  have cl : Tryz.prog.cellsOf 42 = 1 := by kernel_rfl
  rw [ca] at hl
  match cs, hl with
  | [v0, v1, v2, v3, v4, v5], _ =>
    match xs, hxl with
    | [y0, y1, y2, y3, y4, y5], _ =>
      have g0 := hf 0 _ rfl
      have g1 := hf 1 _ rfl
      have g2 := hf 2 _ rfl
      have g3 := hf 3 _ rfl
      have g4 := hf 4 _ rfl
      have g5 := hf 5 _ rfl
      simp [ci, ck, ct, cl] at g0 g1 g2 g3 g4 g5
      obtain ⟨n0, e0, _, w0⟩ := DataW.trod_int Tryz.underlying3 g0
      obtain ⟨n1, e1, _, w1⟩ := DataW.trod_int Tryz.underlying3 g1
      obtain ⟨n2, e2, _, w2⟩ := DataW.trod_int Tryz.underlying3 g2
      obtain ⟨n3, e3, _, w3⟩ := DataW.trod_int Tryz.underlying2 g3
      cases e0
      cases e1
      cases e2
      cases e3
      obtain ⟨la, ha, _⟩ := open_row flatT (fun _ => True) Tryz.underlying41 (by kernel_rfl) (fun h => by obtain ⟨x, hx⟩ := attr_trod h; exact ⟨x, hx, trivial⟩) g4
      obtain ⟨ll, hl, hfl⟩ := open_row flat3 Fits Tryz.underlying42 (by kernel_rfl) (fun h => ace_trod h) g5
      exact ⟨⟨n0, n1, n2, n3, la, ll⟩, v4, v5, rfl, ha, hl.aces⟩
end
set_option maxRecDepth 100000 in
theorem open_node {H : Type} {enc : TypeId × Value → H} {w : World} {r : Reach} {b0 base : Nat} {sp : Nat → Bool} {held : Bool} {v : Value} {d : DataW H} {p : List MemPlace} (hv : Value.okWide Tryz.prog w r b0 47 v)
    (h : DataW.Trod enc Tryz.prog w base sp held 47 v d p) : ∃ n, NodeAt w v n ∧ True := by
  obtain ⟨cs, rfl, hsz⟩ := okWide_struct Tryz.underlying47 hv
  obtain ⟨fuel, h⟩ := h
  obtain ⟨xs, k, rfl, _, hl, hxl, hf⟩ := DataW.trod_struct Tryz.underlying47 h
  have ca : Tryz.prog.cellsOf 47 = 12 := by kernel_rfl
  have cm : Tryz.prog.cellsOf 44 = 6 := by kernel_rfl
  have ci : Tryz.prog.cellsOf 3 = 1 := by kernel_rfl
  have ck : Tryz.prog.cellsOf 2 = 1 := by kernel_rfl
  have cp : Tryz.prog.cellsOf 45 = 1 := by kernel_rfl
  have cs' : Tryz.prog.cellsOf 9 = 1 := by kernel_rfl
  rw [ca] at hsz
  obtain ⟨cs⟩ := cs
  match cs, hsz with
  | [v0, v1, v2, v3, v4, v5, v6, v7, v8, v9, v10, v11], _ =>
    match xs, hxl with
    | [y0, y1, y2, y3, y4, y5, y6], _ =>
      have g0 := hf 0 _ rfl
      have g1 := hf 1 _ rfl
      have g2 := hf 2 _ rfl
      have g3 := hf 3 _ rfl
      have g4 := hf 4 _ rfl
      have g5 := hf 5 _ rfl
      have g6 := hf 6 _ rfl
      simp [Value.cells, ci, ck, cp, cs', cm] at g0 g1 g2 g3 g4 g5 g6
      obtain ⟨n0, e0, _, w0⟩ := DataW.trod_int Tryz.underlying3 g0
      obtain ⟨m, va, vl, e1, hm1, hm2⟩ := metaC_trod g1
      obtain ⟨n2, e2, _, w2⟩ := DataW.trod_int Tryz.underlying2 g2
      obtain ⟨lp, hp, _⟩ := open_row flatP (fun x => FitsI x.1) Tryz.underlying45 (by kernel_rfl) (fun h => piece_trod h) g3
      obtain ⟨n4, e4, _, _⟩ := DataW.trod_string Tryz.underlying9 g4
      obtain ⟨n5, e5, _, w5⟩ := DataW.trod_int Tryz.underlying3 g5
      obtain ⟨n6, e6, _, w6⟩ := DataW.trod_int Tryz.underlying3 g6
      cases e0
      cases e1
      cases e2
      cases e4
      cases e5
      cases e6
      exact ⟨⟨n0, m, n2, lp, n4, n5, n6⟩, ⟨_, _, _, rfl, hm1, hm2, hp⟩, trivial⟩

/-! ### Few -/
def fewP (p : Pc) : Bool := decide (p.2.size ≤ 300)
def fewNd (n : Nd) : Bool := n.data.all fewP && decide ((n.data.length : Int) ≤ 20) && decide ((n.target.size : Int) ≤ 300) && fewM n.mt
theorem fewNd_no {n : Nd} {k : Nat} (hk : k < n.data.length) (h : ¬ n.data[k].2.size ≤ 300) : fewNd n = false := by
  unfold fewNd
  have : n.data.all fewP = false := List.all_eq_false.2 ⟨_, List.getElem_mem hk, by unfold fewP; simp; omega⟩
  rw [this]
  simp
theorem few_step {d : List Pc} {k : Nat} (hk : k < d.length) (h : (d.take k).all fewP = true) (h1 : d[k].2.size ≤ 300) : (d.take (k + 1)).all fewP = true := by
  rw [List.take_succ_eq_append_getElem hk, List.all_append, h]
  simp [fewP, h1]
theorem few_end {n : Nd} {k : Nat} (hk : n.data.length ≤ k) (h : (n.data.take k).all fewP = true) : fewNd n = (decide ((n.data.length : Int) ≤ 20) && decide ((n.target.size : Int) ≤ 300) && fewM n.mt) := by
  rw [List.take_of_length_le hk] at h
  unfold fewNd
  rw [h]
  simp
theorem few_bounds {n : Nd} (h : fewNd n = true) : Fit n ∧ n.data.length ≤ 20 ∧ n.target.size ≤ 300 ∧ fewM n.mt = true ∧ ∀ p ∈ n.data, p.2.size ≤ 300 := by
  unfold fewNd at h
  simp only [Bool.and_eq_true, decide_eq_true_eq] at h
  obtain ⟨⟨⟨h1, h2⟩, h3⟩, h4⟩ := h
  have hp : ∀ p ∈ n.data, p.2.size ≤ 300 := fun p hp => by have := List.all_eq_true.1 h1 p hp; unfold fewP at this; exact of_decide_eq_true this
  obtain ⟨_, b2, b3⟩ := fewM_bounds h4
  exact ⟨⟨by omega, by omega, ⟨by omega, fun p hpp => by have := hp p hpp; omega⟩⟩, by omega, by omega, h4, hp⟩

set_option maxRecDepth 100000 in
set_option maxHeartbeats 8000000 in
theorem fewNd_any (v : Value) (n : Nd) (w : World) (h : NodeAt w v n) :
    Calls Tryz.prog 34 #[v] w fun e w' => e = .returned (.bool (fewNd n)) ∧ Q w w' := by
  obtain ⟨va, vl, vd, rfl, ha, hl, hd⟩ := h
  have HM : Hid (∀ w', Q w w' → Calls Tryz.prog 64 #[.agg #[.int .i64 n.mt.mode, .int .i64 n.mt.uid, .int .i64 n.mt.gid, .int .i64 n.mt.time, va, vl]] w' fun e w'' => e = .returned (.bool (fewM n.mt)) ∧ Grew w' w'') := fun w' q => few_any _ n.mt w' ⟨va, vl, rfl, ha.keep q, hl.keep q⟩
  have En : Hid (∀ k (hk : k < n.data.length), ¬ n.data[k].2.size ≤ 300 → fewNd n = false) := fun k hk => fewNd_no hk
  have Ee : Hid (∀ k, n.data.length ≤ k → (n.data.take k).all fewP = true → fewNd n = (decide ((n.data.length : Int) ≤ 20) && decide ((n.target.size : Int) ≤ 300) && fewM n.mt)) := fun k => few_end
  have ll := hd.len
  unfold maxLen at ll
  obtain ⟨A, c, rfl⟩ := hd.form
  generalize fewNd n = r at *
  generalize fewM n.mt = b at *
  obtain ⟨kind, ⟨mode, uid, gid, time, attrs, acl⟩, size, data, target, major, minor⟩ := n
  unfold nodeV
  simp only at HM En Ee hd ll ⊢
  clear ha hl
  go_enter Tryz.func34, Tryz.ntmps34
  go_wp2
  have x1 := BoxN.new w #[.int .i64 kind, .int .i64 mode, .int .i64 uid, .int .i64 gid, .int .i64 time, va, vl, .int .i64 size, .slice A data.length c, .string target, .int .i64 major, .int .i64 minor]
  have q1 : Q w (w.alloc (.cells #[.int .i64 kind, .int .i64 mode, .int .i64 uid, .int .i64 gid, .int .i64 time, va, vl, .int .i64 size, .slice A data.length c, .string target, .int .i64 major, .int .i64 minor] 47)) := (Q.refl w).alloc _
  generalize w.alloc (.cells #[.int .i64 kind, .int .i64 mode, .int .i64 uid, .int .i64 gid, .int .i64 time, va, vl, .int .i64 size, .slice A data.length c, .string target, .int .i64 major, .int .i64 minor] 47) = w1 at *
  have HD : Hid (PcsAt w1 (.slice A data.length c) data) := hd.keep q1
  generalize w.heap.size = gB at *
  obtain ⟨k0, k1, k2, k3, k4, k5, k6, k7, k8, k9, k10, k11⟩ := x1.cells
  clear x1 hd
  go_loopw [3] (fun i wr => ∃ k : Nat, i = .int .i64 k ∧ k ≤ data.length ∧ wr = w1 ∧ Hid ((data.take k).all fewP = true)) (fun i _ => data.length - (intOf i).toNat)
  case atStart => exact ⟨0, rfl, by omega, rfl, rfl⟩
  case round =>
    obtain ⟨k, rfl, hk, hwr, H⟩ := hrel
    subst hwr
    by_cases hlt : k < data.length
    · obtain ⟨g, og, _, ea, _, _, hc⟩ := HD.out.atP (by omega)
      obtain ⟨rfl, -, rfl⟩ := Value.slice.inj ea
      obtain ⟨c1, c2⟩ := hc k hlt
      have E1 : Hid (¬ data[k].2.size ≤ 300 → r = false) := En.out k hlt
      have E2 : Hid (data[k].2.size ≤ 300 → (data.take (k + 1)).all fewP = true) := few_step hlt H.out
      clear hc H Ee En ea
      generalize data[k] = x at *
      have lt2 : (k : Int) < (data.length : Int) := by omega
      by_cases h1 : (300 : Int) < (x.2.size : Int)
      · have t1 : decide ((300 : Int) < (x.2.size : Int)) = true := decide_eq_true h1
        have E := Lib.hid (E1.out (by omega))
        clear h1 E1 E2
        go_wp2
        go_ret
        exact ⟨ret_bool E.out.symm, q1⟩
      · have t1 : decide ((300 : Int) < (x.2.size : Int)) = false := decide_eq_false h1
        have E := Lib.hid (E2.out (by omega))
        clear h1 E1 E2
        go_wp2
        go_roundw
        case rel => exact ⟨k + 1, by go_num, by omega, trivial, E⟩
        case measure => simp [intOf]; omega
    · have E := Lib.hid (Ee.out k (by omega) H.out)
      clear H Ee En
      by_cases h1 : (data.length : Int) ≤ 20
      · have t1 : decide ((data.length : Int) ≤ 20) = true := decide_eq_true h1
        rw [t1] at E
        clear h1
        by_cases h2 : (target.size : Int) ≤ 300
        · have t2 : decide ((target.size : Int) ≤ 300) = true := decide_eq_true h2
          rw [t2] at E
          clear h2
          go_wp2_with fail
          refine (HM.out _ q1).mono ?_
          rintro e w9 ⟨rfl, q9⟩
          have q10 := q1.trans q9.q
          clear q9
          cases b <;> (go_wp2; go_ret; exact ⟨ret_bool (by rw [E.out]; simp), q10⟩)
        · have t2 : decide ((target.size : Int) ≤ 300) = false := decide_eq_false h2
          rw [t2] at E
          clear h2
          go_wp2
          go_ret
          exact ⟨ret_bool (by rw [E.out]; simp), q1⟩
      · have t1 : decide ((data.length : Int) ≤ 20) = false := decide_eq_false h1
        rw [t1] at E
        clear h1
        go_wp2
        go_ret
        exact ⟨ret_bool (by rw [E.out]; simp), q1⟩
end Go.Proofs.YtgbenepapajieaaGreat.Nd
namespace Go.Proofs.YtgbenepapajieaaGreat.Nd
open Go.RowKit
open Go.Proofs.YtgbenepapajieaaGreat.Ex.Rng
open Go.Proofs.YtgbenepapajieaaGreat.Ex (E ExtsAt)

set_option maxRecDepth 100000 in
set_option maxHeartbeats 4000000 in
theorem rExtents_any (v : Value) (n : Nd) (w : World) (h : NodeAt w v n) (hs : n.data.length ≤ 10000) :
    Calls Tryz.prog 99 #[v] w fun e w' => ∃ v', e = .returned v' ∧ OwnX w' w.heap.size v' (n.data.map xOf) ∧ Q w w' := by
  obtain ⟨va, vl, vd, rfl, ha, hl, hd⟩ := h
  obtain ⟨kind, ⟨mode, uid, gid, time, attrs, acl⟩, size, data, target, major, minor⟩ := n
  unfold nodeV
  simp only at ha hl hd hs ⊢
  obtain ⟨A, c, rfl⟩ := hd.form
  have HD : Hid (∀ w', Q w w' → PcsAt w' (.slice A data.length c) data) := fun w' q => hd.keep q
  clear ha hl hd
  go_enter Tryz.func99, Tryz.ntmps99
  go_wp2
  have x1 := BoxN.new w #[.int .i64 kind, .int .i64 mode, .int .i64 uid, .int .i64 gid, .int .i64 time, va, vl, .int .i64 size, .slice A data.length c, .string target, .int .i64 major, .int .i64 minor]
  have k8 := x1.cells.2.2.2.2.2.2.2.2.1
  have q1 : Q w (w.alloc (.cells #[.int .i64 kind, .int .i64 mode, .int .i64 uid, .int .i64 gid, .int .i64 time, va, vl, .int .i64 size, .slice A data.length c, .string target, .int .i64 major, .int .i64 minor] 47)) := (Q.refl w).alloc _
  generalize w.alloc (.cells #[.int .i64 kind, .int .i64 mode, .int .i64 uid, .int .i64 gid, .int .i64 time, va, vl, .int .i64 size, .slice A data.length c, .string target, .int .i64 major, .int .i64 minor] 47) = w1 at *
  clear x1
  go_loopw [3, 4] (fun o i wr => ∃ (k : Nat) (ns : List X), i = .int .i64 k ∧ k ≤ data.length ∧ OwnX wr w1.heap.size o ns ∧ Q w1 wr ∧ ns.length = k ∧ Hid (ns = (data.take k).map xOf)) (fun _ i _ => data.length - (intOf i).toNat)
  case atStart => exact ⟨0, [], rfl, by omega, OwnR.nil_ _ _ _, Q.refl _, rfl, rfl⟩
  case round =>
    obtain ⟨k, ns, rfl, hk, hown, hq, hn, H⟩ := hrel
    obtain ⟨B, cb, rfl⟩ := hown.form flatX
    have c8 := hq.cell k8
    by_cases hlt : k < data.length
    · obtain ⟨g, og, _, ea, _, _, hc⟩ := (HD.out _ q1).atP (by omega)
      obtain ⟨rfl, -, rfl⟩ := Value.slice.inj ea
      obtain ⟨b1, b2⟩ := hc k hlt
      have E1 : Hid (ns ++ [xOf data[k]] = (data.take (k + 1)).map xOf) := by rw [H.out]; exact map_take hlt
      have HO0 := Lib.hid (fun w => rOf_any data[k].1 (data[k].2.size : Int) w)
      have HX : Hid ((limN data[k].1, limN (data[k].2.size : Int)) = xOf data[k]) := rfl
      clear hc H HD ea
      generalize data[k] = x at *
      obtain ⟨x1, xs⟩ := x
      simp only at b1 b2 HO0 HX
      have lt2 : (k : Int) < (data.length : Int) := by omega
      obtain ⟨y1, y2, hE⟩ : ∃ a b, E (xOf (x1, xs)) = .complex .f64 a b := ⟨_, _, rfl⟩
      have HO : Hid (∀ w, Calls Tryz.prog 139 #[.int .i64 x1, .int .i64 (xs.size : Int)] w fun e w' => e = .returned (.complex .f64 y1 y2) ∧ w' = w) := fun w => by
        have := HO0.out w
        rwa [HX.out, hE] at this
      generalize xOf (x1, xs) = y at *
      have hq2 : Q w1 (wr.alloc (.cells #[.complex .f64 y1 y2] 136)).drew := (hq.alloc _).drew
      have hown2 : OwnX (wr.alloc (.cells #[.complex .f64 y1 y2] 136)).drew w1.heap.size (.slice B ns.length cb) ns := (hown.keep ((Q.refl wr).alloc _)).keep (Q.refl _).drew
      have hone : XsAt (wr.alloc (.cells #[.complex .f64 y1 y2] 136)).drew (.slice (some ⟨wr.heap.size, 0, none⟩) 1 1) [y] := by
        have := (own_one flatX 136 wr wr.heap.size (Nat.le_refl _) y).row flatX
        unfold cellsX at this
        rw [hE] at this
        exact this.keep (Q.refl _).drew
      have KS : ∀ w', Q w1 w' → Q w1 w' ∧ w'.cell? ⟨w.heap.size, 8, none⟩ = some (.slice (some ⟨g, og, none⟩) data.length c) ∧ w'.cell? ⟨g, og + k * 2, none⟩ = some (.int .i64 x1) ∧ w'.cell? ⟨g, og + k * 2 + 1, none⟩ = some (.string xs) := fun w' q => ⟨q, q.cell k8, q.cell b1, q.cell b2⟩
      replace KS := Lib.hid KS
      replace hE := Lib.hid hE
      clear HO0 HX k8 b1 b2
      go_wp2_with fail
      go_region_held3 (fun w' => Q w1 w' ∧ w'.cell? ⟨w.heap.size, 8, none⟩ = some (.slice (some ⟨g, og, none⟩) data.length c) ∧ w'.cell? ⟨g, og + k * 2, none⟩ = some (.int .i64 x1) ∧ w'.cell? ⟨g, og + k * 2 + 1, none⟩ = some (.string xs)) (first | assumption | exact KS.out _ (by assumption) | exact KS.out _ (Q.drew hq) | exact KS.out _ (Q.alloc (And.left (by assumption)) _) | exact KS.out _ (Q.drew (And.left (by assumption)))) (first
        | (go_at_call 139; refine (HO.out _).mono ?_; rintro e wo ⟨rfl, rfl⟩)
        | (refine step_append_xs rfl (.tmp 12) (.tmp 27) rfl w1.heap.size (.slice B ns.length cb) ns (by simp [Act.eval, hn]) hown2 (.slice (some ⟨wr.heap.size, 0, none⟩) 1 1) [y] (by simp [Act.eval]) hone (by simp; omega) hq2.size ?_; intro v6 w6 hown6 hg6; have q6 : Q w1 w6 := Below.grown hq2 hg6 hq2.size fun g hg => (hown2.lt g hg).1))
      clear hown2 hone hq2 hg6 KS hown hq
      have hl6 : (ns ++ [y]).length = k + 1 := by simp [hn]
      generalize ns ++ [y] = ns6 at *
      go_wp2
      go_roundw
      case rel => exact ⟨k + 1, ns6, by go_num, by omega, hown6, q6, hl6, E1⟩
      case measure => simp [intOf]; omega
    · have E1 : Hid (ns = data.map xOf) := by
        have := H.out
        rwa [List.take_of_length_le (by omega)] at this
      clear H
      go_wp2
      go_ret
      exact ⟨_, rfl, by rw [← E1.out]; exact hown.mono q1.size, q1.trans hq⟩

set_option maxRecDepth 100000 in
set_option maxHeartbeats 2000000 in
theorem rBytes_any (v : Value) (n : Nd) (w : World) (h : NodeAt w v n) (hs : Small n.data) :
    Calls Tryz.prog 57 #[v] w fun e w' => e = .returned (.int .i64 (sumP n.data : Nat)) ∧ Grew w w' := by
  obtain ⟨va, vl, vd, rfl, ha, hl, hd⟩ := h
  obtain ⟨kind, ⟨mode, uid, gid, time, attrs, acl⟩, size, data, target, major, minor⟩ := n
  unfold nodeV
  obtain ⟨hs1, hs2⟩ := hs
  simp only at ha hl hd hs1 hs2 ⊢
  obtain ⟨A, c, rfl⟩ := hd.form
  have HD : Hid (∀ w', Q w w' → PcsAt w' (.slice A data.length c) data) := fun w' q => hd.keep q
  clear ha hl hd
  go_enter Tryz.func57, Tryz.ntmps57
  go_wp2
  have x1 := BoxN.new w #[.int .i64 kind, .int .i64 mode, .int .i64 uid, .int .i64 gid, .int .i64 time, va, vl, .int .i64 size, .slice A data.length c, .string target, .int .i64 major, .int .i64 minor]
  have k8 := x1.cells.2.2.2.2.2.2.2.2.1
  have q1 : Grew w (w.alloc (.cells #[.int .i64 kind, .int .i64 mode, .int .i64 uid, .int .i64 gid, .int .i64 time, va, vl, .int .i64 size, .slice A data.length c, .string target, .int .i64 major, .int .i64 minor] 47)) := Grew.alloc _ _
  generalize w.alloc (.cells #[.int .i64 kind, .int .i64 mode, .int .i64 uid, .int .i64 gid, .int .i64 time, va, vl, .int .i64 size, .slice A data.length c, .string target, .int .i64 major, .int .i64 minor] 47) = w1 at *
  clear x1
  go_loopw [3, 4] (fun s i wr => ∃ (k m : Nat), i = .int .i64 k ∧ s = .int .i64 (m : Nat) ∧ k ≤ data.length ∧ m ≤ k * 100000 ∧ Grew w1 wr ∧ Hid (m = sumP (data.take k))) (fun _ i _ => data.length - (intOf i).toNat)
  case atStart => exact ⟨0, 0, rfl, rfl, by omega, by omega, Grew.refl _, rfl⟩
  case round =>
    obtain ⟨k, m, rfl, rfl, hk, hm, hq, H⟩ := hrel
    have c8 := hq.q.cell k8
    by_cases hlt : k < data.length
    · obtain ⟨g, og, _, ea, _, _, hc⟩ := (HD.out _ (q1.trans hq).q).atP (by omega)
      obtain ⟨rfl, -, rfl⟩ := Value.slice.inj ea
      obtain ⟨c1, c2⟩ := hc k hlt
      have o1 := hs2 _ (List.getElem_mem hlt)
      have E1 : Hid (m + data[k].2.size = sumP (data.take (k + 1))) := by rw [sumP_take hlt, ← H.out]; rfl
      clear hc H hs2 HD ea
      generalize data[k] = x at *
      have lt2 : (k : Int) < (data.length : Int) := by omega
      have hb : m + x.2.size ≤ (k + 1) * 100000 := by omega
      have hw : IntKind.i64.wrap ((m : Int) + (x.2.size : Int)) = ((m + x.2.size : Nat) : Int) := by rw [← Int.natCast_add]; exact IntWalk.i64_in _ (by omega)
      generalize m + x.2.size = m2 at *
      clear hm
      go_wp2
      go_roundw
      case rel => exact ⟨k + 1, m2, by go_num, rfl, by omega, hb, hq, E1⟩
      case measure => simp [intOf]; omega
    · have E1 : Hid (m = sumP data) := by
        have := H.out
        rwa [List.take_of_length_le (by omega)] at this
      clear H
      go_wp2
      go_ret
      exact ⟨ret_int (by rw [E1.out]), q1.trans hq⟩
end Go.Proofs.YtgbenepapajieaaGreat.Nd
