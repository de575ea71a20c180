/-
  Plain files (no metadata): as mathematics, and the contracts of Write, Cut, Read at them.
-/
import Derived.Test.YtheobpilmphdjaaGreatNTold
namespace Go.Proofs.YtheobpilmphdjaaGreat.Nd
open Go.RowKit
open Go.Proofs.YtheobpilmphdjaaGreat.Ex.Rng
open Go.Proofs.YtheobpilmphdjaaGreat.Ex (E ExtsAt)

/-- A file of this size with these pieces, all else 0. -/
def F (sz : Int) (d : List Pc) : Nd := ⟨2, ⟨0, 0, 0, 0, [], []⟩, sz, d, ⟨#[]⟩, 0, 0⟩
theorem F_fit {sz : Int} {d : List Pc} (h : VF sz d) : Fit (F sz d) := ⟨by simp [F], by simp [F], h.small⟩
theorem may0 : mayM ⟨0, 0, 0, 0, [], []⟩ = true := by decide +kernel
theorem F_file {sz : Int} {d : List Pc} (h : VF sz d) : fileB (F sz d) = true := by
  unfold fileB mayN F
  simp only
  rw [if_neg (by omega), if_pos trivial, contentB_of h, may0]
  simp [Lib.toList_data]
theorem F_may {sz : Int} {d : List Pc} (h : VF sz d) : mayN (F sz d) = true := by
  have := F_file h
  unfold fileB at this
  rw [Bool.and_eq_true] at this
  exact this.2
theorem ends_of {l : List Pc} {s : Int} (h : WF l) (hb : ∀ q, (byteOf l q).isSome = true → (q : Int) < s) : ∀ p ∈ l, p.1 + (p.2.size : Int) ≤ s := by
  intro p hp
  obtain ⟨h0, h1⟩ := h.1 p hp
  have := hb (p.1.toNat + p.2.size - 1) (byteOf_some.2 ⟨p, hp, by unfold PIn; omega⟩)
  omega
theorem vf_nil {s : Int} (h0 : 0 ≤ s) (h1 : s ≤ 1099511627776) : VF s [] := ⟨by simp, by simp [sumP], WF.nil_, by simp, h0, h1⟩
theorem vf_write {sz a : Int} {d : List Pc} {s : ByteArray} (h : VF sz d) (h0 : 0 ≤ a) (h1 : a + (s.size : Int) ≤ 1099511627776) (hs : 0 < s.size) (hl : (wData d a s).length ≤ 16) (hm : sumP (wData d a s) ≤ 4000) : VF (max sz (a + (s.size : Int))) (wData d a s) := by
  have hw := wData_wf h.wf h0 hs
  refine ⟨hl, hm, hw, ends_of hw fun q hq => ?_, by have := h.s0; omega, by have := h.s1; omega⟩
  rw [wData_byte h.wf h.top h0 hs] at hq
  by_cases hp : PIn q (a, s)
  · unfold PIn at hp; simp only at hp; omega
  · rw [if_neg hp] at hq
    obtain ⟨p, hp1, hp2⟩ := byteOf_some.1 hq
    have := h.ends p hp1
    unfold PIn at hp2
    omega
theorem writeF {sz a : Int} {d : List Pc} {s : ByteArray} (h : VF sz d) (h0 : 0 ≤ a) (h1 : a + (s.size : Int) ≤ 1099511627776) (hs : 0 < s.size) (hl : (wData d a s).length ≤ 16) (hm : sumP (wData d a s) ≤ 4000) : writeN (F sz d) a s = (F (max sz (a + (s.size : Int))) (wData d a s), 0) := by
  unfold writeN
  rw [if_pos ⟨F_file h, decide_eq_true (by omega)⟩, if_neg (by omega), if_neg (by omega), if_neg (by show ¬ (16 < (wData d a s).length ∨ 4000 < sumP (wData d a s)); omega)]
  rfl
theorem writeF_nil {sz a : Int} {d : List Pc} {s : ByteArray} (h : VF sz d) (h0 : 0 ≤ a) (h1 : a ≤ 1099511627776) (hs : s.size = 0) : writeN (F sz d) a s = (F sz d, 0) := by
  unfold writeN
  rw [if_pos ⟨F_file h, decide_eq_true (by omega)⟩, if_neg (by omega), if_pos hs]
theorem vf_cut {sz x : Int} {d : List Pc} (h : VF sz d) (h0 : 0 ≤ x) (h1 : x ≤ 1099511627776) : VF x (clipP d 0 x) :=
  ⟨Nat.le_trans (clipP_len _ _ _) h.len, Nat.le_trans (clipP_sum _ _ _) h.sum, clipP_wf h.wf _ _, fun _ hp => (clipP_ends hp).2.1, h0, h1⟩
theorem cutF {sz x : Int} {d : List Pc} (h : VF sz d) (h0 : 0 ≤ x) (h1 : x ≤ 1099511627776) : cutNd (F sz d) x = (F x (clipP d 0 x), 0) := by
  unfold cutNd
  rw [if_pos ⟨F_file h, decide_eq_true ⟨h0, h1⟩⟩]
  rfl
theorem readF {sz a long : Int} {d : List Pc} (h : VF sz d) (h0 : 0 ≤ a) (h1 : 0 ≤ long) (h2 : long ≤ 4000) : readN (F sz d) a long = (txt d (limN a) (limN (min long (sz - a))), 0) := by
  unfold readN
  rw [if_pos ⟨F_file h, h0, h1, h2⟩]
  rfl

/-! ### The contracts -/
theorem F_at {w : World} {Aa Al Ad : Option Addr} {ca cl cd : Nat} {sz : Int} {d : List Pc} (h1 : AtsAt w (.slice Aa 0 ca) []) (h2 : AcesAt w (.slice Al 0 cl) []) (h3 : PcsAt w (.slice Ad d.length cd) d) : NodeAt w (.agg #[.int .i64 2, .int .i64 0, .int .i64 0, .int .i64 0, .int .i64 0, .slice Aa 0 ca, .slice Al 0 cl, .int .i64 sz, .slice Ad d.length cd, .string ⟨#[]⟩, .int .i64 0, .int .i64 0]) (F sz d) := ⟨_, _, _, rfl, h1, h2, h3⟩
theorem F_zero (w : World) : NodeAt w (.agg #[.int .i64 2, .int .i64 0, .int .i64 0, .int .i64 0, .int .i64 0, .slice none 0 0, .slice none 0 0, .int .i64 0, .slice none 0 0, .string ⟨#[]⟩, .int .i64 0, .int .i64 0]) (F 0 []) := ⟨_, _, _, rfl, RowAt.nil_ _, AcesAt.nil_ _, RowAt.nil_ _⟩
def FPost (sz c : Int) (d : List Pc) (w : World) (e : Ending) (w' : World) : Prop := ∃ Aa ca Al cl Ad cd, e = .returned (.tuple #[.agg #[.int .i64 2, .int .i64 0, .int .i64 0, .int .i64 0, .int .i64 0, .slice Aa 0 ca, .slice Al 0 cl, .int .i64 sz, .slice Ad d.length cd, .string ⟨#[]⟩, .int .i64 0, .int .i64 0], .int .i64 c]) ∧ AtsAt w' (.slice Aa 0 ca) [] ∧ AcesAt w' (.slice Al 0 cl) [] ∧ PcsAt w' (.slice Ad d.length cd) d ∧ Q w w'
theorem fpost {sz c : Int} {d : List Pc} {w : World} {e : Ending} {w' : World} {va vl vd : Value} (he : e = .returned (.tuple #[nodeV (F sz d) va vl vd, .int .i64 c])) (h1 : AtsAt w' va (F sz d).mt.attrs) (h2 : AcesAt w' vl (F sz d).mt.acl) (h3 : PcsAt w' vd (F sz d).data) (q : Q w w') : FPost sz c d w e w' := by
  subst he
  obtain ⟨Aa, ca, rfl⟩ := h1.form
  obtain ⟨Al, cl, rfl⟩ := h2.form
  obtain ⟨Ad, cd, rfl⟩ := h3.form
  exact ⟨Aa, ca, Al, cl, Ad, cd, rfl, h1, h2, h3, q⟩
theorem wF_c {v : Value} {sz sz' a c : Int} {d d' : List Pc} {s : ByteArray} {w : World} (h : NodeAt w v (F sz d)) (hv : VF sz d) (hss : s.size ≤ 90000) (hw : writeN (F sz d) a s = (F sz' d', c)) :
    Calls Tryz.prog 6 #[v, .int .i64 a, .string s] w (FPost sz' c d' w) :=
  (write_c h (F_fit hv) hss hw).mono fun _ _ ⟨_, _, _, he, h1, h2, h3, q⟩ => fpost he h1 h2 h3 q
theorem cF_c {v : Value} {sz sz' a c : Int} {d d' : List Pc} {w : World} (h : NodeAt w v (F sz d)) (hv : VF sz d) (hw : cutNd (F sz d) a = (F sz' d', c)) :
    Calls Tryz.prog 8 #[v, .int .i64 a] w (FPost sz' c d' w) :=
  (cutn_c h (F_fit hv) hw).mono fun _ _ ⟨_, _, _, he, h1, h2, h3, q⟩ => fpost he h1 h2 h3 q

theorem add_str {a b : ByteArray} (h : a.size + b.size ≤ 1000000) : Op.stringOp .add a b = pure (.string (a ++ b)) := by
  unfold Op.stringOp
  simp only
  rw [if_neg]
  simp only [IntKind.max]
  show ¬ (_ > (9223372036854775807 : Int))
  omega
theorem rem_nat (z : Int) (m : Nat) (hm : 0 < m) : ∃ x : Nat, (IntKind.u64.wrap z).tmod (m : Int) = (x : Int) ∧ x < m := by
  refine ⟨((IntKind.u64.wrap z).tmod (m : Int)).toNat, (Int.toNat_of_nonneg (Int.tmod_nonneg _ (wrap_u64_nonneg z))).symm, ?_⟩
  have h1 := Int.emod_lt_of_pos (IntKind.u64.wrap z) (show (0 : Int) < (m : Int) by omega)
  have h2 := Int.tmod_nonneg (m : Int) (wrap_u64_nonneg z)
  rw [Int.tmod_eq_emod_of_nonneg (wrap_u64_nonneg z)] at h2 ⊢
  omega
theorem getB (s : ByteArray) (k : Nat) (h : k < s.size) : s[k] = s.data.getD k 0 := by
  rw [Array.getD_eq_getD_getElem?, Array.getElem?_eq_getElem (show k < s.data.size from h)]
  rfl
theorem str_beq {a b : ByteArray} (h : a = b) : (a.toList == b.toList) = true := by rw [h]; exact beq_self_eq_true _
end Go.Proofs.YtheobpilmphdjaaGreat.Nd
