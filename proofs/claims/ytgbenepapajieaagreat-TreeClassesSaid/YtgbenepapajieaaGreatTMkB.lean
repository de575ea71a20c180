/-
  The box of a node that Make makes: stores of all its cells.
-/
import Derived.Test.YtgbenepapajieaaGreatTMakeJ
import Derived.Test.YtgbenepapajieaaGreatTMadeM
namespace Go.Proofs.YtgbenepapajieaaGreat.Tr
open Go.RowKit
open Go.Proofs.YtgbenepapajieaaGreat.Nd (Nd mayN sumP nodeV NodeAt PcsAt OwnP BoxN writeN cutNd)
open Go.Proofs.YtgbenepapajieaaGreat.Pa (lessB parentB hasParentB lastB underB joinB joinErrB)
theorem box_typ {w : World} {g : Nat} {cs : Array Value} (h : BoxN w g cs) (i : Nat) (u : Value) : Typ [47] w (w.setCell ⟨g, i, none⟩ u) := Typ.set h (by simp) i u
theorem store12 {w0 w : World} {g : Nat} {a0 a1 a2 a3 a4 a5 a6 a7 a8 a9 a10 a11 : Value} (h : BoxN w g #[a0, a1, a2, a3, a4, a5, a6, a7, a8, a9, a10, a11]) (q : Q w0 w) (hg : w0.heap.size ≤ g) (c0 c1 c2 c3 c4 c5 c6 c7 c8 c9 c10 c11 : Value) :
    BoxN ((((((((((((w.setCell ⟨g, 0, none⟩ c0).setCell ⟨g, 1, none⟩ c1).setCell ⟨g, 2, none⟩ c2).setCell ⟨g, 3, none⟩ c3).setCell ⟨g, 4, none⟩ c4).setCell ⟨g, 5, none⟩ c5).setCell ⟨g, 6, none⟩ c6).setCell ⟨g, 7, none⟩ c7).setCell ⟨g, 8, none⟩ c8).setCell ⟨g, 9, none⟩ c9).setCell ⟨g, 10, none⟩ c10).setCell ⟨g, 11, none⟩ c11) g #[c0, c1, c2, c3, c4, c5, c6, c7, c8, c9, c10, c11] ∧ Q w0 ((((((((((((w.setCell ⟨g, 0, none⟩ c0).setCell ⟨g, 1, none⟩ c1).setCell ⟨g, 2, none⟩ c2).setCell ⟨g, 3, none⟩ c3).setCell ⟨g, 4, none⟩ c4).setCell ⟨g, 5, none⟩ c5).setCell ⟨g, 6, none⟩ c6).setCell ⟨g, 7, none⟩ c7).setCell ⟨g, 8, none⟩ c8).setCell ⟨g, 9, none⟩ c9).setCell ⟨g, 10, none⟩ c10).setCell ⟨g, 11, none⟩ c11) ∧ Typ [47] w ((((((((((((w.setCell ⟨g, 0, none⟩ c0).setCell ⟨g, 1, none⟩ c1).setCell ⟨g, 2, none⟩ c2).setCell ⟨g, 3, none⟩ c3).setCell ⟨g, 4, none⟩ c4).setCell ⟨g, 5, none⟩ c5).setCell ⟨g, 6, none⟩ c6).setCell ⟨g, 7, none⟩ c7).setCell ⟨g, 8, none⟩ c8).setCell ⟨g, 9, none⟩ c9).setCell ⟨g, 10, none⟩ c10).setCell ⟨g, 11, none⟩ c11) := by
  have h0 := BoxN.set h 0 c0
  simp only [List.setIfInBounds_toArray, List.set_cons_zero] at h0
  have q0 := q_set q hg 0 c0
  have t0 := box_typ h 0 c0
  have h1 := BoxN.set h0 1 c1
  simp only [List.setIfInBounds_toArray, List.set_cons_succ, List.set_cons_zero] at h1
  have q1 := q_set q0 hg 1 c1
  have t1 := Typ.trans t0 (box_typ h0 1 c1)
  have h2 := BoxN.set h1 2 c2
  simp only [List.setIfInBounds_toArray, List.set_cons_succ, List.set_cons_zero] at h2
  have q2 := q_set q1 hg 2 c2
  have t2 := Typ.trans t1 (box_typ h1 2 c2)
  have h3 := BoxN.set h2 3 c3
  simp only [List.setIfInBounds_toArray, List.set_cons_succ, List.set_cons_zero] at h3
  have q3 := q_set q2 hg 3 c3
  have t3 := Typ.trans t2 (box_typ h2 3 c3)
  have h4 := BoxN.set h3 4 c4
  simp only [List.setIfInBounds_toArray, List.set_cons_succ, List.set_cons_zero] at h4
  have q4 := q_set q3 hg 4 c4
  have t4 := Typ.trans t3 (box_typ h3 4 c4)
  have h5 := BoxN.set h4 5 c5
  simp only [List.setIfInBounds_toArray, List.set_cons_succ, List.set_cons_zero] at h5
  have q5 := q_set q4 hg 5 c5
  have t5 := Typ.trans t4 (box_typ h4 5 c5)
  have h6 := BoxN.set h5 6 c6
  simp only [List.setIfInBounds_toArray, List.set_cons_succ, List.set_cons_zero] at h6
  have q6 := q_set q5 hg 6 c6
  have t6 := Typ.trans t5 (box_typ h5 6 c6)
  have h7 := BoxN.set h6 7 c7
  simp only [List.setIfInBounds_toArray, List.set_cons_succ, List.set_cons_zero] at h7
  have q7 := q_set q6 hg 7 c7
  have t7 := Typ.trans t6 (box_typ h6 7 c7)
  have h8 := BoxN.set h7 8 c8
  simp only [List.setIfInBounds_toArray, List.set_cons_succ, List.set_cons_zero] at h8
  have q8 := q_set q7 hg 8 c8
  have t8 := Typ.trans t7 (box_typ h7 8 c8)
  have h9 := BoxN.set h8 9 c9
  simp only [List.setIfInBounds_toArray, List.set_cons_succ, List.set_cons_zero] at h9
  have q9 := q_set q8 hg 9 c9
  have t9 := Typ.trans t8 (box_typ h8 9 c9)
  have h10 := BoxN.set h9 10 c10
  simp only [List.setIfInBounds_toArray, List.set_cons_succ, List.set_cons_zero] at h10
  have q10 := q_set q9 hg 10 c10
  have t10 := Typ.trans t9 (box_typ h9 10 c10)
  have h11 := BoxN.set h10 11 c11
  simp only [List.setIfInBounds_toArray, List.set_cons_succ, List.set_cons_zero] at h11
  have q11 := q_set q10 hg 11 c11
  have t11 := Typ.trans t10 (box_typ h10 11 c11)
  exact ⟨h11, q11, t11⟩
theorem InO.nodeTyp {w w' : World} {B : Nat} {x : NV} (h : InO w B x) (t : Typ [47] w w') : InO w' B x := h.typ t (by decide) (by decide) (by decide)
theorem InO.own {w : World} {B : Nat} {x : NV} (h : InO w B x) : Nd.OwnN w B (.agg #[.int .i64 x.n.kind, .int .i64 x.n.mt.mode, .int .i64 x.n.mt.uid, .int .i64 x.n.mt.gid, .int .i64 x.n.mt.time, .slice x.a.1 x.a.2.1 x.a.2.2, .slice x.l.1 x.l.2.1 x.l.2.2, .int .i64 x.n.size, .slice x.d.1 x.d.2.1 x.d.2.2, .string x.n.target, .int .i64 x.n.major, .int .i64 x.n.minor]) x.n := ⟨_, _, _, rfl, h.1, h.2.1, h.2.2⟩
theorem InO.keepQ {w w' : World} {B : Nat} {x : NV} (h : InO w B x) (q : Q w w') : InO w' B x := h.typ (Typ.of_q (Ts := []) q) (by simp) (by simp) (by simp)
theorem rem_c (U m : Nat) : Int.tmod (U : Int) (m : Int) = ((U % m : Nat) : Int) := (Int.ofNat_tmod U m).symm
theorem div_c (U m : Nat) : Int.tdiv (U : Int) (m : Int) = ((U / m : Nat) : Int) := (Int.ofNat_tdiv U m).symm
end Go.Proofs.YtgbenepapajieaaGreat.Tr
