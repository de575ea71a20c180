/-
  What the loop of Make holds in memory.
-/
import Derived.Test.YtgbenepapajieaaGreatTNum
namespace Go.Proofs.YtgbenepapajieaaGreat.Tr
open Go.RowKit
open Go.Proofs.YtgbenepapajieaaGreat.Nd (Nd mayN sumP nodeV NodeAt PcsAt OwnP BoxN)

structure MJ (w w' : World) (bt : Nat) (vE vN vD vF : Value) (es : List Ent) (rs : List NV) (ds : List ByteArray) (fs : List Int) : Prop where
  q : Q w w'
  res : BoxT w' w.heap.size (.slice none 0 0) (.slice none 0 0)
  blt : w.heap.size < bt
  box : BoxT w' bt vE vN
  re : OwnE w' (w.heap.size + 1) vE es
  rn : OwnN w' (w.heap.size + 1) vN rs
  rd : OwnS w' (w.heap.size + 1) vD ds
  rf : OwnI w' (w.heap.size + 1) vF fs
  inn : ∀ x ∈ rs, InO w' (w.heap.size + 1) x
section
variable {w w' w2 : World} {bt : Nat} {vE vN vD vF v2 : Value} {es es2 : List Ent} {rs : List NV} {ds ds2 : List ByteArray} {fs fs2 : List Int}
theorem MJ.size (h : MJ w w' bt vE vN vD vF es rs ds fs) : w.heap.size + 2 ≤ w'.heap.size := by have := h.box.lt; have := h.blt; omega
theorem MJ.keep (h : MJ w w' bt vE vN vD vF es rs ds fs) (q : Q w' w2) : MJ w w2 bt vE vN vD vF es rs ds fs :=
  ⟨h.q.trans q, h.res.keep q, h.blt, h.box.keep q, OwnR.keep h.re q, OwnR.keep h.rn q, OwnR.keep h.rd q, OwnR.keep h.rf q, fun x hx => (h.inn x hx).typ (Typ.of_q (Ts := []) q) (by simp) (by simp) (by simp)⟩
theorem MJ.dir (h : MJ w w' bt vE vN vD vF es rs ds fs) (hg : w'.grownBy w2 vD.ownBlock) (h2 : OwnS w2 (w.heap.size + 1) v2 ds2) : MJ w w2 bt vE vN v2 vF es rs ds2 fs := by
  have t : Typ [9] w' w2 := Typ.grown h.rd hg (by simp)
  exact ⟨Below.grown h.q hg h.q.size fun g e => by have := (OwnR.lt h.rd g e).1; omega, h.res.typ t (by decide), h.blt, h.box.typ t (by decide), OwnR.typ h.re t (by decide), OwnR.typ h.rn t (by decide), h2, OwnR.typ h.rf t (by decide), fun x hx => (h.inn x hx).typ t (by decide) (by decide) (by decide)⟩
theorem MJ.file (h : MJ w w' bt vE vN vD vF es rs ds fs) (hg : w'.grownBy w2 vF.ownBlock) (h2 : OwnI w2 (w.heap.size + 1) v2 fs2) : MJ w w2 bt vE vN vD v2 es rs ds fs2 := by
  have t : Typ [3] w' w2 := Typ.grown h.rf hg (by simp)
  exact ⟨Below.grown h.q hg h.q.size fun g e => by have := (OwnR.lt h.rf g e).1; omega, h.res.typ t (by decide), h.blt, h.box.typ t (by decide), OwnR.typ h.re t (by decide), OwnR.typ h.rn t (by decide), OwnR.typ h.rd t (by decide), h2, fun x hx => (h.inn x hx).typ t (by decide) (by decide) (by decide)⟩
theorem MJ.ent_typ (h : MJ w w' bt vE vN vD vF es rs ds fs) (hg : w'.grownBy w2 vE.ownBlock) (v : Value) : Typ [49, 25] w' (w2.setCell ⟨bt, 0, none⟩ v) := by
  have t : Typ [49, 25] w' w2 := Typ.grown h.re hg (by simp)
  have tE : Typ [49] w' w2 := Typ.grown h.re hg (by simp)
  exact t.trans (Typ.set (h.box.typ tE (by decide)) (by simp) 0 v)
theorem MJ.ent (h : MJ w w' bt vE vN vD vF es rs ds fs) (hg : w'.grownBy w2 vE.ownBlock) (h2 : OwnE w2 (w.heap.size + 1) v2 es2) : MJ w (w2.setCell ⟨bt, 0, none⟩ v2) bt v2 vN vD vF es2 rs ds fs := by
  have tE : Typ [49] w' w2 := Typ.grown h.re hg (by simp)
  have hb := h.box.typ tE (by decide)
  have hr := h.res.typ tE (by decide)
  have tT : Typ [25] w2 (w2.setCell ⟨bt, 0, none⟩ v2) := Typ.set hb (by simp) 0 v2
  have tt := h.ent_typ hg v2
  have q2 : Q w w2 := Below.grown h.q hg h.q.size fun g e => by have := (OwnR.lt h.re g e).1; omega
  exact ⟨q_set q2 (by have := h.blt; omega) 0 v2, hr.other (by have := h.blt; omega) 0 v2, h.blt, hb.set0 v2, OwnR.typ h2 tT (by decide), OwnR.typ h.rn tt (by decide), OwnR.typ h.rd tt (by decide), OwnR.typ h.rf tt (by decide), fun x hx => (h.inn x hx).typ tt (by decide) (by decide) (by decide)⟩
theorem MJ.node {x : NV} (h : MJ w w' bt vE vN vD vF es rs ds fs) (hg : w'.grownBy w2 vN.ownBlock) (h2 : OwnN w2 (w.heap.size + 1) v2 (rs ++ [x])) (hx : InO w' (w.heap.size + 1) x) : MJ w (w2.setCell ⟨bt, 1, none⟩ v2) bt vE v2 vD vF es (rs ++ [x]) ds fs := by
  have t : Typ [47, 25] w' w2 := Typ.grown h.rn hg (by simp)
  have tE : Typ [47] w' w2 := Typ.grown h.rn hg (by simp)
  have hb := h.box.typ tE (by decide)
  have hr := h.res.typ tE (by decide)
  have tT : Typ [25] w2 (w2.setCell ⟨bt, 1, none⟩ v2) := Typ.set hb (by simp) 1 v2
  have tt := t.trans (Typ.set (Ts := [47, 25]) hb (by simp) 1 v2)
  have q2 : Q w w2 := Below.grown h.q hg h.q.size fun g e => by have := (OwnR.lt h.rn g e).1; omega
  refine ⟨q_set q2 (by have := h.blt; omega) 1 v2, hr.other (by have := h.blt; omega) 1 v2, h.blt, hb.set1 v2, OwnR.typ h.re tt (by decide), OwnR.typ h2 tT (by decide), OwnR.typ h.rd tt (by decide), OwnR.typ h.rf tt (by decide), fun y hy => ?_⟩
  rcases List.mem_append.1 hy with hy | hy
  · exact (h.inn y hy).typ tt (by decide) (by decide) (by decide)
  · rw [List.mem_singleton.1 hy]
    exact hx.typ tt (by decide) (by decide) (by decide)
end
theorem boxN_typ {Ts : List TypeId} {w w' : World} {g : Nat} {cs : Array Value} (h : BoxN w g cs) (t : Typ Ts w w') (hT : 47 ∉ Ts) : BoxN w' g cs := (t.2 g _ _ _ h hT).trans h
/-- What Make starts with. -/
theorem MJ.start (w : World) (r : NV) (w1 w2 w3 w4 w5 : World)
    (e1 : w1 = w.alloc (.cells #[.slice none 0 0, .slice none 0 0] 25)) (e2 : w2 = w1.alloc (.cells #[.string ⟨#[]⟩, .int .i64 0] 49)) (e3 : w3 = w2.alloc (.cells (cellsN r).toArray 47))
    (e4 : w4 = w3.alloc (.cells #[.slice (some ⟨w.heap.size + 1, 0, none⟩) 1 1, .slice (some ⟨w.heap.size + 2, 0, none⟩) 1 1] 25)) (e5 : w5 = w4.alloc (.cells #[.string ⟨#[]⟩] 9)) (hi : ∀ W, InO W (w.heap.size + 1) r) :
    MJ w w5 (w.heap.size + 3) (.slice (some ⟨w.heap.size + 1, 0, none⟩) 1 1) (.slice (some ⟨w.heap.size + 2, 0, none⟩) 1 1) (.slice (some ⟨w.heap.size + 4, 0, none⟩) 1 1) (.slice none 0 0) [(⟨#[]⟩, 0)] [r] [⟨#[]⟩] [] := by
  have s1 : w1.heap.size = w.heap.size + 1 := by rw [e1, World.size_alloc]
  have s2 : w2.heap.size = w.heap.size + 2 := by rw [e2, World.size_alloc, s1]
  have s3 : w3.heap.size = w.heap.size + 3 := by rw [e3, World.size_alloc, s2]
  have s4 : w4.heap.size = w.heap.size + 4 := by rw [e4, World.size_alloc, s3]
  have q1 : Q w w1 := by rw [e1]; exact (Q.refl _).alloc _
  have q2 : Q w1 w2 := by rw [e2]; exact (Q.refl _).alloc _
  have q3 : Q w2 w3 := by rw [e3]; exact (Q.refl _).alloc _
  have q4 : Q w3 w4 := by rw [e4]; exact (Q.refl _).alloc _
  have q5 : Q w4 w5 := by rw [e5]; exact (Q.refl _).alloc _
  have b1 : BoxT w1 w.heap.size (.slice none 0 0) (.slice none 0 0) := by rw [e1]; exact BoxT.new w _ _
  have b2 : OwnE w2 (w.heap.size + 1) (.slice (some ⟨w.heap.size + 1, 0, none⟩) 1 1) [(⟨#[]⟩, 0)] := by
    have := own_one flatE 49 w1 (w.heap.size + 1) (Nat.le_of_eq s1.symm) ((⟨#[]⟩ : ByteArray), (0 : Int))
    rw [s1] at this
    rw [e2]
    exact this
  have b3 : OwnN w3 (w.heap.size + 1) (.slice (some ⟨w.heap.size + 2, 0, none⟩) 1 1) [r] := by
    have := own_one flatN 47 w2 (w.heap.size + 1) (by rw [s2]; exact Nat.le_succ _) r
    rw [s2] at this
    rw [e3]
    exact this
  have b4 : BoxT w4 (w.heap.size + 3) (.slice (some ⟨w.heap.size + 1, 0, none⟩) 1 1) (.slice (some ⟨w.heap.size + 2, 0, none⟩) 1 1) := by
    have := BoxT.new w3 (.slice (some ⟨w.heap.size + 1, 0, none⟩) 1 1) (.slice (some ⟨w.heap.size + 2, 0, none⟩) 1 1)
    rw [s3] at this
    rw [e4]
    exact this
  have b5 : OwnS w5 (w.heap.size + 1) (.slice (some ⟨w.heap.size + 4, 0, none⟩) 1 1) [⟨#[]⟩] := by
    have := own_one flatS 9 w4 (w.heap.size + 1) (by rw [s4]; omega) (⟨#[]⟩ : ByteArray)
    rw [s4] at this
    rw [e5]
    exact this
  exact ⟨(((q1.trans q2).trans q3).trans q4).trans q5, b1.keep (((q2.trans q3).trans q4).trans q5), (by omega), b4.keep q5, OwnR.keep b2 ((q3.trans q4).trans q5), OwnR.keep b3 (q4.trans q5), b5, OwnR.nil_ _ _ _, fun x hx => by rw [List.mem_singleton.1 hx]; exact hi _⟩
end Go.Proofs.YtgbenepapajieaaGreat.Tr
