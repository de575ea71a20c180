/-
  The contract of node.own: an equal node in memory of its own.
-/
import Derived.Test.YtheobpilmphdjaaGreatNMay
namespace Go.Proofs.YtheobpilmphdjaaGreat.Nd
open Go.RowKit
open Go.Proofs.YtheobpilmphdjaaGreat.Ex.Rng

/-- A row of the call's own, another block being written. -/
theorem own_far {α : Type} {cs : α → List Value} {k : Nat} {T : TypeId} {w w' : World} {B g : Nat} {v : Value} {l : List α} (h : OwnR T cs k w B v l) (f : Far g w w') (hg : g < B) : OwnR T cs k w' B v l :=
  h.other fun b hb => f.2 b (h.lt b hb).2 (by have := (h.lt b hb).1; omega)
theorem Far.chain {g : Nat} {w w' : World} (h : Far g w w') (i : Nat) (u : Value) : Far g w (w'.setCell ⟨g, i, none⟩ u) := h.trans (Far.setCell g w' i u)
/-- A node whose rows are the call's own. -/
def OwnN (w : World) (B : Nat) (v : Value) (n : Nd) : Prop := ∃ va vl vd, v = nodeV n va vl vd ∧ OwnT w B va n.mt.attrs ∧ OwnA w B vl n.mt.acl ∧ OwnP w B vd n.data
theorem OwnN.at_ {w : World} {B : Nat} {v : Value} {n : Nd} (h : OwnN w B v n) : NodeAt w v n := by
  obtain ⟨va, vl, vd, e, h1, h2, h3⟩ := h
  exact ⟨va, vl, vd, e, h1.row flatT, (h2.row flat3).aces, h3.row flatP⟩
set_option maxRecDepth 100000 in
set_option maxHeartbeats 8000000 in
theorem own_any (v : Value) (n : Nd) (w : World) (h : NodeAt w v n) (h1 : n.mt.attrs.length ≤ 10000) (h2 : n.mt.acl.length ≤ 10000) (h3 : n.data.length ≤ 10000) :
    Calls Tryz.prog 24 #[v] w fun e w' => ∃ v', e = .returned v' ∧ OwnN w' w.heap.size v' n ∧ Q w w' := by
  obtain ⟨va, vl, vd, rfl, ha, hl, hd⟩ := h
  obtain ⟨kind, ⟨mode, uid, gid, time, attrs, acl⟩, size, data, target, major, minor⟩ := n
  unfold nodeV
  simp only at ha hl hd h1 h2 h3 ⊢
  go_enter Tryz.func24, Tryz.ntmps24
  go_wp2_with fail
  have x1 : BoxN ((w.alloc (.cells #[.int .i64 kind, .int .i64 mode, .int .i64 uid, .int .i64 gid, .int .i64 time, va, vl, .int .i64 size, vd, .string target, .int .i64 major, .int .i64 minor] 28)).alloc (.cells #[.int .i64 0, .int .i64 0, .int .i64 0, .int .i64 0, .int .i64 0, .slice none 0 0, .slice none 0 0, .int .i64 0, .slice none 0 0, .string ⟨#[]⟩, .int .i64 0, .int .i64 0] 28)) w.heap.size #[.int .i64 kind, .int .i64 mode, .int .i64 uid, .int .i64 gid, .int .i64 time, va, vl, .int .i64 size, vd, .string target, .int .i64 major, .int .i64 minor] := (BoxN.new w _).keep ((Q.refl _).alloc _)
  have y1 := BoxN.new (w.alloc (.cells #[.int .i64 kind, .int .i64 mode, .int .i64 uid, .int .i64 gid, .int .i64 time, va, vl, .int .i64 size, vd, .string target, .int .i64 major, .int .i64 minor] 28)) #[.int .i64 0, .int .i64 0, .int .i64 0, .int .i64 0, .int .i64 0, .slice none 0 0, .slice none 0 0, .int .i64 0, .slice none 0 0, .string ⟨#[]⟩, .int .i64 0, .int .i64 0]
  rw [World.size_alloc] at y1
  have q1 : Q w ((w.alloc (.cells #[.int .i64 kind, .int .i64 mode, .int .i64 uid, .int .i64 gid, .int .i64 time, va, vl, .int .i64 size, vd, .string target, .int .i64 major, .int .i64 minor] 28)).alloc (.cells #[.int .i64 0, .int .i64 0, .int .i64 0, .int .i64 0, .int .i64 0, .slice none 0 0, .slice none 0 0, .int .i64 0, .slice none 0 0, .string ⟨#[]⟩, .int .i64 0, .int .i64 0] 28)) := ((Q.refl w).alloc _).alloc _
  have s1 : ((w.alloc (.cells #[.int .i64 kind, .int .i64 mode, .int .i64 uid, .int .i64 gid, .int .i64 time, va, vl, .int .i64 size, vd, .string target, .int .i64 major, .int .i64 minor] 28)).alloc (.cells #[.int .i64 0, .int .i64 0, .int .i64 0, .int .i64 0, .int .i64 0, .slice none 0 0, .slice none 0 0, .int .i64 0, .slice none 0 0, .string ⟨#[]⟩, .int .i64 0, .int .i64 0] 28)).heap.size = w.heap.size + 2 := by rw [World.size_alloc, World.size_alloc]
  generalize (w.alloc (.cells #[.int .i64 kind, .int .i64 mode, .int .i64 uid, .int .i64 gid, .int .i64 time, va, vl, .int .i64 size, vd, .string target, .int .i64 major, .int .i64 minor] 28)).alloc (.cells #[.int .i64 0, .int .i64 0, .int .i64 0, .int .i64 0, .int .i64 0, .slice none 0 0, .slice none 0 0, .int .i64 0, .slice none 0 0, .string ⟨#[]⟩, .int .i64 0, .int .i64 0] 28) = w1 at *
  refine (copy_any _ ⟨mode, uid, gid, time, attrs, acl⟩ w1 ⟨va, vl, rfl, ha.keep q1, hl.keep q1⟩ h1 h2).mono ?_
  rintro e w2 ⟨v2, rfl, ⟨ya, yl, rfl, oa, ol⟩, q2⟩
  unfold metaV
  simp only at oa ol ⊢
  obtain ⟨A2, n2, rfl⟩ := oa.form flatT
  obtain ⟨A3, n3, rfl⟩ := ol.form flat3
  replace x1 := x1.keep q2
  replace y1 := y1.keep q2
  replace q1 := q1.trans q2
  rw [s1] at oa ol
  have s2 := q2.size
  rw [s1] at s2
  clear q2 s1
  have x3 := ((((((x1.set 1 (.int .i64 mode)).set 2 (.int .i64 uid)).set 3 (.int .i64 gid)).set 4 (.int .i64 time)).set 5 (.slice A2 attrs.length n2)).set 6 (.slice A3 acl.length n3))
  simp only [List.setIfInBounds_toArray, List.set_cons_succ, List.set_cons_zero] at x3
  have f3 := (((((((Far.refl w.heap.size w2).chain 1 (.int .i64 mode)).chain 2 (.int .i64 uid)).chain 3 (.int .i64 gid)).chain 4 (.int .i64 time)).chain 5 (.slice A2 attrs.length n2)).chain 6 (.slice A3 acl.length n3))
  have q3 := (Q.setCell (Q.setCell (Q.setCell (Q.setCell (Q.setCell (Q.setCell q1 (Nat.le_refl _) 1 (.int .i64 mode)) (Nat.le_refl _) 2 (.int .i64 uid)) (Nat.le_refl _) 3 (.int .i64 gid)) (Nat.le_refl _) 4 (.int .i64 time)) (Nat.le_refl _) 5 (.slice A2 attrs.length n2)) (Nat.le_refl _) 6 (.slice A3 acl.length n3))
  have g1 := x1.soft
  obtain ⟨k0, k1, k2, k3, k4, k5, k6, k7, k8, k9, k10, k11⟩ := x1.cells
  obtain ⟨-, -, -, -, -, -, -, -, m8, -, -, -⟩ := x3.cells
  have y3 : BoxN ((((((w2.setCell ⟨w.heap.size, 1, none⟩ (.int .i64 mode)).setCell ⟨w.heap.size, 2, none⟩ (.int .i64 uid)).setCell ⟨w.heap.size, 3, none⟩ (.int .i64 gid)).setCell ⟨w.heap.size, 4, none⟩ (.int .i64 time)).setCell ⟨w.heap.size, 5, none⟩ (.slice A2 attrs.length n2)).setCell ⟨w.heap.size, 6, none⟩ (.slice A3 acl.length n3)) (w.heap.size + 1) _ := y1.far f3 (by omega)
  have oa3 := own_far oa f3 (by omega)
  have ol3 := own_far ol f3 (by omega)
  have s3 := Nat.le_trans s2 f3.1
  clear oa ol f3 q1 x1 y1 s2
  go_wp2_with fail
  clear k0 k1 k2 k3 k4 k5 k6 k7 k8 k9 k10 k11 m8 g1
  generalize ((((((w2.setCell ⟨w.heap.size, 1, none⟩ (.int .i64 mode)).setCell ⟨w.heap.size, 2, none⟩ (.int .i64 uid)).setCell ⟨w.heap.size, 3, none⟩ (.int .i64 gid)).setCell ⟨w.heap.size, 4, none⟩ (.int .i64 time)).setCell ⟨w.heap.size, 5, none⟩ (.slice A2 attrs.length n2)).setCell ⟨w.heap.size, 6, none⟩ (.slice A3 acl.length n3)) = w3 at *
  refine (clone_any vd data w3 (hd.keep q3) h3).mono ?_
  rintro e w4 ⟨yd, rfl, od, q4⟩
  replace od := od.mono s3
  obtain ⟨A4, n4, rfl⟩ := od.form flatP
  replace x3 := x3.keep q4
  replace y3 := y3.keep q4
  replace oa3 := oa3.keep q4
  replace ol3 := ol3.keep q4
  replace q3 := q3.trans q4
  clear q4 s3 ha hl hd
  have x4 := x3.set 8 (.slice A4 data.length n4)
  simp only [List.setIfInBounds_toArray, List.set_cons_succ, List.set_cons_zero] at x4
  have f4 := (Far.refl w.heap.size w4).chain 8 (.slice A4 data.length n4)
  have q4 := Q.setCell q3 (Nat.le_refl _) 8 (.slice A4 data.length n4)
  have y4 : BoxN (w4.setCell ⟨w.heap.size, 8, none⟩ (.slice A4 data.length n4)) (w.heap.size + 1) _ := y3.far f4 (by omega)
  have oa4 := own_far oa3 f4 (by omega)
  have ol4 := own_far ol3 f4 (by omega)
  have od4 := own_far od f4 (by omega)
  have g1 := x3.soft
  have g2 := y4.soft
  obtain ⟨-, -, -, -, -, -, -, -, j8, -, -, -⟩ := x3.cells
  obtain ⟨k0, k1, k2, k3, k4, k5, k6, k7, k8, k9, k10, k11⟩ := x4.cells
  obtain ⟨m0, m1, m2, m3, m4, m5, m6, m7, m8, m9, m10, m11⟩ := y4.cells
  clear oa3 ol3 od f4 q3 x3 y3
  go_wp2_with fail
  clear k0 k1 k2 k3 k4 k5 k6 k7 k8 k9 k10 k11 m0 m1 m2 m3 m4 m5 m6 m7 m8 m9 m10 m11 g1 g2 j8
  generalize w4.setCell ⟨w.heap.size, 8, none⟩ (.slice A4 data.length n4) = w5 at *
  have y5 := ((((((((((((y4.set 0 (.int .i64 kind)).set 1 (.int .i64 mode)).set 2 (.int .i64 uid)).set 3 (.int .i64 gid)).set 4 (.int .i64 time)).set 5 (.slice A2 attrs.length n2)).set 6 (.slice A3 acl.length n3)).set 7 (.int .i64 size)).set 8 (.slice A4 data.length n4)).set 9 (.string target)).set 10 (.int .i64 major)).set 11 (.int .i64 minor))
  simp only [List.setIfInBounds_toArray, List.set_cons_succ, List.set_cons_zero] at y5
  have f5 := (((((((((((((Far.refl (w.heap.size + 1) w5).chain 0 (.int .i64 kind)).chain 1 (.int .i64 mode)).chain 2 (.int .i64 uid)).chain 3 (.int .i64 gid)).chain 4 (.int .i64 time)).chain 5 (.slice A2 attrs.length n2)).chain 6 (.slice A3 acl.length n3)).chain 7 (.int .i64 size)).chain 8 (.slice A4 data.length n4)).chain 9 (.string target)).chain 10 (.int .i64 major)).chain 11 (.int .i64 minor))
  have q5 := (Q.setCell (Q.setCell (Q.setCell (Q.setCell (Q.setCell (Q.setCell (Q.setCell (Q.setCell (Q.setCell (Q.setCell (Q.setCell (Q.setCell q4 (Nat.le_succ _) 0 (.int .i64 kind)) (Nat.le_succ _) 1 (.int .i64 mode)) (Nat.le_succ _) 2 (.int .i64 uid)) (Nat.le_succ _) 3 (.int .i64 gid)) (Nat.le_succ _) 4 (.int .i64 time)) (Nat.le_succ _) 5 (.slice A2 attrs.length n2)) (Nat.le_succ _) 6 (.slice A3 acl.length n3)) (Nat.le_succ _) 7 (.int .i64 size)) (Nat.le_succ _) 8 (.slice A4 data.length n4)) (Nat.le_succ _) 9 (.string target)) (Nat.le_succ _) 10 (.int .i64 major)) (Nat.le_succ _) 11 (.int .i64 minor))
  have oa5 := own_far oa4 f5 (by omega)
  have ol5 := own_far ol4 f5 (by omega)
  have od5 := own_far od4 f5 (by omega)
  clear oa4 ol4 od4 f5 q4 x4 y4
  generalize ((((((((((((w5.setCell ⟨(w.heap.size + 1), 0, none⟩ (.int .i64 kind)).setCell ⟨(w.heap.size + 1), 1, none⟩ (.int .i64 mode)).setCell ⟨(w.heap.size + 1), 2, none⟩ (.int .i64 uid)).setCell ⟨(w.heap.size + 1), 3, none⟩ (.int .i64 gid)).setCell ⟨(w.heap.size + 1), 4, none⟩ (.int .i64 time)).setCell ⟨(w.heap.size + 1), 5, none⟩ (.slice A2 attrs.length n2)).setCell ⟨(w.heap.size + 1), 6, none⟩ (.slice A3 acl.length n3)).setCell ⟨(w.heap.size + 1), 7, none⟩ (.int .i64 size)).setCell ⟨(w.heap.size + 1), 8, none⟩ (.slice A4 data.length n4)).setCell ⟨(w.heap.size + 1), 9, none⟩ (.string target)).setCell ⟨(w.heap.size + 1), 10, none⟩ (.int .i64 major)).setCell ⟨(w.heap.size + 1), 11, none⟩ (.int .i64 minor)) = w6 at *
  obtain ⟨k0, k1, k2, k3, k4, k5, k6, k7, k8, k9, k10, k11⟩ := y5.cells
  refine bodyPost_ret (v := .agg #[.int .i64 kind, .int .i64 mode, .int .i64 uid, .int .i64 gid, .int .i64 time, .slice A2 attrs.length n2, .slice A3 acl.length n3, .int .i64 size, .slice A4 data.length n4, .string target, .int .i64 major, .int .i64 minor]) (by simp [results, Tryz.results24, go_sem, k0, k1, k2, k3, k4, k5, k6, k7, k8, k9, k10, k11]) rfl ?_
  exact ⟨_, rfl, ⟨_, _, _, rfl, oa5.mono (by omega), ol5.mono (by omega), od5.mono (by omega)⟩, q5⟩
end Go.Proofs.YtheobpilmphdjaaGreat.Nd
