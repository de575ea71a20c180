/-
  The contract of node.Cut.
-/
import Derived.Test.YtheobpilmphdjaaGreatNWrite
namespace Go.Proofs.YtheobpilmphdjaaGreat.Nd
open Go.RowKit
open Go.Proofs.YtheobpilmphdjaaGreat.Ex.Rng
open Go.Proofs.YtheobpilmphdjaaGreat.Ex (E ExtsAt)


/-- A block of these cells but for the ninth. -/
def Kept (R : Array Value) (w : World) (g : Nat) : Prop := ∃ u : Value, BoxN w g (R.setIfInBounds 8 u)
theorem Kept.keep {R : Array Value} {w w' : World} {g : Nat} (h : Kept R w g) (q : Q w w') : Kept R w' g := by
  obtain ⟨u, h1⟩ := h
  exact ⟨u, h1.keep q⟩
theorem Kept.lt2 {R : Array Value} {w0 w : World} {B : Nat} {P : Prop} (h : Below B w0 w ∧ Kept R w B ∧ P) : B < w.heap.size := by
  obtain ⟨u, h1⟩ := h.2.1
  exact h1.lt
theorem Kept.keep2 {R : Array Value} {w0 w w' : World} {B : Nat} {P : Prop} (q : Q w w') (h : Below B w0 w ∧ Kept R w B ∧ P) : Kept R w' B := h.2.1.keep q
/-- What it holds at its ninth place. -/
def heldAt (w : World) (g : Nat) : Value := (w.cell? ⟨g, 8, none⟩).getD undef
theorem Kept.held {R : Array Value} (hR : R.size = 12) {w : World} {g : Nat} (h : Kept R w g) : w.cell? ⟨g, 8, none⟩ = some (heldAt w g) ∧ w.frozen? ⟨g, 8, none⟩ = false := by
  obtain ⟨u, h1⟩ := h
  refine ⟨?_, h1.soft 8⟩
  unfold heldAt
  have hc : w.cell? ⟨g, 8, none⟩ = some u := by
    unfold BoxN at h1
    simp [World.cell?, h1, hR]
  rw [hc]
  rfl
theorem Kept.put {R : Array Value} {w : World} {g : Nat} (h : Kept R w g) (v : Value) : BoxN (w.setCell ⟨g, 8, none⟩ v) g (R.setIfInBounds 8 v) := by
  obtain ⟨u, h1⟩ := h
  have := h1.set 8 v
  rwa [Array.setIfInBounds_setIfInBounds] at this
theorem Band.below {lo hi : Nat} {w a b : World} (h : Band lo hi w a) (k : Below hi a b) : Band lo hi w b := ⟨Nat.le_trans h.1 k.size, fun x h1 h2 => (k.block x h2).trans (h.2 x h1 h2)⟩
theorem keepK {R : Array Value} (hR : R.size = 12) {B : Nat} {w0 w w' : World} {g : Nat} {v0 v1 v2 v3 v4 v5 v6 v7 v8 v9 v10 v11 : Value} (h : Below B w0 w ∧ Kept R w B ∧ w.cell? ⟨B, 8, none⟩ = some (heldAt w B) ∧ w.frozen? ⟨B, 8, none⟩ = false ∧ w.cell? ⟨g, 0, none⟩ = some v0 ∧ w.cell? ⟨g, 1, none⟩ = some v1 ∧ w.cell? ⟨g, 2, none⟩ = some v2 ∧ w.cell? ⟨g, 3, none⟩ = some v3 ∧ w.cell? ⟨g, 4, none⟩ = some v4 ∧ w.cell? ⟨g, 5, none⟩ = some v5 ∧ w.cell? ⟨g, 6, none⟩ = some v6 ∧ w.cell? ⟨g, 7, none⟩ = some v7 ∧ w.cell? ⟨g, 8, none⟩ = some v8 ∧ w.cell? ⟨g, 9, none⟩ = some v9 ∧ w.cell? ⟨g, 10, none⟩ = some v10 ∧ w.cell? ⟨g, 11, none⟩ = some v11) (q : Q w w') : Below B w0 w' ∧ Kept R w' B ∧ w'.cell? ⟨B, 8, none⟩ = some (heldAt w' B) ∧ w'.frozen? ⟨B, 8, none⟩ = false ∧ w'.cell? ⟨g, 0, none⟩ = some v0 ∧ w'.cell? ⟨g, 1, none⟩ = some v1 ∧ w'.cell? ⟨g, 2, none⟩ = some v2 ∧ w'.cell? ⟨g, 3, none⟩ = some v3 ∧ w'.cell? ⟨g, 4, none⟩ = some v4 ∧ w'.cell? ⟨g, 5, none⟩ = some v5 ∧ w'.cell? ⟨g, 6, none⟩ = some v6 ∧ w'.cell? ⟨g, 7, none⟩ = some v7 ∧ w'.cell? ⟨g, 8, none⟩ = some v8 ∧ w'.cell? ⟨g, 9, none⟩ = some v9 ∧ w'.cell? ⟨g, 10, none⟩ = some v10 ∧ w'.cell? ⟨g, 11, none⟩ = some v11 := by
  obtain ⟨h0, hk, -, -, h1, h2, h3, h4, h5, h6, h7, h8, h9, h10, h11, h12⟩ := h
  have hB : B ≤ w.heap.size := by obtain ⟨u, h1⟩ := hk; exact Nat.le_of_lt h1.lt
  have hk' := hk.keep q
  exact ⟨Below.trans h0 (Below.mono q hB), hk', (hk'.held hR).1, (hk'.held hR).2, q.cell h1, q.cell h2, q.cell h3, q.cell h4, q.cell h5, q.cell h6, q.cell h7, q.cell h8, q.cell h9, q.cell h10, q.cell h11, q.cell h12⟩
theorem keepS {R : Array Value} (hR : R.size = 12) {B : Nat} {w0 w : World} {g : Nat} (hg : g ≠ B) (u : Value) {v0 v1 v2 v3 v4 v5 v6 v7 v8 v9 v10 v11 : Value} (h : Below B w0 w ∧ Kept R w B ∧ w.cell? ⟨B, 8, none⟩ = some (heldAt w B) ∧ w.frozen? ⟨B, 8, none⟩ = false ∧ w.cell? ⟨g, 0, none⟩ = some v0 ∧ w.cell? ⟨g, 1, none⟩ = some v1 ∧ w.cell? ⟨g, 2, none⟩ = some v2 ∧ w.cell? ⟨g, 3, none⟩ = some v3 ∧ w.cell? ⟨g, 4, none⟩ = some v4 ∧ w.cell? ⟨g, 5, none⟩ = some v5 ∧ w.cell? ⟨g, 6, none⟩ = some v6 ∧ w.cell? ⟨g, 7, none⟩ = some v7 ∧ w.cell? ⟨g, 8, none⟩ = some v8 ∧ w.cell? ⟨g, 9, none⟩ = some v9 ∧ w.cell? ⟨g, 10, none⟩ = some v10 ∧ w.cell? ⟨g, 11, none⟩ = some v11) : Below B w0 (w.setCell ⟨B, 8, none⟩ u) ∧ Kept R (w.setCell ⟨B, 8, none⟩ u) B ∧ (w.setCell ⟨B, 8, none⟩ u).cell? ⟨B, 8, none⟩ = some (heldAt (w.setCell ⟨B, 8, none⟩ u) B) ∧ (w.setCell ⟨B, 8, none⟩ u).frozen? ⟨B, 8, none⟩ = false ∧ (w.setCell ⟨B, 8, none⟩ u).cell? ⟨g, 0, none⟩ = some v0 ∧ (w.setCell ⟨B, 8, none⟩ u).cell? ⟨g, 1, none⟩ = some v1 ∧ (w.setCell ⟨B, 8, none⟩ u).cell? ⟨g, 2, none⟩ = some v2 ∧ (w.setCell ⟨B, 8, none⟩ u).cell? ⟨g, 3, none⟩ = some v3 ∧ (w.setCell ⟨B, 8, none⟩ u).cell? ⟨g, 4, none⟩ = some v4 ∧ (w.setCell ⟨B, 8, none⟩ u).cell? ⟨g, 5, none⟩ = some v5 ∧ (w.setCell ⟨B, 8, none⟩ u).cell? ⟨g, 6, none⟩ = some v6 ∧ (w.setCell ⟨B, 8, none⟩ u).cell? ⟨g, 7, none⟩ = some v7 ∧ (w.setCell ⟨B, 8, none⟩ u).cell? ⟨g, 8, none⟩ = some v8 ∧ (w.setCell ⟨B, 8, none⟩ u).cell? ⟨g, 9, none⟩ = some v9 ∧ (w.setCell ⟨B, 8, none⟩ u).cell? ⟨g, 10, none⟩ = some v10 ∧ (w.setCell ⟨B, 8, none⟩ u).cell? ⟨g, 11, none⟩ = some v11 := by
  obtain ⟨h0, hk, -, -, h1, h2, h3, h4, h5, h6, h7, h8, h9, h10, h11, h12⟩ := h
  have hk' : Kept R (w.setCell ⟨B, 8, none⟩ u) B := ⟨u, hk.put u⟩
  exact ⟨Below.setCell h0 (p := ⟨B, 8, none⟩) (Nat.le_refl _) u, hk', (hk'.held hR).1, (hk'.held hR).2, ((Far.refl B w).chain 8 u).cell hg h1, ((Far.refl B w).chain 8 u).cell hg h2, ((Far.refl B w).chain 8 u).cell hg h3, ((Far.refl B w).chain 8 u).cell hg h4, ((Far.refl B w).chain 8 u).cell hg h5, ((Far.refl B w).chain 8 u).cell hg h6, ((Far.refl B w).chain 8 u).cell hg h7, ((Far.refl B w).chain 8 u).cell hg h8, ((Far.refl B w).chain 8 u).cell hg h9, ((Far.refl B w).chain 8 u).cell hg h10, ((Far.refl B w).chain 8 u).cell hg h11, ((Far.refl B w).chain 8 u).cell hg h12⟩

set_option maxRecDepth 100000 in
set_option maxHeartbeats 16000000 in
theorem cut_any (v : Value) (n : Nd) (a : Int) (w : World) (h : NodeAt w v n) (hf : Fit n) :
    Calls Tryz.prog 8 #[v, .int .i64 a] w fun e w' => ∃ v', e = .returned (.tuple #[v', .int .i64 (cutNd n a).2]) ∧ NodeAt w' v' (cutNd n a).1 ∧ Q w w' := by
  have HO : Hid (∀ w', Q w w' → Calls Tryz.prog 24 #[v] w' fun e w'' => ∃ v', e = .returned v' ∧ OwnN w'' w'.heap.size v' n ∧ Q w' w'') := fun w' q => own_any v n w' (h.keep q) hf.at_ hf.ac hf.da.1
  have HF : Hid (∀ w', Q w w' → Calls Tryz.prog 25 #[v] w' fun e w'' => e = .returned (.bool (fileB n)) ∧ Q w' w'') := fun w' q => file_any v n w' (h.keep q) hf.da
  have HV : Hid (fileB n = true → VF n.size n.data) := fun k => (fileB_vf k).2
  have HX : Hid (∀ w', Q w w' → Calls Tryz.prog 21 #[v] w' fun e w'' => ∃ A c, e = .returned (.slice A n.data.length c) ∧ ExtsAt w'' (.slice A n.data.length c) (n.data.map xOf) ∧ Q w' w'') := fun w' q => (nodeExtents_any v n w' (h.keep q) hf.da.1).mono (by
    rintro e w'' ⟨v', rfl, ho, q'⟩
    obtain ⟨A, c, rfl⟩ := own_form ho
    refine ⟨A, c, rfl, ExtsAt.of_own (base := w'.heap.size) (e := 57) ?_, q'⟩
    rw [List.length_map]; exact ho)
  have HA := Lib.hid (fun w => offset_any a w)
  have E1 : Hid (¬ (fileB n = true ∧ offB a = true) → cutNd n a = (n, 1)) := fun k => if_neg k
  have E5 : Hid (fileB n = true ∧ offB a = true → cutNd n a = ({ n with data := clipP n.data 0 a, size := a }, 0)) := fun k => if_pos k
  obtain ⟨va, vl, vd, rfl, ha, hl, hd⟩ := h
  have HD : Hid (∀ w', Q w w' → PcsAt w' vd n.data) := fun w' q => hd.keep q
  have hdl := hf.da.1
  obtain ⟨AD, cD, rfl⟩ := hd.form
  obtain ⟨kind, ⟨mode, uid, gid, time, attrs, acl⟩, size, data, target, major, minor⟩ := n
  unfold nodeV at HO HF HX ⊢
  simp only at HO HF HX HV HD hdl E1 E5 ⊢
  clear ha hl hd hf
  generalize cutNd ⟨kind, ⟨mode, uid, gid, time, attrs, acl⟩, size, data, target, major, minor⟩ a = N at *
  go_enter Tryz.func8, Tryz.ntmps8
  go_wp2_with fail
  have x1 : BoxN ((w.alloc (.cells #[.int .i64 kind, .int .i64 mode, .int .i64 uid, .int .i64 gid, .int .i64 time, va, vl, .int .i64 size, .slice AD data.length cD, .string target, .int .i64 major, .int .i64 minor] 28)).alloc (.cells #[.int .i64 0, .int .i64 0, .int .i64 0, .int .i64 0, .int .i64 0, .slice none 0 0, .slice none 0 0, .int .i64 0, .slice none 0 0, .string ⟨#[]⟩, .int .i64 0, .int .i64 0] 28)) w.heap.size #[.int .i64 kind, .int .i64 mode, .int .i64 uid, .int .i64 gid, .int .i64 time, va, vl, .int .i64 size, .slice AD data.length cD, .string target, .int .i64 major, .int .i64 minor] := (BoxN.new w _).keep ((Q.refl _).alloc _)
  have y1 := BoxN.new (w.alloc (.cells #[.int .i64 kind, .int .i64 mode, .int .i64 uid, .int .i64 gid, .int .i64 time, va, vl, .int .i64 size, .slice AD data.length cD, .string target, .int .i64 major, .int .i64 minor] 28)) #[.int .i64 0, .int .i64 0, .int .i64 0, .int .i64 0, .int .i64 0, .slice none 0 0, .slice none 0 0, .int .i64 0, .slice none 0 0, .string ⟨#[]⟩, .int .i64 0, .int .i64 0]
  rw [World.size_alloc] at y1
  have q1 : Q w ((w.alloc (.cells #[.int .i64 kind, .int .i64 mode, .int .i64 uid, .int .i64 gid, .int .i64 time, va, vl, .int .i64 size, .slice AD data.length cD, .string target, .int .i64 major, .int .i64 minor] 28)).alloc (.cells #[.int .i64 0, .int .i64 0, .int .i64 0, .int .i64 0, .int .i64 0, .slice none 0 0, .slice none 0 0, .int .i64 0, .slice none 0 0, .string ⟨#[]⟩, .int .i64 0, .int .i64 0] 28)) := ((Q.refl w).alloc _).alloc _
  have s1 : ((w.alloc (.cells #[.int .i64 kind, .int .i64 mode, .int .i64 uid, .int .i64 gid, .int .i64 time, va, vl, .int .i64 size, .slice AD data.length cD, .string target, .int .i64 major, .int .i64 minor] 28)).alloc (.cells #[.int .i64 0, .int .i64 0, .int .i64 0, .int .i64 0, .int .i64 0, .slice none 0 0, .slice none 0 0, .int .i64 0, .slice none 0 0, .string ⟨#[]⟩, .int .i64 0, .int .i64 0] 28)).heap.size = w.heap.size + 2 := by rw [World.size_alloc, World.size_alloc]
  generalize (w.alloc (.cells #[.int .i64 kind, .int .i64 mode, .int .i64 uid, .int .i64 gid, .int .i64 time, va, vl, .int .i64 size, .slice AD data.length cD, .string target, .int .i64 major, .int .i64 minor] 28)).alloc (.cells #[.int .i64 0, .int .i64 0, .int .i64 0, .int .i64 0, .int .i64 0, .slice none 0 0, .slice none 0 0, .int .i64 0, .slice none 0 0, .string ⟨#[]⟩, .int .i64 0, .int .i64 0] 28) = w1 at *
  refine (HO.out _ q1).mono ?_
  rintro e w2 ⟨v2, rfl, ⟨ya, yl, yd, rfl, oa, ol, od⟩, q2⟩
  unfold nodeV
  simp only at oa ol od ⊢
  rw [s1] at oa ol od
  obtain ⟨A2, n2, rfl⟩ := oa.form flatT
  obtain ⟨A3, n3, rfl⟩ := ol.form flat3
  obtain ⟨A4, n4, rfl⟩ := od.form flatP
  replace x1 := x1.keep q2
  replace y1 := y1.keep q2
  replace q1 := q1.trans q2
  have s2 := q2.size
  rw [s1] at s2
  replace oa := Lib.hid oa
  replace ol := Lib.hid ol
  replace od := Lib.hid od
  clear q2 s1 HO
  have hlt := x1.lt
  obtain ⟨k0, k1, k2, k3, k4, k5, k6, k7, k8, k9, k10, k11⟩ := x1.cells
  go_wp2_with fail
  clear hlt k0 k1 k2 k3 k4 k5 k6 k7 k8 k9 k10 k11
  have st : St w w2 (w2.alloc (.cells #[.int .i64 kind, .int .i64 mode, .int .i64 uid, .int .i64 gid, .int .i64 time, .slice A2 attrs.length n2, .slice A3 acl.length n3, .int .i64 size, .slice A4 data.length n4, .string target, .int .i64 major, .int .i64 minor] 28)) #[.int .i64 kind, .int .i64 mode, .int .i64 uid, .int .i64 gid, .int .i64 time, va, vl, .int .i64 size, .slice AD data.length cD, .string target, .int .i64 major, .int .i64 minor] #[.int .i64 0, .int .i64 0, .int .i64 0, .int .i64 0, .int .i64 0, .slice none 0 0, .slice none 0 0, .int .i64 0, .slice none 0 0, .string ⟨#[]⟩, .int .i64 0, .int .i64 0] #[.int .i64 kind, .int .i64 mode, .int .i64 uid, .int .i64 gid, .int .i64 time, .slice A2 attrs.length n2, .slice A3 acl.length n3, .int .i64 size, .slice A4 data.length n4, .string target, .int .i64 major, .int .i64 minor] := ⟨q1.alloc _, x1.keep ((Q.refl _).alloc _), y1.keep ((Q.refl _).alloc _), BoxN.new w2 _, (Band.start _ w2).q ((Q.refl _).alloc _)⟩
  generalize w2.alloc (.cells #[.int .i64 kind, .int .i64 mode, .int .i64 uid, .int .i64 gid, .int .i64 time, .slice A2 attrs.length n2, .slice A3 acl.length n3, .int .i64 size, .slice A4 data.length n4, .string target, .int .i64 major, .int .i64 minor] 28) = w3 at *
  clear x1 y1 q1
  refine (HF.out _ st.q).mono ?_
  rintro e w4 ⟨rfl, q4⟩
  replace st := st.keep q4
  clear q4 HF
  cases hbf : fileB ⟨kind, ⟨mode, uid, gid, time, attrs, acl⟩, size, data, target, major, minor⟩ with
  | false =>
    have EE : Hid (N = _) := E1.out (fun k => by rw [hbf] at k; cases k.1)
    clear E1 E5 HV HD HA HX hbf
    have g2 := st.y.soft
    have hlt := st.o.lt
    obtain ⟨j0, j1, j2, j3, j4, j5, j6, j7, j8, j9, j10, j11⟩ := st.o.cells
    obtain ⟨m0, m1, m2, m3, m4, m5, m6, m7, m8, m9, m10, m11⟩ := st.y.cells
    go_wp2_with fail
    clear g2 hlt j0 j1 j2 j3 j4 j5 j6 j7 j8 j9 j10 j11 m0 m1 m2 m3 m4 m5 m6 m7 m8 m9 m10 m11
    have y5 := ((((((((((((st.y.set 0 (.int .i64 kind)).set 1 (.int .i64 mode)).set 2 (.int .i64 uid)).set 3 (.int .i64 gid)).set 4 (.int .i64 time)).set 5 (.slice A2 attrs.length n2)).set 6 (.slice A3 acl.length n3)).set 7 (.int .i64 size)).set 8 (.slice A4 data.length n4)).set 9 (.string target)).set 10 (.int .i64 major)).set 11 (.int .i64 minor))
    simp only [List.setIfInBounds_toArray, List.set_cons_succ, List.set_cons_zero] at y5
    have f5 := (((((((((((((Far.refl (w.heap.size + 1) w4).chain 0 (.int .i64 kind)).chain 1 (.int .i64 mode)).chain 2 (.int .i64 uid)).chain 3 (.int .i64 gid)).chain 4 (.int .i64 time)).chain 5 (.slice A2 attrs.length n2)).chain 6 (.slice A3 acl.length n3)).chain 7 (.int .i64 size)).chain 8 (.slice A4 data.length n4)).chain 9 (.string target)).chain 10 (.int .i64 major)).chain 11 (.int .i64 minor))
    have q5 := (Q.setCell (Q.setCell (Q.setCell (Q.setCell (Q.setCell (Q.setCell (Q.setCell (Q.setCell (Q.setCell (Q.setCell (Q.setCell (Q.setCell st.q (Nat.le_succ _) 0 (.int .i64 kind)) (Nat.le_succ _) 1 (.int .i64 mode)) (Nat.le_succ _) 2 (.int .i64 uid)) (Nat.le_succ _) 3 (.int .i64 gid)) (Nat.le_succ _) 4 (.int .i64 time)) (Nat.le_succ _) 5 (.slice A2 attrs.length n2)) (Nat.le_succ _) 6 (.slice A3 acl.length n3)) (Nat.le_succ _) 7 (.int .i64 size)) (Nat.le_succ _) 8 (.slice A4 data.length n4)) (Nat.le_succ _) 9 (.string target)) (Nat.le_succ _) 10 (.int .i64 major)) (Nat.le_succ _) 11 (.int .i64 minor))
    have b5 := st.b.far f5 (.inl (Nat.lt_succ_self _))
    have ra := (b5.row oa.out).row flatT
    have rl := ((b5.row ol.out).row flat3).aces
    have rd := (b5.row od.out).row flatP
    clear f5 st
    generalize ((((((((((((w4.setCell ⟨(w.heap.size + 1), 0, none⟩ (.int .i64 kind)).setCell ⟨(w.heap.size + 1), 1, none⟩ (.int .i64 mode)).setCell ⟨(w.heap.size + 1), 2, none⟩ (.int .i64 uid)).setCell ⟨(w.heap.size + 1), 3, none⟩ (.int .i64 gid)).setCell ⟨(w.heap.size + 1), 4, none⟩ (.int .i64 time)).setCell ⟨(w.heap.size + 1), 5, none⟩ (.slice A2 attrs.length n2)).setCell ⟨(w.heap.size + 1), 6, none⟩ (.slice A3 acl.length n3)).setCell ⟨(w.heap.size + 1), 7, none⟩ (.int .i64 size)).setCell ⟨(w.heap.size + 1), 8, none⟩ (.slice A4 data.length n4)).setCell ⟨(w.heap.size + 1), 9, none⟩ (.string target)).setCell ⟨(w.heap.size + 1), 10, none⟩ (.int .i64 major)).setCell ⟨(w.heap.size + 1), 11, none⟩ (.int .i64 minor)) = w9 at *
    obtain ⟨k0, k1, k2, k3, k4, k5, k6, k7, k8, k9, k10, k11⟩ := y5.cells
    refine bodyPost_ret (v := .tuple #[.agg #[.int .i64 kind, .int .i64 mode, .int .i64 uid, .int .i64 gid, .int .i64 time, .slice A2 attrs.length n2, .slice A3 acl.length n3, .int .i64 size, .slice A4 data.length n4, .string target, .int .i64 major, .int .i64 minor], .int .i64 1]) (by simp [results, Tryz.results8, go_sem, k0, k1, k2, k3, k4, k5, k6, k7, k8, k9, k10, k11]) rfl ?_
    rw [EE.out]
    exact ⟨_, rfl, ⟨_, _, _, rfl, ra, rl, rd⟩, q5⟩
  | true =>
    go_wp2_with fail
    refine (HA.out _).mono ?_
    rintro e w5 ⟨rfl, rfl⟩
    clear HA
    cases hbo : offB a with
    | false =>
      have EE : Hid (N = _) := E1.out (fun k => by rw [hbo] at k; cases k.2)
      clear E1 E5 HV HD HX hbf hbo
      have g2 := st.y.soft
      have hlt := st.o.lt
      obtain ⟨j0, j1, j2, j3, j4, j5, j6, j7, j8, j9, j10, j11⟩ := st.o.cells
      obtain ⟨m0, m1, m2, m3, m4, m5, m6, m7, m8, m9, m10, m11⟩ := st.y.cells
      go_wp2_with fail
      clear g2 hlt j0 j1 j2 j3 j4 j5 j6 j7 j8 j9 j10 j11 m0 m1 m2 m3 m4 m5 m6 m7 m8 m9 m10 m11
      have y5 := ((((((((((((st.y.set 0 (.int .i64 kind)).set 1 (.int .i64 mode)).set 2 (.int .i64 uid)).set 3 (.int .i64 gid)).set 4 (.int .i64 time)).set 5 (.slice A2 attrs.length n2)).set 6 (.slice A3 acl.length n3)).set 7 (.int .i64 size)).set 8 (.slice A4 data.length n4)).set 9 (.string target)).set 10 (.int .i64 major)).set 11 (.int .i64 minor))
      simp only [List.setIfInBounds_toArray, List.set_cons_succ, List.set_cons_zero] at y5
      have f5 := (((((((((((((Far.refl (w.heap.size + 1) w5).chain 0 (.int .i64 kind)).chain 1 (.int .i64 mode)).chain 2 (.int .i64 uid)).chain 3 (.int .i64 gid)).chain 4 (.int .i64 time)).chain 5 (.slice A2 attrs.length n2)).chain 6 (.slice A3 acl.length n3)).chain 7 (.int .i64 size)).chain 8 (.slice A4 data.length n4)).chain 9 (.string target)).chain 10 (.int .i64 major)).chain 11 (.int .i64 minor))
      have q5 := (Q.setCell (Q.setCell (Q.setCell (Q.setCell (Q.setCell (Q.setCell (Q.setCell (Q.setCell (Q.setCell (Q.setCell (Q.setCell (Q.setCell st.q (Nat.le_succ _) 0 (.int .i64 kind)) (Nat.le_succ _) 1 (.int .i64 mode)) (Nat.le_succ _) 2 (.int .i64 uid)) (Nat.le_succ _) 3 (.int .i64 gid)) (Nat.le_succ _) 4 (.int .i64 time)) (Nat.le_succ _) 5 (.slice A2 attrs.length n2)) (Nat.le_succ _) 6 (.slice A3 acl.length n3)) (Nat.le_succ _) 7 (.int .i64 size)) (Nat.le_succ _) 8 (.slice A4 data.length n4)) (Nat.le_succ _) 9 (.string target)) (Nat.le_succ _) 10 (.int .i64 major)) (Nat.le_succ _) 11 (.int .i64 minor))
      have b5 := st.b.far f5 (.inl (Nat.lt_succ_self _))
      have ra := (b5.row oa.out).row flatT
      have rl := ((b5.row ol.out).row flat3).aces
      have rd := (b5.row od.out).row flatP
      clear f5 st
      generalize ((((((((((((w5.setCell ⟨(w.heap.size + 1), 0, none⟩ (.int .i64 kind)).setCell ⟨(w.heap.size + 1), 1, none⟩ (.int .i64 mode)).setCell ⟨(w.heap.size + 1), 2, none⟩ (.int .i64 uid)).setCell ⟨(w.heap.size + 1), 3, none⟩ (.int .i64 gid)).setCell ⟨(w.heap.size + 1), 4, none⟩ (.int .i64 time)).setCell ⟨(w.heap.size + 1), 5, none⟩ (.slice A2 attrs.length n2)).setCell ⟨(w.heap.size + 1), 6, none⟩ (.slice A3 acl.length n3)).setCell ⟨(w.heap.size + 1), 7, none⟩ (.int .i64 size)).setCell ⟨(w.heap.size + 1), 8, none⟩ (.slice A4 data.length n4)).setCell ⟨(w.heap.size + 1), 9, none⟩ (.string target)).setCell ⟨(w.heap.size + 1), 10, none⟩ (.int .i64 major)).setCell ⟨(w.heap.size + 1), 11, none⟩ (.int .i64 minor)) = w9 at *
      obtain ⟨k0, k1, k2, k3, k4, k5, k6, k7, k8, k9, k10, k11⟩ := y5.cells
      refine bodyPost_ret (v := .tuple #[.agg #[.int .i64 kind, .int .i64 mode, .int .i64 uid, .int .i64 gid, .int .i64 time, .slice A2 attrs.length n2, .slice A3 acl.length n3, .int .i64 size, .slice A4 data.length n4, .string target, .int .i64 major, .int .i64 minor], .int .i64 1]) (by simp [results, Tryz.results8, go_sem, k0, k1, k2, k3, k4, k5, k6, k7, k8, k9, k10, k11]) rfl ?_
      rw [EE.out]
      exact ⟨_, rfl, ⟨_, _, _, rfl, ra, rl, rd⟩, q5⟩
    | true =>
      have hfo := And.intro hbf hbo
      have hab := of_decide_eq_true hbo
      have hvf := Lib.hid (HV.out hbf)
      have EE : Hid (N = _) := E5.out hfo
      have bM : M = 1099511627776 := rfl
      have hca : (limN a : Int) = a := by unfold limN; omega
      have hl0 : limN 0 = 0 := by unfold limN; omega
      have hsa : limN a ≤ 1099511627776 := by omega
      have hlay : Hid (∀ r : List X, IsMeet (data.map xOf) 0 (limN a) r → layP r data = clipP data 0 a) := fun r hr => (cut_lay hvf.out.wf hvf.out.top hr).trans (by rw [hca])
      have HM : Hid (∀ A c w', ExtsAt w' (.slice A data.length c) (data.map xOf) → Calls Tryz.prog 34 #[.slice A data.length c, .int .i64 0, .int .i64 a] w' fun e w'' => ∃ A2 c2 r, e = .returned (.slice A2 r.length c2) ∧ ExtsAt w'' (.slice A2 r.length c2) r ∧ Q w' w'' ∧ Hid (IsMeet (data.map xOf) 0 (limN a) r)) := fun A c w' hx => by
        have := Ex.meet_any _ (data.map xOf) 0 a w' hx (fun y hy => by obtain ⟨p, _, rfl⟩ := List.mem_map.1 hy; exact xOf_ok p) (by rw [List.length_map]; omega)
        rw [hl0, Nat.zero_add] at this
        refine this.mono ?_
        rintro e w'' ⟨v', r, rfl, ho, q', Hr⟩
        obtain ⟨A2, c2, rfl⟩ := own_form ho
        exact ⟨A2, c2, r, rfl, ExtsAt.of_own ho, q', Hr⟩
      have hdl2 : data.length ≤ 16 := hvf.out.len
      have HL : Hid (∀ A c r w', Q w w' → w2.heap.size < w'.heap.size → ExtsAt w' (.slice A r.length c) r → Hid (IsMeet (data.map xOf) 0 (limN a) r) → Calls Tryz.prog 31 #[.slice A r.length c, .slice AD data.length cD] w' fun e w'' => ∃ A2 c2, e = .returned (.slice A2 (clipP data 0 a).length c2) ∧ OwnP w'' (w2.heap.size + 1) (.slice A2 (clipP data 0 a).length c2) (clipP data 0 a) ∧ Q w' w'') := fun A c r w' q hgl hx Hr => by
        have hrl : r.length ≤ 16 := by have := Hr.out.2.2.2; rw [List.length_map] at this; omega
        have hsum : sumP (layP r data) ≤ 4000 := by rw [hlay.out r Hr.out]; exact Nat.le_trans (clipP_sum _ _ _) hvf.out.sum
        rw [sumX_lay] at hsum
        refine (lay_any _ _ r data w' hx (HD.out _ q) (by omega) (by omega) hvf.out.ok (fun z hz => ⟨(Hr.out.2.1.ok z hz).1, by have := sumX_mem hz; omega⟩)).mono ?_
        rintro e w'' ⟨v', rfl, ho, q'⟩
        rw [hlay.out r Hr.out] at ho
        obtain ⟨A2, c2, rfl⟩ := ho.form flatP
        exact ⟨A2, c2, rfl, ho.mono hgl, q'⟩
      have hx2 : w.heap.size ≠ w2.heap.size := by omega
      have hy2 : w.heap.size + 1 ≠ w2.heap.size := by omega
      have hwb : ∀ w', Below w2.heap.size w5 w' → Q w w' := fun w' b => Below.trans st.q (Below.mono b (by omega))
      replace hwb := Lib.hid hwb
      have hk0 : Kept #[.int .i64 kind, .int .i64 mode, .int .i64 uid, .int .i64 gid, .int .i64 time, .slice A2 attrs.length n2, .slice A3 acl.length n3, .int .i64 size, .slice A4 data.length n4, .string target, .int .i64 major, .int .i64 minor] w5 w2.heap.size := ⟨.slice A4 data.length n4, st.o⟩
      have hRR : (#[.int .i64 kind, .int .i64 mode, .int .i64 uid, .int .i64 gid, .int .i64 time, .slice A2 attrs.length n2, .slice A3 acl.length n3, .int .i64 size, .slice A4 data.length n4, .string target, .int .i64 major, .int .i64 minor] : Array Value).size = 12 := rfl
      generalize hRe : (#[.int .i64 kind, .int .i64 mode, .int .i64 uid, .int .i64 gid, .int .i64 time, .slice A2 attrs.length n2, .slice A3 acl.length n3, .int .i64 size, .slice A4 data.length n4, .string target, .int .i64 major, .int .i64 minor] : Array Value) = RR at *
      obtain ⟨k0, k1, k2, k3, k4, k5, k6, k7, k8, k9, k10, k11⟩ := st.x.cells
      clear E1 E5 HV hbf hbo hfo hca hl0 hsa hlay HD
      replace hab := Lib.hid hab
      go_wp2_with fail
      go_region_held3 (fun w' => Below w2.heap.size w5 w' ∧ Kept RR w' w2.heap.size ∧ w'.cell? ⟨w2.heap.size, 8, none⟩ = some (heldAt w' w2.heap.size) ∧ w'.frozen? ⟨w2.heap.size, 8, none⟩ = false ∧ w'.cell? ⟨w.heap.size, 0, none⟩ = some (.int .i64 kind) ∧ w'.cell? ⟨w.heap.size, 1, none⟩ = some (.int .i64 mode) ∧ w'.cell? ⟨w.heap.size, 2, none⟩ = some (.int .i64 uid) ∧ w'.cell? ⟨w.heap.size, 3, none⟩ = some (.int .i64 gid) ∧ w'.cell? ⟨w.heap.size, 4, none⟩ = some (.int .i64 time) ∧ w'.cell? ⟨w.heap.size, 5, none⟩ = some va ∧ w'.cell? ⟨w.heap.size, 6, none⟩ = some vl ∧ w'.cell? ⟨w.heap.size, 7, none⟩ = some (.int .i64 size) ∧ w'.cell? ⟨w.heap.size, 8, none⟩ = some (.slice AD data.length cD) ∧ w'.cell? ⟨w.heap.size, 9, none⟩ = some (.string target) ∧ w'.cell? ⟨w.heap.size, 10, none⟩ = some (.int .i64 major) ∧ w'.cell? ⟨w.heap.size, 11, none⟩ = some (.int .i64 minor)) (first | exact keepK hRR (by assumption) (by assumption) | exact keepS hRR hx2 _ (by assumption) | exact keepK hRR ⟨Below.refl _ _, hk0, (hk0.held hRR).1, (hk0.held hRR).2, k0, k1, k2, k3, k4, k5, k6, k7, k8, k9, k10, k11⟩ (Q.drew (Q.refl _)) | assumption) (first
        | (go_at_call 21; refine (HX.out _ (hwb.out _ (And.left (by assumption)))).mono ?_; rintro e wn ⟨Ax, cx, rfl, hx', qn⟩)
        | (go_at_call 34; refine (HM.out _ _ _ hx').mono ?_; rintro e wn ⟨Am, cm, r, rfl, hm, qn, Hr⟩)
        | (go_at_call 31; refine (HL.out _ _ r _ (hwb.out _ (And.left (by assumption))) (Kept.lt2 (by assumption)) hm Hr).mono ?_; rintro e wl ⟨A5, n5, rfl, of, ql⟩; have hkl : Kept RR wl w2.heap.size := Kept.keep2 ql (by assumption)))
      have hbl : Below w2.heap.size w5 (wl.setCell ⟨w2.heap.size, 8, none⟩ (.slice A5 (clipP data 0 a).length n5)) := And.left (by assumption)
      subst hRe
      have o1 := hkl.put (.slice A5 (clipP data 0 a).length n5)
      simp only [List.setIfInBounds_toArray, List.set_cons_succ, List.set_cons_zero] at o1
      have of1 : OwnP (wl.setCell ⟨w2.heap.size, 8, none⟩ (.slice A5 (clipP data 0 a).length n5)) (w2.heap.size + 1) _ _ := own_far of ((Far.refl _ wl).chain 8 _) (Nat.lt_succ_self _)
      clear HM HL HX of ql hkl hk0 hRR k0 k1 k2 k3 k4 k5 k6 k7 k8 k9 k10 k11
      generalize wl.setCell ⟨w2.heap.size, 8, none⟩ (.slice A5 (clipP data 0 a).length n5) = W at *
      have st1 : St w w2 W _ _ _ := ⟨hwb.out _ hbl, st.x.other (hbl.block _ (by omega)), st.y.other (hbl.block _ (by omega)), o1, st.b.below hbl⟩
      clear st hbl o1 hwb
      have f2 := (Far.refl w2.heap.size W).chain 7 (.int .i64 a)
      have o2 := st1.o.set 7 (.int .i64 a)
      simp only [List.setIfInBounds_toArray, List.set_cons_succ, List.set_cons_zero] at o2
      have st2 : St w w2 (W.setCell ⟨w2.heap.size, 7, none⟩ (.int .i64 a)) _ _ _ := ⟨Q.setCell st1.q (by omega) 7 (.int .i64 a), st1.x.far f2 hx2, st1.y.far f2 hy2, o2, st1.b.far f2 (.inr (Nat.le_refl _))⟩
      have of2 : OwnP (W.setCell ⟨w2.heap.size, 7, none⟩ (.int .i64 a)) (w2.heap.size + 1) _ _ := own_far of1 f2 (Nat.lt_succ_self _)
      have g0 := st1.o.soft
      obtain ⟨-, -, -, -, -, -, -, i7, -, -, -, -⟩ := st1.o.cells
      clear of1 f2 o2 st1
      have g2 := st2.y.soft
      obtain ⟨j0, j1, j2, j3, j4, j5, j6, j7, j8, j9, j10, j11⟩ := st2.o.cells
      obtain ⟨m0, m1, m2, m3, m4, m5, m6, m7, m8, m9, m10, m11⟩ := st2.y.cells
      go_wp2_with fail
      clear g0 g2 i7 j0 j1 j2 j3 j4 j5 j6 j7 j8 j9 j10 j11 m0 m1 m2 m3 m4 m5 m6 m7 m8 m9 m10 m11
      generalize W.setCell ⟨w2.heap.size, 7, none⟩ (.int .i64 a) = W2 at *
      have y5 := ((((((((((((st2.y.set 0 (.int .i64 kind)).set 1 (.int .i64 mode)).set 2 (.int .i64 uid)).set 3 (.int .i64 gid)).set 4 (.int .i64 time)).set 5 (.slice A2 attrs.length n2)).set 6 (.slice A3 acl.length n3)).set 7 (.int .i64 a)).set 8 (.slice A5 (clipP data 0 a).length n5)).set 9 (.string target)).set 10 (.int .i64 major)).set 11 (.int .i64 minor))
      simp only [List.setIfInBounds_toArray, List.set_cons_succ, List.set_cons_zero] at y5
      have f5 := (((((((((((((Far.refl (w.heap.size + 1) W2).chain 0 (.int .i64 kind)).chain 1 (.int .i64 mode)).chain 2 (.int .i64 uid)).chain 3 (.int .i64 gid)).chain 4 (.int .i64 time)).chain 5 (.slice A2 attrs.length n2)).chain 6 (.slice A3 acl.length n3)).chain 7 (.int .i64 a)).chain 8 (.slice A5 (clipP data 0 a).length n5)).chain 9 (.string target)).chain 10 (.int .i64 major)).chain 11 (.int .i64 minor))
      have q5 := (Q.setCell (Q.setCell (Q.setCell (Q.setCell (Q.setCell (Q.setCell (Q.setCell (Q.setCell (Q.setCell (Q.setCell (Q.setCell (Q.setCell st2.q (Nat.le_succ _) 0 (.int .i64 kind)) (Nat.le_succ _) 1 (.int .i64 mode)) (Nat.le_succ _) 2 (.int .i64 uid)) (Nat.le_succ _) 3 (.int .i64 gid)) (Nat.le_succ _) 4 (.int .i64 time)) (Nat.le_succ _) 5 (.slice A2 attrs.length n2)) (Nat.le_succ _) 6 (.slice A3 acl.length n3)) (Nat.le_succ _) 7 (.int .i64 a)) (Nat.le_succ _) 8 (.slice A5 (clipP data 0 a).length n5)) (Nat.le_succ _) 9 (.string target)) (Nat.le_succ _) 10 (.int .i64 major)) (Nat.le_succ _) 11 (.int .i64 minor))
      have b5 := st2.b.far f5 (.inl (Nat.lt_succ_self _))
      have ra := (b5.row oa.out).row flatT
      have rl := ((b5.row ol.out).row flat3).aces
      have rd := (own_far of2 f5 (by omega)).row flatP
      clear f5 st2
      generalize ((((((((((((W2.setCell ⟨(w.heap.size + 1), 0, none⟩ (.int .i64 kind)).setCell ⟨(w.heap.size + 1), 1, none⟩ (.int .i64 mode)).setCell ⟨(w.heap.size + 1), 2, none⟩ (.int .i64 uid)).setCell ⟨(w.heap.size + 1), 3, none⟩ (.int .i64 gid)).setCell ⟨(w.heap.size + 1), 4, none⟩ (.int .i64 time)).setCell ⟨(w.heap.size + 1), 5, none⟩ (.slice A2 attrs.length n2)).setCell ⟨(w.heap.size + 1), 6, none⟩ (.slice A3 acl.length n3)).setCell ⟨(w.heap.size + 1), 7, none⟩ (.int .i64 a)).setCell ⟨(w.heap.size + 1), 8, none⟩ (.slice A5 (clipP data 0 a).length n5)).setCell ⟨(w.heap.size + 1), 9, none⟩ (.string target)).setCell ⟨(w.heap.size + 1), 10, none⟩ (.int .i64 major)).setCell ⟨(w.heap.size + 1), 11, none⟩ (.int .i64 minor)) = w9 at *
      obtain ⟨k0, k1, k2, k3, k4, k5, k6, k7, k8, k9, k10, k11⟩ := y5.cells
      refine bodyPost_ret (v := .tuple #[.agg #[.int .i64 kind, .int .i64 mode, .int .i64 uid, .int .i64 gid, .int .i64 time, .slice A2 attrs.length n2, .slice A3 acl.length n3, .int .i64 a, .slice A5 (clipP data 0 a).length n5, .string target, .int .i64 major, .int .i64 minor], .int .i64 0]) (by simp [results, Tryz.results8, go_sem, k0, k1, k2, k3, k4, k5, k6, k7, k8, k9, k10, k11]) rfl ?_
      rw [EE.out]
      exact ⟨_, rfl, ⟨_, _, _, rfl, ra, rl, rd⟩, q5⟩
end Go.Proofs.YtheobpilmphdjaaGreat.Nd
