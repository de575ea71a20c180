/-
  The document's Write and Cut leave a node in memory of the caller's own.
-/
import Derived.Test.YtgbenepapajieaaGreatNRefY
import Derived.Test.YtgbenepapajieaaGreatNNode
import Derived.Test.YtgbenepapajieaaGreatNFile
namespace Go.Proofs.YtgbenepapajieaaGreat.Nd
open Go.RowKit
open Go.Proofs.YtgbenepapajieaaGreat.Ex.Rng
open Go.Proofs.YtgbenepapajieaaGreat.Ex (E ExtsAt)

theorem len_foldJ : ∀ (l o : List Pc), (l.foldl joinStep o).length ≤ o.length + l.length
  | [], o => by show o.length ≤ o.length + 0; omega
  | p :: r, o => by
    have h1 := len_foldJ r (joinStep o p)
    have h2 := len_joinStep o p
    show (r.foldl joinStep (joinStep o p)).length ≤ o.length + (r.length + 1)
    omega
set_option maxRecDepth 100000 in
set_option maxHeartbeats 16000000 in
theorem rWrite_own (v : Value) (n : Nd) (a : Int) (s : ByteArray) (w : World) {BB : Nat} (ho : OwnN w BB v n) (hBB : BB ≤ w.heap.size) (hf : Fit n) (ht : n.target.size ≤ 1000000) (hss : s.size ≤ 90000) :
    Calls Tryz.prog 59 #[v, .int .i64 a, .string s] w fun e w' => ∃ v', e = .returned (.tuple #[v', .int .i64 (writeN n a s).2]) ∧ OwnN w' BB v' (writeN n a s).1 ∧ Q w w' := by
  have h := ho.at_
  have HF : Hid (∀ w', Q w w' → Calls Tryz.prog 49 #[v] w' fun e w'' => e = .returned (.bool (mayN n)) ∧ Q w' w'') := fun w' q => rMayN_any v n w' (h.keep q) hf.da ht
  have HV : Hid (fileB n = true → VF n.size n.data) := fun k => (fileB_vf k).2
  have HB : Hid (fileB n = ((n.kind == 2) && mayN n)) := rfl
  have E1 : Hid (¬ (fileB n = true ∧ offB a = true) → writeN n a s = (n, 1)) := fun k => if_neg k
  have E2 : Hid (fileB n = true ∧ offB a = true → 1099511627776 < a + (s.size : Int) → writeN n a s = (n, 2)) := fun k k2 => by unfold writeN; rw [if_pos k, if_pos k2]
  have E3 : Hid (fileB n = true ∧ offB a = true → a + (s.size : Int) ≤ 1099511627776 → s.size = 0 → writeN n a s = (n, 0)) := fun k k2 k3 => by unfold writeN; rw [if_pos k, if_neg (Int.not_lt.2 k2), if_pos k3]
  have E4 : Hid (fileB n = true ∧ offB a = true → a + (s.size : Int) ≤ 1099511627776 → ¬ s.size = 0 → (16 < (wData n.data a s).length ∨ 4000 < sumP (wData n.data a s)) → writeN n a s = (n, 13)) := fun k k2 k3 k4 => by unfold writeN; rw [if_pos k, if_neg (Int.not_lt.2 k2), if_neg k3, if_pos k4]
  have E5 : Hid (fileB n = true ∧ offB a = true → a + (s.size : Int) ≤ 1099511627776 → ¬ s.size = 0 → ¬ (16 < (wData n.data a s).length ∨ 4000 < sumP (wData n.data a s)) → writeN n a s = ({ n with data := wData n.data a s, size := max n.size (a + (s.size : Int)) }, 0)) := fun k k2 k3 k4 => by unfold writeN; rw [if_pos k, if_neg (Int.not_lt.2 k2), if_neg k3, if_neg k4]
  clear h
  obtain ⟨va, vl, vd, rfl, oa, ol, od⟩ := ho
  have ha : AtsAt w va n.mt.attrs := OwnR.row flatT oa
  have hl : AcesAt w vl n.mt.acl := (OwnR.row flat3 ol).aces
  have hd : PcsAt w vd n.data := OwnR.row flatP od
  obtain ⟨AD, cD, rfl⟩ := hd.form
  obtain ⟨Aa, ca, rfl⟩ := ha.form
  obtain ⟨Al, cl, rfl⟩ := hl.form
  have HN : Hid (∀ w', Q w w' → NodeAt w' (nodeV n (.slice Aa n.mt.attrs.length ca) (.slice Al n.mt.acl.length cl) (.slice AD n.data.length cD)) n) := fun w' q => ⟨_, _, _, rfl, ha.keep q, hl.keep q, hd.keep q⟩
  have HNO : Hid (∀ w', Q w w' → OwnN w' BB (nodeV n (.slice Aa n.mt.attrs.length ca) (.slice Al n.mt.acl.length cl) (.slice AD n.data.length cD)) n) := fun w' q => ⟨_, _, _, rfl, OwnR.keep oa q, OwnR.keep ol q, OwnR.keep od q⟩
  have HALO : Hid (∀ w', Q w w' → OwnT w' BB (.slice Aa n.mt.attrs.length ca) n.mt.attrs ∧ OwnA w' BB (.slice Al n.mt.acl.length cl) n.mt.acl) := fun w' q => ⟨OwnR.keep oa q, OwnR.keep ol q⟩
  have HD : Hid (∀ w', Q w w' → PcsAt w' (.slice AD n.data.length cD) n.data) := fun w' q => hd.keep q
  have HAL : Hid (∀ w', Q w w' → AtsAt w' (.slice Aa n.mt.attrs.length ca) n.mt.attrs ∧ AcesAt w' (.slice Al n.mt.acl.length cl) n.mt.acl) := fun w' q => ⟨ha.keep q, hl.keep q⟩
  have hdl := hf.da.1
  obtain ⟨kind, ⟨mode, uid, gid, time, attrs, acl⟩, size, data, target, major, minor⟩ := n
  unfold nodeV at HF HN HNO ⊢
  simp only at HF HV HB HN HNO HALO HD HAL hdl E1 E2 E3 E4 E5 ⊢
  clear ha hl hd hf ht oa ol od
  generalize writeN ⟨kind, ⟨mode, uid, gid, time, attrs, acl⟩, size, data, target, major, minor⟩ a s = N at *
  generalize fileB ⟨kind, ⟨mode, uid, gid, time, attrs, acl⟩, size, data, target, major, minor⟩ = bf at *
  generalize mayN ⟨kind, ⟨mode, uid, gid, time, attrs, acl⟩, size, data, target, major, minor⟩ = bm at *
  go_enter Tryz.func59, Tryz.ntmps59
  go_wp2_with fail
  have x1 : BoxN ((w.alloc (.cells #[.int .i64 kind, .int .i64 mode, .int .i64 uid, .int .i64 gid, .int .i64 time, .slice Aa attrs.length ca, .slice Al acl.length cl, .int .i64 size, .slice AD data.length cD, .string target, .int .i64 major, .int .i64 minor] 47)).alloc (.cells #[.int .i64 0, .int .i64 0, .int .i64 0, .int .i64 0, .int .i64 0, .slice none 0 0, .slice none 0 0, .int .i64 0, .slice none 0 0, .string ⟨#[]⟩, .int .i64 0, .int .i64 0] 47)) w.heap.size #[.int .i64 kind, .int .i64 mode, .int .i64 uid, .int .i64 gid, .int .i64 time, .slice Aa attrs.length ca, .slice Al acl.length cl, .int .i64 size, .slice AD data.length cD, .string target, .int .i64 major, .int .i64 minor] := (BoxN.new w _).keep ((Q.refl _).alloc _)
  have y1 := BoxN.new (w.alloc (.cells #[.int .i64 kind, .int .i64 mode, .int .i64 uid, .int .i64 gid, .int .i64 time, .slice Aa attrs.length ca, .slice Al acl.length cl, .int .i64 size, .slice AD data.length cD, .string target, .int .i64 major, .int .i64 minor] 47)) #[.int .i64 0, .int .i64 0, .int .i64 0, .int .i64 0, .int .i64 0, .slice none 0 0, .slice none 0 0, .int .i64 0, .slice none 0 0, .string ⟨#[]⟩, .int .i64 0, .int .i64 0]
  rw [World.size_alloc] at y1
  have q1 : Q w ((w.alloc (.cells #[.int .i64 kind, .int .i64 mode, .int .i64 uid, .int .i64 gid, .int .i64 time, .slice Aa attrs.length ca, .slice Al acl.length cl, .int .i64 size, .slice AD data.length cD, .string target, .int .i64 major, .int .i64 minor] 47)).alloc (.cells #[.int .i64 0, .int .i64 0, .int .i64 0, .int .i64 0, .int .i64 0, .slice none 0 0, .slice none 0 0, .int .i64 0, .slice none 0 0, .string ⟨#[]⟩, .int .i64 0, .int .i64 0] 47)) := ((Q.refl w).alloc _).alloc _
  generalize (w.alloc (.cells #[.int .i64 kind, .int .i64 mode, .int .i64 uid, .int .i64 gid, .int .i64 time, .slice Aa attrs.length ca, .slice Al acl.length cl, .int .i64 size, .slice AD data.length cD, .string target, .int .i64 major, .int .i64 minor] 47)).alloc (.cells #[.int .i64 0, .int .i64 0, .int .i64 0, .int .i64 0, .int .i64 0, .slice none 0 0, .slice none 0 0, .int .i64 0, .slice none 0 0, .string ⟨#[]⟩, .int .i64 0, .int .i64 0] 47) = w1 at *
  refine (HF.out _ q1).mono ?_
  rintro e w2 ⟨rfl, q2⟩
  replace x1 := x1.keep q2
  replace y1 := y1.keep q2
  replace q1 := q1.trans q2
  clear q2 HF
  cases bm with
  | false =>
    have EE : Hid (N = _) := E1.out (fun k => by rw [HB.out] at k; simp at k)
    clear E1 E2 E3 E4 E5 HV HD HAL HB
    have g2 := y1.soft
    obtain ⟨j0, j1, j2, j3, j4, j5, j6, j7, j8, j9, j10, j11⟩ := x1.cells
    obtain ⟨m0, m1, m2, m3, m4, m5, m6, m7, m8, m9, m10, m11⟩ := y1.cells
    have hlt := x1.lt
    go_wp2_with fail
    clear g2 hlt  j0 j1 j2 j3 j4 j5 j6 j7 j8 j9 j10 j11 m0 m1 m2 m3 m4 m5 m6 m7 m8 m9 m10 m11
    have y5 := ((((((((((((y1.set 0 (.int .i64 kind)).set 1 (.int .i64 mode)).set 2 (.int .i64 uid)).set 3 (.int .i64 gid)).set 4 (.int .i64 time)).set 5 (.slice Aa attrs.length ca)).set 6 (.slice Al acl.length cl)).set 7 (.int .i64 size)).set 8 (.slice AD data.length cD)).set 9 (.string target)).set 10 (.int .i64 major)).set 11 (.int .i64 minor))
    simp only [List.setIfInBounds_toArray, List.set_cons_succ, List.set_cons_zero] at y5
    have q5 := (Q.setCell (Q.setCell (Q.setCell (Q.setCell (Q.setCell (Q.setCell (Q.setCell (Q.setCell (Q.setCell (Q.setCell (Q.setCell (Q.setCell q1 (Nat.le_succ _) 0 (.int .i64 kind)) (Nat.le_succ _) 1 (.int .i64 mode)) (Nat.le_succ _) 2 (.int .i64 uid)) (Nat.le_succ _) 3 (.int .i64 gid)) (Nat.le_succ _) 4 (.int .i64 time)) (Nat.le_succ _) 5 (.slice Aa attrs.length ca)) (Nat.le_succ _) 6 (.slice Al acl.length cl)) (Nat.le_succ _) 7 (.int .i64 size)) (Nat.le_succ _) 8 (.slice AD data.length cD)) (Nat.le_succ _) 9 (.string target)) (Nat.le_succ _) 10 (.int .i64 major)) (Nat.le_succ _) 11 (.int .i64 minor))
    generalize ((((((((((((w2.setCell ⟨(w.heap.size + 1), 0, none⟩ (.int .i64 kind)).setCell ⟨(w.heap.size + 1), 1, none⟩ (.int .i64 mode)).setCell ⟨(w.heap.size + 1), 2, none⟩ (.int .i64 uid)).setCell ⟨(w.heap.size + 1), 3, none⟩ (.int .i64 gid)).setCell ⟨(w.heap.size + 1), 4, none⟩ (.int .i64 time)).setCell ⟨(w.heap.size + 1), 5, none⟩ (.slice Aa attrs.length ca)).setCell ⟨(w.heap.size + 1), 6, none⟩ (.slice Al acl.length cl)).setCell ⟨(w.heap.size + 1), 7, none⟩ (.int .i64 size)).setCell ⟨(w.heap.size + 1), 8, none⟩ (.slice AD data.length cD)).setCell ⟨(w.heap.size + 1), 9, none⟩ (.string target)).setCell ⟨(w.heap.size + 1), 10, none⟩ (.int .i64 major)).setCell ⟨(w.heap.size + 1), 11, none⟩ (.int .i64 minor)) = w9 at *
    obtain ⟨k0, k1, k2, k3, k4, k5, k6, k7, k8, k9, k10, k11⟩ := y5.cells
    refine bodyPost_ret (v := .tuple #[.agg #[.int .i64 kind, .int .i64 mode, .int .i64 uid, .int .i64 gid, .int .i64 time, .slice Aa attrs.length ca, .slice Al acl.length cl, .int .i64 size, .slice AD data.length cD, .string target, .int .i64 major, .int .i64 minor], .int .i64 1]) (by simp [results, Tryz.results59, go_sem, k0, k1, k2, k3, k4, k5, k6, k7, k8, k9, k10, k11]) rfl ?_
    rw [EE.out]
    exact ⟨_, rfl, HNO.out _ q5, q5⟩
  | true =>
    by_cases hkd : kind = 2
    rotate_left
    · have t0 : (kind != (2 : Int)) = true := bne_iff_ne.2 hkd
      have EE : Hid (N = _) := E1.out (fun k => by rw [HB.out] at k; simp at k; exact hkd k.1)
      clear E1 E2 E3 E4 E5 HV HD HAL HB
      clear hkd
      have g2 := y1.soft
      obtain ⟨j0, j1, j2, j3, j4, j5, j6, j7, j8, j9, j10, j11⟩ := x1.cells
      obtain ⟨m0, m1, m2, m3, m4, m5, m6, m7, m8, m9, m10, m11⟩ := y1.cells
      have hlt := x1.lt
      go_wp2_with fail
      clear g2 hlt  j0 j1 j2 j3 j4 j5 j6 j7 j8 j9 j10 j11 m0 m1 m2 m3 m4 m5 m6 m7 m8 m9 m10 m11
      have y5 := ((((((((((((y1.set 0 (.int .i64 kind)).set 1 (.int .i64 mode)).set 2 (.int .i64 uid)).set 3 (.int .i64 gid)).set 4 (.int .i64 time)).set 5 (.slice Aa attrs.length ca)).set 6 (.slice Al acl.length cl)).set 7 (.int .i64 size)).set 8 (.slice AD data.length cD)).set 9 (.string target)).set 10 (.int .i64 major)).set 11 (.int .i64 minor))
      simp only [List.setIfInBounds_toArray, List.set_cons_succ, List.set_cons_zero] at y5
      have q5 := (Q.setCell (Q.setCell (Q.setCell (Q.setCell (Q.setCell (Q.setCell (Q.setCell (Q.setCell (Q.setCell (Q.setCell (Q.setCell (Q.setCell q1 (Nat.le_succ _) 0 (.int .i64 kind)) (Nat.le_succ _) 1 (.int .i64 mode)) (Nat.le_succ _) 2 (.int .i64 uid)) (Nat.le_succ _) 3 (.int .i64 gid)) (Nat.le_succ _) 4 (.int .i64 time)) (Nat.le_succ _) 5 (.slice Aa attrs.length ca)) (Nat.le_succ _) 6 (.slice Al acl.length cl)) (Nat.le_succ _) 7 (.int .i64 size)) (Nat.le_succ _) 8 (.slice AD data.length cD)) (Nat.le_succ _) 9 (.string target)) (Nat.le_succ _) 10 (.int .i64 major)) (Nat.le_succ _) 11 (.int .i64 minor))
      generalize ((((((((((((w2.setCell ⟨(w.heap.size + 1), 0, none⟩ (.int .i64 kind)).setCell ⟨(w.heap.size + 1), 1, none⟩ (.int .i64 mode)).setCell ⟨(w.heap.size + 1), 2, none⟩ (.int .i64 uid)).setCell ⟨(w.heap.size + 1), 3, none⟩ (.int .i64 gid)).setCell ⟨(w.heap.size + 1), 4, none⟩ (.int .i64 time)).setCell ⟨(w.heap.size + 1), 5, none⟩ (.slice Aa attrs.length ca)).setCell ⟨(w.heap.size + 1), 6, none⟩ (.slice Al acl.length cl)).setCell ⟨(w.heap.size + 1), 7, none⟩ (.int .i64 size)).setCell ⟨(w.heap.size + 1), 8, none⟩ (.slice AD data.length cD)).setCell ⟨(w.heap.size + 1), 9, none⟩ (.string target)).setCell ⟨(w.heap.size + 1), 10, none⟩ (.int .i64 major)).setCell ⟨(w.heap.size + 1), 11, none⟩ (.int .i64 minor)) = w9 at *
      obtain ⟨k0, k1, k2, k3, k4, k5, k6, k7, k8, k9, k10, k11⟩ := y5.cells
      refine bodyPost_ret (v := .tuple #[.agg #[.int .i64 kind, .int .i64 mode, .int .i64 uid, .int .i64 gid, .int .i64 time, .slice Aa attrs.length ca, .slice Al acl.length cl, .int .i64 size, .slice AD data.length cD, .string target, .int .i64 major, .int .i64 minor], .int .i64 1]) (by simp [results, Tryz.results59, go_sem, k0, k1, k2, k3, k4, k5, k6, k7, k8, k9, k10, k11]) rfl ?_
      rw [EE.out]
      exact ⟨_, rfl, HNO.out _ q5, q5⟩
    subst hkd
    have hbf : bf = true := HB.out
    subst hbf
    by_cases h1 : a < 0
    · have t1 : decide (a < 0) = true := decide_eq_true h1
      have EE : Hid (N = _) := E1.out (fun k => by have := of_decide_eq_true k.2; omega)
      clear E1 E2 E3 E4 E5 HV HD HAL HB
      clear h1
      have g2 := y1.soft
      obtain ⟨j0, j1, j2, j3, j4, j5, j6, j7, j8, j9, j10, j11⟩ := x1.cells
      obtain ⟨m0, m1, m2, m3, m4, m5, m6, m7, m8, m9, m10, m11⟩ := y1.cells
      have hlt := x1.lt
      go_wp2_with fail
      clear g2 hlt  j0 j1 j2 j3 j4 j5 j6 j7 j8 j9 j10 j11 m0 m1 m2 m3 m4 m5 m6 m7 m8 m9 m10 m11
      have y5 := ((((((((((((y1.set 0 (.int .i64 2)).set 1 (.int .i64 mode)).set 2 (.int .i64 uid)).set 3 (.int .i64 gid)).set 4 (.int .i64 time)).set 5 (.slice Aa attrs.length ca)).set 6 (.slice Al acl.length cl)).set 7 (.int .i64 size)).set 8 (.slice AD data.length cD)).set 9 (.string target)).set 10 (.int .i64 major)).set 11 (.int .i64 minor))
      simp only [List.setIfInBounds_toArray, List.set_cons_succ, List.set_cons_zero] at y5
      have q5 := (Q.setCell (Q.setCell (Q.setCell (Q.setCell (Q.setCell (Q.setCell (Q.setCell (Q.setCell (Q.setCell (Q.setCell (Q.setCell (Q.setCell q1 (Nat.le_succ _) 0 (.int .i64 2)) (Nat.le_succ _) 1 (.int .i64 mode)) (Nat.le_succ _) 2 (.int .i64 uid)) (Nat.le_succ _) 3 (.int .i64 gid)) (Nat.le_succ _) 4 (.int .i64 time)) (Nat.le_succ _) 5 (.slice Aa attrs.length ca)) (Nat.le_succ _) 6 (.slice Al acl.length cl)) (Nat.le_succ _) 7 (.int .i64 size)) (Nat.le_succ _) 8 (.slice AD data.length cD)) (Nat.le_succ _) 9 (.string target)) (Nat.le_succ _) 10 (.int .i64 major)) (Nat.le_succ _) 11 (.int .i64 minor))
      generalize ((((((((((((w2.setCell ⟨(w.heap.size + 1), 0, none⟩ (.int .i64 2)).setCell ⟨(w.heap.size + 1), 1, none⟩ (.int .i64 mode)).setCell ⟨(w.heap.size + 1), 2, none⟩ (.int .i64 uid)).setCell ⟨(w.heap.size + 1), 3, none⟩ (.int .i64 gid)).setCell ⟨(w.heap.size + 1), 4, none⟩ (.int .i64 time)).setCell ⟨(w.heap.size + 1), 5, none⟩ (.slice Aa attrs.length ca)).setCell ⟨(w.heap.size + 1), 6, none⟩ (.slice Al acl.length cl)).setCell ⟨(w.heap.size + 1), 7, none⟩ (.int .i64 size)).setCell ⟨(w.heap.size + 1), 8, none⟩ (.slice AD data.length cD)).setCell ⟨(w.heap.size + 1), 9, none⟩ (.string target)).setCell ⟨(w.heap.size + 1), 10, none⟩ (.int .i64 major)).setCell ⟨(w.heap.size + 1), 11, none⟩ (.int .i64 minor)) = w9 at *
      obtain ⟨k0, k1, k2, k3, k4, k5, k6, k7, k8, k9, k10, k11⟩ := y5.cells
      refine bodyPost_ret (v := .tuple #[.agg #[.int .i64 2, .int .i64 mode, .int .i64 uid, .int .i64 gid, .int .i64 time, .slice Aa attrs.length ca, .slice Al acl.length cl, .int .i64 size, .slice AD data.length cD, .string target, .int .i64 major, .int .i64 minor], .int .i64 1]) (by simp [results, Tryz.results59, go_sem, k0, k1, k2, k3, k4, k5, k6, k7, k8, k9, k10, k11]) rfl ?_
      rw [EE.out]
      exact ⟨_, rfl, HNO.out _ q5, q5⟩
    have t1 : decide (a < 0) = false := decide_eq_false h1
    by_cases h2 : 1099511627776 < a
    · have t2 : decide (1099511627776 < a) = true := decide_eq_true h2
      have EE : Hid (N = _) := E1.out (fun k => by have := of_decide_eq_true k.2; omega)
      clear E1 E2 E3 E4 E5 HV HD HAL HB
      clear h1 h2
      have g2 := y1.soft
      obtain ⟨j0, j1, j2, j3, j4, j5, j6, j7, j8, j9, j10, j11⟩ := x1.cells
      obtain ⟨m0, m1, m2, m3, m4, m5, m6, m7, m8, m9, m10, m11⟩ := y1.cells
      have hlt := x1.lt
      go_wp2_with fail
      clear g2 hlt  j0 j1 j2 j3 j4 j5 j6 j7 j8 j9 j10 j11 m0 m1 m2 m3 m4 m5 m6 m7 m8 m9 m10 m11
      have y5 := ((((((((((((y1.set 0 (.int .i64 2)).set 1 (.int .i64 mode)).set 2 (.int .i64 uid)).set 3 (.int .i64 gid)).set 4 (.int .i64 time)).set 5 (.slice Aa attrs.length ca)).set 6 (.slice Al acl.length cl)).set 7 (.int .i64 size)).set 8 (.slice AD data.length cD)).set 9 (.string target)).set 10 (.int .i64 major)).set 11 (.int .i64 minor))
      simp only [List.setIfInBounds_toArray, List.set_cons_succ, List.set_cons_zero] at y5
      have q5 := (Q.setCell (Q.setCell (Q.setCell (Q.setCell (Q.setCell (Q.setCell (Q.setCell (Q.setCell (Q.setCell (Q.setCell (Q.setCell (Q.setCell q1 (Nat.le_succ _) 0 (.int .i64 2)) (Nat.le_succ _) 1 (.int .i64 mode)) (Nat.le_succ _) 2 (.int .i64 uid)) (Nat.le_succ _) 3 (.int .i64 gid)) (Nat.le_succ _) 4 (.int .i64 time)) (Nat.le_succ _) 5 (.slice Aa attrs.length ca)) (Nat.le_succ _) 6 (.slice Al acl.length cl)) (Nat.le_succ _) 7 (.int .i64 size)) (Nat.le_succ _) 8 (.slice AD data.length cD)) (Nat.le_succ _) 9 (.string target)) (Nat.le_succ _) 10 (.int .i64 major)) (Nat.le_succ _) 11 (.int .i64 minor))
      generalize ((((((((((((w2.setCell ⟨(w.heap.size + 1), 0, none⟩ (.int .i64 2)).setCell ⟨(w.heap.size + 1), 1, none⟩ (.int .i64 mode)).setCell ⟨(w.heap.size + 1), 2, none⟩ (.int .i64 uid)).setCell ⟨(w.heap.size + 1), 3, none⟩ (.int .i64 gid)).setCell ⟨(w.heap.size + 1), 4, none⟩ (.int .i64 time)).setCell ⟨(w.heap.size + 1), 5, none⟩ (.slice Aa attrs.length ca)).setCell ⟨(w.heap.size + 1), 6, none⟩ (.slice Al acl.length cl)).setCell ⟨(w.heap.size + 1), 7, none⟩ (.int .i64 size)).setCell ⟨(w.heap.size + 1), 8, none⟩ (.slice AD data.length cD)).setCell ⟨(w.heap.size + 1), 9, none⟩ (.string target)).setCell ⟨(w.heap.size + 1), 10, none⟩ (.int .i64 major)).setCell ⟨(w.heap.size + 1), 11, none⟩ (.int .i64 minor)) = w9 at *
      obtain ⟨k0, k1, k2, k3, k4, k5, k6, k7, k8, k9, k10, k11⟩ := y5.cells
      refine bodyPost_ret (v := .tuple #[.agg #[.int .i64 2, .int .i64 mode, .int .i64 uid, .int .i64 gid, .int .i64 time, .slice Aa attrs.length ca, .slice Al acl.length cl, .int .i64 size, .slice AD data.length cD, .string target, .int .i64 major, .int .i64 minor], .int .i64 1]) (by simp [results, Tryz.results59, go_sem, k0, k1, k2, k3, k4, k5, k6, k7, k8, k9, k10, k11]) rfl ?_
      rw [EE.out]
      exact ⟨_, rfl, HNO.out _ q5, q5⟩
    have t2 : decide (1099511627776 < a) = false := decide_eq_false h2
    have hfo : true = true ∧ offB a = true := ⟨rfl, decide_eq_true (by omega)⟩
    have hvf := HV.out rfl
    have wM : IntKind.i64.wrap (1099511627776 - a) = 1099511627776 - a := IntWalk.i64_in _ (by omega)
    by_cases h3 : 1099511627776 < a + (s.size : Int)
    · have t3 : decide (1099511627776 - a < (s.size : Int)) = true := decide_eq_true (by omega)
      have EE : Hid (N = _) := E2.out hfo h3
      clear E1 E2 E3 E4 E5 HV HD HAL HB
      clear h1 h2 h3 hfo hvf
      have g2 := y1.soft
      obtain ⟨j0, j1, j2, j3, j4, j5, j6, j7, j8, j9, j10, j11⟩ := x1.cells
      obtain ⟨m0, m1, m2, m3, m4, m5, m6, m7, m8, m9, m10, m11⟩ := y1.cells
      have hlt := x1.lt
      go_wp2_with fail
      clear g2 hlt  j0 j1 j2 j3 j4 j5 j6 j7 j8 j9 j10 j11 m0 m1 m2 m3 m4 m5 m6 m7 m8 m9 m10 m11
      have y5 := ((((((((((((y1.set 0 (.int .i64 2)).set 1 (.int .i64 mode)).set 2 (.int .i64 uid)).set 3 (.int .i64 gid)).set 4 (.int .i64 time)).set 5 (.slice Aa attrs.length ca)).set 6 (.slice Al acl.length cl)).set 7 (.int .i64 size)).set 8 (.slice AD data.length cD)).set 9 (.string target)).set 10 (.int .i64 major)).set 11 (.int .i64 minor))
      simp only [List.setIfInBounds_toArray, List.set_cons_succ, List.set_cons_zero] at y5
      have q5 := (Q.setCell (Q.setCell (Q.setCell (Q.setCell (Q.setCell (Q.setCell (Q.setCell (Q.setCell (Q.setCell (Q.setCell (Q.setCell (Q.setCell q1 (Nat.le_succ _) 0 (.int .i64 2)) (Nat.le_succ _) 1 (.int .i64 mode)) (Nat.le_succ _) 2 (.int .i64 uid)) (Nat.le_succ _) 3 (.int .i64 gid)) (Nat.le_succ _) 4 (.int .i64 time)) (Nat.le_succ _) 5 (.slice Aa attrs.length ca)) (Nat.le_succ _) 6 (.slice Al acl.length cl)) (Nat.le_succ _) 7 (.int .i64 size)) (Nat.le_succ _) 8 (.slice AD data.length cD)) (Nat.le_succ _) 9 (.string target)) (Nat.le_succ _) 10 (.int .i64 major)) (Nat.le_succ _) 11 (.int .i64 minor))
      generalize ((((((((((((w2.setCell ⟨(w.heap.size + 1), 0, none⟩ (.int .i64 2)).setCell ⟨(w.heap.size + 1), 1, none⟩ (.int .i64 mode)).setCell ⟨(w.heap.size + 1), 2, none⟩ (.int .i64 uid)).setCell ⟨(w.heap.size + 1), 3, none⟩ (.int .i64 gid)).setCell ⟨(w.heap.size + 1), 4, none⟩ (.int .i64 time)).setCell ⟨(w.heap.size + 1), 5, none⟩ (.slice Aa attrs.length ca)).setCell ⟨(w.heap.size + 1), 6, none⟩ (.slice Al acl.length cl)).setCell ⟨(w.heap.size + 1), 7, none⟩ (.int .i64 size)).setCell ⟨(w.heap.size + 1), 8, none⟩ (.slice AD data.length cD)).setCell ⟨(w.heap.size + 1), 9, none⟩ (.string target)).setCell ⟨(w.heap.size + 1), 10, none⟩ (.int .i64 major)).setCell ⟨(w.heap.size + 1), 11, none⟩ (.int .i64 minor)) = w9 at *
      obtain ⟨k0, k1, k2, k3, k4, k5, k6, k7, k8, k9, k10, k11⟩ := y5.cells
      refine bodyPost_ret (v := .tuple #[.agg #[.int .i64 2, .int .i64 mode, .int .i64 uid, .int .i64 gid, .int .i64 time, .slice Aa attrs.length ca, .slice Al acl.length cl, .int .i64 size, .slice AD data.length cD, .string target, .int .i64 major, .int .i64 minor], .int .i64 2]) (by simp [results, Tryz.results59, go_sem, k0, k1, k2, k3, k4, k5, k6, k7, k8, k9, k10, k11]) rfl ?_
      rw [EE.out]
      exact ⟨_, rfl, HNO.out _ q5, q5⟩
    have t3 : decide (1099511627776 - a < (s.size : Int)) = false := decide_eq_false (by omega)
    replace h3 := Int.not_lt.1 h3
    by_cases h4 : s.size = 0
    · have t4 : s.toList.isEmpty = true := by rw [Lib.toList_data, List.isEmpty_iff]; exact List.eq_nil_of_length_eq_zero (by rw [Array.length_toList]; exact h4)
      have EE : Hid (N = _) := E3.out hfo h3 h4
      clear E1 E2 E3 E4 E5 HV HD HAL HB
      clear h1 h2 h3 h4 hfo hvf
      have g2 := y1.soft
      obtain ⟨j0, j1, j2, j3, j4, j5, j6, j7, j8, j9, j10, j11⟩ := x1.cells
      obtain ⟨m0, m1, m2, m3, m4, m5, m6, m7, m8, m9, m10, m11⟩ := y1.cells
      have hlt := x1.lt
      go_wp2_with fail
      clear g2 hlt  j0 j1 j2 j3 j4 j5 j6 j7 j8 j9 j10 j11 m0 m1 m2 m3 m4 m5 m6 m7 m8 m9 m10 m11
      have y5 := ((((((((((((y1.set 0 (.int .i64 2)).set 1 (.int .i64 mode)).set 2 (.int .i64 uid)).set 3 (.int .i64 gid)).set 4 (.int .i64 time)).set 5 (.slice Aa attrs.length ca)).set 6 (.slice Al acl.length cl)).set 7 (.int .i64 size)).set 8 (.slice AD data.length cD)).set 9 (.string target)).set 10 (.int .i64 major)).set 11 (.int .i64 minor))
      simp only [List.setIfInBounds_toArray, List.set_cons_succ, List.set_cons_zero] at y5
      have q5 := (Q.setCell (Q.setCell (Q.setCell (Q.setCell (Q.setCell (Q.setCell (Q.setCell (Q.setCell (Q.setCell (Q.setCell (Q.setCell (Q.setCell q1 (Nat.le_succ _) 0 (.int .i64 2)) (Nat.le_succ _) 1 (.int .i64 mode)) (Nat.le_succ _) 2 (.int .i64 uid)) (Nat.le_succ _) 3 (.int .i64 gid)) (Nat.le_succ _) 4 (.int .i64 time)) (Nat.le_succ _) 5 (.slice Aa attrs.length ca)) (Nat.le_succ _) 6 (.slice Al acl.length cl)) (Nat.le_succ _) 7 (.int .i64 size)) (Nat.le_succ _) 8 (.slice AD data.length cD)) (Nat.le_succ _) 9 (.string target)) (Nat.le_succ _) 10 (.int .i64 major)) (Nat.le_succ _) 11 (.int .i64 minor))
      generalize ((((((((((((w2.setCell ⟨(w.heap.size + 1), 0, none⟩ (.int .i64 2)).setCell ⟨(w.heap.size + 1), 1, none⟩ (.int .i64 mode)).setCell ⟨(w.heap.size + 1), 2, none⟩ (.int .i64 uid)).setCell ⟨(w.heap.size + 1), 3, none⟩ (.int .i64 gid)).setCell ⟨(w.heap.size + 1), 4, none⟩ (.int .i64 time)).setCell ⟨(w.heap.size + 1), 5, none⟩ (.slice Aa attrs.length ca)).setCell ⟨(w.heap.size + 1), 6, none⟩ (.slice Al acl.length cl)).setCell ⟨(w.heap.size + 1), 7, none⟩ (.int .i64 size)).setCell ⟨(w.heap.size + 1), 8, none⟩ (.slice AD data.length cD)).setCell ⟨(w.heap.size + 1), 9, none⟩ (.string target)).setCell ⟨(w.heap.size + 1), 10, none⟩ (.int .i64 major)).setCell ⟨(w.heap.size + 1), 11, none⟩ (.int .i64 minor)) = w9 at *
      obtain ⟨k0, k1, k2, k3, k4, k5, k6, k7, k8, k9, k10, k11⟩ := y5.cells
      refine bodyPost_ret (v := .tuple #[.agg #[.int .i64 2, .int .i64 mode, .int .i64 uid, .int .i64 gid, .int .i64 time, .slice Aa attrs.length ca, .slice Al acl.length cl, .int .i64 size, .slice AD data.length cD, .string target, .int .i64 major, .int .i64 minor], .int .i64 0]) (by simp [results, Tryz.results59, go_sem, k0, k1, k2, k3, k4, k5, k6, k7, k8, k9, k10, k11]) rfl ?_
      rw [EE.out]
      exact ⟨_, rfl, HNO.out _ q5, q5⟩
    have t4 : s.toList.isEmpty = false := by
      rw [Lib.toList_data]
      cases hh : s.data.toList with
      | nil => exact absurd (by rw [← Array.length_toList, hh]; rfl : s.data.size = 0) h4
      | cons => rfl
    have E4' := Lib.hid (E4.out hfo h3 h4)
    have E5' := Lib.hid (E5.out hfo h3 h4)
    have wE : IntKind.i64.wrap (a + (s.size : Int)) = a + (s.size : Int) := IntWalk.i64_in _ (by omega)
    have HC1 : Hid (∀ w', Q w w' → Calls Tryz.prog 81 #[.slice AD data.length cD, .int .i64 0, .int .i64 a] w' fun e w'' => ∃ v', e = .returned v' ∧ OwnP w'' w'.heap.size v' (clipP data 0 a) ∧ Q w' w'') := fun w' q => clip_any _ data 0 a w' (HD.out _ q) hdl hvf.ok (by omega) (by omega) (by omega) (by omega)
    have HC2 : Hid (∀ w', Q w w' → Calls Tryz.prog 81 #[.slice AD data.length cD, .int .i64 (a + (s.size : Int)), .int .i64 1099511627777] w' fun e w'' => ∃ v', e = .returned v' ∧ OwnP w'' w'.heap.size v' (clipP data (a + (s.size : Int)) 1099511627777) ∧ Q w' w'') := fun w' q => clip_any _ data (a + (s.size : Int)) 1099511627777 w' (HD.out _ q) hdl hvf.ok (by omega) (by omega) (by omega) (by omega)
    have l1 : (clipP data 0 a).length ≤ 16 := Nat.le_trans (clipP_len _ _ _) hvf.len
    have l2 : (clipP data (a + (s.size : Int)) 1099511627777).length ≤ 16 := Nat.le_trans (clipP_len _ _ _) hvf.len
    have hjs : sumP (clipP data 0 a ++ [(a, s)] ++ clipP data (a + (s.size : Int)) 1099511627777) ≤ 100000 := by
      have e1 := clipP_sum data 0 a
      have e2 := clipP_sum data (a + (s.size : Int)) 1099511627777
      have e3 := hvf.sum
      simp only [sumP_append, sumP]
      omega
    have hjb : ∀ p ∈ clipP data 0 a ++ [(a, s)] ++ clipP data (a + (s.size : Int)) 1099511627777, 0 ≤ p.1 ∧ p.1 ≤ 2199023255552 := fun p hp => by
      rcases List.mem_append.1 hp with hp | hp
      · rcases List.mem_append.1 hp with hp | hp
        · have := clipP_ends hp; omega
        · rw [List.mem_singleton.1 hp]; simp only; omega
      · have := clipP_ends hp; omega
    have hll : (clipP data 0 a ++ [(a, s)] ++ clipP data (a + (s.size : Int)) 1099511627777).length ≤ 10000 := by simp only [List.length_append, List.length_singleton]; omega
    have HJ : Hid (∀ v w', PcsAt w' v (clipP data 0 a ++ [(a, s)] ++ clipP data (a + (s.size : Int)) 1099511627777) → Calls Tryz.prog 82 #[v] w' fun e w'' => ∃ v', e = .returned v' ∧ OwnP w'' w'.heap.size v' (wData data a s) ∧ Q w' w'') := fun v w' hv => joined_any v _ w' hv hll hjb hjs
    have hsm : Hid (Small (wData data a s)) := by
      have hw := wData_wf (s := s) hvf.wf (show 0 ≤ a by omega) (by omega)
      refine ⟨?_, fun p hp => ?_⟩
      · have h9 := len_foldJ (wList data a s) []
        unfold wData joinP
        simp only [wList, List.length_append, List.length_singleton, List.length_nil] at h9 ⊢
        omega
      · have h9 : sumP (wData data a s) ≤ 100000 := by rw [show wData data a s = joinP (wList data a s) from rfl, (joinP_ok (wList_wt hvf.wf (by omega) (by omega))).2.2]; exact hjs
        exact Nat.le_trans (sumP_mem hp) h9
    generalize wData data a s = D at *
    generalize clipP data 0 a = L1 at *
    generalize clipP data (a + (s.size : Int)) 1099511627777 = L2 at *
    clear E1 E2 E3 E4 E5 HV HD HB hvf h1 h2 h4 hfo hjs hjb hll
    have hx9 := x1.lt
    have hy9 := y1.lt
    have KS : ∀ w', Q w2 w' → Q w2 w' ∧ w'.cell? ⟨w.heap.size, 8, none⟩ = some (.slice AD data.length cD) := fun w' q => ⟨q, q.cell x1.cells.2.2.2.2.2.2.2.2.1⟩
    replace KS := Lib.hid KS
    obtain ⟨k0, k1, k2, k3, k4, k5, k6, k7, k8, k9, k10, k11⟩ := x1.cells
    go_wp2_with fail
    clear k0 k1 k2 k3 k4 k5 k6 k7 k8 k9 k10 k11
    refine (HC1.out _ q1).mono ?_
    rintro e w3 ⟨v3, rfl, o3, qk⟩
    obtain ⟨A3, c3, rfl⟩ := o3.form flatP
    clear HC1 KS
    have s3 := qk.size
    go_wp2_with (at_builtin; refine wpList_append_pcs rfl (.tmp 47) (.tmp 51) rfl w2.heap.size _ L1 rfl (o3.grew (Grew.alloc _ _)) _ [(a, s)] rfl ((own_one flatP 87 w3 w3.heap.size (Nat.le_refl _) (a, s)).row flatP) (by simp; omega) (by rw [World.size_alloc]; omega) ?_)
    intro v4 w4 o4 g4 _
    replace qk : Q w2 w4 := Below.grown (qk.alloc _) g4 (by rw [World.size_alloc]; omega) fun g hg => (o3.lt g hg).1
    have lM : (L1 ++ [(a, s)]).length ≤ 17 := by simp; omega
    clear g4 s3 o3
    generalize L1 ++ [(a, s)] = M at *
    obtain ⟨A4, c4, rfl⟩ := o4.form flatP
    have k8 := (x1.keep qk).cells.2.2.2.2.2.2.2.2.1
    go_wp2_with fail
    clear k8
    refine (HC2.out _ (q1.trans qk)).mono ?_
    rintro e w5 ⟨v5, rfl, o5, q5⟩
    replace o4 := o4.keep q5
    replace qk := qk.trans q5
    obtain ⟨A5, c5, rfl⟩ := o5.form flatP
    clear q5 HC2
    go_wp2_with (at_builtin; refine wpList_append_pcs rfl (.tmp 53) (.tmp 57) rfl w2.heap.size _ M rfl o4 _ L2 rfl (o5.row flatP) (by omega) qk.size ?_)
    intro v6 w6 o6 g6 _
    replace qk : Q w2 w6 := Below.grown qk g6 qk.size fun g hg => (o4.lt g hg).1
    clear g6 o4 o5
    go_wp2_with fail
    refine (HJ.out _ _ (o6.row flatP)).mono ?_
    rintro e w7 ⟨v7, rfl, o7, q7⟩
    replace o7 := o7.mono qk.size
    replace qk := qk.trans q7
    obtain ⟨A7, c7, rfl⟩ := o7.form flatP
    clear q7 HJ o6
    obtain ⟨k0, k1, k2, k3, k4, k5, k6, k7, k8, k9, k10, k11⟩ := (x1.keep qk).cells
    have hlt7 := (x1.keep qk).lt
    go_wp2_with fail
    have z0 := BoxN.new w7 #[.int .i64 2, .int .i64 mode, .int .i64 uid, .int .i64 gid, .int .i64 time, .slice Aa attrs.length ca, .slice Al acl.length cl, .int .i64 size, .slice AD data.length cD, .string target, .int .i64 major, .int .i64 minor]
    have hq0 : Q w7 (w7.alloc (.cells #[.int .i64 2, .int .i64 mode, .int .i64 uid, .int .i64 gid, .int .i64 time, .slice Aa attrs.length ca, .slice Al acl.length cl, .int .i64 size, .slice AD data.length cD, .string target, .int .i64 major, .int .i64 minor] 47)) := (Q.refl w7).alloc _
    generalize w7.alloc (.cells #[.int .i64 2, .int .i64 mode, .int .i64 uid, .int .i64 gid, .int .i64 time, .slice Aa attrs.length ca, .slice Al acl.length cl, .int .i64 size, .slice AD data.length cD, .string target, .int .i64 major, .int .i64 minor] 47) = W0 at *
    have KS : ∀ w', Q w7 w' → Q w7 w' ∧ w'.cell? ⟨w.heap.size, 7, none⟩ = some (.int .i64 size) := fun w' q => ⟨q, q.cell k7⟩
    replace KS := Lib.hid KS
    clear k0 k1 k2 k3 k4 k5 k6 k7 k8 k9 k10 k11 hlt7
    have hqd : Q w7 W0.drew := hq0.drew
    have o1 := z0.set 8 (.slice A7 D.length c7)
    simp only [List.setIfInBounds_toArray, List.set_cons_succ, List.set_cons_zero] at o1
    have hq8 : Q w7 (W0.setCell ⟨w7.heap.size, 8, none⟩ (.slice A7 D.length c7)) := Q.setCell hq0 (Nat.le_refl _) 8 (.slice A7 D.length c7)
    have hq8d := hq8.drew
    have o2 := o1.set 7 (.int .i64 (max size (a + (s.size : Int))))
    simp only [List.setIfInBounds_toArray, List.set_cons_succ, List.set_cons_zero] at o2
    have hq7 : Q w7 ((W0.setCell ⟨w7.heap.size, 8, none⟩ (.slice A7 D.length c7)).setCell ⟨w7.heap.size, 7, none⟩ (.int .i64 (max size (a + (s.size : Int))))).drew := (Q.setCell hq8 (Nat.le_refl _) 7 (.int .i64 (max size (a + (s.size : Int))))).drew
    replace o2 : BoxN ((W0.setCell ⟨w7.heap.size, 8, none⟩ (.slice A7 D.length c7)).setCell ⟨w7.heap.size, 7, none⟩ (.int .i64 (max size (a + (s.size : Int))))).drew w7.heap.size _ := o2.keep (Q.refl _).drew
    have g0 := z0.soft
    have g1 := o1.soft
    obtain ⟨-, -, -, -, -, -, -, h7, i8, -, -, -⟩ := z0.cells
    obtain ⟨-, -, -, -, -, -, -, i7, -, -, -, -⟩ := o1.cells
    clear o1 z0
    go_region_held3 (fun w' => Q w7 w' ∧ w'.cell? ⟨w.heap.size, 7, none⟩ = some (.int .i64 size)) (first | assumption | exact KS.out _ (by assumption) | exact KS.out _ (Q.drew (And.left (by assumption)))) (first | fail)
    all_goals
      clear KS hq0 hqd hq8 hq8d g0 g1 h7 i8 i7
      have q2 : Q w ((W0.setCell ⟨w7.heap.size, 8, none⟩ (.slice A7 D.length c7)).setCell ⟨w7.heap.size, 7, none⟩ (.int .i64 (max size (a + (s.size : Int))))).drew := q1.trans (qk.trans hq7)
      have x2 := x1.keep (qk.trans hq7)
      have y2 := y1.keep (qk.trans hq7)
      have of2 : OwnP ((W0.setCell ⟨w7.heap.size, 8, none⟩ (.slice A7 D.length c7)).setCell ⟨w7.heap.size, 7, none⟩ (.int .i64 (max size (a + (s.size : Int))))).drew w2.heap.size _ D := o7.keep hq7
      clear x1 y1 q1 o7 hq7
      generalize ((W0.setCell ⟨w7.heap.size, 8, none⟩ (.slice A7 D.length c7)).setCell ⟨w7.heap.size, 7, none⟩ (.int .i64 (max size (a + (s.size : Int))))).drew = W2 at *
      obtain ⟨k0, k1, k2, k3, k4, k5, k6, k7, k8, k9, k10, k11⟩ := o2.cells
      have hltz := o2.lt
      go_wp2_with fail
      clear k0 k1 k2 k3 k4 k5 k6 k7 k8 k9 k10 k11 hltz
      refine (rBytes_any _ ⟨2, ⟨mode, uid, gid, time, attrs, acl⟩, max size (a + (s.size : Int)), D, target, major, minor⟩ W2 ⟨_, _, _, rfl, (HAL.out _ q2).1, (HAL.out _ q2).2, of2.row flatP⟩ hsm.out).mono ?_
      rintro e W3 ⟨rfl, g3⟩
      replace x2 := x2.keep g3.q
      replace y2 := y2.keep g3.q
      replace q2 := q2.trans g3.q
      replace of2 := of2.keep g3.q
      replace o2 := o2.keep g3.q
      clear g3
      by_cases h5 : 4000 < sumP D
      · have t5 : decide ((4000 : Int) < (sumP D : Int)) = true := decide_eq_true (by omega)
        have EE : Hid (N = _) := E4'.out (.inr h5)
        clear E4' E5' HAL of2 h5
        have g2 := y2.soft
        obtain ⟨j0, j1, j2, j3, j4, j5, j6, j7, j8, j9, j10, j11⟩ := x2.cells
        obtain ⟨m0, m1, m2, m3, m4, m5, m6, m7, m8, m9, m10, m11⟩ := y2.cells
        have hlt := x2.lt
        go_wp2_with fail
        clear g2 hlt  j0 j1 j2 j3 j4 j5 j6 j7 j8 j9 j10 j11 m0 m1 m2 m3 m4 m5 m6 m7 m8 m9 m10 m11
        have y5 := ((((((((((((y2.set 0 (.int .i64 2)).set 1 (.int .i64 mode)).set 2 (.int .i64 uid)).set 3 (.int .i64 gid)).set 4 (.int .i64 time)).set 5 (.slice Aa attrs.length ca)).set 6 (.slice Al acl.length cl)).set 7 (.int .i64 size)).set 8 (.slice AD data.length cD)).set 9 (.string target)).set 10 (.int .i64 major)).set 11 (.int .i64 minor))
        simp only [List.setIfInBounds_toArray, List.set_cons_succ, List.set_cons_zero] at y5
        have q5 := (Q.setCell (Q.setCell (Q.setCell (Q.setCell (Q.setCell (Q.setCell (Q.setCell (Q.setCell (Q.setCell (Q.setCell (Q.setCell (Q.setCell q2 (Nat.le_succ _) 0 (.int .i64 2)) (Nat.le_succ _) 1 (.int .i64 mode)) (Nat.le_succ _) 2 (.int .i64 uid)) (Nat.le_succ _) 3 (.int .i64 gid)) (Nat.le_succ _) 4 (.int .i64 time)) (Nat.le_succ _) 5 (.slice Aa attrs.length ca)) (Nat.le_succ _) 6 (.slice Al acl.length cl)) (Nat.le_succ _) 7 (.int .i64 size)) (Nat.le_succ _) 8 (.slice AD data.length cD)) (Nat.le_succ _) 9 (.string target)) (Nat.le_succ _) 10 (.int .i64 major)) (Nat.le_succ _) 11 (.int .i64 minor))
        generalize ((((((((((((W3.setCell ⟨(w.heap.size + 1), 0, none⟩ (.int .i64 2)).setCell ⟨(w.heap.size + 1), 1, none⟩ (.int .i64 mode)).setCell ⟨(w.heap.size + 1), 2, none⟩ (.int .i64 uid)).setCell ⟨(w.heap.size + 1), 3, none⟩ (.int .i64 gid)).setCell ⟨(w.heap.size + 1), 4, none⟩ (.int .i64 time)).setCell ⟨(w.heap.size + 1), 5, none⟩ (.slice Aa attrs.length ca)).setCell ⟨(w.heap.size + 1), 6, none⟩ (.slice Al acl.length cl)).setCell ⟨(w.heap.size + 1), 7, none⟩ (.int .i64 size)).setCell ⟨(w.heap.size + 1), 8, none⟩ (.slice AD data.length cD)).setCell ⟨(w.heap.size + 1), 9, none⟩ (.string target)).setCell ⟨(w.heap.size + 1), 10, none⟩ (.int .i64 major)).setCell ⟨(w.heap.size + 1), 11, none⟩ (.int .i64 minor)) = w9 at *
        obtain ⟨k0, k1, k2, k3, k4, k5, k6, k7, k8, k9, k10, k11⟩ := y5.cells
        refine bodyPost_ret (v := .tuple #[.agg #[.int .i64 2, .int .i64 mode, .int .i64 uid, .int .i64 gid, .int .i64 time, .slice Aa attrs.length ca, .slice Al acl.length cl, .int .i64 size, .slice AD data.length cD, .string target, .int .i64 major, .int .i64 minor], .int .i64 13]) (by simp [results, Tryz.results59, go_sem, k0, k1, k2, k3, k4, k5, k6, k7, k8, k9, k10, k11]) rfl ?_
        rw [EE.out]
        exact ⟨_, rfl, HNO.out _ q5, q5⟩
      have t5 : decide ((4000 : Int) < (sumP D : Int)) = false := decide_eq_false (by omega)
      have z8 := o2.cells.2.2.2.2.2.2.2.2.1
      by_cases h6 : 16 < D.length
      · have t6 : decide ((16 : Int) < (D.length : Int)) = true := decide_eq_true (by omega)
        have EE : Hid (N = _) := E4'.out (.inl h6)
        clear E4' E5' HAL of2 h5 h6
        have g2 := y2.soft
        obtain ⟨j0, j1, j2, j3, j4, j5, j6, j7, j8, j9, j10, j11⟩ := x2.cells
        obtain ⟨m0, m1, m2, m3, m4, m5, m6, m7, m8, m9, m10, m11⟩ := y2.cells
        have hlt := x2.lt
        go_wp2_with fail
        clear g2 hlt  j0 j1 j2 j3 j4 j5 j6 j7 j8 j9 j10 j11 m0 m1 m2 m3 m4 m5 m6 m7 m8 m9 m10 m11
        have y5 := ((((((((((((y2.set 0 (.int .i64 2)).set 1 (.int .i64 mode)).set 2 (.int .i64 uid)).set 3 (.int .i64 gid)).set 4 (.int .i64 time)).set 5 (.slice Aa attrs.length ca)).set 6 (.slice Al acl.length cl)).set 7 (.int .i64 size)).set 8 (.slice AD data.length cD)).set 9 (.string target)).set 10 (.int .i64 major)).set 11 (.int .i64 minor))
        simp only [List.setIfInBounds_toArray, List.set_cons_succ, List.set_cons_zero] at y5
        have q5 := (Q.setCell (Q.setCell (Q.setCell (Q.setCell (Q.setCell (Q.setCell (Q.setCell (Q.setCell (Q.setCell (Q.setCell (Q.setCell (Q.setCell q2 (Nat.le_succ _) 0 (.int .i64 2)) (Nat.le_succ _) 1 (.int .i64 mode)) (Nat.le_succ _) 2 (.int .i64 uid)) (Nat.le_succ _) 3 (.int .i64 gid)) (Nat.le_succ _) 4 (.int .i64 time)) (Nat.le_succ _) 5 (.slice Aa attrs.length ca)) (Nat.le_succ _) 6 (.slice Al acl.length cl)) (Nat.le_succ _) 7 (.int .i64 size)) (Nat.le_succ _) 8 (.slice AD data.length cD)) (Nat.le_succ _) 9 (.string target)) (Nat.le_succ _) 10 (.int .i64 major)) (Nat.le_succ _) 11 (.int .i64 minor))
        generalize ((((((((((((W3.setCell ⟨(w.heap.size + 1), 0, none⟩ (.int .i64 2)).setCell ⟨(w.heap.size + 1), 1, none⟩ (.int .i64 mode)).setCell ⟨(w.heap.size + 1), 2, none⟩ (.int .i64 uid)).setCell ⟨(w.heap.size + 1), 3, none⟩ (.int .i64 gid)).setCell ⟨(w.heap.size + 1), 4, none⟩ (.int .i64 time)).setCell ⟨(w.heap.size + 1), 5, none⟩ (.slice Aa attrs.length ca)).setCell ⟨(w.heap.size + 1), 6, none⟩ (.slice Al acl.length cl)).setCell ⟨(w.heap.size + 1), 7, none⟩ (.int .i64 size)).setCell ⟨(w.heap.size + 1), 8, none⟩ (.slice AD data.length cD)).setCell ⟨(w.heap.size + 1), 9, none⟩ (.string target)).setCell ⟨(w.heap.size + 1), 10, none⟩ (.int .i64 major)).setCell ⟨(w.heap.size + 1), 11, none⟩ (.int .i64 minor)) = w9 at *
        obtain ⟨k0, k1, k2, k3, k4, k5, k6, k7, k8, k9, k10, k11⟩ := y5.cells
        refine bodyPost_ret (v := .tuple #[.agg #[.int .i64 2, .int .i64 mode, .int .i64 uid, .int .i64 gid, .int .i64 time, .slice Aa attrs.length ca, .slice Al acl.length cl, .int .i64 size, .slice AD data.length cD, .string target, .int .i64 major, .int .i64 minor], .int .i64 13]) (by simp [results, Tryz.results59, go_sem, k0, k1, k2, k3, k4, k5, k6, k7, k8, k9, k10, k11]) rfl ?_
        rw [EE.out]
        exact ⟨_, rfl, HNO.out _ q5, q5⟩
      have t6 : decide ((16 : Int) < (D.length : Int)) = false := decide_eq_false (by omega)
      have EE : Hid (N = _) := E5'.out (by omega)
      clear E4' E5' HN h5 h6
      have g2 := y2.soft
      obtain ⟨j0, j1, j2, j3, j4, j5, j6, j7, j8, j9, j10, j11⟩ := o2.cells
      obtain ⟨m0, m1, m2, m3, m4, m5, m6, m7, m8, m9, m10, m11⟩ := y2.cells
      have hlt := o2.lt
      go_wp2_with fail
      clear g2 hlt  j0 j1 j2 j3 j4 j5 j6 j7 j8 j9 j10 j11 m0 m1 m2 m3 m4 m5 m6 m7 m8 m9 m10 m11
      have y5 := ((((((((((((y2.set 0 (.int .i64 2)).set 1 (.int .i64 mode)).set 2 (.int .i64 uid)).set 3 (.int .i64 gid)).set 4 (.int .i64 time)).set 5 (.slice Aa attrs.length ca)).set 6 (.slice Al acl.length cl)).set 7 (.int .i64 (max size (a + (s.size : Int))))).set 8 (.slice A7 D.length c7)).set 9 (.string target)).set 10 (.int .i64 major)).set 11 (.int .i64 minor))
      simp only [List.setIfInBounds_toArray, List.set_cons_succ, List.set_cons_zero] at y5
      have q5 := (Q.setCell (Q.setCell (Q.setCell (Q.setCell (Q.setCell (Q.setCell (Q.setCell (Q.setCell (Q.setCell (Q.setCell (Q.setCell (Q.setCell q2 (Nat.le_succ _) 0 (.int .i64 2)) (Nat.le_succ _) 1 (.int .i64 mode)) (Nat.le_succ _) 2 (.int .i64 uid)) (Nat.le_succ _) 3 (.int .i64 gid)) (Nat.le_succ _) 4 (.int .i64 time)) (Nat.le_succ _) 5 (.slice Aa attrs.length ca)) (Nat.le_succ _) 6 (.slice Al acl.length cl)) (Nat.le_succ _) 7 (.int .i64 (max size (a + (s.size : Int))))) (Nat.le_succ _) 8 (.slice A7 D.length c7)) (Nat.le_succ _) 9 (.string target)) (Nat.le_succ _) 10 (.int .i64 major)) (Nat.le_succ _) 11 (.int .i64 minor))
      have f5 := (((((((((((((Far.refl (w.heap.size + 1) W3).chain 0 (.int .i64 2)).chain 1 (.int .i64 mode)).chain 2 (.int .i64 uid)).chain 3 (.int .i64 gid)).chain 4 (.int .i64 time)).chain 5 (.slice Aa attrs.length ca)).chain 6 (.slice Al acl.length cl)).chain 7 (.int .i64 (max size (a + (s.size : Int))))).chain 8 (.slice A7 D.length c7)).chain 9 (.string target)).chain 10 (.int .i64 major)).chain 11 (.int .i64 minor))
      have rd := OwnR.mono (own_far of2 f5 hy9) (show BB ≤ _ by omega)
      clear f5
      generalize ((((((((((((W3.setCell ⟨(w.heap.size + 1), 0, none⟩ (.int .i64 2)).setCell ⟨(w.heap.size + 1), 1, none⟩ (.int .i64 mode)).setCell ⟨(w.heap.size + 1), 2, none⟩ (.int .i64 uid)).setCell ⟨(w.heap.size + 1), 3, none⟩ (.int .i64 gid)).setCell ⟨(w.heap.size + 1), 4, none⟩ (.int .i64 time)).setCell ⟨(w.heap.size + 1), 5, none⟩ (.slice Aa attrs.length ca)).setCell ⟨(w.heap.size + 1), 6, none⟩ (.slice Al acl.length cl)).setCell ⟨(w.heap.size + 1), 7, none⟩ (.int .i64 (max size (a + (s.size : Int))))).setCell ⟨(w.heap.size + 1), 8, none⟩ (.slice A7 D.length c7)).setCell ⟨(w.heap.size + 1), 9, none⟩ (.string target)).setCell ⟨(w.heap.size + 1), 10, none⟩ (.int .i64 major)).setCell ⟨(w.heap.size + 1), 11, none⟩ (.int .i64 minor)) = w9 at *
      obtain ⟨k0, k1, k2, k3, k4, k5, k6, k7, k8, k9, k10, k11⟩ := y5.cells
      refine bodyPost_ret (v := .tuple #[.agg #[.int .i64 2, .int .i64 mode, .int .i64 uid, .int .i64 gid, .int .i64 time, .slice Aa attrs.length ca, .slice Al acl.length cl, .int .i64 (max size (a + (s.size : Int))), .slice A7 D.length c7, .string target, .int .i64 major, .int .i64 minor], .int .i64 0]) (by simp [results, Tryz.results59, go_sem, k0, k1, k2, k3, k4, k5, k6, k7, k8, k9, k10, k11]) rfl ?_
      rw [EE.out]
      exact ⟨_, rfl, ⟨_, _, _, rfl, (HALO.out _ q5).1, (HALO.out _ q5).2, rd⟩, q5⟩

set_option maxRecDepth 100000 in
set_option maxHeartbeats 16000000 in
theorem rCut_own (v : Value) (n : Nd) (a : Int) (w : World) {BB : Nat} (ho : OwnN w BB v n) (hBB : BB ≤ w.heap.size) (hf : Fit n) (ht : n.target.size ≤ 1000000) :
    Calls Tryz.prog 60 #[v, .int .i64 a] w fun e w' => ∃ v', e = .returned (.tuple #[v', .int .i64 (cutNd n a).2]) ∧ OwnN w' BB v' (cutNd n a).1 ∧ Q w w' := by
  have h := ho.at_
  have HF : Hid (∀ w', Q w w' → Calls Tryz.prog 49 #[v] w' fun e w'' => e = .returned (.bool (mayN n)) ∧ Q w' w'') := fun w' q => rMayN_any v n w' (h.keep q) hf.da ht
  have HV : Hid (fileB n = true → VF n.size n.data) := fun k => (fileB_vf k).2
  have HB : Hid (fileB n = ((n.kind == 2) && mayN n)) := rfl
  have E1 : Hid (¬ (fileB n = true ∧ offB a = true) → cutNd n a = (n, 1)) := fun k => if_neg k
  have E5 : Hid (fileB n = true ∧ offB a = true → cutNd n a = ({ n with data := clipP n.data 0 a, size := a }, 0)) := fun k => if_pos k
  clear h
  obtain ⟨va, vl, vd, rfl, oa, ol, od⟩ := ho
  have ha : AtsAt w va n.mt.attrs := OwnR.row flatT oa
  have hl : AcesAt w vl n.mt.acl := (OwnR.row flat3 ol).aces
  have hd : PcsAt w vd n.data := OwnR.row flatP od
  obtain ⟨AD, cD, rfl⟩ := hd.form
  obtain ⟨Aa, ca, rfl⟩ := ha.form
  obtain ⟨Al, cl, rfl⟩ := hl.form
  have HN : Hid (∀ w', Q w w' → NodeAt w' (nodeV n (.slice Aa n.mt.attrs.length ca) (.slice Al n.mt.acl.length cl) (.slice AD n.data.length cD)) n) := fun w' q => ⟨_, _, _, rfl, ha.keep q, hl.keep q, hd.keep q⟩
  have HNO : Hid (∀ w', Q w w' → OwnN w' BB (nodeV n (.slice Aa n.mt.attrs.length ca) (.slice Al n.mt.acl.length cl) (.slice AD n.data.length cD)) n) := fun w' q => ⟨_, _, _, rfl, OwnR.keep oa q, OwnR.keep ol q, OwnR.keep od q⟩
  have HALO : Hid (∀ w', Q w w' → OwnT w' BB (.slice Aa n.mt.attrs.length ca) n.mt.attrs ∧ OwnA w' BB (.slice Al n.mt.acl.length cl) n.mt.acl) := fun w' q => ⟨OwnR.keep oa q, OwnR.keep ol q⟩
  have HD : Hid (∀ w', Q w w' → PcsAt w' (.slice AD n.data.length cD) n.data) := fun w' q => hd.keep q
  have HAL : Hid (∀ w', Q w w' → AtsAt w' (.slice Aa n.mt.attrs.length ca) n.mt.attrs ∧ AcesAt w' (.slice Al n.mt.acl.length cl) n.mt.acl) := fun w' q => ⟨ha.keep q, hl.keep q⟩
  have hdl := hf.da.1
  obtain ⟨kind, ⟨mode, uid, gid, time, attrs, acl⟩, size, data, target, major, minor⟩ := n
  unfold nodeV at HF HN HNO ⊢
  simp only at HF HV HB HN HNO HALO HD HAL hdl E1 E5 ⊢
  clear ha hl hd hf ht oa ol od
  generalize cutNd ⟨kind, ⟨mode, uid, gid, time, attrs, acl⟩, size, data, target, major, minor⟩ a = N at *
  generalize fileB ⟨kind, ⟨mode, uid, gid, time, attrs, acl⟩, size, data, target, major, minor⟩ = bf at *
  generalize mayN ⟨kind, ⟨mode, uid, gid, time, attrs, acl⟩, size, data, target, major, minor⟩ = bm at *
  go_enter Tryz.func60, Tryz.ntmps60
  go_wp2_with fail
  have x1 : BoxN ((w.alloc (.cells #[.int .i64 kind, .int .i64 mode, .int .i64 uid, .int .i64 gid, .int .i64 time, .slice Aa attrs.length ca, .slice Al acl.length cl, .int .i64 size, .slice AD data.length cD, .string target, .int .i64 major, .int .i64 minor] 47)).alloc (.cells #[.int .i64 0, .int .i64 0, .int .i64 0, .int .i64 0, .int .i64 0, .slice none 0 0, .slice none 0 0, .int .i64 0, .slice none 0 0, .string ⟨#[]⟩, .int .i64 0, .int .i64 0] 47)) w.heap.size #[.int .i64 kind, .int .i64 mode, .int .i64 uid, .int .i64 gid, .int .i64 time, .slice Aa attrs.length ca, .slice Al acl.length cl, .int .i64 size, .slice AD data.length cD, .string target, .int .i64 major, .int .i64 minor] := (BoxN.new w _).keep ((Q.refl _).alloc _)
  have y1 := BoxN.new (w.alloc (.cells #[.int .i64 kind, .int .i64 mode, .int .i64 uid, .int .i64 gid, .int .i64 time, .slice Aa attrs.length ca, .slice Al acl.length cl, .int .i64 size, .slice AD data.length cD, .string target, .int .i64 major, .int .i64 minor] 47)) #[.int .i64 0, .int .i64 0, .int .i64 0, .int .i64 0, .int .i64 0, .slice none 0 0, .slice none 0 0, .int .i64 0, .slice none 0 0, .string ⟨#[]⟩, .int .i64 0, .int .i64 0]
  rw [World.size_alloc] at y1
  have q1 : Q w ((w.alloc (.cells #[.int .i64 kind, .int .i64 mode, .int .i64 uid, .int .i64 gid, .int .i64 time, .slice Aa attrs.length ca, .slice Al acl.length cl, .int .i64 size, .slice AD data.length cD, .string target, .int .i64 major, .int .i64 minor] 47)).alloc (.cells #[.int .i64 0, .int .i64 0, .int .i64 0, .int .i64 0, .int .i64 0, .slice none 0 0, .slice none 0 0, .int .i64 0, .slice none 0 0, .string ⟨#[]⟩, .int .i64 0, .int .i64 0] 47)) := ((Q.refl w).alloc _).alloc _
  generalize (w.alloc (.cells #[.int .i64 kind, .int .i64 mode, .int .i64 uid, .int .i64 gid, .int .i64 time, .slice Aa attrs.length ca, .slice Al acl.length cl, .int .i64 size, .slice AD data.length cD, .string target, .int .i64 major, .int .i64 minor] 47)).alloc (.cells #[.int .i64 0, .int .i64 0, .int .i64 0, .int .i64 0, .int .i64 0, .slice none 0 0, .slice none 0 0, .int .i64 0, .slice none 0 0, .string ⟨#[]⟩, .int .i64 0, .int .i64 0] 47) = w1 at *
  refine (HF.out _ q1).mono ?_
  rintro e w2 ⟨rfl, q2⟩
  replace x1 := x1.keep q2
  replace y1 := y1.keep q2
  replace q1 := q1.trans q2
  clear q2 HF
  cases bm with
  | false =>
    have EE : Hid (N = _) := E1.out (fun k => by rw [HB.out] at k; simp at k)
    clear E1 E5 HV HD HAL HB
    have g2 := y1.soft
    obtain ⟨j0, j1, j2, j3, j4, j5, j6, j7, j8, j9, j10, j11⟩ := x1.cells
    obtain ⟨m0, m1, m2, m3, m4, m5, m6, m7, m8, m9, m10, m11⟩ := y1.cells
    have hlt := x1.lt
    go_wp2_with fail
    clear g2 hlt  j0 j1 j2 j3 j4 j5 j6 j7 j8 j9 j10 j11 m0 m1 m2 m3 m4 m5 m6 m7 m8 m9 m10 m11
    have y5 := ((((((((((((y1.set 0 (.int .i64 kind)).set 1 (.int .i64 mode)).set 2 (.int .i64 uid)).set 3 (.int .i64 gid)).set 4 (.int .i64 time)).set 5 (.slice Aa attrs.length ca)).set 6 (.slice Al acl.length cl)).set 7 (.int .i64 size)).set 8 (.slice AD data.length cD)).set 9 (.string target)).set 10 (.int .i64 major)).set 11 (.int .i64 minor))
    simp only [List.setIfInBounds_toArray, List.set_cons_succ, List.set_cons_zero] at y5
    have q5 := (Q.setCell (Q.setCell (Q.setCell (Q.setCell (Q.setCell (Q.setCell (Q.setCell (Q.setCell (Q.setCell (Q.setCell (Q.setCell (Q.setCell q1 (Nat.le_succ _) 0 (.int .i64 kind)) (Nat.le_succ _) 1 (.int .i64 mode)) (Nat.le_succ _) 2 (.int .i64 uid)) (Nat.le_succ _) 3 (.int .i64 gid)) (Nat.le_succ _) 4 (.int .i64 time)) (Nat.le_succ _) 5 (.slice Aa attrs.length ca)) (Nat.le_succ _) 6 (.slice Al acl.length cl)) (Nat.le_succ _) 7 (.int .i64 size)) (Nat.le_succ _) 8 (.slice AD data.length cD)) (Nat.le_succ _) 9 (.string target)) (Nat.le_succ _) 10 (.int .i64 major)) (Nat.le_succ _) 11 (.int .i64 minor))
    generalize ((((((((((((w2.setCell ⟨(w.heap.size + 1), 0, none⟩ (.int .i64 kind)).setCell ⟨(w.heap.size + 1), 1, none⟩ (.int .i64 mode)).setCell ⟨(w.heap.size + 1), 2, none⟩ (.int .i64 uid)).setCell ⟨(w.heap.size + 1), 3, none⟩ (.int .i64 gid)).setCell ⟨(w.heap.size + 1), 4, none⟩ (.int .i64 time)).setCell ⟨(w.heap.size + 1), 5, none⟩ (.slice Aa attrs.length ca)).setCell ⟨(w.heap.size + 1), 6, none⟩ (.slice Al acl.length cl)).setCell ⟨(w.heap.size + 1), 7, none⟩ (.int .i64 size)).setCell ⟨(w.heap.size + 1), 8, none⟩ (.slice AD data.length cD)).setCell ⟨(w.heap.size + 1), 9, none⟩ (.string target)).setCell ⟨(w.heap.size + 1), 10, none⟩ (.int .i64 major)).setCell ⟨(w.heap.size + 1), 11, none⟩ (.int .i64 minor)) = w9 at *
    obtain ⟨k0, k1, k2, k3, k4, k5, k6, k7, k8, k9, k10, k11⟩ := y5.cells
    refine bodyPost_ret (v := .tuple #[.agg #[.int .i64 kind, .int .i64 mode, .int .i64 uid, .int .i64 gid, .int .i64 time, .slice Aa attrs.length ca, .slice Al acl.length cl, .int .i64 size, .slice AD data.length cD, .string target, .int .i64 major, .int .i64 minor], .int .i64 1]) (by simp [results, Tryz.results60, go_sem, k0, k1, k2, k3, k4, k5, k6, k7, k8, k9, k10, k11]) rfl ?_
    rw [EE.out]
    exact ⟨_, rfl, HNO.out _ q5, q5⟩
  | true =>
    by_cases hkd : kind = 2
    rotate_left
    · have t0 : (kind != (2 : Int)) = true := bne_iff_ne.2 hkd
      have EE : Hid (N = _) := E1.out (fun k => by rw [HB.out] at k; simp at k; exact hkd k.1)
      clear E1 E5 HV HD HAL HB
      clear hkd
      have g2 := y1.soft
      obtain ⟨j0, j1, j2, j3, j4, j5, j6, j7, j8, j9, j10, j11⟩ := x1.cells
      obtain ⟨m0, m1, m2, m3, m4, m5, m6, m7, m8, m9, m10, m11⟩ := y1.cells
      have hlt := x1.lt
      go_wp2_with fail
      clear g2 hlt  j0 j1 j2 j3 j4 j5 j6 j7 j8 j9 j10 j11 m0 m1 m2 m3 m4 m5 m6 m7 m8 m9 m10 m11
      have y5 := ((((((((((((y1.set 0 (.int .i64 kind)).set 1 (.int .i64 mode)).set 2 (.int .i64 uid)).set 3 (.int .i64 gid)).set 4 (.int .i64 time)).set 5 (.slice Aa attrs.length ca)).set 6 (.slice Al acl.length cl)).set 7 (.int .i64 size)).set 8 (.slice AD data.length cD)).set 9 (.string target)).set 10 (.int .i64 major)).set 11 (.int .i64 minor))
      simp only [List.setIfInBounds_toArray, List.set_cons_succ, List.set_cons_zero] at y5
      have q5 := (Q.setCell (Q.setCell (Q.setCell (Q.setCell (Q.setCell (Q.setCell (Q.setCell (Q.setCell (Q.setCell (Q.setCell (Q.setCell (Q.setCell q1 (Nat.le_succ _) 0 (.int .i64 kind)) (Nat.le_succ _) 1 (.int .i64 mode)) (Nat.le_succ _) 2 (.int .i64 uid)) (Nat.le_succ _) 3 (.int .i64 gid)) (Nat.le_succ _) 4 (.int .i64 time)) (Nat.le_succ _) 5 (.slice Aa attrs.length ca)) (Nat.le_succ _) 6 (.slice Al acl.length cl)) (Nat.le_succ _) 7 (.int .i64 size)) (Nat.le_succ _) 8 (.slice AD data.length cD)) (Nat.le_succ _) 9 (.string target)) (Nat.le_succ _) 10 (.int .i64 major)) (Nat.le_succ _) 11 (.int .i64 minor))
      generalize ((((((((((((w2.setCell ⟨(w.heap.size + 1), 0, none⟩ (.int .i64 kind)).setCell ⟨(w.heap.size + 1), 1, none⟩ (.int .i64 mode)).setCell ⟨(w.heap.size + 1), 2, none⟩ (.int .i64 uid)).setCell ⟨(w.heap.size + 1), 3, none⟩ (.int .i64 gid)).setCell ⟨(w.heap.size + 1), 4, none⟩ (.int .i64 time)).setCell ⟨(w.heap.size + 1), 5, none⟩ (.slice Aa attrs.length ca)).setCell ⟨(w.heap.size + 1), 6, none⟩ (.slice Al acl.length cl)).setCell ⟨(w.heap.size + 1), 7, none⟩ (.int .i64 size)).setCell ⟨(w.heap.size + 1), 8, none⟩ (.slice AD data.length cD)).setCell ⟨(w.heap.size + 1), 9, none⟩ (.string target)).setCell ⟨(w.heap.size + 1), 10, none⟩ (.int .i64 major)).setCell ⟨(w.heap.size + 1), 11, none⟩ (.int .i64 minor)) = w9 at *
      obtain ⟨k0, k1, k2, k3, k4, k5, k6, k7, k8, k9, k10, k11⟩ := y5.cells
      refine bodyPost_ret (v := .tuple #[.agg #[.int .i64 kind, .int .i64 mode, .int .i64 uid, .int .i64 gid, .int .i64 time, .slice Aa attrs.length ca, .slice Al acl.length cl, .int .i64 size, .slice AD data.length cD, .string target, .int .i64 major, .int .i64 minor], .int .i64 1]) (by simp [results, Tryz.results60, go_sem, k0, k1, k2, k3, k4, k5, k6, k7, k8, k9, k10, k11]) rfl ?_
      rw [EE.out]
      exact ⟨_, rfl, HNO.out _ q5, q5⟩
    subst hkd
    have hbf : bf = true := HB.out
    subst hbf
    by_cases h1 : a < 0
    · have t1 : decide (a < 0) = true := decide_eq_true h1
      have EE : Hid (N = _) := E1.out (fun k => by have := of_decide_eq_true k.2; omega)
      clear E1 E5 HV HD HAL HB
      clear h1
      have g2 := y1.soft
      obtain ⟨j0, j1, j2, j3, j4, j5, j6, j7, j8, j9, j10, j11⟩ := x1.cells
      obtain ⟨m0, m1, m2, m3, m4, m5, m6, m7, m8, m9, m10, m11⟩ := y1.cells
      have hlt := x1.lt
      go_wp2_with fail
      clear g2 hlt  j0 j1 j2 j3 j4 j5 j6 j7 j8 j9 j10 j11 m0 m1 m2 m3 m4 m5 m6 m7 m8 m9 m10 m11
      have y5 := ((((((((((((y1.set 0 (.int .i64 2)).set 1 (.int .i64 mode)).set 2 (.int .i64 uid)).set 3 (.int .i64 gid)).set 4 (.int .i64 time)).set 5 (.slice Aa attrs.length ca)).set 6 (.slice Al acl.length cl)).set 7 (.int .i64 size)).set 8 (.slice AD data.length cD)).set 9 (.string target)).set 10 (.int .i64 major)).set 11 (.int .i64 minor))
      simp only [List.setIfInBounds_toArray, List.set_cons_succ, List.set_cons_zero] at y5
      have q5 := (Q.setCell (Q.setCell (Q.setCell (Q.setCell (Q.setCell (Q.setCell (Q.setCell (Q.setCell (Q.setCell (Q.setCell (Q.setCell (Q.setCell q1 (Nat.le_succ _) 0 (.int .i64 2)) (Nat.le_succ _) 1 (.int .i64 mode)) (Nat.le_succ _) 2 (.int .i64 uid)) (Nat.le_succ _) 3 (.int .i64 gid)) (Nat.le_succ _) 4 (.int .i64 time)) (Nat.le_succ _) 5 (.slice Aa attrs.length ca)) (Nat.le_succ _) 6 (.slice Al acl.length cl)) (Nat.le_succ _) 7 (.int .i64 size)) (Nat.le_succ _) 8 (.slice AD data.length cD)) (Nat.le_succ _) 9 (.string target)) (Nat.le_succ _) 10 (.int .i64 major)) (Nat.le_succ _) 11 (.int .i64 minor))
      generalize ((((((((((((w2.setCell ⟨(w.heap.size + 1), 0, none⟩ (.int .i64 2)).setCell ⟨(w.heap.size + 1), 1, none⟩ (.int .i64 mode)).setCell ⟨(w.heap.size + 1), 2, none⟩ (.int .i64 uid)).setCell ⟨(w.heap.size + 1), 3, none⟩ (.int .i64 gid)).setCell ⟨(w.heap.size + 1), 4, none⟩ (.int .i64 time)).setCell ⟨(w.heap.size + 1), 5, none⟩ (.slice Aa attrs.length ca)).setCell ⟨(w.heap.size + 1), 6, none⟩ (.slice Al acl.length cl)).setCell ⟨(w.heap.size + 1), 7, none⟩ (.int .i64 size)).setCell ⟨(w.heap.size + 1), 8, none⟩ (.slice AD data.length cD)).setCell ⟨(w.heap.size + 1), 9, none⟩ (.string target)).setCell ⟨(w.heap.size + 1), 10, none⟩ (.int .i64 major)).setCell ⟨(w.heap.size + 1), 11, none⟩ (.int .i64 minor)) = w9 at *
      obtain ⟨k0, k1, k2, k3, k4, k5, k6, k7, k8, k9, k10, k11⟩ := y5.cells
      refine bodyPost_ret (v := .tuple #[.agg #[.int .i64 2, .int .i64 mode, .int .i64 uid, .int .i64 gid, .int .i64 time, .slice Aa attrs.length ca, .slice Al acl.length cl, .int .i64 size, .slice AD data.length cD, .string target, .int .i64 major, .int .i64 minor], .int .i64 1]) (by simp [results, Tryz.results60, go_sem, k0, k1, k2, k3, k4, k5, k6, k7, k8, k9, k10, k11]) rfl ?_
      rw [EE.out]
      exact ⟨_, rfl, HNO.out _ q5, q5⟩
    have t1 : decide (a < 0) = false := decide_eq_false h1
    by_cases h2 : 1099511627776 < a
    · have t2 : decide (1099511627776 < a) = true := decide_eq_true h2
      have EE : Hid (N = _) := E1.out (fun k => by have := of_decide_eq_true k.2; omega)
      clear E1 E5 HV HD HAL HB
      clear h1 h2
      have g2 := y1.soft
      obtain ⟨j0, j1, j2, j3, j4, j5, j6, j7, j8, j9, j10, j11⟩ := x1.cells
      obtain ⟨m0, m1, m2, m3, m4, m5, m6, m7, m8, m9, m10, m11⟩ := y1.cells
      have hlt := x1.lt
      go_wp2_with fail
      clear g2 hlt  j0 j1 j2 j3 j4 j5 j6 j7 j8 j9 j10 j11 m0 m1 m2 m3 m4 m5 m6 m7 m8 m9 m10 m11
      have y5 := ((((((((((((y1.set 0 (.int .i64 2)).set 1 (.int .i64 mode)).set 2 (.int .i64 uid)).set 3 (.int .i64 gid)).set 4 (.int .i64 time)).set 5 (.slice Aa attrs.length ca)).set 6 (.slice Al acl.length cl)).set 7 (.int .i64 size)).set 8 (.slice AD data.length cD)).set 9 (.string target)).set 10 (.int .i64 major)).set 11 (.int .i64 minor))
      simp only [List.setIfInBounds_toArray, List.set_cons_succ, List.set_cons_zero] at y5
      have q5 := (Q.setCell (Q.setCell (Q.setCell (Q.setCell (Q.setCell (Q.setCell (Q.setCell (Q.setCell (Q.setCell (Q.setCell (Q.setCell (Q.setCell q1 (Nat.le_succ _) 0 (.int .i64 2)) (Nat.le_succ _) 1 (.int .i64 mode)) (Nat.le_succ _) 2 (.int .i64 uid)) (Nat.le_succ _) 3 (.int .i64 gid)) (Nat.le_succ _) 4 (.int .i64 time)) (Nat.le_succ _) 5 (.slice Aa attrs.length ca)) (Nat.le_succ _) 6 (.slice Al acl.length cl)) (Nat.le_succ _) 7 (.int .i64 size)) (Nat.le_succ _) 8 (.slice AD data.length cD)) (Nat.le_succ _) 9 (.string target)) (Nat.le_succ _) 10 (.int .i64 major)) (Nat.le_succ _) 11 (.int .i64 minor))
      generalize ((((((((((((w2.setCell ⟨(w.heap.size + 1), 0, none⟩ (.int .i64 2)).setCell ⟨(w.heap.size + 1), 1, none⟩ (.int .i64 mode)).setCell ⟨(w.heap.size + 1), 2, none⟩ (.int .i64 uid)).setCell ⟨(w.heap.size + 1), 3, none⟩ (.int .i64 gid)).setCell ⟨(w.heap.size + 1), 4, none⟩ (.int .i64 time)).setCell ⟨(w.heap.size + 1), 5, none⟩ (.slice Aa attrs.length ca)).setCell ⟨(w.heap.size + 1), 6, none⟩ (.slice Al acl.length cl)).setCell ⟨(w.heap.size + 1), 7, none⟩ (.int .i64 size)).setCell ⟨(w.heap.size + 1), 8, none⟩ (.slice AD data.length cD)).setCell ⟨(w.heap.size + 1), 9, none⟩ (.string target)).setCell ⟨(w.heap.size + 1), 10, none⟩ (.int .i64 major)).setCell ⟨(w.heap.size + 1), 11, none⟩ (.int .i64 minor)) = w9 at *
      obtain ⟨k0, k1, k2, k3, k4, k5, k6, k7, k8, k9, k10, k11⟩ := y5.cells
      refine bodyPost_ret (v := .tuple #[.agg #[.int .i64 2, .int .i64 mode, .int .i64 uid, .int .i64 gid, .int .i64 time, .slice Aa attrs.length ca, .slice Al acl.length cl, .int .i64 size, .slice AD data.length cD, .string target, .int .i64 major, .int .i64 minor], .int .i64 1]) (by simp [results, Tryz.results60, go_sem, k0, k1, k2, k3, k4, k5, k6, k7, k8, k9, k10, k11]) rfl ?_
      rw [EE.out]
      exact ⟨_, rfl, HNO.out _ q5, q5⟩
    have t2 : decide (1099511627776 < a) = false := decide_eq_false h2
    have hfo : true = true ∧ offB a = true := ⟨rfl, decide_eq_true (by omega)⟩
    have hvf := HV.out rfl
    have EE : Hid (N = _) := E5.out hfo
    have HCl : Hid (∀ w', Q w w' → Calls Tryz.prog 81 #[.slice AD data.length cD, .int .i64 0, .int .i64 a] w' fun e w'' => ∃ v', e = .returned v' ∧ OwnP w'' w'.heap.size v' (clipP data 0 a) ∧ Q w' w'') := fun w' q => clip_any _ data 0 a w' (HD.out _ q) hdl hvf.ok (by omega) (by omega) (by omega) (by omega)
    generalize clipP data 0 a = D at *
    clear E1 E5 HV HD HB HN hvf h1 h2 hfo
    have hx9 := x1.lt
    have hy9 := y1.lt
    obtain ⟨k0, k1, k2, k3, k4, k5, k6, k7, k8, k9, k10, k11⟩ := x1.cells
    go_wp2_with fail
    clear k0 k1 k2 k3 k4 k5 k6 k7 k8 k9 k10 k11
    refine (HCl.out _ q1).mono ?_
    rintro e W ⟨vf, rfl, of, qf⟩
    replace x1 := x1.keep qf
    replace y1 := y1.keep qf
    replace q1 := q1.trans qf
    obtain ⟨A5, n5, rfl⟩ := of.form flatP
    clear qf HCl
    have f1 := (Far.refl w.heap.size W).chain 8 (.slice A5 D.length n5)
    have f2 := f1.chain 7 (.int .i64 a)
    have o1 := x1.set 8 (.slice A5 D.length n5)
    simp only [List.setIfInBounds_toArray, List.set_cons_succ, List.set_cons_zero] at o1
    have o2 := o1.set 7 (.int .i64 a)
    simp only [List.setIfInBounds_toArray, List.set_cons_succ, List.set_cons_zero] at o2
    have y2 : BoxN ((W.setCell ⟨w.heap.size, 8, none⟩ (.slice A5 D.length n5)).setCell ⟨w.heap.size, 7, none⟩ (.int .i64 a)) (w.heap.size + 1) _ := y1.far f2 (by omega)
    have q2 : Q w ((W.setCell ⟨w.heap.size, 8, none⟩ (.slice A5 D.length n5)).setCell ⟨w.heap.size, 7, none⟩ (.int .i64 a)) := Q.setCell (Q.setCell q1 (Nat.le_refl _) 8 (.slice A5 D.length n5)) (Nat.le_refl _) 7 (.int .i64 a)
    have of2 : OwnP ((W.setCell ⟨w.heap.size, 8, none⟩ (.slice A5 D.length n5)).setCell ⟨w.heap.size, 7, none⟩ (.int .i64 a)) w2.heap.size _ _ := own_far of f2 hx9
    have g0 := x1.soft
    have g1 := o1.soft
    obtain ⟨-, -, -, -, -, -, -, -, i8, -, -, -⟩ := x1.cells
    obtain ⟨-, -, -, -, -, -, -, i7, -, -, -, -⟩ := o1.cells
    clear of f1 f2 o1 x1 y1 q1
    have g2 := y2.soft
    obtain ⟨j0, j1, j2, j3, j4, j5, j6, j7, j8, j9, j10, j11⟩ := o2.cells
    obtain ⟨m0, m1, m2, m3, m4, m5, m6, m7, m8, m9, m10, m11⟩ := y2.cells
    have hlt := o2.lt
    go_wp2_with fail
    clear g2 hlt g0 g1 i7 i8 j0 j1 j2 j3 j4 j5 j6 j7 j8 j9 j10 j11 m0 m1 m2 m3 m4 m5 m6 m7 m8 m9 m10 m11
    generalize ((W.setCell ⟨w.heap.size, 8, none⟩ (.slice A5 D.length n5)).setCell ⟨w.heap.size, 7, none⟩ (.int .i64 a)) = W2 at *
    have y5 := ((((((((((((y2.set 0 (.int .i64 2)).set 1 (.int .i64 mode)).set 2 (.int .i64 uid)).set 3 (.int .i64 gid)).set 4 (.int .i64 time)).set 5 (.slice Aa attrs.length ca)).set 6 (.slice Al acl.length cl)).set 7 (.int .i64 a)).set 8 (.slice A5 D.length n5)).set 9 (.string target)).set 10 (.int .i64 major)).set 11 (.int .i64 minor))
    simp only [List.setIfInBounds_toArray, List.set_cons_succ, List.set_cons_zero] at y5
    have q5 := (Q.setCell (Q.setCell (Q.setCell (Q.setCell (Q.setCell (Q.setCell (Q.setCell (Q.setCell (Q.setCell (Q.setCell (Q.setCell (Q.setCell q2 (Nat.le_succ _) 0 (.int .i64 2)) (Nat.le_succ _) 1 (.int .i64 mode)) (Nat.le_succ _) 2 (.int .i64 uid)) (Nat.le_succ _) 3 (.int .i64 gid)) (Nat.le_succ _) 4 (.int .i64 time)) (Nat.le_succ _) 5 (.slice Aa attrs.length ca)) (Nat.le_succ _) 6 (.slice Al acl.length cl)) (Nat.le_succ _) 7 (.int .i64 a)) (Nat.le_succ _) 8 (.slice A5 D.length n5)) (Nat.le_succ _) 9 (.string target)) (Nat.le_succ _) 10 (.int .i64 major)) (Nat.le_succ _) 11 (.int .i64 minor))
    have f5 := (((((((((((((Far.refl (w.heap.size + 1) W2).chain 0 (.int .i64 2)).chain 1 (.int .i64 mode)).chain 2 (.int .i64 uid)).chain 3 (.int .i64 gid)).chain 4 (.int .i64 time)).chain 5 (.slice Aa attrs.length ca)).chain 6 (.slice Al acl.length cl)).chain 7 (.int .i64 a)).chain 8 (.slice A5 D.length n5)).chain 9 (.string target)).chain 10 (.int .i64 major)).chain 11 (.int .i64 minor))
    have rd := OwnR.mono (own_far of2 f5 hy9) (show BB ≤ _ by omega)
    clear f5
    generalize ((((((((((((W2.setCell ⟨(w.heap.size + 1), 0, none⟩ (.int .i64 2)).setCell ⟨(w.heap.size + 1), 1, none⟩ (.int .i64 mode)).setCell ⟨(w.heap.size + 1), 2, none⟩ (.int .i64 uid)).setCell ⟨(w.heap.size + 1), 3, none⟩ (.int .i64 gid)).setCell ⟨(w.heap.size + 1), 4, none⟩ (.int .i64 time)).setCell ⟨(w.heap.size + 1), 5, none⟩ (.slice Aa attrs.length ca)).setCell ⟨(w.heap.size + 1), 6, none⟩ (.slice Al acl.length cl)).setCell ⟨(w.heap.size + 1), 7, none⟩ (.int .i64 a)).setCell ⟨(w.heap.size + 1), 8, none⟩ (.slice A5 D.length n5)).setCell ⟨(w.heap.size + 1), 9, none⟩ (.string target)).setCell ⟨(w.heap.size + 1), 10, none⟩ (.int .i64 major)).setCell ⟨(w.heap.size + 1), 11, none⟩ (.int .i64 minor)) = w9 at *
    obtain ⟨k0, k1, k2, k3, k4, k5, k6, k7, k8, k9, k10, k11⟩ := y5.cells
    refine bodyPost_ret (v := .tuple #[.agg #[.int .i64 2, .int .i64 mode, .int .i64 uid, .int .i64 gid, .int .i64 time, .slice Aa attrs.length ca, .slice Al acl.length cl, .int .i64 a, .slice A5 D.length n5, .string target, .int .i64 major, .int .i64 minor], .int .i64 0]) (by simp [results, Tryz.results60, go_sem, k0, k1, k2, k3, k4, k5, k6, k7, k8, k9, k10, k11]) rfl ?_
    rw [EE.out]
    exact ⟨_, rfl, ⟨_, _, _, rfl, (HALO.out _ q5).1, (HALO.out _ q5).2, rd⟩, q5⟩
end Go.Proofs.YtgbenepapajieaaGreat.Nd
