/-
  The contract of node.Write.
-/
import Derived.Test.YtheobpilmphdjaaGreatNFile
namespace Go.Proofs.YtheobpilmphdjaaGreat.Nd
open Go.RowKit
open Go.Proofs.YtheobpilmphdjaaGreat.Ex.Rng
open Go.Proofs.YtheobpilmphdjaaGreat.Ex (E ExtsAt)


theorem sumX_mem {r : List X} {z : X} (h : z ∈ r) : z.2 ≤ sumX r := by
  induction r with
  | nil => cases h
  | cons x r ih =>
    simp only [sumX]
    rcases List.mem_cons.1 h with rfl | k
    · omega
    · have := ih k; omega
theorem small_one (a : Int) (s : ByteArray) {d : List Pc} (h : Small d) (h1 : d.length ≤ 16) (hs : s.size ≤ 100000) : Small (d ++ [(a, s)]) :=
  ⟨by simp; omega, fun p hp => (List.mem_append.1 hp).elim (h.2 p) fun k => by rw [List.mem_singleton.1 k]; exact hs⟩
set_option maxRecDepth 100000 in
set_option maxHeartbeats 16000000 in
theorem write_any (v : Value) (n : Nd) (a : Int) (s : ByteArray) (w : World) (h : NodeAt w v n) (hf : Fit n) (hss : s.size ≤ 90000) :
    Calls Tryz.prog 6 #[v, .int .i64 a, .string s] w fun e w' => ∃ v', e = .returned (.tuple #[v', .int .i64 (writeN n a s).2]) ∧ NodeAt w' v' (writeN n a s).1 ∧ Q w w' := by
  have HO : Hid (∀ w', Q w w' → Calls Tryz.prog 24 #[v] w' fun e w'' => ∃ v', e = .returned v' ∧ OwnN w'' w'.heap.size v' n ∧ Q w' w'') := fun w' q => own_any v n w' (h.keep q) hf.at_ hf.ac hf.da.1
  have HF : Hid (∀ w', Q w w' → Calls Tryz.prog 25 #[v] w' fun e w'' => e = .returned (.bool (fileB n)) ∧ Q w' w'') := fun w' q => file_any v n w' (h.keep q) hf.da
  have HV : Hid (fileB n = true → VF n.size n.data) := fun k => (fileB_vf k).2
  have HA := Lib.hid (fun w => offset_any a w)
  have E1 : Hid (¬ (fileB n = true ∧ offB a = true) → writeN n a s = (n, 1)) := fun k => if_neg k
  have E2 : Hid (fileB n = true ∧ offB a = true → 1099511627776 < a + (s.size : Int) → writeN n a s = (n, 2)) := fun k k2 => by unfold writeN; rw [if_pos k, if_pos k2]
  have E3 : Hid (fileB n = true ∧ offB a = true → a + (s.size : Int) ≤ 1099511627776 → s.size = 0 → writeN n a s = (n, 0)) := fun k k2 k3 => by unfold writeN; rw [if_pos k, if_neg (Int.not_lt.2 k2), if_pos k3]
  have E4 : Hid (fileB n = true ∧ offB a = true → a + (s.size : Int) ≤ 1099511627776 → ¬ s.size = 0 → (16 < (wData n.data a s).length ∨ 4000 < sumP (wData n.data a s)) → writeN n a s = (n, 13)) := fun k k2 k3 k4 => by unfold writeN; rw [if_pos k, if_neg (Int.not_lt.2 k2), if_neg k3, if_pos k4]
  have E5 : Hid (fileB n = true ∧ offB a = true → a + (s.size : Int) ≤ 1099511627776 → ¬ s.size = 0 → ¬ (16 < (wData n.data a s).length ∨ 4000 < sumP (wData n.data a s)) → writeN n a s = ({ n with data := wData n.data a s, size := max n.size (a + (s.size : Int)) }, 0)) := fun k k2 k3 k4 => by unfold writeN; rw [if_pos k, if_neg (Int.not_lt.2 k2), if_neg k3, if_neg k4]
  obtain ⟨va, vl, vd, rfl, ha, hl, hd⟩ := h
  have HD : Hid (∀ w', Q w w' → PcsAt w' vd n.data) := fun w' q => hd.keep q
  have hdl := hf.da.1
  obtain ⟨AD, cD, rfl⟩ := hd.form
  obtain ⟨kind, ⟨mode, uid, gid, time, attrs, acl⟩, size, data, target, major, minor⟩ := n
  unfold nodeV at HO HF ⊢
  simp only at HO HF HV HD hdl E1 E2 E3 E4 E5 ⊢
  clear ha hl hd hf
  generalize writeN ⟨kind, ⟨mode, uid, gid, time, attrs, acl⟩, size, data, target, major, minor⟩ a s = N at *
  go_enter Tryz.func6, Tryz.ntmps6
  go_wp2_with fail
  have x1 : BoxN ((w.alloc (.cells #[.int .i64 kind, .int .i64 mode, .int .i64 uid, .int .i64 gid, .int .i64 time, va, vl, .int .i64 size, .slice AD data.length cD, .string target, .int .i64 major, .int .i64 minor] 28)).alloc (.cells #[.int .i64 0, .int .i64 0, .int .i64 0, .int .i64 0, .int .i64 0, .slice none 0 0, .slice none 0 0, .int .i64 0, .slice none 0 0, .string ⟨#[]⟩, .int .i64 0, .int .i64 0] 28)) w.heap.size #[.int .i64 kind, .int .i64 mode, .int .i64 uid, .int .i64 gid, .int .i64 time, va, vl, .int .i64 size, .slice AD data.length cD, .string target, .int .i64 major, .int .i64 minor] := (BoxN.new w _).keep ((Q.refl _).alloc _)
  have y1 := BoxN.new (w.alloc (.cells #[.int .i64 kind, .int .i64 mode, .int .i64 uid, .int .i64 gid, .int .i64 time, va, vl, .int .i64 size, .slice AD data.length cD, .string target, .int .i64 major, .int .i64 minor] 28)) #[.int .i64 0, .int .i64 0, .int .i64 0, .int .i64 0, .int .i64 0, .slice none 0 0, .slice none 0 0, .int .i64 0, .slice none 0 0, .string ⟨#[]⟩, .int .i64 0, .int .i64 0]
  rw [World.size_alloc] at y1
  have q1 : Q w ((w.alloc (.cells #[.int .i64 kind, .int .i64 mode, .int .i64 uid, .int .i64 gid, .int .i64 time, va, vl, .int .i64 size, .slice AD data.length cD, .string target, .int .i64 major, .int .i64 minor] 28)).alloc (.cells #[.int .i64 0, .int .i64 0, .int .i64 0, .int .i64 0, .int .i64 0, .slice none 0 0, .slice none 0 0, .int .i64 0, .slice none 0 0, .string ⟨#[]⟩, .int .i64 0, .int .i64 0] 28)) := ((Q.refl w).alloc _).alloc _
  have s1 : ((w.alloc (.cells #[.int .i64 kind, .int .i64 mode, .int .i64 uid, .int .i64 gid, .int .i64 time, va, vl, .int .i64 size, .slice AD data.length cD, .string target, .int .i64 major, .int .i64 minor] 28)).alloc (.cells #[.int .i64 0, .int .i64 0, .int .i64 0, .int .i64 0, .int .i64 0, .slice none 0 0, .slice none 0 0, .int .i64 0, .slice none 0 0, .string ⟨#[]⟩, .int .i64 0, .int .i64 0] 28)).heap.size = w.heap.size + 2 := by rw [World.size_alloc, World.size_alloc]
  generalize (w.alloc (.cells #[.int .i64 kind, .int .i64 mode, .int .i64 uid, .int .i64 gid, .int .i64 time, va, vl, .int .i64 size, .slice AD data.length cD, .string target, .int .i64 major, .int .i64 minor] 28)).alloc (.cells #[.int .i64 0, .int .i64 0, .int .i64 0, .int .i64 0, .int .i64 0, .slice none 0 0, .slice none 0 0, .int .i64 0, .slice none 0 0, .string ⟨#[]⟩, .int .i64 0, .int .i64 0] 28) = w1 at *
  refine (HO.out _ q1).mono ?_
  rintro e w2 ⟨v2, rfl, ⟨ya, yl, yd, rfl, oa, ol, od⟩, q2⟩
  unfold nodeV
  simp only at oa ol od ⊢
  rw [s1] at oa ol od
  obtain ⟨A2, n2, rfl⟩ := oa.form flatT
  obtain ⟨A3, n3, rfl⟩ := ol.form flat3
  obtain ⟨A4, n4, rfl⟩ := od.form flatP
  replace x1 := x1.keep q2
  replace y1 := y1.keep q2
  replace q1 := q1.trans q2
  have s2 := q2.size
  rw [s1] at s2
  replace oa := Lib.hid oa
  replace ol := Lib.hid ol
  replace od := Lib.hid od
  clear q2 s1 HO
  have hlt := x1.lt
  obtain ⟨k0, k1, k2, k3, k4, k5, k6, k7, k8, k9, k10, k11⟩ := x1.cells
  go_wp2_with fail
  clear hlt k0 k1 k2 k3 k4 k5 k6 k7 k8 k9 k10 k11
  have st : St w w2 (w2.alloc (.cells #[.int .i64 kind, .int .i64 mode, .int .i64 uid, .int .i64 gid, .int .i64 time, .slice A2 attrs.length n2, .slice A3 acl.length n3, .int .i64 size, .slice A4 data.length n4, .string target, .int .i64 major, .int .i64 minor] 28)) #[.int .i64 kind, .int .i64 mode, .int .i64 uid, .int .i64 gid, .int .i64 time, va, vl, .int .i64 size, .slice AD data.length cD, .string target, .int .i64 major, .int .i64 minor] #[.int .i64 0, .int .i64 0, .int .i64 0, .int .i64 0, .int .i64 0, .slice none 0 0, .slice none 0 0, .int .i64 0, .slice none 0 0, .string ⟨#[]⟩, .int .i64 0, .int .i64 0] #[.int .i64 kind, .int .i64 mode, .int .i64 uid, .int .i64 gid, .int .i64 time, .slice A2 attrs.length n2, .slice A3 acl.length n3, .int .i64 size, .slice A4 data.length n4, .string target, .int .i64 major, .int .i64 minor] := ⟨q1.alloc _, x1.keep ((Q.refl _).alloc _), y1.keep ((Q.refl _).alloc _), BoxN.new w2 _, (Band.start _ w2).q ((Q.refl _).alloc _)⟩
  generalize w2.alloc (.cells #[.int .i64 kind, .int .i64 mode, .int .i64 uid, .int .i64 gid, .int .i64 time, .slice A2 attrs.length n2, .slice A3 acl.length n3, .int .i64 size, .slice A4 data.length n4, .string target, .int .i64 major, .int .i64 minor] 28) = w3 at *
  clear x1 y1 q1
  refine (HF.out _ st.q).mono ?_
  rintro e w4 ⟨rfl, q4⟩
  replace st := st.keep q4
  clear q4 HF
  cases hbf : fileB ⟨kind, ⟨mode, uid, gid, time, attrs, acl⟩, size, data, target, major, minor⟩ with
  | false =>
    have EE : Hid (N = _) := E1.out (fun k => by rw [hbf] at k; cases k.1)
    clear E1 E2 E3 E4 E5 HV HD HA hbf
    have g2 := st.y.soft
    have hlt := st.o.lt
    obtain ⟨j0, j1, j2, j3, j4, j5, j6, j7, j8, j9, j10, j11⟩ := st.o.cells
    obtain ⟨m0, m1, m2, m3, m4, m5, m6, m7, m8, m9, m10, m11⟩ := st.y.cells
    go_wp2_with fail
    clear g2 hlt j0 j1 j2 j3 j4 j5 j6 j7 j8 j9 j10 j11 m0 m1 m2 m3 m4 m5 m6 m7 m8 m9 m10 m11
    have y5 := ((((((((((((st.y.set 0 (.int .i64 kind)).set 1 (.int .i64 mode)).set 2 (.int .i64 uid)).set 3 (.int .i64 gid)).set 4 (.int .i64 time)).set 5 (.slice A2 attrs.length n2)).set 6 (.slice A3 acl.length n3)).set 7 (.int .i64 size)).set 8 (.slice A4 data.length n4)).set 9 (.string target)).set 10 (.int .i64 major)).set 11 (.int .i64 minor))
    simp only [List.setIfInBounds_toArray, List.set_cons_succ, List.set_cons_zero] at y5
    have f5 := (((((((((((((Far.refl (w.heap.size + 1) w4).chain 0 (.int .i64 kind)).chain 1 (.int .i64 mode)).chain 2 (.int .i64 uid)).chain 3 (.int .i64 gid)).chain 4 (.int .i64 time)).chain 5 (.slice A2 attrs.length n2)).chain 6 (.slice A3 acl.length n3)).chain 7 (.int .i64 size)).chain 8 (.slice A4 data.length n4)).chain 9 (.string target)).chain 10 (.int .i64 major)).chain 11 (.int .i64 minor))
    have q5 := (Q.setCell (Q.setCell (Q.setCell (Q.setCell (Q.setCell (Q.setCell (Q.setCell (Q.setCell (Q.setCell (Q.setCell (Q.setCell (Q.setCell st.q (Nat.le_succ _) 0 (.int .i64 kind)) (Nat.le_succ _) 1 (.int .i64 mode)) (Nat.le_succ _) 2 (.int .i64 uid)) (Nat.le_succ _) 3 (.int .i64 gid)) (Nat.le_succ _) 4 (.int .i64 time)) (Nat.le_succ _) 5 (.slice A2 attrs.length n2)) (Nat.le_succ _) 6 (.slice A3 acl.length n3)) (Nat.le_succ _) 7 (.int .i64 size)) (Nat.le_succ _) 8 (.slice A4 data.length n4)) (Nat.le_succ _) 9 (.string target)) (Nat.le_succ _) 10 (.int .i64 major)) (Nat.le_succ _) 11 (.int .i64 minor))
    have b5 := st.b.far f5 (.inl (Nat.lt_succ_self _))
    have ra := (b5.row oa.out).row flatT
    have rl := ((b5.row ol.out).row flat3).aces
    have rd := (b5.row od.out).row flatP
    clear f5 st
    generalize ((((((((((((w4.setCell ⟨(w.heap.size + 1), 0, none⟩ (.int .i64 kind)).setCell ⟨(w.heap.size + 1), 1, none⟩ (.int .i64 mode)).setCell ⟨(w.heap.size + 1), 2, none⟩ (.int .i64 uid)).setCell ⟨(w.heap.size + 1), 3, none⟩ (.int .i64 gid)).setCell ⟨(w.heap.size + 1), 4, none⟩ (.int .i64 time)).setCell ⟨(w.heap.size + 1), 5, none⟩ (.slice A2 attrs.length n2)).setCell ⟨(w.heap.size + 1), 6, none⟩ (.slice A3 acl.length n3)).setCell ⟨(w.heap.size + 1), 7, none⟩ (.int .i64 size)).setCell ⟨(w.heap.size + 1), 8, none⟩ (.slice A4 data.length n4)).setCell ⟨(w.heap.size + 1), 9, none⟩ (.string target)).setCell ⟨(w.heap.size + 1), 10, none⟩ (.int .i64 major)).setCell ⟨(w.heap.size + 1), 11, none⟩ (.int .i64 minor)) = w9 at *
    obtain ⟨k0, k1, k2, k3, k4, k5, k6, k7, k8, k9, k10, k11⟩ := y5.cells
    refine bodyPost_ret (v := .tuple #[.agg #[.int .i64 kind, .int .i64 mode, .int .i64 uid, .int .i64 gid, .int .i64 time, .slice A2 attrs.length n2, .slice A3 acl.length n3, .int .i64 size, .slice A4 data.length n4, .string target, .int .i64 major, .int .i64 minor], .int .i64 1]) (by simp [results, Tryz.results6, go_sem, k0, k1, k2, k3, k4, k5, k6, k7, k8, k9, k10, k11]) rfl ?_
    rw [EE.out]
    exact ⟨_, rfl, ⟨_, _, _, rfl, ra, rl, rd⟩, q5⟩
  | true =>
    go_wp2_with fail
    refine (HA.out _).mono ?_
    rintro e w5 ⟨rfl, rfl⟩
    clear HA
    cases hbo : offB a with
    | false =>
      have EE : Hid (N = _) := E1.out (fun k => by rw [hbo] at k; cases k.2)
      clear E1 E2 E3 E4 E5 HV HD hbf hbo
      have g2 := st.y.soft
      have hlt := st.o.lt
      obtain ⟨j0, j1, j2, j3, j4, j5, j6, j7, j8, j9, j10, j11⟩ := st.o.cells
      obtain ⟨m0, m1, m2, m3, m4, m5, m6, m7, m8, m9, m10, m11⟩ := st.y.cells
      go_wp2_with fail
      clear g2 hlt j0 j1 j2 j3 j4 j5 j6 j7 j8 j9 j10 j11 m0 m1 m2 m3 m4 m5 m6 m7 m8 m9 m10 m11
      have y5 := ((((((((((((st.y.set 0 (.int .i64 kind)).set 1 (.int .i64 mode)).set 2 (.int .i64 uid)).set 3 (.int .i64 gid)).set 4 (.int .i64 time)).set 5 (.slice A2 attrs.length n2)).set 6 (.slice A3 acl.length n3)).set 7 (.int .i64 size)).set 8 (.slice A4 data.length n4)).set 9 (.string target)).set 10 (.int .i64 major)).set 11 (.int .i64 minor))
      simp only [List.setIfInBounds_toArray, List.set_cons_succ, List.set_cons_zero] at y5
      have f5 := (((((((((((((Far.refl (w.heap.size + 1) w5).chain 0 (.int .i64 kind)).chain 1 (.int .i64 mode)).chain 2 (.int .i64 uid)).chain 3 (.int .i64 gid)).chain 4 (.int .i64 time)).chain 5 (.slice A2 attrs.length n2)).chain 6 (.slice A3 acl.length n3)).chain 7 (.int .i64 size)).chain 8 (.slice A4 data.length n4)).chain 9 (.string target)).chain 10 (.int .i64 major)).chain 11 (.int .i64 minor))
      have q5 := (Q.setCell (Q.setCell (Q.setCell (Q.setCell (Q.setCell (Q.setCell (Q.setCell (Q.setCell (Q.setCell (Q.setCell (Q.setCell (Q.setCell st.q (Nat.le_succ _) 0 (.int .i64 kind)) (Nat.le_succ _) 1 (.int .i64 mode)) (Nat.le_succ _) 2 (.int .i64 uid)) (Nat.le_succ _) 3 (.int .i64 gid)) (Nat.le_succ _) 4 (.int .i64 time)) (Nat.le_succ _) 5 (.slice A2 attrs.length n2)) (Nat.le_succ _) 6 (.slice A3 acl.length n3)) (Nat.le_succ _) 7 (.int .i64 size)) (Nat.le_succ _) 8 (.slice A4 data.length n4)) (Nat.le_succ _) 9 (.string target)) (Nat.le_succ _) 10 (.int .i64 major)) (Nat.le_succ _) 11 (.int .i64 minor))
      have b5 := st.b.far f5 (.inl (Nat.lt_succ_self _))
      have ra := (b5.row oa.out).row flatT
      have rl := ((b5.row ol.out).row flat3).aces
      have rd := (b5.row od.out).row flatP
      clear f5 st
      generalize ((((((((((((w5.setCell ⟨(w.heap.size + 1), 0, none⟩ (.int .i64 kind)).setCell ⟨(w.heap.size + 1), 1, none⟩ (.int .i64 mode)).setCell ⟨(w.heap.size + 1), 2, none⟩ (.int .i64 uid)).setCell ⟨(w.heap.size + 1), 3, none⟩ (.int .i64 gid)).setCell ⟨(w.heap.size + 1), 4, none⟩ (.int .i64 time)).setCell ⟨(w.heap.size + 1), 5, none⟩ (.slice A2 attrs.length n2)).setCell ⟨(w.heap.size + 1), 6, none⟩ (.slice A3 acl.length n3)).setCell ⟨(w.heap.size + 1), 7, none⟩ (.int .i64 size)).setCell ⟨(w.heap.size + 1), 8, none⟩ (.slice A4 data.length n4)).setCell ⟨(w.heap.size + 1), 9, none⟩ (.string target)).setCell ⟨(w.heap.size + 1), 10, none⟩ (.int .i64 major)).setCell ⟨(w.heap.size + 1), 11, none⟩ (.int .i64 minor)) = w9 at *
      obtain ⟨k0, k1, k2, k3, k4, k5, k6, k7, k8, k9, k10, k11⟩ := y5.cells
      refine bodyPost_ret (v := .tuple #[.agg #[.int .i64 kind, .int .i64 mode, .int .i64 uid, .int .i64 gid, .int .i64 time, .slice A2 attrs.length n2, .slice A3 acl.length n3, .int .i64 size, .slice A4 data.length n4, .string target, .int .i64 major, .int .i64 minor], .int .i64 1]) (by simp [results, Tryz.results6, go_sem, k0, k1, k2, k3, k4, k5, k6, k7, k8, k9, k10, k11]) rfl ?_
      rw [EE.out]
      exact ⟨_, rfl, ⟨_, _, _, rfl, ra, rl, rd⟩, q5⟩
    | true =>
      have hfo := And.intro hbf hbo
      have hab := of_decide_eq_true hbo
      have hvf := Lib.hid (HV.out hbf)
      have hw : IntKind.i64.wrap (a + (s.size : Int)) = a + (s.size : Int) := IntWalk.i64_in _ (by omega)
      by_cases h1 : 1099511627776 < a + (s.size : Int)
      · have t1 : decide (1099511627776 < a + (s.size : Int)) = true := decide_eq_true h1
        have EE : Hid (N = _) := E2.out hfo h1
        clear E1 E2 E3 E4 E5 HV HD hbf hbo hfo h1 hab
        have g2 := st.y.soft
        have hlt := st.o.lt
        obtain ⟨j0, j1, j2, j3, j4, j5, j6, j7, j8, j9, j10, j11⟩ := st.o.cells
        obtain ⟨m0, m1, m2, m3, m4, m5, m6, m7, m8, m9, m10, m11⟩ := st.y.cells
        go_wp2_with fail
        clear g2 hlt j0 j1 j2 j3 j4 j5 j6 j7 j8 j9 j10 j11 m0 m1 m2 m3 m4 m5 m6 m7 m8 m9 m10 m11
        have y5 := ((((((((((((st.y.set 0 (.int .i64 kind)).set 1 (.int .i64 mode)).set 2 (.int .i64 uid)).set 3 (.int .i64 gid)).set 4 (.int .i64 time)).set 5 (.slice A2 attrs.length n2)).set 6 (.slice A3 acl.length n3)).set 7 (.int .i64 size)).set 8 (.slice A4 data.length n4)).set 9 (.string target)).set 10 (.int .i64 major)).set 11 (.int .i64 minor))
        simp only [List.setIfInBounds_toArray, List.set_cons_succ, List.set_cons_zero] at y5
        have f5 := (((((((((((((Far.refl (w.heap.size + 1) w5).chain 0 (.int .i64 kind)).chain 1 (.int .i64 mode)).chain 2 (.int .i64 uid)).chain 3 (.int .i64 gid)).chain 4 (.int .i64 time)).chain 5 (.slice A2 attrs.length n2)).chain 6 (.slice A3 acl.length n3)).chain 7 (.int .i64 size)).chain 8 (.slice A4 data.length n4)).chain 9 (.string target)).chain 10 (.int .i64 major)).chain 11 (.int .i64 minor))
        have q5 := (Q.setCell (Q.setCell (Q.setCell (Q.setCell (Q.setCell (Q.setCell (Q.setCell (Q.setCell (Q.setCell (Q.setCell (Q.setCell (Q.setCell st.q (Nat.le_succ _) 0 (.int .i64 kind)) (Nat.le_succ _) 1 (.int .i64 mode)) (Nat.le_succ _) 2 (.int .i64 uid)) (Nat.le_succ _) 3 (.int .i64 gid)) (Nat.le_succ _) 4 (.int .i64 time)) (Nat.le_succ _) 5 (.slice A2 attrs.length n2)) (Nat.le_succ _) 6 (.slice A3 acl.length n3)) (Nat.le_succ _) 7 (.int .i64 size)) (Nat.le_succ _) 8 (.slice A4 data.length n4)) (Nat.le_succ _) 9 (.string target)) (Nat.le_succ _) 10 (.int .i64 major)) (Nat.le_succ _) 11 (.int .i64 minor))
        have b5 := st.b.far f5 (.inl (Nat.lt_succ_self _))
        have ra := (b5.row oa.out).row flatT
        have rl := ((b5.row ol.out).row flat3).aces
        have rd := (b5.row od.out).row flatP
        clear f5 st
        generalize ((((((((((((w5.setCell ⟨(w.heap.size + 1), 0, none⟩ (.int .i64 kind)).setCell ⟨(w.heap.size + 1), 1, none⟩ (.int .i64 mode)).setCell ⟨(w.heap.size + 1), 2, none⟩ (.int .i64 uid)).setCell ⟨(w.heap.size + 1), 3, none⟩ (.int .i64 gid)).setCell ⟨(w.heap.size + 1), 4, none⟩ (.int .i64 time)).setCell ⟨(w.heap.size + 1), 5, none⟩ (.slice A2 attrs.length n2)).setCell ⟨(w.heap.size + 1), 6, none⟩ (.slice A3 acl.length n3)).setCell ⟨(w.heap.size + 1), 7, none⟩ (.int .i64 size)).setCell ⟨(w.heap.size + 1), 8, none⟩ (.slice A4 data.length n4)).setCell ⟨(w.heap.size + 1), 9, none⟩ (.string target)).setCell ⟨(w.heap.size + 1), 10, none⟩ (.int .i64 major)).setCell ⟨(w.heap.size + 1), 11, none⟩ (.int .i64 minor)) = w9 at *
        obtain ⟨k0, k1, k2, k3, k4, k5, k6, k7, k8, k9, k10, k11⟩ := y5.cells
        refine bodyPost_ret (v := .tuple #[.agg #[.int .i64 kind, .int .i64 mode, .int .i64 uid, .int .i64 gid, .int .i64 time, .slice A2 attrs.length n2, .slice A3 acl.length n3, .int .i64 size, .slice A4 data.length n4, .string target, .int .i64 major, .int .i64 minor], .int .i64 2]) (by simp [results, Tryz.results6, go_sem, k0, k1, k2, k3, k4, k5, k6, k7, k8, k9, k10, k11]) rfl ?_
        rw [EE.out]
        exact ⟨_, rfl, ⟨_, _, _, rfl, ra, rl, rd⟩, q5⟩
      have t1 : decide (1099511627776 < a + (s.size : Int)) = false := decide_eq_false h1
      replace h1 := Int.not_lt.1 h1
      by_cases h2 : s.size = 0
      · have t2 : s.toList.isEmpty = true := by rw [Lib.toList_data, List.isEmpty_iff]; exact List.eq_nil_of_length_eq_zero (by rw [Array.length_toList]; exact h2)
        have EE : Hid (N = _) := E3.out hfo h1 h2
        clear E1 E2 E3 E4 E5 HV HD hbf hbo hfo h1 h2 hab
        have g2 := st.y.soft
        have hlt := st.o.lt
        obtain ⟨j0, j1, j2, j3, j4, j5, j6, j7, j8, j9, j10, j11⟩ := st.o.cells
        obtain ⟨m0, m1, m2, m3, m4, m5, m6, m7, m8, m9, m10, m11⟩ := st.y.cells
        go_wp2_with fail
        clear g2 hlt j0 j1 j2 j3 j4 j5 j6 j7 j8 j9 j10 j11 m0 m1 m2 m3 m4 m5 m6 m7 m8 m9 m10 m11
        have y5 := ((((((((((((st.y.set 0 (.int .i64 kind)).set 1 (.int .i64 mode)).set 2 (.int .i64 uid)).set 3 (.int .i64 gid)).set 4 (.int .i64 time)).set 5 (.slice A2 attrs.length n2)).set 6 (.slice A3 acl.length n3)).set 7 (.int .i64 size)).set 8 (.slice A4 data.length n4)).set 9 (.string target)).set 10 (.int .i64 major)).set 11 (.int .i64 minor))
        simp only [List.setIfInBounds_toArray, List.set_cons_succ, List.set_cons_zero] at y5
        have f5 := (((((((((((((Far.refl (w.heap.size + 1) w5).chain 0 (.int .i64 kind)).chain 1 (.int .i64 mode)).chain 2 (.int .i64 uid)).chain 3 (.int .i64 gid)).chain 4 (.int .i64 time)).chain 5 (.slice A2 attrs.length n2)).chain 6 (.slice A3 acl.length n3)).chain 7 (.int .i64 size)).chain 8 (.slice A4 data.length n4)).chain 9 (.string target)).chain 10 (.int .i64 major)).chain 11 (.int .i64 minor))
        have q5 := (Q.setCell (Q.setCell (Q.setCell (Q.setCell (Q.setCell (Q.setCell (Q.setCell (Q.setCell (Q.setCell (Q.setCell (Q.setCell (Q.setCell st.q (Nat.le_succ _) 0 (.int .i64 kind)) (Nat.le_succ _) 1 (.int .i64 mode)) (Nat.le_succ _) 2 (.int .i64 uid)) (Nat.le_succ _) 3 (.int .i64 gid)) (Nat.le_succ _) 4 (.int .i64 time)) (Nat.le_succ _) 5 (.slice A2 attrs.length n2)) (Nat.le_succ _) 6 (.slice A3 acl.length n3)) (Nat.le_succ _) 7 (.int .i64 size)) (Nat.le_succ _) 8 (.slice A4 data.length n4)) (Nat.le_succ _) 9 (.string target)) (Nat.le_succ _) 10 (.int .i64 major)) (Nat.le_succ _) 11 (.int .i64 minor))
        have b5 := st.b.far f5 (.inl (Nat.lt_succ_self _))
        have ra := (b5.row oa.out).row flatT
        have rl := ((b5.row ol.out).row flat3).aces
        have rd := (b5.row od.out).row flatP
        clear f5 st
        generalize ((((((((((((w5.setCell ⟨(w.heap.size + 1), 0, none⟩ (.int .i64 kind)).setCell ⟨(w.heap.size + 1), 1, none⟩ (.int .i64 mode)).setCell ⟨(w.heap.size + 1), 2, none⟩ (.int .i64 uid)).setCell ⟨(w.heap.size + 1), 3, none⟩ (.int .i64 gid)).setCell ⟨(w.heap.size + 1), 4, none⟩ (.int .i64 time)).setCell ⟨(w.heap.size + 1), 5, none⟩ (.slice A2 attrs.length n2)).setCell ⟨(w.heap.size + 1), 6, none⟩ (.slice A3 acl.length n3)).setCell ⟨(w.heap.size + 1), 7, none⟩ (.int .i64 size)).setCell ⟨(w.heap.size + 1), 8, none⟩ (.slice A4 data.length n4)).setCell ⟨(w.heap.size + 1), 9, none⟩ (.string target)).setCell ⟨(w.heap.size + 1), 10, none⟩ (.int .i64 major)).setCell ⟨(w.heap.size + 1), 11, none⟩ (.int .i64 minor)) = w9 at *
        obtain ⟨k0, k1, k2, k3, k4, k5, k6, k7, k8, k9, k10, k11⟩ := y5.cells
        refine bodyPost_ret (v := .tuple #[.agg #[.int .i64 kind, .int .i64 mode, .int .i64 uid, .int .i64 gid, .int .i64 time, .slice A2 attrs.length n2, .slice A3 acl.length n3, .int .i64 size, .slice A4 data.length n4, .string target, .int .i64 major, .int .i64 minor], .int .i64 0]) (by simp [results, Tryz.results6, go_sem, k0, k1, k2, k3, k4, k5, k6, k7, k8, k9, k10, k11]) rfl ?_
        rw [EE.out]
        exact ⟨_, rfl, ⟨_, _, _, rfl, ra, rl, rd⟩, q5⟩
      have t2 : s.toList.isEmpty = false := by
        rw [Lib.toList_data]
        cases hh : s.data.toList with
        | nil => exact absurd (by rw [← Array.length_toList, hh]; rfl : s.data.size = 0) h2
        | cons => rfl
      have E4' := Lib.hid (E4.out hfo h1 h2)
      have E5' := Lib.hid (E5.out hfo h1 h2)
      have hlay : Hid (∀ r : List X, IsNorm ((data ++ [(a, s)]).map xOf) r → layP r (data ++ [(a, s)]) = wData data a s) := fun r hr => write_lay hvf.out.wf hvf.out.top hab.1 (by omega) (by omega) hr
      have hlok : Hid (∀ p ∈ data ++ [(a, s)], PcOk p) := fun p hp => (List.mem_append.1 hp).elim (hvf.out.ok p) fun k => by rw [List.mem_singleton.1 k]; exact ⟨hab.1, by simp only; omega⟩
      have hlen : data.length ≤ 16 := hvf.out.len
      have hlt := st.x.lt
      have k8 := st.x.cells.2.2.2.2.2.2.2.2.1
      have k7 := st.x.cells.2.2.2.2.2.2.2.1
      replace hab := Lib.hid hab
      clear E1 E2 E3 E4 E5 HV hbf hbo hfo
      replace h1 := Lib.hid h1
      replace h2 := Lib.hid h2
      go_wp2_with fail
      clear k8 k7 hlt
      have sc := st.x.lt
      have c0 : ((w5.alloc (.cells #[.int .i64 a, .string s] 44)).alloc (.cells #[.slice AD data.length cD, .slice (some ⟨w5.heap.size, 0, none⟩) 1 1] 26)).cell? ⟨w5.heap.size + 1, 0, none⟩ = some (.slice AD data.length cD) := by simp
      have c1 : ((w5.alloc (.cells #[.int .i64 a, .string s] 44)).alloc (.cells #[.slice AD data.length cD, .slice (some ⟨w5.heap.size, 0, none⟩) 1 1] 26)).cell? ⟨w5.heap.size + 1, 1, none⟩ = some (.slice (some ⟨w5.heap.size, 0, none⟩) 1 1) := by simp
      have hp1 : PcsAt ((w5.alloc (.cells #[.int .i64 a, .string s] 44)).alloc (.cells #[.slice AD data.length cD, .slice (some ⟨w5.heap.size, 0, none⟩) 1 1] 26)) (.slice (some ⟨w5.heap.size, 0, none⟩) 1 1) [(a, s)] := RowAt.keep ((own_one flatP 44 w5 w5.heap.size (Nat.le_refl _) (a, s)).row flatP) ((Q.refl _).alloc _)
      have qa : Q w5 ((w5.alloc (.cells #[.int .i64 a, .string s] 44)).alloc (.cells #[.slice AD data.length cD, .slice (some ⟨w5.heap.size, 0, none⟩) 1 1] 26)) := ((Q.refl _).alloc _).alloc _
      generalize (w5.alloc (.cells #[.int .i64 a, .string s] 44)).alloc (.cells #[.slice AD data.length cD, .slice (some ⟨w5.heap.size, 0, none⟩) 1 1] 26) = w6 at *
      replace st := st.keep qa
      clear qa
      refine (concat_any (w5.heap.size + 1) _ _ data [(a, s)] w6 (HD.out _ st.q) hp1 c0 c1 (by simp; omega) (by simp)).mono ?_
      rintro e w7 ⟨v7, rfl, o7, q7⟩
      replace st := st.keep q7
      replace o7 := o7.row flatP
      have hl7 : (data ++ [(a, s)]).length ≤ 17 := by simp; omega
      clear q7 c0 c1 hp1 HD
      generalize data ++ [(a, s)] = l at *
      obtain ⟨A7, c7, rfl⟩ := o7.form
      go_wp2_with fail
      refine (extents_any _ l _ o7 (by omega)).mono ?_
      rintro e w8 ⟨v8, rfl, o8, q8⟩
      replace st := st.keep q8
      replace o7 := o7.keep q8
      replace o8 : ExtsAt w8 v8 (l.map xOf) := ExtsAt.of_own (base := w7.heap.size) (e := 57) (by rw [List.length_map]; exact o8)
      clear q8
      go_wp2_with fail
      refine (Ex.norm_any v8 (l.map xOf) _ o8 (fun y hy => by obtain ⟨p, _, rfl⟩ := List.mem_map.1 hy; exact xOf_ok p) (by rw [List.length_map]; omega)).mono ?_
      rintro e wn ⟨vn, r, rfl, on, qn, Hr⟩
      replace st := st.keep qn
      replace o7 := o7.keep qn
      replace on := ExtsAt.of_own on
      have hrl : r.length ≤ 17 := by have := Hr.out.2.2.2; rw [List.length_map] at this; omega
      have hlr := Lib.hid (hlay.out r Hr.out)
      have hro : Ok r := Hr.out.2.1.ok
      obtain ⟨An, cn, rfl⟩ := on.form
      have hrs : Hid (r.length = (wData data a s).length ∧ sumX r = sumP (wData data a s)) := by rw [← hlr.out]; exact ⟨(layP_len _ _).symm, (sumX_lay _ _).symm⟩
      clear o8 qn hlay
      by_cases h3 : (16 : Int) < (r.length : Int)
      · have t3 : decide ((16 : Int) < (r.length : Int)) = true := decide_eq_true h3
        have EE : Hid (N = _) := E4'.out (.inl (by rw [← hrs.out.1]; omega))
        clear E4' E5' h3 hrs hlr Hr on o7
        have g2 := st.y.soft
        have hlt := st.o.lt
        obtain ⟨j0, j1, j2, j3, j4, j5, j6, j7, j8, j9, j10, j11⟩ := st.o.cells
        obtain ⟨m0, m1, m2, m3, m4, m5, m6, m7, m8, m9, m10, m11⟩ := st.y.cells
        go_wp2_with fail
        clear g2 hlt j0 j1 j2 j3 j4 j5 j6 j7 j8 j9 j10 j11 m0 m1 m2 m3 m4 m5 m6 m7 m8 m9 m10 m11
        have y5 := ((((((((((((st.y.set 0 (.int .i64 kind)).set 1 (.int .i64 mode)).set 2 (.int .i64 uid)).set 3 (.int .i64 gid)).set 4 (.int .i64 time)).set 5 (.slice A2 attrs.length n2)).set 6 (.slice A3 acl.length n3)).set 7 (.int .i64 size)).set 8 (.slice A4 data.length n4)).set 9 (.string target)).set 10 (.int .i64 major)).set 11 (.int .i64 minor))
        simp only [List.setIfInBounds_toArray, List.set_cons_succ, List.set_cons_zero] at y5
        have f5 := (((((((((((((Far.refl (w.heap.size + 1) wn).chain 0 (.int .i64 kind)).chain 1 (.int .i64 mode)).chain 2 (.int .i64 uid)).chain 3 (.int .i64 gid)).chain 4 (.int .i64 time)).chain 5 (.slice A2 attrs.length n2)).chain 6 (.slice A3 acl.length n3)).chain 7 (.int .i64 size)).chain 8 (.slice A4 data.length n4)).chain 9 (.string target)).chain 10 (.int .i64 major)).chain 11 (.int .i64 minor))
        have q5 := (Q.setCell (Q.setCell (Q.setCell (Q.setCell (Q.setCell (Q.setCell (Q.setCell (Q.setCell (Q.setCell (Q.setCell (Q.setCell (Q.setCell st.q (Nat.le_succ _) 0 (.int .i64 kind)) (Nat.le_succ _) 1 (.int .i64 mode)) (Nat.le_succ _) 2 (.int .i64 uid)) (Nat.le_succ _) 3 (.int .i64 gid)) (Nat.le_succ _) 4 (.int .i64 time)) (Nat.le_succ _) 5 (.slice A2 attrs.length n2)) (Nat.le_succ _) 6 (.slice A3 acl.length n3)) (Nat.le_succ _) 7 (.int .i64 size)) (Nat.le_succ _) 8 (.slice A4 data.length n4)) (Nat.le_succ _) 9 (.string target)) (Nat.le_succ _) 10 (.int .i64 major)) (Nat.le_succ _) 11 (.int .i64 minor))
        have b5 := st.b.far f5 (.inl (Nat.lt_succ_self _))
        have ra := (b5.row oa.out).row flatT
        have rl := ((b5.row ol.out).row flat3).aces
        have rd := (b5.row od.out).row flatP
        clear f5 st
        generalize ((((((((((((wn.setCell ⟨(w.heap.size + 1), 0, none⟩ (.int .i64 kind)).setCell ⟨(w.heap.size + 1), 1, none⟩ (.int .i64 mode)).setCell ⟨(w.heap.size + 1), 2, none⟩ (.int .i64 uid)).setCell ⟨(w.heap.size + 1), 3, none⟩ (.int .i64 gid)).setCell ⟨(w.heap.size + 1), 4, none⟩ (.int .i64 time)).setCell ⟨(w.heap.size + 1), 5, none⟩ (.slice A2 attrs.length n2)).setCell ⟨(w.heap.size + 1), 6, none⟩ (.slice A3 acl.length n3)).setCell ⟨(w.heap.size + 1), 7, none⟩ (.int .i64 size)).setCell ⟨(w.heap.size + 1), 8, none⟩ (.slice A4 data.length n4)).setCell ⟨(w.heap.size + 1), 9, none⟩ (.string target)).setCell ⟨(w.heap.size + 1), 10, none⟩ (.int .i64 major)).setCell ⟨(w.heap.size + 1), 11, none⟩ (.int .i64 minor)) = w9 at *
        obtain ⟨k0, k1, k2, k3, k4, k5, k6, k7, k8, k9, k10, k11⟩ := y5.cells
        refine bodyPost_ret (v := .tuple #[.agg #[.int .i64 kind, .int .i64 mode, .int .i64 uid, .int .i64 gid, .int .i64 time, .slice A2 attrs.length n2, .slice A3 acl.length n3, .int .i64 size, .slice A4 data.length n4, .string target, .int .i64 major, .int .i64 minor], .int .i64 13]) (by simp [results, Tryz.results6, go_sem, k0, k1, k2, k3, k4, k5, k6, k7, k8, k9, k10, k11]) rfl ?_
        rw [EE.out]
        exact ⟨_, rfl, ⟨_, _, _, rfl, ra, rl, rd⟩, q5⟩
      have t3 : decide ((16 : Int) < (r.length : Int)) = false := decide_eq_false h3
      go_wp2_with fail
      refine (total_any _ r _ on hro (by omega)).mono ?_
      rintro e wt ⟨rfl, qt⟩
      replace st := st.keep qt
      replace o7 := o7.keep qt
      replace on := on.keep qt
      clear qt
      by_cases h4 : (4000 : Int) < (sumX r : Int)
      · have t4 : decide ((4000 : Int) < (sumX r : Int)) = true := decide_eq_true h4
        have EE : Hid (N = _) := E4'.out (.inr (by rw [← hrs.out.2]; omega))
        clear E4' E5' h3 h4 hrs hlr Hr on o7
        have g2 := st.y.soft
        have hlt := st.o.lt
        obtain ⟨j0, j1, j2, j3, j4, j5, j6, j7, j8, j9, j10, j11⟩ := st.o.cells
        obtain ⟨m0, m1, m2, m3, m4, m5, m6, m7, m8, m9, m10, m11⟩ := st.y.cells
        go_wp2_with fail
        clear g2 hlt j0 j1 j2 j3 j4 j5 j6 j7 j8 j9 j10 j11 m0 m1 m2 m3 m4 m5 m6 m7 m8 m9 m10 m11
        have y5 := ((((((((((((st.y.set 0 (.int .i64 kind)).set 1 (.int .i64 mode)).set 2 (.int .i64 uid)).set 3 (.int .i64 gid)).set 4 (.int .i64 time)).set 5 (.slice A2 attrs.length n2)).set 6 (.slice A3 acl.length n3)).set 7 (.int .i64 size)).set 8 (.slice A4 data.length n4)).set 9 (.string target)).set 10 (.int .i64 major)).set 11 (.int .i64 minor))
        simp only [List.setIfInBounds_toArray, List.set_cons_succ, List.set_cons_zero] at y5
        have f5 := (((((((((((((Far.refl (w.heap.size + 1) wt).chain 0 (.int .i64 kind)).chain 1 (.int .i64 mode)).chain 2 (.int .i64 uid)).chain 3 (.int .i64 gid)).chain 4 (.int .i64 time)).chain 5 (.slice A2 attrs.length n2)).chain 6 (.slice A3 acl.length n3)).chain 7 (.int .i64 size)).chain 8 (.slice A4 data.length n4)).chain 9 (.string target)).chain 10 (.int .i64 major)).chain 11 (.int .i64 minor))
        have q5 := (Q.setCell (Q.setCell (Q.setCell (Q.setCell (Q.setCell (Q.setCell (Q.setCell (Q.setCell (Q.setCell (Q.setCell (Q.setCell (Q.setCell st.q (Nat.le_succ _) 0 (.int .i64 kind)) (Nat.le_succ _) 1 (.int .i64 mode)) (Nat.le_succ _) 2 (.int .i64 uid)) (Nat.le_succ _) 3 (.int .i64 gid)) (Nat.le_succ _) 4 (.int .i64 time)) (Nat.le_succ _) 5 (.slice A2 attrs.length n2)) (Nat.le_succ _) 6 (.slice A3 acl.length n3)) (Nat.le_succ _) 7 (.int .i64 size)) (Nat.le_succ _) 8 (.slice A4 data.length n4)) (Nat.le_succ _) 9 (.string target)) (Nat.le_succ _) 10 (.int .i64 major)) (Nat.le_succ _) 11 (.int .i64 minor))
        have b5 := st.b.far f5 (.inl (Nat.lt_succ_self _))
        have ra := (b5.row oa.out).row flatT
        have rl := ((b5.row ol.out).row flat3).aces
        have rd := (b5.row od.out).row flatP
        clear f5 st
        generalize ((((((((((((wt.setCell ⟨(w.heap.size + 1), 0, none⟩ (.int .i64 kind)).setCell ⟨(w.heap.size + 1), 1, none⟩ (.int .i64 mode)).setCell ⟨(w.heap.size + 1), 2, none⟩ (.int .i64 uid)).setCell ⟨(w.heap.size + 1), 3, none⟩ (.int .i64 gid)).setCell ⟨(w.heap.size + 1), 4, none⟩ (.int .i64 time)).setCell ⟨(w.heap.size + 1), 5, none⟩ (.slice A2 attrs.length n2)).setCell ⟨(w.heap.size + 1), 6, none⟩ (.slice A3 acl.length n3)).setCell ⟨(w.heap.size + 1), 7, none⟩ (.int .i64 size)).setCell ⟨(w.heap.size + 1), 8, none⟩ (.slice A4 data.length n4)).setCell ⟨(w.heap.size + 1), 9, none⟩ (.string target)).setCell ⟨(w.heap.size + 1), 10, none⟩ (.int .i64 major)).setCell ⟨(w.heap.size + 1), 11, none⟩ (.int .i64 minor)) = w9 at *
        obtain ⟨k0, k1, k2, k3, k4, k5, k6, k7, k8, k9, k10, k11⟩ := y5.cells
        refine bodyPost_ret (v := .tuple #[.agg #[.int .i64 kind, .int .i64 mode, .int .i64 uid, .int .i64 gid, .int .i64 time, .slice A2 attrs.length n2, .slice A3 acl.length n3, .int .i64 size, .slice A4 data.length n4, .string target, .int .i64 major, .int .i64 minor], .int .i64 13]) (by simp [results, Tryz.results6, go_sem, k0, k1, k2, k3, k4, k5, k6, k7, k8, k9, k10, k11]) rfl ?_
        rw [EE.out]
        exact ⟨_, rfl, ⟨_, _, _, rfl, ra, rl, rd⟩, q5⟩
      have t4 : decide ((4000 : Int) < (sumX r : Int)) = false := decide_eq_false h4
      have EE : Hid (N = _) := E5'.out (by rw [← hrs.out.1, ← hrs.out.2]; omega)
      have hz : ∀ z ∈ r, z.1 ≤ M ∧ z.2 ≤ 100000 := fun z hzz => ⟨(hro z hzz).1, by have := sumX_mem hzz; omega⟩
      replace h3 := Lib.hid h3
      replace h4 := Lib.hid h4
      go_wp2_with fail
      refine (lay_any _ _ r l _ on o7 (by omega) (by omega) hlok.out hz).mono ?_
      rintro e W ⟨vf, rfl, of, qf⟩
      rw [hlr.out] at of
      have sof := st.o.lt
      replace st := st.keep qf
      obtain ⟨A5, n5, rfl⟩ := of.form flatP
      clear qf on o7 hlr E4' E5' hrs Hr hz hro hlok
      have hx2 : w.heap.size ≠ w2.heap.size := by omega
      have hy2 : w.heap.size + 1 ≠ w2.heap.size := by omega
      have f1 := (Far.refl w2.heap.size W).chain 8 (.slice A5 (wData data a s).length n5)
      have f2 := f1.chain 7 (.int .i64 (max size (a + (s.size : Int))))
      have o1 := st.o.set 8 (.slice A5 (wData data a s).length n5)
      simp only [List.setIfInBounds_toArray, List.set_cons_succ, List.set_cons_zero] at o1
      have o2 := o1.set 7 (.int .i64 (max size (a + (s.size : Int))))
      simp only [List.setIfInBounds_toArray, List.set_cons_succ, List.set_cons_zero] at o2
      have st2 : St w w2 ((W.setCell ⟨w2.heap.size, 8, none⟩ (.slice A5 (wData data a s).length n5)).setCell ⟨w2.heap.size, 7, none⟩ (.int .i64 (max size (a + (s.size : Int))))) _ _ _ := ⟨Q.setCell (Q.setCell st.q (by omega) 8 (.slice A5 (wData data a s).length n5)) (by omega) 7 (.int .i64 (max size (a + (s.size : Int)))), st.x.far f2 hx2, st.y.far f2 hy2, o2, st.b.far f2 (.inr (Nat.le_refl _))⟩
      have of2 : OwnP ((W.setCell ⟨w2.heap.size, 8, none⟩ (.slice A5 (wData data a s).length n5)).setCell ⟨w2.heap.size, 7, none⟩ (.int .i64 (max size (a + (s.size : Int))))) (w2.heap.size + 1) _ _ := own_far (of.mono sof) f2 (Nat.lt_succ_self _)
      have g0 := st.o.soft
      have g1 := o1.soft
      have k7 := (st.x.far f1 hx2).cells.2.2.2.2.2.2.2.1
      obtain ⟨-, -, -, -, -, -, -, -, i8, -, -, -⟩ := st.o.cells
      obtain ⟨-, -, -, -, -, -, -, i7, -, -, -, -⟩ := o1.cells
      clear of f1 f2 o1 o2 st sof
      have g2 := st2.y.soft
      obtain ⟨j0, j1, j2, j3, j4, j5, j6, j7, j8, j9, j10, j11⟩ := st2.o.cells
      obtain ⟨m0, m1, m2, m3, m4, m5, m6, m7, m8, m9, m10, m11⟩ := st2.y.cells
      go_wp2_with fail
      clear g0 g1 g2 k7 i7 i8 j0 j1 j2 j3 j4 j5 j6 j7 j8 j9 j10 j11 m0 m1 m2 m3 m4 m5 m6 m7 m8 m9 m10 m11
      generalize ((W.setCell ⟨w2.heap.size, 8, none⟩ (.slice A5 (wData data a s).length n5)).setCell ⟨w2.heap.size, 7, none⟩ (.int .i64 (max size (a + (s.size : Int))))) = W2 at *
      have y5 := ((((((((((((st2.y.set 0 (.int .i64 kind)).set 1 (.int .i64 mode)).set 2 (.int .i64 uid)).set 3 (.int .i64 gid)).set 4 (.int .i64 time)).set 5 (.slice A2 attrs.length n2)).set 6 (.slice A3 acl.length n3)).set 7 (.int .i64 (max size (a + (s.size : Int))))).set 8 (.slice A5 (wData data a s).length n5)).set 9 (.string target)).set 10 (.int .i64 major)).set 11 (.int .i64 minor))
      simp only [List.setIfInBounds_toArray, List.set_cons_succ, List.set_cons_zero] at y5
      have f5 := (((((((((((((Far.refl (w.heap.size + 1) W2).chain 0 (.int .i64 kind)).chain 1 (.int .i64 mode)).chain 2 (.int .i64 uid)).chain 3 (.int .i64 gid)).chain 4 (.int .i64 time)).chain 5 (.slice A2 attrs.length n2)).chain 6 (.slice A3 acl.length n3)).chain 7 (.int .i64 (max size (a + (s.size : Int))))).chain 8 (.slice A5 (wData data a s).length n5)).chain 9 (.string target)).chain 10 (.int .i64 major)).chain 11 (.int .i64 minor))
      have q5 := (Q.setCell (Q.setCell (Q.setCell (Q.setCell (Q.setCell (Q.setCell (Q.setCell (Q.setCell (Q.setCell (Q.setCell (Q.setCell (Q.setCell st2.q (Nat.le_succ _) 0 (.int .i64 kind)) (Nat.le_succ _) 1 (.int .i64 mode)) (Nat.le_succ _) 2 (.int .i64 uid)) (Nat.le_succ _) 3 (.int .i64 gid)) (Nat.le_succ _) 4 (.int .i64 time)) (Nat.le_succ _) 5 (.slice A2 attrs.length n2)) (Nat.le_succ _) 6 (.slice A3 acl.length n3)) (Nat.le_succ _) 7 (.int .i64 (max size (a + (s.size : Int))))) (Nat.le_succ _) 8 (.slice A5 (wData data a s).length n5)) (Nat.le_succ _) 9 (.string target)) (Nat.le_succ _) 10 (.int .i64 major)) (Nat.le_succ _) 11 (.int .i64 minor))
      have b5 := st2.b.far f5 (.inl (Nat.lt_succ_self _))
      have ra := (b5.row oa.out).row flatT
      have rl := ((b5.row ol.out).row flat3).aces
      have rd := (own_far of2 f5 (by omega)).row flatP
      clear f5 st2
      generalize ((((((((((((W2.setCell ⟨(w.heap.size + 1), 0, none⟩ (.int .i64 kind)).setCell ⟨(w.heap.size + 1), 1, none⟩ (.int .i64 mode)).setCell ⟨(w.heap.size + 1), 2, none⟩ (.int .i64 uid)).setCell ⟨(w.heap.size + 1), 3, none⟩ (.int .i64 gid)).setCell ⟨(w.heap.size + 1), 4, none⟩ (.int .i64 time)).setCell ⟨(w.heap.size + 1), 5, none⟩ (.slice A2 attrs.length n2)).setCell ⟨(w.heap.size + 1), 6, none⟩ (.slice A3 acl.length n3)).setCell ⟨(w.heap.size + 1), 7, none⟩ (.int .i64 (max size (a + (s.size : Int))))).setCell ⟨(w.heap.size + 1), 8, none⟩ (.slice A5 (wData data a s).length n5)).setCell ⟨(w.heap.size + 1), 9, none⟩ (.string target)).setCell ⟨(w.heap.size + 1), 10, none⟩ (.int .i64 major)).setCell ⟨(w.heap.size + 1), 11, none⟩ (.int .i64 minor)) = w9 at *
      obtain ⟨k0, k1, k2, k3, k4, k5, k6, k7, k8, k9, k10, k11⟩ := y5.cells
      refine bodyPost_ret (v := .tuple #[.agg #[.int .i64 kind, .int .i64 mode, .int .i64 uid, .int .i64 gid, .int .i64 time, .slice A2 attrs.length n2, .slice A3 acl.length n3, .int .i64 (max size (a + (s.size : Int))), .slice A5 (wData data a s).length n5, .string target, .int .i64 major, .int .i64 minor], .int .i64 0]) (by simp [results, Tryz.results6, go_sem, k0, k1, k2, k3, k4, k5, k6, k7, k8, k9, k10, k11]) rfl ?_
      rw [EE.out]
      exact ⟨_, rfl, ⟨_, _, _, rfl, ra, rl, rd⟩, q5⟩
end Go.Proofs.YtheobpilmphdjaaGreat.Nd
