/-
  The contract of acl.Lets.
-/
import Derived.Test.YtcbgchohcinecaaDoorGroups
import Derived.Test.YtcbgchohcinecaaDoorLoops
namespace Go.Proofs.YtcbgchohcinecaaDoor
open Go.RowKit

theorem bad_may {l : List Ace} {ask : Int} (h : mayB l = false) : mayB l = false ∨ ask < 0 ∨ 7 < ask := .inl h
theorem bad_ask {l : List Ace} {ask : Int} (h : setB ask = false) : mayB l = false ∨ ask < 0 ∨ 7 < ask := by
  have := of_decide_eq_false h
  omega
theorem not_bad {l : List Ace} {ask : Int} (h : mayB l = true) (h1 : setB ask = true) : ¬ (mayB l = false ∨ ask < 0 ∨ 7 < ask) := by
  have := of_decide_eq_true h1
  rw [h]
  simp
  omega

set_option maxHeartbeats 4000000 in
theorem lets_any (v : Value) (l : List Ace) (mode uid gid who : Int) (vg : Value) (gs : List Int) (ask : Int) (w : World) (h : AcesAt w v l) (hg : IntsAt w vg gs) :
    Calls Tryd.prog 13 #[v, .int .i64 mode, .int .i64 uid, .int .i64 gid, .int .i64 who, vg, .int .i64 ask] w fun e w' => e = .returned (.bool (letsL l mode uid gid who gs ask)) ∧ Q w w' := by
  have HM := Lib.hid (fun w (h : AcesAt w v l) => may_any v l w h)
  obtain ⟨A, c, rfl⟩ := h.form
  cases hm : mayB l with
  | false =>
    have E := Lib.hid (lets_no (l := l) (mode := mode) (uid := uid) (gid := gid) (who := who) (gs := gs) (ask := ask) (bad_may hm))
    rw [hm] at HM
    clear hm
    go_enter Tryd.func13, Tryd.ntmps13
    go_wp2_with fail
    refine (HM.out _ (h.keep ((Q.refl w).alloc _))).mono ?_
    rintro e w1 ⟨rfl, q1⟩
    go_wp2
    go_ret
    exact ⟨ret_bool E.out.symm, ((Q.refl w).alloc _).trans q1.q⟩
  | true =>
    rw [hm] at HM
    have HS := Lib.hid (fun w => set_any ask w)
    cases hs : setB ask with
    | false =>
      have E := Lib.hid (lets_no (l := l) (mode := mode) (uid := uid) (gid := gid) (who := who) (gs := gs) (ask := ask) (bad_ask hs))
      rw [hs] at HS
      clear hm hs
      go_enter Tryd.func13, Tryd.ntmps13
      go_wp2_with fail
      refine (HM.out _ (h.keep ((Q.refl w).alloc _))).mono ?_
      rintro e w1 ⟨rfl, q1⟩
      have ca : w1.cell? ⟨w.heap.size, 0, none⟩ = some (.int .i64 ask) := q1.q.cell (by simp)
      go_wp2_with fail
      refine (HS.out _).mono ?_
      rintro e w2 ⟨rfl, rfl⟩
      go_wp2
      go_ret
      exact ⟨ret_bool E.out.symm, ((Q.refl w).alloc _).trans q1.q⟩
    | true =>
      rw [hs] at HS
      have G := Lib.hid (not_bad hm hs)
      have M := Lib.hid hm
      clear hm hs
      by_cases h0 : who = 0
      · have E := Lib.hid (lets_zero (mode := mode) (uid := uid) (gid := gid) (gs := gs) G.out h0)
        have t0 : (who == 0) = true := beq_iff_eq.2 h0
        clear h0
        go_enter Tryd.func13, Tryd.ntmps13
        go_wp2_with fail
        refine (HM.out _ (h.keep ((Q.refl w).alloc _))).mono ?_
        rintro e w1 ⟨rfl, q1⟩
        have ca : w1.cell? ⟨w.heap.size, 0, none⟩ = some (.int .i64 ask) := q1.q.cell (by simp)
        go_wp2_with fail
        refine (HS.out _).mono ?_
        rintro e w2 ⟨rfl, rfl⟩
        go_wp2
        go_ret
        exact ⟨ret_bool E.out.symm, ((Q.refl w).alloc _).trans q1.q⟩
      have t0 : (who == 0) = false := beq_eq_false_iff_ne.2 h0
      by_cases h1 : who = uid
      · have E := Lib.hid (lets_own (mode := mode) (gid := gid) (gs := gs) G.out h0 h1)
        have HB := Lib.hid (fun w => has_any (mode / 64) ask w)
        have t1 : (who == uid) = true := beq_iff_eq.2 h1
        clear h0 h1
        go_enter Tryd.func13, Tryd.ntmps13
        go_wp2_with fail
        refine (HM.out _ (h.keep ((Q.refl w).alloc _))).mono ?_
        rintro e w1 ⟨rfl, q1⟩
        have ca : w1.cell? ⟨w.heap.size, 0, none⟩ = some (.int .i64 ask) := q1.q.cell (by simp)
        go_wp2_with fail
        refine (HS.out _).mono ?_
        rintro e w2 ⟨rfl, rfl⟩
        go_wp2_with fail
        refine (HB.out _).mono ?_
        rintro e w2 ⟨rfl, rfl⟩
        go_wp2
        go_ret
        exact ⟨ret_bool E.out.symm, ((Q.refl w).alloc _).trans q1.q⟩
      have t1 : (who == uid) = false := beq_eq_false_iff_ne.2 h1
      have N0 := Lib.hid h0
      have N1 := Lib.hid h1
      clear h0 h1
      go_enter Tryd.func13, Tryd.ntmps13
      go_wp2_with fail
      refine (HM.out _ (h.keep ((Q.refl w).alloc _))).mono ?_
      rintro e w1 ⟨rfl, q1⟩
      have ca : w1.cell? ⟨w.heap.size, 0, none⟩ = some (.int .i64 ask) := q1.q.cell (by simp)
      go_wp2_with fail
      refine (HS.out _).mono ?_
      rintro e w2 ⟨rfl, rfl⟩
      replace q1 : Q w w2 := ((Q.refl w).alloc _).trans q1.q
      go_wp2_with fail
      refine (maskOf_any _ l w2 (h.keep q1)).mono ?_
      rintro e w3 ⟨rfl, rfl⟩
      generalize hml : maskL l = m
      have HML := Lib.hid hml
      clear hml
      go_wp2_with fail
      obtain ⟨w4, hw4⟩ : ∃ w4, w4 = w3.alloc (.cells #[.int .i64 m] 3) := ⟨_, rfl⟩
      have q4 : Q w w4 := by rw [hw4]; exact q1.alloc _
      have ca4 : w4.cell? ⟨w.heap.size, 0, none⟩ = some (.int .i64 ask) := by rw [hw4]; exact (Q.refl w3).alloc _ |>.cell ca
      have cm4 : w4.cell? ⟨w3.heap.size, 0, none⟩ = some (.int .i64 m) := by rw [hw4]; simp
      rw [← hw4]
      clear hw4 ca q1
      have l16 := (mayB_parts M.out).1
      refine (user_any _ l who w4 (h.keep q4)).mono ?_
      rintro e w5 ⟨k, rfl, rfl, hk, HN, HY⟩
      by_cases hlt : k < l.length
      · have t2 : decide ((k : Int) < (l.length : Int)) = true := decide_eq_true (by omega)
        have lt2 : (k : Int) < (l.length : Int) := by omega
        have E := Lib.hid (lets_user (mode := mode) (gid := gid) (gs := gs) G.out N0.out N1.out (HN.out.some hlt (HY.out hlt)))
        rw [HML.out] at E
        obtain ⟨g, o, _, ea, _, _, hc⟩ := (h.keep q4).at_ (by omega)
        cases ea
        obtain ⟨c1, c2, c3⟩ := hc k hlt
        clear hc h HN HY
        generalize l[k] = x at *
        have HB := Lib.hid (fun w => has_any (band x.2.2 m) ask w)
        generalize hasB (band x.2.2 m) ask = b at *
        unfold band at HB
        go_wp2_with fail
        go_quiet (first | (go_at_call 27; exact Calls.quiet_of_same (HB.out _)))
        go_wp2
        go_ret
        exact ⟨ret_bool E.out.symm, q4.drewN _⟩
      · have t2 : decide ((k : Int) < (l.length : Int)) = false := decide_eq_false (by omega)
        have F := Lib.hid (HN.out.none (by omega))
        clear HN HY
        go_wp2_with fail
        refine (ofGroups_any _ l (mode / 8) gid vg gs w5 (h.keep q4) (by omega) (hg.keep q4)).mono ?_
        rintro e w6 ⟨pv, rfl, hown, q6⟩
        have hpi := hown.ints
        replace ca4 := q6.cell ca4
        replace cm4 := q6.cell cm4
        replace q6 := q4.trans q6
        generalize hps : permsL l (mode / 8) gid gs = ps at *
        have HPS := Lib.hid hps
        clear hps hown q4
        obtain ⟨B, cb, rfl⟩ := hpi.form
        by_cases h0 : ps = []
        · have E := Lib.hid (lets_others G.out N0.out N1.out F.out (HPS.out.trans h0))
          have t3 : ((ps.length : Int) == 0) = true := by rw [h0]; rfl
          have HB := Lib.hid (fun w => has_any mode ask w)
          clear h0
          go_wp2_with fail
          refine (HB.out _).mono ?_
          rintro e w7 ⟨rfl, rfl⟩
          go_wp2
          go_ret
          exact ⟨ret_bool E.out.symm, q6⟩
        · have E := Lib.hid (lets_groups G.out N0.out N1.out F.out (by rw [HPS.out]; exact h0))
          rw [HPS.out, HML.out] at E
          have t3 : ((ps.length : Int) == 0) = false := by
            have := List.length_pos_iff.2 h0
            exact beq_eq_false_iff_ne.2 (by omega)
          have HC := Lib.hid (containsFunc_any _ ps m ask w3.heap.size w.heap.size w6 hpi cm4 ca4)
          clear h0
          go_wp2_with fail
          refine HC.out.mono ?_
          rintro e w7 ⟨rfl, rfl⟩
          go_wp2
          go_ret
          exact ⟨ret_bool E.out.symm, q6⟩
end Go.Proofs.YtcbgchohcinecaaDoor
