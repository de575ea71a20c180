/-
  The contract of the document's Lets.
-/
import Derived.Test.YtcbgchohcinecaaDoorInts
import Derived.Test.YtcbgchohcinecaaDoorRefs
import Derived.Test.YtcbgchohcinecaaDoorGroups
import Derived.Test.YtcbgchohcinecaaDoorLets
namespace Go.Proofs.YtcbgchohcinecaaDoor
open Go.RowKit

def Gone (l : List Ace) (gs : List Int) (m ask : Int) (k : Nat) (a b : Bool) : Prop := a = !(permsG gs (l.take k)).isEmpty ∧ b = (permsG gs (l.take k)).any (letB m ask)
theorem Gone.start (l : List Ace) (gs : List Int) (m ask : Int) : Gone l gs m ask 0 false false := ⟨rfl, rfl⟩
theorem Gone.no {l : List Ace} {gs : List Int} {m ask : Int} {k : Nat} {a b : Bool} (hk : k < l.length) (h : Gone l gs m ask k a b) (h1 : isGroup gs l[k] = false) : Gone l gs m ask (k + 1) a b := by
  unfold Gone
  rw [permsG_step gs hk, h1, h.1, h.2]
  simp
theorem Gone.yes {l : List Ace} {gs : List Int} {m ask : Int} {k : Nat} {a b : Bool} (hk : k < l.length) (h : Gone l gs m ask k a b) (h1 : isGroup gs l[k] = true) : Gone l gs m ask (k + 1) true (b || letB m ask l[k].2.2) := by
  unfold Gone
  rw [permsG_step gs hk, h1, h.2, if_pos rfl]
  simp [List.any_append]
theorem Gone.at_end {l : List Ace} {gs : List Int} {m ask : Int} {k : Nat} {a b : Bool} (hk : l.length ≤ k) (h : Gone l gs m ask k a b) : a = !(permsG gs l).isEmpty ∧ b = (permsG gs l).any (letB m ask) := by
  have := h
  unfold Gone at this
  rwa [List.take_of_length_le hk] at this
theorem gone_in {l : List Ace} {mode uid gid who : Int} {gs : List Int} {ask : Int} {b : Bool} (hbad : ¬ (mayB l = false ∨ ask < 0 ∨ 7 < ask)) (h0 : ¬ who = 0) (h1 : ¬ who = uid) (h2 : l.find? (isUser who) = none) (hg : gs.contains gid = true) (hb : b = (permsG gs l).any (letB (maskL l) ask)) :
    letsL l mode uid gid who gs ask = (b || letB (maskL l) ask (mode / 8)) := by
  have e : permsL l (mode / 8) gid gs = (mode / 8) :: permsG gs l := by unfold permsL; rw [hg]; rfl
  rw [lets_groups hbad h0 h1 h2 (by rw [e]; simp), e, List.any_cons, hb, Bool.or_comm]
  rfl
theorem gone_some {l : List Ace} {mode uid gid who : Int} {gs : List Int} {ask : Int} {b : Bool} (hbad : ¬ (mayB l = false ∨ ask < 0 ∨ 7 < ask)) (h0 : ¬ who = 0) (h1 : ¬ who = uid) (h2 : l.find? (isUser who) = none) (hg : gs.contains gid = false) (ha : true = !(permsG gs l).isEmpty) (hb : b = (permsG gs l).any (letB (maskL l) ask)) :
    letsL l mode uid gid who gs ask = b := by
  have e : permsL l (mode / 8) gid gs = permsG gs l := by unfold permsL; rw [hg]; rfl
  rw [lets_groups hbad h0 h1 h2 (by rw [e]; intro k; rw [k] at ha; simp at ha), e, hb]
  rfl
theorem gone_none {l : List Ace} {mode uid gid who : Int} {gs : List Int} {ask : Int} (hbad : ¬ (mayB l = false ∨ ask < 0 ∨ 7 < ask)) (h0 : ¬ who = 0) (h1 : ¬ who = uid) (h2 : l.find? (isUser who) = none) (hg : gs.contains gid = false) (ha : false = !(permsG gs l).isEmpty) :
    letsL l mode uid gid who gs ask = hasB mode ask := by
  have e : permsL l (mode / 8) gid gs = permsG gs l := by unfold permsL; rw [hg]; rfl
  refine lets_others hbad h0 h1 h2 ?_
  rw [e]
  simpa using ha
theorem ask_of {l : List Ace} {ask : Int} (h : ¬ (mayB l = false ∨ ask < 0 ∨ 7 < ask)) : 0 ≤ ask ∧ ask ≤ 7 := by omega

set_option maxRecDepth 100000 in
set_option maxHeartbeats 8000000 in
theorem letsRef_any (v : Value) (l : List Ace) (mode uid gid who : Int) (vg : Value) (gs : List Int) (ask : Int) (w : World) (h : AcesAt w v l) (hg : IntsAt w vg gs) :
    Calls Tryd.prog 14 #[v, .int .i64 mode, .int .i64 uid, .int .i64 gid, .int .i64 who, vg, .int .i64 ask] w fun e w' => e = .returned (.bool (letsL l mode uid gid who gs ask)) ∧ Q w w' := by
  have HM := Lib.hid (mayRef_any v l w h)
  have ll := h.len
  unfold maxLen at ll
  obtain ⟨A, c, rfl⟩ := h.form
  cases hm : mayB l with
  | false =>
    have E := Lib.hid (lets_no (l := l) (mode := mode) (uid := uid) (gid := gid) (who := who) (gs := gs) (ask := ask) (bad_may hm))
    rw [hm] at HM
    clear hm
    go_enter Tryd.func14, Tryd.ntmps14
    go_wp2_with fail
    refine HM.out.mono ?_
    rintro e w1 ⟨rfl, q1⟩
    go_wp2
    go_ret
    exact ⟨ret_bool E.out.symm, q1.q⟩
  | true =>
    rw [hm] at HM
    by_cases hs : ask < 0 ∨ 7 < ask
    · have E := Lib.hid (lets_no (l := l) (mode := mode) (uid := uid) (gid := gid) (who := who) (gs := gs) (ask := ask) (.inr hs))
      clear hm
      by_cases hs1 : ask < 0
      · have t1 : decide (ask < 0) = true := decide_eq_true hs1
        clear hs
        go_enter Tryd.func14, Tryd.ntmps14
        go_wp2_with fail
        refine HM.out.mono ?_
        rintro e w1 ⟨rfl, q1⟩
        go_wp2
        go_ret
        exact ⟨ret_bool E.out.symm, q1.q⟩
      · have t1 : decide (ask < 0) = false := decide_eq_false hs1
        have t2 : decide (7 < ask) = true := decide_eq_true (by omega)
        clear hs
        go_enter Tryd.func14, Tryd.ntmps14
        go_wp2_with fail
        refine HM.out.mono ?_
        rintro e w1 ⟨rfl, q1⟩
        go_wp2
        go_ret
        exact ⟨ret_bool E.out.symm, q1.q⟩
    have t1 : decide (ask < 0) = false := decide_eq_false (by omega)
    have t2 : decide (7 < ask) = false := decide_eq_false (by omega)
    have G : Hid (¬ (mayB l = false ∨ ask < 0 ∨ 7 < ask)) := by rintro (k | k); (rw [hm] at k; cases k); exact hs k
    have R := Lib.hid (maskR_may hm)
    clear hm hs
    by_cases h0 : who = 0
    · have E := Lib.hid (lets_zero (mode := mode) (uid := uid) (gid := gid) (gs := gs) G.out h0)
      have t0 : (who == 0) = true := beq_iff_eq.2 h0
      clear h0
      go_enter Tryd.func14, Tryd.ntmps14
      go_wp2_with fail
      refine HM.out.mono ?_
      rintro e w1 ⟨rfl, q1⟩
      go_wp2
      go_ret
      exact ⟨ret_bool E.out.symm, q1.q⟩
    have t0 : (who == 0) = false := beq_eq_false_iff_ne.2 h0
    by_cases h1 : who = uid
    · have E := Lib.hid (lets_own (mode := mode) (gid := gid) (gs := gs) G.out h0 h1)
      have E2 := Lib.hid (has_7 (mode / 64) ask (ask_of G.out).1 (ask_of G.out).2)
      have t3 : (who == uid) = true := beq_iff_eq.2 h1
      clear h0 h1
      go_enter Tryd.func14, Tryd.ntmps14
      go_wp2_with fail
      refine HM.out.mono ?_
      rintro e w1 ⟨rfl, q1⟩
      go_wp2
      go_ret
      exact ⟨ret_bool (E2.out.trans E.out.symm), q1.q⟩
    have t3 : (who == uid) = false := beq_eq_false_iff_ne.2 h1
    have N0 := Lib.hid h0
    have N1 := Lib.hid h1
    clear h0 h1
    go_enter Tryd.func14, Tryd.ntmps14
    go_wp2_with fail
    refine HM.out.mono ?_
    rintro e w1 ⟨rfl, q1⟩
    replace h := h.keep q1.q
    replace hg := hg.keep q1.q
    go_wp2
    go_loopw [15, 16] (fun mv i wr => ∃ k : Nat, i = .int .i64 k ∧ mv = .int .i64 (maskR (l.take k)) ∧ k ≤ l.length ∧ wr = w1) (fun _ i _ => l.length - (intOf i).toNat)
    case atStart => exact ⟨0, rfl, rfl, by omega, rfl⟩
    case round =>
      obtain ⟨k, rfl, rfl, hk, rfl⟩ := hrel
      by_cases hlt : k < l.length
      · obtain ⟨g, o, _, ea, _, _, hc⟩ := h.at_ (by omega)
        cases ea
        obtain ⟨c1, c2, c3⟩ := hc k hlt
        have S := Lib.hid (maskR_step hlt)
        clear hc h hg
        generalize l[k] = x at *
        by_cases h3 : x.1 = 3
        · have t4 : (x.1 == 3) = true := beq_iff_eq.2 h3
          have E : Hid (x.2.2 = maskR (l.take (k + 1))) := by rw [S.out, if_pos h3]; rfl
          clear h3 S
          go_wp2
          go_roundw
          case rel => exact ⟨k + 1, by go_num, by rw [E.out], by omega, trivial⟩
          case measure => simp [intOf]; omega
        · have t4 : (x.1 == 3) = false := beq_eq_false_iff_ne.2 h3
          have E : Hid (maskR (l.take k) = maskR (l.take (k + 1))) := by rw [S.out, if_neg h3]; rfl
          clear h3 S
          generalize hz : maskR (l.take k) = z at *
          clear hz
          go_wp2
          go_roundw
          case rel => exact ⟨k + 1, by go_num, by rw [E.out], by omega, trivial⟩
          case measure => simp [intOf]; omega
      · have hm2 : maskR (l.take k) = maskL l := by rw [List.take_of_length_le (by omega)]; exact R.out
        rw [hm2]
        clear hm2 R
        generalize hml : maskL l = m
        have HML := Lib.hid hml
        clear hml
        go_wp2
        go_loopw [17, 18, 19] (fun av bv i ws => ∃ (j : Nat) (a b : Bool), i = .int .i64 j ∧ av = .bool a ∧ bv = .bool b ∧ j ≤ l.length ∧ Q wr ws ∧ Hid (NoUser who l j) ∧ Hid (Gone l gs m ask j a b)) (fun _ _ i _ => l.length - (intOf i).toNat)
        case atStart => exact ⟨0, false, false, rfl, rfl, rfl, by omega, Q.refl _, NoUser.zero _ _, Gone.start _ _ _ _⟩
        case round =>
          obtain ⟨j, a, b, rfl, rfl, rfl, hj, hq, NU, HG⟩ := hrel
          by_cases hlt2 : j < l.length
          · obtain ⟨g, o, _, ea, _, _, hc⟩ := (h.keep hq).at_ (by omega)
            cases ea
            obtain ⟨c1, c2, c3⟩ := hc j hlt2
            have Un : Hid (isUser who l[j] = true → letsL l mode uid gid who gs ask = letB m ask l[j].2.2) := by
              intro e
              rw [lets_user G.out N0.out N1.out (NU.out.some hlt2 e), HML.out]
              rfl
            have Uy : Hid (isUser who l[j] = false → NoUser who l (j + 1)) := NU.out.step hlt2
            have Gn : Hid (isGroup gs l[j] = false → Gone l gs m ask (j + 1) a b) := HG.out.no hlt2
            have Gy : Hid (isGroup gs l[j] = true → Gone l gs m ask (j + 1) true (b || letB m ask l[j].2.2)) := HG.out.yes hlt2
            have HI := Lib.hid (in_any vg gs l[j].2.1 wr (hg.keep hq))
            clear hc h hg NU HG
            generalize l[j] = x at *
            have lt2 : (j : Int) < (l.length : Int) := by omega
            by_cases k1 : x.1 = 1
            · have t4 : (x.1 == 1) = true := beq_iff_eq.2 k1
              have t6 : (x.1 == 2) = false := beq_eq_false_iff_ne.2 (by omega)
              by_cases k2 : x.2.1 = who
              · have t5 : (x.2.1 == who) = true := beq_iff_eq.2 k2
                have E := Lib.hid (Un.out (isUser_yes k1 k2))
                clear k1 k2 Un Uy Gn Gy
                go_wp2
                go_ret
                exact ⟨ret_bool E.out.symm, q1.q.trans hq⟩
              · have t5 : (x.2.1 == who) = false := beq_eq_false_iff_ne.2 k2
                have E := Lib.hid (Uy.out (isUser_no2 k2))
                have E2 := Lib.hid (Gn.out (isGroup_no1 (by omega)))
                clear k1 k2 Un Uy Gn Gy
                go_wp2
                go_roundw
                case rel => exact ⟨j + 1, _, _, by go_num, rfl, rfl, by omega, hq, E, E2⟩
                case measure => simp [intOf]; omega
            · have t4 : (x.1 == 1) = false := beq_eq_false_iff_ne.2 k1
              have E := Lib.hid (Uy.out (isUser_no1 k1))
              by_cases k2 : x.1 = 2
              · have t6 : (x.1 == 2) = true := beq_iff_eq.2 k2
                have E3 := Lib.hid (isGroup_of (gs := gs) k2)
                cases hb : gs.contains x.2.1 with
                | false =>
                  rw [hb] at E3 HI
                  have E2 := Lib.hid (Gn.out E3.out)
                  clear k1 k2 Un Uy Gn Gy hb
                  go_wp2_with fail
                  refine HI.out.mono ?_
                  rintro e w2 ⟨rfl, rfl⟩
                  go_wp2
                  go_roundw
                  case rel => exact ⟨j + 1, _, _, by go_num, rfl, rfl, by omega, hq, E, E2⟩
                  case measure => simp [intOf]; omega
                | true =>
                  rw [hb] at E3 HI
                  have E2 := Lib.hid (Gy.out E3.out)
                  clear k1 k2 Un Uy Gn Gy hb
                  cases b with
                  | true =>
                    simp only [Bool.true_or] at E2
                    go_wp2_with fail
                    refine HI.out.mono ?_
                    rintro e w2 ⟨rfl, rfl⟩
                    go_wp2_with fail
                    go_quiet (fail)
                    go_wp2
                    go_roundw
                    case rel => exact ⟨j + 1, _, _, by go_num, rfl, rfl, by omega, hq.drewN _, E, E2⟩
                    case measure => simp [intOf]; omega
                  | false =>
                    simp only [Bool.false_or] at E2
                    have t7 : ∃ r, (bits BinOp.and IntKind.i64 (bits BinOp.and IntKind.i64 x.2.2 m) ask == ask) = r ∧ letB m ask x.2.2 = r := ⟨_, rfl, rfl⟩
                    obtain ⟨r, t7, t8⟩ := t7
                    rw [t8] at E2
                    clear t8
                    go_wp2_with fail
                    refine HI.out.mono ?_
                    rintro e w2 ⟨rfl, rfl⟩
                    go_wp2_with fail
                    go_quiet (fail)
                    go_wp2
                    go_roundw
                    case rel => exact ⟨j + 1, _, _, by go_num, rfl, rfl, by omega, hq.drewN _, E, E2⟩
                    case measure => simp [intOf]; omega
              · have t6 : (x.1 == 2) = false := beq_eq_false_iff_ne.2 k2
                have E2 := Lib.hid (Gn.out (isGroup_no1 k2))
                clear k1 k2 Un Uy Gn Gy HI
                go_wp2
                go_roundw
                case rel => exact ⟨j + 1, _, _, by go_num, rfl, rfl, by omega, hq, E, E2⟩
                case measure => simp [intOf]; omega
          · have F := Lib.hid (NU.out.none (by omega))
            have HE := Lib.hid (HG.out.at_end (by omega))
            have HI := Lib.hid (in_any vg gs gid wr (hg.keep hq))
            clear NU HG
            cases hb : gs.contains gid with
            | true =>
              have E := Lib.hid (gone_in (mode := mode) (b := b) G.out N0.out N1.out F.out hb (by have := HE.out.2; rwa [← HML.out] at this))
              have E2 := Lib.hid (has_7m (mode / 8) m ask (ask_of G.out).1 (ask_of G.out).2)
              rw [HML.out] at E
              rw [hb] at HI
              clear hb HE
              cases b with
              | true =>
                simp only [Bool.true_or] at E
                go_wp2_with fail
                refine HI.out.mono ?_
                rintro e w2 ⟨rfl, rfl⟩
                go_wp2
                go_ret
                exact ⟨ret_bool E.out.symm, q1.q.trans hq⟩
              | false =>
                simp only [Bool.false_or] at E
                go_wp2_with fail
                refine HI.out.mono ?_
                rintro e w2 ⟨rfl, rfl⟩
                go_wp2
                go_ret
                exact ⟨ret_bool (E2.out.trans E.out.symm), q1.q.trans hq⟩
            | false =>
              rw [hb] at HI
              cases a with
              | true =>
                have E := Lib.hid (gone_some (mode := mode) (b := b) G.out N0.out N1.out F.out hb HE.out.1 (by have := HE.out.2; rwa [← HML.out] at this))
                clear hb HE
                go_wp2_with fail
                refine HI.out.mono ?_
                rintro e w2 ⟨rfl, rfl⟩
                go_wp2
                go_ret
                exact ⟨ret_bool E.out.symm, q1.q.trans hq⟩
              | false =>
                have E := Lib.hid (gone_none (uid := uid) (mode := mode) G.out N0.out N1.out F.out hb HE.out.1)
                have E2 := Lib.hid (has_7 mode ask (ask_of G.out).1 (ask_of G.out).2)
                clear hb HE
                go_wp2_with fail
                refine HI.out.mono ?_
                rintro e w2 ⟨rfl, rfl⟩
                go_wp2
                go_ret
                exact ⟨ret_bool (E2.out.trans E.out.symm), q1.q.trans hq⟩
end Go.Proofs.YtcbgchohcinecaaDoor
