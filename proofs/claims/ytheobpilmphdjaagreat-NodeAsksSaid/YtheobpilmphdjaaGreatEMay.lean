/-
  The contract of extent.May.
-/
import Derived.Test.YtheobpilmphdjaaGreatEExts
namespace Go.Proofs.YtheobpilmphdjaaGreat.Ex
open Go.RowKit
open Rng

/-- What May finds from an end on. -/
def mayGo : Int → List X → Int → Bool
  | last, [], s => decide (last ≤ s)
  | last, x :: r, s => decide (x.2 ≠ 0 ∧ last < (x.1 : Int)) && mayGo ((x.1 : Int) + x.2) r s
def mayB (l : List X) (s : Int) : Bool := decide (s = lim s) && mayGo (-1) l s
theorem mayGo_end {last s : Int} {l : List X} {k : Nat} {b : Bool} (hk : ¬ k < l.length) (h : b = mayGo last (l.drop k) s) : b = decide (last ≤ s) := by
  rw [List.drop_eq_nil_of_le (by omega)] at h
  exact h
theorem mayGo_no {last s : Int} {l : List X} {k : Nat} {b : Bool} (hk : k < l.length) (h : b = mayGo last (l.drop k) s) (hn : ¬ (l[k].2 ≠ 0 ∧ last < (l[k].1 : Int))) : b = false := by
  rw [List.drop_eq_getElem_cons hk] at h
  unfold mayGo at h
  rw [h, decide_eq_false hn]
  rfl
theorem mayGo_on {last s : Int} {l : List X} {k : Nat} {b : Bool} (hk : k < l.length) (h : b = mayGo last (l.drop k) s) (hn : l[k].2 ≠ 0 ∧ last < (l[k].1 : Int)) : b = mayGo ((l[k].1 : Int) + l[k].2) (l.drop (k + 1)) s := by
  rw [List.drop_eq_getElem_cons hk] at h
  unfold mayGo at h
  rw [h, decide_eq_true hn]
  rfl
theorem mayGo_val : ∀ {l : List X} {last s : Int}, Val l → (∀ x ∈ l, last < (x.1 : Int)) → last ≤ s → (∀ x ∈ l, ((x.1 : Int) + x.2) ≤ s) → mayGo last l s = true
  | [], _, _, _, _, h3, _ => decide_eq_true h3
  | x :: r, last, s, h1, h2, h3, h4 => by
    have hx := h1.1 x (by simp)
    have hp := List.pairwise_cons.1 h1.2
    unfold mayGo
    rw [decide_eq_true ⟨by omega, h2 x (by simp)⟩]
    exact mayGo_val (val_tail h1) (fun y hy => by have := hp.1 y hy; omega) (h4 x (by simp)) (fun y hy => h4 y (List.mem_cons_of_mem _ hy))
theorem may_val {l : List X} {s : Nat} (hs : s ≤ M) (h : Val l) (hu : Upto s l) : mayB l (s : Int) = true := by
  unfold mayB
  rw [mayGo_val h (fun x _ => by omega) (by omega) (fun x hx => by have := hu x hx; omega)]
  have : (s : Int) = lim s := by unfold lim; rw [limN_nat s hs]
  simp [← this]

set_option maxRecDepth 100000 in
set_option maxHeartbeats 1000000 in
theorem may_any (v : Value) (l : List X) (s : Int) (w : World) (h : ExtsAt w v l) (hl : Ok l) :
    Calls Tryz.prog 57 #[v, .int .i64 s] w fun e w' => e = .returned (.bool (mayB l s)) ∧ Q w w' := by
  have ll := h.len
  obtain ⟨A, c, rfl⟩ := h.form
  unfold maxLen at ll
  by_cases h0 : s = lim s
  · have t0 : (s != lim s) = false := by rw [bne_eq_false_iff_eq]; exact h0
    have E0 : Hid (mayB l s = mayGo (-1) l s) := by show (_ && _) = _; rw [decide_eq_true h0]; rfl
    clear h0
    go_enter Tryz.func57, Tryz.ntmps57
    go_wp2_with fail
    refine (limit_any s _).mono ?_
    rintro e w1 ⟨rfl, rfl⟩
    go_wp2
    go_loopw [5, 7, 14] (fun b _ i wr => ∃ (k : Nat) (last : Int), i = .int .i64 k ∧ b = .int .i64 last ∧ k ≤ l.length ∧ Q w1 wr ∧ Hid (mayB l s = mayGo last (l.drop k) s)) (fun _ _ i _ => l.length - (intOf i).toNat)
    case atStart => exact ⟨0, -1, rfl, rfl, by omega, Q.refl _, E0.out⟩
    case round =>
      obtain ⟨k, last, rfl, rfl, hk, hq, H⟩ := hrel
      by_cases hlt : k < l.length
      · obtain ⟨g, og, _, ea, _, _, hc⟩ := (h.keep hq).at_ (by omega)
        cases ea
        have c1 := hc k hlt
        have o1 := hl _ (List.getElem_mem hlt)
        have En : Hid (¬ (l[k].2 ≠ 0 ∧ last < (l[k].1 : Int)) → mayB l s = false) := mayGo_no hlt H.out
        have Ey : Hid ((l[k].2 ≠ 0 ∧ last < (l[k].1 : Int)) → mayB l s = mayGo ((l[k].1 : Int) + l[k].2) (l.drop (k + 1)) s) := mayGo_on hlt H.out
        clear hc h hl H E0
        generalize l[k] = x at *
        go_wp2_with fail
        refine (long_any _ _ o1.2).mono ?_
        rintro e w2 ⟨rfl, rfl⟩
        by_cases h1 : x.2 = 0
        · have t1 : (((x.2 : Nat) : Int) == 0) = true := beq_iff_eq.2 (by omega)
          have E1 := Lib.hid (En.out (fun h => h.1 h1))
          clear h1 Ey En o1
          go_wp2
          go_ret
          exact ⟨ret_bool E1.out.symm, hq⟩
        have t1 : (((x.2 : Nat) : Int) == 0) = false := beq_eq_false_iff_ne.2 (by omega)
        go_wp2_with fail
        refine (at_any _ _ o1.1).mono ?_
        rintro e w2 ⟨rfl, rfl⟩
        by_cases h2 : last < (x.1 : Int)
        · have t2 : decide ((x.1 : Int) ≤ last) = false := decide_eq_false (by omega)
          have E1 := Lib.hid (Ey.out ⟨h1, h2⟩)
          clear h1 h2 Ey En
          go_wp2_with fail
          refine (end_any _ _ o1.1 o1.2).mono ?_
          rintro e w2 ⟨rfl, rfl⟩
          go_wp2
          go_roundw
          case rel => exact ⟨k + 1, _, by go_num, rfl, by omega, hq, E1⟩
          case measure => simp [intOf]; omega
        · have t2 : decide ((x.1 : Int) ≤ last) = true := decide_eq_true (by omega)
          have E1 := Lib.hid (En.out (fun h => h2 h.2))
          clear h1 h2 Ey En o1
          go_wp2
          go_ret
          exact ⟨ret_bool E1.out.symm, hq⟩
      · have E1 := Lib.hid (mayGo_end hlt H.out)
        clear H
        go_wp2
        go_ret
        exact ⟨ret_bool E1.out.symm, hq⟩
  · have t0 : (s != lim s) = true := by rw [bne_iff_ne]; exact h0
    have E0 : Hid (mayB l s = false) := by show (_ && _) = _; rw [decide_eq_false h0]; rfl
    clear h0
    go_enter Tryz.func57, Tryz.ntmps57
    go_wp2_with fail
    refine (limit_any s _).mono ?_
    rintro e w1 ⟨rfl, rfl⟩
    go_wp2
    go_ret
    exact ⟨ret_bool E0.out.symm, Q.refl _⟩
end Go.Proofs.YtheobpilmphdjaaGreat.Ex
