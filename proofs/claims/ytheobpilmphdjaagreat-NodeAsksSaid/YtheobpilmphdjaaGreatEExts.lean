/-
  Lists of extents in memory; the contracts of Same, Has, May.
-/
import Derived.Test.YtheobpilmphdjaaGreatEFns
import Derived.Deep.QuietTactic
import Derived.BigQuiet
namespace Go.Proofs.YtheobpilmphdjaaGreat.Ex
open Go.RowKit
open Rng

/-- A slice value that reads as these extents. -/
def ExtsAt (w : World) (v : Value) (ls : List X) : Prop :=
  (ls = [] ∧ v = .slice none 0 0) ∨
  ∃ g og cap, v = .slice (some ⟨g, og, none⟩) ls.length cap ∧ ls.length ≤ cap ∧ cap ≤ maxLen ∧ ∀ i (h : i < ls.length), w.cell? ⟨g, og + i, none⟩ = some (E ls[i])
theorem ExtsAt.nil_ (w : World) : ExtsAt w (.slice none 0 0) [] := .inl ⟨rfl, rfl⟩
theorem ExtsAt.form {w : World} {v : Value} {ls : List X} (h : ExtsAt w v ls) : ∃ A c, v = .slice A ls.length c := by
  rcases h with ⟨rfl, rfl⟩ | ⟨g, og, cap, rfl, _⟩
  · exact ⟨_, _, rfl⟩
  · exact ⟨_, _, rfl⟩
theorem ExtsAt.len {w : World} {v : Value} {ls : List X} (h : ExtsAt w v ls) : ls.length ≤ maxLen := by
  rcases h with ⟨rfl, rfl⟩ | ⟨g, og, cap, rfl, h1, h2, _⟩
  · simp
  · omega
theorem ExtsAt.at_ {w : World} {v : Value} {ls : List X} (h : ExtsAt w v ls) (hn : 0 < ls.length) : ∃ g og cap, v = .slice (some ⟨g, og, none⟩) ls.length cap ∧ ls.length ≤ cap ∧ cap ≤ maxLen ∧ ∀ i (h : i < ls.length), w.cell? ⟨g, og + i, none⟩ = some (E ls[i]) := by
  rcases h with ⟨rfl, rfl⟩ | h
  · simp at hn
  · exact h
theorem ExtsAt.keep {w w' : World} {v : Value} {ls : List X} (h : ExtsAt w v ls) (q : Q w w') : ExtsAt w' v ls := by
  rcases h with h | ⟨g, og, cap, e, h1, h2, h3⟩
  · exact .inl h
  · exact .inr ⟨g, og, cap, e, h1, h2, fun i hi => q.cell (h3 i hi)⟩
theorem ExtsAt.of_own {w : World} {base : Nat} {e : TypeId} {v : Value} {ls : List X} (h : w.ownsRow base e 1 v ls.length (ls.map E)) : ExtsAt w v ls := by
  rcases h.2 with ⟨rfl, hn⟩ | ⟨g, cap, cur, rfl, hb, hg, h1, h2, h3, h4⟩
  · exact .inl ⟨List.eq_nil_of_length_eq_zero hn, rfl⟩
  · refine .inr ⟨g, 0, cap, rfl, h1, h2, fun i hi => ?_⟩
    have := h.cells (g := g) rfl i (E ls[i]) (by simp [hi])
    simpa [Addr.add_lit] using this

/-! ### Same -/
theorem same_head {a b : List X} (h : a.length = b.length) {k : Nat} (hk : k < a.length) (hs : a.take k = b.take k) (h1 : a[k] = b[k]) : a.take (k + 1) = b.take (k + 1) := by
  rw [List.take_succ_eq_append_getElem hk, List.take_succ_eq_append_getElem (by omega : k < b.length), hs, h1]
theorem same_no {a b : List X} {k : Nat} (hk : k < a.length) (hk' : k < b.length) (h1 : ¬ a[k] = b[k]) : ¬ a = b := by
  intro e
  subst e
  exact h1 rfl

set_option maxRecDepth 100000 in
set_option maxHeartbeats 1000000 in
theorem same_any (va vb : Value) (a b : List X) (w : World) (ha : ExtsAt w va a) (hb : ExtsAt w vb b) (oa : Ok a) (ob : Ok b) :
    Calls Tryz.prog 20 #[va, vb] w fun e w' => e = .returned (.bool (decide (a = b))) ∧ Q w w' := by
  have la := ha.len
  have lb := hb.len
  obtain ⟨A, ca, rfl⟩ := ha.form
  obtain ⟨B, cb, rfl⟩ := hb.form
  by_cases hl : a.length = b.length
  · have t1 : ((a.length : Int) != (b.length : Int)) = false := by rw [bne_eq_false_iff_eq]; omega
    have E0 : Hid (a.take a.length = b.take a.length → a = b) := by intro h; rwa [List.take_length, hl, List.take_length] at h
    unfold maxLen at la lb
    go_enter Tryz.func20, Tryz.ntmps20
    go_wp2
    go_loopw [5] (fun i wr => ∃ k : Nat, i = .int .i64 k ∧ k ≤ a.length ∧ Q w wr ∧ Hid (a.take k = b.take k)) (fun i _ => a.length - (intOf i).toNat)
    case atStart => exact ⟨0, rfl, by omega, Q.refl _, rfl⟩
    case round =>
      obtain ⟨k, rfl, hk, hq, H⟩ := hrel
      by_cases hlt : k < a.length
      · have hlt' : k < b.length := by omega
        obtain ⟨ga, oa_, _, ea, _, _, hca⟩ := (ha.keep hq).at_ (by omega)
        obtain ⟨gb, ob_, _, eb, _, _, hcb⟩ := (hb.keep hq).at_ (by omega)
        cases ea
        cases eb
        have c1 := hca k hlt
        have c2 := hcb k hlt'
        have o1 := oa _ (List.getElem_mem hlt)
        have o2 := ob _ (List.getElem_mem hlt')
        have En : Hid (¬ a[k] = b[k] → ¬ a = b) := same_no hlt hlt'
        have Ey : Hid (a[k] = b[k] → a.take (k + 1) = b.take (k + 1)) := same_head hl hlt H.out
        clear hca hcb ha hb oa ob
        unfold E at c1 c2
        generalize a[k] = x at *
        generalize b[k] = y at *
        have n1 := ne_fl x.1 y.1 (by unfold M at o1; omega) (by unfold M at o2; omega)
        have n2 := ne_fl x.2 y.2 (by unfold M at o1; omega) (by unfold M at o2; omega)
        by_cases h1 : x.1 = y.1
        · rw [decide_eq_true h1] at n1
          by_cases h2 : x.2 = y.2
          · rw [decide_eq_true h2] at n2
            have E1 := Lib.hid (Ey.out (Prod.ext h1 h2))
            simp only [Bool.not_true] at n1 n2
            clear h1 h2 Ey En o1 o2 H
            go_wp2
            go_quiet (fail)
            go_wp2
            go_roundw
            case rel => exact ⟨k + 1, by go_num, by omega, (hq.drewN _), E1⟩
            case measure => simp [intOf]; omega
          · rw [decide_eq_false h2] at n2
            have E1 := Lib.hid (En.out (fun e => h2 (by rw [e])))
            simp only [Bool.not_true, Bool.not_false] at n1 n2
            clear h1 h2 Ey En o1 o2 H
            go_wp2
            go_quiet (fail)
            go_wp2
            go_ret
            exact ⟨ret_bool (decide_eq_false E1.out).symm, hq.drewN _⟩
        · rw [decide_eq_false h1] at n1
          have E1 := Lib.hid (En.out (fun e => h1 (by rw [e])))
          simp only [Bool.not_false] at n1
          clear h1 Ey En o1 o2 H n2
          go_wp2
          go_quiet (fail)
          go_wp2
          go_ret
          exact ⟨ret_bool (decide_eq_false E1.out).symm, hq.drewN _⟩
      · have : k = a.length := by omega
        subst this
        have E1 := Lib.hid (E0.out H.out)
        go_wp2
        go_ret
        exact ⟨ret_bool (decide_eq_true E1.out).symm, hq⟩
  · have t1 : ((a.length : Int) != (b.length : Int)) = true := by rw [bne_iff_ne]; omega
    have E0 : Hid (¬ a = b) := by intro e; exact hl (by rw [e])
    go_enter Tryz.func20, Tryz.ntmps20
    go_wp2
    go_ret
    exact ⟨ret_bool (decide_eq_false E0.out).symm, Q.refl _⟩

/-! ### Has -/
def hit (p : Int) (x : X) : Bool := decide ((x.1 : Int) ≤ p ∧ p < (x.1 + (cutN x).2 : Nat))
def hasB (l : List X) (p : Int) : Bool := l.any (hit p)
theorem has_no {l : List X} {p : Int} {k : Nat} (hk : k < l.length) (hs : hasB (l.take k) p = false) (h1 : hit p l[k] = false) : hasB (l.take (k + 1)) p = false := by
  unfold hasB at *
  rw [List.take_succ_eq_append_getElem hk, List.any_append, hs]
  simp [h1]
theorem has_yes {l : List X} {p : Int} {k : Nat} (hk : k < l.length) (h1 : hit p l[k] = true) : hasB l p = true :=
  List.any_eq_true.2 ⟨_, List.getElem_mem hk, h1⟩
theorem has_mem {l : List X} (hu : Upto M l) (p : Nat) : hasB l (p : Int) = true ↔ Mem p l := by
  have hc : ∀ x ∈ l, (cutN x).2 = x.2 := fun x hx => by have := hu x hx; unfold cutN; simp only; omega
  unfold hasB
  rw [List.any_eq_true]
  constructor
  · rintro ⟨x, hx, h⟩
    have := of_decide_eq_true h
    rw [hc x hx] at this
    exact ⟨x, hx, by unfold In; omega⟩
  · rintro ⟨x, hx, h1, h2⟩
    refine ⟨x, hx, decide_eq_true ?_⟩
    rw [hc x hx]
    omega
theorem cutN_ok {x : X} (h : x.1 ≤ M ∧ x.2 ≤ M) : (cutN x).1 = x.1 ∧ (cutN x).1 ≤ M ∧ (cutN x).2 ≤ M := by
  refine ⟨rfl, h.1, ?_⟩
  show min (x.1 + x.2) M - x.1 ≤ M
  omega

end Go.Proofs.YtheobpilmphdjaaGreat.Ex
