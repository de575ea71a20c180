/-
  Lists of entries in memory; the contracts of the small functions of package acl.
-/
import Derived.Test.YtheobpilmphdjaaGreatAce
import Derived.Deep.QuietTactic
import Derived.BigQuiet
namespace Go.Proofs.YtheobpilmphdjaaGreat
open Go.RowKit

/-- An entry as a value. -/
def aggA (x : Ace) : Value := .agg #[.int .i64 x.1, .int .i64 x.2.1, .int .i64 x.2.2]
/-- A slice value that reads as these entries. -/
def AcesAt (w : World) (v : Value) (l : List Ace) : Prop :=
  (l = [] ∧ ∃ a cap, v = .slice a 0 cap ∧ (a = none → cap = 0)) ∨
  ∃ g o cap, v = .slice (some ⟨g, o, none⟩) l.length cap ∧ l.length ≤ cap ∧ cap ≤ maxLen ∧ ∀ i (h : i < l.length), w.cell? ⟨g, o + i * 3, none⟩ = some (.int .i64 l[i].1) ∧ w.cell? ⟨g, o + i * 3 + 1, none⟩ = some (.int .i64 l[i].2.1) ∧ w.cell? ⟨g, o + i * 3 + 2, none⟩ = some (.int .i64 l[i].2.2)
theorem AcesAt.nil_ (w : World) : AcesAt w (.slice none 0 0) [] := .inl ⟨rfl, _, _, rfl, fun _ => rfl⟩
theorem AcesAt.form {w : World} {v : Value} {l : List Ace} (h : AcesAt w v l) : ∃ A c, v = .slice A l.length c := by
  rcases h with ⟨rfl, a, c, rfl, _⟩ | ⟨g, o, cap, rfl, _⟩
  · exact ⟨_, _, rfl⟩
  · exact ⟨_, _, rfl⟩
theorem AcesAt.len {w : World} {v : Value} {l : List Ace} (h : AcesAt w v l) : l.length ≤ maxLen := by
  rcases h with ⟨rfl, a, c, rfl, _⟩ | ⟨g, o, cap, rfl, h1, h2, _⟩
  · simp
  · omega
theorem AcesAt.at_ {w : World} {v : Value} {l : List Ace} (h : AcesAt w v l) (hn : 0 < l.length) : ∃ g o cap, v = .slice (some ⟨g, o, none⟩) l.length cap ∧ l.length ≤ cap ∧ cap ≤ maxLen ∧ ∀ i (h : i < l.length), w.cell? ⟨g, o + i * 3, none⟩ = some (.int .i64 l[i].1) ∧ w.cell? ⟨g, o + i * 3 + 1, none⟩ = some (.int .i64 l[i].2.1) ∧ w.cell? ⟨g, o + i * 3 + 2, none⟩ = some (.int .i64 l[i].2.2) := by
  rcases h with ⟨rfl, a, c, rfl, _⟩ | h
  · simp at hn
  · exact h
theorem AcesAt.keep {w w' : World} {v : Value} {l : List Ace} (h : AcesAt w v l) (q : Q w w') : AcesAt w' v l := by
  rcases h with h | ⟨g, o, cap, e, h1, h2, h3⟩
  · exact .inl h
  · exact .inr ⟨g, o, cap, e, h1, h2, fun i hi => ⟨q.cell (h3 i hi).1, q.cell (h3 i hi).2.1, q.cell (h3 i hi).2.2⟩⟩

/-! ### set, entry -/
def setB (n : Int) : Bool := decide (0 ≤ n ∧ n ≤ 7)
theorem set_any (n : Int) (w : World) : Calls Tryz.prog 106 #[.int .i64 n] w fun e w' => e = .returned (.bool (setB n)) ∧ w' = w := by
  go_enter Tryz.func106, Tryz.ntmps106
  go_wp2
  all_goals
    go_ret
    exact ⟨ret_bool (by unfold setB; first | exact b_false (by omega) | exact b_iff (by omega)), rfl⟩
theorem b_set {n : Int} {p : Prop} [Decidable p] (h : (0 ≤ n ∧ n ≤ 7) ↔ p) : setB n = decide p := decide_eq_decide.2 h
set_option maxRecDepth 100000 in
set_option maxHeartbeats 400000 in
theorem entry_any (x : Ace) (w : World) : Calls Tryz.prog 92 #[aggA x] w fun e w' => e = .returned (.bool (decide (OkA x))) ∧ Grew w w' := by
  obtain ⟨k, i, p⟩ := x
  unfold aggA
  simp only
  by_cases k1 : k = 1
  · have K := Lib.hid k1
    have t1 : (k == 1) = true := beq_iff_eq.2 k1
    clear k1
    go_enter Tryz.func92, Tryz.ntmps92
    go_wp2_with (go_at_call 106; refine (set_any _ _).mono ?_; rintro e w1 ⟨rfl, rfl⟩)
    all_goals
      go_ret
      have := K.out
      exact ⟨ret_bool (by first | exact b_false (by simp only [OkA]; omega) | exact b_true (by simp only [OkA]; omega) | exact b_iff (by simp only [OkA]; omega) | exact b_beq (by simp only [OkA]; omega) | exact b_set (by simp only [OkA]; omega)), Grew.alloc _ _⟩
  by_cases k2 : k = 2
  · have K := Lib.hid k2
    have t1 : (k == 1) = false := beq_eq_false_iff_ne.2 k1
    have t2 : (k == 2) = true := beq_iff_eq.2 k2
    clear k1 k2
    go_enter Tryz.func92, Tryz.ntmps92
    go_wp2_with (go_at_call 106; refine (set_any _ _).mono ?_; rintro e w1 ⟨rfl, rfl⟩)
    all_goals
      go_ret
      have := K.out
      exact ⟨ret_bool (by first | exact b_false (by simp only [OkA]; omega) | exact b_true (by simp only [OkA]; omega) | exact b_iff (by simp only [OkA]; omega) | exact b_beq (by simp only [OkA]; omega) | exact b_set (by simp only [OkA]; omega)), Grew.alloc _ _⟩
  by_cases k3 : k = 3
  · have K := Lib.hid k3
    have t1 : (k == 1) = false := beq_eq_false_iff_ne.2 k1
    have t2 : (k == 2) = false := beq_eq_false_iff_ne.2 k2
    have t3 : (k == 3) = true := beq_iff_eq.2 k3
    clear k1 k2 k3
    by_cases i0 : i = 0
    · have I := Lib.hid i0
      have t4 : (i == 0) = true := beq_iff_eq.2 i0
      clear i0
      go_enter Tryz.func92, Tryz.ntmps92
      go_wp2_with (go_at_call 106; refine (set_any _ _).mono ?_; rintro e w1 ⟨rfl, rfl⟩)
      all_goals
        go_ret
        have := K.out
        have := I.out
        exact ⟨ret_bool (by first | exact b_false (by simp only [OkA]; omega) | exact b_true (by simp only [OkA]; omega) | exact b_iff (by simp only [OkA]; omega) | exact b_beq (by simp only [OkA]; omega) | exact b_set (by simp only [OkA]; omega)), Grew.alloc _ _⟩
    · have I := Lib.hid i0
      have t4 : (i == 0) = false := beq_eq_false_iff_ne.2 i0
      clear i0
      go_enter Tryz.func92, Tryz.ntmps92
      go_wp2_with (go_at_call 106; refine (set_any _ _).mono ?_; rintro e w1 ⟨rfl, rfl⟩)
      all_goals
        go_ret
        have := K.out
        have := I.out
        exact ⟨ret_bool (by first | exact b_false (by simp only [OkA]; omega) | exact b_true (by simp only [OkA]; omega) | exact b_iff (by simp only [OkA]; omega) | exact b_beq (by simp only [OkA]; omega) | exact b_set (by simp only [OkA]; omega)), Grew.alloc _ _⟩
  · have t1 : (k == 1) = false := beq_eq_false_iff_ne.2 k1
    have t2 : (k == 2) = false := beq_eq_false_iff_ne.2 k2
    have t3 : (k == 3) = false := beq_eq_false_iff_ne.2 k3
    have K := Lib.hid (decide_eq_false (p := OkA (k, i, p)) (by simp only [OkA]; omega))
    clear k1 k2 k3
    go_enter Tryz.func92, Tryz.ntmps92
    go_wp2
    go_ret
    exact ⟨ret_bool K.out.symm, Grew.alloc _ _⟩

set_option maxRecDepth 100000 in
set_option maxHeartbeats 400000 in
theorem ace_any (x : Ace) (w : World) : Calls Tryz.prog 82 #[aggA x] w fun e w' => e = .returned (.bool (decide (OkA x))) ∧ Grew w w' := by
  obtain ⟨k, i, p⟩ := x
  unfold aggA
  simp only
  go_enter Tryz.func82, Tryz.ntmps82
  go_wp2
  all_goals
    go_ret
    exact ⟨ret_bool (by first | exact b_false (by simp only [OkA]; omega) | exact b_true (by simp only [OkA]; omega) | exact b_beq (by simp only [OkA]; omega)), Grew.alloc _ _⟩

/-! ### The order -/
set_option maxRecDepth 100000 in
set_option maxHeartbeats 400000 in
theorem less_any (x y : Ace) (w : World) : Calls Tryz.prog 83 #[aggA x, aggA y] w fun e w' => e = .returned (.bool (decide (ltA x y))) ∧ Grew w w' := by
  obtain ⟨k, i, p⟩ := x
  obtain ⟨k', i', p'⟩ := y
  unfold aggA
  simp only
  by_cases h1 : k < k'
  · have K := Lib.hid (decide_eq_true (p := ltA (k, i, p) (k', i', p')) (by simp only [ltA]; omega))
    go_enter Tryz.func83, Tryz.ntmps83
    go_wp2
    all_goals
      go_ret
      exact ⟨ret_bool K.out.symm, (Grew.alloc _ _).trans (Grew.alloc _ _)⟩
  · by_cases h2 : k = k'
    · subst h2
      have K := Lib.hid (show decide (ltA (k, i, p) (k, i', p')) = decide (i < i') from by rw [decide_eq_decide]; simp [ltA])
      clear h1
      go_enter Tryz.func83, Tryz.ntmps83
      go_wp2
      all_goals
        go_ret
        have K' := K.out
        exact ⟨ret_bool (by simp_all), (Grew.alloc _ _).trans (Grew.alloc _ _)⟩
    · have K := Lib.hid (decide_eq_false (p := ltA (k, i, p) (k', i', p')) (by simp only [ltA]; omega))
      have t2 : (k == k') = false := beq_eq_false_iff_ne.2 h2
      clear h2
      go_enter Tryz.func83, Tryz.ntmps83
      go_wp2
      all_goals
        go_ret
        exact ⟨ret_bool K.out.symm, (Grew.alloc _ _).trans (Grew.alloc _ _)⟩

def cmp3 (a b : Int) : Int := if a < b then -1 else if b < a then 1 else 0
def cmpA (x y : Ace) : Int := if cmp3 x.1 y.1 = 0 then cmp3 x.2.1 y.2.1 else cmp3 x.1 y.1
theorem cmpA_lt (x y : Ace) : cmpA x y < 0 ↔ ltA x y := by unfold cmpA cmp3 ltA; repeat' split <;> omega
set_option maxRecDepth 100000 in
set_option maxHeartbeats 400000 in
theorem isNaN_any (n : Int) (w : World) : Calls Tryz.prog 115 #[.int .i64 n] w fun e w' => e = .returned (.bool false) ∧ w' = w := by
  have t1 : (n != n) = false := bne_self_eq_false n
  go_enter Tryz.func115, Tryz.ntmps115
  go_wp2
  go_ret
  exact ⟨rfl, rfl⟩
set_option maxRecDepth 100000 in
set_option maxHeartbeats 400000 in
theorem cmp3_any (a b : Int) (w : World) : Calls Tryz.prog 108 #[.int .i64 a, .int .i64 b] w fun e w' => e = .returned (.int .i64 (cmp3 a b)) ∧ w' = w := by
  by_cases c1 : a < b
  · have E1 : Hid (cmp3 a b = -1) := if_pos c1
    go_enter Tryz.func108, Tryz.ntmps108
    go_wp2_with (go_at_call 115; refine (isNaN_any _ _).mono ?_; rintro e w1 ⟨rfl, rfl⟩)
    go_ret
    exact ⟨ret_int E1.out.symm, rfl⟩
  · by_cases c2 : b < a
    · have E1 : Hid (cmp3 a b = 1) := by show (if _ then _ else _) = _; rw [if_neg c1, if_pos c2]
      go_enter Tryz.func108, Tryz.ntmps108
      go_wp2_with (go_at_call 115; refine (isNaN_any _ _).mono ?_; rintro e w1 ⟨rfl, rfl⟩)
      go_ret
      exact ⟨ret_int E1.out.symm, rfl⟩
    · have E1 : Hid (cmp3 a b = 0) := by show (if _ then _ else _) = _; rw [if_neg c1, if_neg c2]
      go_enter Tryz.func108, Tryz.ntmps108
      go_wp2_with (go_at_call 115; refine (isNaN_any _ _).mono ?_; rintro e w1 ⟨rfl, rfl⟩)
      go_ret
      exact ⟨ret_int E1.out.symm, rfl⟩
end Go.Proofs.YtheobpilmphdjaaGreat
