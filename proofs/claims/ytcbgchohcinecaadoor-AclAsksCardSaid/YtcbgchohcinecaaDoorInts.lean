/-
  Slices of integers; the contracts of slices.Index, Contains, IndexFunc, ContainsFunc at them, of the closure in acl.Lets, and of the document's 'in'.
-/
import Derived.Test.YtcbgchohcinecaaDoorMem
namespace Go.Proofs.YtcbgchohcinecaaDoor
open Go.RowKit

/-- A slice value that reads as these integers. -/
def IntsAt (w : World) (v : Value) (gs : List Int) : Prop :=
  (gs = [] ∧ ∃ a cap, v = .slice a 0 cap ∧ (a = none → cap = 0)) ∨
  ∃ g o cap, v = .slice (some ⟨g, o, none⟩) gs.length cap ∧ gs.length ≤ cap ∧ cap ≤ maxLen ∧ ∀ i (h : i < gs.length), w.cell? ⟨g, o + i, none⟩ = some (.int .i64 gs[i])
theorem IntsAt.nil_ (w : World) : IntsAt w (.slice none 0 0) [] := .inl ⟨rfl, _, _, rfl, fun _ => rfl⟩
theorem IntsAt.form {w : World} {v : Value} {l : List Int} (h : IntsAt w v l) : ∃ A c, v = .slice A l.length c := by
  rcases h with ⟨rfl, a, c, rfl, _⟩ | ⟨g, o, cap, rfl, _⟩
  · exact ⟨_, _, rfl⟩
  · exact ⟨_, _, rfl⟩
theorem IntsAt.len {w : World} {v : Value} {l : List Int} (h : IntsAt w v l) : l.length ≤ maxLen := by
  rcases h with ⟨rfl, a, c, rfl, _⟩ | ⟨g, o, cap, rfl, h1, h2, _⟩
  · simp
  · omega
theorem IntsAt.at_ {w : World} {v : Value} {l : List Int} (h : IntsAt w v l) (hn : 0 < l.length) : ∃ g o cap, v = .slice (some ⟨g, o, none⟩) l.length cap ∧ l.length ≤ cap ∧ cap ≤ maxLen ∧ ∀ i (h : i < l.length), w.cell? ⟨g, o + i, none⟩ = some (.int .i64 l[i]) := by
  rcases h with ⟨rfl, a, c, rfl, _⟩ | h
  · simp at hn
  · exact h
theorem IntsAt.keep {w w' : World} {v : Value} {l : List Int} (h : IntsAt w v l) (q : Q w w') : IntsAt w' v l := by
  rcases h with h | ⟨g, o, cap, e, h1, h2, h3⟩
  · exact .inl h
  · exact .inr ⟨g, o, cap, e, h1, h2, fun i hi => q.cell (h3 i hi)⟩
theorem spot_none {w : World} {x : Addr} {v : Value} (h : w.cell? x = some v) : ∃ g o, x = ⟨g, o, none⟩ := by
  obtain ⟨g, o, s⟩ := x
  cases s with
  | none => exact ⟨g, o, rfl⟩
  | some s =>
    unfold World.cell? at h
    simp at h
    split at h <;> cases h
theorem IntsAt.of_row {w : World} {a : Option Addr} {len cap : Nat} {zs : List Int} (h : IsRow .i64 w a len cap zs) : IntsAt w (.slice a len cap) (zs.take len) := by
  rcases h with ⟨rfl, rfl, rfl, rfl⟩ | ⟨x, rfl, r1, r2, r3, r4, r5⟩
  · exact .inl ⟨rfl, _, _, rfl, fun _ => rfl⟩
  · by_cases h0 : len = 0
    · subst h0
      exact .inl ⟨rfl, _, _, rfl, fun e => by cases e⟩
    · obtain ⟨g, o, rfl⟩ : ∃ g o, x = ⟨g, o, none⟩ := by
        have h0 := r4 0 (by omega)
        obtain ⟨g, o, s⟩ := x
        cases s with
        | none => exact ⟨g, o, rfl⟩
        | some s =>
          obtain ⟨g', o', e⟩ := spot_none h0
          unfold Addr.add at e
          simp at e
      refine .inr ⟨g, o, cap, by rw [List.length_take, Nat.min_eq_left (by omega)], by rw [List.length_take]; omega, r2, fun i hi => ?_⟩
      have hi' : i < zs.length := by rw [List.length_take] at hi; omega
      have := r4 i hi'
      rw [Addr.add_lit] at this
      rw [this, List.getElem_take]
      simp [List.getD, List.getElem?_eq_getElem hi']
def intV (n : Int) : Value := .int .i64 n
theorem IntsAt.of_own {w : World} {B : Nat} {e : TypeId} {v : Value} {l : List Int} (h : w.ownsRow B e 1 v l.length (l.map intV)) : IntsAt w v l := by
  rcases h.2 with ⟨rfl, hn⟩ | ⟨g, cap, cur, rfl, hb, hg, h1, h2, h3, h4⟩
  · exact .inl ⟨List.eq_nil_of_length_eq_zero hn, _, _, rfl, fun _ => rfl⟩
  · refine .inr ⟨g, 0, cap, rfl, h1, h2, fun i hi => ?_⟩
    have := h.cells (g := g) rfl i (intV l[i]) (by simp [hi])
    rwa [Addr.add_lit] at this

/-! ### Looking for one -/
def NotIn (p : Int → Bool) (gs : List Int) (k : Nat) : Prop := ∀ j (h : j < gs.length), j < k → p gs[j] = false
theorem NotIn.zero (p : Int → Bool) (gs : List Int) : NotIn p gs 0 := fun j h hk => by omega
theorem NotIn.step {p : Int → Bool} {gs : List Int} {k : Nat} (hk : k < gs.length) (h : NotIn p gs k) (h1 : p gs[k] = false) : NotIn p gs (k + 1) := fun j hj hjk => by
  by_cases e : j = k
  · subst e; exact h1
  · exact h j hj (by omega)
theorem NotIn.none {p : Int → Bool} {gs : List Int} {k : Nat} (h : NotIn p gs k) (hk : gs.length ≤ k) : gs.any p = false := by
  rw [List.any_eq_false]
  intro x hx
  obtain ⟨j, hj, rfl⟩ := List.getElem_of_mem hx
  rw [h j hj (by omega)]
  simp
theorem any_some {p : Int → Bool} {gs : List Int} {k : Nat} (hk : k < gs.length) (h1 : p gs[k] = true) : gs.any p = true :=
  List.any_eq_true.2 ⟨_, List.getElem_mem hk, h1⟩
def isIt (x y : Int) : Bool := x == y
theorem isIt_any (gs : List Int) (x : Int) : gs.any (isIt x) = gs.contains x := by
  unfold isIt
  rw [Bool.eq_iff_iff, List.any_eq_true, List.contains_iff_mem]
  simp

def IdxPost (b : Bool) (w : World) (e : Ending) (w' : World) : Prop := ∃ r : Int, e = .returned (.int .i64 r) ∧ decide (0 ≤ r) = b ∧ w' = w

set_option maxHeartbeats 1000000 in
theorem index_any (v : Value) (gs : List Int) (x : Int) (w : World) (h : IntsAt w v gs) :
    Calls Tryd.prog 57 #[v, .int .i64 x] w (IdxPost (gs.any (isIt x)) w) := by
  have ll := h.len
  obtain ⟨A, c, rfl⟩ := h.form
  unfold maxLen at ll
  go_enter Tryd.func57, Tryd.ntmps57
  go_wp2
  go_loopw [5, 8] (fun _ i wr => ∃ k : Nat, i = .int .i64 k ∧ k ≤ gs.length ∧ wr = w ∧ Hid (NotIn (isIt x) gs k)) (fun _ i _ => gs.length - (intOf i).toNat)
  case atStart => exact ⟨0, rfl, by omega, rfl, NotIn.zero _ _⟩
  case round =>
    obtain ⟨k, rfl, hk, rfl, H⟩ := hrel
    by_cases hlt : k < gs.length
    · obtain ⟨g, o, _, ea, _, _, hc⟩ := h.at_ (by omega)
      cases ea
      have c1 := hc k hlt
      have En : Hid (isIt x gs[k] = true → gs.any (isIt x) = true) := any_some hlt
      have Ey : Hid (isIt x gs[k] = false → NotIn (isIt x) gs (k + 1)) := NotIn.step hlt H.out
      clear hc h H
      generalize gs[k] = y at *
      cases hb : x == y with
      | true =>
        have E := Lib.hid (En.out hb)
        clear En Ey
        go_wp2
        go_ret
        exact ⟨_, rfl, (decide_eq_true (by omega)).trans E.out.symm, rfl⟩
      | false =>
        have E := Lib.hid (Ey.out hb)
        clear En Ey
        go_wp2
        go_roundw
        case rel => exact ⟨k + 1, by go_num, by omega, trivial, E⟩
        case measure => simp [intOf]; omega
    · have E := Lib.hid (H.out.none (by omega))
      clear H
      go_wp2
      go_ret
      exact ⟨_, rfl, E.out.symm, rfl⟩
set_option maxHeartbeats 1000000 in
theorem contains_any (v : Value) (gs : List Int) (x : Int) (w : World) (h : IntsAt w v gs) :
    Calls Tryd.prog 42 #[v, .int .i64 x] w fun e w' => e = .returned (.bool (gs.contains x)) ∧ w' = w := by
  rw [← isIt_any]
  have HI := Lib.hid (index_any v gs x w h)
  generalize gs.any (isIt x) = b at *
  go_enter Tryd.func42, Tryd.ntmps42
  go_wp2_with fail
  refine HI.out.mono ?_
  rintro e w1 ⟨r, rfl, hr, rfl⟩
  go_wp2
  go_ret
  exact ⟨rfl, rfl⟩
set_option maxHeartbeats 1000000 in
theorem in_any (v : Value) (gs : List Int) (x : Int) (w : World) (h : IntsAt w v gs) :
    Calls Tryd.prog 33 #[v, .int .i64 x] w fun e w' => e = .returned (.bool (gs.contains x)) ∧ w' = w := by
  rw [← isIt_any]
  have ll := h.len
  obtain ⟨A, c, rfl⟩ := h.form
  unfold maxLen at ll
  go_enter Tryd.func33, Tryd.ntmps33
  go_wp2
  go_loopw [5] (fun i wr => ∃ k : Nat, i = .int .i64 k ∧ k ≤ gs.length ∧ wr = w ∧ Hid (NotIn (isIt x) gs k)) (fun i _ => gs.length - (intOf i).toNat)
  case atStart => exact ⟨0, rfl, by omega, rfl, NotIn.zero _ _⟩
  case round =>
    obtain ⟨k, rfl, hk, rfl, H⟩ := hrel
    by_cases hlt : k < gs.length
    · obtain ⟨g, o, _, ea, _, _, hc⟩ := h.at_ (by omega)
      cases ea
      have c1 := hc k hlt
      have En : Hid (isIt x gs[k] = true → gs.any (isIt x) = true) := any_some hlt
      have Ey : Hid (isIt x gs[k] = false → NotIn (isIt x) gs (k + 1)) := NotIn.step hlt H.out
      clear hc h H
      generalize gs[k] = y at *
      by_cases e : y = x
      · have hb : (y == x) = true := beq_iff_eq.2 e
        have E := Lib.hid (En.out (beq_iff_eq.2 e.symm))
        clear En Ey e
        go_wp2
        go_ret
        exact ⟨ret_bool E.out.symm, rfl⟩
      · have hb : (y == x) = false := beq_eq_false_iff_ne.2 e
        have E := Lib.hid (Ey.out (beq_eq_false_iff_ne.2 fun k => e k.symm))
        clear En Ey e
        go_wp2
        go_roundw
        case rel => exact ⟨k + 1, by go_num, by omega, trivial, E⟩
        case measure => simp [intOf]; omega
    · have E := Lib.hid (H.out.none (by omega))
      clear H
      go_wp2
      go_ret
      exact ⟨ret_bool E.out.symm, rfl⟩

/-! ### The closure in Lets: has(perm&mask, ask) -/
def letB (m a : Int) (p : Int) : Bool := hasB (band p m) a
theorem closure_any (x m a : Int) (Bm Ba : Nat) (w : World) (c1 : w.cell? ⟨Bm, 0, none⟩ = some (.int .i64 m)) (c2 : w.cell? ⟨Ba, 0, none⟩ = some (.int .i64 a)) :
    Calls Tryd.prog 32 #[.int .i64 x, .pointer (some ⟨Bm, 0, none⟩), .pointer (some ⟨Ba, 0, none⟩)] w fun e w' => e = .returned (.bool (letB m a x)) ∧ w' = w := by
  have HB := Lib.hid (fun w => has_any (band x m) a w)
  unfold letB
  unfold band at *
  go_enter Tryd.func32, Tryd.ntmps32
  go_wp2_with fail
  refine (HB.out _).mono ?_
  rintro e w1 ⟨rfl, rfl⟩
  go_wp2
  go_ret
  exact ⟨rfl, rfl⟩
set_option maxHeartbeats 1000000 in
theorem indexFunc_any (v : Value) (ps : List Int) (m a : Int) (Bm Ba : Nat) (w : World) (h : IntsAt w v ps) (c1 : w.cell? ⟨Bm, 0, none⟩ = some (.int .i64 m)) (c2 : w.cell? ⟨Ba, 0, none⟩ = some (.int .i64 a)) :
    Calls Tryd.prog 43 #[v, .func (.func 32) #[] #[.pointer (some ⟨Bm, 0, none⟩), .pointer (some ⟨Ba, 0, none⟩)]] w (IdxPost (ps.any (letB m a)) w) := by
  have ll := h.len
  obtain ⟨A, c, rfl⟩ := h.form
  unfold maxLen at ll
  have HC := Lib.hid (fun x => closure_any x m a Bm Ba w c1 c2)
  clear c1 c2
  go_enter Tryd.func43, Tryd.ntmps43
  go_wp2
  go_loopw [5, 8] (fun _ i wr => ∃ k : Nat, i = .int .i64 k ∧ k ≤ ps.length ∧ wr = w ∧ Hid (NotIn (letB m a) ps k)) (fun _ i _ => ps.length - (intOf i).toNat)
  case atStart => exact ⟨0, rfl, by omega, rfl, NotIn.zero _ _⟩
  case round =>
    obtain ⟨k, rfl, hk, rfl, H⟩ := hrel
    by_cases hlt : k < ps.length
    · obtain ⟨g, o, _, ea, _, _, hc⟩ := h.at_ (by omega)
      cases ea
      have c1 := hc k hlt
      have En : Hid (letB m a ps[k] = true → ps.any (letB m a) = true) := any_some hlt
      have Ey : Hid (letB m a ps[k] = false → NotIn (letB m a) ps (k + 1)) := NotIn.step hlt H.out
      have HD := Lib.hid (HC.out ps[k])
      clear hc h H
      generalize ps[k] = y at *
      cases hb : letB m a y with
      | true =>
        have E := Lib.hid (En.out hb)
        rw [hb] at HD
        clear En Ey hb
        go_wp2_with fail
        refine HD.out.mono ?_
        rintro e w1 ⟨rfl, rfl⟩
        go_wp2
        go_ret
        exact ⟨_, rfl, (decide_eq_true (by omega)).trans E.out.symm, rfl⟩
      | false =>
        have E := Lib.hid (Ey.out hb)
        rw [hb] at HD
        clear En Ey hb
        go_wp2_with fail
        refine HD.out.mono ?_
        rintro e w1 ⟨rfl, rfl⟩
        go_wp2
        go_roundw
        case rel => exact ⟨k + 1, by go_num, by omega, trivial, E⟩
        case measure => simp [intOf]; omega
    · have E := Lib.hid (H.out.none (by omega))
      clear H
      go_wp2
      go_ret
      exact ⟨_, rfl, E.out.symm, rfl⟩
set_option maxHeartbeats 1000000 in
theorem containsFunc_any (v : Value) (ps : List Int) (m a : Int) (Bm Ba : Nat) (w : World) (h : IntsAt w v ps) (c1 : w.cell? ⟨Bm, 0, none⟩ = some (.int .i64 m)) (c2 : w.cell? ⟨Ba, 0, none⟩ = some (.int .i64 a)) :
    Calls Tryd.prog 31 #[v, .func (.func 32) #[] #[.pointer (some ⟨Bm, 0, none⟩), .pointer (some ⟨Ba, 0, none⟩)]] w fun e w' => e = .returned (.bool (ps.any (letB m a))) ∧ w' = w := by
  have HI := Lib.hid (indexFunc_any v ps m a Bm Ba w h c1 c2)
  generalize ps.any (letB m a) = b at *
  clear c1 c2
  go_enter Tryd.func31, Tryd.ntmps31
  go_wp2_with fail
  refine HI.out.mono ?_
  rintro e w1 ⟨r, rfl, hr, rfl⟩
  go_wp2
  go_ret
  exact ⟨rfl, rfl⟩
end Go.Proofs.YtcbgchohcinecaaDoor
