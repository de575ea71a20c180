/-
  Lists of ranges of whole numbers: which numbers they hold; ascending lists with gaps are told by what they hold.
-/
import Derived.Test.YtheobpilmphdjaaGreatRows
namespace Go.Proofs.YtheobpilmphdjaaGreat.Ex.Rng

/-- The greatest place. -/
def M : Nat := 1099511627776
abbrev X := Nat × Nat
def limN (n : Int) : Nat := min (max n 0).toNat M
def lim (n : Int) : Int := (limN n : Int)
theorem limN_le (n : Int) : limN n ≤ M := by unfold limN; omega
theorem limN_nat (n : Nat) (h : n ≤ M) : limN (n : Int) = n := by unfold limN; omega
def cutN (x : X) : X := (x.1, min (x.1 + x.2) M - x.1)
def Ok (l : List X) : Prop := ∀ x ∈ l, x.1 ≤ M ∧ x.2 ≤ M
/-- p lies in x. -/
def In (p : Nat) (x : X) : Prop := x.1 ≤ p ∧ p < x.1 + x.2
instance (p : Nat) (x : X) : Decidable (In p x) := inferInstanceAs (Decidable (_ ∧ _))
def Mem (p : Nat) (l : List X) : Prop := ∃ x ∈ l, In p x
theorem Mem.nil_ (p : Nat) : ¬ Mem p [] := by rintro ⟨x, h, _⟩; cases h
theorem mem_cons (p : Nat) (x : X) (l : List X) : Mem p (x :: l) ↔ In p x ∨ Mem p l := by
  constructor
  · rintro ⟨y, h, k⟩
    rcases List.mem_cons.1 h with rfl | h
    · exact .inl k
    · exact .inr ⟨y, h, k⟩
  · rintro (h | ⟨y, h, k⟩)
    · exact ⟨x, by simp, h⟩
    · exact ⟨y, List.mem_cons_of_mem _ h, k⟩
theorem mem_append (p : Nat) (a b : List X) : Mem p (a ++ b) ↔ Mem p a ∨ Mem p b := by
  constructor
  · rintro ⟨y, h, k⟩
    rcases List.mem_append.1 h with h | h
    · exact .inl ⟨y, h, k⟩
    · exact .inr ⟨y, h, k⟩
  · rintro (⟨y, h, k⟩ | ⟨y, h, k⟩)
    · exact ⟨y, List.mem_append_left _ h, k⟩
    · exact ⟨y, List.mem_append_right _ h, k⟩
theorem mem_one (p : Nat) (x : X) : Mem p [x] ↔ In p x := by rw [mem_cons]; exact ⟨fun h => h.elim id fun h => absurd h (Mem.nil_ p), .inl⟩

/-- Ascending, none empty, a gap between two. -/
def Val (l : List X) : Prop := (∀ x ∈ l, 0 < x.2) ∧ l.Pairwise fun x y => x.1 + x.2 < y.1
/-- All end at s or before it. -/
def Upto (s : Nat) (l : List X) : Prop := ∀ x ∈ l, x.1 + x.2 ≤ s
theorem Val.nil_ : Val [] := ⟨by simp, List.Pairwise.nil⟩
theorem Upto.nil_ (s : Nat) : Upto s [] := by intro x h; cases h
theorem Val.add {l : List X} {z : X} (h : Val l) (hz : 0 < z.2) (hg : ∀ y ∈ l, y.1 + y.2 < z.1) : Val (l ++ [z]) := by
  refine ⟨fun x hx => ?_, List.pairwise_append.2 ⟨h.2, List.pairwise_singleton _ _, fun a ha b hb => ?_⟩⟩
  · rcases List.mem_append.1 hx with hx | hx
    · exact h.1 x hx
    · rw [List.mem_singleton.1 hx]; exact hz
  · rw [List.mem_singleton.1 hb]; exact hg a ha
theorem Upto.add {s : Nat} {l : List X} {z : X} (h : Upto s l) (hz : z.1 + z.2 ≤ s) : Upto s (l ++ [z]) := by
  intro x hx
  rcases List.mem_append.1 hx with hx | hx
  · exact h x hx
  · rw [List.mem_singleton.1 hx]; exact hz
theorem Val.left {a b : List X} (h : Val (a ++ b)) : Val a := ⟨fun x hx => h.1 x (List.mem_append_left _ hx), (List.pairwise_append.1 h.2).1⟩
theorem Val.gap {a b : List X} (h : Val (a ++ b)) : ∀ x ∈ a, ∀ y ∈ b, x.1 + x.2 < y.1 := (List.pairwise_append.1 h.2).2.2
theorem Upto.mem {s p : Nat} {l : List X} (h : Upto s l) (hm : Mem p l) : p < s := by
  obtain ⟨x, hx, h1, h2⟩ := hm
  have := h x hx
  omega
theorem upto_of_mem {s : Nat} {l : List X} (h : Val l) (hm : ∀ p, Mem p l → p < s) : Upto s l := by
  intro x hx
  have h0 := h.1 x hx
  have := hm (x.1 + x.2 - 1) ⟨x, hx, by unfold In; omega⟩
  omega
theorem Upto.ok {l : List X} (h : Upto M l) : Ok l := fun x hx => by have := h x hx; exact ⟨by omega, by omega⟩
theorem Upto.mono {s t : Nat} {l : List X} (h : Upto s l) (hs : s ≤ t) : Upto t l := fun x hx => Nat.le_trans (h x hx) hs

theorem val_least {x : X} {l : List X} (h : Val (x :: l)) {p : Nat} (hm : Mem p (x :: l)) : x.1 ≤ p := by
  obtain ⟨y, hy, h1, h2⟩ := hm
  rcases List.mem_cons.1 hy with rfl | hy
  · exact h1
  · have := (List.pairwise_cons.1 h.2).1 y hy
    omega
theorem val_tail {x : X} {l : List X} (h : Val (x :: l)) : Val l := ⟨fun y hy => h.1 y (List.mem_cons_of_mem _ hy), (List.pairwise_cons.1 h.2).2⟩
theorem val_gap {x : X} {l : List X} (h : Val (x :: l)) {p : Nat} (hm : Mem p l) : x.1 + x.2 < p := by
  obtain ⟨y, hy, h1, h2⟩ := hm
  have := (List.pairwise_cons.1 h.2).1 y hy
  omega
/-- What they hold tells the list. -/
theorem val_ext : ∀ {a b : List X}, Val a → Val b → (∀ p, Mem p a ↔ Mem p b) → a = b
  | [], [], _, _, _ => rfl
  | [], y :: b, _, hb, h => absurd ((h y.1).2 ⟨y, by simp, by have := hb.1 y (by simp); unfold In; omega⟩) (Mem.nil_ _)
  | x :: a, [], ha, _, h => absurd ((h x.1).1 ⟨x, by simp, by have := ha.1 x (by simp); unfold In; omega⟩) (Mem.nil_ _)
  | x :: a, y :: b, ha, hb, h => by
    have hx := ha.1 x (by simp)
    have hy := hb.1 y (by simp)
    have l1 : y.1 ≤ x.1 := val_least hb ((h x.1).1 ⟨x, by simp, by unfold In; omega⟩)
    have l2 : x.1 ≤ y.1 := val_least ha ((h y.1).2 ⟨y, by simp, by unfold In; omega⟩)
    have l3 : ¬ x.2 < y.2 := fun hlt => by
      have hm : Mem (x.1 + x.2) (x :: a) := (h _).2 ⟨y, by simp, by unfold In; omega⟩
      rcases (mem_cons _ _ _).1 hm with hm | hm
      · unfold In at hm; omega
      · have := val_gap ha hm; omega
    have l4 : ¬ y.2 < x.2 := fun hlt => by
      have hm : Mem (y.1 + y.2) (y :: b) := (h _).1 ⟨x, by simp, by unfold In; omega⟩
      rcases (mem_cons _ _ _).1 hm with hm | hm
      · unfold In at hm; omega
      · have := val_gap hb hm; omega
    have e : x = y := Prod.ext (by omega) (by omega)
    subst e
    have := val_ext (val_tail ha) (val_tail hb) fun p => by
      constructor
      · intro hm
        have hg := val_gap ha hm
        rcases (mem_cons _ _ _).1 ((h p).1 ((mem_cons _ _ _).2 (.inr hm))) with k | k
        · unfold In at k; omega
        · exact k
      · intro hm
        have hg := val_gap hb hm
        rcases (mem_cons _ _ _).1 ((h p).2 ((mem_cons _ _ _).2 (.inr hm))) with k | k
        · unfold In at k; omega
        · exact k
    rw [this]

/-- r holds what d holds below the greatest place, ascending, with gaps. -/
def IsNorm (d r : List X) : Prop := Val r ∧ Upto M r ∧ (∀ p, Mem p r ↔ Mem p d ∧ p < M) ∧ r.length ≤ d.length
theorem IsNorm.own {d r s : List X} (h : IsNorm d r) (k : IsNorm r s) : s = r :=
  val_ext k.1 h.1 fun p => by rw [k.2.2.1 p]; exact ⟨fun h => h.1, fun hm => ⟨hm, h.2.1.mem hm⟩⟩
theorem IsNorm.one {d r s : List X} (h : IsNorm d r) (k : IsNorm d s) : s = r :=
  val_ext k.1 h.1 fun p => by rw [k.2.2.1 p, h.2.2.1 p]

/-! ### Cut and ordered -/
def shut (d : List X) : List X := (d.map cutN).filter fun x => decide (0 < x.2)
theorem shut_len (d : List X) : (shut d).length ≤ d.length := by unfold shut; exact Nat.le_trans (List.length_filter_le _ _) (by simp)
theorem shut_take (d : List X) (k : Nat) (h : k < d.length) : shut (d.take (k + 1)) = if 0 < (cutN d[k]).2 then shut (d.take k) ++ [cutN d[k]] else shut (d.take k) := by
  unfold shut
  rw [List.take_succ_eq_append_getElem h, List.map_append, List.filter_append]
  simp only [List.map_cons, List.map_nil]
  by_cases h0 : 0 < (cutN d[k]).2
  · rw [if_pos h0, List.filter_cons_of_pos (by simpa using h0)]; rfl
  · rw [if_neg h0, List.filter_cons_of_neg (by simpa using h0)]; simp
theorem shut_mem (d : List X) (hd : Ok d) (p : Nat) : Mem p (shut d) ↔ Mem p d ∧ p < M := by
  constructor
  · rintro ⟨x, hx, h1, h2⟩
    obtain ⟨hx, _⟩ := List.mem_filter.1 hx
    obtain ⟨y, hy, rfl⟩ := List.mem_map.1 hx
    have := hd y hy
    unfold cutN at h1 h2
    exact ⟨⟨y, hy, by unfold In; simp only at h1 h2; omega⟩, by simp only at h1 h2; omega⟩
  · rintro ⟨⟨x, hx, h1, h2⟩, h3⟩
    exact ⟨cutN x, List.mem_filter.2 ⟨List.mem_map.2 ⟨x, hx, rfl⟩, decide_eq_true (by unfold cutN; simp only; omega)⟩, by unfold In cutN; simp only; omega⟩
/-- What sorted hands back. -/
def Srt (d r : List X) : Prop := (∀ x, x ∈ r ↔ x ∈ shut d) ∧ r.length = (shut d).length ∧ r.Pairwise fun x y => x.1 ≤ y.1
theorem Srt.pos {d r : List X} (h : Srt d r) : ∀ x ∈ r, 0 < x.2 := fun x hx => by
  obtain ⟨_, hx⟩ := List.mem_filter.1 ((h.1 x).1 hx)
  exact of_decide_eq_true hx
theorem Srt.upto {d r : List X} (hd : Ok d) (h : Srt d r) : Upto M r := fun x hx => by
  obtain ⟨hx, _⟩ := List.mem_filter.1 ((h.1 x).1 hx)
  obtain ⟨y, hy, rfl⟩ := List.mem_map.1 hx
  have := hd y hy
  unfold cutN
  simp only
  omega
theorem Srt.mem {d r : List X} (hd : Ok d) (h : Srt d r) (p : Nat) : Mem p r ↔ Mem p d ∧ p < M := by
  rw [← shut_mem d hd p]
  exact ⟨fun ⟨x, hx, k⟩ => ⟨x, (h.1 x).1 hx, k⟩, fun ⟨x, hx, k⟩ => ⟨x, (h.1 x).2 hx, k⟩⟩

/-! ### The merging of an ordered row -/
/-- What has come of the first k of r. -/
def Mrg (r : List X) (k : Nat) (out : List X) : Prop :=
  Val out ∧ Upto M out ∧ (∀ p, Mem p out ↔ Mem p (r.take k)) ∧ out.length ≤ k ∧ ∀ y ∈ out, ∃ x ∈ r.take k, y.1 = x.1
theorem Mrg.start (r : List X) : Mrg r 0 [] := ⟨Val.nil_, Upto.nil_ _, fun p => by simp, by simp, by simp⟩
theorem Mrg.done {d r out : List X} (hd : Ok d) (hs : Srt d r) (h : Mrg r r.length out) : IsNorm d out := by
  refine ⟨h.1, h.2.1, fun p => ?_, ?_⟩
  · rw [h.2.2.1 p, List.take_length, hs.mem hd p]
  · have := h.2.2.2.1
    have := hs.2.1
    have := shut_len d
    omega
theorem take_mem (r : List X) (k : Nat) (hk : k < r.length) (p : Nat) : Mem p (r.take (k + 1)) ↔ Mem p (r.take k) ∨ In p r[k] := by
  rw [List.take_succ_eq_append_getElem hk, mem_append, mem_one]
theorem take_sub {r : List X} {k : Nat} {x : X} (h : x ∈ r.take k) : x ∈ r.take (k + 1) := by
  have : r.take k <+: r.take (k + 1) := List.take_prefix_take_left (by omega)
  exact this.subset h
theorem at_mem (r : List X) (k : Nat) (hk : k < r.length) : r[k] ∈ r.take (k + 1) := by
  rw [List.take_succ_eq_append_getElem hk]
  exact List.mem_append_right _ (List.mem_singleton.2 rfl)
theorem Mrg.new {r out : List X} {k : Nat} (hk : k < r.length) (hp : ∀ x ∈ r, 0 < x.2) (hu : Upto M r) (h : Mrg r k out) (hg : ∀ y ∈ out, y.1 + y.2 < r[k].1) : Mrg r (k + 1) (out ++ [r[k]]) := by
  obtain ⟨h1, h2, h3, h4, h5⟩ := h
  refine ⟨h1.add (hp _ (List.getElem_mem hk)) hg, h2.add (hu _ (List.getElem_mem hk)), fun p => ?_, by simp; omega, fun y hy => ?_⟩
  · rw [mem_append, mem_one, take_mem r k hk, h3 p]
  · rcases List.mem_append.1 hy with hy | hy
    · obtain ⟨x, hx, e⟩ := h5 y hy
      exact ⟨x, take_sub hx, e⟩
    · rw [List.mem_singleton.1 hy]
      exact ⟨_, at_mem r k hk, rfl⟩
theorem Mrg.least {r out : List X} {k : Nat} (hk : k < r.length) (hs : r.Pairwise fun x y => x.1 ≤ y.1) (h : Mrg r k out) : ∀ y ∈ out, y.1 ≤ r[k].1 := by
  intro y hy
  obtain ⟨x, hx, e⟩ := h.2.2.2.2 y hy
  rw [e]
  obtain ⟨i, hi, rfl⟩ := List.mem_iff_getElem.1 hx
  rw [List.length_take] at hi
  rw [List.getElem_take]
  exact List.pairwise_iff_getElem.1 hs i k (by omega) hk (by omega)
/-- The last of a row that is not empty. -/
theorem last_form {out : List X} (h : 0 < out.length) : ∃ o y, out = o ++ [y] ∧ o.length = out.length - 1 := by
  refine ⟨out.dropLast, out.getLast (List.length_pos_iff.1 h), (List.dropLast_concat_getLast _).symm, by simp⟩
theorem Mrg.apart {r o : List X} {y : X} {k : Nat} (hk : k < r.length) (h : Mrg r k (o ++ [y])) (hg : y.1 + y.2 < r[k].1) : ∀ z ∈ o ++ [y], z.1 + z.2 < r[k].1 := by
  intro z hz
  rcases List.mem_append.1 hz with hz | hz
  · have h1 := h.1.gap z hz y (by simp)
    omega
  · rw [List.mem_singleton.1 hz]; exact hg
theorem Mrg.join {r o : List X} {y : X} {k : Nat} (hk : k < r.length) (hu : Upto M r) (hs : r.Pairwise fun x y => x.1 ≤ y.1) (h : Mrg r k (o ++ [y])) (hg : r[k].1 ≤ y.1 + y.2) :
    Mrg r (k + 1) (o ++ [(y.1, max (y.1 + y.2) (r[k].1 + r[k].2) - y.1)]) := by
  have hl := h.least hk hs y (by simp)
  have huk := hu _ (List.getElem_mem hk)
  obtain ⟨h1, h2, h3, h4, h5⟩ := h
  have hy := h1.1 y (by simp)
  have hy2 := h2 y (by simp)
  have hgap := h1.gap
  refine ⟨h1.left.add (by simp only; omega) (fun z hz => hgap z hz y (by simp)), Upto.add (fun z hz => h2 z (List.mem_append_left _ hz)) (by simp only; omega), fun p => ?_, by simp at h4 ⊢; omega, fun z hz => ?_⟩
  · rw [mem_append, mem_one, take_mem r k hk, ← h3 p, mem_append, mem_one]
    generalize r[k] = z at *
    constructor
    · rintro (h | h)
      · exact .inl (.inl h)
      · unfold In at *
        simp only at h
        by_cases hp : p < y.1 + y.2
        · exact .inl (.inr (by omega))
        · exact .inr (by omega)
    · rintro ((h | h) | h)
      · exact .inl h
      · refine .inr ?_; unfold In at *; simp only; omega
      · refine .inr ?_; unfold In at *; simp only; omega
  · rcases List.mem_append.1 hz with hz | hz
    · obtain ⟨x, hx, e⟩ := h5 z (List.mem_append_left _ hz)
      exact ⟨x, take_sub hx, e⟩
    · rw [List.mem_singleton.1 hz]
      obtain ⟨x, hx, e⟩ := h5 y (by simp)
      exact ⟨x, take_sub hx, e⟩
end Go.Proofs.YtheobpilmphdjaaGreat.Ex.Rng
