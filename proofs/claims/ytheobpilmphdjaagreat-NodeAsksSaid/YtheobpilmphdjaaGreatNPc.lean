/-
  Pieces of a file as plain mathematics: which byte lies where; pieces in order with gaps are told by their bytes.
-/
import Derived.Test.YtheobpilmphdjaaGreatERng2
namespace Go.Proofs.YtheobpilmphdjaaGreat.Nd
open Go.Proofs.YtheobpilmphdjaaGreat.Ex.Rng

/-- A piece: where it begins, its bytes. -/
abbrev Pc := Int × ByteArray
def PIn (q : Nat) (p : Pc) : Prop := p.1 ≤ (q : Int) ∧ (q : Int) < p.1 + p.2.size
instance (q : Nat) (p : Pc) : Decidable (PIn q p) := inferInstanceAs (Decidable (_ ∧ _))
def byteP (p : Pc) (q : Nat) : UInt8 := p.2.data.getD ((q : Int) - p.1).toNat 0
def stepB (q : Nat) (a : Option UInt8) (p : Pc) : Option UInt8 := if PIn q p then some (byteP p q) else a
/-- The byte at q: of the last piece that has it. -/
def byteOf (l : List Pc) (q : Nat) : Option UInt8 := l.foldl (stepB q) none
theorem byteOf_nil (q : Nat) : byteOf [] q = none := rfl
theorem byteOf_add (l : List Pc) (p : Pc) (q : Nat) : byteOf (l ++ [p]) q = if PIn q p then some (byteP p q) else byteOf l q := by
  unfold byteOf
  rw [List.foldl_append]
  rfl
theorem foldB (q : Nat) : ∀ (l : List Pc) (a : Option UInt8), l.foldl (stepB q) a = (l.foldl (stepB q) none).or a
  | [], a => by simp
  | p :: r, a => by
    rw [List.foldl_cons, List.foldl_cons, foldB q r (stepB q a p), foldB q r (stepB q none p)]
    unfold stepB
    split <;> cases List.foldl (stepB q) none r <;> simp
theorem byteOf_append (l m : List Pc) (q : Nat) : byteOf (l ++ m) q = (byteOf m q).or (byteOf l q) := by
  unfold byteOf
  rw [List.foldl_append, foldB]
theorem byteOf_cons (p : Pc) (l : List Pc) (q : Nat) : byteOf (p :: l) q = (byteOf l q).or (if PIn q p then some (byteP p q) else none) := byteOf_append [p] l q
theorem byteOf_none {l : List Pc} {q : Nat} (h : ∀ p ∈ l, ¬ PIn q p) : byteOf l q = none := by
  induction l with
  | nil => rfl
  | cons p r ih => rw [byteOf_cons, ih fun x hx => h x (List.mem_cons_of_mem _ hx), if_neg (h p (by simp))]; rfl
theorem byteOf_some {l : List Pc} {q : Nat} : (byteOf l q).isSome = true ↔ ∃ p ∈ l, PIn q p := by
  constructor
  · intro h
    refine Classical.byContradiction fun hc => ?_
    rw [byteOf_none fun p hp hi => hc ⟨p, hp, hi⟩] at h
    cases h
  · rintro ⟨p, hp, hi⟩
    induction l with
    | nil => cases hp
    | cons x r ih =>
      rw [byteOf_cons]
      rcases List.mem_cons.1 hp with rfl | hp
      · rw [if_pos hi]; cases byteOf r q <;> rfl
      · have := ih hp
        cases e : byteOf r q with
        | none => rw [e] at this; cases this
        | some b => rfl

/-- In order, none empty, gaps between them. -/
def WF (l : List Pc) : Prop := (∀ p ∈ l, 0 ≤ p.1 ∧ 0 < p.2.size) ∧ l.Pairwise fun (x y : Pc) => x.1 + (x.2.size : Int) < y.1
/-- In order; they may touch. -/
def WT (l : List Pc) : Prop := (∀ p ∈ l, 0 ≤ p.1 ∧ 0 < p.2.size) ∧ l.Pairwise fun (x y : Pc) => x.1 + (x.2.size : Int) ≤ y.1
theorem WF.wt {l : List Pc} (h : WF l) : WT l := ⟨h.1, h.2.imp fun h => Int.le_of_lt h⟩
theorem WF.tail {p : Pc} {l : List Pc} (h : WF (p :: l)) : WF l := ⟨fun x hx => h.1 x (List.mem_cons_of_mem _ hx), (List.pairwise_cons.1 h.2).2⟩
theorem WT.tail {p : Pc} {l : List Pc} (h : WT (p :: l)) : WT l := ⟨fun x hx => h.1 x (List.mem_cons_of_mem _ hx), (List.pairwise_cons.1 h.2).2⟩
theorem WF.nil_ : WF [] := ⟨by simp, List.Pairwise.nil⟩
theorem WT.nil_ : WT [] := ⟨by simp, List.Pairwise.nil⟩
theorem WT.add {l : List Pc} {p : Pc} (h : WT l) (h0 : 0 ≤ p.1) (h1 : 0 < p.2.size) (hg : ∀ x ∈ l, x.1 + x.2.size ≤ p.1) : WT (l ++ [p]) := by
  refine ⟨fun x hx => ?_, List.pairwise_append.2 ⟨h.2, List.pairwise_singleton _ _, fun a ha b hb => ?_⟩⟩
  · rcases List.mem_append.1 hx with hx | hx
    · exact h.1 x hx
    · rw [List.mem_singleton.1 hx]; exact ⟨h0, h1⟩
  · rw [List.mem_singleton.1 hb]; exact hg a ha
theorem WF.add {l : List Pc} {p : Pc} (h : WF l) (h0 : 0 ≤ p.1) (h1 : 0 < p.2.size) (hg : ∀ x ∈ l, x.1 + x.2.size < p.1) : WF (l ++ [p]) := by
  refine ⟨fun x hx => ?_, List.pairwise_append.2 ⟨h.2, List.pairwise_singleton _ _, fun a ha b hb => ?_⟩⟩
  · rcases List.mem_append.1 hx with hx | hx
    · exact h.1 x hx
    · rw [List.mem_singleton.1 hx]; exact ⟨h0, h1⟩
  · rw [List.mem_singleton.1 hb]; exact hg a ha
/-- In order, one piece alone has a byte. -/
theorem WT.byte {l : List Pc} (h : WT l) {p : Pc} (hp : p ∈ l) {q : Nat} (hi : PIn q p) : byteOf l q = some (byteP p q) := by
  induction l with
  | nil => cases hp
  | cons x r ih =>
    rw [byteOf_cons]
    have hr := (List.pairwise_cons.1 h.2).1
    rcases List.mem_cons.1 hp with rfl | hp
    · rw [byteOf_none, if_pos hi]
      · rfl
      · intro y hy hiy
        have := hr y hy
        unfold PIn at hi hiy
        omega
    · rw [ih h.tail hp]; rfl

instance (q : Nat) (l : List X) : Decidable (Mem q l) := inferInstanceAs (Decidable (∃ x ∈ l, In q x))
def xN (p : Pc) : X := (p.1.toNat, p.2.size)
theorem WF.val {l : List Pc} (h : WF l) : Val (l.map xN) := by
  refine ⟨fun x hx => ?_, ?_⟩
  · obtain ⟨p, hp, rfl⟩ := List.mem_map.1 hx
    exact (h.1 p hp).2
  · rw [List.pairwise_map]
    refine List.Pairwise.imp_of_mem ?_ h.2
    intro a b ha hb hab
    have h1 := h.1 a ha
    have h2 := h.1 b hb
    show a.1.toNat + a.2.size < b.1.toNat
    omega
theorem mem_xN {l : List Pc} (h : ∀ p ∈ l, 0 ≤ p.1) (q : Nat) : Mem q (l.map xN) ↔ ∃ p ∈ l, PIn q p := by
  constructor
  · rintro ⟨x, hx, hi⟩
    obtain ⟨p, hp, rfl⟩ := List.mem_map.1 hx
    refine ⟨p, hp, ?_⟩
    have := h p hp
    have hi' : p.1.toNat ≤ q ∧ q < p.1.toNat + p.2.size := hi
    unfold PIn
    omega
  · rintro ⟨p, hp, hi⟩
    refine ⟨xN p, List.mem_map.2 ⟨p, hp, rfl⟩, ?_⟩
    have := h p hp
    unfold PIn at hi
    show p.1.toNat ≤ q ∧ q < p.1.toNat + p.2.size
    omega
theorem data_ext {a b : ByteArray} (hs : a.size = b.size) (h : ∀ i, i < a.size → a.data.getD i 0 = b.data.getD i 0) : a = b := by
  obtain ⟨a⟩ := a
  obtain ⟨b⟩ := b
  congr 1
  refine Array.ext hs fun i h1 h2 => ?_
  have := h i h1
  simpa [Array.getD, h1, h2] using this
/-- Their bytes tell them. -/
theorem wf_ext {a b : List Pc} (ha : WF a) (hb : WF b) (h : ∀ q, byteOf a q = byteOf b q) : a = b := by
  have hx : a.map xN = b.map xN := val_ext ha.val hb.val fun q => by
    rw [mem_xN (fun p hp => (ha.1 p hp).1), mem_xN (fun p hp => (hb.1 p hp).1), ← byteOf_some, ← byteOf_some, h q]
  have hl : a.length = b.length := by simpa using congrArg List.length hx
  refine List.ext_getElem hl fun i h1 h2 => ?_
  have hxi : xN a[i] = xN b[i] := by
    have := List.getElem_map (l := a) xN (i := i) (h := by simpa using h1)
    rw [← this, ← List.getElem_map (l := b) xN (i := i) (h := by simpa using h2)]
    congr 1
  have pa := ha.1 _ (List.getElem_mem h1)
  have pb := hb.1 _ (List.getElem_mem h2)
  have e1 : a[i].1.toNat = b[i].1.toNat := congrArg Prod.fst hxi
  have e2 : a[i].2.size = b[i].2.size := congrArg Prod.snd hxi
  have e3 : a[i].1 = b[i].1 := by omega
  refine Prod.ext e3 (data_ext e2 fun j hj => ?_)
  have ia : PIn (a[i].1.toNat + j) a[i] := by unfold PIn; omega
  have ib : PIn (a[i].1.toNat + j) b[i] := by unfold PIn; omega
  have := h (a[i].1.toNat + j)
  rw [ha.wt.byte (List.getElem_mem h1) ia, hb.wt.byte (List.getElem_mem h2) ib] at this
  have := Option.some.inj this
  unfold byteP at this
  rw [show ((((a[i].1.toNat + j : Nat) : Int)) - a[i].1).toNat = j by omega, show ((((a[i].1.toNat + j : Nat) : Int)) - b[i].1).toNat = j by omega] at this
  exact this

/-! ### The text of a range -/
def txt (l : List Pc) (a n : Nat) : ByteArray := ⟨((List.range n).map fun i => (byteOf l (a + i)).getD 0).toArray⟩
theorem txt_size (l : List Pc) (a n : Nat) : (txt l a n).size = n := by
  show (((List.range n).map _).toArray).size = n
  simp
theorem txt_at (l : List Pc) (a n i : Nat) (h : i < n) : (txt l a n).data.getD i 0 = (byteOf l (a + i)).getD 0 := by
  unfold txt
  simp [Array.getD, h]
theorem txt_congr {l m : List Pc} {a n : Nat} (h : ∀ q, a ≤ q → q < a + n → byteOf l q = byteOf m q) : txt l a n = txt m a n := by
  unfold txt
  congr 2
  refine List.map_congr_left fun i hi => ?_
  rw [h (a + i) (by omega) (by have := List.mem_range.1 hi; omega)]
/-- A piece for each range. -/
def layP (xs : List X) (l : List Pc) : List Pc := xs.map fun z => ((z.1 : Int), txt l z.1 z.2)
theorem layP_len (xs : List X) (l : List Pc) : (layP xs l).length = xs.length := by simp [layP]
theorem layP_xN (xs : List X) (l : List Pc) : (layP xs l).map xN = xs := by
  unfold layP
  rw [List.map_map]
  refine (List.map_congr_left fun z _ => ?_).trans (List.map_id _)
  show ((z.1 : Int).toNat, (txt l z.1 z.2).size) = z
  rw [txt_size]
  simp
theorem layP_wf {xs : List X} (h : Val xs) (l : List Pc) : WF (layP xs l) := by
  unfold layP
  refine ⟨fun p hp => ?_, ?_⟩
  · obtain ⟨z, hz, rfl⟩ := List.mem_map.1 hp
    have := h.1 z hz
    exact ⟨by simp, by rw [txt_size]; exact this⟩
  · rw [List.pairwise_map]
    refine h.2.imp fun {x y} hxy => ?_
    simp only [txt_size]
    omega
theorem layP_byte {xs : List X} (h : Val xs) (l : List Pc) (q : Nat) (hs : Mem q xs → (byteOf l q).isSome = true) : byteOf (layP xs l) q = if Mem q xs then byteOf l q else none := by
  have hw := layP_wf h l
  have hm := mem_xN (fun p hp => (hw.1 p hp).1) q
  rw [layP_xN] at hm
  by_cases hq : Mem q xs
  · rw [if_pos hq]
    obtain ⟨x, hx, hi⟩ := hq
    have hi' : x.1 ≤ q ∧ q < x.1 + x.2 := hi
    have hp : ((x.1 : Int), txt l x.1 x.2) ∈ layP xs l := List.mem_map.2 ⟨x, hx, rfl⟩
    rw [hw.wt.byte hp (q := q) (by unfold PIn; simp only [txt_size]; omega)]
    unfold byteP
    simp only
    rw [txt_at _ _ _ _ (by omega), show x.1 + ((q : Int) - (x.1 : Int)).toNat = q by omega]
    have := hs ⟨x, hx, hi⟩
    cases e : byteOf l q with
    | none => rw [e] at this; cases this
    | some b => rfl
  · rw [if_neg hq]
    exact byteOf_none fun p hp hi => hq (hm.2 ⟨p, hp, hi⟩)
/-- How many bytes they have together. -/
def sumP : List Pc → Nat
  | [] => 0
  | p :: r => p.2.size + sumP r
theorem sumP_append (l m : List Pc) : sumP (l ++ m) = sumP l + sumP m := by
  induction l with
  | nil => simp [sumP]
  | cons p r ih => simp only [List.cons_append, sumP, ih]; omega
end Go.Proofs.YtheobpilmphdjaaGreat.Nd
