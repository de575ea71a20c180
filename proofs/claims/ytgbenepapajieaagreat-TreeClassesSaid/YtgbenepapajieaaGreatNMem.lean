/-
  Pieces of a file as plain mathematics: which byte lies where; pieces in order with gaps are told by their bytes. What is written, cut and read, as plain mathematics: the document's clip and join; the code's pieces laid over ranges are the same. Pieces in memory; the contracts of node's offset, device, target, Bytes, extents, total.
-/
import Derived.Test.YtgbenepapajieaaGreatEMeet
import Derived.Lib.Bytealg
import Derived.Lib.IndexLaws
import Derived.Test.YtgbenepapajieaaGreatEMay
import Derived.Test.YtgbenepapajieaaGreatOpenM
namespace Go.Proofs.YtgbenepapajieaaGreat.Nd
open Go.Proofs.YtgbenepapajieaaGreat.Ex.Rng

/-- A piece: where it begins, its bytes. -/
abbrev Pc := Int × ByteArray
def PIn (q : Nat) (p : Pc) : Prop := p.1 ≤ (q : Int) ∧ (q : Int) < p.1 + p.2.size
instance (q : Nat) (p : Pc) : Decidable (PIn q p) := inferInstanceAs (Decidable (_ ∧ _))
def byteP (p : Pc) (q : Nat) : UInt8 := p.2.data.getD ((q : Int) - p.1).toNat 0
def stepB (q : Nat) (a : Option UInt8) (p : Pc) : Option UInt8 := if PIn q p then some (byteP p q) else a
/-- The byte at q: of the last piece that has it. -/
def byteOf (l : List Pc) (q : Nat) : Option UInt8 := l.foldl (stepB q) none
theorem byteOf_nil (q : Nat) : byteOf [] q = none := rfl
theorem byteOf_add (l : List Pc) (p : Pc) (q : Nat) : byteOf (l ++ [p]) q = if PIn q p then some (byteP p q) else byteOf l q := by
  unfold byteOf
  rw [List.foldl_append]
  rfl
theorem foldB (q : Nat) : ∀ (l : List Pc) (a : Option UInt8), l.foldl (stepB q) a = (l.foldl (stepB q) none).or a
  | [], a => by simp
  | p :: r, a => by
    rw [List.foldl_cons, List.foldl_cons, foldB q r (stepB q a p), foldB q r (stepB q none p)]
    unfold stepB
    split <;> cases List.foldl (stepB q) none r <;> simp
theorem byteOf_append (l m : List Pc) (q : Nat) : byteOf (l ++ m) q = (byteOf m q).or (byteOf l q) := by
  unfold byteOf
  rw [List.foldl_append, foldB]
theorem byteOf_cons (p : Pc) (l : List Pc) (q : Nat) : byteOf (p :: l) q = (byteOf l q).or (if PIn q p then some (byteP p q) else none) := byteOf_append [p] l q
theorem byteOf_none {l : List Pc} {q : Nat} (h : ∀ p ∈ l, ¬ PIn q p) : byteOf l q = none := by
  induction l with
  | nil => rfl
  | cons p r ih => rw [byteOf_cons, ih fun x hx => h x (List.mem_cons_of_mem _ hx), if_neg (h p (by simp))]; rfl
theorem byteOf_some {l : List Pc} {q : Nat} : (byteOf l q).isSome = true ↔ ∃ p ∈ l, PIn q p := by
  constructor
  · intro h
    refine Classical.byContradiction fun hc => ?_
    rw [byteOf_none fun p hp hi => hc ⟨p, hp, hi⟩] at h
    cases h
  · rintro ⟨p, hp, hi⟩
    induction l with
    | nil => cases hp
    | cons x r ih =>
      rw [byteOf_cons]
      rcases List.mem_cons.1 hp with rfl | hp
      · rw [if_pos hi]; cases byteOf r q <;> rfl
      · have := ih hp
        cases e : byteOf r q with
        | none => rw [e] at this; cases this
        | some b => rfl

/-- In order, none empty, gaps between them. -/
def WF (l : List Pc) : Prop := (∀ p ∈ l, 0 ≤ p.1 ∧ 0 < p.2.size) ∧ l.Pairwise fun (x y : Pc) => x.1 + (x.2.size : Int) < y.1
/-- In order; they may touch. -/
def WT (l : List Pc) : Prop := (∀ p ∈ l, 0 ≤ p.1 ∧ 0 < p.2.size) ∧ l.Pairwise fun (x y : Pc) => x.1 + (x.2.size : Int) ≤ y.1
theorem WF.wt {l : List Pc} (h : WF l) : WT l := ⟨h.1, h.2.imp fun h => Int.le_of_lt h⟩
theorem WF.tail {p : Pc} {l : List Pc} (h : WF (p :: l)) : WF l := ⟨fun x hx => h.1 x (List.mem_cons_of_mem _ hx), (List.pairwise_cons.1 h.2).2⟩
theorem WT.tail {p : Pc} {l : List Pc} (h : WT (p :: l)) : WT l := ⟨fun x hx => h.1 x (List.mem_cons_of_mem _ hx), (List.pairwise_cons.1 h.2).2⟩
theorem WF.nil_ : WF [] := ⟨by simp, List.Pairwise.nil⟩
theorem WT.nil_ : WT [] := ⟨by simp, List.Pairwise.nil⟩
theorem WT.add {l : List Pc} {p : Pc} (h : WT l) (h0 : 0 ≤ p.1) (h1 : 0 < p.2.size) (hg : ∀ x ∈ l, x.1 + x.2.size ≤ p.1) : WT (l ++ [p]) := by
  refine ⟨fun x hx => ?_, List.pairwise_append.2 ⟨h.2, List.pairwise_singleton _ _, fun a ha b hb => ?_⟩⟩
  · rcases List.mem_append.1 hx with hx | hx
    · exact h.1 x hx
    · rw [List.mem_singleton.1 hx]; exact ⟨h0, h1⟩
  · rw [List.mem_singleton.1 hb]; exact hg a ha
theorem WF.add {l : List Pc} {p : Pc} (h : WF l) (h0 : 0 ≤ p.1) (h1 : 0 < p.2.size) (hg : ∀ x ∈ l, x.1 + x.2.size < p.1) : WF (l ++ [p]) := by
  refine ⟨fun x hx => ?_, List.pairwise_append.2 ⟨h.2, List.pairwise_singleton _ _, fun a ha b hb => ?_⟩⟩
  · rcases List.mem_append.1 hx with hx | hx
    · exact h.1 x hx
    · rw [List.mem_singleton.1 hx]; exact ⟨h0, h1⟩
  · rw [List.mem_singleton.1 hb]; exact hg a ha
/-- In order, one piece alone has a byte. -/
theorem WT.byte {l : List Pc} (h : WT l) {p : Pc} (hp : p ∈ l) {q : Nat} (hi : PIn q p) : byteOf l q = some (byteP p q) := by
  induction l with
  | nil => cases hp
  | cons x r ih =>
    rw [byteOf_cons]
    have hr := (List.pairwise_cons.1 h.2).1
    rcases List.mem_cons.1 hp with rfl | hp
    · rw [byteOf_none, if_pos hi]
      · rfl
      · intro y hy hiy
        have := hr y hy
        unfold PIn at hi hiy
        omega
    · rw [ih h.tail hp]; rfl

instance (q : Nat) (l : List X) : Decidable (Mem q l) := inferInstanceAs (Decidable (∃ x ∈ l, In q x))
def xN (p : Pc) : X := (p.1.toNat, p.2.size)
theorem WF.val {l : List Pc} (h : WF l) : Val (l.map xN) := by
  refine ⟨fun x hx => ?_, ?_⟩
  · obtain ⟨p, hp, rfl⟩ := List.mem_map.1 hx
    exact (h.1 p hp).2
  · rw [List.pairwise_map]
    refine List.Pairwise.imp_of_mem ?_ h.2
    intro a b ha hb hab
    have h1 := h.1 a ha
    have h2 := h.1 b hb
    show a.1.toNat + a.2.size < b.1.toNat
    omega
theorem mem_xN {l : List Pc} (h : ∀ p ∈ l, 0 ≤ p.1) (q : Nat) : Mem q (l.map xN) ↔ ∃ p ∈ l, PIn q p := by
  constructor
  · rintro ⟨x, hx, hi⟩
    obtain ⟨p, hp, rfl⟩ := List.mem_map.1 hx
    refine ⟨p, hp, ?_⟩
    have := h p hp
    have hi' : p.1.toNat ≤ q ∧ q < p.1.toNat + p.2.size := hi
    unfold PIn
    omega
  · rintro ⟨p, hp, hi⟩
    refine ⟨xN p, List.mem_map.2 ⟨p, hp, rfl⟩, ?_⟩
    have := h p hp
    unfold PIn at hi
    show p.1.toNat ≤ q ∧ q < p.1.toNat + p.2.size
    omega
theorem data_ext {a b : ByteArray} (hs : a.size = b.size) (h : ∀ i, i < a.size → a.data.getD i 0 = b.data.getD i 0) : a = b := by
  obtain ⟨a⟩ := a
  obtain ⟨b⟩ := b
  congr 1
  refine Array.ext hs fun i h1 h2 => ?_
  have := h i h1
  simpa [Array.getD, h1, h2] using this
/-- Their bytes tell them. -/
theorem wf_ext {a b : List Pc} (ha : WF a) (hb : WF b) (h : ∀ q, byteOf a q = byteOf b q) : a = b := by
  have hx : a.map xN = b.map xN := val_ext ha.val hb.val fun q => by
    rw [mem_xN (fun p hp => (ha.1 p hp).1), mem_xN (fun p hp => (hb.1 p hp).1), ← byteOf_some, ← byteOf_some, h q]
  have hl : a.length = b.length := by simpa using congrArg List.length hx
  refine List.ext_getElem hl fun i h1 h2 => ?_
  have hxi : xN a[i] = xN b[i] := by
    have := List.getElem_map (l := a) xN (i := i) (h := by simpa using h1)
    rw [← this, ← List.getElem_map (l := b) xN (i := i) (h := by simpa using h2)]
    congr 1
  have pa := ha.1 _ (List.getElem_mem h1)
  have pb := hb.1 _ (List.getElem_mem h2)
  have e1 : a[i].1.toNat = b[i].1.toNat := congrArg Prod.fst hxi
  have e2 : a[i].2.size = b[i].2.size := congrArg Prod.snd hxi
  have e3 : a[i].1 = b[i].1 := by omega
  refine Prod.ext e3 (data_ext e2 fun j hj => ?_)
  have ia : PIn (a[i].1.toNat + j) a[i] := by unfold PIn; omega
  have ib : PIn (a[i].1.toNat + j) b[i] := by unfold PIn; omega
  have := h (a[i].1.toNat + j)
  rw [ha.wt.byte (List.getElem_mem h1) ia, hb.wt.byte (List.getElem_mem h2) ib] at this
  have := Option.some.inj this
  unfold byteP at this
  rw [show ((((a[i].1.toNat + j : Nat) : Int)) - a[i].1).toNat = j by omega, show ((((a[i].1.toNat + j : Nat) : Int)) - b[i].1).toNat = j by omega] at this
  exact this

/-! ### The text of a range -/
def txt (l : List Pc) (a n : Nat) : ByteArray := ⟨((List.range n).map fun i => (byteOf l (a + i)).getD 0).toArray⟩
theorem txt_size (l : List Pc) (a n : Nat) : (txt l a n).size = n := by
  show (((List.range n).map _).toArray).size = n
  simp
theorem txt_at (l : List Pc) (a n i : Nat) (h : i < n) : (txt l a n).data.getD i 0 = (byteOf l (a + i)).getD 0 := by
  unfold txt
  simp [Array.getD, h]
theorem txt_congr {l m : List Pc} {a n : Nat} (h : ∀ q, a ≤ q → q < a + n → byteOf l q = byteOf m q) : txt l a n = txt m a n := by
  unfold txt
  congr 2
  refine List.map_congr_left fun i hi => ?_
  rw [h (a + i) (by omega) (by have := List.mem_range.1 hi; omega)]
/-- A piece for each range. -/
def layP (xs : List X) (l : List Pc) : List Pc := xs.map fun z => ((z.1 : Int), txt l z.1 z.2)
theorem layP_len (xs : List X) (l : List Pc) : (layP xs l).length = xs.length := by simp [layP]
theorem layP_xN (xs : List X) (l : List Pc) : (layP xs l).map xN = xs := by
  unfold layP
  rw [List.map_map]
  refine (List.map_congr_left fun z _ => ?_).trans (List.map_id _)
  show ((z.1 : Int).toNat, (txt l z.1 z.2).size) = z
  rw [txt_size]
  simp
theorem layP_wf {xs : List X} (h : Val xs) (l : List Pc) : WF (layP xs l) := by
  unfold layP
  refine ⟨fun p hp => ?_, ?_⟩
  · obtain ⟨z, hz, rfl⟩ := List.mem_map.1 hp
    have := h.1 z hz
    exact ⟨by simp, by rw [txt_size]; exact this⟩
  · rw [List.pairwise_map]
    refine h.2.imp fun {x y} hxy => ?_
    simp only [txt_size]
    omega
theorem layP_byte {xs : List X} (h : Val xs) (l : List Pc) (q : Nat) (hs : Mem q xs → (byteOf l q).isSome = true) : byteOf (layP xs l) q = if Mem q xs then byteOf l q else none := by
  have hw := layP_wf h l
  have hm := mem_xN (fun p hp => (hw.1 p hp).1) q
  rw [layP_xN] at hm
  by_cases hq : Mem q xs
  · rw [if_pos hq]
    obtain ⟨x, hx, hi⟩ := hq
    have hi' : x.1 ≤ q ∧ q < x.1 + x.2 := hi
    have hp : ((x.1 : Int), txt l x.1 x.2) ∈ layP xs l := List.mem_map.2 ⟨x, hx, rfl⟩
    rw [hw.wt.byte hp (q := q) (by unfold PIn; simp only [txt_size]; omega)]
    unfold byteP
    simp only
    rw [txt_at _ _ _ _ (by omega), show x.1 + ((q : Int) - (x.1 : Int)).toNat = q by omega]
    have := hs ⟨x, hx, hi⟩
    cases e : byteOf l q with
    | none => rw [e] at this; cases this
    | some b => rfl
  · rw [if_neg hq]
    exact byteOf_none fun p hp hi => hq (hm.2 ⟨p, hp, hi⟩)
/-- How many bytes they have together. -/
def sumP : List Pc → Nat
  | [] => 0
  | p :: r => p.2.size + sumP r
theorem sumP_append (l m : List Pc) : sumP (l ++ m) = sumP l + sumP m := by
  induction l with
  | nil => simp [sumP]
  | cons p r ih => simp only [List.cons_append, sumP, ih]; omega
end Go.Proofs.YtgbenepapajieaaGreat.Nd
namespace Go.Proofs.YtgbenepapajieaaGreat.Nd
open Go.Proofs.YtgbenepapajieaaGreat.Ex.Rng

/-- What of a piece lies from lo on, below hi. -/
def cutP (lo hi : Int) (p : Pc) : Pc := (max lo p.1, p.2.extract (max lo p.1 - p.1).toNat (min hi (p.1 + p.2.size) - p.1).toNat)
def clipP (l : List Pc) (lo hi : Int) : List Pc := l.filterMap fun p => if max lo p.1 < min hi (p.1 + p.2.size) then some (cutP lo hi p) else none
theorem cutP_size {lo hi : Int} {p : Pc} (h : max lo p.1 < min hi (p.1 + p.2.size)) : ((cutP lo hi p).2.size : Int) = min hi (p.1 + p.2.size) - max lo p.1 := by
  unfold cutP
  simp only [ByteArray.size_extract]
  omega
theorem cutP_in {lo hi : Int} {p : Pc} {q : Nat} (h : max lo p.1 < min hi (p.1 + p.2.size)) : PIn q (cutP lo hi p) ↔ PIn q p ∧ lo ≤ q ∧ (q : Int) < hi := by
  have := cutP_size h
  unfold PIn
  rw [this, show (cutP lo hi p).1 = max lo p.1 from rfl]
  omega
theorem byteP_cut {lo hi : Int} {p : Pc} {q : Nat} (h : max lo p.1 < min hi (p.1 + p.2.size)) (hq : PIn q (cutP lo hi p)) : byteP (cutP lo hi p) q = byteP p q := by
  have h1 := cutP_size h
  have h2 := (cutP_in h).1 hq
  unfold PIn at hq h2
  rw [h1, show (cutP lo hi p).1 = max lo p.1 from rfl] at hq
  unfold byteP
  rw [show (cutP lo hi p).1 = max lo p.1 from rfl]
  show (p.2.extract _ _).data.getD _ 0 = _
  rw [ByteArray.data_extract]
  have hsz : p.2.data.size = p.2.size := rfl
  simp only [Array.getD_eq_getD_getElem?]
  rw [Array.getElem?_extract, if_pos (by omega), show (max lo p.1 - p.1).toNat + ((q : Int) - max lo p.1).toNat = ((q : Int) - p.1).toNat by omega]
theorem clipP_byte (l : List Pc) (lo hi : Int) (q : Nat) : byteOf (clipP l lo hi) q = if lo ≤ q ∧ (q : Int) < hi then byteOf l q else none := by
  induction l with
  | nil => simp [clipP, byteOf_nil]
  | cons p r ih =>
    unfold clipP at ih ⊢
    rw [List.filterMap_cons, byteOf_cons]
    by_cases h : max lo p.1 < min hi (p.1 + p.2.size)
    · rw [if_pos h]
      simp only
      rw [byteOf_cons, ih]
      have hi' := cutP_in (q := q) h
      by_cases hq : lo ≤ q ∧ (q : Int) < hi
      · rw [if_pos hq, if_pos hq]
        by_cases hp : PIn q p
        · have hc := hi'.2 ⟨hp, hq⟩
          rw [if_pos hc, if_pos hp, byteP_cut h hc]
        · rw [if_neg hp, if_neg fun k => hp (hi'.1 k).1]
      · rw [if_neg hq, if_neg hq, if_neg fun k => hq (hi'.1 k).2]
        rfl
    · rw [if_neg h]
      simp only
      rw [ih]
      by_cases hq : lo ≤ q ∧ (q : Int) < hi
      · rw [if_pos hq, if_pos hq, if_neg]
        · simp
        · unfold PIn; omega
      · rw [if_neg hq, if_neg hq]
theorem clipP_mem {l : List Pc} {lo hi : Int} {x : Pc} (h : x ∈ clipP l lo hi) : ∃ p ∈ l, max lo p.1 < min hi (p.1 + p.2.size) ∧ x = cutP lo hi p := by
  obtain ⟨p, hp, h⟩ := List.mem_filterMap.1 h
  by_cases hc : max lo p.1 < min hi (p.1 + p.2.size)
  · rw [if_pos hc] at h; exact ⟨p, hp, hc, (Option.some.inj h).symm⟩
  · rw [if_neg hc] at h; cases h
theorem clipP_ends {l : List Pc} {lo hi : Int} {x : Pc} (h : x ∈ clipP l lo hi) : lo ≤ x.1 ∧ x.1 + x.2.size ≤ hi ∧ 0 < x.2.size ∧ ∃ p ∈ l, p.1 ≤ x.1 ∧ x.1 + x.2.size ≤ p.1 + p.2.size := by
  obtain ⟨p, hp, hc, rfl⟩ := clipP_mem h
  have := cutP_size hc
  have e : (cutP lo hi p).1 = max lo p.1 := rfl
  rw [e]
  exact ⟨by omega, by omega, by omega, p, hp, by omega, by omega⟩
theorem clipP_wf {l : List Pc} (h : WF l) (lo hi : Int) : WF (clipP l lo hi) := by
  refine ⟨fun x hx => ?_, ?_⟩
  · obtain ⟨a, b, c, p, hp, d, e⟩ := clipP_ends hx
    have := h.1 p hp
    exact ⟨by omega, c⟩
  · unfold clipP
    rw [List.pairwise_filterMap]
    refine h.2.imp fun {x y} hxy a ha b hb => ?_
    by_cases h1 : max lo x.1 < min hi (x.1 + x.2.size)
    · by_cases h2 : max lo y.1 < min hi (y.1 + y.2.size)
      · rw [if_pos h1] at ha
        rw [if_pos h2] at hb
        cases ha
        cases hb
        have := cutP_size h1
        show (cutP lo hi x).1 + _ < (cutP lo hi y).1
        rw [this, show (cutP lo hi x).1 = max lo x.1 from rfl, show (cutP lo hi y).1 = max lo y.1 from rfl]
        omega
      · rw [if_neg h2] at hb; cases hb
    · rw [if_neg h1] at ha; cases ha
theorem clipP_sum : ∀ (l : List Pc) (lo hi : Int), sumP (clipP l lo hi) ≤ sumP l
  | [], _, _ => Nat.le_refl _
  | p :: r, lo, hi => by
    have ih := clipP_sum r lo hi
    unfold clipP at ih ⊢
    rw [List.filterMap_cons]
    by_cases h : max lo p.1 < min hi (p.1 + p.2.size)
    · rw [if_pos h]
      have := cutP_size h
      simp only [sumP]
      omega
    · rw [if_neg h]
      simp only [sumP]
      omega
theorem clipP_len (l : List Pc) (lo hi : Int) : (clipP l lo hi).length ≤ l.length := List.length_filterMap_le _ _

/-! ### Pieces that touch are one -/
def joinStep (out : List Pc) (p : Pc) : List Pc :=
  match out.getLast? with
  | some o => if o.1 + o.2.size = p.1 then out.dropLast ++ [(o.1, o.2 ++ p.2)] else out ++ [p]
  | none => out ++ [p]
def joinP (l : List Pc) : List Pc := l.foldl joinStep []
theorem join_nil (p : Pc) : joinStep [] p = [p] := rfl
theorem join_last (o : List Pc) (x p : Pc) : joinStep (o ++ [x]) p = if x.1 + x.2.size = p.1 then o ++ [(x.1, x.2 ++ p.2)] else o ++ [x] ++ [p] := by
  unfold joinStep
  simp
theorem byteP_join {x p : Pc} (h : x.1 + x.2.size = p.1) (q : Nat) (_ : 0 ≤ x.1) : (if PIn q (x.1, x.2 ++ p.2) then some (byteP (x.1, x.2 ++ p.2) q) else none) = ((if PIn q p then some (byteP p q) else none : Option UInt8).or (if PIn q x then some (byteP x q) else none)) := by
  have hs : ((x.2 ++ p.2).size : Int) = x.2.size + p.2.size := by simp
  by_cases h1 : PIn q p
  · rw [if_pos h1, if_pos]
    · simp only [Option.some_or]
      unfold byteP PIn at *
      simp only [ByteArray.data_append, Array.getD_eq_getD_getElem?]
      rw [Array.getElem?_append_right (by show x.2.size ≤ _; omega)]
      congr 3
      show ((q : Int) - x.1).toNat - x.2.size = _
      omega
    · unfold PIn at *; simp only [hs]; omega
  · rw [if_neg h1]
    by_cases h2 : PIn q x
    · rw [if_pos h2, if_pos]
      · simp only [Option.none_or]
        unfold byteP PIn at *
        simp only [ByteArray.data_append, Array.getD_eq_getD_getElem?]
        rw [Array.getElem?_append_left (by show _ < x.2.size; omega)]
      · unfold PIn at *; simp only [hs]; omega
    · rw [if_neg h2, if_neg]
      · rfl
      · unfold PIn at *; simp only [hs]; omega
theorem WT.left {a b : List Pc} (h : WT (a ++ b)) : WT a := ⟨fun x hx => h.1 x (List.mem_append_left _ hx), (List.pairwise_append.1 h.2).1⟩
theorem WT.gap {a b : List Pc} (h : WT (a ++ b)) : ∀ x ∈ a, ∀ y ∈ b, x.1 + x.2.size ≤ y.1 := (List.pairwise_append.1 h.2).2.2
theorem WF.left {a b : List Pc} (h : WF (a ++ b)) : WF a := ⟨fun x hx => h.1 x (List.mem_append_left _ hx), (List.pairwise_append.1 h.2).1⟩
theorem WF.gap {a b : List Pc} (h : WF (a ++ b)) : ∀ x ∈ a, ∀ y ∈ b, x.1 + x.2.size < y.1 := (List.pairwise_append.1 h.2).2.2
theorem WT.join {a b : List Pc} (ha : WT a) (hb : WT b) (h : ∀ x ∈ a, ∀ y ∈ b, x.1 + x.2.size ≤ y.1) : WT (a ++ b) :=
  ⟨fun x hx => (List.mem_append.1 hx).elim (ha.1 x) (hb.1 x), List.pairwise_append.2 ⟨ha.2, hb.2, h⟩⟩
theorem last_case (l : List Pc) : l = [] ∨ ∃ o x, l = o ++ [x] := by
  rcases List.eq_nil_or_concat l with h | ⟨o, x, h⟩
  · exact .inl h
  · exact .inr ⟨o, x, by rw [h]; simp⟩
/-- What a step keeps. -/
theorem joinStep_ok {out : List Pc} {p : Pc} {l : List Pc} (hw : WF out) (ht : WT (out ++ p :: l)) :
    WF (joinStep out p) ∧ WT (joinStep out p ++ l) ∧ (∀ q, byteOf (joinStep out p) q = byteOf (out ++ [p]) q) ∧ sumP (joinStep out p) = sumP (out ++ [p]) := by
  have hp := ht.1 p (by simp)
  have hg := ht.gap
  have htl : WT (p :: l) := ⟨fun x hx => ht.1 x (List.mem_append_right _ hx), (List.pairwise_append.1 ht.2).2.1⟩
  have hpl := (List.pairwise_cons.1 htl.2).1
  rcases last_case out with rfl | ⟨o, x, rfl⟩
  · rw [join_nil]
    exact ⟨WF.nil_.add hp.1 hp.2 (by simp), ht, fun q => rfl, rfl⟩
  · rw [join_last]
    have hx := hw.1 x (by simp)
    have hgx := hg x (by simp) p (by simp)
    by_cases hj : x.1 + x.2.size = p.1
    · rw [if_pos hj]
      have hs : ((x.2 ++ p.2).size : Int) = x.2.size + p.2.size := by simp
      have hs' : (x.2 ++ p.2).size = x.2.size + p.2.size := by simp
      refine ⟨hw.left.add hx.1 (by simp only [hs']; omega) fun y hy => hw.gap y hy x (by simp), ?_, fun q => ?_, ?_⟩
      · refine WT.join (hw.wt.left.add hx.1 (by simp only [hs']; omega) fun y hy => Int.le_of_lt (hw.gap y hy x (by simp))) htl.tail fun y hy z hz => ?_
        rcases List.mem_append.1 hy with hy | hy
        · exact hg y (by simp [hy]) z (by simp [hz])
        · rw [List.mem_singleton.1 hy]
          have := hpl z hz
          simp only [hs]
          omega
      · rw [byteOf_append, byteOf_append, byteOf_append, ← Option.or_assoc]
        congr 1
        have := byteP_join hj q hx.1
        rw [show byteOf [(x.1, x.2 ++ p.2)] q = (if PIn q (x.1, x.2 ++ p.2) then some (byteP (x.1, x.2 ++ p.2) q) else none) from by rw [byteOf_cons, byteOf_nil]; rfl, this,
          show byteOf [p] q = (if PIn q p then some (byteP p q) else none) from by rw [byteOf_cons, byteOf_nil]; rfl, show byteOf [x] q = (if PIn q x then some (byteP x q) else none) from by rw [byteOf_cons, byteOf_nil]; rfl]
      · simp only [sumP_append, sumP, hs']; omega
    · rw [if_neg hj]
      refine ⟨hw.add hp.1 hp.2 fun y hy => ?_, by simpa using ht, fun q => by simp, by simp⟩
      rcases List.mem_append.1 hy with hy' | hy'
      · have := hw.gap y hy' x (by simp)
        omega
      · rw [List.mem_singleton.1 hy']; omega
theorem join_go : ∀ (l out : List Pc), WF out → WT (out ++ l) → WF (l.foldl joinStep out) ∧ (∀ q, byteOf (l.foldl joinStep out) q = byteOf (out ++ l) q) ∧ sumP (l.foldl joinStep out) = sumP (out ++ l)
  | [], out, hw, _ => ⟨hw, fun q => by simp, by simp⟩
  | p :: l, out, hw, ht => by
    obtain ⟨a, b, c, d⟩ := joinStep_ok hw ht
    obtain ⟨e, f, g⟩ := join_go l _ a b
    refine ⟨e, fun q => ?_, ?_⟩
    · rw [List.foldl_cons, f q, byteOf_append, c q, ← byteOf_append, List.append_assoc]; rfl
    · rw [List.foldl_cons, g, sumP_append, d, ← sumP_append, List.append_assoc]; rfl
theorem joinP_ok {l : List Pc} (h : WT l) : WF (joinP l) ∧ (∀ q, byteOf (joinP l) q = byteOf l q) ∧ sumP (joinP l) = sumP l := join_go l [] WF.nil_ h

/-! ### Write and Cut -/
def wList (d : List Pc) (a : Int) (s : ByteArray) : List Pc := clipP d 0 a ++ [(a, s)] ++ clipP d (a + s.size) 1099511627777
def wData (d : List Pc) (a : Int) (s : ByteArray) : List Pc := joinP (wList d a s)
theorem wList_wt {d : List Pc} {a : Int} {s : ByteArray} (h : WF d) (h0 : 0 ≤ a) (h1 : 0 < s.size) : WT (wList d a s) := by
  refine WT.join ((clipP_wf h _ _).wt.add h0 h1 fun x hx => (clipP_ends hx).2.1) (clipP_wf h _ _).wt fun x hx y hy => ?_
  have := (clipP_ends hy).1
  rcases List.mem_append.1 hx with hx | hx
  · have := (clipP_ends hx).2.1; omega
  · rw [List.mem_singleton.1 hx]; exact this
theorem wData_byte {d : List Pc} {a : Int} {s : ByteArray} (h : WF d) (hd : ∀ p ∈ d, p.1 + p.2.size ≤ 1099511627776) (h0 : 0 ≤ a) (h1 : 0 < s.size) (q : Nat) : byteOf (wData d a s) q = if PIn q (a, s) then some (byteP (a, s) q) else byteOf d q := by
  unfold wData
  rw [(joinP_ok (wList_wt h h0 h1)).2.1]
  unfold wList
  rw [byteOf_append, byteOf_add, clipP_byte, clipP_byte]
  have hn : 1099511627776 ≤ q → byteOf d q = none := fun hq => byteOf_none fun p hp hi => by have := hd p hp; unfold PIn at hi; omega
  by_cases hp : PIn q (a, s)
  · rw [if_pos hp, if_neg, if_pos hp]
    · rfl
    · unfold PIn at hp; simp only at hp; omega
  · rw [if_neg hp, if_neg hp]
    by_cases h2 : (q : Int) < a
    · rw [if_pos (show (0 : Int) ≤ q ∧ (q : Int) < a by omega), if_neg (by omega)]; rfl
    · have h3 : a + s.size ≤ (q : Int) := by unfold PIn at hp; simp only at hp; omega
      rw [if_neg (show ¬((0 : Int) ≤ q ∧ (q : Int) < a) by omega)]
      by_cases h4 : (q : Int) < 1099511627777
      · rw [if_pos (show a + s.size ≤ (q : Int) ∧ (q : Int) < 1099511627777 by omega)]; simp
      · rw [if_neg (show ¬(a + s.size ≤ (q : Int) ∧ (q : Int) < 1099511627777) by omega), hn (by omega)]; rfl
theorem wData_wf {d : List Pc} {a : Int} {s : ByteArray} (h : WF d) (h0 : 0 ≤ a) (h1 : 0 < s.size) : WF (wData d a s) := (joinP_ok (wList_wt h h0 h1)).1

/-! ### The code's way: ranges, laid over -/
def xOf (p : Pc) : X := (limN p.1, limN (p.2.size : Int))
def PcOk (p : Pc) : Prop := 0 ≤ p.1 ∧ p.1 + p.2.size ≤ 1099511627776
theorem xOf_ok (p : Pc) : (xOf p).1 ≤ M ∧ (xOf p).2 ≤ M := ⟨limN_le _, limN_le _⟩
theorem xOf_xN {p : Pc} (h : PcOk p) : xOf p = xN p := by
  unfold PcOk at h
  unfold xOf xN limN M
  refine Prod.ext ?_ ?_
  · simp only; omega
  · simp only; omega
theorem map_xOf {l : List Pc} (h : ∀ p ∈ l, PcOk p) : l.map xOf = l.map xN := List.map_congr_left fun p hp => xOf_xN (h p hp)
theorem some_iff {l : List Pc} (h : ∀ p ∈ l, PcOk p) (q : Nat) : (byteOf l q).isSome = true ↔ Mem q (l.map xOf) := by
  rw [byteOf_some, map_xOf h, mem_xN fun p hp => (h p hp).1]
theorem write_lay {d : List Pc} {a : Int} {s : ByteArray} {r : List X} (h : WF d) (hd : ∀ p ∈ d, p.1 + p.2.size ≤ 1099511627776) (h0 : 0 ≤ a) (h1 : 0 < s.size) (h2 : a + s.size ≤ 1099511627776) (hr : IsNorm ((d ++ [(a, s)]).map xOf) r) :
    layP r (d ++ [(a, s)]) = wData d a s := by
  have ok : ∀ p ∈ d ++ [(a, s)], PcOk p := fun p hp => by
    rcases List.mem_append.1 hp with hp | hp
    · exact ⟨(h.1 p hp).1, hd p hp⟩
    · rw [List.mem_singleton.1 hp]; exact ⟨h0, h2⟩
  have hm : ∀ q, Mem q r ↔ (byteOf (d ++ [(a, s)]) q).isSome = true := fun q => by
    rw [hr.2.2.1 q, some_iff ok]
    refine ⟨fun k => k.1, fun k => ⟨k, ?_⟩⟩
    obtain ⟨p, hp, hi⟩ := (mem_xN (fun p hp => (ok p hp).1) q).1 (by rw [← map_xOf ok]; exact k)
    have := (ok p hp).2
    unfold PIn at hi
    unfold M
    omega
  refine wf_ext (layP_wf hr.1 _) (wData_wf h h0 h1) fun q => ?_
  rw [layP_byte hr.1 _ _ (hm q).1, wData_byte h hd h0 h1, byteOf_add]
  by_cases hq : Mem q r
  · rw [if_pos hq]
  · rw [if_neg hq]
    have := fun k => hq ((hm q).2 k)
    rw [byteOf_add] at this
    cases e : (if PIn q (a, s) then some (byteP (a, s) q) else byteOf d q) with
    | none => rfl
    | some b => rw [e] at this; exact absurd rfl this
theorem cut_lay {d : List Pc} {s : Nat} {r : List X} (h : WF d) (hd : ∀ p ∈ d, p.1 + p.2.size ≤ 1099511627776) (hr : IsMeet (d.map xOf) 0 s r) : layP r d = clipP d 0 s := by
  have ok : ∀ p ∈ d, PcOk p := fun p hp => ⟨(h.1 p hp).1, hd p hp⟩
  have hm : ∀ q, Mem q r ↔ (byteOf d q).isSome = true ∧ q < s := fun q => by
    rw [hr.2.2.1 q, some_iff ok]
    refine ⟨fun k => ⟨k.1.1, k.2.2⟩, fun k => ⟨⟨k.1, ?_⟩, by omega, k.2⟩⟩
    obtain ⟨p, hp, hi⟩ := (mem_xN (fun p hp => (ok p hp).1) q).1 (by rw [← map_xOf ok]; exact k.1)
    have := (ok p hp).2
    unfold PIn at hi
    unfold M
    omega
  refine wf_ext (layP_wf hr.1 _) (clipP_wf h _ _) fun q => ?_
  rw [layP_byte hr.1 _ _ fun k => ((hm q).1 k).1, clipP_byte]
  by_cases hq : q < s
  · rw [if_pos (show (0 : Int) ≤ q ∧ (q : Int) < s by omega)]
    by_cases hq' : Mem q r
    · rw [if_pos hq']
    · rw [if_neg hq']
      cases e : byteOf d q with
      | none => rfl
      | some b => exact absurd ((hm q).2 ⟨by rw [e]; rfl, hq⟩) hq'
  · rw [if_neg (show ¬((0 : Int) ≤ q ∧ (q : Int) < s) by omega), if_neg fun k => hq ((hm q).1 k).2]
def sumX : List X → Nat
  | [] => 0
  | x :: r => x.2 + sumX r
theorem sumX_lay (r : List X) (l : List Pc) : sumP (layP r l) = sumX r := by
  induction r with
  | nil => rfl
  | cons z r ih =>
    show (txt l z.1 z.2).size + sumP (layP r l) = _
    rw [txt_size, ih]
    rfl
end Go.Proofs.YtgbenepapajieaaGreat.Nd
namespace Go.Proofs.YtgbenepapajieaaGreat.Nd
open Go.RowKit
open Go.Proofs.YtgbenepapajieaaGreat.Ex.Rng

def cellsP (p : Pc) : List Value := [.int .i64 p.1, .string p.2]
theorem flatP : Flat cellsP 2 where
  len _ := rfl
  one x u hu := by
    simp only [cellsP, List.mem_cons, List.not_mem_nil, or_false] at hu
    rcases hu with rfl | rfl <;> rfl
  pos := by decide
abbrev PcsAt (w : World) (v : Value) (l : List Pc) : Prop := RowAt cellsP 2 w v l
abbrev OwnP (w : World) (B : Nat) (v : Value) (l : List Pc) : Prop := OwnR 87 cellsP 2 w B v l
def aggP (p : Pc) : Value := .agg #[.int .i64 p.1, .string p.2]
theorem _root_.Go.Proofs.YtgbenepapajieaaGreat.RowAt.atP {w : World} {v : Value} {l : List Pc} (h : PcsAt w v l) (hn : 0 < l.length) : ∃ g o cap, v = .slice (some ⟨g, o, none⟩) l.length cap ∧ l.length ≤ cap ∧ cap ≤ maxLen ∧ ∀ i (h : i < l.length), w.cell? ⟨g, o + i * 2, none⟩ = some (.int .i64 l[i].1) ∧ w.cell? ⟨g, o + i * 2 + 1, none⟩ = some (.string l[i].2) := by
  obtain ⟨g, o, cap, e, h1, h2, h3⟩ := h.at_ hn
  exact ⟨g, o, cap, e, h1, h2, fun i hi => ⟨by simpa using h3 i hi 0 (.int .i64 l[i].1) rfl, h3 i hi 1 (.string l[i].2) rfl⟩⟩
theorem info_piece : (Tryz.prog.info? 87).map (fun i => (i.zero, i.size, i.bytes)) = some (some (.agg #[.int .i64 0, .string ⟨#[]⟩]), 2, 24) := by kernel_rfl
theorem run_append_pcs {w : World} (ty : TypeId) (B : Nat) (v : Value) (l : List Pc) (hown : OwnP w B v l) (vx : Value) (m : List Pc) (he : PcsAt w vx m) (hnl : l.length + m.length ≤ 100000) (hbase : B ≤ w.heap.size) :
    ∃ v' w', (Builtin.append_ #[45, 45] ty #[v, vx]).run Tryz.prog w = .ok v' w' ∧ OwnP w' B v' (l ++ m) ∧ w.grownBy w' v.ownBlock ∧ (v' = .slice none 0 0 → l ++ m = []) := by
  obtain ⟨i0, hi0, hz0, hz1, hz2⟩ := info_parts info_piece
  exact run_append_row flatP Tryz.underlying45 hi0 hz0 hz1 hz2 rfl (by decide) ty B v l hown vx m he hnl hbase
/-- .. at an operation that is wanted. -/
theorem wpList_append_pcs {ops : Array Oper} {rest : List Oper} {o : Oper} {a : Act} {Q0 : Exit → Act → World → Prop} {w : World} (hw : Region.wanted o (yielded ops a.tmps) = true) (s x : Operand)
    (ho : o.op = .call { callee := .builtin .append, args := #[s, x], argTypes := #[45, 45] })
    (B : Nat) (v : Value) (l : List Pc) (hs : a.eval s = v) (hown : OwnP w B v l) (vx : Value) (m : List Pc) (hx : a.eval x = vx) (he : PcsAt w vx m) (hnl : l.length + m.length ≤ 100000) (hbase : B ≤ w.heap.size)
    (h : ∀ v' w', OwnP w' B v' (l ++ m) → w.grownBy w' v.ownBlock → (v' = .slice none 0 0 → l ++ m = []) → wpList Tryz.prog ops Q0 rest (a.put o.dst v') w') : wpList Tryz.prog ops Q0 (o :: rest) a w := by
  obtain ⟨v', w', hr, a2, a3, a4⟩ := run_append_pcs o.type B v l hown vx m he hnl hbase
  refine wpList_step fun K hK => ?_
  rw [if_pos hw]
  unfold Oper.wp execOp
  simp only [ho, resolve, invoke, builtin, Sem.run_bind, Sem.run_pure, Result.andThen_ok, List.map_toArray, List.map_cons, List.map_nil, hs, hx, hr]
  exact hK _ _ (h v' w' a2 a3 a4)

/-! ### Small functions -/
def offB (n : Int) : Bool := decide (0 ≤ n ∧ n ≤ 1099511627776)
set_option maxRecDepth 100000 in
set_option maxHeartbeats 400000 in
theorem offset_any (n : Int) (w : World) : Calls Tryz.prog 126 #[.int .i64 n] w fun e w' => e = .returned (.bool (offB n)) ∧ w' = w := by
  by_cases h1 : 0 ≤ n
  · by_cases h2 : n ≤ 1099511627776
    · have E : Hid (offB n = true) := decide_eq_true ⟨h1, h2⟩
      go_enter Tryz.func126, Tryz.ntmps126
      go_wp2
      go_ret
      exact ⟨ret_bool E.out.symm, rfl⟩
    · have E : Hid (offB n = false) := decide_eq_false fun h => h2 h.2
      go_enter Tryz.func126, Tryz.ntmps126
      go_wp2
      go_ret
      exact ⟨ret_bool E.out.symm, rfl⟩
  · have E : Hid (offB n = false) := decide_eq_false fun h => h1 h.1
    go_enter Tryz.func126, Tryz.ntmps126
    go_wp2
    go_ret
    exact ⟨ret_bool E.out.symm, rfl⟩
def devB (n : Int) : Bool := decide (0 ≤ n ∧ n ≤ 65535)
set_option maxRecDepth 100000 in
set_option maxHeartbeats 400000 in
theorem device_any (n : Int) (w : World) : Calls Tryz.prog 94 #[.int .i64 n] w fun e w' => e = .returned (.bool (devB n)) ∧ w' = w := by
  by_cases h1 : 0 ≤ n
  · by_cases h2 : n ≤ 65535
    · have E : Hid (devB n = true) := decide_eq_true ⟨h1, h2⟩
      go_enter Tryz.func94, Tryz.ntmps94
      go_wp2
      go_ret
      exact ⟨ret_bool E.out.symm, rfl⟩
    · have E : Hid (devB n = false) := decide_eq_false fun h => h2 h.2
      go_enter Tryz.func94, Tryz.ntmps94
      go_wp2
      go_ret
      exact ⟨ret_bool E.out.symm, rfl⟩
  · have E : Hid (devB n = false) := decide_eq_false fun h => h1 h.1
    go_enter Tryz.func94, Tryz.ntmps94
    go_wp2
    go_ret
    exact ⟨ret_bool E.out.symm, rfl⟩
set_option maxRecDepth 100000 in
set_option maxHeartbeats 1000000 in
theorem indexByte_any (s : ByteArray) (c : Int) (w : World) : Calls Tryz.prog 129 #[.string s, .int .u8 c] w fun e w' => e = .returned (.int .i64 (Lib.indexByte s.data.toList c.toNat.toUInt8)) ∧ w' = w := by
  have inner : ∀ w, Calls Tryz.prog 156 #[.string s, .int .u8 c] w fun e w' => e = .returned (.int .i64 (Lib.indexByte s.data.toList c.toNat.toUInt8)) ∧ w' = w := by
    intro w
    go_enter Tryz.func156, Tryz.ntmps156
    go_wp2_with fail
    rw [run_callFunc_extern Tryz.func168 (by kernel_rfl) (by kernel_rfl) (by kernel_rfl) (e := Extern.BytealgIndexByte.indexByte) (by kernel_rfl), Lib.run_indexByteString]
    simp only [Result.andThen]
    rw [Oper.upon_value]
    go_wp2
    go_ret
    exact ⟨rfl, rfl⟩
  go_enter Tryz.func129, Tryz.ntmps129
  go_wp2_with fail
  refine (inner _).mono ?_
  rintro e w1 ⟨rfl, rfl⟩
  go_wp2
  go_ret
  exact ⟨rfl, rfl⟩
def tgtB (s : ByteArray) : Bool := decide (1 ≤ (s.size : Int)) && decide ((s.size : Int) ≤ 200) && decide (Lib.indexByte s.data.toList 0 < 0)
set_option maxRecDepth 100000 in
set_option maxHeartbeats 1000000 in
theorem target_any (s : ByteArray) (w : World) : Calls Tryz.prog 93 #[.string s] w fun e w' => e = .returned (.bool (tgtB s)) ∧ w' = w := by
  have E0 : Hid (tgtB s = (decide (1 ≤ (s.size : Int)) && decide ((s.size : Int) ≤ 200) && decide (Lib.indexByte s.data.toList 0 < 0))) := rfl
  have HI := Lib.hid (fun w => indexByte_any s 0 w)
  generalize tgtB s = r at *
  by_cases h1 : 1 ≤ (s.size : Int)
  · have t1 : decide (1 ≤ (s.size : Int)) = true := decide_eq_true h1
    rw [t1] at E0
    clear h1
    by_cases h2 : (s.size : Int) ≤ 200
    · have t2 : decide ((s.size : Int) ≤ 200) = true := decide_eq_true h2
      rw [t2] at E0
      clear h2
      go_enter Tryz.func93, Tryz.ntmps93
      go_wp2_with fail
      refine (HI.out _).mono ?_
      rintro e w1 ⟨rfl, rfl⟩
      go_wp2
      all_goals
        go_ret
        exact ⟨ret_bool (by rw [E0.out]; simp_all), rfl⟩
    · have t2 : decide ((s.size : Int) ≤ 200) = false := decide_eq_false h2
      rw [t2] at E0
      clear h2
      go_enter Tryz.func93, Tryz.ntmps93
      go_wp2
      go_ret
      exact ⟨ret_bool (by rw [E0.out]; simp), rfl⟩
  · have t1 : decide (1 ≤ (s.size : Int)) = false := decide_eq_false h1
    rw [t1] at E0
    clear h1
    go_enter Tryz.func93, Tryz.ntmps93
    go_wp2
    go_ret
    exact ⟨ret_bool (by rw [E0.out]; simp), rfl⟩

/-! ### extents -/
open Go.Proofs.YtgbenepapajieaaGreat.Ex (E ExtsAt)
theorem info_c : (Tryz.prog.info? 136).map (fun i => (i.zero, i.size, i.bytes)) = some (some (.complex .f64 0 0), 1, 16) := by kernel_rfl
theorem map_take {l : List Pc} {k : Nat} (h : k < l.length) : (l.take k).map xOf ++ [xOf l[k]] = (l.take (k + 1)).map xOf := by
  rw [List.take_succ_eq_append_getElem h, List.map_append]; rfl

set_option maxRecDepth 100000 in
set_option maxHeartbeats 2000000 in
theorem extents_any (v : Value) (l : List Pc) (w : World) (h : PcsAt w v l) (hl : l.length ≤ 10000) :
    Calls Tryz.prog 155 #[v] w fun e w' => ∃ v', e = .returned v' ∧ w'.ownsRow w.heap.size 136 1 v' l.length ((l.map xOf).map E) ∧ Q w w' := by
  obtain ⟨A, c, rfl⟩ := h.form
  obtain ⟨i0, hi0, hz0, hz1, hz2⟩ := info_parts info_c
  go_enter Tryz.func155, Tryz.ntmps155
  go_wp2
  go_loopw [3, 5, 8] (fun o _ i wr => ∃ (k : Nat) (ns : List X), i = .int .i64 k ∧ k ≤ l.length ∧ wr.ownsRow w.heap.size 136 1 o k (ns.map E) ∧ Q w wr ∧ ns.length = k ∧ Hid (ns = (l.take k).map xOf)) (fun _ _ i _ => l.length - (intOf i).toNat)
  case atStart => exact ⟨0, [], rfl, by omega, World.ownsRow_nil _ _ _ _, Q.refl _, rfl, rfl⟩
  case round =>
    obtain ⟨k, ns, rfl, hk, hown, hq, hn, H⟩ := hrel
    obtain ⟨B, cb, rfl⟩ := own_form hown
    by_cases hlt : k < l.length
    · obtain ⟨g, og, _, ea, _, _, hc⟩ := (h.keep hq).atP (by omega)
      cases ea
      obtain ⟨c1, c2⟩ := hc k hlt
      have E1 : Hid (ns ++ [xOf l[k]] = (l.take (k + 1)).map xOf) := by rw [H.out]; exact map_take hlt
      have HO := Lib.hid (fun w => Ex.of_any l[k].1 (l[k].2.size : Int) w)
      have HX : Hid ((limN l[k].1, limN (l[k].2.size : Int)) = xOf l[k]) := rfl
      clear hc H h
      generalize l[k] = x at *
      have hsz := hq.size
      go_wp2_with fail
      refine (HO.out _).mono ?_
      rintro e w1 ⟨rfl, rfl⟩
      rw [HX.out]
      generalize xOf x = y at *
      obtain ⟨y1, y2, hE⟩ : ∃ a b, E y = .complex .f64 a b := ⟨_, _, rfl⟩
      rw [hE]
      clear HO HX
      have own2 := hown.alloc (.cells #[.int .i64 x.1, .string x.2] 87)
      have q2 := hq.alloc (.cells #[.int .i64 x.1, .string x.2] 87)
      go_wp2_with (at_builtin; refine wpList_append_own _ rfl (.tmp 12) (.tmp 19) 109 rfl w.heap.size 136 i0 _ 1 16 Tryz.underlying109 hi0 hz0 hz1 hz2 rfl (by decide) _ k _ rfl (own2.alloc _) ⟨_, 0, none⟩ 1 1 [.complex .f64 y1 y2] rfl rfl ?c1 ?c2 ?c3 ?c4 ?c5 ?_)
      case c1 =>
        intro j u hj
        have := cell_one_new (wr.alloc (.cells #[.int .i64 x.1, .string x.2] 87)) (.complex .f64 y1 y2) 136 j u hj
        rw [World.size_alloc] at this
        exact this
      case c2 => intro u hu; rw [List.mem_singleton.1 hu]; rfl
      case c3 => unfold maxLen; omega
      case c4 => omega
      case c5 => rw [World.size_alloc, World.size_alloc]; omega
      intro v2 w2 hown2 hg2 _
      have hq2 : Q w w2 := Below.grown (q2.alloc _) hg2 (by rw [World.size_alloc, World.size_alloc]; omega) fun g hg => (hown.lt g hg).1
      rw [show ns.map E ++ [.complex .f64 y1 y2] = (ns ++ [y]).map E from by rw [← hE]; simp] at hown2
      have hl2 : (ns ++ [y]).length = k + 1 := by simp [hn]
      generalize ns ++ [y] = ns2 at hown2 E1 hl2
      clear hg2 hown hsz hE own2 q2
      go_wp2
      go_roundw
      case rel => exact ⟨k + 1, ns2, by go_num, by omega, hown2, hq2, hl2, E1⟩
      case measure => simp [intOf]; omega
    · have e1 : k = l.length := by omega
      have E1 := H.out
      rw [List.take_of_length_le (by omega)] at E1
      rw [E1, e1] at hown
      clear H E1
      subst e1
      go_wp2
      go_ret
      exact ⟨_, rfl, hown, hq⟩
end Go.Proofs.YtgbenepapajieaaGreat.Nd
