/-
  Plain facts on the paths that Made makes: they may be, their names are the numbers' names; order and Under on them.
-/
import Derived.Test.YtafekepgnockjaaMade
namespace Go.Proofs.Ytafekepgnockjaa
open Go.RowKit
open Pth

theorem IsRow.keep {k : IntKind} {w w' : World} {a : Option Addr} {len cap : Nat} {zs : List Int} (h : IsRow k w a len cap zs) (q : Q w w') : IsRow k w' a len cap zs := by
  rcases h with h | ⟨x, e, h1, h2, h3, h4, h5⟩
  · exact .inl h
  · exact .inr ⟨x, e, h1, h2, h3, fun i hi => (Below.cell q (World.block_lt_of_cell? w _ (h4 i hi))).trans (h4 i hi), h5⟩
theorem IsRow.le {k : IntKind} {w : World} {a : Option Addr} {len cap : Nat} {zs : List Int} (h : IsRow k w a len cap zs) : len ≤ zs.length := by
  rcases h with ⟨_, h, _, _⟩ | ⟨x, e, h1, h2, h3, h4, h5⟩ <;> omega

theorem madeB_may (zs : List Int) (k : Nat) (h : k ≤ zs.length) (h8 : k ≤ 8) : mayB (madeB zs k) = true ∧ partsL (madeB zs k).data.toList = madeN zs k := by
  have hs := madeB_size zs k h
  have hm := may_joinN _ (madeN_all zs k)
  have hl : (joinN (madeN zs k)).length = (madeB zs k).size := (size_mkB _).symm
  rw [madeN_len zs k h, hl] at hm
  have hm2 : mayL (joinN (madeN zs k)) = true := by rw [hm]; simp; omega
  unfold mayB madeB
  rw [mkB_list]
  exact ⟨hm2, parts_joinN _ (madeN_all zs k) hm2⟩
theorem path_ext {s t : ByteArray} (hs : mayB s = true) (ht : mayB t = true) (h : partsL s.data.toList = partsL t.data.toList) : s = t := by
  unfold mayB at hs ht
  exact bs_eq (by rw [← may_parts hs, ← may_parts ht, h])
theorem lessB_total (s t : ByteArray) (hs : mayB s = true) (ht : mayB t = true) :
    (lessB s t = true ∧ lessB t s = false ∧ (s.toList == t.toList) = false) ∨ (lessB s t = false ∧ lessB t s = true ∧ (s.toList == t.toList) = false) ∨
    (lessB s t = false ∧ lessB t s = false ∧ (s.toList == t.toList) = true) := by
  have key : ∀ x y : List (List UInt8), lessP x y = true → lessP y x = false := fun x y h => by
    cases hh : lessP y x with
    | false => rfl
    | true => exact absurd hh (lp_asymm x y h)
  have ne : ∀ u v : ByteArray, lessB u v = true → (u.toList == v.toList) = false := fun u v h => by
    refine beq_eq_false_iff_ne.2 fun e => ?_
    rw [ByteArray.toList_eq, ByteArray.toList_eq] at e
    unfold lessB lessL at h
    rw [e] at h
    exact lp_irrefl _ h
  rcases lp_total (partsL s.data.toList) (partsL t.data.toList) with h | h | h
  · exact .inl ⟨h, key _ _ h, ne s t h⟩
  · have e := path_ext hs ht h
    subst e
    have : lessB s s = false := by
      cases hh : lessB s s with
      | false => rfl
      | true => exact absurd hh (lp_irrefl _)
    exact .inr (.inr ⟨this, this, beq_self_eq_true _⟩)
  · refine .inr (.inl ⟨key _ _ h, h, ?_⟩)
    have := ne t s h
    rw [beq_eq_false_iff_ne] at this ⊢
    exact fun e => this e.symm
theorem lessB_trans (s t u : ByteArray) (h : lessB s t = true) (k : lessB t u = true) : lessB s u = true := lp_trans _ _ _ h k
theorem underB_iff (s t : ByteArray) (hs : mayB s = true) (ht : mayB t = true) : underB s t = true ↔ partsL t.data.toList <+: partsL s.data.toList := by
  have := under_parts s.data.toList t.data.toList
  unfold mayB at hs ht
  rw [hs, ht, Bool.true_and, Bool.true_and] at this
  unfold underB
  rw [this, List.isPrefixOf_iff_prefix]
theorem underB_between (s t u : ByteArray) (hs : mayB s = true) (ht : mayB t = true) (hu : mayB u = true) (h : underB t s = true) (h1 : lessB s u = true) (h2 : lessB u t = true) : underB u s = true := by
  rw [underB_iff t s ht hs] at h
  rw [underB_iff u s hu hs]
  exact lp_between _ _ _ h h1 h2
end Go.Proofs.Ytafekepgnockjaa
