/-
  Words on memory that serve every seat: what a call leaves below, results by equations, a row of integers that came in. The entries of an access control list, as plain mathematics: which may be, the order, the normal form, whom they let. Lists of entries in memory; the contracts of the small functions of package acl. The contract of acl.compare.
-/
import Derived.Test.YtgbenepapajieaaGreatRows
import Derived.WalkKit
import Derived.WalkSpells
import Derived.WalkLawsBesides
import Derived.WalkSmall
import Derived.ScopeJumps
import Derived.WalkMore
import Derived.Lib.Hide
import Derived.ProofKit
import Derived.OpenShut
import Derived.Shelf.SlSortCmp.QuietGrown
import Derived.Lib.ItoaNum
import Derived.Deep.QuietTactic
import Derived.BigQuiet
import Derived.StillTailTactics
namespace Go.Proofs.YtgbenepapajieaaGreat
open Go.RowKit

/-- What a call that makes memory leaves: all that was there is as it was. -/
def Q (w w' : World) : Prop := Below w.heap.size w w'
theorem Q.refl (w : World) : Q w w := Below.refl _ _
theorem Q.trans {a b c : World} (h : Q a b) (k : Q b c) : Q a c := Below.trans h (Below.mono k h.size)
theorem Q.drew {a w : World} (h : Q a w) : Q a w.drew := Below.drew h
theorem Q.drewN {a w : World} (h : Q a w) (n : Nat) : Q a (w.drewN n) := below_drewN h n
theorem Q.alloc {a w : World} (h : Q a w) (o : Obj) : Q a (w.alloc o) := Below.alloc h h.size o
theorem Q.cell {w w' : World} (h : Q w w') {b o : Nat} {v : Value} (hc : w.cell? ⟨b, o, none⟩ = some v) : w'.cell? ⟨b, o, none⟩ = some v :=
  (Below.cell h (p := ⟨b, o, none⟩) (World.block_lt_of_cell? w _ hc)).trans hc

/-- What the walk is told of a slice of integers that came in. -/
def IsRow (k : IntKind) (w : World) (a : Option Addr) (len cap : Nat) (zs : List Int) : Prop :=
  (a = none ∧ len = 0 ∧ cap = 0 ∧ zs = []) ∨
  ∃ x, a = some x ∧ len ≤ cap ∧ cap ≤ maxLen ∧ zs.length = cap ∧ (∀ i, i < zs.length → w.cell? (x.add i) = some (.int k (zs.getD i 0))) ∧ ∀ n ∈ zs, (Lit.int k n).wf = true
theorem IsRow.keep {k : IntKind} {w w' : World} {a : Option Addr} {len cap : Nat} {zs : List Int} (h : IsRow k w a len cap zs) (q : Q w w') : IsRow k w' a len cap zs := by
  rcases h with h | ⟨x, rfl, h1, h2, h3, h4, h5⟩
  · exact .inl h
  · exact .inr ⟨x, rfl, h1, h2, h3, fun i hi => (Below.cell q (p := x.add i) (World.block_lt_of_cell? w _ (h4 i hi))).trans (h4 i hi), h5⟩
theorem IsRow.le {k : IntKind} {w : World} {a : Option Addr} {len cap : Nat} {zs : List Int} (h : IsRow k w a len cap zs) : len ≤ zs.length ∧ len ≤ maxLen := by
  rcases h with ⟨rfl, rfl, rfl, rfl⟩ | ⟨x, rfl, r1, r2, r3, r4, r5⟩
  · exact ⟨by simp, by unfold maxLen; omega⟩
  · exact ⟨by omega, by omega⟩

theorem ret_int {k : IntKind} {a b : Int} (h : a = b) : Ending.returned (.int k a) = .returned (.int k b) := by rw [h]
theorem ret_bool {a b : Bool} (h : a = b) : Ending.returned (.bool a) = .returned (.bool b) := by rw [h]
theorem ret_string {a b : ByteArray} (h : a = b) : Ending.returned (.string a) = .returned (.string b) := by rw [h]
theorem own_form {w : World} {base : Nat} {e : TypeId} {v : Value} {n : Nat} {xs : List Value} (h : w.ownsRow base e 1 v n xs) : ∃ A c, v = .slice A n c := by
  rcases h.2 with ⟨rfl, rfl⟩ | ⟨g, cap, cur, rfl, _⟩
  · exact ⟨_, _, rfl⟩
  · exact ⟨_, _, rfl⟩

/-! ### A loop by goto; worlds that have grown -/
theorem wp_scope_goto {P : Program} {a : Act} {w : World} {Q : Exit → Act → World → Prop} {c rest : Code} (l : Nat) (J : Act → World → Prop) (μ : Act → World → Nat) (hf : findLabel c l = some (.seq .skip rest))
    (first : Hid (∀ a w, J a w → rest.wp P (Exit.jump l J Q) a w) → c.wp P (Exit.jump l J Q) a w)
    (pass : ∀ a w, J a w → rest.wp P (Exit.jump l (fun a' w' => J a' w' ∧ μ a' w' < μ a w) Q) a w) : (Code.scope c).wp P Q a w :=
  wp_scope_jumps l J μ hf (first fun a w h => wp_mono (pass a w h) fun e a w q => by cases e <;> first | exact q | exact ⟨q.1, q.2.1⟩)
    fun a w h => wp_seq (wp_skip (pass a w h))

/-- What a call leaves that draws and lays blocks of its own. -/
def Grew (w w' : World) : Prop := ∃ q os, w' = Go.Sort.grow (w.drewN q) os
theorem Grew.below {B : Nat} {w w' : World} (h : Grew w w') (hB : B ≤ w.heap.size) : Below B w w' := by
  obtain ⟨q, os, rfl⟩ := h
  exact ⟨rfl, rfl, rfl, by show w.heap.size ≤ (w.heap ++ os).size; rw [Array.size_append]; omega, fun j hj => by
    show (w.heap ++ os)[j]? = w.heap[j]?
    rw [Array.getElem?_append_left (by omega)]⟩
theorem Grew.q {w w' : World} (h : Grew w w') : Q w w' := h.below (Nat.le_refl _)
theorem Grew.refl (w : World) : Grew w w := ⟨0, #[], by rw [Go.Sort.grow_empty]; rfl⟩
theorem Grew.trans {a b c : World} (h : Grew a b) (k : Grew b c) : Grew a c := by
  obtain ⟨q, os, rfl⟩ := h
  obtain ⟨p, os', rfl⟩ := k
  exact ⟨q + p, os ++ os', by show Go.Sort.grow (Go.Sort.grow ((a.drewN q).drewN p) os) os' = _; rw [Go.Sort.grow_grow, World.drewN_drewN]⟩
theorem Grew.alloc (w : World) (o : Obj) : Grew w (w.alloc o) := ⟨0, #[o], by rw [Go.Sort.alloc_eq_grow]; rfl⟩
theorem Grew.drew (w : World) : Grew w w.drew := ⟨1, #[], by rw [Go.Sort.grow_empty]; rfl⟩
theorem Grew.drewN (w : World) (n : Nat) : Grew w (w.drewN n) := ⟨n, #[], by rw [Go.Sort.grow_empty]⟩
/-- A contract of such a call, met in a region of reads. -/
theorem Grew.calls {P : Program} {f : FuncId} {args : Array Value} {w : World} {n : Nat} {os : Array Obj} {v : Value}
    (h : Calls P f args (Go.Sort.grow (w.drewN n) os) fun e w' => e = .returned v ∧ Grew (Go.Sort.grow (w.drewN n) os) w') : Calls P f args (Go.Sort.grow (w.drewN n) os) fun e w'' => e = .returned v ∧ ∃ p : GrownBy, w'' = Go.Sort.grow (w.drewN p.n) p.os :=
  Calls.grown_of h
theorem Q.grown {a w : World} (h : Q a w) (n : Nat) (os : Array Obj) : Q a (Go.Sort.grow (w.drewN n) os) := h.trans (Grew.q ⟨n, os, rfl⟩)
end Go.Proofs.YtgbenepapajieaaGreat
namespace Go.Proofs.YtgbenepapajieaaGreat
open Go.RowKit

/-- An entry: its kind, its id, its permissions. -/
abbrev Ace : Type := Int × Int × Int
def OkA (x : Ace) : Prop := 1 ≤ x.1 ∧ x.1 ≤ 3 ∧ 0 ≤ x.2.2 ∧ x.2.2 ≤ 7 ∧ 0 ≤ x.2.1 ∧ x.2.1 ≤ 2147483647 ∧ (x.1 ≠ 3 ∨ x.2.1 = 0)
instance (x : Ace) : Decidable (OkA x) := by unfold OkA; infer_instance
def ltA (x y : Ace) : Prop := x.1 < y.1 ∨ x.1 = y.1 ∧ x.2.1 < y.2.1
instance (x y : Ace) : Decidable (ltA x y) := by unfold ltA; infer_instance
def Rise (l : List Ace) : Prop := l.Pairwise ltA
instance (l : List Ace) : Decidable (Rise l) := by unfold Rise; infer_instance
def HasM (l : List Ace) : Prop := ∃ x ∈ l, x.1 = 3
instance (l : List Ace) : Decidable (HasM l) := by unfold HasM; infer_instance
def AllOk (l : List Ace) : Prop := ∀ x ∈ l, OkA x
instance (l : List Ace) : Decidable (AllOk l) := by unfold AllOk; infer_instance

theorem b_false {p : Prop} [Decidable p] (h : ¬ p) : false = decide p := (decide_eq_false h).symm
theorem b_true {p : Prop} [Decidable p] (h : p) : true = decide p := (decide_eq_true h).symm
theorem b_iff {p q : Prop} [Decidable p] [Decidable q] (h : p ↔ q) : decide p = decide q := decide_eq_decide.2 h
theorem b_beq {a b : Int} {p : Prop} [Decidable p] (h : a = b ↔ p) : (a == b) = decide p := by rw [Bool.eq_iff_iff, beq_iff_eq, decide_eq_true_eq]; exact h
theorem ltA_trans {x y z : Ace} (h : ltA x y) (k : ltA y z) : ltA x z := by unfold ltA at *; omega
theorem ltA_irrefl (x : Ace) : ¬ ltA x x := by unfold ltA; omega

/-! ### Neighbours decide -/
def UpTo (l : List Ace) (k : Nat) : Prop := ∀ j (h : j + 1 < l.length), j + 1 < k → ltA l[j] l[j + 1]
theorem UpTo.start (l : List Ace) : UpTo l 1 := fun j h hk => by omega
theorem UpTo.zero (l : List Ace) : UpTo l 0 := fun j h hk => by omega
theorem UpTo.step {l : List Ace} {k : Nat} (hk : k + 1 < l.length) (h : UpTo l (k + 1)) (h1 : ltA l[k] l[k + 1]) : UpTo l (k + 2) := fun j hj hjk => by
  by_cases e : j = k
  · subst e; exact h1
  · exact h j hj (by omega)
theorem UpTo.rise {l : List Ace} {k : Nat} (h : UpTo l k) (hk : l.length ≤ k) : Rise l := by
  unfold Rise
  rw [List.pairwise_iff_getElem]
  intro i j hi hj hij
  obtain ⟨d, rfl⟩ : ∃ d, j = i + 1 + d := ⟨j - i - 1, by omega⟩
  induction d with
  | zero => exact h i (by omega) (by omega)
  | succ d ih => exact ltA_trans (ih (by omega) (by omega)) (h (i + 1 + d) (by omega) (by omega))
theorem Rise.not {l : List Ace} {k : Nat} (hk : k + 1 < l.length) (h1 : ¬ ltA l[k] l[k + 1]) : ¬ Rise l := fun h =>
  h1 (List.pairwise_iff_getElem.1 h k (k + 1) (by omega) hk (by omega))

/-! ### A prefix that is sound -/
theorem allOk_step {l : List Ace} {k : Nat} (hk : k < l.length) (h : AllOk (l.take k)) (h1 : OkA l[k]) : AllOk (l.take (k + 1)) := by
  rw [List.take_succ_eq_append_getElem hk]
  intro x hx
  rcases List.mem_append.1 hx with hx | hx
  · exact h x hx
  · rw [List.mem_singleton.1 hx]; exact h1
theorem allOk_not {l : List Ace} {k : Nat} (hk : k < l.length) (h1 : ¬ OkA l[k]) : ¬ AllOk l := fun h => h1 (h _ (List.getElem_mem hk))
theorem allOk_end {l : List Ace} {k : Nat} (hk : l.length ≤ k) (h : AllOk (l.take k)) : AllOk l := by rwa [List.take_of_length_le hk] at h

/-! ### The mask stands last -/
def needsB (l : List Ace) : Bool := decide (l ≠ [] ∧ ¬ HasM l)
theorem rise_last {l : List Ace} (hs : Rise l) {k : Nat} (hk : l.length = k + 1) {j : Nat} (hj : j < l.length) : j = k ∨ ltA l[j] l[k] := by
  by_cases e : j = k
  · exact .inl e
  · exact .inr (List.pairwise_iff_getElem.1 hs j k hj (by omega) (by omega))
theorem mask_last {l : List Ace} (ho : AllOk l) (hs : Rise l) {k : Nat} (hk : l.length = k + 1) : HasM l ↔ (l[k]'(by omega)).1 = 3 := by
  constructor
  · rintro ⟨x, hx, h3⟩
    obtain ⟨j, hj, rfl⟩ := List.getElem_of_mem hx
    rcases rise_last hs hk hj with rfl | h
    · exact h3
    · have := ho _ (List.getElem_mem (show k < l.length by omega))
      unfold OkA at this
      unfold ltA at h
      omega
  · intro h
    exact ⟨_, List.getElem_mem (show k < l.length by omega), h⟩

/-- Is the last entry a mask, if there is one? -/
def lastM (l : List Ace) : Bool := match l.getLast? with | some x => x.1 == 3 | none => true
theorem last_at {l : List Ace} {k : Nat} (hk : l.length = k + 1) : l.getLast? = some (l[k]'(by omega)) := by
  rw [List.getLast?_eq_getElem?, List.getElem?_eq_getElem (by omega)]
  simp [hk]
theorem lastM_eq {l : List Ace} (ho : AllOk l) (hs : Rise l) : needsB l = !lastM l := by
  by_cases h0 : l = []
  · subst h0; rfl
  · have hk : l.length = (l.length - 1) + 1 := by have := List.length_pos_iff.2 h0; omega
    have h3 := mask_last ho hs hk
    unfold lastM needsB
    rw [last_at hk]
    simp only
    rw [Bool.eq_iff_iff]
    simp only [decide_eq_true_eq, Bool.not_eq_true', beq_eq_false_iff_ne]
    constructor
    · exact fun h e => h.2 (h3.2 e)
    · exact fun h => ⟨h0, fun m => h (h3.1 m)⟩

def mayB (l : List Ace) : Bool := decide (l.length ≤ 16 ∧ AllOk l ∧ Rise l ∧ needsB l = false)

/-! ### The normal form -/
def keyA (x : Ace) : Int × Int := (x.1, x.2.1)
def Once (l : List Ace) : Prop := (l.map keyA).Nodup
instance (l : List Ace) : Decidable (Once l) := by unfold Once; infer_instance
def normC (l : List Ace) : Int := if ¬ AllOk l then 1 else if ¬ Once l then 6 else if 16 < l.length then 13 else if needsB l then 7 else 0
def NormR (l r : List Ace) : Prop := (normC l = 0 → r.Perm l ∧ Rise r) ∧ (normC l ≠ 0 → r = [])
theorem allOk_perm {l m : List Ace} (h : l.Perm m) : AllOk l ↔ AllOk m := ⟨fun k x hx => k x (h.mem_iff.2 hx), fun k x hx => k x (h.mem_iff.1 hx)⟩
theorem once_perm {l m : List Ace} (h : l.Perm m) : Once l ↔ Once m := (h.map keyA).nodup_iff
theorem hasM_perm {l m : List Ace} (h : l.Perm m) : HasM l ↔ HasM m := ⟨fun ⟨x, hx, k⟩ => ⟨x, h.mem_iff.1 hx, k⟩, fun ⟨x, hx, k⟩ => ⟨x, h.mem_iff.2 hx, k⟩⟩
theorem needs_perm {l m : List Ace} (h : l.Perm m) : needsB l = needsB m := by
  unfold needsB
  rw [decide_eq_decide, hasM_perm h]
  have : l = [] ↔ m = [] := by
    constructor
    · rintro rfl; exact h.nil_eq.symm
    · rintro rfl; exact h.symm.nil_eq.symm
  rw [Ne, Ne, this]
theorem normC_perm {l m : List Ace} (h : l.Perm m) : normC l = normC m := by
  unfold normC
  rw [needs_perm h, h.length_eq]
  simp only [allOk_perm h, once_perm h]
theorem rise_uniq {l m : List Ace} (h : l.Perm m) (hl : Rise l) (hm : Rise m) : l = m :=
  List.Perm.eq_of_pairwise (le := ltA) (fun a _ _ _ h1 h2 => absurd (ltA_trans h1 h2) (ltA_irrefl a)) hl hm h
theorem NormR.uniq {l r s : List Ace} (h : NormR l r) (k : NormR l s) : r = s := by
  by_cases e : normC l = 0
  · exact rise_uniq ((h.1 e).1.trans (k.1 e).1.symm) (h.1 e).2 (k.1 e).2
  · rw [h.2 e, k.2 e]
theorem NormR.perm {l m r : List Ace} (h : NormR l r) (p : l.Perm m) : NormR m r := by
  unfold NormR at *
  rw [← normC_perm p]
  exact ⟨fun e => ⟨(h.1 e).1.trans p, (h.1 e).2⟩, h.2⟩
theorem rise_once {r : List Ace} (h : Rise r) : Once r := by
  unfold Once
  rw [List.nodup_iff_pairwise_ne, List.pairwise_map]
  refine List.Pairwise.imp ?_ h
  intro a b hab e
  unfold keyA at e
  have e1 := congrArg Prod.fst e
  have e2 := congrArg Prod.snd e
  simp only at e1 e2
  unfold ltA at hab
  omega
/-- A row that does not fall: strictly rising just where no key comes twice. -/
theorem once_rise {l r : List Ace} (hp : r.Perm l) (hs : r.Pairwise fun x y => ¬ ltA y x) : Rise r ↔ Once l := by
  constructor
  · intro h
    exact (once_perm hp).1 (rise_once h)
  · intro h
    have hr := (once_perm hp).2 h
    unfold Once at hr
    rw [List.nodup_iff_pairwise_ne, List.pairwise_map] at hr
    unfold Rise
    refine List.Pairwise.imp₂ ?_ hs hr
    intro a b h1 h2
    unfold ltA at *
    have : ¬ (a.1 = b.1 ∧ a.2.1 = b.2.1) := fun ⟨e1, e2⟩ => h2 (by unfold keyA; rw [e1, e2])
    omega
theorem norm_may {l r : List Ace} (h : NormR l r) (e : normC l = 0) : mayB r = true ∧ normC r = 0 ∧ NormR r r ∧ r.length = l.length := by
  obtain ⟨hp, hs⟩ := h.1 e
  have e2 : normC r = 0 := (normC_perm hp).trans e
  have e3 := e2
  unfold normC at e3
  refine ⟨?_, e2, ⟨fun _ => ⟨List.Perm.refl _, hs⟩, fun h => absurd e2 h⟩, hp.length_eq⟩
  unfold mayB
  refine decide_eq_true ?_
  by_cases h1 : AllOk r
  · rw [if_neg (by simpa using h1)] at e3
    by_cases h2 : Once r
    · rw [if_neg (by simpa using h2)] at e3
      by_cases h3 : 16 < r.length
      · rw [if_pos h3] at e3; omega
      · rw [if_neg h3] at e3
        by_cases h4 : needsB r = true
        · rw [if_pos h4] at e3; omega
        · exact ⟨by omega, h1, hs, by simpa using h4⟩
    · rw [if_pos h2] at e3; omega
  · rw [if_pos h1] at e3; omega
theorem normR_zero {l r : List Ace} (h : normC l = 0) (hp : r.Perm l) (hs : Rise r) : NormR l r := ⟨fun _ => ⟨hp, hs⟩, fun k => absurd h k⟩
theorem normR_err {l : List Ace} (h : normC l ≠ 0) : NormR l [] := ⟨fun k => absurd k h, fun _ => rfl⟩

/-! ### Numbers and their bits -/
def band (x y : Int) : Int := bits .and .i64 x y
theorem ofInt_wrap (n : Int) : BitVec.ofInt 64 (IntKind.i64.wrap n) = BitVec.ofInt 64 n := by
  apply BitVec.eq_of_toInt_eq
  rw [BitVec.toInt_ofInt, BitVec.toInt_ofInt]
  rw [show IntKind.i64.wrap n = n.bmod (2 ^ 64) from by
    unfold IntKind.wrap
    simp only [show IntKind.i64.signed = true from rfl, show IntKind.i64.bits = 64 from rfl, Int.bmod]
    split <;> split <;> (rename_i h1 h2; simp at h1 h2 ⊢; try omega)]
  exact Int.bmod_bmod
theorem ofInt_band (x y : Int) : BitVec.ofInt 64 (band x y) = BitVec.ofInt 64 x &&& BitVec.ofInt 64 y := by
  show BitVec.ofInt 64 (IntKind.i64.wrap ((BitVec.ofInt 64 x &&& BitVec.ofInt 64 y).toNat : Int)) = _
  rw [ofInt_wrap, BitVec.ofInt_natCast, BitVec.ofNat_toNat, BitVec.setWidth_eq]
theorem band_of {x y z u : Int} (h : BitVec.ofInt 64 x &&& BitVec.ofInt 64 y = BitVec.ofInt 64 z &&& BitVec.ofInt 64 u) : band x y = band z u :=
  congrArg (fun b : BitVec 64 => IntKind.i64.wrap (b.toNat : Int)) h
theorem seven_and (a : Int) (h0 : 0 ≤ a) (h1 : a ≤ 7) : BitVec.ofInt 64 7 &&& BitVec.ofInt 64 a = BitVec.ofInt 64 a := by
  have : a = 0 ∨ a = 1 ∨ a = 2 ∨ a = 3 ∨ a = 4 ∨ a = 5 ∨ a = 6 ∨ a = 7 := by omega
  rcases this with rfl | rfl | rfl | rfl | rfl | rfl | rfl | rfl <;> decide
/-- Bits above those that are asked do not count. -/
theorem band_7 (x a : Int) (h0 : 0 ≤ a) (h1 : a ≤ 7) : band (band x 7) a = band x a := by
  apply band_of
  rw [ofInt_band, BitVec.and_assoc, seven_and a h0 h1]
theorem band_7m (x m a : Int) (h0 : 0 ≤ a) (h1 : a ≤ 7) : band (band (band x 7) m) a = band (band x m) a := by
  apply band_of
  rw [ofInt_band, ofInt_band, ofInt_band, BitVec.and_assoc, BitVec.and_assoc, BitVec.and_comm (BitVec.ofInt 64 m), ← BitVec.and_assoc (BitVec.ofInt 64 7), seven_and a h0 h1, BitVec.and_assoc, BitVec.and_comm (BitVec.ofInt 64 m)]
def hasB (p a : Int) : Bool := band p a == a
theorem has_7 (x a : Int) (h0 : 0 ≤ a) (h1 : a ≤ 7) : hasB (band x 7) a = hasB x a := by unfold hasB; rw [band_7 x a h0 h1]
theorem has_7m (x m a : Int) (h0 : 0 ≤ a) (h1 : a ≤ 7) : hasB (band (band x 7) m) a = hasB (band x m) a := by unfold hasB; rw [band_7m x m a h0 h1]

/-! ### Whom the entries let -/
def maskL (l : List Ace) : Int := match l.getLast? with | some x => x.2.2 | none => 7
def isUser (who : Int) (x : Ace) : Bool := x.1 == 1 && x.2.1 == who
def isGroup (gs : List Int) (x : Ace) : Bool := x.1 == 2 && gs.contains x.2.1
def permsG (gs : List Int) (l : List Ace) : List Int := (l.filter (isGroup gs)).map (·.2.2)
def permsL (l : List Ace) (own gid : Int) (gs : List Int) : List Int := (if gs.contains gid then [own] else []) ++ permsG gs l
def letsL (l : List Ace) (mode uid gid who : Int) (gs : List Int) (ask : Int) : Bool :=
  if mayB l = false ∨ ask < 0 ∨ 7 < ask then false
  else if who = 0 then true
  else if who = uid then hasB (mode / 64) ask
  else match l.find? (isUser who) with
    | some x => hasB (band x.2.2 (maskL l)) ask
    | none => if permsL l (mode / 8) gid gs = [] then hasB mode ask else (permsL l (mode / 8) gid gs).any fun p => hasB (band p (maskL l)) ask
theorem lets_no {l : List Ace} {mode uid gid who : Int} {gs : List Int} {ask : Int} (h : mayB l = false ∨ ask < 0 ∨ 7 < ask) : letsL l mode uid gid who gs ask = false := by
  unfold letsL; rw [if_pos h]
theorem lets_zero {l : List Ace} {mode uid gid who : Int} {gs : List Int} {ask : Int} (h : ¬ (mayB l = false ∨ ask < 0 ∨ 7 < ask)) (h0 : who = 0) : letsL l mode uid gid who gs ask = true := by
  unfold letsL; rw [if_neg h, if_pos h0]
theorem lets_own {l : List Ace} {mode uid gid who : Int} {gs : List Int} {ask : Int} (h : ¬ (mayB l = false ∨ ask < 0 ∨ 7 < ask)) (h0 : ¬ who = 0) (h1 : who = uid) : letsL l mode uid gid who gs ask = hasB (mode / 64) ask := by
  unfold letsL; rw [if_neg h, if_neg h0, if_pos h1]
theorem lets_user {l : List Ace} {mode uid gid who : Int} {gs : List Int} {ask : Int} (h : ¬ (mayB l = false ∨ ask < 0 ∨ 7 < ask)) (h0 : ¬ who = 0) (h1 : ¬ who = uid) {x : Ace} (h2 : l.find? (isUser who) = some x) : letsL l mode uid gid who gs ask = hasB (band x.2.2 (maskL l)) ask := by
  unfold letsL; rw [if_neg h, if_neg h0, if_neg h1, h2]
theorem lets_others {l : List Ace} {mode uid gid who : Int} {gs : List Int} {ask : Int} (h : ¬ (mayB l = false ∨ ask < 0 ∨ 7 < ask)) (h0 : ¬ who = 0) (h1 : ¬ who = uid) (h2 : l.find? (isUser who) = none) (h3 : permsL l (mode / 8) gid gs = []) : letsL l mode uid gid who gs ask = hasB mode ask := by
  unfold letsL; rw [if_neg h, if_neg h0, if_neg h1, h2]; simp only; rw [if_pos h3]
theorem lets_groups {l : List Ace} {mode uid gid who : Int} {gs : List Int} {ask : Int} (h : ¬ (mayB l = false ∨ ask < 0 ∨ 7 < ask)) (h0 : ¬ who = 0) (h1 : ¬ who = uid) (h2 : l.find? (isUser who) = none) (h3 : ¬ permsL l (mode / 8) gid gs = []) : letsL l mode uid gid who gs ask = (permsL l (mode / 8) gid gs).any fun p => hasB (band p (maskL l)) ask := by
  unfold letsL; rw [if_neg h, if_neg h0, if_neg h1, h2]; simp only; rw [if_neg h3]

/-! ### Looking for the user's entry -/
def NoUser (who : Int) (l : List Ace) (k : Nat) : Prop := ∀ j (h : j < l.length), j < k → isUser who l[j] = false
theorem NoUser.zero (who : Int) (l : List Ace) : NoUser who l 0 := fun j h hk => by omega
theorem NoUser.step {who : Int} {l : List Ace} {k : Nat} (hk : k < l.length) (h : NoUser who l k) (h1 : isUser who l[k] = false) : NoUser who l (k + 1) := fun j hj hjk => by
  by_cases e : j = k
  · subst e; exact h1
  · exact h j hj (by omega)
theorem NoUser.none {who : Int} {l : List Ace} {k : Nat} (h : NoUser who l k) (hk : l.length ≤ k) : l.find? (isUser who) = none := by
  rw [List.find?_eq_none]
  intro x hx
  obtain ⟨j, hj, rfl⟩ := List.getElem_of_mem hx
  rw [h j hj (by omega)]
  simp
theorem NoUser.some {who : Int} {l : List Ace} {k : Nat} (h : NoUser who l k) (hk : k < l.length) (h1 : isUser who l[k] = true) : l.find? (isUser who) = some l[k] := by
  rw [List.find?_eq_some_iff_getElem]
  exact ⟨h1, k, hk, rfl, fun j hj => by rw [h j (by omega) hj]; rfl⟩
theorem permsG_step (gs : List Int) {l : List Ace} {k : Nat} (hk : k < l.length) : permsG gs (l.take (k + 1)) = permsG gs (l.take k) ++ (if isGroup gs l[k] then [l[k].2.2] else []) := by
  unfold permsG
  rw [List.take_succ_eq_append_getElem hk, List.filter_append, List.map_append]
  by_cases h : isGroup gs l[k] = true <;> simp [h]
/-- The mask as the entries are passed one by one. -/
def maskR (l : List Ace) : Int := l.foldl (fun m x => if x.1 = 3 then x.2.2 else m) 7
theorem maskR_step {l : List Ace} {k : Nat} (hk : k < l.length) : maskR (l.take (k + 1)) = if l[k].1 = 3 then l[k].2.2 else maskR (l.take k) := by
  unfold maskR
  rw [List.take_succ_eq_append_getElem hk, List.foldl_append]
  rfl
theorem mayB_parts {l : List Ace} (h : mayB l = true) : l.length ≤ 16 ∧ AllOk l ∧ Rise l ∧ needsB l = false := of_decide_eq_true h
theorem maskR_may {l : List Ace} (h : mayB l = true) : maskR l = maskL l := by
  obtain ⟨_, ho, hs, hn⟩ := mayB_parts h
  by_cases h0 : l = []
  · subst h0; rfl
  · have hk : l.length = (l.length - 1) + 1 := by have := List.length_pos_iff.2 h0; omega
    have hm : HasM l := by
      unfold needsB at hn
      have := of_decide_eq_false hn
      exact Classical.byContradiction fun h => this ⟨h0, h⟩
    have h3 := (mask_last ho hs hk).1 hm
    have e := maskR_step (l := l) (k := l.length - 1) (by omega)
    rw [if_pos h3, ← hk, List.take_length] at e
    rw [e]
    unfold maskL
    rw [List.getLast?_eq_getElem?, List.getElem?_eq_getElem (by omega)]

/-! ### The text of a list -/
def letterL (k : Int) : UInt8 := if k = 1 then 117 else if k = 2 then 103 else if k = 3 then 109 else 63
def showA (x : Ace) : List UInt8 := letterL x.1 :: (Lib.itoa x.2.1 ++ 58 :: Lib.itoa x.2.2)
def showL : List Ace → List UInt8
  | [] => []
  | x :: r => showA x ++ r.flatMap fun y => 32 :: showA y
theorem showL_add (l : List Ace) (z : Ace) : showL (l ++ [z]) = showL l ++ ((if l.length = 0 then [] else [32]) ++ showA z) := by
  cases l with
  | nil => simp [showL]
  | cons x r => simp [showL]
theorem showL_step {l : List Ace} {k : Nat} (hk : k < l.length) : showL (l.take (k + 1)) = showL (l.take k) ++ ((if k = 0 then [] else [32]) ++ showA l[k]) := by
  rw [List.take_succ_eq_append_getElem hk, showL_add, List.length_take, Nat.min_eq_left (by omega)]
/-- Numbers that fit an int. -/
def Fits (x : Ace) : Prop := (-9223372036854775808 ≤ x.1 ∧ x.1 ≤ 9223372036854775807) ∧ (-9223372036854775808 ≤ x.2.1 ∧ x.2.1 ≤ 9223372036854775807) ∧ (-9223372036854775808 ≤ x.2.2 ∧ x.2.2 ≤ 9223372036854775807)
end Go.Proofs.YtgbenepapajieaaGreat
namespace Go.Proofs.YtgbenepapajieaaGreat
open Go.RowKit

/-- An entry as a value. -/
def aggA (x : Ace) : Value := .agg #[.int .i64 x.1, .int .i64 x.2.1, .int .i64 x.2.2]
/-- A slice value that reads as these entries. -/
def AcesAt (w : World) (v : Value) (l : List Ace) : Prop :=
  (l = [] ∧ ∃ a cap, v = .slice a 0 cap ∧ (a = none → cap = 0)) ∨
  ∃ g o cap, v = .slice (some ⟨g, o, none⟩) l.length cap ∧ l.length ≤ cap ∧ cap ≤ maxLen ∧ ∀ i (h : i < l.length), w.cell? ⟨g, o + i * 3, none⟩ = some (.int .i64 l[i].1) ∧ w.cell? ⟨g, o + i * 3 + 1, none⟩ = some (.int .i64 l[i].2.1) ∧ w.cell? ⟨g, o + i * 3 + 2, none⟩ = some (.int .i64 l[i].2.2)
theorem AcesAt.nil_ (w : World) : AcesAt w (.slice none 0 0) [] := .inl ⟨rfl, _, _, rfl, fun _ => rfl⟩
theorem AcesAt.form {w : World} {v : Value} {l : List Ace} (h : AcesAt w v l) : ∃ A c, v = .slice A l.length c := by
  rcases h with ⟨rfl, a, c, rfl, _⟩ | ⟨g, o, cap, rfl, _⟩
  · exact ⟨_, _, rfl⟩
  · exact ⟨_, _, rfl⟩
theorem AcesAt.len {w : World} {v : Value} {l : List Ace} (h : AcesAt w v l) : l.length ≤ maxLen := by
  rcases h with ⟨rfl, a, c, rfl, _⟩ | ⟨g, o, cap, rfl, h1, h2, _⟩
  · simp
  · omega
theorem AcesAt.at_ {w : World} {v : Value} {l : List Ace} (h : AcesAt w v l) (hn : 0 < l.length) : ∃ g o cap, v = .slice (some ⟨g, o, none⟩) l.length cap ∧ l.length ≤ cap ∧ cap ≤ maxLen ∧ ∀ i (h : i < l.length), w.cell? ⟨g, o + i * 3, none⟩ = some (.int .i64 l[i].1) ∧ w.cell? ⟨g, o + i * 3 + 1, none⟩ = some (.int .i64 l[i].2.1) ∧ w.cell? ⟨g, o + i * 3 + 2, none⟩ = some (.int .i64 l[i].2.2) := by
  rcases h with ⟨rfl, a, c, rfl, _⟩ | h
  · simp at hn
  · exact h
theorem AcesAt.keep {w w' : World} {v : Value} {l : List Ace} (h : AcesAt w v l) (q : Q w w') : AcesAt w' v l := by
  rcases h with h | ⟨g, o, cap, e, h1, h2, h3⟩
  · exact .inl h
  · exact .inr ⟨g, o, cap, e, h1, h2, fun i hi => ⟨q.cell (h3 i hi).1, q.cell (h3 i hi).2.1, q.cell (h3 i hi).2.2⟩⟩

/-! ### set, entry -/
def setB (n : Int) : Bool := decide (0 ≤ n ∧ n ≤ 7)
theorem set_any (n : Int) (w : World) : Calls Tryz.prog 173 #[.int .i64 n] w fun e w' => e = .returned (.bool (setB n)) ∧ w' = w := by
  go_enter Tryz.func173, Tryz.ntmps173
  go_wp2
  all_goals
    go_ret
    exact ⟨ret_bool (by unfold setB; first | exact b_false (by omega) | exact b_iff (by omega)), rfl⟩
theorem b_set {n : Int} {p : Prop} [Decidable p] (h : (0 ≤ n ∧ n ≤ 7) ↔ p) : setB n = decide p := decide_eq_decide.2 h
set_option maxRecDepth 100000 in
set_option maxHeartbeats 400000 in
theorem entry_any (x : Ace) (w : World) : Calls Tryz.prog 170 #[aggA x] w fun e w' => e = .returned (.bool (decide (OkA x))) ∧ Grew w w' := by
  obtain ⟨k, i, p⟩ := x
  unfold aggA
  simp only
  by_cases k1 : k = 1
  · have K := Lib.hid k1
    have t1 : (k == 1) = true := beq_iff_eq.2 k1
    clear k1
    go_enter Tryz.func170, Tryz.ntmps170
    go_wp2_with (go_at_call 173; refine (set_any _ _).mono ?_; rintro e w1 ⟨rfl, rfl⟩)
    all_goals
      go_ret
      have := K.out
      exact ⟨ret_bool (by first | exact b_false (by simp only [OkA]; omega) | exact b_true (by simp only [OkA]; omega) | exact b_iff (by simp only [OkA]; omega) | exact b_beq (by simp only [OkA]; omega) | exact b_set (by simp only [OkA]; omega)), Grew.alloc _ _⟩
  by_cases k2 : k = 2
  · have K := Lib.hid k2
    have t1 : (k == 1) = false := beq_eq_false_iff_ne.2 k1
    have t2 : (k == 2) = true := beq_iff_eq.2 k2
    clear k1 k2
    go_enter Tryz.func170, Tryz.ntmps170
    go_wp2_with (go_at_call 173; refine (set_any _ _).mono ?_; rintro e w1 ⟨rfl, rfl⟩)
    all_goals
      go_ret
      have := K.out
      exact ⟨ret_bool (by first | exact b_false (by simp only [OkA]; omega) | exact b_true (by simp only [OkA]; omega) | exact b_iff (by simp only [OkA]; omega) | exact b_beq (by simp only [OkA]; omega) | exact b_set (by simp only [OkA]; omega)), Grew.alloc _ _⟩
  by_cases k3 : k = 3
  · have K := Lib.hid k3
    have t1 : (k == 1) = false := beq_eq_false_iff_ne.2 k1
    have t2 : (k == 2) = false := beq_eq_false_iff_ne.2 k2
    have t3 : (k == 3) = true := beq_iff_eq.2 k3
    clear k1 k2 k3
    by_cases i0 : i = 0
    · have I := Lib.hid i0
      have t4 : (i == 0) = true := beq_iff_eq.2 i0
      clear i0
      go_enter Tryz.func170, Tryz.ntmps170
      go_wp2_with (go_at_call 173; refine (set_any _ _).mono ?_; rintro e w1 ⟨rfl, rfl⟩)
      all_goals
        go_ret
        have := K.out
        have := I.out
        exact ⟨ret_bool (by first | exact b_false (by simp only [OkA]; omega) | exact b_true (by simp only [OkA]; omega) | exact b_iff (by simp only [OkA]; omega) | exact b_beq (by simp only [OkA]; omega) | exact b_set (by simp only [OkA]; omega)), Grew.alloc _ _⟩
    · have I := Lib.hid i0
      have t4 : (i == 0) = false := beq_eq_false_iff_ne.2 i0
      clear i0
      go_enter Tryz.func170, Tryz.ntmps170
      go_wp2_with (go_at_call 173; refine (set_any _ _).mono ?_; rintro e w1 ⟨rfl, rfl⟩)
      all_goals
        go_ret
        have := K.out
        have := I.out
        exact ⟨ret_bool (by first | exact b_false (by simp only [OkA]; omega) | exact b_true (by simp only [OkA]; omega) | exact b_iff (by simp only [OkA]; omega) | exact b_beq (by simp only [OkA]; omega) | exact b_set (by simp only [OkA]; omega)), Grew.alloc _ _⟩
  · have t1 : (k == 1) = false := beq_eq_false_iff_ne.2 k1
    have t2 : (k == 2) = false := beq_eq_false_iff_ne.2 k2
    have t3 : (k == 3) = false := beq_eq_false_iff_ne.2 k3
    have K := Lib.hid (decide_eq_false (p := OkA (k, i, p)) (by simp only [OkA]; omega))
    clear k1 k2 k3
    go_enter Tryz.func170, Tryz.ntmps170
    go_wp2
    go_ret
    exact ⟨ret_bool K.out.symm, Grew.alloc _ _⟩

set_option maxRecDepth 100000 in
set_option maxHeartbeats 400000 in
theorem ace_any (x : Ace) (w : World) : Calls Tryz.prog 134 #[aggA x] w fun e w' => e = .returned (.bool (decide (OkA x))) ∧ Grew w w' := by
  obtain ⟨k, i, p⟩ := x
  unfold aggA
  simp only
  go_enter Tryz.func134, Tryz.ntmps134
  go_wp2
  all_goals
    go_ret
    exact ⟨ret_bool (by first | exact b_false (by simp only [OkA]; omega) | exact b_true (by simp only [OkA]; omega) | exact b_beq (by simp only [OkA]; omega)), Grew.alloc _ _⟩

/-! ### The order -/
set_option maxRecDepth 100000 in
set_option maxHeartbeats 400000 in
theorem less_any (x y : Ace) (w : World) : Calls Tryz.prog 135 #[aggA x, aggA y] w fun e w' => e = .returned (.bool (decide (ltA x y))) ∧ Grew w w' := by
  obtain ⟨k, i, p⟩ := x
  obtain ⟨k', i', p'⟩ := y
  unfold aggA
  simp only
  by_cases h1 : k < k'
  · have K := Lib.hid (decide_eq_true (p := ltA (k, i, p) (k', i', p')) (by simp only [ltA]; omega))
    go_enter Tryz.func135, Tryz.ntmps135
    go_wp2
    all_goals
      go_ret
      exact ⟨ret_bool K.out.symm, (Grew.alloc _ _).trans (Grew.alloc _ _)⟩
  · by_cases h2 : k = k'
    · subst h2
      have K := Lib.hid (show decide (ltA (k, i, p) (k, i', p')) = decide (i < i') from by rw [decide_eq_decide]; simp [ltA])
      clear h1
      go_enter Tryz.func135, Tryz.ntmps135
      go_wp2
      all_goals
        go_ret
        have K' := K.out
        exact ⟨ret_bool (by simp_all), (Grew.alloc _ _).trans (Grew.alloc _ _)⟩
    · have K := Lib.hid (decide_eq_false (p := ltA (k, i, p) (k', i', p')) (by simp only [ltA]; omega))
      have t2 : (k == k') = false := beq_eq_false_iff_ne.2 h2
      clear h2
      go_enter Tryz.func135, Tryz.ntmps135
      go_wp2
      all_goals
        go_ret
        exact ⟨ret_bool K.out.symm, (Grew.alloc _ _).trans (Grew.alloc _ _)⟩

def cmp3 (a b : Int) : Int := if a < b then -1 else if b < a then 1 else 0
def cmpA (x y : Ace) : Int := if cmp3 x.1 y.1 = 0 then cmp3 x.2.1 y.2.1 else cmp3 x.1 y.1
theorem cmpA_lt (x y : Ace) : cmpA x y < 0 ↔ ltA x y := by unfold cmpA cmp3 ltA; repeat' split <;> omega
set_option maxRecDepth 100000 in
set_option maxHeartbeats 400000 in
theorem isNaN_any (n : Int) (w : World) : Calls Tryz.prog 177 #[.int .i64 n] w fun e w' => e = .returned (.bool false) ∧ w' = w := by
  have t1 : (n != n) = false := bne_self_eq_false n
  go_enter Tryz.func177, Tryz.ntmps177
  go_wp2
  go_ret
  exact ⟨rfl, rfl⟩
set_option maxRecDepth 100000 in
set_option maxHeartbeats 400000 in
theorem cmp3_any (a b : Int) (w : World) : Calls Tryz.prog 175 #[.int .i64 a, .int .i64 b] w fun e w' => e = .returned (.int .i64 (cmp3 a b)) ∧ w' = w := by
  by_cases c1 : a < b
  · have E1 : Hid (cmp3 a b = -1) := if_pos c1
    go_enter Tryz.func175, Tryz.ntmps175
    go_wp2_with (go_at_call 177; refine (isNaN_any _ _).mono ?_; rintro e w1 ⟨rfl, rfl⟩)
    go_ret
    exact ⟨ret_int E1.out.symm, rfl⟩
  · by_cases c2 : b < a
    · have E1 : Hid (cmp3 a b = 1) := by show (if _ then _ else _) = _; rw [if_neg c1, if_pos c2]
      go_enter Tryz.func175, Tryz.ntmps175
      go_wp2_with (go_at_call 177; refine (isNaN_any _ _).mono ?_; rintro e w1 ⟨rfl, rfl⟩)
      go_ret
      exact ⟨ret_int E1.out.symm, rfl⟩
    · have E1 : Hid (cmp3 a b = 0) := by show (if _ then _ else _) = _; rw [if_neg c1, if_neg c2]
      go_enter Tryz.func175, Tryz.ntmps175
      go_wp2_with (go_at_call 177; refine (isNaN_any _ _).mono ?_; rintro e w1 ⟨rfl, rfl⟩)
      go_ret
      exact ⟨ret_int E1.out.symm, rfl⟩
end Go.Proofs.YtgbenepapajieaaGreat
namespace Go.Proofs.YtgbenepapajieaaGreat
open Go.RowKit

set_option maxRecDepth 100000 in
set_option maxHeartbeats 1000000 in
theorem or_any (g a b : Int) (B : Nat) (cap : Nat) (hg : g = if a = 0 then b else a) (w : World) (c0 : w.cell? ⟨B, 0, none⟩ = some (.int .i64 a)) (c1 : w.cell? ⟨B, 1, none⟩ = some (.int .i64 b)) :
    Calls Tryz.prog 174 #[.slice (some ⟨B, 0, none⟩) 2 cap] w fun e w' => e = .returned (.int .i64 g) ∧ w' = w := by
  have HG := Lib.hid hg
  clear hg
  go_enter Tryz.func174, Tryz.ntmps174
  go_wp2
  go_loopw [5, 8] (fun _ i wr => wr = w ∧ (i = .int .i64 0 ∨ (i = .int .i64 1 ∧ Hid (a = 0)) ∨ (i = .int .i64 2 ∧ Hid (a = 0) ∧ Hid (b = 0)))) (fun _ i _ => 2 - (intOf i).toNat)
  case atStart => exact ⟨rfl, .inl rfl⟩
  case round =>
    obtain ⟨rfl, rfl | ⟨rfl, H0⟩ | ⟨rfl, H0, H1⟩⟩ := hrel
    · by_cases hz : a = 0
      · have t0 : (a != 0) = false := by rw [bne_eq_false_iff_eq]; exact hz
        have Z := Lib.hid hz
        clear hz
        go_wp2
        go_roundw
        case rel => exact ⟨trivial, .inr (.inl ⟨rfl, Z⟩)⟩
        case measure => simp [intOf]
      · have t0 : (a != 0) = true := bne_iff_ne.2 hz
        have Z := Lib.hid hz
        clear hz
        go_wp2
        go_ret
        exact ⟨ret_int (by rw [HG.out, if_neg Z.out]), rfl⟩
    · by_cases hz : b = 0
      · have t0 : (b != 0) = false := by rw [bne_eq_false_iff_eq]; exact hz
        have Z := Lib.hid hz
        clear hz
        go_wp2
        go_roundw
        case rel => exact ⟨trivial, .inr (.inr ⟨rfl, H0, Z⟩)⟩
        case measure => simp [intOf]
      · have t0 : (b != 0) = true := bne_iff_ne.2 hz
        have Z := Lib.hid hz
        clear hz
        go_wp2
        go_ret
        exact ⟨ret_int (by rw [HG.out, if_pos H0.out]), rfl⟩
    · go_wp2
      go_ret
      exact ⟨ret_int (by rw [HG.out, if_pos H0.out, H1.out]), rfl⟩

set_option maxRecDepth 100000 in
set_option maxHeartbeats 4000000 in
theorem compare_any (x y : Ace) (w : World) : Calls Tryz.prog 171 #[aggA x, aggA y] w fun e w' => e = .returned (.int .i64 (cmpA x y)) ∧ Grew w w' := by
  obtain ⟨k, i, p⟩ := x
  obtain ⟨k', i', p'⟩ := y
  have hor := fun B cap w c0 c1 => or_any (cmpA (k, i, p) (k', i', p')) (cmp3 k k') (cmp3 i i') B cap rfl w c0 c1
  have hk := fun w => cmp3_any k k' w
  have hi := fun w => cmp3_any i i' w
  generalize cmpA (k, i, p) (k', i', p') = r at *
  generalize cmp3 k k' = a at *
  generalize cmp3 i i' = b at *
  unfold aggA
  simp only
  have HO := Lib.hid hor
  have HK := Lib.hid hk
  have HI := Lib.hid hi
  clear hor hk hi
  go_enter Tryz.func171, Tryz.ntmps171
  go_wp2_with fail
  obtain ⟨w2, hw2⟩ : ∃ w2, w2 = ((w.alloc (.cells #[.int .i64 k, .int .i64 i, .int .i64 p] 80)).alloc (.cells #[.int .i64 k', .int .i64 i', .int .i64 p'] 80)).drew := ⟨_, rfl⟩
  have f0 : w2.cell? ⟨w.heap.size, 0, none⟩ = some (.int .i64 k) := by rw [hw2]; simp
  have f1 : w2.cell? ⟨w.heap.size, 1, none⟩ = some (.int .i64 i) := by rw [hw2]; simp
  have f2 : w2.cell? ⟨w.heap.size + 1, 0, none⟩ = some (.int .i64 k') := by rw [hw2]; simp
  have f3 : w2.cell? ⟨w.heap.size + 1, 1, none⟩ = some (.int .i64 i') := by rw [hw2]; simp
  have hg : Grew w w2 := by rw [hw2]; exact ((Grew.alloc _ _).trans (Grew.alloc _ _)).trans (Grew.drew _)
  refine wp_region_still_tail 10 (by kernel_rfl) (by kernel_rfl) ?_
  simp only [List.take_succ_cons, List.take_zero, List.drop_succ_cons, List.drop_zero]
  change wpStill _ _ ((w.alloc (.cells #[.int .i64 k, .int .i64 i, .int .i64 p] 80)).alloc (.cells #[.int .i64 k', .int .i64 i', .int .i64 p'] 80)).drew (fun a' => wpList _ _ _ _ a' ((w.alloc (.cells #[.int .i64 k, .int .i64 i, .int .i64 p] 80)).alloc (.cells #[.int .i64 k', .int .i64 i', .int .i64 p'] 80)).drew) _ _
  rw [← hw2]
  clear hw2
  repeat still_step
  still_call (HK.out _)
  repeat still_step
  still_call (HI.out _)
  repeat still_step
  refine wpStill_nil ?_
  go_wp2_with fail
  refine (HO.out w2.heap.size 2 _ (by simp) (by simp)).mono ?_
  rintro e w3 ⟨rfl, rfl⟩
  go_wp2
  go_ret
  exact ⟨rfl, hg.trans (Grew.alloc _ _)⟩
end Go.Proofs.YtgbenepapajieaaGreat
