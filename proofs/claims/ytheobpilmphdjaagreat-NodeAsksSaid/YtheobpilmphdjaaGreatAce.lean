/-
  The entries of an access control list, as plain mathematics: which may be, the order, the normal form, whom they let.
-/
import Derived.Test.YtheobpilmphdjaaGreatBase
import Derived.Lib.ItoaNum
namespace Go.Proofs.YtheobpilmphdjaaGreat
open Go.RowKit

/-- An entry: its kind, its id, its permissions. -/
abbrev Ace : Type := Int × Int × Int
def OkA (x : Ace) : Prop := 1 ≤ x.1 ∧ x.1 ≤ 3 ∧ 0 ≤ x.2.2 ∧ x.2.2 ≤ 7 ∧ 0 ≤ x.2.1 ∧ x.2.1 ≤ 2147483647 ∧ (x.1 ≠ 3 ∨ x.2.1 = 0)
instance (x : Ace) : Decidable (OkA x) := by unfold OkA; infer_instance
def ltA (x y : Ace) : Prop := x.1 < y.1 ∨ x.1 = y.1 ∧ x.2.1 < y.2.1
instance (x y : Ace) : Decidable (ltA x y) := by unfold ltA; infer_instance
def Rise (l : List Ace) : Prop := l.Pairwise ltA
instance (l : List Ace) : Decidable (Rise l) := by unfold Rise; infer_instance
def HasM (l : List Ace) : Prop := ∃ x ∈ l, x.1 = 3
instance (l : List Ace) : Decidable (HasM l) := by unfold HasM; infer_instance
def AllOk (l : List Ace) : Prop := ∀ x ∈ l, OkA x
instance (l : List Ace) : Decidable (AllOk l) := by unfold AllOk; infer_instance

theorem b_false {p : Prop} [Decidable p] (h : ¬ p) : false = decide p := (decide_eq_false h).symm
theorem b_true {p : Prop} [Decidable p] (h : p) : true = decide p := (decide_eq_true h).symm
theorem b_iff {p q : Prop} [Decidable p] [Decidable q] (h : p ↔ q) : decide p = decide q := decide_eq_decide.2 h
theorem b_beq {a b : Int} {p : Prop} [Decidable p] (h : a = b ↔ p) : (a == b) = decide p := by rw [Bool.eq_iff_iff, beq_iff_eq, decide_eq_true_eq]; exact h
theorem ltA_trans {x y z : Ace} (h : ltA x y) (k : ltA y z) : ltA x z := by unfold ltA at *; omega
theorem ltA_irrefl (x : Ace) : ¬ ltA x x := by unfold ltA; omega

/-! ### Neighbours decide -/
def UpTo (l : List Ace) (k : Nat) : Prop := ∀ j (h : j + 1 < l.length), j + 1 < k → ltA l[j] l[j + 1]
theorem UpTo.start (l : List Ace) : UpTo l 1 := fun j h hk => by omega
theorem UpTo.zero (l : List Ace) : UpTo l 0 := fun j h hk => by omega
theorem UpTo.step {l : List Ace} {k : Nat} (hk : k + 1 < l.length) (h : UpTo l (k + 1)) (h1 : ltA l[k] l[k + 1]) : UpTo l (k + 2) := fun j hj hjk => by
  by_cases e : j = k
  · subst e; exact h1
  · exact h j hj (by omega)
theorem UpTo.rise {l : List Ace} {k : Nat} (h : UpTo l k) (hk : l.length ≤ k) : Rise l := by
  unfold Rise
  rw [List.pairwise_iff_getElem]
  intro i j hi hj hij
  obtain ⟨d, rfl⟩ : ∃ d, j = i + 1 + d := ⟨j - i - 1, by omega⟩
  induction d with
  | zero => exact h i (by omega) (by omega)
  | succ d ih => exact ltA_trans (ih (by omega) (by omega)) (h (i + 1 + d) (by omega) (by omega))
theorem Rise.not {l : List Ace} {k : Nat} (hk : k + 1 < l.length) (h1 : ¬ ltA l[k] l[k + 1]) : ¬ Rise l := fun h =>
  h1 (List.pairwise_iff_getElem.1 h k (k + 1) (by omega) hk (by omega))

/-! ### A prefix that is sound -/
theorem allOk_step {l : List Ace} {k : Nat} (hk : k < l.length) (h : AllOk (l.take k)) (h1 : OkA l[k]) : AllOk (l.take (k + 1)) := by
  rw [List.take_succ_eq_append_getElem hk]
  intro x hx
  rcases List.mem_append.1 hx with hx | hx
  · exact h x hx
  · rw [List.mem_singleton.1 hx]; exact h1
theorem allOk_not {l : List Ace} {k : Nat} (hk : k < l.length) (h1 : ¬ OkA l[k]) : ¬ AllOk l := fun h => h1 (h _ (List.getElem_mem hk))
theorem allOk_end {l : List Ace} {k : Nat} (hk : l.length ≤ k) (h : AllOk (l.take k)) : AllOk l := by rwa [List.take_of_length_le hk] at h

/-! ### The mask stands last -/
def needsB (l : List Ace) : Bool := decide (l ≠ [] ∧ ¬ HasM l)
theorem rise_last {l : List Ace} (hs : Rise l) {k : Nat} (hk : l.length = k + 1) {j : Nat} (hj : j < l.length) : j = k ∨ ltA l[j] l[k] := by
  by_cases e : j = k
  · exact .inl e
  · exact .inr (List.pairwise_iff_getElem.1 hs j k hj (by omega) (by omega))
theorem mask_last {l : List Ace} (ho : AllOk l) (hs : Rise l) {k : Nat} (hk : l.length = k + 1) : HasM l ↔ (l[k]'(by omega)).1 = 3 := by
  constructor
  · rintro ⟨x, hx, h3⟩
    obtain ⟨j, hj, rfl⟩ := List.getElem_of_mem hx
    rcases rise_last hs hk hj with rfl | h
    · exact h3
    · have := ho _ (List.getElem_mem (show k < l.length by omega))
      unfold OkA at this
      unfold ltA at h
      omega
  · intro h
    exact ⟨_, List.getElem_mem (show k < l.length by omega), h⟩

/-- Is the last entry a mask, if there is one? -/
def lastM (l : List Ace) : Bool := match l.getLast? with | some x => x.1 == 3 | none => true
theorem last_at {l : List Ace} {k : Nat} (hk : l.length = k + 1) : l.getLast? = some (l[k]'(by omega)) := by
  rw [List.getLast?_eq_getElem?, List.getElem?_eq_getElem (by omega)]
  simp [hk]
theorem lastM_eq {l : List Ace} (ho : AllOk l) (hs : Rise l) : needsB l = !lastM l := by
  by_cases h0 : l = []
  · subst h0; rfl
  · have hk : l.length = (l.length - 1) + 1 := by have := List.length_pos_iff.2 h0; omega
    have h3 := mask_last ho hs hk
    unfold lastM needsB
    rw [last_at hk]
    simp only
    rw [Bool.eq_iff_iff]
    simp only [decide_eq_true_eq, Bool.not_eq_true', beq_eq_false_iff_ne]
    constructor
    · exact fun h e => h.2 (h3.2 e)
    · exact fun h => ⟨h0, fun m => h (h3.1 m)⟩

def mayB (l : List Ace) : Bool := decide (l.length ≤ 16 ∧ AllOk l ∧ Rise l ∧ needsB l = false)

/-! ### The normal form -/
def keyA (x : Ace) : Int × Int := (x.1, x.2.1)
def Once (l : List Ace) : Prop := (l.map keyA).Nodup
instance (l : List Ace) : Decidable (Once l) := by unfold Once; infer_instance
def normC (l : List Ace) : Int := if ¬ AllOk l then 1 else if ¬ Once l then 6 else if 16 < l.length then 13 else if needsB l then 7 else 0
def NormR (l r : List Ace) : Prop := (normC l = 0 → r.Perm l ∧ Rise r) ∧ (normC l ≠ 0 → r = [])
theorem allOk_perm {l m : List Ace} (h : l.Perm m) : AllOk l ↔ AllOk m := ⟨fun k x hx => k x (h.mem_iff.2 hx), fun k x hx => k x (h.mem_iff.1 hx)⟩
theorem once_perm {l m : List Ace} (h : l.Perm m) : Once l ↔ Once m := (h.map keyA).nodup_iff
theorem hasM_perm {l m : List Ace} (h : l.Perm m) : HasM l ↔ HasM m := ⟨fun ⟨x, hx, k⟩ => ⟨x, h.mem_iff.1 hx, k⟩, fun ⟨x, hx, k⟩ => ⟨x, h.mem_iff.2 hx, k⟩⟩
theorem needs_perm {l m : List Ace} (h : l.Perm m) : needsB l = needsB m := by
  unfold needsB
  rw [decide_eq_decide, hasM_perm h]
  have : l = [] ↔ m = [] := by
    constructor
    · rintro rfl; exact h.nil_eq.symm
    · rintro rfl; exact h.symm.nil_eq.symm
  rw [Ne, Ne, this]
theorem normC_perm {l m : List Ace} (h : l.Perm m) : normC l = normC m := by
  unfold normC
  rw [needs_perm h, h.length_eq]
  simp only [allOk_perm h, once_perm h]
theorem rise_uniq {l m : List Ace} (h : l.Perm m) (hl : Rise l) (hm : Rise m) : l = m :=
  List.Perm.eq_of_pairwise (le := ltA) (fun a _ _ _ h1 h2 => absurd (ltA_trans h1 h2) (ltA_irrefl a)) hl hm h
theorem NormR.uniq {l r s : List Ace} (h : NormR l r) (k : NormR l s) : r = s := by
  by_cases e : normC l = 0
  · exact rise_uniq ((h.1 e).1.trans (k.1 e).1.symm) (h.1 e).2 (k.1 e).2
  · rw [h.2 e, k.2 e]
theorem NormR.perm {l m r : List Ace} (h : NormR l r) (p : l.Perm m) : NormR m r := by
  unfold NormR at *
  rw [← normC_perm p]
  exact ⟨fun e => ⟨(h.1 e).1.trans p, (h.1 e).2⟩, h.2⟩
theorem rise_once {r : List Ace} (h : Rise r) : Once r := by
  unfold Once
  rw [List.nodup_iff_pairwise_ne, List.pairwise_map]
  refine List.Pairwise.imp ?_ h
  intro a b hab e
  unfold keyA at e
  have e1 := congrArg Prod.fst e
  have e2 := congrArg Prod.snd e
  simp only at e1 e2
  unfold ltA at hab
  omega
/-- A row that does not fall: strictly rising just where no key comes twice. -/
theorem once_rise {l r : List Ace} (hp : r.Perm l) (hs : r.Pairwise fun x y => ¬ ltA y x) : Rise r ↔ Once l := by
  constructor
  · intro h
    exact (once_perm hp).1 (rise_once h)
  · intro h
    have hr := (once_perm hp).2 h
    unfold Once at hr
    rw [List.nodup_iff_pairwise_ne, List.pairwise_map] at hr
    unfold Rise
    refine List.Pairwise.imp₂ ?_ hs hr
    intro a b h1 h2
    unfold ltA at *
    have : ¬ (a.1 = b.1 ∧ a.2.1 = b.2.1) := fun ⟨e1, e2⟩ => h2 (by unfold keyA; rw [e1, e2])
    omega
theorem norm_may {l r : List Ace} (h : NormR l r) (e : normC l = 0) : mayB r = true ∧ normC r = 0 ∧ NormR r r ∧ r.length = l.length := by
  obtain ⟨hp, hs⟩ := h.1 e
  have e2 : normC r = 0 := (normC_perm hp).trans e
  have e3 := e2
  unfold normC at e3
  refine ⟨?_, e2, ⟨fun _ => ⟨List.Perm.refl _, hs⟩, fun h => absurd e2 h⟩, hp.length_eq⟩
  unfold mayB
  refine decide_eq_true ?_
  by_cases h1 : AllOk r
  · rw [if_neg (by simpa using h1)] at e3
    by_cases h2 : Once r
    · rw [if_neg (by simpa using h2)] at e3
      by_cases h3 : 16 < r.length
      · rw [if_pos h3] at e3; omega
      · rw [if_neg h3] at e3
        by_cases h4 : needsB r = true
        · rw [if_pos h4] at e3; omega
        · exact ⟨by omega, h1, hs, by simpa using h4⟩
    · rw [if_pos h2] at e3; omega
  · rw [if_pos h1] at e3; omega
theorem normR_zero {l r : List Ace} (h : normC l = 0) (hp : r.Perm l) (hs : Rise r) : NormR l r := ⟨fun _ => ⟨hp, hs⟩, fun k => absurd h k⟩
theorem normR_err {l : List Ace} (h : normC l ≠ 0) : NormR l [] := ⟨fun k => absurd k h, fun _ => rfl⟩

/-! ### Numbers and their bits -/
def band (x y : Int) : Int := bits .and .i64 x y
theorem ofInt_wrap (n : Int) : BitVec.ofInt 64 (IntKind.i64.wrap n) = BitVec.ofInt 64 n := by
  apply BitVec.eq_of_toInt_eq
  rw [BitVec.toInt_ofInt, BitVec.toInt_ofInt]
  rw [show IntKind.i64.wrap n = n.bmod (2 ^ 64) from by
    unfold IntKind.wrap
    simp only [show IntKind.i64.signed = true from rfl, show IntKind.i64.bits = 64 from rfl, Int.bmod]
    split <;> split <;> (rename_i h1 h2; simp at h1 h2 ⊢; try omega)]
  exact Int.bmod_bmod
theorem ofInt_band (x y : Int) : BitVec.ofInt 64 (band x y) = BitVec.ofInt 64 x &&& BitVec.ofInt 64 y := by
  show BitVec.ofInt 64 (IntKind.i64.wrap ((BitVec.ofInt 64 x &&& BitVec.ofInt 64 y).toNat : Int)) = _
  rw [ofInt_wrap, BitVec.ofInt_natCast, BitVec.ofNat_toNat, BitVec.setWidth_eq]
theorem band_of {x y z u : Int} (h : BitVec.ofInt 64 x &&& BitVec.ofInt 64 y = BitVec.ofInt 64 z &&& BitVec.ofInt 64 u) : band x y = band z u :=
  congrArg (fun b : BitVec 64 => IntKind.i64.wrap (b.toNat : Int)) h
theorem seven_and (a : Int) (h0 : 0 ≤ a) (h1 : a ≤ 7) : BitVec.ofInt 64 7 &&& BitVec.ofInt 64 a = BitVec.ofInt 64 a := by
  have : a = 0 ∨ a = 1 ∨ a = 2 ∨ a = 3 ∨ a = 4 ∨ a = 5 ∨ a = 6 ∨ a = 7 := by omega
  rcases this with rfl | rfl | rfl | rfl | rfl | rfl | rfl | rfl <;> decide
/-- Bits above those that are asked do not count. -/
theorem band_7 (x a : Int) (h0 : 0 ≤ a) (h1 : a ≤ 7) : band (band x 7) a = band x a := by
  apply band_of
  rw [ofInt_band, BitVec.and_assoc, seven_and a h0 h1]
theorem band_7m (x m a : Int) (h0 : 0 ≤ a) (h1 : a ≤ 7) : band (band (band x 7) m) a = band (band x m) a := by
  apply band_of
  rw [ofInt_band, ofInt_band, ofInt_band, BitVec.and_assoc, BitVec.and_assoc, BitVec.and_comm (BitVec.ofInt 64 m), ← BitVec.and_assoc (BitVec.ofInt 64 7), seven_and a h0 h1, BitVec.and_assoc, BitVec.and_comm (BitVec.ofInt 64 m)]
def hasB (p a : Int) : Bool := band p a == a
theorem has_7 (x a : Int) (h0 : 0 ≤ a) (h1 : a ≤ 7) : hasB (band x 7) a = hasB x a := by unfold hasB; rw [band_7 x a h0 h1]
theorem has_7m (x m a : Int) (h0 : 0 ≤ a) (h1 : a ≤ 7) : hasB (band (band x 7) m) a = hasB (band x m) a := by unfold hasB; rw [band_7m x m a h0 h1]

/-! ### Whom the entries let -/
def maskL (l : List Ace) : Int := match l.getLast? with | some x => x.2.2 | none => 7
def isUser (who : Int) (x : Ace) : Bool := x.1 == 1 && x.2.1 == who
def isGroup (gs : List Int) (x : Ace) : Bool := x.1 == 2 && gs.contains x.2.1
def permsG (gs : List Int) (l : List Ace) : List Int := (l.filter (isGroup gs)).map (·.2.2)
def permsL (l : List Ace) (own gid : Int) (gs : List Int) : List Int := (if gs.contains gid then [own] else []) ++ permsG gs l
def letsL (l : List Ace) (mode uid gid who : Int) (gs : List Int) (ask : Int) : Bool :=
  if mayB l = false ∨ ask < 0 ∨ 7 < ask then false
  else if who = 0 then true
  else if who = uid then hasB (mode / 64) ask
  else match l.find? (isUser who) with
    | some x => hasB (band x.2.2 (maskL l)) ask
    | none => if permsL l (mode / 8) gid gs = [] then hasB mode ask else (permsL l (mode / 8) gid gs).any fun p => hasB (band p (maskL l)) ask
theorem lets_no {l : List Ace} {mode uid gid who : Int} {gs : List Int} {ask : Int} (h : mayB l = false ∨ ask < 0 ∨ 7 < ask) : letsL l mode uid gid who gs ask = false := by
  unfold letsL; rw [if_pos h]
theorem lets_zero {l : List Ace} {mode uid gid who : Int} {gs : List Int} {ask : Int} (h : ¬ (mayB l = false ∨ ask < 0 ∨ 7 < ask)) (h0 : who = 0) : letsL l mode uid gid who gs ask = true := by
  unfold letsL; rw [if_neg h, if_pos h0]
theorem lets_own {l : List Ace} {mode uid gid who : Int} {gs : List Int} {ask : Int} (h : ¬ (mayB l = false ∨ ask < 0 ∨ 7 < ask)) (h0 : ¬ who = 0) (h1 : who = uid) : letsL l mode uid gid who gs ask = hasB (mode / 64) ask := by
  unfold letsL; rw [if_neg h, if_neg h0, if_pos h1]
theorem lets_user {l : List Ace} {mode uid gid who : Int} {gs : List Int} {ask : Int} (h : ¬ (mayB l = false ∨ ask < 0 ∨ 7 < ask)) (h0 : ¬ who = 0) (h1 : ¬ who = uid) {x : Ace} (h2 : l.find? (isUser who) = some x) : letsL l mode uid gid who gs ask = hasB (band x.2.2 (maskL l)) ask := by
  unfold letsL; rw [if_neg h, if_neg h0, if_neg h1, h2]
theorem lets_others {l : List Ace} {mode uid gid who : Int} {gs : List Int} {ask : Int} (h : ¬ (mayB l = false ∨ ask < 0 ∨ 7 < ask)) (h0 : ¬ who = 0) (h1 : ¬ who = uid) (h2 : l.find? (isUser who) = none) (h3 : permsL l (mode / 8) gid gs = []) : letsL l mode uid gid who gs ask = hasB mode ask := by
  unfold letsL; rw [if_neg h, if_neg h0, if_neg h1, h2]; simp only; rw [if_pos h3]
theorem lets_groups {l : List Ace} {mode uid gid who : Int} {gs : List Int} {ask : Int} (h : ¬ (mayB l = false ∨ ask < 0 ∨ 7 < ask)) (h0 : ¬ who = 0) (h1 : ¬ who = uid) (h2 : l.find? (isUser who) = none) (h3 : ¬ permsL l (mode / 8) gid gs = []) : letsL l mode uid gid who gs ask = (permsL l (mode / 8) gid gs).any fun p => hasB (band p (maskL l)) ask := by
  unfold letsL; rw [if_neg h, if_neg h0, if_neg h1, h2]; simp only; rw [if_neg h3]

/-! ### Looking for the user's entry -/
def NoUser (who : Int) (l : List Ace) (k : Nat) : Prop := ∀ j (h : j < l.length), j < k → isUser who l[j] = false
theorem NoUser.zero (who : Int) (l : List Ace) : NoUser who l 0 := fun j h hk => by omega
theorem NoUser.step {who : Int} {l : List Ace} {k : Nat} (hk : k < l.length) (h : NoUser who l k) (h1 : isUser who l[k] = false) : NoUser who l (k + 1) := fun j hj hjk => by
  by_cases e : j = k
  · subst e; exact h1
  · exact h j hj (by omega)
theorem NoUser.none {who : Int} {l : List Ace} {k : Nat} (h : NoUser who l k) (hk : l.length ≤ k) : l.find? (isUser who) = none := by
  rw [List.find?_eq_none]
  intro x hx
  obtain ⟨j, hj, rfl⟩ := List.getElem_of_mem hx
  rw [h j hj (by omega)]
  simp
theorem NoUser.some {who : Int} {l : List Ace} {k : Nat} (h : NoUser who l k) (hk : k < l.length) (h1 : isUser who l[k] = true) : l.find? (isUser who) = some l[k] := by
  rw [List.find?_eq_some_iff_getElem]
  exact ⟨h1, k, hk, rfl, fun j hj => by rw [h j (by omega) hj]; rfl⟩
theorem permsG_step (gs : List Int) {l : List Ace} {k : Nat} (hk : k < l.length) : permsG gs (l.take (k + 1)) = permsG gs (l.take k) ++ (if isGroup gs l[k] then [l[k].2.2] else []) := by
  unfold permsG
  rw [List.take_succ_eq_append_getElem hk, List.filter_append, List.map_append]
  by_cases h : isGroup gs l[k] = true <;> simp [h]
/-- The mask as the entries are passed one by one. -/
def maskR (l : List Ace) : Int := l.foldl (fun m x => if x.1 = 3 then x.2.2 else m) 7
theorem maskR_step {l : List Ace} {k : Nat} (hk : k < l.length) : maskR (l.take (k + 1)) = if l[k].1 = 3 then l[k].2.2 else maskR (l.take k) := by
  unfold maskR
  rw [List.take_succ_eq_append_getElem hk, List.foldl_append]
  rfl
theorem mayB_parts {l : List Ace} (h : mayB l = true) : l.length ≤ 16 ∧ AllOk l ∧ Rise l ∧ needsB l = false := of_decide_eq_true h
theorem maskR_may {l : List Ace} (h : mayB l = true) : maskR l = maskL l := by
  obtain ⟨_, ho, hs, hn⟩ := mayB_parts h
  by_cases h0 : l = []
  · subst h0; rfl
  · have hk : l.length = (l.length - 1) + 1 := by have := List.length_pos_iff.2 h0; omega
    have hm : HasM l := by
      unfold needsB at hn
      have := of_decide_eq_false hn
      exact Classical.byContradiction fun h => this ⟨h0, h⟩
    have h3 := (mask_last ho hs hk).1 hm
    have e := maskR_step (l := l) (k := l.length - 1) (by omega)
    rw [if_pos h3, ← hk, List.take_length] at e
    rw [e]
    unfold maskL
    rw [List.getLast?_eq_getElem?, List.getElem?_eq_getElem (by omega)]

/-! ### The text of a list -/
def letterL (k : Int) : UInt8 := if k = 1 then 117 else if k = 2 then 103 else if k = 3 then 109 else 63
def showA (x : Ace) : List UInt8 := letterL x.1 :: (Lib.itoa x.2.1 ++ 58 :: Lib.itoa x.2.2)
def showL : List Ace → List UInt8
  | [] => []
  | x :: r => showA x ++ r.flatMap fun y => 32 :: showA y
theorem showL_add (l : List Ace) (z : Ace) : showL (l ++ [z]) = showL l ++ ((if l.length = 0 then [] else [32]) ++ showA z) := by
  cases l with
  | nil => simp [showL]
  | cons x r => simp [showL]
theorem showL_step {l : List Ace} {k : Nat} (hk : k < l.length) : showL (l.take (k + 1)) = showL (l.take k) ++ ((if k = 0 then [] else [32]) ++ showA l[k]) := by
  rw [List.take_succ_eq_append_getElem hk, showL_add, List.length_take, Nat.min_eq_left (by omega)]
/-- Numbers that fit an int. -/
def Fits (x : Ace) : Prop := (-9223372036854775808 ≤ x.1 ∧ x.1 ≤ 9223372036854775807) ∧ (-9223372036854775808 ≤ x.2.1 ∧ x.2.1 ≤ 9223372036854775807) ∧ (-9223372036854775808 ≤ x.2.2 ∧ x.2.2 ≤ 9223372036854775807)
end Go.Proofs.YtheobpilmphdjaaGreat
