/-
  Plain facts: names joined by slashes; Under and Less as facts on the lists of names; both orders.
-/
import Derived.Test.YtafekepgnockjaaMath
namespace Go.Proofs.Ytafekepgnockjaa.Pth

/-- Names with a slash between each two. -/
def joinN : List (List UInt8) → List UInt8
  | [] => []
  | [a] => a
  | a :: b :: r => a ++ 47 :: joinN (b :: r)
theorem joinN_cons (a : List UInt8) (r : List (List UInt8)) (h : r ≠ []) : joinN (a :: r) = a ++ 47 :: joinN r := by
  cases r with
  | nil => exact absurd rfl h
  | cons => rfl
theorem joinN_append (x y : List (List UInt8)) (hx : x ≠ []) (hy : y ≠ []) : joinN (x ++ y) = joinN x ++ 47 :: joinN y := by
  induction x with
  | nil => exact absurd rfl hx
  | cons a r ih =>
    cases r with
    | nil => exact joinN_cons a y hy
    | cons b t =>
      have := ih (by simp)
      rw [List.cons_append, joinN_cons a _ (by simp), this, joinN_cons a (b :: t) (by simp)]
      simp
theorem joinN_cut (l : List UInt8) : joinN (cutL l) = l := by
  induction l with
  | nil => rfl
  | cons c r ih =>
    unfold cutL
    split
    · rename_i hc
      rw [joinN_cons _ _ (cutL_ne r), ih]
      have : c = 47 := by simpa using hc
      subst this
      rfl
    · cases hr : cutL r with
      | nil => exact absurd hr (cutL_ne r)
      | cons h t =>
        rw [hr] at ih
        show joinN ((c :: h) :: t) = c :: r
        cases t with
        | nil => rw [← ih]; rfl
        | cons u v => rw [← ih]; rfl
theorem cut_joinN (x : List (List UInt8)) (h : ∀ a ∈ x, ∀ c ∈ a, c ≠ 47) (hx : x ≠ []) : cutL (joinN x) = x := by
  induction x with
  | nil => exact absurd rfl hx
  | cons a r ih =>
    cases r with
    | nil => exact cutL_none a (h a (by simp))
    | cons b t =>
      rw [joinN_cons a _ (by simp), cutL_slash _ _ (h a (by simp)), ih (fun d hd => h d (by simp at hd ⊢; exact .inr hd)) (by simp)]
theorem cut_append (t u : List UInt8) : cutL (t ++ 47 :: u) = cutL t ++ cutL u := by
  induction t with
  | nil => rfl
  | cons c r ih =>
    rw [List.cons_append, cutL, cutL, ih]
    split
    · rfl
    · cases hr : cutL r with
      | nil => exact absurd hr (cutL_ne r)
      | cons => rfl
theorem name_no {a : List UInt8} (h : nameL a = true) : ∀ c ∈ a, c ≠ 47 := by
  unfold nameL at h
  simp only [Bool.and_eq_true] at h
  intro c hc e
  have := List.all_eq_true.1 h.2 c hc
  subst e
  simp [okByte] at this
theorem name_pos {a : List UInt8} (h : nameL a = true) : 1 ≤ a.length ∧ a.length ≤ 20 := by
  unfold nameL at h
  simp only [Bool.and_eq_true, decide_eq_true_eq] at h
  exact ⟨h.1.1.1.1, h.1.1.1.2⟩
theorem joinN_nil_iff (x : List (List UInt8)) (h : x.all nameL = true) : (joinN x).isEmpty = x.isEmpty := by
  cases x with
  | nil => rfl
  | cons a r =>
    have ha := name_pos (List.all_eq_true.1 h a (by simp))
    cases r with
    | nil =>
      show a.isEmpty = _
      cases a with
      | nil => simp at ha
      | cons => rfl
    | cons b t => rw [joinN_cons a _ (by simp)]; simp
/-- Valid names joined: when the path may be, and what its names are. -/
theorem may_joinN (x : List (List UInt8)) (h : x.all nameL = true) : mayL (joinN x) = (decide ((joinN x).length ≤ 100) && decide (x.length ≤ 8)) := by
  unfold mayL
  rw [joinN_nil_iff x h]
  cases hx : x with
  | nil => rfl
  | cons a r =>
    rw [← hx, cut_joinN x (fun a ha => name_no (List.all_eq_true.1 h a ha)) (by simp [hx]), h]
    simp [hx]
theorem parts_joinN (x : List (List UInt8)) (h : x.all nameL = true) (hm : mayL (joinN x) = true) : partsL (joinN x) = x := by
  unfold partsL
  rw [joinN_nil_iff x h, hm]
  cases hx : x with
  | nil => rfl
  | cons a r =>
    rw [← hx, cut_joinN x (fun a ha => name_no (List.all_eq_true.1 h a ha)) (by simp [hx])]
    simp [hx]
theorem may_parts {l : List UInt8} (h : mayL l = true) : joinN (partsL l) = l := by
  unfold partsL
  rw [h]
  cases l with
  | nil => rfl
  | cons c r => exact joinN_cut (c :: r)
theorem may_all {l : List UInt8} (h : mayL l = true) : (partsL l).all nameL = true ∧ (partsL l).length ≤ 8 ∧ l.length ≤ 100 := by
  unfold partsL
  rw [h]
  cases l with
  | nil => simp
  | cons c r =>
    unfold mayL at h
    simp only [List.isEmpty_cons, Bool.false_or, Bool.and_eq_true, decide_eq_true_eq] at h
    exact ⟨h.2, h.1.2, h.1.1⟩

/-- Under, said of the lists of names. -/
theorem under_parts (s t : List UInt8) : underL s t = (mayL s && mayL t && (partsL t).isPrefixOf (partsL s)) := by
  unfold underL
  cases hs : mayL s
  · simp
  cases ht : mayL t
  · simp
  rw [Bool.true_and, Bool.true_and]
  cases t with
  | nil => simp [partsL]
  | cons c r =>
    have et : partsL (c :: r) = cutL (c :: r) := by unfold partsL; rw [ht]; rfl
    rw [et, List.isEmpty_cons, Bool.false_or]
    generalize c :: r = t at *
    cases s with
    | nil =>
      have e1 : partsL [] = [] := rfl
      rw [e1]
      have : (t ++ [47]).isPrefixOf [] = false := by cases t <;> rfl
      rw [this, Bool.or_false]
      cases hc : cutL t with
      | nil => exact absurd hc (cutL_ne t)
      | cons a b =>
        have hne : t ≠ [] := by
          intro e
          subst e
          exact cutL_ne _ et.symm
        cases t with
        | nil => exact absurd rfl hne
        | cons => rfl
    | cons d q =>
      have es : partsL (d :: q) = cutL (d :: q) := by unfold partsL; rw [hs]; rfl
      rw [es]
      generalize d :: q = s at *
      rw [Bool.true_and, Bool.eq_iff_iff, Bool.or_eq_true, beq_iff_eq, List.isPrefixOf_iff_prefix, List.isPrefixOf_iff_prefix]
      constructor
      · rintro (rfl | ⟨u, rfl⟩)
        · exact List.prefix_refl _
        · rw [List.append_assoc, List.singleton_append, cut_append]
          exact List.prefix_append _ _
      · rintro ⟨u, hu⟩
        by_cases hn : u = []
        · subst hn
          rw [List.append_nil] at hu
          left
          rw [← joinN_cut s, ← hu, joinN_cut]
        · right
          refine ⟨joinN u, ?_⟩
          rw [← joinN_cut s, ← hu, joinN_append _ _ (cutL_ne t) hn, joinN_cut]
          simp

/-! ### The order of bytes -/
theorem bl_cons (c d : UInt8) (r q : List UInt8) : Op.bytesLess (c :: r) (d :: q) = true ↔ c.toNat < d.toNat ∨ (c.toNat = d.toNat ∧ Op.bytesLess r q = true) := by
  simp only [Op.bytesLess, Bool.or_eq_true, Bool.and_eq_true, decide_eq_true_eq, beq_iff_eq, UInt8.lt_iff_toNat_lt, UInt8.toNat_inj]
theorem bl_irrefl (a : List UInt8) : ¬ Op.bytesLess a a = true := by
  induction a with
  | nil => simp [Op.bytesLess]
  | cons c r ih =>
    rw [bl_cons]
    rintro (h | ⟨_, h⟩)
    · omega
    · exact ih h
theorem bl_total (a b : List UInt8) : Op.bytesLess a b = true ∨ a = b ∨ Op.bytesLess b a = true := by
  induction a generalizing b with
  | nil => cases b <;> simp [Op.bytesLess]
  | cons c r ih =>
    cases b with
    | nil => simp [Op.bytesLess]
    | cons d q =>
      rw [bl_cons, bl_cons]
      rcases Nat.lt_trichotomy c.toNat d.toNat with h | h | h
      · exact .inl (.inl h)
      · rcases ih q with k | k | k
        · exact .inl (.inr ⟨h, k⟩)
        · right; left; rw [UInt8.toNat_inj.1 h, k]
        · exact .inr (.inr (.inr ⟨h.symm, k⟩))
      · exact .inr (.inr (.inl h))
theorem bl_trans (a b c : List UInt8) (h : Op.bytesLess a b = true) (k : Op.bytesLess b c = true) : Op.bytesLess a c = true := by
  induction a generalizing b c with
  | nil =>
    cases c with
    | nil => cases b <;> simp [Op.bytesLess] at k
    | cons => rfl
  | cons x r ih =>
    cases b with
    | nil => simp [Op.bytesLess] at h
    | cons y q =>
      cases c with
      | nil => simp [Op.bytesLess] at k
      | cons z s =>
        rw [bl_cons] at h k ⊢
        rcases h with h | ⟨h, h'⟩ <;> rcases k with k | ⟨k, k'⟩
        · left; omega
        · left; omega
        · left; omega
        · exact .inr ⟨by omega, ih q s h' k'⟩
theorem bl_asymm (a b : List UInt8) (h : Op.bytesLess a b = true) : ¬ Op.bytesLess b a = true := fun k => bl_irrefl a (bl_trans a b a h k)

/-! ### The order of paths -/
theorem lp_cons (a b : List UInt8) (x y : List (List UInt8)) : lessP (a :: x) (b :: y) = true ↔ (a = b ∧ lessP x y = true) ∨ Op.bytesLess a b = true := by
  have e : lessP (a :: x) (b :: y) = if a == b then lessP x y else Op.bytesLess a b := by rw [lessP]
  rw [e]
  by_cases h : a = b
  · subst h
    simp [bl_irrefl]
  · simp [h]
theorem lp_irrefl (x : List (List UInt8)) : ¬ lessP x x = true := by
  induction x with
  | nil => simp [lessP]
  | cons a r ih =>
    rw [lp_cons]
    rintro (⟨_, h⟩ | h)
    · exact ih h
    · exact bl_irrefl a h
theorem lp_total (x y : List (List UInt8)) : lessP x y = true ∨ x = y ∨ lessP y x = true := by
  induction x generalizing y with
  | nil => cases y <;> simp [lessP]
  | cons a r ih =>
    cases y with
    | nil => simp [lessP]
    | cons b q =>
      rw [lp_cons, lp_cons]
      rcases bl_total a b with h | h | h
      · exact .inl (.inr h)
      · subst h
        rcases ih q with k | k | k
        · exact .inl (.inl ⟨rfl, k⟩)
        · exact .inr (.inl (by rw [k]))
        · exact .inr (.inr (.inl ⟨rfl, k⟩))
      · exact .inr (.inr (.inr h))
theorem lp_trans (x y z : List (List UInt8)) (h : lessP x y = true) (k : lessP y z = true) : lessP x z = true := by
  induction x generalizing y z with
  | nil =>
    cases z with
    | nil => cases y <;> simp [lessP] at k
    | cons => rfl
  | cons a r ih =>
    cases y with
    | nil => simp [lessP] at h
    | cons b q =>
      cases z with
      | nil => simp [lessP] at k
      | cons c s =>
        rw [lp_cons] at h k ⊢
        rcases h with ⟨rfl, h⟩ | h <;> rcases k with ⟨rfl, k⟩ | k
        · exact .inl ⟨rfl, ih q s h k⟩
        · exact .inr k
        · exact .inr h
        · exact .inr (bl_trans _ _ _ h k)
theorem lp_asymm (x y : List (List UInt8)) (h : lessP x y = true) : ¬ lessP y x = true := fun k => lp_irrefl x (lp_trans x y x h k)
/-- What lies between a directory and a path under it lies under the directory. -/
theorem lp_between (x y z : List (List UInt8)) (h : x <+: y) (h1 : lessP x z = true) (h2 : lessP z y = true) : x <+: z := by
  induction x generalizing y z with
  | nil => exact List.nil_prefix
  | cons a r ih =>
    obtain ⟨u, rfl⟩ := h
    cases z with
    | nil => simp [lessP] at h1
    | cons c s =>
      rw [List.cons_append] at h2
      rw [lp_cons] at h1 h2
      rcases h1 with ⟨rfl, h1⟩ | h1
      · rcases h2 with ⟨_, h2⟩ | h2
        · exact List.cons_prefix_cons.2 ⟨rfl, ih (r ++ u) s (List.prefix_append _ _) h1 h2⟩
        · exact absurd h2 (bl_irrefl a)
      · rcases h2 with ⟨rfl, _⟩ | h2
        · exact absurd h1 (bl_irrefl c)
        · exact absurd h2 (bl_asymm _ _ h1)
theorem lp_prefix (x u : List (List UInt8)) (h : u ≠ []) : lessP x (x ++ u) = true := by
  induction x with
  | nil => cases u with
    | nil => exact absurd rfl h
    | cons => rfl
  | cons a r ih => rw [List.cons_append, lp_cons]; exact .inl ⟨rfl, ih⟩
end Go.Proofs.Ytafekepgnockjaa.Pth
