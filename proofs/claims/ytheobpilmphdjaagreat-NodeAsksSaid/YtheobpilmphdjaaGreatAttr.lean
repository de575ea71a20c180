/-
  Attributes as plain mathematics: which may be, the order of their names, the normal form.
-/
import Derived.Test.YtheobpilmphdjaaGreatRow
import Derived.Lib.Bytealg
import Derived.WideShapes
import Derived.Test.YtheobpilmphdjaaGreatAce
namespace Go.Proofs.YtheobpilmphdjaaGreat
open Go.RowKit

/-! ### The order of bytes -/
theorem bl_cons (c d : UInt8) (r q : List UInt8) : Op.bytesLess (c :: r) (d :: q) = true ↔ c.toNat < d.toNat ∨ (c.toNat = d.toNat ∧ Op.bytesLess r q = true) := by
  simp only [Op.bytesLess, Bool.or_eq_true, Bool.and_eq_true, decide_eq_true_eq, beq_iff_eq, UInt8.lt_iff_toNat_lt, UInt8.toNat_inj]
theorem bl_irrefl (a : List UInt8) : ¬ Op.bytesLess a a = true := by
  induction a with
  | nil => simp [Op.bytesLess]
  | cons c r ih =>
    rw [bl_cons]
    rintro (h | ⟨_, h⟩)
    · omega
    · exact ih h
theorem bl_total (a b : List UInt8) : Op.bytesLess a b = true ∨ a = b ∨ Op.bytesLess b a = true := by
  induction a generalizing b with
  | nil => cases b <;> simp [Op.bytesLess]
  | cons c r ih =>
    cases b with
    | nil => simp [Op.bytesLess]
    | cons d q =>
      rw [bl_cons, bl_cons]
      rcases Nat.lt_trichotomy c.toNat d.toNat with h | h | h
      · exact .inl (.inl h)
      · rcases ih q with k | k | k
        · exact .inl (.inr ⟨h, k⟩)
        · right; left; rw [UInt8.toNat_inj.1 h, k]
        · exact .inr (.inr (.inr ⟨h.symm, k⟩))
      · exact .inr (.inr (.inl h))
theorem bl_trans (a b c : List UInt8) (h : Op.bytesLess a b = true) (k : Op.bytesLess b c = true) : Op.bytesLess a c = true := by
  induction a generalizing b c with
  | nil =>
    cases c with
    | nil => cases b <;> simp [Op.bytesLess] at k
    | cons => rfl
  | cons x r ih =>
    cases b with
    | nil => simp [Op.bytesLess] at h
    | cons y q =>
      cases c with
      | nil => simp [Op.bytesLess] at k
      | cons z s =>
        rw [bl_cons] at h k ⊢
        rcases h with h | ⟨h, h'⟩ <;> rcases k with k | ⟨k, k'⟩
        · left; omega
        · left; omega
        · left; omega
        · exact .inr ⟨by omega, ih q s h' k'⟩
theorem cmpB_lt (a b : List UInt8) : Lib.compareBytes a b < 0 ↔ Op.bytesLess a b = true := by
  induction a generalizing b with
  | nil => cases b <;> simp [Lib.compareBytes, Op.bytesLess]
  | cons c r ih =>
    cases b with
    | nil => simp [Lib.compareBytes, Op.bytesLess]
    | cons d q =>
      rw [bl_cons, Lib.compareBytes]
      by_cases h1 : c < d
      · have := UInt8.lt_iff_toNat_lt.1 h1
        rw [if_pos h1]
        exact ⟨fun _ => .inl this, fun _ => by decide⟩
      · have h1' : ¬ c.toNat < d.toNat := fun h => h1 (UInt8.lt_iff_toNat_lt.2 h)
        rw [if_neg h1]
        by_cases h2 : d < c
        · have := UInt8.lt_iff_toNat_lt.1 h2
          rw [if_pos h2]
          constructor
          · intro h; exact absurd h (by decide)
          · rintro (h | ⟨h, _⟩) <;> omega
        · have h2' : ¬ d.toNat < c.toNat := fun h => h2 (UInt8.lt_iff_toNat_lt.2 h)
          rw [if_neg h2, ih]
          exact ⟨fun h => .inr ⟨by omega, h⟩, fun h => h.elim (fun h => by omega) (·.2)⟩
theorem str_inj {a b : ByteArray} (h : a.toList = b.toList) : a = b := by
  rw [Lib.toList_data, Lib.toList_data] at h
  exact Go.WideShapes.bytes_inj h

/-- An attribute: its name, its value. -/
abbrev Attr : Type := ByteArray × ByteArray
def OkT (x : Attr) : Prop := 1 ≤ x.1.size ∧ x.1.size ≤ 20 ∧ x.2.size ≤ 200
instance (x : Attr) : Decidable (OkT x) := by unfold OkT; infer_instance
def ltT (x y : Attr) : Prop := Op.bytesLess x.1.toList y.1.toList = true
instance (x y : Attr) : Decidable (ltT x y) := by unfold ltT; infer_instance
theorem ltT_trans {x y z : Attr} (h : ltT x y) (k : ltT y z) : ltT x z := bl_trans _ _ _ h k
theorem ltT_irrefl (x : Attr) : ¬ ltT x x := bl_irrefl _
theorem ltT_total (x y : Attr) : ltT x y ∨ x.1 = y.1 ∨ ltT y x := by
  rcases bl_total x.1.toList y.1.toList with h | h | h
  · exact .inl h
  · exact .inr (.inl (str_inj h))
  · exact .inr (.inr h)
theorem ltT_name {x y : Attr} (h : x.1 = y.1) : ¬ ltT x y := by unfold ltT; rw [h]; exact bl_irrefl _
theorem ltT_ntrans {x y z : Attr} (h : ¬ ltT x y) (k : ¬ ltT y z) : ¬ ltT x z := by
  intro a
  rcases ltT_total x y with h1 | h1 | h1
  · exact h h1
  · exact k (by unfold ltT at *; rw [← h1]; exact a)
  · exact k (ltT_trans h1 a)
def RiseT (l : List Attr) : Prop := l.Pairwise ltT
instance (l : List Attr) : Decidable (RiseT l) := by unfold RiseT; infer_instance
def AllOkT (l : List Attr) : Prop := ∀ x ∈ l, OkT x
instance (l : List Attr) : Decidable (AllOkT l) := by unfold AllOkT; infer_instance

/-! ### Neighbours decide -/
def UpToT (l : List Attr) (k : Nat) : Prop := ∀ j (h : j + 1 < l.length), j + 1 < k → ltT l[j] l[j + 1]
theorem UpToT.start (l : List Attr) : UpToT l 1 := fun j h hk => by omega
theorem UpToT.zero (l : List Attr) : UpToT l 0 := fun j h hk => by omega
theorem UpToT.step {l : List Attr} {k : Nat} (hk : k + 1 < l.length) (h : UpToT l (k + 1)) (h1 : ltT l[k] l[k + 1]) : UpToT l (k + 2) := fun j hj hjk => by
  by_cases e : j = k
  · subst e; exact h1
  · exact h j hj (by omega)
theorem UpToT.rise {l : List Attr} {k : Nat} (h : UpToT l k) (hk : l.length ≤ k) : RiseT l := by
  unfold RiseT
  rw [List.pairwise_iff_getElem]
  intro i j hi hj hij
  obtain ⟨d, rfl⟩ : ∃ d, j = i + 1 + d := ⟨j - i - 1, by omega⟩
  induction d with
  | zero => exact h i (by omega) (by omega)
  | succ d ih => exact ltT_trans (ih (by omega) (by omega)) (h (i + 1 + d) (by omega) (by omega))
theorem RiseT.not {l : List Attr} {k : Nat} (hk : k + 1 < l.length) (h1 : ¬ ltT l[k] l[k + 1]) : ¬ RiseT l := fun h =>
  h1 (List.pairwise_iff_getElem.1 h k (k + 1) (by omega) hk (by omega))

/-! ### A prefix that is sound -/
theorem allOkT_step {l : List Attr} {k : Nat} (hk : k < l.length) (h : AllOkT (l.take k)) (h1 : OkT l[k]) : AllOkT (l.take (k + 1)) := by
  rw [List.take_succ_eq_append_getElem hk]
  intro x hx
  rcases List.mem_append.1 hx with hx | hx
  · exact h x hx
  · rw [List.mem_singleton.1 hx]; exact h1
theorem allOkT_not {l : List Attr} {k : Nat} (hk : k < l.length) (h1 : ¬ OkT l[k]) : ¬ AllOkT l := fun h => h1 (h _ (List.getElem_mem hk))
theorem allOkT_end {l : List Attr} {k : Nat} (hk : l.length ≤ k) (h : AllOkT (l.take k)) : AllOkT l := by rwa [List.take_of_length_le hk] at h

/-! ### The normal form -/
def OnceT (l : List Attr) : Prop := (l.map (·.1)).Nodup
instance (l : List Attr) : Decidable (OnceT l) := by unfold OnceT; infer_instance
def normCT (l : List Attr) : Int := if ¬ AllOkT l then 1 else if ¬ OnceT l then 6 else if 8 < l.length then 13 else 0
def NormRT (l r : List Attr) : Prop := (normCT l = 0 → r.Perm l ∧ RiseT r) ∧ (normCT l ≠ 0 → r = [])
theorem allOkT_perm {l m : List Attr} (h : l.Perm m) : AllOkT l ↔ AllOkT m := ⟨fun k x hx => k x (h.mem_iff.2 hx), fun k x hx => k x (h.mem_iff.1 hx)⟩
theorem onceT_perm {l m : List Attr} (h : l.Perm m) : OnceT l ↔ OnceT m := by unfold OnceT; exact (h.map _).nodup_iff
theorem normCT_perm {l m : List Attr} (h : l.Perm m) : normCT l = normCT m := by
  unfold normCT
  rw [h.length_eq]
  simp only [allOkT_perm h, onceT_perm h]
theorem riseT_uniq {l m : List Attr} (h : l.Perm m) (hl : RiseT l) (hm : RiseT m) : l = m :=
  List.Perm.eq_of_pairwise (le := ltT) (fun a _ _ _ h1 h2 => absurd (ltT_trans h1 h2) (ltT_irrefl a)) hl hm h
theorem NormRT.uniq {l r s : List Attr} (h : NormRT l r) (k : NormRT l s) : r = s := by
  by_cases e : normCT l = 0
  · exact riseT_uniq ((h.1 e).1.trans (k.1 e).1.symm) (h.1 e).2 (k.1 e).2
  · rw [h.2 e, k.2 e]
theorem NormRT.perm {l m r : List Attr} (h : NormRT l r) (p : l.Perm m) : NormRT m r := by
  unfold NormRT at *
  rw [← normCT_perm p]
  exact ⟨fun e => ⟨(h.1 e).1.trans p, (h.1 e).2⟩, h.2⟩
theorem riseT_once {r : List Attr} (h : RiseT r) : OnceT r := by
  unfold OnceT
  rw [List.nodup_iff_pairwise_ne, List.pairwise_map]
  exact List.Pairwise.imp (fun hab e => ltT_name e hab) h
/-- A row that does not fall: strictly rising just where no name comes twice. -/
theorem onceT_rise {l r : List Attr} (hp : r.Perm l) (hs : r.Pairwise fun x y => ¬ ltT y x) : RiseT r ↔ OnceT l := by
  constructor
  · intro h
    exact (onceT_perm hp).1 (riseT_once h)
  · intro h
    have hr := (onceT_perm hp).2 h
    unfold OnceT at hr
    rw [List.nodup_iff_pairwise_ne, List.pairwise_map] at hr
    unfold RiseT
    refine List.Pairwise.imp₂ ?_ hs hr
    intro a b h1 h2
    rcases ltT_total a b with h | h | h
    · exact h
    · exact absurd h h2
    · exact absurd h h1
theorem normRT_zero {l r : List Attr} (h : normCT l = 0) (hp : r.Perm l) (hs : RiseT r) : NormRT l r := ⟨fun _ => ⟨hp, hs⟩, fun k => absurd h k⟩
theorem normRT_err {l : List Attr} (h : normCT l ≠ 0) : NormRT l [] := ⟨fun k => absurd k h, fun _ => rfl⟩
theorem normCT_arg {l : List Attr} (h : ¬ AllOkT l) : normCT l = 1 := if_pos h
theorem normCT_exist {l : List Attr} (h : AllOkT l) (h1 : ¬ OnceT l) : normCT l = 6 := by unfold normCT; rw [if_neg (by simpa using h), if_pos h1]
theorem normCT_limit {l : List Attr} (h : AllOkT l) (h1 : OnceT l) (h2 : 8 < l.length) : normCT l = 13 := by unfold normCT; rw [if_neg (by simpa using h), if_neg (by simpa using h1), if_pos h2]
theorem normCT_ok {l : List Attr} (h : AllOkT l) (h1 : OnceT l) (h2 : ¬ 8 < l.length) : normCT l = 0 := by unfold normCT; rw [if_neg (by simpa using h), if_neg (by simpa using h1), if_neg h2]
theorem normCT_parts {l : List Attr} (e : normCT l = 0) : AllOkT l ∧ OnceT l ∧ l.length ≤ 8 := by
  by_cases h1 : AllOkT l
  · by_cases h2 : OnceT l
    · by_cases h3 : 8 < l.length
      · rw [normCT_limit h1 h2 h3] at e; omega
      · exact ⟨h1, h2, by omega⟩
    · rw [normCT_exist h1 h2] at e; omega
  · rw [normCT_arg h1] at e; omega
theorem norm_existsT {l : List Attr} (e : normCT l = 0) : NormRT l (l.mergeSort fun x y => decide (¬ ltT y x)) := by
  have hp := List.mergeSort_perm l fun x y => decide (¬ ltT y x)
  have hs : (l.mergeSort fun x y => decide (¬ ltT y x)).Pairwise fun x y => decide (¬ ltT y x) = true :=
    List.pairwise_mergeSort (fun a b c h1 h2 => by simp only [decide_eq_true_eq] at *; exact ltT_ntrans h2 h1) (fun a b => by
      by_cases h : ltT b a
      · have : ¬ ltT a b := fun k => ltT_irrefl _ (ltT_trans h k)
        simp [this]
      · simp [h]) l
  exact normRT_zero e hp ((onceT_rise hp (hs.imp fun h => by simpa using h)).2 (normCT_parts e).2.1)
theorem normT_some (l : List Attr) : ∃ n, NormRT l n := by
  by_cases e : normCT l = 0
  · exact ⟨_, norm_existsT e⟩
  · exact ⟨[], normRT_err e⟩
theorem normT_len {l n : List Attr} (h : NormRT l n) (e : normCT l = 0) : n.length = l.length := (h.1 e).1.length_eq

/-! ### In memory -/
def cellsT (x : Attr) : List Value := [.string x.1, .string x.2]
theorem flatT : Flat cellsT 2 where
  len _ := rfl
  one x u hu := by
    simp only [cellsT, List.mem_cons, List.not_mem_nil, or_false] at hu
    rcases hu with rfl | rfl <;> rfl
  pos := by decide
abbrev AtsAt (w : World) (v : Value) (l : List Attr) : Prop := RowAt cellsT 2 w v l
abbrev OwnT (w : World) (B : Nat) (v : Value) (l : List Attr) : Prop := OwnR 66 cellsT 2 w B v l
def aggT (x : Attr) : Value := .agg #[.string x.1, .string x.2]
theorem RowAt.atT {w : World} {v : Value} {l : List Attr} (h : AtsAt w v l) (hn : 0 < l.length) : ∃ g o cap, v = .slice (some ⟨g, o, none⟩) l.length cap ∧ l.length ≤ cap ∧ cap ≤ maxLen ∧ ∀ i (h : i < l.length), w.cell? ⟨g, o + i * 2, none⟩ = some (.string l[i].1) ∧ w.cell? ⟨g, o + i * 2 + 1, none⟩ = some (.string l[i].2) := by
  obtain ⟨g, o, cap, e, h1, h2, h3⟩ := h.at_ hn
  exact ⟨g, o, cap, e, h1, h2, fun i hi => ⟨by simpa using h3 i hi 0 (.string l[i].1) rfl, h3 i hi 1 (.string l[i].2) rfl⟩⟩
theorem info_attr : (Tryz.prog.info? 66).map (fun i => (i.zero, i.size, i.bytes)) = some (some (.agg #[.string ⟨#[]⟩, .string ⟨#[]⟩]), 2, 32) := by kernel_rfl
theorem run_append_ats {w : World} (ty : TypeId) (B : Nat) (v : Value) (l : List Attr) (hown : OwnT w B v l) (vx : Value) (m : List Attr) (he : AtsAt w vx m) (hnl : l.length + m.length ≤ 100000) (hbase : B ≤ w.heap.size) :
    ∃ v' w', (Builtin.append_ #[22, 22] ty #[v, vx]).run Tryz.prog w = .ok v' w' ∧ OwnT w' B v' (l ++ m) ∧ w.grownBy w' v.ownBlock ∧ (v' = .slice none 0 0 → l ++ m = []) := by
  obtain ⟨i0, hi0, hz0, hz1, hz2⟩ := info_parts info_attr
  exact run_append_row flatT Tryz.underlying22 hi0 hz0 hz1 hz2 rfl (by decide) ty B v l hown vx m he hnl hbase
/-- .. at an operation that is wanted. -/
theorem wpList_append_ats {ops : Array Oper} {rest : List Oper} {o : Oper} {a : Act} {Q0 : Exit → Act → World → Prop} {w : World} (hw : Region.wanted o (yielded ops a.tmps) = true) (s x : Operand)
    (ho : o.op = .call { callee := .builtin .append, args := #[s, x], argTypes := #[22, 22] })
    (B : Nat) (v : Value) (l : List Attr) (hs : a.eval s = v) (hown : OwnT w B v l) (vx : Value) (m : List Attr) (hx : a.eval x = vx) (he : AtsAt w vx m) (hnl : l.length + m.length ≤ 100000) (hbase : B ≤ w.heap.size)
    (h : ∀ v' w', OwnT w' B v' (l ++ m) → w.grownBy w' v.ownBlock → (v' = .slice none 0 0 → l ++ m = []) → wpList Tryz.prog ops Q0 rest (a.put o.dst v') w') : wpList Tryz.prog ops Q0 (o :: rest) a w := by
  obtain ⟨v', w', hr, a2, a3, a4⟩ := run_append_ats o.type B v l hown vx m he hnl hbase
  refine wpList_step fun K hK => ?_
  rw [if_pos hw]
  unfold Oper.wp execOp
  simp only [ho, resolve, invoke, builtin, Sem.run_bind, Sem.run_pure, Result.andThen_ok, List.map_toArray, List.map_cons, List.map_nil, hs, hx, hr]
  exact hK _ _ (h v' w' a2 a3 a4)
theorem step_append_ats {ops : Array Oper} {o : Oper} {a : Act} {w : World} {K : Act → World → Prop} {Q0 : Exit → Act → World → Prop} {E : Prop} (hgd : o.guard = none) (s x : Operand)
    (ho : o.op = .call { callee := .builtin .append, args := #[s, x], argTypes := #[22, 22] })
    (B : Nat) (v : Value) (l : List Attr) (hs : a.eval s = v) (hown : OwnT w B v l) (vx : Value) (m : List Attr) (hx : a.eval x = vx) (he : AtsAt w vx m) (hnl : l.length + m.length ≤ 100000) (hbase : B ≤ w.heap.size)
    (h : ∀ v' w', OwnT w' B v' (l ++ m) → w.grownBy w' v.ownBlock → K (a.put o.dst v') w') :
    if Region.wanted o (yielded ops a.tmps) = true then Oper.wp Tryz.prog o a w K Q0 else E := by
  have hw : Region.wanted o (yielded ops a.tmps) = true := by simp [Region.wanted, hgd]
  rw [if_pos hw]
  obtain ⟨v', w', hr, a2, a3, _⟩ := run_append_ats o.type B v l hown vx m he hnl hbase
  unfold Oper.wp execOp
  simp only [ho, resolve, invoke, builtin, Sem.run_bind, Sem.run_pure, Result.andThen_ok, List.map_toArray, List.map_cons, List.map_nil, hs, hx, hr]
  exact h v' w' a2 a3
end Go.Proofs.YtheobpilmphdjaaGreat
