/-
  Attributes as plain mathematics: which may be, the order of their names, the normal form. The contracts of acl.Same and of the document's SameAcl. The contracts of package meta's small functions, and of the document's own.
-/
import Derived.Lib.Bytealg
import Derived.WideShapes
import Derived.Test.YtgbenepapajieaaGreatRow
import Derived.Test.YtgbenepapajieaaGreatCmp
import Derived.Laws.StructEq
import Derived.Deep.QuietTactic
import Derived.BigQuiet
namespace Go.Proofs.YtgbenepapajieaaGreat
open Go.RowKit

/-! ### The order of bytes -/
theorem bl_cons (c d : UInt8) (r q : List UInt8) : Op.bytesLess (c :: r) (d :: q) = true ↔ c.toNat < d.toNat ∨ (c.toNat = d.toNat ∧ Op.bytesLess r q = true) := by
  simp only [Op.bytesLess, Bool.or_eq_true, Bool.and_eq_true, decide_eq_true_eq, beq_iff_eq, UInt8.lt_iff_toNat_lt, UInt8.toNat_inj]
theorem bl_irrefl (a : List UInt8) : ¬ Op.bytesLess a a = true := by
  induction a with
  | nil => simp [Op.bytesLess]
  | cons c r ih =>
    rw [bl_cons]
    rintro (h | ⟨_, h⟩)
    · omega
    · exact ih h
theorem bl_total (a b : List UInt8) : Op.bytesLess a b = true ∨ a = b ∨ Op.bytesLess b a = true := by
  induction a generalizing b with
  | nil => cases b <;> simp [Op.bytesLess]
  | cons c r ih =>
    cases b with
    | nil => simp [Op.bytesLess]
    | cons d q =>
      rw [bl_cons, bl_cons]
      rcases Nat.lt_trichotomy c.toNat d.toNat with h | h | h
      · exact .inl (.inl h)
      · rcases ih q with k | k | k
        · exact .inl (.inr ⟨h, k⟩)
        · right; left; rw [UInt8.toNat_inj.1 h, k]
        · exact .inr (.inr (.inr ⟨h.symm, k⟩))
      · exact .inr (.inr (.inl h))
theorem bl_trans (a b c : List UInt8) (h : Op.bytesLess a b = true) (k : Op.bytesLess b c = true) : Op.bytesLess a c = true := by
  induction a generalizing b c with
  | nil =>
    cases c with
    | nil => cases b <;> simp [Op.bytesLess] at k
    | cons => rfl
  | cons x r ih =>
    cases b with
    | nil => simp [Op.bytesLess] at h
    | cons y q =>
      cases c with
      | nil => simp [Op.bytesLess] at k
      | cons z s =>
        rw [bl_cons] at h k ⊢
        rcases h with h | ⟨h, h'⟩ <;> rcases k with k | ⟨k, k'⟩
        · left; omega
        · left; omega
        · left; omega
        · exact .inr ⟨by omega, ih q s h' k'⟩
theorem cmpB_lt (a b : List UInt8) : Lib.compareBytes a b < 0 ↔ Op.bytesLess a b = true := by
  induction a generalizing b with
  | nil => cases b <;> simp [Lib.compareBytes, Op.bytesLess]
  | cons c r ih =>
    cases b with
    | nil => simp [Lib.compareBytes, Op.bytesLess]
    | cons d q =>
      rw [bl_cons, Lib.compareBytes]
      by_cases h1 : c < d
      · have := UInt8.lt_iff_toNat_lt.1 h1
        rw [if_pos h1]
        exact ⟨fun _ => .inl this, fun _ => by decide⟩
      · have h1' : ¬ c.toNat < d.toNat := fun h => h1 (UInt8.lt_iff_toNat_lt.2 h)
        rw [if_neg h1]
        by_cases h2 : d < c
        · have := UInt8.lt_iff_toNat_lt.1 h2
          rw [if_pos h2]
          constructor
          · intro h; exact absurd h (by decide)
          · rintro (h | ⟨h, _⟩) <;> omega
        · have h2' : ¬ d.toNat < c.toNat := fun h => h2 (UInt8.lt_iff_toNat_lt.2 h)
          rw [if_neg h2, ih]
          exact ⟨fun h => .inr ⟨by omega, h⟩, fun h => h.elim (fun h => by omega) (·.2)⟩
theorem str_inj {a b : ByteArray} (h : a.toList = b.toList) : a = b := by
  rw [Lib.toList_data, Lib.toList_data] at h
  exact Go.WideShapes.bytes_inj h

/-- An attribute: its name, its value. -/
abbrev Attr : Type := ByteArray × ByteArray
def OkT (x : Attr) : Prop := 1 ≤ x.1.size ∧ x.1.size ≤ 20 ∧ x.2.size ≤ 200
instance (x : Attr) : Decidable (OkT x) := by unfold OkT; infer_instance
def ltT (x y : Attr) : Prop := Op.bytesLess x.1.toList y.1.toList = true
instance (x y : Attr) : Decidable (ltT x y) := by unfold ltT; infer_instance
theorem ltT_trans {x y z : Attr} (h : ltT x y) (k : ltT y z) : ltT x z := bl_trans _ _ _ h k
theorem ltT_irrefl (x : Attr) : ¬ ltT x x := bl_irrefl _
theorem ltT_total (x y : Attr) : ltT x y ∨ x.1 = y.1 ∨ ltT y x := by
  rcases bl_total x.1.toList y.1.toList with h | h | h
  · exact .inl h
  · exact .inr (.inl (str_inj h))
  · exact .inr (.inr h)
theorem ltT_name {x y : Attr} (h : x.1 = y.1) : ¬ ltT x y := by unfold ltT; rw [h]; exact bl_irrefl _
theorem ltT_ntrans {x y z : Attr} (h : ¬ ltT x y) (k : ¬ ltT y z) : ¬ ltT x z := by
  intro a
  rcases ltT_total x y with h1 | h1 | h1
  · exact h h1
  · exact k (by unfold ltT at *; rw [← h1]; exact a)
  · exact k (ltT_trans h1 a)
def RiseT (l : List Attr) : Prop := l.Pairwise ltT
instance (l : List Attr) : Decidable (RiseT l) := by unfold RiseT; infer_instance
def AllOkT (l : List Attr) : Prop := ∀ x ∈ l, OkT x
instance (l : List Attr) : Decidable (AllOkT l) := by unfold AllOkT; infer_instance

/-! ### Neighbours decide -/
def UpToT (l : List Attr) (k : Nat) : Prop := ∀ j (h : j + 1 < l.length), j + 1 < k → ltT l[j] l[j + 1]
theorem UpToT.start (l : List Attr) : UpToT l 1 := fun j h hk => by omega
theorem UpToT.zero (l : List Attr) : UpToT l 0 := fun j h hk => by omega
theorem UpToT.step {l : List Attr} {k : Nat} (hk : k + 1 < l.length) (h : UpToT l (k + 1)) (h1 : ltT l[k] l[k + 1]) : UpToT l (k + 2) := fun j hj hjk => by
  by_cases e : j = k
  · subst e; exact h1
  · exact h j hj (by omega)
theorem UpToT.rise {l : List Attr} {k : Nat} (h : UpToT l k) (hk : l.length ≤ k) : RiseT l := by
  unfold RiseT
  rw [List.pairwise_iff_getElem]
  intro i j hi hj hij
  obtain ⟨d, rfl⟩ : ∃ d, j = i + 1 + d := ⟨j - i - 1, by omega⟩
  induction d with
  | zero => exact h i (by omega) (by omega)
  | succ d ih => exact ltT_trans (ih (by omega) (by omega)) (h (i + 1 + d) (by omega) (by omega))
theorem RiseT.not {l : List Attr} {k : Nat} (hk : k + 1 < l.length) (h1 : ¬ ltT l[k] l[k + 1]) : ¬ RiseT l := fun h =>
  h1 (List.pairwise_iff_getElem.1 h k (k + 1) (by omega) hk (by omega))

/-! ### A prefix that is sound -/
theorem allOkT_step {l : List Attr} {k : Nat} (hk : k < l.length) (h : AllOkT (l.take k)) (h1 : OkT l[k]) : AllOkT (l.take (k + 1)) := by
  rw [List.take_succ_eq_append_getElem hk]
  intro x hx
  rcases List.mem_append.1 hx with hx | hx
  · exact h x hx
  · rw [List.mem_singleton.1 hx]; exact h1
theorem allOkT_not {l : List Attr} {k : Nat} (hk : k < l.length) (h1 : ¬ OkT l[k]) : ¬ AllOkT l := fun h => h1 (h _ (List.getElem_mem hk))
theorem allOkT_end {l : List Attr} {k : Nat} (hk : l.length ≤ k) (h : AllOkT (l.take k)) : AllOkT l := by rwa [List.take_of_length_le hk] at h

/-! ### The normal form -/
def OnceT (l : List Attr) : Prop := (l.map (·.1)).Nodup
instance (l : List Attr) : Decidable (OnceT l) := by unfold OnceT; infer_instance
def normCT (l : List Attr) : Int := if ¬ AllOkT l then 1 else if ¬ OnceT l then 6 else if 8 < l.length then 13 else 0
def NormRT (l r : List Attr) : Prop := (normCT l = 0 → r.Perm l ∧ RiseT r) ∧ (normCT l ≠ 0 → r = [])
theorem allOkT_perm {l m : List Attr} (h : l.Perm m) : AllOkT l ↔ AllOkT m := ⟨fun k x hx => k x (h.mem_iff.2 hx), fun k x hx => k x (h.mem_iff.1 hx)⟩
theorem onceT_perm {l m : List Attr} (h : l.Perm m) : OnceT l ↔ OnceT m := by unfold OnceT; exact (h.map _).nodup_iff
theorem normCT_perm {l m : List Attr} (h : l.Perm m) : normCT l = normCT m := by
  unfold normCT
  rw [h.length_eq]
  simp only [allOkT_perm h, onceT_perm h]
theorem riseT_uniq {l m : List Attr} (h : l.Perm m) (hl : RiseT l) (hm : RiseT m) : l = m :=
  List.Perm.eq_of_pairwise (le := ltT) (fun a _ _ _ h1 h2 => absurd (ltT_trans h1 h2) (ltT_irrefl a)) hl hm h
theorem NormRT.uniq {l r s : List Attr} (h : NormRT l r) (k : NormRT l s) : r = s := by
  by_cases e : normCT l = 0
  · exact riseT_uniq ((h.1 e).1.trans (k.1 e).1.symm) (h.1 e).2 (k.1 e).2
  · rw [h.2 e, k.2 e]
theorem NormRT.perm {l m r : List Attr} (h : NormRT l r) (p : l.Perm m) : NormRT m r := by
  unfold NormRT at *
  rw [← normCT_perm p]
  exact ⟨fun e => ⟨(h.1 e).1.trans p, (h.1 e).2⟩, h.2⟩
theorem riseT_once {r : List Attr} (h : RiseT r) : OnceT r := by
  unfold OnceT
  rw [List.nodup_iff_pairwise_ne, List.pairwise_map]
  exact List.Pairwise.imp (fun hab e => ltT_name e hab) h
/-- A row that does not fall: strictly rising just where no name comes twice. -/
theorem onceT_rise {l r : List Attr} (hp : r.Perm l) (hs : r.Pairwise fun x y => ¬ ltT y x) : RiseT r ↔ OnceT l := by
  constructor
  · intro h
    exact (onceT_perm hp).1 (riseT_once h)
  · intro h
    have hr := (onceT_perm hp).2 h
    unfold OnceT at hr
    rw [List.nodup_iff_pairwise_ne, List.pairwise_map] at hr
    unfold RiseT
    refine List.Pairwise.imp₂ ?_ hs hr
    intro a b h1 h2
    rcases ltT_total a b with h | h | h
    · exact h
    · exact absurd h h2
    · exact absurd h h1
theorem normRT_zero {l r : List Attr} (h : normCT l = 0) (hp : r.Perm l) (hs : RiseT r) : NormRT l r := ⟨fun _ => ⟨hp, hs⟩, fun k => absurd h k⟩
theorem normRT_err {l : List Attr} (h : normCT l ≠ 0) : NormRT l [] := ⟨fun k => absurd k h, fun _ => rfl⟩
theorem normCT_arg {l : List Attr} (h : ¬ AllOkT l) : normCT l = 1 := if_pos h
theorem normCT_exist {l : List Attr} (h : AllOkT l) (h1 : ¬ OnceT l) : normCT l = 6 := by unfold normCT; rw [if_neg (by simpa using h), if_pos h1]
theorem normCT_limit {l : List Attr} (h : AllOkT l) (h1 : OnceT l) (h2 : 8 < l.length) : normCT l = 13 := by unfold normCT; rw [if_neg (by simpa using h), if_neg (by simpa using h1), if_pos h2]
theorem normCT_ok {l : List Attr} (h : AllOkT l) (h1 : OnceT l) (h2 : ¬ 8 < l.length) : normCT l = 0 := by unfold normCT; rw [if_neg (by simpa using h), if_neg (by simpa using h1), if_neg h2]
theorem normCT_parts {l : List Attr} (e : normCT l = 0) : AllOkT l ∧ OnceT l ∧ l.length ≤ 8 := by
  by_cases h1 : AllOkT l
  · by_cases h2 : OnceT l
    · by_cases h3 : 8 < l.length
      · rw [normCT_limit h1 h2 h3] at e; omega
      · exact ⟨h1, h2, by omega⟩
    · rw [normCT_exist h1 h2] at e; omega
  · rw [normCT_arg h1] at e; omega
theorem norm_existsT {l : List Attr} (e : normCT l = 0) : NormRT l (l.mergeSort fun x y => decide (¬ ltT y x)) := by
  have hp := List.mergeSort_perm l fun x y => decide (¬ ltT y x)
  have hs : (l.mergeSort fun x y => decide (¬ ltT y x)).Pairwise fun x y => decide (¬ ltT y x) = true :=
    List.pairwise_mergeSort (fun a b c h1 h2 => by simp only [decide_eq_true_eq] at *; exact ltT_ntrans h2 h1) (fun a b => by
      by_cases h : ltT b a
      · have : ¬ ltT a b := fun k => ltT_irrefl _ (ltT_trans h k)
        simp [this]
      · simp [h]) l
  exact normRT_zero e hp ((onceT_rise hp (hs.imp fun h => by simpa using h)).2 (normCT_parts e).2.1)
theorem normT_some (l : List Attr) : ∃ n, NormRT l n := by
  by_cases e : normCT l = 0
  · exact ⟨_, norm_existsT e⟩
  · exact ⟨[], normRT_err e⟩
theorem normT_len {l n : List Attr} (h : NormRT l n) (e : normCT l = 0) : n.length = l.length := (h.1 e).1.length_eq

/-! ### In memory -/
def cellsT (x : Attr) : List Value := [.string x.1, .string x.2]
theorem flatT : Flat cellsT 2 where
  len _ := rfl
  one x u hu := by
    simp only [cellsT, List.mem_cons, List.not_mem_nil, or_false] at hu
    rcases hu with rfl | rfl <;> rfl
  pos := by decide
abbrev AtsAt (w : World) (v : Value) (l : List Attr) : Prop := RowAt cellsT 2 w v l
abbrev OwnT (w : World) (B : Nat) (v : Value) (l : List Attr) : Prop := OwnR 78 cellsT 2 w B v l
def aggT (x : Attr) : Value := .agg #[.string x.1, .string x.2]
theorem RowAt.atT {w : World} {v : Value} {l : List Attr} (h : AtsAt w v l) (hn : 0 < l.length) : ∃ g o cap, v = .slice (some ⟨g, o, none⟩) l.length cap ∧ l.length ≤ cap ∧ cap ≤ maxLen ∧ ∀ i (h : i < l.length), w.cell? ⟨g, o + i * 2, none⟩ = some (.string l[i].1) ∧ w.cell? ⟨g, o + i * 2 + 1, none⟩ = some (.string l[i].2) := by
  obtain ⟨g, o, cap, e, h1, h2, h3⟩ := h.at_ hn
  exact ⟨g, o, cap, e, h1, h2, fun i hi => ⟨by simpa using h3 i hi 0 (.string l[i].1) rfl, h3 i hi 1 (.string l[i].2) rfl⟩⟩
theorem info_attr : (Tryz.prog.info? 78).map (fun i => (i.zero, i.size, i.bytes)) = some (some (.agg #[.string ⟨#[]⟩, .string ⟨#[]⟩]), 2, 32) := by kernel_rfl
theorem run_append_ats {w : World} (ty : TypeId) (B : Nat) (v : Value) (l : List Attr) (hown : OwnT w B v l) (vx : Value) (m : List Attr) (he : AtsAt w vx m) (hnl : l.length + m.length ≤ 100000) (hbase : B ≤ w.heap.size) :
    ∃ v' w', (Builtin.append_ #[41, 41] ty #[v, vx]).run Tryz.prog w = .ok v' w' ∧ OwnT w' B v' (l ++ m) ∧ w.grownBy w' v.ownBlock ∧ (v' = .slice none 0 0 → l ++ m = []) := by
  obtain ⟨i0, hi0, hz0, hz1, hz2⟩ := info_parts info_attr
  exact run_append_row flatT Tryz.underlying41 hi0 hz0 hz1 hz2 rfl (by decide) ty B v l hown vx m he hnl hbase
/-- .. at an operation that is wanted. -/
theorem wpList_append_ats {ops : Array Oper} {rest : List Oper} {o : Oper} {a : Act} {Q0 : Exit → Act → World → Prop} {w : World} (hw : Region.wanted o (yielded ops a.tmps) = true) (s x : Operand)
    (ho : o.op = .call { callee := .builtin .append, args := #[s, x], argTypes := #[41, 41] })
    (B : Nat) (v : Value) (l : List Attr) (hs : a.eval s = v) (hown : OwnT w B v l) (vx : Value) (m : List Attr) (hx : a.eval x = vx) (he : AtsAt w vx m) (hnl : l.length + m.length ≤ 100000) (hbase : B ≤ w.heap.size)
    (h : ∀ v' w', OwnT w' B v' (l ++ m) → w.grownBy w' v.ownBlock → (v' = .slice none 0 0 → l ++ m = []) → wpList Tryz.prog ops Q0 rest (a.put o.dst v') w') : wpList Tryz.prog ops Q0 (o :: rest) a w := by
  obtain ⟨v', w', hr, a2, a3, a4⟩ := run_append_ats o.type B v l hown vx m he hnl hbase
  refine wpList_step fun K hK => ?_
  rw [if_pos hw]
  unfold Oper.wp execOp
  simp only [ho, resolve, invoke, builtin, Sem.run_bind, Sem.run_pure, Result.andThen_ok, List.map_toArray, List.map_cons, List.map_nil, hs, hx, hr]
  exact hK _ _ (h v' w' a2 a3 a4)
theorem step_append_ats {ops : Array Oper} {o : Oper} {a : Act} {w : World} {K : Act → World → Prop} {Q0 : Exit → Act → World → Prop} {E : Prop} (hgd : o.guard = none) (s x : Operand)
    (ho : o.op = .call { callee := .builtin .append, args := #[s, x], argTypes := #[41, 41] })
    (B : Nat) (v : Value) (l : List Attr) (hs : a.eval s = v) (hown : OwnT w B v l) (vx : Value) (m : List Attr) (hx : a.eval x = vx) (he : AtsAt w vx m) (hnl : l.length + m.length ≤ 100000) (hbase : B ≤ w.heap.size)
    (h : ∀ v' w', OwnT w' B v' (l ++ m) → w.grownBy w' v.ownBlock → K (a.put o.dst v') w') :
    if Region.wanted o (yielded ops a.tmps) = true then Oper.wp Tryz.prog o a w K Q0 else E := by
  have hw : Region.wanted o (yielded ops a.tmps) = true := by simp [Region.wanted, hgd]
  rw [if_pos hw]
  obtain ⟨v', w', hr, a2, a3, _⟩ := run_append_ats o.type B v l hown vx m he hnl hbase
  unfold Oper.wp execOp
  simp only [ho, resolve, invoke, builtin, Sem.run_bind, Sem.run_pure, Result.andThen_ok, List.map_toArray, List.map_cons, List.map_nil, hs, hx, hr]
  exact h v' w' a2 a3
end Go.Proofs.YtgbenepapajieaaGreat
namespace Go.Proofs.YtgbenepapajieaaGreat
open Go.RowKit

theorem guardA : Tryz.prog.eqGuardType Tryz.prog.depth 80 = false := by kernel_rfl
theorem equalA (x y : Ace) (w : World) : (Op.equalIn 10000 80 (aggA x) (aggA y)).run Tryz.prog w = .ok (decide (x = y)) w := by
  obtain ⟨k, i, p⟩ := x
  obtain ⟨k', i', p'⟩ := y
  have u3 := Tryz.underlying3
  have a3 := Tryz.isAgg3
  have z3 := Tryz.sizeOf3
  have hS : Tryz.prog.underlying 80 = some (.struct (Tryz.prog.fieldsOf 80)) := by kernel_rfl
  have hp : Tryz.prog.stoodInHeld 80 = false := by kernel_rfl
  unfold aggA
  rw [show (10000 : Nat) = 9999 + 1 from rfl, run_equalIn_agg w 9999 80 _ _ hS hp]
  simp only [Program.fieldsOf, Tryz.underlying80]
  go_simp
  by_cases h1 : k = k' <;> by_cases h2 : i = i' <;> by_cases h3 : p = p' <;> simp [h1, h2, h3]
theorem neqA (x y : Ace) (w : World) : Sem.run Tryz.prog (binOp .neq 80 (aggA x) (aggA y)) w = .ok (.bool (!decide (x = y))) w := by
  have h := equalA x y w
  unfold aggA at *
  rw [run_neq_struct]
  rw [h]
  rfl
theorem eqA (x y : Ace) (w : World) : Sem.run Tryz.prog (binOp .eql 80 (aggA x) (aggA y)) w = .ok (.bool (decide (x = y))) w := by
  have h := equalA x y w
  unfold aggA at *
  rw [run_eql_struct]
  rw [h]
  rfl

theorem same_head {a b : List Ace} (h : a.length = b.length) {k : Nat} (hk : k < a.length) (hs : a.take k = b.take k) (h1 : a[k] = b[k]) : a.take (k + 1) = b.take (k + 1) := by
  rw [List.take_succ_eq_append_getElem hk, List.take_succ_eq_append_getElem (by omega : k < b.length), hs, h1]
theorem same_no {a b : List Ace} {k : Nat} (hk : k < a.length) (hk' : k < b.length) (h1 : ¬ a[k] = b[k]) : ¬ a = b := by
  intro e
  subst e
  exact h1 rfl

set_option maxRecDepth 100000 in
set_option maxHeartbeats 2000000 in
theorem same_any (va vb : Value) (a b : List Ace) (w : World) (ha : AcesAt w va a) (hb : AcesAt w vb b) :
    Calls Tryz.prog 141 #[va, vb] w fun e w' => e = .returned (.bool (decide (a = b))) ∧ Q w w' := by
  have la := ha.len
  have lb := hb.len
  obtain ⟨A, ca, rfl⟩ := ha.form
  obtain ⟨B, cb, rfl⟩ := hb.form
  by_cases hl : a.length = b.length
  · have t1 : ((a.length : Int) != (b.length : Int)) = false := by rw [bne_eq_false_iff_eq]; omega
    have E0 : Hid (a.take a.length = b.take a.length → a = b) := by intro h; rwa [List.take_length, hl, List.take_length] at h
    unfold maxLen at la lb
    go_enter Tryz.func141, Tryz.ntmps141
    go_wp2
    refine wp_scope_goto 0 (fun a' w' => Q w w' ∧ ∃ (k : Nat) (u6 u7 u8 u9 u10 u11 u12 u13 u14 u15 u16 u17 u18 u19 u20 u21 u22 u23 u24 u25 : Value), a' = { tmps := #[.slice A a.length ca, .slice B b.length cb, undef, undef, .bool false, .int .i64 k, u6, u7, u8, u9, u10, u11, u12, u13, u14, u15, u16, u17, u18, u19, u20, u21, u22, u23, u24, u25], defers := [] } ∧ k ≤ a.length ∧ Hid (a.take k = b.take k)) (fun a' _ => a.length - (intOf (a'.tmps.getD 5 undef)).toNat) rfl ?_ ?_
    · intro hh
      go_wp2
      go_step3
      rename_i hK
      exact hK _ _ (hh.out _ _ ⟨Q.refl _, 0, _, _, _, _, _, _, _, _, _, _, _, _, _, _, _, _, _, _, _, _, rfl, by omega, rfl⟩)
    · rintro a' w' ⟨hq, k, u6, u7, u8, u9, u10, u11, u12, u13, u14, u15, u16, u17, u18, u19, u20, u21, u22, u23, u24, u25, rfl, hk, H⟩
      by_cases hlt : k < a.length
      · have hlt' : k < b.length := by omega
        have t2 : ((k : Int) == (a.length : Int)) = false := beq_eq_false_iff_ne.2 (by omega)
        obtain ⟨ga, oa, _, ea, _, _, hca⟩ := (ha.keep hq).at_ (by omega)
        obtain ⟨gb, ob, _, eb, _, _, hcb⟩ := (hb.keep hq).at_ (by omega)
        cases ea
        cases eb
        obtain ⟨c1, c2, c3⟩ := hca k hlt
        obtain ⟨d1, d2, d3⟩ := hcb k hlt'
        have En : Hid (¬ a[k] = b[k] → ¬ a = b) := same_no hlt hlt'
        have Ey : Hid (a[k] = b[k] → a.take (k + 1) = b.take (k + 1)) := same_head hl hlt H.out
        have n1 : ∀ w, Sem.run Tryz.prog (binOp .neq 80 (aggA a[k]) (aggA b[k])) w = .ok (.bool (!decide (a[k] = b[k]))) w := fun w => neqA _ _ w
        unfold aggA at n1
        have gd := guardA
        clear hca hcb ha hb H
        generalize a[k] = x at *
        generalize b[k] = y at *
        have m1 : (k : Int) < (a.length : Int) := by omega
        have m2 : (k : Int) < (b.length : Int) := by omega
        by_cases h1 : x = y
        · rw [decide_eq_true h1] at n1
          have E := Lib.hid (Ey.out h1)
          simp only [Bool.not_true] at n1
          clear h1 Ey En
          go_wp2
          go_quiet (fail)
          go_wp2
          go_step3
          exact ⟨rfl, ⟨hq.drewN _, k + 1, _, _, _, _, _, _, _, _, _, _, _, _, _, _, _, _, _, _, _, _, rfl, hlt, E⟩, by simp [intOf]; omega⟩
        · rw [decide_eq_false h1] at n1
          have E := Lib.hid (En.out h1)
          simp only [Bool.not_false] at n1
          clear h1 Ey En
          go_wp2
          go_quiet (fail)
          go_wp2
          simp only [Exit.jump]
          go_ret
          exact ⟨ret_bool (b_false E.out), hq.drewN _⟩
      · have t2 : ((k : Int) == (a.length : Int)) = true := beq_iff_eq.2 (by omega)
        have : k = a.length := by omega
        subst this
        have E := Lib.hid (E0.out H.out)
        clear H
        go_wp2
        simp only [Exit.jump]
        go_ret
        exact ⟨ret_bool (b_true E.out), hq⟩
  · have t1 : ((a.length : Int) != (b.length : Int)) = true := by rw [bne_iff_ne]; omega
    have E0 : Hid (¬ a = b) := by intro e; exact hl (by rw [e])
    go_enter Tryz.func141, Tryz.ntmps141
    go_wp2
    refine wp_scope_goto 0 (fun _ _ => False) (fun _ _ => 0) rfl ?_ ?_
    · intro _
      go_wp2
      simp only [Exit.jump]
      go_ret
      exact ⟨ret_bool (b_false E0.out), Q.refl _⟩
    · exact fun _ _ h => h.elim

set_option maxRecDepth 100000 in
set_option maxHeartbeats 2000000 in
theorem sameRef_any (va vb : Value) (a b : List Ace) (w : World) (ha : AcesAt w va a) (hb : AcesAt w vb b) :
    Calls Tryz.prog 103 #[va, vb] w fun e w' => e = .returned (.bool (decide (a = b))) ∧ Q w w' := by
  have la := ha.len
  have lb := hb.len
  obtain ⟨A, ca, rfl⟩ := ha.form
  obtain ⟨B, cb, rfl⟩ := hb.form
  by_cases hl : a.length = b.length
  · have t1 : ((a.length : Int) != (b.length : Int)) = false := by rw [bne_eq_false_iff_eq]; omega
    have E0 : Hid (a.take a.length = b.take a.length → a = b) := by intro h; rwa [List.take_length, hl, List.take_length] at h
    unfold maxLen at la lb
    go_enter Tryz.func103, Tryz.ntmps103
    go_wp2
    go_loopw [5] (fun i wr => ∃ k : Nat, i = .int .i64 k ∧ k ≤ a.length ∧ Q w wr ∧ Hid (a.take k = b.take k)) (fun i _ => a.length - (intOf i).toNat)
    case atStart => exact ⟨0, rfl, by omega, Q.refl _, rfl⟩
    case round =>
      obtain ⟨k, rfl, hk, hq, H⟩ := hrel
      by_cases hlt : k < a.length
      · have hlt' : k < b.length := by omega
        obtain ⟨ga, oa, _, ea, _, _, hca⟩ := (ha.keep hq).at_ (by omega)
        obtain ⟨gb, ob, _, eb, _, _, hcb⟩ := (hb.keep hq).at_ (by omega)
        cases ea
        cases eb
        obtain ⟨c1, c2, c3⟩ := hca k hlt
        obtain ⟨d1, d2, d3⟩ := hcb k hlt'
        have En : Hid (¬ a[k] = b[k] → ¬ a = b) := same_no hlt hlt'
        have Ey : Hid (a[k] = b[k] → a.take (k + 1) = b.take (k + 1)) := same_head hl hlt H.out
        have n1 : ∀ w, Sem.run Tryz.prog (binOp .neq 80 (aggA a[k]) (aggA b[k])) w = .ok (.bool (!decide (a[k] = b[k]))) w := fun w => neqA _ _ w
        unfold aggA at n1
        have gd := guardA
        clear hca hcb ha hb H
        generalize a[k] = x at *
        generalize b[k] = y at *
        have m2 : (k : Int) < (b.length : Int) := by omega
        by_cases h1 : x = y
        · rw [decide_eq_true h1] at n1
          have E := Lib.hid (Ey.out h1)
          simp only [Bool.not_true] at n1
          clear h1 Ey En
          go_wp2
          go_quiet (fail)
          go_wp2
          go_roundw
          case rel => exact ⟨k + 1, by go_num, by omega, (hq.drewN _), E⟩
          case measure => simp [intOf]; omega
        · rw [decide_eq_false h1] at n1
          have E := Lib.hid (En.out h1)
          simp only [Bool.not_false] at n1
          clear h1 Ey En
          go_wp2
          go_quiet (fail)
          go_wp2
          go_ret
          exact ⟨ret_bool (b_false E.out), hq.drewN _⟩
      · have : k = a.length := by omega
        subst this
        have E1 := Lib.hid (E0.out H.out)
        go_wp2
        go_ret
        exact ⟨ret_bool (b_true E1.out), hq⟩
  · have t1 : ((a.length : Int) != (b.length : Int)) = true := by rw [bne_iff_ne]; omega
    have E0 : Hid (¬ a = b) := by intro e; exact hl (by rw [e])
    go_enter Tryz.func103, Tryz.ntmps103
    go_wp2
    go_ret
    exact ⟨ret_bool (b_false E0.out), Q.refl _⟩
end Go.Proofs.YtgbenepapajieaaGreat
namespace Go.Proofs.YtgbenepapajieaaGreat
open Go.RowKit

set_option maxRecDepth 100000 in
set_option maxHeartbeats 1000000 in
theorem cmpStr_any (a b : ByteArray) (w : World) : Calls Tryz.prog 169 #[.string a, .string b] w fun e w' => e = .returned (.int .i64 (Lib.compareBytes a.toList b.toList)) ∧ w' = w := by
  have inner : ∀ w, Calls Tryz.prog 172 #[.string a, .string b] w fun e w' => e = .returned (.int .i64 (Lib.compareBytes a.toList b.toList)) ∧ w' = w := by
    intro w
    go_enter Tryz.func172, Tryz.ntmps172
    go_wp2_with fail
    rw [run_callFunc_extern Tryz.func176 (by kernel_rfl) (by kernel_rfl) (by kernel_rfl) (e := Extern.BytealgCompare.compare) (by kernel_rfl), Lib.run_compareString]
    simp only [Result.andThen]
    rw [Oper.upon_value]
    go_wp2
    go_ret
    exact ⟨ret_int (by rw [Lib.toList_data, Lib.toList_data]), rfl⟩
  go_enter Tryz.func169, Tryz.ntmps169
  go_wp2_with fail
  refine (inner _).mono ?_
  rintro e w1 ⟨rfl, rfl⟩
  go_wp2
  go_ret
  exact ⟨rfl, rfl⟩

def cmpT (x y : Attr) : Int := Lib.compareBytes x.1.toList y.1.toList
theorem cmpT_lt (x y : Attr) : cmpT x y < 0 ↔ ltT x y := cmpB_lt _ _
set_option maxRecDepth 100000 in
set_option maxHeartbeats 1000000 in
theorem compareT_any (x y : Attr) (w : World) : Calls Tryz.prog 158 #[aggT x, aggT y] w fun e w' => e = .returned (.int .i64 (cmpT x y)) ∧ Grew w w' := by
  obtain ⟨n, v⟩ := x
  obtain ⟨n', v'⟩ := y
  have H := Lib.hid (fun w => cmpStr_any n n' w)
  unfold aggT cmpT
  simp only
  go_enter Tryz.func158, Tryz.ntmps158
  go_wp2_with fail
  refine (H.out _).mono ?_
  rintro e w1 ⟨rfl, rfl⟩
  go_wp2
  go_ret
  exact ⟨rfl, (Grew.alloc _ _).trans (Grew.alloc _ _)⟩

set_option maxRecDepth 100000 in
set_option maxHeartbeats 1000000 in
theorem attr_any (x : Attr) (w : World) : Calls Tryz.prog 157 #[aggT x] w fun e w' => e = .returned (.bool (decide (OkT x))) ∧ Grew w w' := by
  obtain ⟨n, v⟩ := x
  unfold aggT
  simp only
  go_enter Tryz.func157, Tryz.ntmps157
  go_wp2
  all_goals
    go_ret
    exact ⟨ret_bool (by first | exact b_false (by simp only [OkT]; omega) | exact b_true (by simp only [OkT]; omega) | exact b_iff (by simp only [OkT]; omega)), Grew.alloc _ _⟩
set_option maxRecDepth 100000 in
set_option maxHeartbeats 1000000 in
theorem attrRef_any (x : Attr) (w : World) : Calls Tryz.prog 96 #[aggT x] w fun e w' => e = .returned (.bool (decide (OkT x))) ∧ Grew w w' := by
  obtain ⟨n, v⟩ := x
  unfold aggT
  simp only
  go_enter Tryz.func96, Tryz.ntmps96
  go_wp2
  all_goals
    go_ret
    exact ⟨ret_bool (by first | exact b_false (by simp only [OkT]; omega) | exact b_true (by simp only [OkT]; omega) | exact b_iff (by simp only [OkT]; omega)), Grew.alloc _ _⟩
def idB (n : Int) : Bool := decide (0 ≤ n ∧ n ≤ 2147483647)
theorem id_any (n : Int) (w : World) : Calls Tryz.prog 130 #[.int .i64 n] w fun e w' => e = .returned (.bool (idB n)) ∧ w' = w := by
  go_enter Tryz.func130, Tryz.ntmps130
  go_wp2
  all_goals
    go_ret
    exact ⟨ret_bool (by unfold idB; first | exact b_false (by omega) | exact b_iff (by omega)), rfl⟩

set_option maxRecDepth 100000 in
set_option maxHeartbeats 1000000 in
theorem attrs_any (v : Value) (l : List Attr) (w : World) (h : AtsAt w v l) :
    Calls Tryz.prog 131 #[v] w fun e w' => e = .returned (.bool (decide (AllOkT l))) ∧ Grew w w' := by
  have ll := h.len
  obtain ⟨A, c, rfl⟩ := h.form
  unfold maxLen at ll
  go_enter Tryz.func131, Tryz.ntmps131
  go_wp2
  refine wp_scope_goto 0 (fun a' w' => Grew w w' ∧ ∃ (k : Nat) (u4 u5 u6 u7 u8 u9 u10 u11 u12 u13 u14 u15 : Value), a' = { tmps := #[.slice A l.length c, undef, .bool false, .int .i64 k, u4, u5, u6, u7, u8, u9, u10, u11, u12, u13, u14, u15], defers := [] } ∧ k ≤ l.length ∧ Hid (AllOkT (l.take k))) (fun a' _ => l.length - (intOf (a'.tmps.getD 3 undef)).toNat) rfl ?_ ?_
  · intro hh
    go_wp2
    go_step3
    rename_i hK
    exact hK _ _ (hh.out _ _ ⟨Grew.refl _, 0, _, _, _, _, _, _, _, _, _, _, _, _, rfl, by omega, fun x hx => by cases hx⟩)
  · rintro a' w' ⟨hq, k, u4, u5, u6, u7, u8, u9, u10, u11, u12, u13, u14, u15, rfl, hk, H⟩
    by_cases hlt : k < l.length
    · have t1 : ((k : Int) == (l.length : Int)) = false := beq_eq_false_iff_ne.2 (by omega)
      obtain ⟨g, o, _, ea, _, _, hc⟩ := (h.keep hq.q).atT (by omega)
      cases ea
      obtain ⟨c1, c2⟩ := hc k hlt
      have En : Hid (¬ OkT l[k] → ¬ AllOkT l) := allOkT_not hlt
      have Ey : Hid (OkT l[k] → AllOkT (l.take (k + 1))) := allOkT_step hlt H.out
      have HE := Lib.hid (fun w => attr_any l[k] w)
      clear hc h H
      generalize l[k] = x at *
      by_cases hx : OkT x
      · rw [decide_eq_true hx] at HE
        have E := Lib.hid (Ey.out hx)
        clear hx En Ey
        go_wp2_with fail
        refine (HE.out _).mono ?_
        rintro e w1 ⟨rfl, hq1⟩
        go_wp2
        go_step3
        exact ⟨rfl, ⟨hq.trans hq1, k + 1, _, _, _, _, _, _, _, _, _, _, _, _, rfl, hlt, E⟩, by simp [intOf]; omega⟩
      · rw [decide_eq_false hx] at HE
        have E := Lib.hid (En.out hx)
        clear hx En Ey
        go_wp2_with fail
        refine (HE.out _).mono ?_
        rintro e w1 ⟨rfl, hq1⟩
        go_wp2
        simp only [Exit.jump]
        go_ret
        exact ⟨ret_bool (b_false E.out), hq.trans hq1⟩
    · have t1 : ((k : Int) == (l.length : Int)) = true := beq_iff_eq.2 (by omega)
      have E := Lib.hid (allOkT_end (by omega) H.out)
      clear H
      go_wp2
      simp only [Exit.jump]
      go_ret
      exact ⟨ret_bool (b_true E.out), hq⟩

set_option maxRecDepth 100000 in
set_option maxHeartbeats 2000000 in
theorem risingT_any (v : Value) (l : List Attr) (w : World) (h : AtsAt w v l) :
    Calls Tryz.prog 132 #[v] w fun e w' => e = .returned (.bool (decide (RiseT l))) ∧ Grew w w' := by
  have ll := h.len
  obtain ⟨A, c, rfl⟩ := h.form
  unfold maxLen at ll
  go_enter Tryz.func132, Tryz.ntmps132
  go_wp2
  refine wp_scope_goto 0 (fun a' w' => Grew w w' ∧ ∃ (k : Nat) (u4 u5 u6 u7 u8 u9 u10 u11 u12 u13 u14 u15 u16 u17 u18 u19 u20 : Value), a' = { tmps := #[.slice A l.length c, undef, .bool false, .int .i64 ((k : Int) + 1), u4, u5, u6, u7, u8, u9, u10, u11, u12, u13, u14, u15, u16, u17, u18, u19, u20], defers := [] } ∧ k ≤ l.length ∧ Hid (UpToT l (k + 1))) (fun a' _ => l.length + 1 - (intOf (a'.tmps.getD 3 undef)).toNat) rfl ?_ ?_
  · intro hh
    go_wp2
    go_step3
    rename_i hK
    exact hK _ _ (hh.out _ _ ⟨Grew.refl _, 0, _, _, _, _, _, _, _, _, _, _, _, _, _, _, _, _, _, rfl, by omega, UpToT.start l⟩)
  · rintro a' w' ⟨hq, k, u4, u5, u6, u7, u8, u9, u10, u11, u12, u13, u14, u15, u16, u17, u18, u19, u20, rfl, hk, H⟩
    by_cases hlt : k + 1 < l.length
    · have t1 : decide ((l.length : Int) ≤ (k : Int) + 1) = false := decide_eq_false (by omega)
      obtain ⟨g, o, _, ea, _, _, hc⟩ := (h.keep hq.q).atT (by omega)
      cases ea
      obtain ⟨c1, c2⟩ := hc k (by omega)
      obtain ⟨d1, d2⟩ := hc (k + 1) hlt
      have En : Hid (¬ ltT l[k] l[k + 1] → ¬ RiseT l) := RiseT.not hlt
      have Ey : Hid (ltT l[k] l[k + 1] → UpToT l (k + 2)) := UpToT.step hlt H.out
      have HE := Lib.hid (fun w => compareT_any l[k] l[k + 1] w)
      have hcm := cmpT_lt l[k] l[k + 1]
      clear hc h H
      generalize l[k] = x at *
      generalize l[k + 1] = y at *
      generalize cmpT x y = r at *
      have hgb := World.block_lt_of_cell? w' _ c1
      have lt2 : (k : Int) < (l.length : Int) := by omega
      have lt3 : (k : Int) + 1 < (l.length : Int) := by omega
      have nn2 : (0 : Int) ≤ (k : Int) := by omega
      have nn3 : (0 : Int) ≤ (k : Int) + 1 := by omega
      have wr2 : IntKind.i64.wrap (k : Int) = k := IntWalk.i64_in _ (by omega)
      have mixed : Tryz.prog.follows .mixedOrders = true := by kernel_rfl
      have b1 := cell_grown (a := ⟨g, o + k * 2, none⟩) hgb c1
      have b2 := cell_grown (a := ⟨g, o + k * 2 + 1, none⟩) hgb c2
      have e1 := cell_grown (a := ⟨g, o + (k + 1) * 2, none⟩) hgb d1
      have e2 := cell_grown (a := ⟨g, o + (k + 1) * 2 + 1, none⟩) hgb d2
      by_cases hx : ltT x y
      · have t2 : decide (0 ≤ r) = false := decide_eq_false (by have := hcm.2 hx; omega)
        have E := Lib.hid (Ey.out hx)
        clear hx En Ey hcm
        go_wp2_with fail
        (refine wp_region_quiet_grown (by assumption) (by kernel_rfl) ?_; (repeat (go_big_quiet_step ((go_at_call 158; exact Grew.calls (HE.out _))))); refine wpQuiet_nil ?_; intro _ hw'; obtain ⟨⟨nq, osq⟩, hw2⟩ := hw'; subst hw2)
        go_wp2
        go_step3
        exact ⟨rfl, ⟨hq.trans ⟨_, _, rfl⟩, k + 1, _, _, _, _, _, _, _, _, _, _, _, _, _, _, _, _, _, rfl, by omega, E⟩, by simp [intOf]; omega⟩
      · have t2 : decide (0 ≤ r) = true := decide_eq_true (by have := mt hcm.1 hx; omega)
        have E := Lib.hid (En.out hx)
        clear hx En Ey hcm
        go_wp2_with fail
        (refine wp_region_quiet_grown (by assumption) (by kernel_rfl) ?_; (repeat (go_big_quiet_step ((go_at_call 158; exact Grew.calls (HE.out _))))); refine wpQuiet_nil ?_; intro _ hw'; obtain ⟨⟨nq, osq⟩, hw2⟩ := hw'; subst hw2)
        go_wp2
        simp only [Exit.jump]
        go_ret
        exact ⟨ret_bool (b_false E.out), hq.trans ⟨_, _, rfl⟩⟩
    · have t1 : decide ((l.length : Int) ≤ (k : Int) + 1) = true := decide_eq_true (by omega)
      have E := Lib.hid (H.out.rise (by omega))
      clear H
      go_wp2
      simp only [Exit.jump]
      go_ret
      exact ⟨ret_bool (b_true E.out), hq⟩
end Go.Proofs.YtgbenepapajieaaGreat
