/-
  What the laws of made trees ask, as plain mathematics: classes, kids, trees turned round, spoilt trees, parts.
-/
import Derived.Test.YtgbenepapajieaaGreatTOk
import Derived.Test.YtgbenepapajieaaGreatPRef2
namespace Go.Proofs.YtgbenepapajieaaGreat.Tr
open Go.RowKit
open Go.Proofs.YtgbenepapajieaaGreat.Nd (Nd mayN sumP)
open Go.Proofs.YtgbenepapajieaaGreat.Pa (lessB parentB hasParentB lastB underB joinB joinErrB)

instance memB (p : ByteArray) (l : List ByteArray) : Decidable (p ∈ l) := decidable_of_iff ((l.any fun q => decide (q = p)) = true) (by
  rw [List.any_eq_true]
  constructor
  · rintro ⟨q, h1, h2⟩
    rw [← of_decide_eq_true h2]
    exact h1
  · intro h
    exact ⟨p, h, decide_eq_true rfl⟩)
/-! ### Classes -/
theorem class_at {es : List Ent} (ho : (es.map (·.1)).Nodup) {i : Nat} (hi : i < es.length) : classT es es[i].1 = classE es es[i].2 := by
  unfold classT
  have h : findE es es[i].1 = some es[i].2 := (findE_iff (p := es[i].1) (z := es[i].2) ho).2 (List.getElem_mem hi)
  rw [h]
theorem class_found {es : List Ent} (ho : (es.map (·.1)).Nodup) {p : ByteArray} {z : Int} (h : p ∈ classE es z) : findE es p = some z := by
  unfold classE at h
  obtain ⟨e, he, rfl⟩ := List.mem_map.1 h
  obtain ⟨h1, h2⟩ := List.mem_filter.1 he
  rw [findE_iff ho, ← of_decide_eq_true h2]
  exact h1
theorem class_rising {es : List Ent} (h : Rising es) (z : Int) : (classE es z).Pairwise fun x y => lessB x y = true := by
  unfold classE
  rw [List.pairwise_map]
  exact h.2.sublist List.filter_sublist
theorem class_has {es : List Ent} {i : Nat} (hi : i < es.length) : es[i].1 ∈ classE es es[i].2 :=
  List.mem_map.2 ⟨_, List.mem_filter.2 ⟨List.getElem_mem hi, decide_eq_true rfl⟩, rfl⟩
theorem class_mem {es : List Ent} {z : Int} {p : ByteArray} (h : p ∈ classE es z) : ∃ e ∈ es, e.1 = p ∧ e.2 = z := by
  obtain ⟨e, he, rfl⟩ := List.mem_map.1 h
  obtain ⟨h1, h2⟩ := List.mem_filter.1 he
  exact ⟨e, h1, rfl, of_decide_eq_true h2⟩
theorem class_len (es : List Ent) (z : Int) : (classE es z).length ≤ es.length := by
  unfold classE
  rw [List.length_map]
  exact List.length_filter_le _ _
/-- A class begins with the first entry that has its number. -/
theorem class_head {es : List Ent} (ho : (es.map (·.1)).Nodup) {k : Nat} (hk : k < es.length) : (classE es es[k].2).head? = some es[k].1 ↔ es[k].2 ∉ olds [] (es.take k) := by
  have hs : es = es.take k ++ es[k] :: es.drop (k + 1) := by rw [List.getElem_cons_drop]; exact (List.take_append_drop k es).symm
  have hf : ∀ z, es[k].2 = z → classE es z = classE (es.take k) z ++ es[k].1 :: classE (es.drop (k + 1)) z := by
    intro z hz
    unfold classE
    conv => lhs; rw [hs]
    rw [List.filter_append, List.map_append, List.filter_cons, if_pos (decide_eq_true hz)]
    rfl
  have hf := hf _ rfl
  rw [hf]
  constructor
  · intro h hm
    obtain ⟨e, he, hz⟩ := (olds_in [] (es.take k) _ hm).resolve_left (by simp)
    have hmem : e.1 ∈ classE (es.take k) es[k].2 := List.mem_map.2 ⟨e, List.mem_filter.2 ⟨he, decide_eq_true hz⟩, rfl⟩
    cases hc : classE (es.take k) es[k].2 with
    | nil => rw [hc] at hmem; cases hmem
    | cons a r =>
      rw [hc] at h
      simp only [List.cons_append, List.head?_cons, Option.some.injEq] at h
      have ha : a ∈ classE (es.take k) es[k].2 := by rw [hc]; exact List.mem_cons_self
      obtain ⟨x, hx, h1, h2⟩ := class_mem ha
      rw [hs, List.map_append, List.map_cons, List.nodup_append] at ho
      exact ho.2.2 x.1 (List.mem_map.2 ⟨x, hx, rfl⟩) es[k].1 List.mem_cons_self (by rw [h1, h])
  · intro h
    have hc : classE (es.take k) es[k].2 = [] := by
      cases hc : classE (es.take k) es[k].2 with
      | nil => rfl
      | cons a r =>
        have ha : a ∈ classE (es.take k) es[k].2 := by rw [hc]; exact List.mem_cons_self
        obtain ⟨x, hx, _, h2⟩ := class_mem ha
        exact absurd (h2 ▸ olds_mem [] (es.take k) x hx) h
    rw [hc]
    rfl
theorem olds_count {es : List Ent} {k : Nat} (hk : k < es.length) : (olds [] (es.take (k + 1))).length = (olds [] (es.take k)).length + (if es[k].2 ∈ olds [] (es.take k) then 0 else 1) := by
  rw [olds_take hk]
  split <;> simp
theorem olds_all {es : List Ent} {ns : List Nd} (h : mayT es ns = true) : (olds [] es).length = ns.length := by
  have := olds_dnum es 0 _ (may_iff.1 h).2.2.1.1
  rw [show uptoI 0 = [] from rfl] at this
  rw [this, uptoI_len]

/-! ### Kids -/
theorem path_pre {p : ByteArray} (h : Pa.mayB p = true) (hn : p ≠ ⟨#[]⟩) : ∃ (x : List (List UInt8)) (j : Nat), Pa.Good x ∧ j + 1 = x.length ∧ p = Pa.preB x (j + 1) := by
  have hm : Pa.Pth.mayL p.data.toList = true := h
  have ha := Pa.Pth.may_all hm
  have hj := Pa.Pth.may_parts hm
  have hne : Pa.Pth.partsL p.data.toList ≠ [] := by
    intro hh
    exact hn (Pa.path_ext h may_root (by rw [hh]; decide +kernel))
  refine ⟨Pa.Pth.partsL p.data.toList, (Pa.Pth.partsL p.data.toList).length - 1, ⟨ha.1, ha.2.1, by rw [hj]; exact ha.2.2⟩, ?_, ?_⟩
  · have := List.length_pos_iff.2 hne; omega
  · have := List.length_pos_iff.2 hne
    unfold Pa.preB
    rw [show (Pa.Pth.partsL p.data.toList).length - 1 + 1 = (Pa.Pth.partsL p.data.toList).length by omega, List.take_length, hj, Pa.mkB_data]
theorem kid_join {p : ByteArray} (hm : Pa.mayB p = true) (hn : p ≠ ⟨#[]⟩) : joinErrB (parentB p) (lastB p) = 0 ∧ joinB (parentB p) (lastB p) = p := by
  obtain ⟨x, j, hx, hj, rfl⟩ := path_pre hm hn
  rw [(Pa.pre_parent hx j (by omega)).1, Pa.pre_last hx j (by omega)]
  exact Pa.pre_join hx j (by omega)
theorem kid_mem {es : List Ent} {p k : ByteArray} (h : k ∈ kidsE es p) : ∃ e ∈ es, hasParentB e.1 = true ∧ parentB e.1 = p ∧ lastB e.1 = k := by
  unfold kidsE at h
  obtain ⟨e, he, rfl⟩ := List.mem_map.1 h
  obtain ⟨h1, h2⟩ := List.mem_filter.1 he
  unfold kidB at h2
  rw [Bool.and_eq_true, decide_eq_true_eq] at h2
  exact ⟨e, h1, h2.1, h2.2, rfl⟩
theorem kid_found {es : List Ent} (hr : Rising es) {p k : ByteArray} (h : k ∈ kidsE es p) : joinErrB p k = 0 ∧ (findE es (joinB p k)).isSome = true := by
  obtain ⟨e, he, h1, rfl, rfl⟩ := kid_mem h
  have hm := hr.1 e he
  have := kid_join hm ((has_iff hm).1 h1)
  rw [this.2, (findE_iff (once_of_rising hr)).2 he]
  exact ⟨this.1, rfl⟩
theorem lp_last : ∀ (P : List (List UInt8)) (a b : List UInt8), Pa.Pth.lessP (P ++ [a]) (P ++ [b]) = true → Op.bytesLess a b = true := by
  intro P
  induction P with
  | nil =>
    intro a b h
    rw [List.nil_append, List.nil_append, Pa.Pth.lp_cons] at h
    rcases h with ⟨_, h⟩ | h
    · cases h
    · exact h
  | cons x r ih =>
    intro a b h
    rw [List.cons_append, List.cons_append, Pa.Pth.lp_cons] at h
    rcases h with ⟨_, h⟩ | h
    · exact ih a b h
    · exact absurd h (Pa.Pth.bl_irrefl x)
theorem last_less {p q : ByteArray} (hp : Pa.mayB p = true) (hq : Pa.mayB q = true) (np : p ≠ ⟨#[]⟩) (nq : q ≠ ⟨#[]⟩) (he : parentB p = parentB q) (h : lessB p q = true) : Op.bytesLess (lastB p).data.toList (lastB q).data.toList = true := by
  obtain ⟨x, j, hx, hj, rfl⟩ := path_pre hp np
  obtain ⟨y, i, hy, hi, rfl⟩ := path_pre hq nq
  rw [(Pa.pre_parent hx j (by omega)).1, (Pa.pre_parent hy i (by omega)).1] at he
  have hpar : x.take j = y.take i := by rw [← Pa.pre_parts hx j, ← Pa.pre_parts hy i, he]
  rw [Pa.pre_last hx j (by omega), Pa.pre_last hy i (by omega), Pa.mkB_list, Pa.mkB_list]
  unfold lessB Pa.Pth.lessL at h
  rw [Pa.pre_parts hx, Pa.pre_parts hy, Pa.take_snoc' (by omega), Pa.take_snoc' (by omega), hpar] at h
  exact lp_last _ _ _ h
theorem kids_rising {es : List Ent} (hr : Rising es) (p : ByteArray) : (kidsE es p).Pairwise fun a b => Op.bytesLess a.data.toList b.data.toList = true := by
  unfold kidsE
  rw [List.pairwise_map]
  have := hr.2.sublist (List.filter_sublist (p := kidB p))
  refine this.imp_of_mem ?_
  intro a b ha hb h
  obtain ⟨a1, a2⟩ := List.mem_filter.1 ha
  obtain ⟨b1, b2⟩ := List.mem_filter.1 hb
  unfold kidB at a2 b2
  rw [Bool.and_eq_true, decide_eq_true_eq] at a2 b2
  have ma := hr.1 a a1
  have mb := hr.1 b b1
  exact last_less ma mb ((has_iff ma).1 a2.1) ((has_iff mb).1 b2.1) (by rw [a2.2, b2.2]) h
theorem kids_dir {es : List Ent} {ns : List Nd} (h : Okay es ns) {i : Nat} (hi : i < es.length) (hk : kidsE es es[i].1 ≠ []) : isd ns es[i].2.toNat = true := by
  obtain ⟨k, hk⟩ := List.exists_mem_of_ne_nil _ hk
  obtain ⟨e, he, h1, h2, _⟩ := kid_mem hk
  obtain ⟨z, hz, hd⟩ := h.up e he ((has_iff (h.may e he)).1 h1)
  rw [h2] at hz
  have := (findE_iff h.once).2 hz
  rw [(findE_iff (p := es[i].1) (z := es[i].2) h.once).2 (List.getElem_mem hi)] at this
  rw [Option.some.inj this]
  exact hd
theorem kids_len (es : List Ent) (p : ByteArray) : (kidsE es p).length = es.countP (kidB p) := by
  unfold kidsE
  rw [List.length_map, List.countP_eq_length_filter]
/-- How many kids the first entries have. -/
def pathsE (es : List Ent) : List ByteArray := es.map (·.1)
def kidsN (es : List Ent) (k : Nat) : Nat := es.countP fun e : Ent => hasParentB e.1 && decide (parentB e.1 ∈ pathsE (es.take k))
theorem kidsN_zero (es : List Ent) : kidsN es 0 = 0 := by
  unfold kidsN pathsE
  simp
theorem countP_add {α : Type} {f g h : α → Bool} (l : List α) (hh : ∀ x ∈ l, (if h x = true then 1 else 0) = (if f x = true then 1 else 0) + (if g x = true then 1 else 0)) : l.countP h = l.countP f + l.countP g := by
  induction l with
  | nil => rfl
  | cons x r ih =>
    rw [List.countP_cons, List.countP_cons, List.countP_cons, ih fun y hy => hh y (List.mem_cons_of_mem _ hy)]
    have := hh x List.mem_cons_self
    omega
theorem kidsN_succ {es : List Ent} (ho : (es.map (·.1)).Nodup) {k : Nat} (hk : k < es.length) : kidsN es (k + 1) = kidsN es k + (kidsE es es[k].1).length := by
  rw [kids_len]
  unfold kidsN pathsE
  refine countP_add es fun e _ => ?_
  have hs : es = es.take k ++ es[k] :: es.drop (k + 1) := by rw [List.getElem_cons_drop]; exact (List.take_append_drop k es).symm
  have hnot : es[k].1 ∉ (es.take k).map (·.1) := by
    intro h
    rw [hs, List.map_append, List.map_cons, List.nodup_append] at ho
    exact ho.2.2 _ h _ List.mem_cons_self rfl
  rw [List.take_succ_eq_append_getElem hk, List.map_append]
  unfold kidB
  cases hasParentB e.1
  · simp
  · simp only [Bool.true_and, decide_eq_true_eq, List.mem_append, List.map_cons, List.map_nil, List.mem_singleton]
    by_cases h1 : parentB e.1 = es[k].1
    · rw [h1, if_pos (Or.inr rfl), if_neg hnot, if_pos rfl]
    · by_cases h2 : parentB e.1 ∈ (es.take k).map (·.1)
      · rw [if_pos (Or.inl h2), if_pos h2, if_neg h1]
      · rw [if_neg (fun h => h.elim h2 h1), if_neg h2, if_neg h1]
theorem kidsN_all {es : List Ent} {ns : List Nd} (h : Okay es ns) : kidsN es es.length + 1 = es.length := by
  unfold kidsN pathsE
  rw [List.take_length]
  have e1 : es.countP (fun e : Ent => hasParentB e.1 && decide (parentB e.1 ∈ es.map (·.1))) = es.countP fun e : Ent => decide (e.1 ≠ ⟨#[]⟩) := by
    refine List.countP_congr fun e he => ?_
    have hm := h.may e he
    rw [Bool.and_eq_true, decide_eq_true_eq, decide_eq_true_eq, has_iff hm]
    refine ⟨fun k => k.1, fun k => ⟨k, ?_⟩⟩
    obtain ⟨z, hz, _⟩ := h.up e he k
    exact List.mem_map.2 ⟨_, hz, rfl⟩
  rw [e1]
  obtain ⟨z, hz, _⟩ := h.root
  have ho := h.once
  clear e1 h
  have key : ∀ l : List Ent, (l.map (·.1)).Nodup → ((⟨#[]⟩ : ByteArray) ∈ l.map (·.1)) → l.countP (fun e => decide (e.1 ≠ ⟨#[]⟩)) + 1 = l.length := by
    intro l
    induction l with
    | nil => intro _ hm; cases hm
    | cons x r ih =>
      intro hn hm
      rw [List.map_cons, List.nodup_cons] at hn
      rw [List.countP_cons, List.length_cons]
      by_cases hx : x.1 = ⟨#[]⟩
      · rw [hx] at hn
        have : r.countP (fun e => decide (e.1 ≠ ⟨#[]⟩)) = r.length := List.countP_eq_length.2 fun e he => decide_eq_true fun hh => hn.1 (List.mem_map.2 ⟨e, he, hh⟩)
        rw [this, if_neg (by simp [hx])]
      · rw [if_pos (decide_eq_true hx)]
        rw [List.map_cons, List.mem_cons] at hm
        rw [← ih hn.2 (hm.resolve_left fun k => hx k.symm)]
  exact key es ho (List.mem_map.2 ⟨_, hz, rfl⟩)

/-! ### Turned round -/
def turnE (N : Nat) (e : Ent) : Ent := (e.1, (N : Int) - 1 - e.2)
theorem nodeAt_rev {ns : List Nd} {z : Int} (h0 : 0 ≤ z) (h1 : z < (ns.length : Int)) : nodeAt ns.reverse ((ns.length : Int) - 1 - z) = nodeAt ns z := by
  obtain ⟨m, rfl⟩ : ∃ m : Nat, z = m := ⟨z.toNat, by omega⟩
  have hm : m < ns.length := by omega
  have hj : (ns.length : Int) - 1 - (m : Int) = ((ns.length - 1 - m : Nat) : Int) := by omega
  rw [hj, nodeAt_in hm, nodeAt_in (by rw [List.length_reverse]; omega), List.getElem_reverse]
  congr 1
  omega
/-- Other numbers. -/
theorem Okay.map {es : List Ent} {ns ns' : List Nd} {f : Int → Int} (h : Okay es ns) (hf : ∀ e ∈ es, ∀ e' ∈ es, f e.2 = f e'.2 → e.2 = e'.2) (hn : ∀ e ∈ es, nodeAt ns' (f e.2) = nodeAt ns e.2 ∧ 0 ≤ f e.2 ∧ f e.2 < (ns'.length : Int)) : Okay (es.map fun e => (e.1, f e.2)) ns' where
  len := by rw [List.length_map]; exact h.len
  may e he := by obtain ⟨x, hx, rfl⟩ := List.mem_map.1 he; exact h.may x hx
  once := by rw [List.map_map]; exact h.once
  num e he := by obtain ⟨x, hx, rfl⟩ := List.mem_map.1 he; exact (hn x hx).2
  root := by
    obtain ⟨z, hz, hd⟩ := h.root
    refine ⟨f z, List.mem_map.2 ⟨_, hz, rfl⟩, ?_⟩
    rw [isd_node, (hn _ hz).1, ← isd_node]
    exact hd
  up e he hne := by
    obtain ⟨x, hx, rfl⟩ := List.mem_map.1 he
    obtain ⟨z, hz, hd⟩ := h.up x hx hne
    refine ⟨f z, List.mem_map.2 ⟨_, hz, rfl⟩, ?_⟩
    rw [isd_node, (hn _ hz).1, ← isd_node]
    exact hd
  dir e he e' he' hee hd := by
    obtain ⟨x, hx, rfl⟩ := List.mem_map.1 he
    obtain ⟨y, hy, rfl⟩ := List.mem_map.1 he'
    rw [isd_node, (hn _ hx).1, ← isd_node] at hd
    rw [h.dir x hx y hy (hf x hx y hy hee) hd]
  nod e he := by
    obtain ⟨x, hx, rfl⟩ := List.mem_map.1 he
    show mayN (nodeAt ns' (f x.2)) = true
    rw [(hn x hx).1]
    exact h.nod x hx
theorem turned {es : List Ent} {ns : List Nd} (h : mayT es ns = true) : normT (es.map (turnE ns.length)).reverse ns.reverse = some (es, ns) := by
  obtain ⟨_, hk, hr⟩ := norm_self h
  have hfi : ∀ e ∈ es, ∀ e' ∈ es, (fun z : Int => (ns.length : Int) - 1 - z) e.2 = (fun z : Int => (ns.length : Int) - 1 - z) e'.2 → e.2 = e'.2 := fun e _ e' _ k => by
    simp only at k; omega
  have hno : ∀ e ∈ es, nodeAt ns.reverse ((fun z : Int => (ns.length : Int) - 1 - z) e.2) = nodeAt ns e.2 ∧ 0 ≤ (fun z : Int => (ns.length : Int) - 1 - z) e.2 ∧ (fun z : Int => (ns.length : Int) - 1 - z) e.2 < (ns.reverse.length : Int) := fun e he => by
    have := hk.num e he
    refine ⟨nodeAt_rev this.1 this.2, ?_, ?_⟩
    · simp only; omega
    · rw [List.length_reverse]; simp only; omega
  have hm := hk.map hfi hno
  have hp : (es.map (turnE ns.length)).reverse.Perm (es.map (turnE ns.length)) := List.reverse_perm _
  have hrr : Rising (es.map (turnE ns.length)) := rising_fst (by rw [List.map_map]; rfl) hr
  rw [okay_norm (hm.perm hp), isort_of hp.symm hrr]
  rw [show es.map (turnE ns.length) = es.map fun e => (e.1, (fun z : Int => (ns.length : Int) - 1 - z) e.2) from rfl, numT_map hfi fun e he => (hno e he).1, numT_self (may_iff.1 h).2.2.1.1]
theorem same_turned {es : List Ent} {ns : List Nd} (h : mayT es ns = true) {us : List Ent × List Nd} (hu : normT us.1 us.2 = some (es, ns)) : sameT (normT es ns) (normT us.1 us.2) = true := by
  rw [(norm_self h).1, hu]
  simp [sameT]

/-! ### Spoilt -/
theorem root_zero {es : List Ent} {ns : List Nd} (h : mayT es ns = true) : ((⟨#[]⟩ : ByteArray), (0 : Int)) ∈ es ∧ isd ns 0 = true := by
  obtain ⟨_, hk, hr⟩ := norm_self h
  obtain ⟨z, hz, hd⟩ := hk.root
  have hq := (may_iff.1 h).2.2.1.1
  cases es with
  | nil => cases hz
  | cons x r =>
    have hx : x = (⟨#[]⟩, z) := by
      rcases List.mem_cons.1 hz with e | hz
      · exact e.symm
      · have := (List.pairwise_cons.1 hr.2).1 _ hz
        rw [less_root] at this
        cases this
    subst hx
    have h0 : z = 0 := by
      unfold dnum at hq
      split at hq
      · rename_i hc
        simp only at hc
        omega
      · cases hq
    subst h0
    exact ⟨List.mem_cons_self, hd⟩
/-- An entry more whose number is a directory's. -/
theorem spoilt_dir {es : List Ent} {ns : List Nd} (h : mayT es ns = true) (p : ByteArray) (hp : p ≠ ⟨#[]⟩) : ¬ Okay (es ++ [(p, 0)]) ns := by
  intro hk
  obtain ⟨h1, h2⟩ := root_zero h
  have := hk.dir _ (List.mem_append_left _ h1) _ (List.mem_append_right _ (List.mem_singleton.2 rfl)) rfl h2
  exact hp (congrArg Prod.fst this).symm
/-- An entry twice. -/
theorem spoilt_twice {es : List Ent} {ns : List Nd} {k : Nat} (hk : k < es.length) : ¬ Okay (es ++ [es[k]]) ns := by
  intro h
  have ho := h.once
  rw [List.map_append, List.nodup_append] at ho
  exact ho.2.2 es[k].1 (List.mem_map.2 ⟨_, List.getElem_mem hk, rfl⟩) es[k].1 (by simp) rfl
theorem not_may {es : List Ent} {ns : List Nd} (h : ¬ Okay es ns) : mayT es ns = false := by
  cases hh : mayT es ns with
  | false => rfl
  | true => exact absurd (norm_self hh).2.1 h
/-- A node more that no entry has. -/
theorem nodeAt_more {ns : List Nd} {z : Int} (h0 : 0 ≤ z) (h1 : z < (ns.length : Int)) (x : Nd) : nodeAt (ns ++ [x]) z = nodeAt ns z := by
  obtain ⟨m, rfl⟩ : ∃ m : Nat, z = m := ⟨z.toNat, by omega⟩
  have hm : m < ns.length := by omega
  rw [nodeAt_in hm, nodeAt_in (by rw [List.length_append]; omega), List.getElem_append_left hm]
theorem spoilt_node {es : List Ent} {ns : List Nd} (h : mayT es ns = true) (x : Nd) : normT es (ns ++ [x]) = some (es, ns) ∧ mayT es (ns ++ [x]) = false := by
  obtain ⟨hn, hk, hr⟩ := norm_self h
  have hno : ∀ e ∈ es, nodeAt (ns ++ [x]) (id e.2) = nodeAt ns e.2 ∧ 0 ≤ id e.2 ∧ id e.2 < ((ns ++ [x]).length : Int) := fun e he => by
    have := hk.num e he
    refine ⟨nodeAt_more this.1 this.2 x, this.1, ?_⟩
    rw [List.length_append]
    show e.2 < _
    simp only [List.length_cons, List.length_nil]
    omega
  have hm := hk.map (f := id) (fun e _ e' _ k => k) hno
  rw [show (es.map fun e => (e.1, id e.2)) = es from List.map_id es] at hm
  have e1 : normT es (ns ++ [x]) = some (es, ns) := by
    rw [okay_norm hm, isort_self hr]
    have := numT_map (f := id) (l := es) (ns := ns) (ns' := ns ++ [x]) (fun e _ e' _ k => k) fun e he => (hno e he).1
    rw [show (es.map fun e => (e.1, id e.2)) = es from List.map_id es] at this
    rw [this, numT_self (may_iff.1 h).2.2.1.1]
  refine ⟨e1, ?_⟩
  cases hh : mayT es (ns ++ [x]) with
  | false => rfl
  | true =>
    have h2 := (norm_self hh).1
    rw [e1] at h2
    have := congrArg (fun t : List Ent × List Nd => t.2.length) (Option.some.inj h2)
    simp at this

/-! ### Parts -/
theorem under_refl {p : ByteArray} (h : Pa.mayB p = true) : underB p p = true := (Pa.underB_iff p p h h).2 (List.prefix_refl _)
theorem under_root {p : ByteArray} (h : Pa.mayB p = true) : underB p ⟨#[]⟩ = true := by
  rw [Pa.underB_iff p _ h may_root, show Pa.Pth.partsL (⟨#[]⟩ : ByteArray).data.toList = [] by decide +kernel]
  exact List.nil_prefix
theorem parts_parent {p : ByteArray} (h : Pa.mayB p = true) (hn : p ≠ ⟨#[]⟩) : ∃ a, Pa.Pth.partsL p.data.toList = Pa.Pth.partsL (parentB p).data.toList ++ [a] ∧ Pa.mayB (parentB p) = true := by
  obtain ⟨x, j, hx, hj, rfl⟩ := path_pre h hn
  rw [(Pa.pre_parent hx j (by omega)).1, Pa.pre_parts hx, Pa.pre_parts hx, Pa.take_snoc' (by omega)]
  exact ⟨_, rfl, Pa.pre_may hx j⟩
/-- What is needed has its parent needed. -/
theorem need_parent {p t : ByteArray} (hp : Pa.mayB p = true) (hn : p ≠ ⟨#[]⟩) (ht : Pa.mayB t = true) (h : (underB p t || underB t p) = true) : (underB (parentB p) t || underB t (parentB p)) = true := by
  obtain ⟨a, ha, hm⟩ := parts_parent hp hn
  rw [Bool.or_eq_true, Pa.underB_iff p t hp ht, Pa.underB_iff t p ht hp, ha] at h
  rw [Bool.or_eq_true, Pa.underB_iff _ t hm ht, Pa.underB_iff t _ ht hm]
  rcases h with h | h
  · rcases List.prefix_concat_iff.1 h with e | h
    · exact .inr ⟨[a], e.symm⟩
    · exact .inl h
  · exact .inr ((List.prefix_append _ _).trans h)
theorem part_okay {es : List Ent} {ns : List Nd} (h : Okay es ns) {tops : List ByteArray} (ht : ∀ t ∈ tops, Pa.mayB t = true) : Okay (partE es tops) ns := by
  have hsub : ∀ e ∈ partE es tops, e ∈ es ∧ neededB tops e = true := fun e he => List.mem_filter.1 he
  refine ⟨Nat.le_trans (List.length_filter_le _ _) h.len, fun e he => h.may e (hsub e he).1, h.once.sublist (List.filter_sublist.map _), fun e he => h.num e (hsub e he).1, ?_, ?_, fun e he e' he' => h.dir e (hsub e he).1 e' (hsub e' he').1, fun e he => h.nod e (hsub e he).1⟩
  · obtain ⟨z, hz, hd⟩ := h.root
    exact ⟨z, List.mem_filter.2 ⟨hz, by unfold neededB; simp⟩, hd⟩
  · intro e he hne
    obtain ⟨z, hz, hd⟩ := h.up e (hsub e he).1 hne
    refine ⟨z, List.mem_filter.2 ⟨hz, ?_⟩, hd⟩
    have hh := (hsub e he).2
    unfold neededB at hh ⊢
    rw [Bool.or_eq_true] at hh ⊢
    rcases hh with hh | hh
    · exact absurd (of_decide_eq_true hh) hne
    · obtain ⟨t, h1, h2⟩ := List.any_eq_true.1 hh
      exact .inr (List.any_eq_true.2 ⟨t, h1, need_parent (h.may e (hsub e he).1) hne (ht t h1) h2⟩)
theorem part_rising {es : List Ent} (h : Rising es) (tops : List ByteArray) : Rising (partE es tops) := ⟨fun e he => h.1 e (List.mem_filter.1 he).1, h.2.sublist List.filter_sublist⟩
theorem part_norm_some {es : List Ent} {ns : List Nd} (h : mayT es ns = true) {tops : List ByteArray} (ht : ∀ t ∈ tops, Pa.mayB t = true) : normT (partE es tops) ns = some (numT (partE es tops) ns) := by
  obtain ⟨_, hk, hr⟩ := norm_self h
  rw [okay_norm (part_okay hk ht), isort_self (part_rising hr tops)]
/-- What a part has of a path. -/
theorem part_find {es : List Ent} {ns : List Nd} (h : mayT es ns = true) {tops : List ByteArray} {i : Nat} (hi : i < es.length) :
    (neededB tops es[i] = false → findE (numT (partE es tops) ns).1 es[i].1 = none) ∧
    (neededB tops es[i] = true → ∃ k : Nat, findE (numT (partE es tops) ns).1 es[i].1 = some (k : Int) ∧ ∃ hk : k < (numT (partE es tops) ns).2.length, (numT (partE es tops) ns).2[k] = nodeAt ns es[i].2) := by
  obtain ⟨_, hk, hr⟩ := norm_self h
  have hrp := part_rising hr tops
  have ho : ((numT (partE es tops) ns).1.map (·.1)).Nodup := by
    have := once_of_rising hrp
    unfold numT
    rw [numEnts_fst]
    exact this
  constructor
  · intro hn
    rw [findE_none]
    intro e he hee
    obtain ⟨x, hx, rfl⟩ := numEnts_mem.1 he
    simp only at hee
    have hx2 := List.mem_filter.1 hx
    have h1 := (findE_iff hk.once).2 (show (es[i].1, es[i].2) ∈ es from List.getElem_mem hi)
    have h2 := (findE_iff hk.once).2 (show (x.1, x.2) ∈ es from hx2.1)
    rw [hee, h1] at h2
    have hxe : x = es[i] := Prod.ext hee (Option.some.inj h2).symm
    rw [← hxe, hx2.2] at hn
    cases hn
  · intro hn
    have hx : es[i] ∈ partE es tops := List.mem_filter.2 ⟨List.getElem_mem hi, hn⟩
    have hm := olds_mem [] _ _ hx
    refine ⟨(olds [] (partE es tops)).idxOf es[i].2, (findE_iff ho).2 (numEnts_mem.2 ⟨_, hx, rfl⟩), ?_⟩
    have hl : (olds [] (partE es tops)).idxOf es[i].2 < (olds [] (partE es tops)).length := List.idxOf_lt_length_of_mem hm
    refine ⟨by unfold numT; rw [List.length_map]; exact hl, ?_⟩
    unfold numT
    simp only [List.getElem_map, List.getElem_idxOf]
theorem part_len (es : List Ent) (ns : List Nd) (tops : List ByteArray) : (numT (partE es tops) ns).1.length = es.countP (neededB tops) := by
  unfold numT numEnts partE
  rw [List.length_map, List.countP_eq_length_filter]
end Go.Proofs.YtgbenepapajieaaGreat.Tr
