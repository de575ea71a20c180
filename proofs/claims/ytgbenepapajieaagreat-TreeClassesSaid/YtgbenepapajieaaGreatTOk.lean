/-
  Which trees have a normal form, told by their members alone; a tree that may be is its own normal form.
-/
import Derived.Test.YtgbenepapajieaaGreatTRefO
namespace Go.Proofs.YtgbenepapajieaaGreat.Tr
open Go.RowKit
open Go.Proofs.YtgbenepapajieaaGreat.Nd (Nd mayN sumP)
open Go.Proofs.YtgbenepapajieaaGreat.Pa (lessB parentB hasParentB lastB underB joinB)

/-- What a tree needs, told by its members. -/
structure Okay (es : List Ent) (ns : List Nd) : Prop where
  len : es.length ≤ 100
  may : ∀ e ∈ es, Pa.mayB e.1 = true
  once : (es.map (·.1)).Nodup
  num : ∀ e ∈ es, 0 ≤ e.2 ∧ e.2 < (ns.length : Int)
  root : ∃ z, ((⟨#[]⟩ : ByteArray), z) ∈ es ∧ isd ns z.toNat = true
  up : ∀ e ∈ es, e.1 ≠ ⟨#[]⟩ → ∃ z, (parentB e.1, z) ∈ es ∧ isd ns z.toNat = true
  dir : ∀ e ∈ es, ∀ e' ∈ es, e.2 = e'.2 → isd ns e.2.toNat = true → e = e'
  nod : ∀ e ∈ es, mayN (nodeAt ns e.2) = true
theorem Okay.perm {es r : List Ent} {ns : List Nd} (h : Okay es ns) (hp : r.Perm es) : Okay r ns where
  len := by rw [hp.length_eq]; exact h.len
  may e he := h.may e (hp.mem_iff.1 he)
  once := (hp.map _).nodup_iff.2 h.once
  num e he := h.num e (hp.mem_iff.1 he)
  root := by obtain ⟨z, h1, h2⟩ := h.root; exact ⟨z, hp.mem_iff.2 h1, h2⟩
  up e he hn := by obtain ⟨z, h1, h2⟩ := h.up e (hp.mem_iff.1 he) hn; exact ⟨z, hp.mem_iff.2 h1, h2⟩
  dir e he e' he' := h.dir e (hp.mem_iff.1 he) e' (hp.mem_iff.1 he')
  nod e he := h.nod e (hp.mem_iff.1 he)

/-! ### Paths -/
theorem once_of_rising {l : List Ent} (h : Rising l) : (l.map (·.1)).Nodup :=
  List.pairwise_map.2 (h.2.imp fun {a b} h e => by rw [e, lessB_irrefl] at h; cases h)
theorem rising_of {r : List Ent} (hs : r.Pairwise fun x y => lessB y.1 x.1 = false) (hm : ∀ e ∈ r, Pa.mayB e.1 = true) (hn : (r.map (·.1)).Nodup) : Rising r := by
  refine ⟨hm, ?_⟩
  have hn' : r.Pairwise fun x y => x.1 ≠ y.1 := List.pairwise_map.1 hn
  have := hs.and hn'
  refine this.imp_of_mem ?_
  rintro x y hx hy ⟨h1, h2⟩
  rcases Pa.lessB_total x.1 y.1 (hm x hx) (hm y hy) with h | h | h
  · exact h.1
  · rw [h1] at h; cases h.2.1
  · rw [tl_eq] at h; exact absurd (of_decide_eq_true h.2.2) h2
theorem findE_iff {es : List Ent} (hn : (es.map (·.1)).Nodup) {p : ByteArray} {z : Int} : findE es p = some z ↔ (p, z) ∈ es := by
  refine ⟨findE_mem, fun h => ?_⟩
  induction es with
  | nil => cases h
  | cons e r ih =>
    rw [List.map_cons, List.nodup_cons] at hn
    unfold findE
    rcases List.mem_cons.1 h with rfl | h
    · rw [if_pos rfl]
    · rw [if_neg, ih hn.2 h]
      intro hh
      exact hn.1 (List.mem_map.2 ⟨_, h, hh.symm⟩)
theorem may_root : Pa.mayB ⟨#[]⟩ = true := by decide +kernel
theorem less_root (a : ByteArray) : lessB a ⟨#[]⟩ = false := by
  unfold lessB Pa.Pth.lessL
  have h : Pa.Pth.partsL (⟨#[]⟩ : ByteArray).data.toList = [] := by decide +kernel
  rw [h]
  cases Pa.Pth.partsL a.data.toList <;> rfl
theorem root_less {a : ByteArray} (h : Pa.mayB a = true) (hn : a ≠ ⟨#[]⟩) : lessB ⟨#[]⟩ a = true := by
  rcases Pa.lessB_total ⟨#[]⟩ a may_root h with k | k | k
  · exact k.1
  · rw [less_root] at k; cases k.2.1
  · rw [tl_eq] at k; exact absurd (of_decide_eq_true k.2.2).symm hn
theorem has_iff {a : ByteArray} (h : Pa.mayB a = true) : hasParentB a = true ↔ a ≠ ⟨#[]⟩ := by
  constructor
  · rintro k rfl
    rw [nohas] at k
    cases k
  · intro hn
    cases k : hasParentB a with
    | true => rfl
    | false =>
      exfalso
      refine hn (Pa.path_ext h may_root ?_)
      unfold hasParentB Pa.Pth.hasParentL at k
      simp only [Bool.not_eq_false', List.isEmpty_iff] at k
      rw [k]
      decide +kernel

/-! ### The house -/
theorem isDir_iff {es : List Ent} {ns : List Nd} (hn : (es.map (·.1)).Nodup) (p : ByteArray) : isDir es ns p = true ↔ ∃ z, (p, z) ∈ es ∧ isd ns z.toNat = true := by
  unfold isDir
  constructor
  · intro h
    split at h
    · rename_i n hf
      exact ⟨n, findE_mem hf, h⟩
    · cases h
  · rintro ⟨z, h1, h2⟩
    rw [(findE_iff hn).2 h1]
    exact h2
theorem housed_iff {es : List Ent} {ns : List Nd} (hr : Rising es) : housed es ns = true ↔ (∃ z, ((⟨#[]⟩ : ByteArray), z) ∈ es ∧ isd ns z.toNat = true) ∧ (∀ e ∈ es, e.1 ≠ ⟨#[]⟩ → ∃ z, (parentB e.1, z) ∈ es ∧ isd ns z.toNat = true) := by
  have ho := once_of_rising hr
  unfold housed
  rw [Bool.and_eq_true, isDir_iff ho, List.all_eq_true]
  refine and_congr_right fun hroot => ?_
  obtain ⟨z, hz, _⟩ := hroot
  cases es with
  | nil => cases hz
  | cons x r =>
    have hp := List.pairwise_cons.1 hr.2
    have hx : x.1 = ⟨#[]⟩ := by
      rcases List.mem_cons.1 hz with rfl | hz
      · rfl
      · have := hp.1 _ hz
        rw [less_root] at this
        cases this
    constructor
    · intro h e he hne
      rcases List.mem_cons.1 he with rfl | he
      · exact absurd hx hne
      · have := h e (by simpa using he)
        unfold houseB at this
        rw [Bool.and_eq_true, isDir_iff ho] at this
        exact this.2
    · intro h e he
      have he' : e ∈ r := by simpa using he
      have hm := hr.1 e (List.mem_cons_of_mem _ he')
      have hne : e.1 ≠ ⟨#[]⟩ := by
        intro hh
        have := hp.1 e he'
        rw [hh, less_root] at this
        cases this
      unfold houseB
      rw [Bool.and_eq_true, isDir_iff ho]
      exact ⟨(has_iff hm).2 hne, h e (List.mem_cons_of_mem _ he') hne⟩

/-! ### Numbers -/
theorem olds_pre (o : List Int) (l : List Ent) : ∃ t, olds o l = o ++ t := by
  induction l generalizing o with
  | nil => exact ⟨[], (List.append_nil _).symm⟩
  | cons e r ih =>
    unfold olds
    split
    · exact ih o
    · obtain ⟨t, ht⟩ := ih (o ++ [e.2])
      exact ⟨e.2 :: t, by rw [ht, List.append_assoc]; rfl⟩
theorem dnum_ents : ∀ (l : List Ent) (o : List Int), dnum (olds o l).length o.length (numEnts (olds o l) l) = some (olds o l).length := by
  intro l
  induction l with
  | nil => intro o; rfl
  | cons e r ih =>
    intro o
    unfold olds
    split
    · rename_i h
      obtain ⟨t, ht⟩ := olds_pre o r
      have hi : (olds o r).idxOf e.2 = o.idxOf e.2 := by rw [ht, List.idxOf_append, if_pos h]
      have hlt : o.idxOf e.2 < o.length := List.idxOf_lt_length_of_mem h
      have hle : o.length ≤ (olds o r).length := by rw [ht, List.length_append]; omega
      show dnum _ _ ((e.1, ((olds o r).idxOf e.2 : Int)) :: numEnts (olds o r) r) = _
      unfold dnum
      rw [hi, if_pos ⟨by simp, by simp; omega, by simp; omega⟩]
      have : upN o.length (e.1, (o.idxOf e.2 : Int)) = o.length := by
        unfold upN
        rw [if_neg (by simp; omega)]
      rw [this]
      exact ih o
    · rename_i h
      obtain ⟨t, ht⟩ := olds_pre (o ++ [e.2]) r
      have hi : (olds (o ++ [e.2]) r).idxOf e.2 = o.length := by rw [ht, List.idxOf_append, if_pos (by simp), idx_new h]
      have hle : o.length + 1 ≤ (olds (o ++ [e.2]) r).length := by rw [ht, List.length_append, List.length_append, List.length_singleton]; omega
      show dnum _ _ ((e.1, ((olds (o ++ [e.2]) r).idxOf e.2 : Int)) :: numEnts (olds (o ++ [e.2]) r) r) = _
      unfold dnum
      rw [hi, if_pos ⟨by simp, by simp, by simp; omega⟩]
      have : upN o.length (e.1, (o.length : Int)) = (o ++ [e.2]).length := by
        unfold upN
        rw [if_pos rfl]; simp
      rw [this]
      exact ih _
theorem isd_node (ns : List Nd) (z : Int) : isd ns z.toNat = decide ((nodeAt ns z).kind = 1) := by
  unfold isd nodeAt
  cases ns[z.toNat]? <;> rfl
theorem getElem_idx {o : List Int} {z : Int} (h : z ∈ o) : o[o.idxOf z]? = some z := by
  rw [List.getElem?_eq_getElem (List.idxOf_lt_length_of_mem h), List.getElem_idxOf]
theorem isd_idx {ns : List Nd} {o : List Int} {z : Int} (h : z ∈ o) : isd (o.map (nodeAt ns)) (o.idxOf z) = isd ns z.toNat := by
  rw [isd_node]
  unfold isd
  rw [List.getElem?_map, getElem_idx h]
  rfl
theorem idx_inj {o : List Int} {x y : Int} (hx : x ∈ o) (hy : y ∈ o) (h : o.idxOf x = o.idxOf y) : x = y := by
  have h1 := getElem_idx hx
  rw [h, getElem_idx hy] at h1
  exact (Option.some.inj h1).symm
theorem cnt_le_iff {l : List Ent} (hn : l.Nodup) (k : Nat) : cnt l k ≤ 1 ↔ ∀ e ∈ l, ∀ e' ∈ l, e.2 = (k : Int) → e'.2 = (k : Int) → e = e' := by
  unfold cnt
  rw [List.countP_eq_length_filter]
  have hf : (l.filter fun e => decide (e.2 = (k : Int))).Nodup := hn.filter _
  constructor
  · intro h e he e' he' h1 h2
    have m1 : e ∈ l.filter fun e => decide (e.2 = (k : Int)) := List.mem_filter.2 ⟨he, decide_eq_true h1⟩
    have m2 : e' ∈ l.filter fun e => decide (e.2 = (k : Int)) := List.mem_filter.2 ⟨he', decide_eq_true h2⟩
    generalize l.filter (fun e => decide (e.2 = (k : Int))) = f at *
    match f, h with
    | [], _ => cases m1
    | [a], _ => rw [List.mem_singleton.1 m1, List.mem_singleton.1 m2]
    | a :: b :: c, h => simp at h
  · intro h
    have hm : ∀ e ∈ l.filter fun e => decide (e.2 = (k : Int)), e ∈ l ∧ e.2 = (k : Int) := fun e he => ⟨(List.mem_filter.1 he).1, of_decide_eq_true (List.mem_filter.1 he).2⟩
    generalize l.filter (fun e => decide (e.2 = (k : Int))) = f at *
    match f with
    | [] => simp
    | [a] => simp
    | a :: b :: c =>
      exfalso
      have ha := hm a List.mem_cons_self
      have hb := hm b (List.mem_cons_of_mem _ List.mem_cons_self)
      have := h a ha.1 b hb.1 ha.2 hb.2
      subst this
      simp at hf
theorem may_iff {es : List Ent} {ns : List Nd} : mayT es ns = true ↔ es.length ≤ 100 ∧ Rising es ∧ (dnum ns.length 0 es = some ns.length ∧ ∀ k, isd ns k = true → cnt es k ≤ 1) ∧ (∀ n ∈ ns, mayN n = true) ∧ housed es ns = true := by
  unfold mayT numE
  simp only [Bool.and_eq_true, decide_eq_true_eq, List.all_eq_true]
  rw [rise_iff, numb_dnum _ _ _ (Nat.zero_le _)]
  constructor
  · rintro ⟨⟨⟨⟨h1, h2⟩, h3, _, h4⟩, h5⟩, h6⟩
    exact ⟨h1, h2, ⟨h3, fun k hk => h4 k hk (Nat.zero_le _)⟩, h5, h6⟩
  · rintro ⟨h1, h2, ⟨h3, h4⟩, h5, h6⟩
    exact ⟨⟨⟨⟨h1, h2⟩, h3, fun k _ h => by omega, fun k hk _ => h4 k hk⟩, h5⟩, h6⟩
theorem numEnts_mem {o : List Int} {l : List Ent} {e : Ent} : e ∈ numEnts o l ↔ ∃ x ∈ l, e = (x.1, (o.idxOf x.2 : Int)) := by
  unfold numEnts
  rw [List.mem_map]
  exact ⟨fun ⟨x, h1, h2⟩ => ⟨x, h1, h2.symm⟩, fun ⟨x, h1, h2⟩ => ⟨x, h1, h2.symm⟩⟩
theorem nodup_of_once {l : List Ent} (h : (l.map (·.1)).Nodup) : l.Nodup := by
  have h' : l.Pairwise fun x y => x.1 ≠ y.1 := List.pairwise_map.1 h
  exact h'.imp fun h e => h (by rw [e])

/-! ### The normal form -/
theorem may_numT {r : List Ent} {ns : List Nd} : (∀ e ∈ r, 0 ≤ e.2 ∧ e.2 < (ns.length : Int)) → (mayN2 (numT r ns) = true ↔ Okay r ns ∧ Rising r) := by
  intro hnum
  unfold mayN2 numT
  rw [may_iff]
  have hlen : (numEnts (olds [] r) r).length = r.length := by unfold numEnts; rw [List.length_map]
  have hrise : Rising (numEnts (olds [] r) r) ↔ Rising r := ⟨rising_fst (numEnts_fst _ _).symm, rising_fst (numEnts_fst _ _)⟩
  have hmem : ∀ e ∈ r, e.2 ∈ olds [] r := olds_mem [] r
  have hcov : ∀ x ∈ olds [] r, ∃ e ∈ r, e.2 = x := fun x hx => (olds_in [] r x hx).resolve_left (by simp)
  have hd : dnum (List.length ((olds [] r).map (nodeAt ns))) 0 (numEnts (olds [] r) r) = some (List.length ((olds [] r).map (nodeAt ns))) := by
    rw [List.length_map]
    exact dnum_ents r []
  simp only
  rw [hlen, hrise]
  constructor
  · rintro ⟨h1, h2, ⟨_, h4⟩, h5, h6⟩
    rw [housed_iff (hrise.2 h2)] at h6
    refine ⟨⟨h1, h2.1, once_of_rising h2, hnum, ?_, ?_, ?_, ?_⟩, h2⟩
    · obtain ⟨z, hz, hd⟩ := h6.1
      obtain ⟨x, hx, e⟩ := numEnts_mem.1 hz
      have e21 := congrArg Prod.fst e
      have e22 := congrArg Prod.snd e
      simp only at e21 e22
      subst e22
      refine ⟨x.2, by rw [e21]; exact hx, ?_⟩
      rw [Int.toNat_natCast, isd_idx (hmem x hx)] at hd
      exact hd
    · intro e he hne
      obtain ⟨z, hz, hd⟩ := h6.2 _ (numEnts_mem.2 ⟨e, he, rfl⟩) hne
      obtain ⟨x, hx, e2⟩ := numEnts_mem.1 hz
      have e21 := congrArg Prod.fst e2
      have e22 := congrArg Prod.snd e2
      simp only at e21 e22
      subst e22
      rw [Int.toNat_natCast, isd_idx (hmem x hx)] at hd
      exact ⟨x.2, by rw [e21]; exact hx, hd⟩
    · intro e he e' he' hee hdd
      have := (cnt_le_iff (nodup_of_once (once_of_rising (hrise.2 h2))) ((olds [] r).idxOf e.2)).1 (h4 _ (by rw [isd_idx (hmem e he)]; exact hdd)) _ (numEnts_mem.2 ⟨e, he, rfl⟩) _ (numEnts_mem.2 ⟨e', he', rfl⟩) rfl (by rw [hee])
      have e1 := congrArg Prod.fst this
      exact Prod.ext e1 hee
    · intro e he
      exact h5 _ (List.mem_map.2 ⟨_, hmem e he, rfl⟩)
  · rintro ⟨h, h2⟩
    refine ⟨h.len, h2, ⟨hd, ?_⟩, ?_, ?_⟩
    · intro k hk
      have hkl : k < (olds [] r).length := by have := isd_lt hk; rwa [List.length_map] at this
      rw [cnt_le_iff (nodup_of_once (once_of_rising (hrise.2 h2)))]
      intro a ha b hb h1 h3
      obtain ⟨x, hx, rfl⟩ := numEnts_mem.1 ha
      obtain ⟨y, hy, rfl⟩ := numEnts_mem.1 hb
      simp only at h1 h3
      have hi : (olds [] r).idxOf x.2 = k := by omega
      have hj : (olds [] r).idxOf y.2 = k := by omega
      have hxy := idx_inj (hmem x hx) (hmem y hy) (hi.trans hj.symm)
      rw [← hi, isd_idx (hmem x hx)] at hk
      rw [h.dir x hx y hy hxy hk]
    · intro n hn
      obtain ⟨z, hz, rfl⟩ := List.mem_map.1 hn
      obtain ⟨e, he, rfl⟩ := hcov z hz
      exact h.nod e he
    · rw [housed_iff (hrise.2 h2)]
      constructor
      · obtain ⟨z, hz, hdd⟩ := h.root
        exact ⟨_, numEnts_mem.2 ⟨_, hz, rfl⟩, by rw [Int.toNat_natCast, isd_idx (hmem _ hz)]; exact hdd⟩
      · intro e he hne
        obtain ⟨x, hx, rfl⟩ := numEnts_mem.1 he
        obtain ⟨z, hz, hdd⟩ := h.up x hx hne
        exact ⟨_, numEnts_mem.2 ⟨_, hz, rfl⟩, by rw [Int.toNat_natCast, isd_idx (hmem _ hz)]; exact hdd⟩
theorem okay_norm {es : List Ent} {ns : List Nd} (h : Okay es ns) : normT es ns = some (numT (isort es) ns) := by
  have hp := h.perm (isort_perm es)
  unfold normT
  rw [if_pos]
  refine ⟨h.len, ?_, ?_⟩
  · unfold placed
    rw [List.all_eq_true]
    intro e he
    have := h.num e he
    simp [this.1, this.2]
  · exact (may_numT hp.num).2 ⟨hp, rising_of (isort_sorted es) hp.may hp.once⟩
theorem norm_okay {es : List Ent} {ns : List Nd} {t : List Ent × List Nd} (h : normT es ns = some t) : Okay es ns ∧ t = numT (isort es) ns := by
  unfold normT at h
  split at h
  · rename_i hc
    cases h
    obtain ⟨h1, h2, h3⟩ := hc
    have hn : ∀ e ∈ isort es, 0 ≤ e.2 ∧ e.2 < (ns.length : Int) := fun e he => by
      have := List.all_eq_true.1 h2 e ((isort_perm es).mem_iff.1 he)
      simpa using this
    exact ⟨((may_numT hn).1 h3).1.perm (isort_perm es).symm, rfl⟩
  · cases h
theorem norm_may {es : List Ent} {ns : List Nd} {t : List Ent × List Nd} (h : normT es ns = some t) : mayN2 t = true := by
  obtain ⟨h1, rfl⟩ := norm_okay h
  have hp := h1.perm (isort_perm es)
  exact (may_numT hp.num).2 ⟨hp, rising_of (isort_sorted es) hp.may hp.once⟩
theorem not_okay {es : List Ent} {ns : List Nd} (h : ¬ Okay es ns) : normT es ns = none := by
  cases hh : normT es ns with
  | none => rfl
  | some t => exact absurd (norm_okay hh).1 h
/-- The numbers from 0 on. -/
def uptoI (n : Nat) : List Int := (List.range n).map Int.ofNat
theorem uptoI_mem {n : Nat} {z : Int} : z ∈ uptoI n ↔ 0 ≤ z ∧ z < (n : Int) := by
  unfold uptoI
  rw [List.mem_map]
  constructor
  · rintro ⟨a, h, rfl⟩
    have := List.mem_range.1 h
    exact ⟨by simp, by simp; omega⟩
  · rintro ⟨h1, h2⟩
    exact ⟨z.toNat, List.mem_range.2 (by omega), by simp; omega⟩
theorem uptoI_succ (n : Nat) : uptoI (n + 1) = uptoI n ++ [(n : Int)] := by
  unfold uptoI
  rw [List.range_succ, List.map_append]
  rfl
theorem uptoI_len (n : Nat) : (uptoI n).length = n := by simp [uptoI]
theorem uptoI_idx {n : Nat} {z : Int} (h : z ∈ uptoI n) : ((uptoI n).idxOf z : Int) = z := by
  have h1 := getElem_idx h
  have hl := List.idxOf_lt_length_of_mem h
  rw [uptoI_len] at hl
  generalize (uptoI n).idxOf z = i at *
  unfold uptoI at h1
  rw [List.getElem?_map, List.getElem?_range hl] at h1
  simpa using h1
theorem olds_dnum {n : Nat} : ∀ (l : List Ent) (u v : Nat), dnum n u l = some v → olds (uptoI u) l = uptoI v := by
  intro l
  induction l with
  | nil => intro u v h; cases h; rfl
  | cons e r ih =>
    intro u v h
    unfold dnum at h
    split at h
    · rename_i hc
      have := ih _ _ h
      unfold olds
      by_cases he : e.2 = (u : Int)
      · rw [if_neg (by rw [uptoI_mem]; omega)]
        unfold upN at this
        rw [if_pos he, uptoI_succ] at this
        rw [he]
        exact this
      · rw [if_pos (by rw [uptoI_mem]; omega)]
        unfold upN at this
        rw [if_neg he] at this
        exact this
    · cases h
theorem dnum_in {n : Nat} : ∀ (l : List Ent) (u v : Nat), dnum n u l = some v → ∀ e ∈ l, 0 ≤ e.2 ∧ e.2 < (n : Int) := by
  intro l
  induction l with
  | nil => intro u v h e he; cases he
  | cons x r ih =>
    intro u v h e he
    unfold dnum at h
    split at h
    · rename_i hc
      rcases List.mem_cons.1 he with rfl | he
      · exact ⟨hc.1, hc.2.2⟩
      · exact ih _ _ h e he
    · cases h
theorem numT_self {es : List Ent} {ns : List Nd} (h : dnum ns.length 0 es = some ns.length) : numT es ns = (es, ns) := by
  have ho : olds [] es = uptoI ns.length := olds_dnum es 0 _ h
  have hi := dnum_in es 0 _ h
  unfold numT
  rw [ho]
  refine Prod.ext ?_ ?_
  · show numEnts _ _ = es
    unfold numEnts
    conv => rhs; rw [← List.map_id es]
    refine List.map_congr_left fun e he => ?_
    exact Prod.ext rfl (uptoI_idx (uptoI_mem.2 (hi e he)))
  · show (uptoI ns.length).map (nodeAt ns) = ns
    refine List.ext_getElem (by rw [List.length_map, uptoI_len]) fun i h1 h2 => ?_
    rw [List.getElem_map]
    unfold uptoI
    rw [List.getElem_map, List.getElem_range]
    exact nodeAt_in h2
/-- A tree that may be is its own normal form. -/
theorem norm_self {es : List Ent} {ns : List Nd} (h : mayT es ns = true) : normT es ns = some (es, ns) ∧ Okay es ns ∧ Rising es := by
  have hm := may_iff.1 h
  have hs := numT_self hm.2.2.1.1
  have hk := (may_numT (r := es) (ns := ns) (fun e he => dnum_in es 0 _ hm.2.2.1.1 e he)).1 (by rw [hs]; exact h)
  refine ⟨?_, hk.1, hk.2⟩
  rw [okay_norm hk.1, isort_self hk.2, hs]
/-- Other numbers, the same tree. -/
theorem olds_map {f : Int → Int} : ∀ (l : List Ent) (o : List Int), (∀ e ∈ l, ∀ z, z ∈ o ∨ (∃ e' ∈ l, e'.2 = z) → f e.2 = f z → e.2 = z) → olds (o.map f) (l.map fun e => (e.1, f e.2)) = (olds o l).map f := by
  intro l
  induction l with
  | nil => intro o _; rfl
  | cons e r ih =>
    intro o h
    rw [List.map_cons]
    unfold olds
    have hiff : f e.2 ∈ o.map f ↔ e.2 ∈ o := by
      constructor
      · intro hh
        obtain ⟨z, hz, hzz⟩ := List.mem_map.1 hh
        rw [h e List.mem_cons_self z (.inl hz) hzz.symm]
        exact hz
      · exact fun hh => List.mem_map.2 ⟨_, hh, rfl⟩
    by_cases hm : e.2 ∈ o
    · rw [if_pos hm, if_pos (hiff.2 hm)]
      refine ih o fun x hx z hz => h x (List.mem_cons_of_mem _ hx) z ?_
      rcases hz with hz | ⟨e', h1, h2⟩
      · exact .inl hz
      · exact .inr ⟨e', List.mem_cons_of_mem _ h1, h2⟩
    · rw [if_neg hm, if_neg (fun k => hm (hiff.1 k))]
      have := ih (o ++ [e.2]) fun x hx z hz => h x (List.mem_cons_of_mem _ hx) z (by
        rcases hz with hz | ⟨e', h1, h2⟩
        · rcases List.mem_append.1 hz with hz | hz
          · exact .inl hz
          · exact .inr ⟨e, List.mem_cons_self, (List.mem_singleton.1 hz).symm⟩
        · exact .inr ⟨e', List.mem_cons_of_mem _ h1, h2⟩)
      rw [List.map_append] at this
      exact this
theorem idx_map {f : Int → Int} {o : List Int} {z : Int} (h : z ∈ o) (hf : ∀ x ∈ o, f x = f z → x = z) : (o.map f).idxOf (f z) = o.idxOf z := by
  induction o with
  | nil => cases h
  | cons x r ih =>
    rw [List.map_cons, List.idxOf_cons, List.idxOf_cons]
    by_cases hx : x = z
    · subst hx
      simp
    · have hx' : f x ≠ f z := fun k => hx (hf x List.mem_cons_self k)
      have hz : z ∈ r := by
        rcases List.mem_cons.1 h with k | k
        · exact absurd k.symm hx
        · exact k
      rw [ih hz fun y hy => hf y (List.mem_cons_of_mem _ hy)]
      rw [show (f x == f z) = false from beq_eq_false_iff_ne.2 hx', show (x == z) = false from beq_eq_false_iff_ne.2 hx]
theorem numT_map {f : Int → Int} {l : List Ent} {ns ns' : List Nd} (hf : ∀ e ∈ l, ∀ e' ∈ l, f e.2 = f e'.2 → e.2 = e'.2) (hn : ∀ e ∈ l, nodeAt ns' (f e.2) = nodeAt ns e.2) : numT (l.map fun e => (e.1, f e.2)) ns' = numT l ns := by
  have ho : olds [] (l.map fun e => (e.1, f e.2)) = (olds [] l).map f := olds_map l [] fun e he z hz hh => by
    rcases hz with hz | ⟨e', h1, rfl⟩
    · cases hz
    · exact hf e he e' h1 hh
  have hin : ∀ x ∈ olds [] l, ∃ e ∈ l, e.2 = x := fun x hx => (olds_in [] l x hx).resolve_left (by simp)
  unfold numT
  rw [ho]
  refine Prod.ext ?_ ?_
  · show numEnts _ _ = numEnts _ _
    unfold numEnts
    rw [List.map_map]
    refine List.map_congr_left fun e he => ?_
    show (e.1, (((olds [] l).map f).idxOf (f e.2) : Int)) = _
    rw [idx_map (olds_mem [] l e he) fun x hx k => by
      obtain ⟨e', h1, rfl⟩ := hin x hx
      exact hf e' h1 e he k]
  · show ((olds [] l).map f).map (nodeAt ns') = (olds [] l).map (nodeAt ns)
    rw [List.map_map]
    refine List.map_congr_left fun x hx => ?_
    obtain ⟨e, he, rfl⟩ := hin x hx
    exact hn e he
end Go.Proofs.YtgbenepapajieaaGreat.Tr
