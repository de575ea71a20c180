/-
  What the loop of Make keeps, as plain mathematics; the nodes that it makes are valid.
-/
import Derived.Test.YtgbenepapajieaaGreatTLawM
import Derived.Test.YtgbenepapajieaaGreatNRefN
import Derived.Lib.IndexLaws
namespace Go.Proofs.YtgbenepapajieaaGreat.Tr
open Go.RowKit
open Go.Proofs.YtgbenepapajieaaGreat.Nd (Nd mayN sumP writeN cutNd fileB)
open Go.Proofs.YtgbenepapajieaaGreat.Pa (lessB parentB hasParentB lastB underB joinB joinErrB)

/-! ### One entry more -/
theorem Okay.add {es : List Ent} {ns : List Nd} (h : Okay es ns) {p d : ByteArray} {z z0 : Int} (hl : es.length < 100) (hp : Pa.mayB p = true) (hnew : ∀ e ∈ es, e.1 ≠ p) (hpar : parentB p = d) (hd : (d, z0) ∈ es) (hd2 : isd ns z0.toNat = true)
    (h0 : 0 ≤ z) (h1 : z < (ns.length : Int)) (hv : mayN (nodeAt ns z) = true) (hone : isd ns z.toNat = true → ∀ e ∈ es, e.2 ≠ z) : Okay (es ++ [(p, z)]) ns where
  len := by rw [List.length_append, List.length_singleton]; omega
  may e he := by
    rcases List.mem_append.1 he with he | he
    · exact h.may e he
    · rw [List.mem_singleton.1 he]; exact hp
  once := by
    rw [List.map_append, List.nodup_append]
    refine ⟨h.once, by simp, fun a ha b hb => ?_⟩
    obtain ⟨e, he, rfl⟩ := List.mem_map.1 ha
    rw [List.map_cons, List.map_nil, List.mem_singleton] at hb
    rw [hb]
    exact hnew e he
  num e he := by
    rcases List.mem_append.1 he with he | he
    · exact h.num e he
    · rw [List.mem_singleton.1 he]; exact ⟨h0, h1⟩
  root := by obtain ⟨r, hr, hrd⟩ := h.root; exact ⟨r, List.mem_append_left _ hr, hrd⟩
  up e he hne := by
    rcases List.mem_append.1 he with he | he
    · obtain ⟨r, hr, hrd⟩ := h.up e he hne; exact ⟨r, List.mem_append_left _ hr, hrd⟩
    · rw [List.mem_singleton.1 he]
      exact ⟨z0, List.mem_append_left _ (by show (parentB p, z0) ∈ es; rw [hpar]; exact hd), hd2⟩
  dir e he e' he' hee hdd := by
    rcases List.mem_append.1 he with he | he <;> rcases List.mem_append.1 he' with he' | he'
    · exact h.dir e he e' he' hee hdd
    · rw [List.mem_singleton.1 he'] at hee ⊢
      simp only at hee
      rw [hee] at hdd
      exact absurd hee (hone hdd e he)
    · rw [List.mem_singleton.1 he] at hee hdd ⊢
      simp only at hee hdd
      exact absurd hee.symm (hone hdd e' he')
    · rw [List.mem_singleton.1 he, List.mem_singleton.1 he']
  nod e he := by
    rcases List.mem_append.1 he with he | he
    · exact h.nod e he
    · rw [List.mem_singleton.1 he]; exact hv
theorem Okay.more {es : List Ent} {ns : List Nd} (h : Okay es ns) (x : Nd) : Okay es (ns ++ [x]) := by
  have hno : ∀ e ∈ es, nodeAt (ns ++ [x]) (id e.2) = nodeAt ns e.2 ∧ 0 ≤ id e.2 ∧ id e.2 < ((ns ++ [x]).length : Int) := fun e he => by
    have := h.num e he
    refine ⟨nodeAt_more this.1 this.2 x, this.1, ?_⟩
    rw [List.length_append]
    show e.2 < _
    simp only [List.length_cons, List.length_nil]
    omega
  have hm := h.map (f := id) (fun e _ e' _ k => k) hno
  rwa [show (es.map fun e => (e.1, id e.2)) = es from List.map_id es] at hm

/-! ### A path joined -/
theorem join_facts {d b : ByteArray} (h : joinErrB d b = 0) : Pa.mayB (joinB d b) = true ∧ joinB d b ≠ ⟨#[]⟩ ∧ parentB (joinB d b) = d := by
  have h' : Pa.Pth.joinErrL d.data.toList b.data.toList = 0 := h
  have hj : Pa.Pth.joinL d.data.toList b.data.toList = Pa.Pth.joinedL d.data.toList b.data.toList := by
    unfold Pa.Pth.joinL
    rw [if_pos h']
  unfold Pa.Pth.joinErrL at h'
  split at h'
  · cases h'
  · rename_i hc
    split at h'
    · rename_i hm
      simp only [Bool.or_eq_true, Bool.not_eq_true', not_or, Bool.not_eq_false] at hc
      obtain ⟨hd, hb⟩ := hc
      have ha := Pa.Pth.may_all hd
      have hs := Pa.joined_snoc ha.1 b.data.toList
      rw [Pa.Pth.may_parts hd] at hs
      have hall : (Pa.Pth.partsL d.data.toList ++ [b.data.toList]).all Pa.Pth.nameL = true := by
        rw [List.all_append, ha.1]
        simp [hb]
      have hg : Pa.Good (Pa.Pth.partsL d.data.toList ++ [b.data.toList]) := by
        rw [hs, Pa.Pth.may_joinN _ hall, Bool.and_eq_true, decide_eq_true_eq, decide_eq_true_eq] at hm
        exact ⟨hall, hm.2, hm.1⟩
      have hB : joinB d b = Pa.mkB (Pa.Pth.joinN (Pa.Pth.partsL d.data.toList ++ [b.data.toList])) := by
        unfold joinB
        rw [hj, hs]
      refine ⟨?_, ?_, ?_⟩
      · rw [hB]; exact hg.may
      · intro he
        have hp : Pa.Pth.partsL (joinB d b).data.toList = Pa.Pth.partsL d.data.toList ++ [b.data.toList] := by rw [hB, Pa.mkB_list]; exact hg.parts
        rw [he, show Pa.Pth.partsL (⟨#[]⟩ : ByteArray).data.toList = [] by decide +kernel] at hp
        simp at hp
      · rw [hB]
        unfold parentB
        rw [Pa.mkB_list, Pa.parent_snoc hg, Pa.Pth.may_parts hd, Pa.mkB_data]
    · cases h'

/-! ### The loop -/
structure MM (es : List Ent) (ns : List Nd) (ds : List ByteArray) (fs : List Int) (i : Nat) : Prop where
  ok : Okay es ns
  el : es.length ≤ i + 1
  nl : ns.length ≤ i + 1
  dl : ds.length ≤ i + 1
  fl : fs.length ≤ i
  dpos : 0 < ds.length
  dirs : ∀ d ∈ ds, ∃ z, (d, z) ∈ es ∧ isd ns z.toNat = true
  files : ∀ z ∈ fs, 0 ≤ z ∧ z < (ns.length : Int) ∧ isd ns z.toNat = false ∧ mayN (nodeAt ns z) = true
  fit : ∀ n ∈ ns, Nd.Fit n ∧ n.target.size ≤ 1000000
section
variable {es : List Ent} {ns : List Nd} {ds : List ByteArray} {fs : List Int} {i : Nat}
theorem MM.skip (h : MM es ns ds fs i) : MM es ns ds fs (i + 1) :=
  ⟨h.ok, by have := h.el; omega, by have := h.nl; omega, by have := h.dl; omega, by have := h.fl; omega, h.dpos, h.dirs, h.files, h.fit⟩
theorem isd_more {z : Int} (h0 : 0 ≤ z) (h1 : z < (ns.length : Int)) (x : Nd) : isd (ns ++ [x]) z.toNat = isd ns z.toNat := by rw [isd_node, nodeAt_more h0 h1, ← isd_node]
theorem nodeAt_last (x : Nd) : nodeAt (ns ++ [x]) (ns.length : Int) = x := by
  rw [nodeAt_in (by simp)]
  simp
theorem isd_in {p : ByteArray} {z : Int} (h : (p, z) ∈ es) (hk : Okay es ns) (x : Nd) : isd (ns ++ [x]) z.toNat = isd ns z.toNat := isd_more (hk.num _ h).1 (hk.num _ h).2 x
/-- A node more. -/
theorem MM.node (h : MM es ns ds fs i) (hi : i < 25) {d b : ByteArray} {x : Nd} (hd : d ∈ ds) (hj : joinErrB d b = 0) (hf : findE es (joinB d b) = none) (hx : mayN x = true) (hfit : Nd.Fit x ∧ x.target.size ≤ 1000000) :
    MM (es ++ [(joinB d b, (ns.length : Int))]) (ns ++ [x]) ds fs (i + 1) := by
  obtain ⟨j1, j2, j3⟩ := join_facts hj
  obtain ⟨z0, hz, hzd⟩ := h.dirs d hd
  have hel := h.el
  refine ⟨?_, by simp; exact hel, by have := h.nl; simp; omega, by have := h.dl; omega, by have := h.fl; omega, h.dpos, fun d' hd' => ?_, fun z hz => ?_, fun n hn => ?_⟩
  · refine (h.ok.more x).add (d := d) (z0 := z0) (by omega) j1 (findE_none.1 hf) j3 hz ?_ (by omega) (by simp; omega) ?_ ?_
    · rw [isd_in hz h.ok]; exact hzd
    · rw [nodeAt_last]; exact hx
    · intro _ e he hh
      have := h.ok.num e he
      omega
  · obtain ⟨z, h1, h2⟩ := h.dirs d' hd'
    exact ⟨z, List.mem_append_left _ h1, by rw [isd_in h1 h.ok]; exact h2⟩
  · obtain ⟨a1, a2, a3, a4⟩ := h.files z hz
    exact ⟨a1, by simp; omega, by rw [isd_more a1 a2]; exact a3, by rw [nodeAt_more a1 a2]; exact a4⟩
  · rcases List.mem_append.1 hn with hn | hn
    · exact h.fit n hn
    · rw [List.mem_singleton.1 hn]; exact hfit
theorem MM.dir (h : MM es ns ds fs i) (hi : i < 25) {d b : ByteArray} {x : Nd} (hd : d ∈ ds) (hj : joinErrB d b = 0) (hf : findE es (joinB d b) = none) (hx : mayN x = true) (hk : x.kind = 1) (hfit : Nd.Fit x ∧ x.target.size ≤ 1000000) :
    MM (es ++ [(joinB d b, (ns.length : Int))]) (ns ++ [x]) (ds ++ [joinB d b]) fs (i + 1) := by
  have k := h.node hi hd hj hf hx hfit
  refine ⟨k.ok, k.el, k.nl, by have := h.dl; simp; omega, k.fl, by simp, fun d' hd' => ?_, k.files, k.fit⟩
  rcases List.mem_append.1 hd' with hd' | hd'
  · exact k.dirs d' hd'
  · rw [List.mem_singleton.1 hd']
    exact ⟨_, List.mem_append_right _ (List.mem_singleton.2 rfl), by rw [isd_node, nodeAt_last, hk]; rfl⟩
theorem MM.file (h : MM es ns ds fs i) (hi : i < 25) {d b : ByteArray} {x : Nd} (hd : d ∈ ds) (hj : joinErrB d b = 0) (hf : findE es (joinB d b) = none) (hx : mayN x = true) (hk : x.kind = 2) (hfit : Nd.Fit x ∧ x.target.size ≤ 1000000) :
    MM (es ++ [(joinB d b, (ns.length : Int))]) (ns ++ [x]) ds (fs ++ [(ns.length : Int)]) (i + 1) := by
  have k := h.node hi hd hj hf hx hfit
  refine ⟨k.ok, k.el, k.nl, k.dl, by have := h.fl; simp; omega, k.dpos, k.dirs, fun z hz => ?_, k.fit⟩
  rcases List.mem_append.1 hz with hz | hz
  · exact k.files z hz
  · rw [List.mem_singleton.1 hz]
    exact ⟨by omega, by rw [List.length_append, List.length_singleton]; omega, by rw [isd_node, nodeAt_last, hk]; rfl, by rw [nodeAt_last]; exact hx⟩
theorem MM.link (h : MM es ns ds fs i) (hi : i < 25) {d b : ByteArray} {z : Int} (hd : d ∈ ds) (hj : joinErrB d b = 0) (hf : findE es (joinB d b) = none) (hz : z ∈ fs) : MM (es ++ [(joinB d b, z)]) ns ds fs (i + 1) := by
  obtain ⟨j1, j2, j3⟩ := join_facts hj
  obtain ⟨z0, hz0, hzd⟩ := h.dirs d hd
  obtain ⟨a1, a2, a3, a4⟩ := h.files z hz
  have hel := h.el
  refine ⟨?_, by simp; exact hel, by have := h.nl; omega, by have := h.dl; omega, by have := h.fl; omega, h.dpos, fun d' hd' => ?_, h.files, h.fit⟩
  · exact h.ok.add (d := d) (z0 := z0) (by omega) j1 (findE_none.1 hf) j3 hz0 hzd a1 a2 a4 (fun hh => by rw [a3] at hh; cases hh)
  · obtain ⟨z, h1, h2⟩ := h.dirs d' hd'
    exact ⟨z, List.mem_append_left _ h1, h2⟩
/-- What comes of it. -/
theorem MM.done (h : MM es ns ds fs i) (hi : i ≤ 25) : ∃ t : List Ent × List Nd, normT es ns = some t ∧ mayT t.1 t.2 = true ∧ Fits t ∧ t.1.length ≤ 26 := by
  refine ⟨_, okay_norm h.ok, norm_may (okay_norm h.ok), ?_, ?_⟩
  · refine fits_numT (es := es) ⟨?_, ?_, ?_, h.fit⟩ h.ok.num (isort_perm es)
    · have := h.ok.len; simp only; omega
    · have := h.nl; simp only; omega
    · intro e he
      have := Pa.mayB_size _ (h.ok.may e he)
      omega
  · have := (isort_perm es).length_eq
    have := h.el
    show (numEnts _ (isort es)).length ≤ 26
    unfold numEnts
    rw [List.length_map]
    omega
theorem MM.fits (h : MM es ns ds fs i) (hi : i ≤ 25) : Fits (es, ns) where
  ents := by have := h.el; simp only; omega
  nodes := by have := h.nl; simp only; omega
  path e he := by have := Pa.mayB_size _ (h.ok.may e he); omega
  node := h.fit
end
/-! ### The nodes -/
/-- The metadata that Make gives. -/
def MkMt (m : Mt) : Prop := 0 ≤ m.mode ∧ m.mode ≤ 4095 ∧ 0 ≤ m.uid ∧ m.uid ≤ 2 ∧ 0 ≤ m.gid ∧ m.gid ≤ 3 ∧ 0 ≤ m.time ∧
  ((m.attrs = [] ∧ m.acl = []) ∨ (∃ v : ByteArray, m.attrs = [(⟨#[117, 115, 101, 114, 46, 107]⟩, v)] ∧ v.size ≤ 200) ∧ ∃ p : Int, m.acl = [(1, 7, p), (3, 0, 7)] ∧ 0 ≤ p ∧ p ≤ 7)
theorem acl_ok {p : Int} (h0 : 0 ≤ p) (h7 : p ≤ 7) : mayB [(1, 7, p), (3, 0, 7)] = true := by
  have : p = 0 ∨ p = 1 ∨ p = 2 ∨ p = 3 ∨ p = 4 ∨ p = 5 ∨ p = 6 ∨ p = 7 := by omega
  rcases this with rfl | rfl | rfl | rfl | rfl | rfl | rfl | rfl <;> decide +kernel
theorem mt_ok {m : Mt} (h : MkMt m) : mayM m = true ∧ m.attrs.length ≤ 10000 ∧ m.acl.length ≤ 10000 := by
  obtain ⟨h1, h2, h3, h4, h5, h6, h7, h8⟩ := h
  have hu : idB m.uid = true := decide_eq_true ⟨h3, by omega⟩
  have hg : idB m.gid = true := decide_eq_true ⟨h5, by omega⟩
  unfold mayM
  rw [decide_eq_true h1, decide_eq_true h2, hu, hg, decide_eq_true h7]
  rcases h8 with ⟨a, b⟩ | ⟨⟨v, a, hv⟩, p, b, p0, p7⟩
  · rw [a, b]
    refine ⟨by decide +kernel, by simp, by simp⟩
  · rw [a, b, acl_ok p0 p7]
    refine ⟨?_, by simp, by simp⟩
    rw [decide_eq_true (show AllOkT [((⟨#[117, 115, 101, 114, 46, 107]⟩ : ByteArray), v)] from fun x hx => by rw [List.mem_singleton.1 hx]; exact ⟨show 1 ≤ (⟨#[117, 115, 101, 114, 46, 107]⟩ : ByteArray).size by decide, show (⟨#[117, 115, 101, 114, 46, 107]⟩ : ByteArray).size ≤ 20 by decide, hv⟩), decide_eq_true (show RiseT [((⟨#[117, 115, 101, 114, 46, 107]⟩ : ByteArray), v)] from List.pairwise_singleton _ _)]
    rfl
theorem emptyL : (⟨#[]⟩ : ByteArray).toList.isEmpty = true := by decide +kernel
theorem small_nil : Nd.Small [] := ⟨by simp, fun p hp => by cases hp⟩
theorem node_dir {m : Mt} (h : MkMt m) : mayN ⟨1, m, 0, [], ⟨#[]⟩, 0, 0⟩ = true ∧ Nd.Fit ⟨1, m, 0, [], ⟨#[]⟩, 0, 0⟩ := by
  obtain ⟨a, b, c⟩ := mt_ok h
  refine ⟨?_, b, c, small_nil⟩
  unfold mayN
  rw [if_pos (by simp), a, emptyL]
  rfl
theorem node_fifo {m : Mt} (h : MkMt m) : mayN ⟨6, m, 0, [], ⟨#[]⟩, 0, 0⟩ = true ∧ Nd.Fit ⟨6, m, 0, [], ⟨#[]⟩, 0, 0⟩ := by
  obtain ⟨a, b, c⟩ := mt_ok h
  refine ⟨?_, b, c, small_nil⟩
  unfold mayN
  rw [if_pos (by simp), a, emptyL]
  rfl
theorem node_char {m : Mt} (h : MkMt m) {x y : Int} (x0 : 0 ≤ x) (x1 : x < 300) (y0 : 0 ≤ y) (y1 : y < 300) : mayN ⟨4, m, 0, [], ⟨#[]⟩, x, y⟩ = true ∧ Nd.Fit ⟨4, m, 0, [], ⟨#[]⟩, x, y⟩ := by
  obtain ⟨a, b, c⟩ := mt_ok h
  refine ⟨?_, b, c, small_nil⟩
  have hx : Nd.devB x = true := decide_eq_true ⟨x0, by omega⟩
  have hy : Nd.devB y = true := decide_eq_true ⟨y0, by omega⟩
  unfold mayN
  rw [if_neg (by simp), if_neg (by simp), if_neg (by simp), if_pos (by simp), a, emptyL, hx, hy]
  rfl
theorem node_file {m : Mt} (h : MkMt m) : mayN ⟨2, m, 0, [], ⟨#[]⟩, 0, 0⟩ = true ∧ Nd.Fit ⟨2, m, 0, [], ⟨#[]⟩, 0, 0⟩ := by
  obtain ⟨a, b, c⟩ := mt_ok h
  refine ⟨?_, b, c, small_nil⟩
  unfold mayN
  rw [if_neg (by simp), if_pos rfl, a, emptyL, Nd.contentB_of (Nd.vf_nil (Int.le_refl 0) (by omega))]
  rfl
theorem may_nozero {l : List UInt8} (h : Pa.Pth.mayL l = true) : ∀ c ∈ l, c ≠ 0 := by
  have ha := (Pa.Pth.may_all h).1
  have hj := Pa.Pth.may_parts h
  intro c hc
  rw [← hj] at hc
  generalize Pa.Pth.partsL l = x at ha hc
  induction x with
  | nil => simp [Pa.Pth.joinN] at hc
  | cons a r ih =>
    rw [List.all_cons, Bool.and_eq_true] at ha
    have hname : ∀ c ∈ a, c ≠ 0 := by
      intro c hc
      have := ha.1
      unfold Pa.Pth.nameL at this
      simp only [Bool.and_eq_true] at this
      have := List.all_eq_true.1 this.2 c hc
      unfold Pa.Pth.okByte at this
      simp only [Bool.and_eq_true, bne_iff_ne] at this
      exact this.2
    by_cases hr : r = []
    · subst hr
      simp only [Pa.Pth.joinN] at hc
      exact hname c hc
    · rw [Pa.Pth.joinN_cons a r hr] at hc
      rcases List.mem_append.1 hc with hc | hc
      · exact hname c hc
      · rcases List.mem_cons.1 hc with rfl | hc
        · decide
        · exact ih ha.2 hc
theorem node_link {m : Mt} (h : MkMt m) {p : ByteArray} (hp : Pa.mayB p = true) : mayN ⟨3, m, 0, [], (⟨#[46, 46, 47]⟩ : ByteArray) ++ p, 0, 0⟩ = true ∧ Nd.Fit ⟨3, m, 0, [], (⟨#[46, 46, 47]⟩ : ByteArray) ++ p, 0, 0⟩ := by
  obtain ⟨a, b, c⟩ := mt_ok h
  refine ⟨?_, b, c, small_nil⟩
  have hs : ((⟨#[46, 46, 47]⟩ : ByteArray) ++ p).size = 3 + p.size := by rw [ByteArray.size_append]; rfl
  have hps := Pa.mayB_size _ hp
  have hz : Lib.indexByte ((⟨#[46, 46, 47]⟩ : ByteArray) ++ p).data.toList 0 < 0 := by
    rcases (by omega : Lib.indexByte ((⟨#[46, 46, 47]⟩ : ByteArray) ++ p).data.toList 0 < 0 ∨ 0 ≤ Lib.indexByte ((⟨#[46, 46, 47]⟩ : ByteArray) ++ p).data.toList 0) with hh | hh
    · exact hh
    · exfalso
      obtain ⟨o, ho⟩ : ∃ o : Nat, Lib.indexByte ((⟨#[46, 46, 47]⟩ : ByteArray) ++ p).data.toList 0 = o := ⟨_, (Int.toNat_of_nonneg hh).symm⟩
      have h1 := (Lib.indexByte_some ho).1
      have hm := List.mem_of_getElem? h1
      rw [ByteArray.data_append, Array.toList_append] at hm
      rcases List.mem_append.1 hm with hm | hm
      · revert hm; decide
      · exact may_nozero hp 0 hm rfl
  have ht : Nd.tgtB ((⟨#[46, 46, 47]⟩ : ByteArray) ++ p) = true := by
    unfold Nd.tgtB
    rw [decide_eq_true hz, decide_eq_true (show 1 ≤ ((((⟨#[46, 46, 47]⟩ : ByteArray) ++ p).size : Nat) : Int) by omega), decide_eq_true (show ((((⟨#[46, 46, 47]⟩ : ByteArray) ++ p).size : Nat) : Int) ≤ 200 by omega)]
    rfl
  unfold mayN
  rw [if_neg (by simp), if_neg (by simp), if_pos rfl, ht, a]
  rfl
/-- Writing and cutting keep a node valid. -/
structure NK (n : Nd) : Prop where
  may : mayN n = true
  fit : Nd.Fit n
  kind : n.kind = 2
  tgt : n.target = ⟨#[]⟩
theorem NK.write {n : Nd} (h : NK n) (a : Int) (s : ByteArray) : NK (writeN n a s).1 := by
  unfold writeN
  split
  · rename_i hc
    split
    · exact h
    · split
      · exact h
      · split
        · exact h
        · rename_i h1 h2 h3
          have hv := (Nd.fileB_vf hc.1).2
          have ha : 0 ≤ a ∧ a ≤ 1099511627776 := of_decide_eq_true hc.2
          have hv2 := Nd.vf_write hv ha.1 (by omega) (by omega) (Nat.le_of_not_lt fun k => h3 (.inl k)) (Nat.le_of_not_lt fun k => h3 (.inr k))
          have hb := Nd.fileB_set hc.1 hv2
          refine ⟨?_, ⟨h.fit.at_, h.fit.ac, hv2.small⟩, h.kind, h.tgt⟩
          unfold fileB at hb
          rw [Bool.and_eq_true] at hb
          exact hb.2
  · exact h
theorem NK.cut {n : Nd} (h : NK n) (s : Int) : NK (cutNd n s).1 := by
  unfold cutNd
  split
  · rename_i hc
    have hv := (Nd.fileB_vf hc.1).2
    have ha : 0 ≤ s ∧ s ≤ 1099511627776 := of_decide_eq_true hc.2
    have hv2 := Nd.vf_cut hv ha.1 ha.2
    have hb := Nd.fileB_set hc.1 hv2
    refine ⟨?_, ⟨h.fit.at_, h.fit.ac, hv2.small⟩, h.kind, h.tgt⟩
    unfold fileB at hb
    rw [Bool.and_eq_true] at hb
    exact hb.2
  · exact h
theorem NK.size {n : Nd} (h : NK n) : 0 ≤ n.size ∧ n.size ≤ 1099511627776 := by
  have := (Nd.fileB_vf (n := n) (by unfold fileB; rw [h.kind, h.may]; rfl)).2
  exact ⟨this.s0, this.s1⟩
end Go.Proofs.YtgbenepapajieaaGreat.Tr
