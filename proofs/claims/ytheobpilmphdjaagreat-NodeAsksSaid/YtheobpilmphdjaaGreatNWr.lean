/-
  What is written, cut and read, as plain mathematics: the document's clip and join; the code's pieces laid over ranges are the same.
-/
import Derived.Test.YtheobpilmphdjaaGreatNPc
namespace Go.Proofs.YtheobpilmphdjaaGreat.Nd
open Go.Proofs.YtheobpilmphdjaaGreat.Ex.Rng

/-- What of a piece lies from lo on, below hi. -/
def cutP (lo hi : Int) (p : Pc) : Pc := (max lo p.1, p.2.extract (max lo p.1 - p.1).toNat (min hi (p.1 + p.2.size) - p.1).toNat)
def clipP (l : List Pc) (lo hi : Int) : List Pc := l.filterMap fun p => if max lo p.1 < min hi (p.1 + p.2.size) then some (cutP lo hi p) else none
theorem cutP_size {lo hi : Int} {p : Pc} (h : max lo p.1 < min hi (p.1 + p.2.size)) : ((cutP lo hi p).2.size : Int) = min hi (p.1 + p.2.size) - max lo p.1 := by
  unfold cutP
  simp only [ByteArray.size_extract]
  omega
theorem cutP_in {lo hi : Int} {p : Pc} {q : Nat} (h : max lo p.1 < min hi (p.1 + p.2.size)) : PIn q (cutP lo hi p) ↔ PIn q p ∧ lo ≤ q ∧ (q : Int) < hi := by
  have := cutP_size h
  unfold PIn
  rw [this, show (cutP lo hi p).1 = max lo p.1 from rfl]
  omega
theorem byteP_cut {lo hi : Int} {p : Pc} {q : Nat} (h : max lo p.1 < min hi (p.1 + p.2.size)) (hq : PIn q (cutP lo hi p)) : byteP (cutP lo hi p) q = byteP p q := by
  have h1 := cutP_size h
  have h2 := (cutP_in h).1 hq
  unfold PIn at hq h2
  rw [h1, show (cutP lo hi p).1 = max lo p.1 from rfl] at hq
  unfold byteP
  rw [show (cutP lo hi p).1 = max lo p.1 from rfl]
  show (p.2.extract _ _).data.getD _ 0 = _
  rw [ByteArray.data_extract]
  have hsz : p.2.data.size = p.2.size := rfl
  simp only [Array.getD_eq_getD_getElem?]
  rw [Array.getElem?_extract, if_pos (by omega), show (max lo p.1 - p.1).toNat + ((q : Int) - max lo p.1).toNat = ((q : Int) - p.1).toNat by omega]
theorem clipP_byte (l : List Pc) (lo hi : Int) (q : Nat) : byteOf (clipP l lo hi) q = if lo ≤ q ∧ (q : Int) < hi then byteOf l q else none := by
  induction l with
  | nil => simp [clipP, byteOf_nil]
  | cons p r ih =>
    unfold clipP at ih ⊢
    rw [List.filterMap_cons, byteOf_cons]
    by_cases h : max lo p.1 < min hi (p.1 + p.2.size)
    · rw [if_pos h]
      simp only
      rw [byteOf_cons, ih]
      have hi' := cutP_in (q := q) h
      by_cases hq : lo ≤ q ∧ (q : Int) < hi
      · rw [if_pos hq, if_pos hq]
        by_cases hp : PIn q p
        · have hc := hi'.2 ⟨hp, hq⟩
          rw [if_pos hc, if_pos hp, byteP_cut h hc]
        · rw [if_neg hp, if_neg fun k => hp (hi'.1 k).1]
      · rw [if_neg hq, if_neg hq, if_neg fun k => hq (hi'.1 k).2]
        rfl
    · rw [if_neg h]
      simp only
      rw [ih]
      by_cases hq : lo ≤ q ∧ (q : Int) < hi
      · rw [if_pos hq, if_pos hq, if_neg]
        · simp
        · unfold PIn; omega
      · rw [if_neg hq, if_neg hq]
theorem clipP_mem {l : List Pc} {lo hi : Int} {x : Pc} (h : x ∈ clipP l lo hi) : ∃ p ∈ l, max lo p.1 < min hi (p.1 + p.2.size) ∧ x = cutP lo hi p := by
  obtain ⟨p, hp, h⟩ := List.mem_filterMap.1 h
  by_cases hc : max lo p.1 < min hi (p.1 + p.2.size)
  · rw [if_pos hc] at h; exact ⟨p, hp, hc, (Option.some.inj h).symm⟩
  · rw [if_neg hc] at h; cases h
theorem clipP_ends {l : List Pc} {lo hi : Int} {x : Pc} (h : x ∈ clipP l lo hi) : lo ≤ x.1 ∧ x.1 + x.2.size ≤ hi ∧ 0 < x.2.size ∧ ∃ p ∈ l, p.1 ≤ x.1 ∧ x.1 + x.2.size ≤ p.1 + p.2.size := by
  obtain ⟨p, hp, hc, rfl⟩ := clipP_mem h
  have := cutP_size hc
  have e : (cutP lo hi p).1 = max lo p.1 := rfl
  rw [e]
  exact ⟨by omega, by omega, by omega, p, hp, by omega, by omega⟩
theorem clipP_wf {l : List Pc} (h : WF l) (lo hi : Int) : WF (clipP l lo hi) := by
  refine ⟨fun x hx => ?_, ?_⟩
  · obtain ⟨a, b, c, p, hp, d, e⟩ := clipP_ends hx
    have := h.1 p hp
    exact ⟨by omega, c⟩
  · unfold clipP
    rw [List.pairwise_filterMap]
    refine h.2.imp fun {x y} hxy a ha b hb => ?_
    by_cases h1 : max lo x.1 < min hi (x.1 + x.2.size)
    · by_cases h2 : max lo y.1 < min hi (y.1 + y.2.size)
      · rw [if_pos h1] at ha
        rw [if_pos h2] at hb
        cases ha
        cases hb
        have := cutP_size h1
        show (cutP lo hi x).1 + _ < (cutP lo hi y).1
        rw [this, show (cutP lo hi x).1 = max lo x.1 from rfl, show (cutP lo hi y).1 = max lo y.1 from rfl]
        omega
      · rw [if_neg h2] at hb; cases hb
    · rw [if_neg h1] at ha; cases ha
theorem clipP_sum : ∀ (l : List Pc) (lo hi : Int), sumP (clipP l lo hi) ≤ sumP l
  | [], _, _ => Nat.le_refl _
  | p :: r, lo, hi => by
    have ih := clipP_sum r lo hi
    unfold clipP at ih ⊢
    rw [List.filterMap_cons]
    by_cases h : max lo p.1 < min hi (p.1 + p.2.size)
    · rw [if_pos h]
      have := cutP_size h
      simp only [sumP]
      omega
    · rw [if_neg h]
      simp only [sumP]
      omega
theorem clipP_len (l : List Pc) (lo hi : Int) : (clipP l lo hi).length ≤ l.length := List.length_filterMap_le _ _

/-! ### Pieces that touch are one -/
def joinStep (out : List Pc) (p : Pc) : List Pc :=
  match out.getLast? with
  | some o => if o.1 + o.2.size = p.1 then out.dropLast ++ [(o.1, o.2 ++ p.2)] else out ++ [p]
  | none => out ++ [p]
def joinP (l : List Pc) : List Pc := l.foldl joinStep []
theorem join_nil (p : Pc) : joinStep [] p = [p] := rfl
theorem join_last (o : List Pc) (x p : Pc) : joinStep (o ++ [x]) p = if x.1 + x.2.size = p.1 then o ++ [(x.1, x.2 ++ p.2)] else o ++ [x] ++ [p] := by
  unfold joinStep
  simp
theorem byteP_join {x p : Pc} (h : x.1 + x.2.size = p.1) (q : Nat) (_ : 0 ≤ x.1) : (if PIn q (x.1, x.2 ++ p.2) then some (byteP (x.1, x.2 ++ p.2) q) else none) = ((if PIn q p then some (byteP p q) else none : Option UInt8).or (if PIn q x then some (byteP x q) else none)) := by
  have hs : ((x.2 ++ p.2).size : Int) = x.2.size + p.2.size := by simp
  by_cases h1 : PIn q p
  · rw [if_pos h1, if_pos]
    · simp only [Option.some_or]
      unfold byteP PIn at *
      simp only [ByteArray.data_append, Array.getD_eq_getD_getElem?]
      rw [Array.getElem?_append_right (by show x.2.size ≤ _; omega)]
      congr 3
      show ((q : Int) - x.1).toNat - x.2.size = _
      omega
    · unfold PIn at *; simp only [hs]; omega
  · rw [if_neg h1]
    by_cases h2 : PIn q x
    · rw [if_pos h2, if_pos]
      · simp only [Option.none_or]
        unfold byteP PIn at *
        simp only [ByteArray.data_append, Array.getD_eq_getD_getElem?]
        rw [Array.getElem?_append_left (by show _ < x.2.size; omega)]
      · unfold PIn at *; simp only [hs]; omega
    · rw [if_neg h2, if_neg]
      · rfl
      · unfold PIn at *; simp only [hs]; omega
theorem WT.left {a b : List Pc} (h : WT (a ++ b)) : WT a := ⟨fun x hx => h.1 x (List.mem_append_left _ hx), (List.pairwise_append.1 h.2).1⟩
theorem WT.gap {a b : List Pc} (h : WT (a ++ b)) : ∀ x ∈ a, ∀ y ∈ b, x.1 + x.2.size ≤ y.1 := (List.pairwise_append.1 h.2).2.2
theorem WF.left {a b : List Pc} (h : WF (a ++ b)) : WF a := ⟨fun x hx => h.1 x (List.mem_append_left _ hx), (List.pairwise_append.1 h.2).1⟩
theorem WF.gap {a b : List Pc} (h : WF (a ++ b)) : ∀ x ∈ a, ∀ y ∈ b, x.1 + x.2.size < y.1 := (List.pairwise_append.1 h.2).2.2
theorem WT.join {a b : List Pc} (ha : WT a) (hb : WT b) (h : ∀ x ∈ a, ∀ y ∈ b, x.1 + x.2.size ≤ y.1) : WT (a ++ b) :=
  ⟨fun x hx => (List.mem_append.1 hx).elim (ha.1 x) (hb.1 x), List.pairwise_append.2 ⟨ha.2, hb.2, h⟩⟩
theorem last_case (l : List Pc) : l = [] ∨ ∃ o x, l = o ++ [x] := by
  rcases List.eq_nil_or_concat l with h | ⟨o, x, h⟩
  · exact .inl h
  · exact .inr ⟨o, x, by rw [h]; simp⟩
/-- What a step keeps. -/
theorem joinStep_ok {out : List Pc} {p : Pc} {l : List Pc} (hw : WF out) (ht : WT (out ++ p :: l)) :
    WF (joinStep out p) ∧ WT (joinStep out p ++ l) ∧ (∀ q, byteOf (joinStep out p) q = byteOf (out ++ [p]) q) ∧ sumP (joinStep out p) = sumP (out ++ [p]) := by
  have hp := ht.1 p (by simp)
  have hg := ht.gap
  have htl : WT (p :: l) := ⟨fun x hx => ht.1 x (List.mem_append_right _ hx), (List.pairwise_append.1 ht.2).2.1⟩
  have hpl := (List.pairwise_cons.1 htl.2).1
  rcases last_case out with rfl | ⟨o, x, rfl⟩
  · rw [join_nil]
    exact ⟨WF.nil_.add hp.1 hp.2 (by simp), ht, fun q => rfl, rfl⟩
  · rw [join_last]
    have hx := hw.1 x (by simp)
    have hgx := hg x (by simp) p (by simp)
    by_cases hj : x.1 + x.2.size = p.1
    · rw [if_pos hj]
      have hs : ((x.2 ++ p.2).size : Int) = x.2.size + p.2.size := by simp
      have hs' : (x.2 ++ p.2).size = x.2.size + p.2.size := by simp
      refine ⟨hw.left.add hx.1 (by simp only [hs']; omega) fun y hy => hw.gap y hy x (by simp), ?_, fun q => ?_, ?_⟩
      · refine WT.join (hw.wt.left.add hx.1 (by simp only [hs']; omega) fun y hy => Int.le_of_lt (hw.gap y hy x (by simp))) htl.tail fun y hy z hz => ?_
        rcases List.mem_append.1 hy with hy | hy
        · exact hg y (by simp [hy]) z (by simp [hz])
        · rw [List.mem_singleton.1 hy]
          have := hpl z hz
          simp only [hs]
          omega
      · rw [byteOf_append, byteOf_append, byteOf_append, ← Option.or_assoc]
        congr 1
        have := byteP_join hj q hx.1
        rw [show byteOf [(x.1, x.2 ++ p.2)] q = (if PIn q (x.1, x.2 ++ p.2) then some (byteP (x.1, x.2 ++ p.2) q) else none) from by rw [byteOf_cons, byteOf_nil]; rfl, this,
          show byteOf [p] q = (if PIn q p then some (byteP p q) else none) from by rw [byteOf_cons, byteOf_nil]; rfl, show byteOf [x] q = (if PIn q x then some (byteP x q) else none) from by rw [byteOf_cons, byteOf_nil]; rfl]
      · simp only [sumP_append, sumP, hs']; omega
    · rw [if_neg hj]
      refine ⟨hw.add hp.1 hp.2 fun y hy => ?_, by simpa using ht, fun q => by simp, by simp⟩
      rcases List.mem_append.1 hy with hy' | hy'
      · have := hw.gap y hy' x (by simp)
        omega
      · rw [List.mem_singleton.1 hy']; omega
theorem join_go : ∀ (l out : List Pc), WF out → WT (out ++ l) → WF (l.foldl joinStep out) ∧ (∀ q, byteOf (l.foldl joinStep out) q = byteOf (out ++ l) q) ∧ sumP (l.foldl joinStep out) = sumP (out ++ l)
  | [], out, hw, _ => ⟨hw, fun q => by simp, by simp⟩
  | p :: l, out, hw, ht => by
    obtain ⟨a, b, c, d⟩ := joinStep_ok hw ht
    obtain ⟨e, f, g⟩ := join_go l _ a b
    refine ⟨e, fun q => ?_, ?_⟩
    · rw [List.foldl_cons, f q, byteOf_append, c q, ← byteOf_append, List.append_assoc]; rfl
    · rw [List.foldl_cons, g, sumP_append, d, ← sumP_append, List.append_assoc]; rfl
theorem joinP_ok {l : List Pc} (h : WT l) : WF (joinP l) ∧ (∀ q, byteOf (joinP l) q = byteOf l q) ∧ sumP (joinP l) = sumP l := join_go l [] WF.nil_ h

/-! ### Write and Cut -/
def wList (d : List Pc) (a : Int) (s : ByteArray) : List Pc := clipP d 0 a ++ [(a, s)] ++ clipP d (a + s.size) 1099511627777
def wData (d : List Pc) (a : Int) (s : ByteArray) : List Pc := joinP (wList d a s)
theorem wList_wt {d : List Pc} {a : Int} {s : ByteArray} (h : WF d) (h0 : 0 ≤ a) (h1 : 0 < s.size) : WT (wList d a s) := by
  refine WT.join ((clipP_wf h _ _).wt.add h0 h1 fun x hx => (clipP_ends hx).2.1) (clipP_wf h _ _).wt fun x hx y hy => ?_
  have := (clipP_ends hy).1
  rcases List.mem_append.1 hx with hx | hx
  · have := (clipP_ends hx).2.1; omega
  · rw [List.mem_singleton.1 hx]; exact this
theorem wData_byte {d : List Pc} {a : Int} {s : ByteArray} (h : WF d) (hd : ∀ p ∈ d, p.1 + p.2.size ≤ 1099511627776) (h0 : 0 ≤ a) (h1 : 0 < s.size) (q : Nat) : byteOf (wData d a s) q = if PIn q (a, s) then some (byteP (a, s) q) else byteOf d q := by
  unfold wData
  rw [(joinP_ok (wList_wt h h0 h1)).2.1]
  unfold wList
  rw [byteOf_append, byteOf_add, clipP_byte, clipP_byte]
  have hn : 1099511627776 ≤ q → byteOf d q = none := fun hq => byteOf_none fun p hp hi => by have := hd p hp; unfold PIn at hi; omega
  by_cases hp : PIn q (a, s)
  · rw [if_pos hp, if_neg, if_pos hp]
    · rfl
    · unfold PIn at hp; simp only at hp; omega
  · rw [if_neg hp, if_neg hp]
    by_cases h2 : (q : Int) < a
    · rw [if_pos (show (0 : Int) ≤ q ∧ (q : Int) < a by omega), if_neg (by omega)]; rfl
    · have h3 : a + s.size ≤ (q : Int) := by unfold PIn at hp; simp only at hp; omega
      rw [if_neg (show ¬((0 : Int) ≤ q ∧ (q : Int) < a) by omega)]
      by_cases h4 : (q : Int) < 1099511627777
      · rw [if_pos (show a + s.size ≤ (q : Int) ∧ (q : Int) < 1099511627777 by omega)]; simp
      · rw [if_neg (show ¬(a + s.size ≤ (q : Int) ∧ (q : Int) < 1099511627777) by omega), hn (by omega)]; rfl
theorem wData_wf {d : List Pc} {a : Int} {s : ByteArray} (h : WF d) (h0 : 0 ≤ a) (h1 : 0 < s.size) : WF (wData d a s) := (joinP_ok (wList_wt h h0 h1)).1

/-! ### The code's way: ranges, laid over -/
def xOf (p : Pc) : X := (limN p.1, limN (p.2.size : Int))
def PcOk (p : Pc) : Prop := 0 ≤ p.1 ∧ p.1 + p.2.size ≤ 1099511627776
theorem xOf_ok (p : Pc) : (xOf p).1 ≤ M ∧ (xOf p).2 ≤ M := ⟨limN_le _, limN_le _⟩
theorem xOf_xN {p : Pc} (h : PcOk p) : xOf p = xN p := by
  unfold PcOk at h
  unfold xOf xN limN M
  refine Prod.ext ?_ ?_
  · simp only; omega
  · simp only; omega
theorem map_xOf {l : List Pc} (h : ∀ p ∈ l, PcOk p) : l.map xOf = l.map xN := List.map_congr_left fun p hp => xOf_xN (h p hp)
theorem some_iff {l : List Pc} (h : ∀ p ∈ l, PcOk p) (q : Nat) : (byteOf l q).isSome = true ↔ Mem q (l.map xOf) := by
  rw [byteOf_some, map_xOf h, mem_xN fun p hp => (h p hp).1]
theorem write_lay {d : List Pc} {a : Int} {s : ByteArray} {r : List X} (h : WF d) (hd : ∀ p ∈ d, p.1 + p.2.size ≤ 1099511627776) (h0 : 0 ≤ a) (h1 : 0 < s.size) (h2 : a + s.size ≤ 1099511627776) (hr : IsNorm ((d ++ [(a, s)]).map xOf) r) :
    layP r (d ++ [(a, s)]) = wData d a s := by
  have ok : ∀ p ∈ d ++ [(a, s)], PcOk p := fun p hp => by
    rcases List.mem_append.1 hp with hp | hp
    · exact ⟨(h.1 p hp).1, hd p hp⟩
    · rw [List.mem_singleton.1 hp]; exact ⟨h0, h2⟩
  have hm : ∀ q, Mem q r ↔ (byteOf (d ++ [(a, s)]) q).isSome = true := fun q => by
    rw [hr.2.2.1 q, some_iff ok]
    refine ⟨fun k => k.1, fun k => ⟨k, ?_⟩⟩
    obtain ⟨p, hp, hi⟩ := (mem_xN (fun p hp => (ok p hp).1) q).1 (by rw [← map_xOf ok]; exact k)
    have := (ok p hp).2
    unfold PIn at hi
    unfold M
    omega
  refine wf_ext (layP_wf hr.1 _) (wData_wf h h0 h1) fun q => ?_
  rw [layP_byte hr.1 _ _ (hm q).1, wData_byte h hd h0 h1, byteOf_add]
  by_cases hq : Mem q r
  · rw [if_pos hq]
  · rw [if_neg hq]
    have := fun k => hq ((hm q).2 k)
    rw [byteOf_add] at this
    cases e : (if PIn q (a, s) then some (byteP (a, s) q) else byteOf d q) with
    | none => rfl
    | some b => rw [e] at this; exact absurd rfl this
theorem cut_lay {d : List Pc} {s : Nat} {r : List X} (h : WF d) (hd : ∀ p ∈ d, p.1 + p.2.size ≤ 1099511627776) (hr : IsMeet (d.map xOf) 0 s r) : layP r d = clipP d 0 s := by
  have ok : ∀ p ∈ d, PcOk p := fun p hp => ⟨(h.1 p hp).1, hd p hp⟩
  have hm : ∀ q, Mem q r ↔ (byteOf d q).isSome = true ∧ q < s := fun q => by
    rw [hr.2.2.1 q, some_iff ok]
    refine ⟨fun k => ⟨k.1.1, k.2.2⟩, fun k => ⟨⟨k.1, ?_⟩, by omega, k.2⟩⟩
    obtain ⟨p, hp, hi⟩ := (mem_xN (fun p hp => (ok p hp).1) q).1 (by rw [← map_xOf ok]; exact k.1)
    have := (ok p hp).2
    unfold PIn at hi
    unfold M
    omega
  refine wf_ext (layP_wf hr.1 _) (clipP_wf h _ _) fun q => ?_
  rw [layP_byte hr.1 _ _ fun k => ((hm q).1 k).1, clipP_byte]
  by_cases hq : q < s
  · rw [if_pos (show (0 : Int) ≤ q ∧ (q : Int) < s by omega)]
    by_cases hq' : Mem q r
    · rw [if_pos hq']
    · rw [if_neg hq']
      cases e : byteOf d q with
      | none => rfl
      | some b => exact absurd ((hm q).2 ⟨by rw [e]; rfl, hq⟩) hq'
  · rw [if_neg (show ¬((0 : Int) ≤ q ∧ (q : Int) < s) by omega), if_neg fun k => hq ((hm q).1 k).2]
def sumX : List X → Nat
  | [] => 0
  | x :: r => x.2 + sumX r
theorem sumX_lay (r : List X) (l : List Pc) : sumP (layP r l) = sumX r := by
  induction r with
  | nil => rfl
  | cons z r ih =>
    show (txt l z.1 z.2).size + sumP (layP r l) = _
    rw [txt_size, ih]
    rfl
end Go.Proofs.YtheobpilmphdjaaGreat.Nd
