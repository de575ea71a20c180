/-
  The contract of tree.Norm. The contracts of tree.needed, has.
-/
import Derived.Test.YtgbenepapajieaaGreatTNum
import Derived.Test.YtgbenepapajieaaGreatRow
import Derived.Test.YtgbenepapajieaaGreatTFind
namespace Go.Proofs.YtgbenepapajieaaGreat.Tr
open Go.RowKit
open Go.Proofs.YtgbenepapajieaaGreat.Nd (Nd mayN sumP nodeV NodeAt PcsAt)
open Go.Proofs.YtgbenepapajieaaGreat.Pa (lessB parentB hasParentB lastB underB joinB StrsAt)

def Srt (es r : List Ent) : Prop := r.Perm es ∧ r.Pairwise fun x y => lessB y.1 x.1 = false
/-- The operations: 0, 1, 3, 4 the loads; 2 the sort; 5 the numbers; 6 the variable; 7 the store. -/
structure NI (es : List Ent) (ns : List Nd) (w0 : World) (b : Nat) (vE vN : Value) (c : Nat → Bool) (u4 u15 u16 u17 u18 u19 u20 : Value) (w : World) : Prop where
  q : Q w0 w
  f0 : c 0 = true → u15 = (.pointer (some ⟨b, 0, none⟩))
  l1 : c 1 = true → u16 = vE
  f3 : c 3 = true → u18 = (.pointer (some ⟨b, 1, none⟩))
  l4 : c 4 = true → u19 = vN
  s2 : c 2 = true → c 5 = false → ∃ r, EntsAt w u17 r ∧ Srt es r
  n5 : c 5 = true → ∃ r, Srt es r ∧ TreeOwn w w0.heap.size u20 (numT r ns)
  a6 : c 6 = true → ∃ p c0 c1, u4 = .pointer (some ⟨p, 0, none⟩) ∧ w0.heap.size ≤ p ∧ BoxT w p c0 c1
  o7 : c 7 = true → c 5 = true ∧ c 6 = true
  s7 : c 7 = true → ∃ p ve vn, u4 = .pointer (some ⟨p, 0, none⟩) ∧ u20 = .agg #[ve, vn] ∧ BoxT w p ve vn
section
variable {es : List Ent} {ns : List Nd} {w0 : World} {b : Nat} {vE vN : Value} {c : Nat → Bool} {u4 u15 u16 u17 u18 u19 u20 : Value} {w w' : World}
theorem NI.start (hq : Q w0 w) : NI es ns w0 b vE vN (fun _ => false) u4 u15 u16 u17 u18 u19 u20 w :=
  ⟨hq, fun k => (by cases k), fun k => (by cases k), fun k => (by cases k), fun k => (by cases k), fun k => (by cases k), fun k => (by cases k), fun k => (by cases k), fun k => (by cases k), fun k => (by cases k)⟩
theorem NI.grow (h : NI es ns w0 b vE vN c u4 u15 u16 u17 u18 u19 u20 w) (q : Q w w') : NI es ns w0 b vE vN c u4 u15 u16 u17 u18 u19 u20 w' := by
  refine ⟨h.q.trans q, h.f0, h.l1, h.f3, h.l4, fun k k' => ?_, fun k => ?_, fun k => ?_, h.o7, fun k => ?_⟩
  · obtain ⟨r, h1, h2⟩ := h.s2 k k'
    exact ⟨r, h1.keep q, h2⟩
  · obtain ⟨r, h1, h2⟩ := h.n5 k
    exact ⟨r, h1, h2.keep q⟩
  · obtain ⟨p, c0, c1, e, h1, h2⟩ := h.a6 k
    exact ⟨p, c0, c1, e, h1, h2.keep q⟩
  · obtain ⟨p, ve, vn, e, h1, h2⟩ := h.s7 k
    exact ⟨p, ve, vn, e, h1, h2.keep q⟩
theorem NI.add0 (h : NI es ns w0 b vE vN c u4 u15 u16 u17 u18 u19 u20 w) : NI es ns w0 b vE vN (upon c 0) u4 (.pointer (some ⟨b, 0, none⟩)) u16 u17 u18 u19 u20 w := by
  exact ⟨h.q, fun _ => rfl, fun k => h.l1 (by simpa [upon] using k), fun k => h.f3 (by simpa [upon] using k), fun k => h.l4 (by simpa [upon] using k), fun k k' => h.s2 (by simpa [upon] using k) (by simpa [upon] using k'), fun k => h.n5 (by simpa [upon] using k), fun k => h.a6 (by simpa [upon] using k), fun k => by have := h.o7 (by simpa [upon] using k); simp [upon, this.1, this.2], fun k => h.s7 (by simpa [upon] using k)⟩
theorem NI.add1 (h : NI es ns w0 b vE vN c u4 u15 u16 u17 u18 u19 u20 w) : NI es ns w0 b vE vN (upon c 1) u4 u15 vE u17 u18 u19 u20 w := by
  exact ⟨h.q, fun k => h.f0 (by simpa [upon] using k), fun _ => rfl, fun k => h.f3 (by simpa [upon] using k), fun k => h.l4 (by simpa [upon] using k), fun k k' => h.s2 (by simpa [upon] using k) (by simpa [upon] using k'), fun k => h.n5 (by simpa [upon] using k), fun k => h.a6 (by simpa [upon] using k), fun k => by have := h.o7 (by simpa [upon] using k); simp [upon, this.1, this.2], fun k => h.s7 (by simpa [upon] using k)⟩
theorem NI.add3 (h : NI es ns w0 b vE vN c u4 u15 u16 u17 u18 u19 u20 w) : NI es ns w0 b vE vN (upon c 3) u4 u15 u16 u17 (.pointer (some ⟨b, 1, none⟩)) u19 u20 w := by
  exact ⟨h.q, fun k => h.f0 (by simpa [upon] using k), fun k => h.l1 (by simpa [upon] using k), fun _ => rfl, fun k => h.l4 (by simpa [upon] using k), fun k k' => h.s2 (by simpa [upon] using k) (by simpa [upon] using k'), fun k => h.n5 (by simpa [upon] using k), fun k => h.a6 (by simpa [upon] using k), fun k => by have := h.o7 (by simpa [upon] using k); simp [upon, this.1, this.2], fun k => h.s7 (by simpa [upon] using k)⟩
theorem NI.add4 (h : NI es ns w0 b vE vN c u4 u15 u16 u17 u18 u19 u20 w) : NI es ns w0 b vE vN (upon c 4) u4 u15 u16 u17 u18 vN u20 w := by
  exact ⟨h.q, fun k => h.f0 (by simpa [upon] using k), fun k => h.l1 (by simpa [upon] using k), fun k => h.f3 (by simpa [upon] using k), fun _ => rfl, fun k k' => h.s2 (by simpa [upon] using k) (by simpa [upon] using k'), fun k => h.n5 (by simpa [upon] using k), fun k => h.a6 (by simpa [upon] using k), fun k => by have := h.o7 (by simpa [upon] using k); simp [upon, this.1, this.2], fun k => h.s7 (by simpa [upon] using k)⟩
theorem NI.add2 (h : NI es ns w0 b vE vN c u4 u15 u16 u17 u18 u19 u20 w) (q : Q w w') {v : Value} {r : List Ent} (hr : EntsAt w' v r) (hs : Srt es r) : NI es ns w0 b vE vN (upon c 2) u4 u15 u16 v u18 u19 u20 w' := by
  replace h := h.grow q
  exact ⟨h.q, fun k => h.f0 (by simpa [upon] using k), fun k => h.l1 (by simpa [upon] using k), fun k => h.f3 (by simpa [upon] using k), fun k => h.l4 (by simpa [upon] using k), fun _ _ => ⟨r, hr, hs⟩, fun k => h.n5 (by simpa [upon] using k), fun k => h.a6 (by simpa [upon] using k), fun k => by have := h.o7 (by simpa [upon] using k); simp [upon, this.1, this.2], fun k => h.s7 (by simpa [upon] using k)⟩
theorem NI.add5 (h : NI es ns w0 b vE vN c u4 u15 u16 u17 u18 u19 u20 w) (hc : c 5 = false) (q : Q w w') {v : Value} {r : List Ent} (hs : Srt es r) (hr : TreeOwn w' w0.heap.size v (numT r ns)) : NI es ns w0 b vE vN (upon c 5) u4 u15 u16 u17 u18 u19 v w' := by
  replace h := h.grow q
  exact ⟨h.q, fun k => h.f0 (by simpa [upon] using k), fun k => h.l1 (by simpa [upon] using k), fun k => h.f3 (by simpa [upon] using k), fun k => h.l4 (by simpa [upon] using k), fun k k' => absurd k' (by simp [upon]), fun _ => ⟨r, hs, hr⟩, fun k => h.a6 (by simpa [upon] using k), fun k => absurd (h.o7 (by simpa [upon] using k)).1 (by simp [hc]), fun k => absurd (h.o7 (by simpa [upon] using k)).1 (by simp [hc])⟩
theorem NI.add6 (h : NI es ns w0 b vE vN c u4 u15 u16 u17 u18 u19 u20 w) (hc : c 6 = false) (c0 c1 : Value) : NI es ns w0 b vE vN (upon c 6) (.pointer (some ⟨w.heap.size, 0, none⟩)) u15 u16 u17 u18 u19 u20 (w.alloc (.cells #[c0, c1] 25)) := by
  have hsz := h.q.size
  replace h := h.grow ((Q.refl w).alloc (.cells #[c0, c1] 25))
  exact ⟨h.q, fun k => h.f0 (by simpa [upon] using k), fun k => h.l1 (by simpa [upon] using k), fun k => h.f3 (by simpa [upon] using k), fun k => h.l4 (by simpa [upon] using k), fun k k' => h.s2 (by simpa [upon] using k) (by simpa [upon] using k'), fun k => h.n5 (by simpa [upon] using k), fun _ => ⟨_, c0, c1, rfl, hsz, BoxT.new w c0 c1⟩, fun k => absurd (h.o7 (by simpa [upon] using k)).2 (by simp [hc]), fun k => absurd (h.o7 (by simpa [upon] using k)).2 (by simp [hc])⟩
theorem NI.add7 (h : NI es ns w0 b vE vN c u4 u15 u16 u17 u18 u19 u20 w) (k5 : c 5 = true) (k6 : c 6 = true) {p : Nat} {ve vn c0 c1 : Value} (e4 : u4 = .pointer (some ⟨p, 0, none⟩)) (e20 : u20 = .agg #[ve, vn]) (hp : w0.heap.size ≤ p) (hb : BoxT w p c0 c1) : NI es ns w0 b vE vN (upon c 7) u4 u15 u16 u17 u18 u19 u20 ((w.setCell ⟨p, 0, none⟩ ve).setCell ⟨p, 1, none⟩ vn) := by
  obtain ⟨r, hr, ht⟩ := h.n5 k5
  have hz : BoxT ((w.setCell ⟨p, 0, none⟩ ve).setCell ⟨p, 1, none⟩ vn) p ve vn := (hb.set0 ve).set1 vn
  have tt : Typ [25] w ((w.setCell ⟨p, 0, none⟩ ve).setCell ⟨p, 1, none⟩ vn) := (Typ.set hb (by simp) 0 ve).trans (Typ.set (hb.set0 ve) (by simp) 1 vn)
  exact ⟨q_set (q_set h.q hp 0 ve) hp 1 vn, fun k => h.f0 (by simpa [upon] using k), fun k => h.l1 (by simpa [upon] using k), fun k => h.f3 (by simpa [upon] using k), fun k => h.l4 (by simpa [upon] using k), fun _ k' => absurd k5 (by have : c 5 = false := (by simpa [upon] using k'); simp [this]), fun _ => ⟨r, hr, ht.typ tt (by decide)⟩, fun _ => ⟨p, ve, vn, e4, hp, hz⟩, fun _ => by simp [upon, k5, k6], fun _ => ⟨p, ve, vn, e4, e20, hz⟩⟩
end

def NormPost (t : Tree) (w : World) (e : Ending) (w' : World) : Prop := ∃ v, e = .returned (.tuple #[v, .int .i64 (resC (normT t.1 t.2))]) ∧ TreeOwn w' w.heap.size v (resT (normT t.1 t.2)) ∧ Q w w'
theorem TreeOwn.nil_ (w : World) (B : Nat) : TreeOwn w B (.agg #[.slice none 0 0, .slice none 0 0]) ([], []) := ⟨_, _, [], rfl, OwnR.nil_ _ _ _, OwnR.nil_ _ _ _, rfl, fun x hx => by cases hx⟩
theorem olds_len (o : List Int) (l : List Ent) : (olds o l).length ≤ o.length + l.length := by
  induction l generalizing o with
  | nil => simp [olds]
  | cons e r ih =>
    simp only [olds]
    split
    · have := ih o; simp only [List.length_cons]; omega
    · have := ih (o ++ [e.2]); simp only [List.length_append, List.length_cons, List.length_nil] at *; omega
theorem olds_in (o : List Int) (l : List Ent) : ∀ x ∈ olds o l, x ∈ o ∨ ∃ e ∈ l, e.2 = x := by
  induction l generalizing o with
  | nil => intro x h; exact .inl h
  | cons e r ih =>
    intro x h
    simp only [olds] at h
    split at h
    · rcases ih _ x h with h | ⟨y, hy, rfl⟩
      · exact .inl h
      · exact .inr ⟨y, List.mem_cons_of_mem _ hy, rfl⟩
    · rcases ih _ x h with h | ⟨y, hy, rfl⟩
      · rcases List.mem_append.1 h with h | h
        · exact .inl h
        · exact .inr ⟨e, List.mem_cons_self, (List.mem_singleton.1 h).symm⟩
      · exact .inr ⟨y, List.mem_cons_of_mem _ hy, rfl⟩
theorem Placed.perm {es r : List Ent} {N : Nat} (h : Placed es N) (hp : r.Perm es) : Placed r N := fun e he => h e (hp.mem_iff.1 he)
theorem fits_numT {es r : List Ent} {ns : List Nd} (hf : Fits (es, ns)) (hp : Placed es ns.length) (hr : r.Perm es) : Fits (numT r ns) where
  ents := by
    have := hf.ents
    have := hr.length_eq
    show (numEnts _ r).length ≤ _
    unfold numEnts
    rw [List.length_map]
    simp only at *
    omega
  nodes := by
    have := hf.ents
    have := hr.length_eq
    have := olds_len [] r
    show ((olds [] r).map _).length ≤ _
    rw [List.length_map]
    simp only [List.length_nil] at *
    omega
  path := by
    intro e he
    change e ∈ numEnts _ r at he
    unfold numEnts at he
    obtain ⟨x, hx, rfl⟩ := List.mem_map.1 he
    exact hf.path x (hr.mem_iff.1 hx)
  node := by
    intro n hn
    change n ∈ (olds [] r).map _ at hn
    obtain ⟨k, hk, rfl⟩ := List.mem_map.1 hn
    rcases olds_in [] r k hk with h | ⟨e, he, rfl⟩
    · cases h
    · have h1 := hp e (hr.mem_iff.1 he)
      have : e.2.toNat < ns.length := by omega
      unfold nodeAt
      rw [List.getElem?_eq_getElem this]
      exact hf.node _ (List.getElem_mem this)
set_option maxRecDepth 100000 in
set_option maxHeartbeats 8000000 in
theorem norm_any (v : Value) (t : Tree) (w : World) (h : TreeAt w v t) (hf : Fits t) :
    Calls Tryz.prog 11 #[v] w (NormPost t w) := by
  have HP := Lib.hid (fun w h => placed_any v t w h hf)
  unfold NormPost
  obtain ⟨es, ns⟩ := t
  obtain ⟨ve, vn, rfl, he, hn⟩ := h
  simp only at he hn hf HP ⊢
  have he20 := hf.ents
  have hpa := hf.path
  have hnf := hf.node
  have hnl := hf.nodes
  simp only at he20 hpa hnf hnl
  obtain ⟨A, c, rfl⟩ := he.form
  obtain ⟨B, d, rfl⟩ := hn.form
  have x1 := BoxT.new w (.slice A es.length c) (.slice B ns.length d)
  have y1 := BoxT.new (w.alloc (.cells #[.slice A es.length c, .slice B ns.length d] 25)) (.slice none 0 0) (.slice none 0 0)
  rw [World.size_alloc] at y1
  replace x1 := x1.keep ((Q.refl _).alloc (.cells #[.slice none 0 0, .slice none 0 0] 25))
  have q1 : Q w ((w.alloc (.cells #[.slice A es.length c, .slice B ns.length d] 25)).alloc (.cells #[.slice none 0 0, .slice none 0 0] 25)) := ((Q.refl w).alloc _).alloc _
  have HT : Hid (∀ w', Q w w' → TreeAt w' (.agg #[.slice A es.length c, .slice B ns.length d]) (es, ns)) := fun w' q => ⟨_, _, rfl, he.keep q, hn.keep q⟩
  by_cases h1 : es.length ≤ 100
  · have t1 : decide ((100 : Int) < (es.length : Int)) = false := decide_eq_false (by omega)
    cases h2 : placed es ns
    · rw [h2] at HP
      have EE : Hid (normT es ns = none) := if_neg (by rw [h2]; simp)
      clear h2 h1 he hn
      go_enter Tryz.func11, Tryz.ntmps11
      go_wp2_with fail
      refine (HP.out _ (HT.out _ q1)).mono ?_
      rintro e w2 ⟨rfl, g2⟩
      have y2 := y1.keep g2.q
      have q2 := q1.trans g2.q
      clear y1 x1 q1
      have g2 := y2.soft
      obtain ⟨y0, y0'⟩ := y2.cells
      go_wp2
      have yz : BoxT ((w2.setCell ⟨w.heap.size + 1, 0, none⟩ (.slice none 0 0)).setCell ⟨w.heap.size + 1, 1, none⟩ (.slice none 0 0)) (w.heap.size + 1) (.slice none 0 0) (.slice none 0 0) := (y2.set0 _).set1 _
      have qz : Q w ((w2.setCell ⟨w.heap.size + 1, 0, none⟩ (.slice none 0 0)).setCell ⟨w.heap.size + 1, 1, none⟩ (.slice none 0 0)) := q_set (q_set q2 (Nat.le_succ _) 0 _) (Nat.le_succ _) 1 _
      obtain ⟨z0, z1⟩ := yz.cells
      refine bodyPost_ret (v := .tuple #[.agg #[.slice none 0 0, .slice none 0 0], .int .i64 1]) (by simp [results, Tryz.results11, go_sem, z0, z1]) rfl ?_
      exact ⟨_, by rw [EE.out]; rfl, by rw [EE.out]; exact TreeOwn.nil_ _ _, by first | exact qz | exact q1⟩
    · rw [h2] at HP
      have hpl : Placed es ns.length := fun e he => by
        have := List.all_eq_true.1 h2 e he
        simpa using this
      have EN : Hid (normT es ns = if mayN2 (numT (isort es) ns) = true then some (numT (isort es) ns) else none) := by
        show _ = _
        unfold normT
        split
        · rename_i hh
          rw [if_pos hh.2.2]
        · rename_i hh
          rw [if_neg (fun k => hh ⟨h1, h2, k⟩)]
      have h100 := Lib.hid h1
      clear h2 h1
      go_enter Tryz.func11, Tryz.ntmps11
      go_wp2_with fail
      refine (HP.out _ (HT.out _ q1)).mono ?_
      rintro e w2 ⟨rfl, g2⟩
      have y2 := y1.keep g2.q
      have x2 := x1.keep g2.q
      have q2 := q1.trans g2.q
      have HE2 : Hid (∀ w', Q w2 w' → EntsAt w' (.slice A es.length c) es) := fun w' q => he.keep (q2.trans q)
      have HN2 : Hid (∀ w', Q w2 w' → NodesAt w' (.slice B ns.length d) ns) := fun w' q => hn.keep (q2.trans q)
      clear y1 x1 q1 g2 HP he hn
      obtain ⟨xx0, xx1⟩ := x2.cells
      go_wp2_with fail
      clear xx0 xx1
      have HS : Hid (∀ w', Q w2 w' → Calls Tryz.prog 37 #[.slice A es.length c] w' fun e w'' => ∃ v' r, e = .returned v' ∧ EntsAt w'' v' r ∧ Q w' w'' ∧ Hid (r.Perm es ∧ r.Pairwise fun x y => lessB y.1 x.1 = false)) := fun w' q => sorted_any _ es w' (HE2.out _ q) hpa he20
      have HNu : Hid (∀ w' v' r, Q w2 w' → EntsAt w' v' r → r.Perm es → Calls Tryz.prog 36 #[v', .slice B ns.length d] w' fun e w'' => ∃ v'', e = .returned v'' ∧ TreeOwn w'' w'.heap.size v'' (numT r ns) ∧ Q w' w'') := fun w' v' r q h hr => number_any v' _ r ns w' h (HN2.out _ q) (hpl.perm hr) (by rw [hr.length_eq]; exact he20) hnf
      have mixed : Tryz.prog.follows .mixedOrders = true := by kernel_rfl
      have hfz := Lib.hid hf
      have hplz := Lib.hid hpl
      clear hf hpl hpa hnf
      refine Code.wp_mono (Q := fun e a' w' => match e with | .normal => ∃ (p : Nat) (ve vn u15 u16 u17 u18 u19 : Value), a' = { tmps := #[.agg #[.slice A es.length c, .slice B ns.length d], .pointer (some ⟨w.heap.size, 0, none⟩), .pointer (some ⟨w.heap.size + 1, 0, none⟩), .int .i64 0, .pointer (some ⟨p, 0, none⟩), .pointer (some ⟨w.heap.size, 0, none⟩), .slice A es.length c, .int .i64 es.length, .bool false, .bool false, .agg #[.slice A es.length c, .slice B ns.length d], .bool true, .bool false, .bool false, undef, u15, u16, u17, u18, u19, .agg #[ve, vn], undef, undef, undef, undef, undef], defers := [] } ∧ Q w2 w' ∧ BoxT w' p ve vn ∧ ∃ r, Srt es r ∧ TreeOwn w' w2.heap.size (.agg #[ve, vn]) (numT r ns) | _ => False) ?post ?reg
      case reg =>
        refine wp_region_inv (fun c' a' w' => ∃ u4 u15 u16 u17 u18 u19 u20 : Value, a' = { tmps := #[.agg #[.slice A es.length c, .slice B ns.length d], .pointer (some ⟨w.heap.size, 0, none⟩), .pointer (some ⟨w.heap.size + 1, 0, none⟩), .int .i64 0, u4, .pointer (some ⟨w.heap.size, 0, none⟩), .slice A es.length c, .int .i64 es.length, .bool false, .bool false, .agg #[.slice A es.length c, .slice B ns.length d], .bool true, .bool false, .bool false, undef, u15, u16, u17, u18, u19, u20, undef, undef, undef, undef, undef], defers := [] } ∧ NI es ns w2 w.heap.size (.slice A es.length c) (.slice B ns.length d) c' u4 u15 u16 u17 u18 u19 u20 w') mixed (by kernel_rfl) ?_ ?_ ?_
        · exact ⟨_, _, _, _, _, _, _, rfl, NI.start ((Q.refl w2).drew)⟩
        · rintro c' a' w' i oo ⟨u4, u15, u16, u17, u18, u19, u20, rfl, hI⟩ ho hc hd
          obtain ⟨x0, x1'⟩ := (x2.keep hI.q).cells
          have hi : i < 8 := (Array.getElem?_eq_some_iff.1 ho).1
          match i, hi with
          | 0, _ =>
            cases (show some (_ : Oper) = some oo from ho)
            refine wpOp_step rfl (fun K' hK => ?_)
            rw [if_pos (by rfl)]
            go_simp
            exact hK _ _ ⟨_, _, _, _, _, _, _, rfl, hI.add0⟩
          | 1, _ =>
            cases (show some (_ : Oper) = some oo from ho)
            obtain rfl := hI.f0 (hd { on := 0, ground := .data } (by simp) rfl)
            refine wpOp_step rfl (fun K' hK => ?_)
            rw [if_pos (by rfl)]
            go_simp
            exact hK _ _ ⟨_, _, _, _, _, _, _, rfl, hI.add1⟩
          | 2, _ =>
            cases (show some (_ : Oper) = some oo from ho)
            obtain rfl := hI.l1 (hd { on := 1, ground := .data } (by simp) rfl)
            refine wpOp_step rfl (fun K' hK => ?_)
            rw [if_pos (by rfl)]
            go_simp
            refine (HS.out _ hI.q).mono ?_
            rintro e wa ⟨v', r, rfl, hr, qn, hs⟩
            exact hK _ _ ⟨_, _, _, _, _, _, _, rfl, hI.add2 qn hr hs.out⟩
          | 3, _ =>
            cases (show some (_ : Oper) = some oo from ho)
            refine wpOp_step rfl (fun K' hK => ?_)
            rw [if_pos (by rfl)]
            go_simp
            exact hK _ _ ⟨_, _, _, _, _, _, _, rfl, hI.add3⟩
          | 4, _ =>
            cases (show some (_ : Oper) = some oo from ho)
            obtain rfl := hI.f3 (hd { on := 3, ground := .data } (by simp) rfl)
            refine wpOp_step rfl (fun K' hK => ?_)
            rw [if_pos (by rfl)]
            go_simp
            exact hK _ _ ⟨_, _, _, _, _, _, _, rfl, hI.add4⟩
          | 5, _ =>
            cases (show some (_ : Oper) = some oo from ho)
            obtain rfl := hI.l4 (hd { on := 4, ground := .data } (by simp) rfl)
            obtain ⟨r, hr, hs⟩ := hI.s2 (hd { on := 2, ground := .data } (by simp) rfl) hc
            refine wpOp_step rfl (fun K' hK => ?_)
            rw [if_pos (by rfl)]
            go_simp
            refine (HNu.out _ _ r hI.q hr hs.1).mono ?_
            rintro e wa ⟨v', rfl, ht, qn⟩
            exact hK _ _ ⟨_, _, _, _, _, _, _, rfl, hI.add5 hc qn hs (ht.mono hI.q.size)⟩
          | 6, _ =>
            cases (show some (_ : Oper) = some oo from ho)
            refine wpOp_step rfl (fun K' hK => ?_)
            rw [if_pos (by rfl)]
            go_simp
            exact hK _ _ ⟨_, _, _, _, _, _, _, rfl, hI.add6 hc _ _⟩
          | 7, _ =>
            cases (show some (_ : Oper) = some oo from ho)
            have c5 := hd { on := 5, ground := .data } (by simp) rfl
            have c6 := hd { on := 6, ground := .data } (by simp) rfl
            obtain ⟨p, k0, k1, rfl, hp, hb⟩ := hI.a6 c6
            obtain ⟨r, hs, ht⟩ := hI.n5 c5
            obtain ⟨A1, m1, A2, m2, rfl⟩ := ht.form
            obtain ⟨z0, z1⟩ := hb.cells
            have zf := hb.soft
            refine wpOp_step rfl (fun K' hK => ?_)
            rw [if_pos (by rfl)]
            go_simp
            exact hK _ _ ⟨_, _, _, _, _, _, _, rfl, hI.add7 c5 c6 rfl rfl hp hb⟩
        · rintro c' a' w' ⟨u4, u15, u16, u17, u18, u19, u20, rfl, hI⟩ hall
          obtain ⟨p, ve, vn, rfl, rfl, hb⟩ := hI.s7 (hall 7 (by simp))
          obtain ⟨r, hs, ht⟩ := hI.n5 (hall 5 (by simp))
          exact ⟨p, ve, vn, _, _, _, _, _, rfl, hI.q, hb, r, hs, ht⟩
      case post =>
        rintro e a' w4 h
        cases e <;> first | exact h.elim | skip
        obtain ⟨p, ve, vn, u15, u16, u17, u18, u19, rfl, q4, hb, r, hs, ht⟩ := h
        obtain ⟨hm1, hm2⟩ := may_sorted (ns := ns) hs.1 hs.2
        have HM := Lib.hid (may_any _ _ w4 ht.at_ (fits_numT hfz.out hplz.out hs.1))
        obtain ⟨A1, m1, A2, m2, ea⟩ := ht.form
        simp only [Value.agg.injEq, Array.mk.injEq, List.cons.injEq, and_true] at ea
        obtain ⟨rfl, rfl⟩ := ea
        obtain ⟨z0, z1⟩ := hb.cells
        have y4 := y2.keep q4
        have qw4 := q2.trans q4
        have hs2 := q2.size
        clear HS HNu HE2 HN2 mixed y2 x2 hfz hplz
        have EN2 := EN
        rw [← hm1] at EN2
        unfold mayN2 at EN2 hm2
        cases hmm : mayT (numT r ns).1 (numT r ns).2
        · rw [hmm] at HM EN2
          have EE : Hid (normT es ns = none) := EN2
          clear hmm EN EN2 hm2 hm1
          go_wp2_with fail
          refine HM.out.mono ?_
          rintro e w5 ⟨rfl, q5⟩
          have y5 := y4.keep q5
          have q6 := qw4.trans q5
          clear y4 qw4 HM z0 z1 hb
          have g2 := y5.soft
          obtain ⟨y0, y0'⟩ := y5.cells
          go_wp2
          have yz : BoxT ((w5.setCell ⟨w.heap.size + 1, 0, none⟩ (.slice none 0 0)).setCell ⟨w.heap.size + 1, 1, none⟩ (.slice none 0 0)) (w.heap.size + 1) (.slice none 0 0) (.slice none 0 0) := (y5.set0 _).set1 _
          have qz : Q w ((w5.setCell ⟨w.heap.size + 1, 0, none⟩ (.slice none 0 0)).setCell ⟨w.heap.size + 1, 1, none⟩ (.slice none 0 0)) := q_set (q_set q6 (Nat.le_succ _) 0 _) (Nat.le_succ _) 1 _
          obtain ⟨z0, z1⟩ := yz.cells
          refine bodyPost_ret (v := .tuple #[.agg #[.slice none 0 0, .slice none 0 0], .int .i64 1]) (by simp [results, Tryz.results11, go_sem, z0, z1]) rfl ?_
          exact ⟨_, by rw [EE.out]; rfl, by rw [EE.out]; exact TreeOwn.nil_ _ _, by first | exact qz | exact q1⟩
        · rw [hmm] at HM EN2
          rw [← hm2 hmm] at EN2
          have EE : Hid (normT es ns = some (numT r ns)) := EN2
          clear hmm EN EN2 hm2 hm1
          go_wp2_with fail
          refine HM.out.mono ?_
          rintro e w5 ⟨rfl, q5⟩
          have y5 := y4.keep q5
          have q6 := qw4.trans q5
          have ht5 := ht.keep q5
          replace hb := hb.keep q5
          obtain ⟨z0, z1⟩ := hb.cells
          clear y4 qw4 HM ht
          have g2 := y5.soft
          obtain ⟨y0, y0'⟩ := y5.cells
          go_wp2
          have yz : BoxT ((w5.setCell ⟨w.heap.size + 1, 0, none⟩ (.slice A1 (numT r ns).1.length m1)).setCell ⟨w.heap.size + 1, 1, none⟩ (.slice A2 (numT r ns).2.length m2)) (w.heap.size + 1) (.slice A1 (numT r ns).1.length m1) (.slice A2 (numT r ns).2.length m2) := (y5.set0 _).set1 _
          have tt : Typ [25] w5 ((w5.setCell ⟨w.heap.size + 1, 0, none⟩ (.slice A1 (numT r ns).1.length m1)).setCell ⟨w.heap.size + 1, 1, none⟩ (.slice A2 (numT r ns).2.length m2)) := (Typ.set y5 (by simp) 0 _).trans (Typ.set (y5.set0 _) (by simp) 1 _)
          have qz : Q w ((w5.setCell ⟨w.heap.size + 1, 0, none⟩ (.slice A1 (numT r ns).1.length m1)).setCell ⟨w.heap.size + 1, 1, none⟩ (.slice A2 (numT r ns).2.length m2)) := q_set (q_set q6 (Nat.le_succ _) 0 _) (Nat.le_succ _) 1 _
          obtain ⟨v0, v1⟩ := yz.cells
          refine bodyPost_ret (v := .tuple #[.agg #[.slice A1 (numT r ns).1.length m1, .slice A2 (numT r ns).2.length m2], .int .i64 0]) (by simp [results, Tryz.results11, go_sem, v0, v1]) rfl ?_
          exact ⟨_, by rw [EE.out]; rfl, by rw [EE.out]; exact (ht5.typ tt (by decide)).mono hs2, qz⟩
  · have t1 : decide ((100 : Int) < (es.length : Int)) = true := decide_eq_true (by omega)
    have EE : Hid (normT es ns = none) := if_neg (fun k => h1 k.1)
    clear h1 he hn
    go_enter Tryz.func11, Tryz.ntmps11
    clear x1
    have g2 := y1.soft
    obtain ⟨y0, y0'⟩ := y1.cells
    go_wp2
    have yz : BoxT ((((w.alloc (.cells #[.slice A es.length c, .slice B ns.length d] 25)).alloc (.cells #[.slice none 0 0, .slice none 0 0] 25)).setCell ⟨w.heap.size + 1, 0, none⟩ (.slice none 0 0)).setCell ⟨w.heap.size + 1, 1, none⟩ (.slice none 0 0)) (w.heap.size + 1) (.slice none 0 0) (.slice none 0 0) := (y1.set0 _).set1 _
    have qz : Q w ((((w.alloc (.cells #[.slice A es.length c, .slice B ns.length d] 25)).alloc (.cells #[.slice none 0 0, .slice none 0 0] 25)).setCell ⟨w.heap.size + 1, 0, none⟩ (.slice none 0 0)).setCell ⟨w.heap.size + 1, 1, none⟩ (.slice none 0 0)) := q_set (q_set q1 (Nat.le_succ _) 0 _) (Nat.le_succ _) 1 _
    refine bodyPost_ret (v := .tuple #[.agg #[.slice none 0 0, .slice none 0 0], .int .i64 1]) (by simp [results, Tryz.results11, go_sem]) rfl ?_
    exact ⟨_, by rw [EE.out]; rfl, by rw [EE.out]; exact TreeOwn.nil_ _ _, by first | exact qz | exact q1⟩
end Go.Proofs.YtgbenepapajieaaGreat.Tr
namespace Go.Proofs.YtgbenepapajieaaGreat.Tr
open Go.RowKit
open Go.Proofs.YtgbenepapajieaaGreat.Nd (Nd mayN sumP nodeV NodeAt PcsAt)
open Go.Proofs.YtgbenepapajieaaGreat.Pa (lessB parentB hasParentB lastB underB joinB StrsAt)

def needF (p : ByteArray) (t : ByteArray) : Bool := underB p t || underB t p
def needT (p : ByteArray) (tops : List ByteArray) : Bool := tops.any (needF p) || decide (p = ⟨#[]⟩)
theorem any_here {α : Type} {f : α → Bool} {l : List α} {k : Nat} (hk : k < l.length) (h : (l.drop k).any f = l.any f) (h1 : f l[k] = false) : (l.drop (k + 1)).any f = l.any f := by
  rw [← h, List.drop_eq_getElem_cons hk, List.any_cons, h1, Bool.false_or]
theorem any_stop {α : Type} {f : α → Bool} {l : List α} {k : Nat} (hk : k < l.length) (h1 : f l[k] = true) : l.any f = true := List.any_eq_true.2 ⟨_, List.getElem_mem hk, h1⟩
theorem any_end {α : Type} {f : α → Bool} {l : List α} {k : Nat} (hk : l.length ≤ k) (h : (l.drop k).any f = l.any f) : l.any f = false := by
  rw [← h, List.drop_of_length_le hk]
  rfl
theorem empty_eq (p : ByteArray) : p.toList.isEmpty = decide (p = ⟨#[]⟩) := by
  rw [Bool.eq_iff_iff, decide_eq_true_eq, List.isEmpty_iff]
  constructor
  · intro h
    exact str_inj (h.trans (by rw [ByteArray.toList_eq]))
  · rintro rfl
    rw [ByteArray.toList_eq]
set_option maxRecDepth 100000 in
set_option maxHeartbeats 2000000 in
theorem needed_any (p : ByteArray) (v : Value) (l : List ByteArray) (w : World) (h : RowAt cellsS 1 w v l) (hp : p.size ≤ 90000) (hs : ∀ t ∈ l, t.size ≤ 90000) :
    Calls Tryz.prog 43 #[.string p, v] w fun e w' => e = .returned (.bool (needT p l)) ∧ Pa.Q w w' := by
  have ll := h.len
  obtain ⟨A, c, rfl⟩ := h.form
  unfold maxLen at ll
  go_enter Tryz.func43, Tryz.ntmps43
  go_wp2
  refine wp_scope_goto 0 (fun a' w' => ∃ (k : Nat) (u6 u7 u8 u9 u10 u11 u12 u13 u14 u15 u16 u17 u18 u19 u20 u21 u22 u23 u24 u25 u26 u27 : Value), a' = { tmps := #[.string p, .slice A l.length c, undef, undef, .bool false, .int .i64 k, u6, u7, u8, u9, u10, u11, u12, u13, u14, u15, u16, u17, u18, u19, u20, u21, u22, u23, u24, u25, u26, u27], defers := [] } ∧ Pa.Q w w' ∧ k ≤ l.length ∧ Hid ((l.drop k).any (needF p) = l.any (needF p))) (fun a' _ => l.length - (intOf (a'.tmps.getD 5 undef)).toNat) rfl ?_ ?_
  · intro hh
    go_wp2
    go_step3
    rename_i hK
    exact hK _ _ (hh.out _ _ ⟨0, _, _, _, _, _, _, _, _, _, _, _, _, _, _, _, _, _, _, _, _, _, _, rfl, Pa.Q.refl _, by omega, rfl⟩)
  · rintro a' w' ⟨k, u6, u7, u8, u9, u10, u11, u12, u13, u14, u15, u16, u17, u18, u19, u20, u21, u22, u23, u24, u25, u26, u27, rfl, hq, hk, H⟩
    by_cases hlt : k < l.length
    · have t1 : ((k : Int) == (l.length : Int)) = false := beq_eq_false_iff_ne.2 (by omega)
      obtain ⟨g, og, _, ea, _, _, hc⟩ := (h.keep hq.1).at_ (by omega)
      cases ea
      have c1 := hc k hlt 0 _ rfl
      rw [Nat.mul_one, Nat.add_zero] at c1
      have hx := hs _ (List.getElem_mem hlt)
      have Ey : Hid (needF p l[k] = true → needT p l = true) := fun h => by unfold needT; rw [any_stop hlt h]; rfl
      have En : Hid (needF p l[k] = false → (l.drop (k + 1)).any (needF p) = l.any (needF p)) := any_here hlt H.out
      have lt2 : (k : Int) < (l.length : Int) := by omega
      clear hc H h
      generalize l[k] = x at *
      unfold needF at Ey En
      have H1 := Lib.hid (fun w => Pa.under_any p x w (by unfold maxLen; omega) (by unfold maxLen; omega))
      have H2 := Lib.hid (fun w => Pa.under_any x p w (by unfold maxLen; omega) (by unfold maxLen; omega))
      cases h1 : underB p x
      · rw [h1] at H1
        cases h2 : underB x p
        · rw [h2] at H2
          have E := Lib.hid (En.out (by rw [h1, h2]; rfl))
          clear h1 h2 Ey En
          go_wp2_with fail
          refine (H1.out _).mono ?_
          rintro e w1 ⟨rfl, q1⟩
          replace c1 := q1.cell c1
          go_wp2_with fail
          refine (H2.out _).mono ?_
          rintro e w2 ⟨rfl, q2⟩
          go_wp2
          go_step3
          exact ⟨rfl, ⟨k + 1, _, _, _, _, _, _, _, _, _, _, _, _, _, _, _, _, _, _, _, _, _, _, rfl, hq.trans (q1.trans q2), by omega, E⟩, by simp [intOf]; omega⟩
        · rw [h2] at H2
          have E := Lib.hid (Ey.out (by rw [h1, h2]; rfl))
          clear h1 h2 Ey En
          go_wp2_with fail
          refine (H1.out _).mono ?_
          rintro e w1 ⟨rfl, q1⟩
          replace c1 := q1.cell c1
          go_wp2_with fail
          refine (H2.out _).mono ?_
          rintro e w2 ⟨rfl, q2⟩
          go_wp2
          simp only [Exit.jump]
          go_ret
          exact ⟨ret_bool E.out.symm, hq.trans (q1.trans q2)⟩
      · rw [h1] at H1
        have E := Lib.hid (Ey.out (by rw [h1]; rfl))
        clear h1 Ey En H2
        go_wp2_with fail
        refine (H1.out _).mono ?_
        rintro e w1 ⟨rfl, q1⟩
        go_wp2
        simp only [Exit.jump]
        go_ret
        exact ⟨ret_bool E.out.symm, hq.trans q1⟩
    · have t1 : ((k : Int) == (l.length : Int)) = true := beq_iff_eq.2 (by omega)
      have E : Hid (needT p l = p.toList.isEmpty) := by
        show _ = _
        unfold needT
        rw [any_end (by omega) H.out, Bool.false_or, empty_eq]
      clear H h
      go_wp2
      simp only [Exit.jump]
      go_ret
      exact ⟨ret_bool (by rw [E.out]), hq⟩
def foundB (es : List Ent) (t : ByteArray) : Bool := (findE es t).isSome
theorem hasB_eq (es : List Ent) (l : List ByteArray) : hasB es l = l.all (foundB es) := rfl
set_option maxRecDepth 100000 in
set_option maxHeartbeats 2000000 in
theorem has_any (v u : Value) (t : Tree) (l : List ByteArray) (w : World) (h : TreeAt w v t) (hf : Fits t) (hl : RowAt cellsS 1 w u l) :
    Calls Tryz.prog 42 #[v, u] w fun e w' => e = .returned (.bool (hasB t.1 l)) ∧ Grew w w' := by
  have HF0 := Lib.hid (fun p w h => find_any v t p w h)
  obtain ⟨es, ns⟩ := t
  obtain ⟨ve, vn, rfl, he, hn⟩ := h
  simp only at he hn hf ⊢
  have ll := he.len
  have l2 := hn.len
  obtain ⟨A, c, rfl⟩ := he.form
  obtain ⟨B, d, rfl⟩ := hn.form
  unfold maxLen at ll l2
  have lt := hl.len
  obtain ⟨C, k0, rfl⟩ := hl.form
  unfold maxLen at lt
  rw [hasB_eq]
  have HT : Hid (∀ w', Q w w' → TreeAt w' (.agg #[.slice A es.length c, .slice B ns.length d]) (es, ns)) := fun w' q => ⟨_, _, rfl, he.keep q, hn.keep q⟩
  have mixed : Tryz.prog.follows .mixedOrders = true := by kernel_rfl
  clear hf he hn
  go_enter Tryz.func42, Tryz.ntmps42
  go_wp2
  refine wp_scope_goto 0 (fun a' w' => ∃ (b k : Nat) (u6 u7 u8 u9 u10 u11 u12 u13 u14 u15 u16 u17 u18 u19 u20 u21 u22 u23 u24 : Value), a' = { tmps := #[.agg #[.slice A es.length c, .slice B ns.length d], .slice C l.length k0, .pointer (some ⟨b, 0, none⟩), undef, .bool false, .int .i64 k, u6, u7, u8, u9, u10, u11, u12, u13, u14, u15, u16, u17, u18, u19, u20, u21, u22, u23, u24], defers := [] } ∧ Grew w w' ∧ w'.cell? ⟨b, 0, none⟩ = some (.slice A es.length c) ∧ w'.cell? ⟨b, 1, none⟩ = some (.slice B ns.length d) ∧ k ≤ l.length ∧ Hid ((l.drop k).all (foundB es) = l.all (foundB es))) (fun a' _ => l.length - (intOf (a'.tmps.getD 5 undef)).toNat) rfl ?_ ?_
  · intro hh
    go_wp2
    go_step3
    rename_i hK
    exact hK _ _ (hh.out _ _ ⟨w.heap.size, 0, _, _, _, _, _, _, _, _, _, _, _, _, _, _, _, _, _, _, _, rfl, Grew.alloc _ _, (box_at _ _ _ _).1, (box_at _ _ _ _).2, by omega, rfl⟩)
  · rintro a' w' ⟨b, k, u6, u7, u8, u9, u10, u11, u12, u13, u14, u15, u16, u17, u18, u19, u20, u21, u22, u23, u24, rfl, hq, hcb, hcn, hk, H⟩
    by_cases hlt : k < l.length
    · have t1 : ((k : Int) == (l.length : Int)) = false := beq_eq_false_iff_ne.2 (by omega)
      obtain ⟨g, og, _, ea, _, _, hc⟩ := (hl.keep hq.q).at_ (by omega)
      cases ea
      have c1 := hc k hlt 0 _ rfl
      rw [Nat.mul_one, Nat.add_zero] at c1
      have Ey : Hid (foundB es l[k] = true → (l.drop (k + 1)).all (foundB es) = l.all (foundB es)) := all_here hlt H.out
      have En : Hid (foundB es l[k] = false → l.all (foundB es) = false) := all_stop hlt
      have lt2 : (k : Int) < (l.length : Int) := by omega
      have nn2 : (0 : Int) ≤ (k : Int) := by omega
      have wr2 : IntKind.i64.wrap (k : Int) = k := IntWalk.i64_in _ (by omega)
      clear hc H hl
      generalize l[k] = x at *
      have HF := Lib.hid (fun w h => HF0.out x w h)
      have hgb := World.block_lt_of_cell? w' _ c1
      have hgc := World.block_lt_of_cell? w' _ hcb
      have b1 := cell_grown (a := ⟨g, og + k, none⟩) hgb c1
      have b2 := cell_grown (a := ⟨b, 0, none⟩) hgc hcb
      have b3 := cell_grown (a := ⟨b, 1, none⟩) hgc hcn
      unfold foundB at Ey En
      cases hx : findE es x with
      | none =>
        rw [show findE (es, ns).1 x = none from hx] at HF
        have E := Lib.hid (En.out (by rw [hx]; rfl))
        clear hx Ey En
        go_wp2
        (refine wp_region_quiet_grown (by assumption) (by kernel_rfl) ?_; (repeat (go_big_quiet_step ((go_at_call 15; exact Grew.calls (HF.out _ (HT.out _ (Q.grown hq.q _ _))))))); refine wpQuiet_nil ?_; intro _ hw'; obtain ⟨⟨nq, osq⟩, hw2⟩ := hw'; subst hw2)
        go_wp2
        simp only [Exit.jump]
        go_ret
        exact ⟨ret_bool E.out.symm, hq.trans ⟨nq, osq, rfl⟩⟩
      | some z =>
        rw [show findE (es, ns).1 x = some z from hx] at HF
        have E := Lib.hid (Ey.out (by rw [hx]; rfl))
        clear hx Ey En
        go_wp2
        (refine wp_region_quiet_grown (by assumption) (by kernel_rfl) ?_; (repeat (go_big_quiet_step ((go_at_call 15; exact Grew.calls (HF.out _ (HT.out _ (Q.grown hq.q _ _))))))); refine wpQuiet_nil ?_; intro _ hw'; obtain ⟨⟨nq, osq⟩, hw2⟩ := hw'; subst hw2)
        go_wp2
        go_step3
        exact ⟨rfl, ⟨b, k + 1, _, _, _, _, _, _, _, _, _, _, _, _, _, _, _, _, _, _, _, rfl, hq.trans ⟨nq, osq, rfl⟩, b2 _ _, b3 _ _, by omega, E⟩, by simp [intOf]; omega⟩
    · have t1 : ((k : Int) == (l.length : Int)) = true := beq_iff_eq.2 (by omega)
      have E : Hid (l.all (foundB es) = true) := all_end (by omega) H.out
      clear H hl
      go_wp2
      simp only [Exit.jump]
      go_ret
      exact ⟨ret_bool E.out.symm, hq⟩
end Go.Proofs.YtgbenepapajieaaGreat.Tr
