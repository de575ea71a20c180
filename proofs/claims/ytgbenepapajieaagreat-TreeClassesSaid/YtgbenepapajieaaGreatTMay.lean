/-
  The contract of tree.numbered. The contracts of tree.directory, housed, May. The contract of tree.May.
-/
import Derived.Test.YtgbenepapajieaaGreatTRise
namespace Go.Proofs.YtgbenepapajieaaGreat.Tr
open Go.RowKit
open Go.Proofs.YtgbenepapajieaaGreat.Nd (Nd mayN sumP nodeV NodeAt PcsAt)
open Go.Proofs.YtgbenepapajieaaGreat.Pa (lessB parentB hasParentB lastB underB joinB StrsAt)

theorem numb_up {ns : List Nd} {es : List Ent} {u k : Nat} (hk : k < es.length) (h : numb ns u (es.drop k) = numb ns 0 es) (h1 : es[k].2 = u) (h2 : u < ns.length) : numb ns (u + 1) (es.drop (k + 1)) = numb ns 0 es := by
  rw [← h, List.drop_eq_getElem_cons hk]
  simp only [numb]
  rw [if_pos ⟨h1, h2⟩]
theorem numb_on {ns : List Nd} {es : List Ent} {u k : Nat} (hk : k < es.length) (h : numb ns u (es.drop k) = numb ns 0 es) (h1 : 0 ≤ es[k].2) (h2 : es[k].2 < u) (h3 : isd ns es[k].2.toNat = false) : numb ns u (es.drop (k + 1)) = numb ns 0 es := by
  rw [← h, List.drop_eq_getElem_cons hk]
  simp only [numb]
  rw [if_neg (by omega), if_neg (by rw [h3]; simp; omega)]
theorem numb_no {ns : List Nd} {es : List Ent} {u k : Nat} (hk : k < es.length) (h : numb ns u (es.drop k) = numb ns 0 es) (h1 : ¬ (es[k].2 = u ∧ u < ns.length)) (h2 : es[k].2 < 0 ∨ (u : Int) ≤ es[k].2 ∨ isd ns es[k].2.toNat = true) : numE es ns = false := by
  rw [List.drop_eq_getElem_cons hk] at h
  simp only [numb] at h
  rw [if_neg h1, if_pos h2] at h
  unfold numE
  rw [← h]
  rfl
theorem numb_end {ns : List Nd} {es : List Ent} {u k : Nat} (hk : es.length ≤ k) (h : numb ns u (es.drop k) = numb ns 0 es) : numE es ns = ((u : Int) == (ns.length : Int)) := by
  rw [List.drop_of_length_le hk] at h
  unfold numE
  rw [← h, Bool.eq_iff_iff]
  simp [numb]
  omega
theorem isd_at {ns : List Nd} {k : Nat} (hk : k < ns.length) : isd ns k = (ns[k].kind == 1) := by
  unfold isd
  rw [List.getElem?_eq_getElem hk]
set_option maxRecDepth 100000 in
set_option maxHeartbeats 3000000 in
theorem numbered_any (v : Value) (t : Tree) (w : World) (h : TreeAt w v t) (hf : Fits t) :
    Calls Tryz.prog 45 #[v] w fun e w' => e = .returned (.bool (numE t.1 t.2)) ∧ Grew w w' := by
  obtain ⟨es, ns⟩ := t
  obtain ⟨ve, vn, rfl, he, hn⟩ := h
  simp only at he hn hf ⊢
  have ll := he.len
  have l2 := hn.len
  obtain ⟨A, c, rfl⟩ := he.form
  obtain ⟨B, d, rfl⟩ := hn.form
  unfold maxLen at ll l2
  have he20 := hf.ents
  have hn20 := hf.nodes
  simp only at he20 hn20
  clear hf
  go_enter Tryz.func45, Tryz.ntmps45
  go_wp2
  refine wp_scope_goto 0 (fun a' w' => ∃ (b k u : Nat) (u5 u6 u7 u8 u9 u10 u11 u12 u13 u14 u15 u16 u17 u18 u19 u20 u21 u22 u23 u24 u25 u26 u27 u28 u29 u30 u31 u32 u33 u34 u35 u36 u37 u38 u39 u40 u41 u42 u43 u44 u45 u46 u47 u48 u49 u50 u51 u52 u53 : Value), a' = { tmps := #[.agg #[.slice A es.length c, .slice B ns.length d], .pointer (some ⟨b, 0, none⟩), .bool false, .int .i64 k, .int .i64 (u : Nat), u5, u6, u7, u8, u9, u10, u11, u12, u13, u14, u15, u16, u17, u18, u19, u20, u21, u22, u23, u24, u25, u26, u27, u28, u29, u30, u31, u32, u33, u34, u35, u36, u37, u38, u39, u40, u41, u42, u43, u44, u45, u46, u47, u48, u49, u50, u51, u52, u53], defers := [] } ∧ Grew w w' ∧ w'.cell? ⟨b, 0, none⟩ = some (.slice A es.length c) ∧ w'.cell? ⟨b, 1, none⟩ = some (.slice B ns.length d) ∧ k ≤ es.length ∧ u ≤ ns.length ∧ u ≤ k ∧ Hid (numb ns u (es.drop k) = numb ns 0 es)) (fun a' _ => es.length - (intOf (a'.tmps.getD 3 undef)).toNat) rfl ?_ ?_
  · intro hh
    go_wp2
    go_step3
    rename_i hK
    exact hK _ _ (hh.out _ _ ⟨w.heap.size, 0, 0, _, _, _, _, _, _, _, _, _, _, _, _, _, _, _, _, _, _, _, _, _, _, _, _, _, _, _, _, _, _, _, _, _, _, _, _, _, _, _, _, _, _, _, _, _, _, _, _, _, rfl, Grew.alloc _ _, (box_at _ _ _ _).1, (box_at _ _ _ _).2, by omega, by omega, by omega, rfl⟩)
  · rintro a' w' ⟨b, k, u, u5, u6, u7, u8, u9, u10, u11, u12, u13, u14, u15, u16, u17, u18, u19, u20, u21, u22, u23, u24, u25, u26, u27, u28, u29, u30, u31, u32, u33, u34, u35, u36, u37, u38, u39, u40, u41, u42, u43, u44, u45, u46, u47, u48, u49, u50, u51, u52, u53, rfl, hq, hcb, hcn, hk, hu, huk, H⟩
    by_cases hlt : k < es.length
    · have t1 : ((k : Int) == (es.length : Int)) = false := beq_eq_false_iff_ne.2 (by omega)
      obtain ⟨g, og, _, ea, _, _, hc⟩ := (he.keep hq.q).at_ (by omega)
      cases ea
      obtain ⟨c1, c2⟩ := hc k hlt
      have E1 : Hid (es[k].2 = u → u < ns.length → numb ns (u + 1) (es.drop (k + 1)) = numb ns 0 es) := numb_up hlt H.out
      have E2 : Hid (0 ≤ es[k].2 → es[k].2 < u → isd ns es[k].2.toNat = false → numb ns u (es.drop (k + 1)) = numb ns 0 es) := numb_on hlt H.out
      have E3 : Hid (¬ (es[k].2 = u ∧ u < ns.length) → (es[k].2 < 0 ∨ (u : Int) ≤ es[k].2 ∨ isd ns es[k].2.toNat = true) → numE es ns = false) := numb_no hlt H.out
      have lt2 : (k : Int) < (es.length : Int) := by omega
      clear hc H he
      generalize es[k] = x at *
      obtain ⟨xp, z⟩ := x
      simp only at c1 c2 E1 E2 E3
      by_cases h1 : z = u
      · by_cases h2 : u < ns.length
        · have E := Lib.hid (E1.out h1 h2)
          subst h1
          clear E1 E2 E3
          have t2 : ((u : Int) == (u : Int)) = true := beq_self_eq_true _
          have t3 : decide ((u : Int) < (ns.length : Int)) = true := decide_eq_true (by omega)
          go_wp2
          go_step3
          exact ⟨rfl, ⟨b, k + 1, u + 1, _, _, _, _, _, _, _, _, _, _, _, _, _, _, _, _, _, _, _, _, _, _, _, _, _, _, _, _, _, _, _, _, _, _, _, _, _, _, _, _, _, _, _, _, _, _, _, _, _, rfl, hq, hcb, hcn, by omega, by omega, by omega, E⟩, by simp [intOf]; omega⟩
        · have E := Lib.hid (E3.out (fun h => h2 h.2) (.inr (.inl (by omega))))
          subst h1
          clear E1 E2 E3
          have t2 : ((u : Int) == (u : Int)) = true := beq_self_eq_true _
          have t3 : decide ((u : Int) < (ns.length : Int)) = false := decide_eq_false (by omega)
          have t4 : decide ((u : Int) < 0) = false := decide_eq_false (by omega)
          have t5 : decide ((u : Int) ≤ (u : Int)) = true := decide_eq_true (by omega)
          go_wp2
          simp only [Exit.jump]
          go_ret
          exact ⟨ret_bool E.out.symm, hq⟩
      · have t2 : (z == (u : Int)) = false := beq_eq_false_iff_ne.2 h1
        by_cases h3 : z < 0
        · have E := Lib.hid (E3.out (fun h => h1 h.1) (.inl h3))
          have t3 : decide (z < 0) = true := decide_eq_true h3
          clear E1 E2 E3 h1
          go_wp2
          simp only [Exit.jump]
          go_ret
          exact ⟨ret_bool E.out.symm, hq⟩
        · have t3 : decide (z < 0) = false := decide_eq_false h3
          by_cases h4 : (u : Int) ≤ z
          · have E := Lib.hid (E3.out (fun h => h1 h.1) (.inr (.inl h4)))
            have t4 : decide ((u : Int) ≤ z) = true := decide_eq_true h4
            clear E1 E2 E3 h1
            go_wp2
            simp only [Exit.jump]
            go_ret
            exact ⟨ret_bool E.out.symm, hq⟩
          · obtain ⟨m, rfl⟩ : ∃ m : Nat, z = m := ⟨z.toNat, by omega⟩
            have t4 : decide ((u : Int) ≤ (m : Int)) = false := decide_eq_false h4
            have hm : m < ns.length := by omega
            have lt3 : (m : Int) < (ns.length : Int) := by omega
            have nn3 : (0 : Int) ≤ (m : Int) := by omega
            have wr3 : IntKind.i64.wrap (m : Int) = m := IntWalk.i64_in _ (by omega)
            obtain ⟨gn, on, _, ea, _, _, hc⟩ := (hn.keep hq.q).at_ (by omega)
            cases ea
            obtain ⟨va, vl, vd, hN, k0, -⟩ := hc m hm
            have hi := isd_at hm
            rw [show (m : Int).toNat = m from by simp, hi] at E2 E3
            clear hc hN hn hi
            generalize ns[m].kind = q at *
            by_cases h5 : q = 1
            · have t5 : (q == 1) = true := beq_iff_eq.2 h5
              have E := Lib.hid (E3.out (fun h => h1 h.1) (.inr (.inr t5)))
              clear E1 E2 E3 h1 h5
              go_wp2
              simp only [Exit.jump]
              go_ret
              exact ⟨ret_bool E.out.symm, hq⟩
            · have t5 : (q == 1) = false := beq_eq_false_iff_ne.2 h5
              have E := Lib.hid (E2.out (by omega) (by omega) t5)
              clear E1 E2 E3 h1 h5
              go_wp2
              go_step3
              exact ⟨rfl, ⟨b, k + 1, u, _, _, _, _, _, _, _, _, _, _, _, _, _, _, _, _, _, _, _, _, _, _, _, _, _, _, _, _, _, _, _, _, _, _, _, _, _, _, _, _, _, _, _, _, _, _, _, _, _, rfl, hq, hcb, hcn, by omega, by omega, by omega, E⟩, by simp [intOf]; omega⟩
    · have t1 : ((k : Int) == (es.length : Int)) = true := beq_iff_eq.2 (by omega)
      have E : Hid (numE es ns = ((u : Int) == (ns.length : Int))) := numb_end (by omega) H.out
      clear H he
      go_wp2
      simp only [Exit.jump]
      go_ret
      exact ⟨ret_bool (by rw [E.out]), hq⟩
def placeB (ns : List Nd) (e : Ent) : Bool := decide (0 ≤ e.2) && decide (e.2 < ns.length)
theorem placed_eq (es : List Ent) (ns : List Nd) : placed es ns = es.all (placeB ns) := rfl
set_option maxRecDepth 100000 in
set_option maxHeartbeats 3000000 in
theorem placed_any (v : Value) (t : Tree) (w : World) (h : TreeAt w v t) (hf : Fits t) :
    Calls Tryz.prog 35 #[v] w fun e w' => e = .returned (.bool (placed t.1 t.2)) ∧ Grew w w' := by
  obtain ⟨es, ns⟩ := t
  obtain ⟨ve, vn, rfl, he, hn⟩ := h
  simp only at he hn hf ⊢
  have ll := he.len
  have l2 := hn.len
  obtain ⟨A, c, rfl⟩ := he.form
  obtain ⟨B, d, rfl⟩ := hn.form
  unfold maxLen at ll l2
  have he20 := hf.ents
  have hn20 := hf.nodes
  simp only at he20 hn20
  rw [placed_eq]
  clear hf hn
  go_enter Tryz.func35, Tryz.ntmps35
  go_wp2
  refine wp_scope_goto 0 (fun a' w' => ∃ (b k : Nat) (u4 u5 u6 u7 u8 u9 u10 u11 u12 u13 u14 u15 u16 u17 u18 u19 u20 u21 u22 u23 u24 u25 u26 : Value), a' = { tmps := #[.agg #[.slice A es.length c, .slice B ns.length d], .pointer (some ⟨b, 0, none⟩), .bool false, .int .i64 k, u4, u5, u6, u7, u8, u9, u10, u11, u12, u13, u14, u15, u16, u17, u18, u19, u20, u21, u22, u23, u24, u25, u26], defers := [] } ∧ Grew w w' ∧ w'.cell? ⟨b, 0, none⟩ = some (.slice A es.length c) ∧ w'.cell? ⟨b, 1, none⟩ = some (.slice B ns.length d) ∧ k ≤ es.length ∧ Hid ((es.drop k).all (placeB ns) = es.all (placeB ns))) (fun a' _ => es.length - (intOf (a'.tmps.getD 3 undef)).toNat) rfl ?_ ?_
  · intro hh
    go_wp2
    go_step3
    rename_i hK
    exact hK _ _ (hh.out _ _ ⟨w.heap.size, 0, _, _, _, _, _, _, _, _, _, _, _, _, _, _, _, _, _, _, _, _, _, _, _, rfl, Grew.alloc _ _, (box_at _ _ _ _).1, (box_at _ _ _ _).2, by omega, rfl⟩)
  · rintro a' w' ⟨b, k, u4, u5, u6, u7, u8, u9, u10, u11, u12, u13, u14, u15, u16, u17, u18, u19, u20, u21, u22, u23, u24, u25, u26, rfl, hq, hcb, hcn, hk, H⟩
    by_cases hlt : k < es.length
    · have t1 : ((k : Int) == (es.length : Int)) = false := beq_eq_false_iff_ne.2 (by omega)
      obtain ⟨g, og, _, ea, _, _, hc⟩ := (he.keep hq.q).at_ (by omega)
      cases ea
      obtain ⟨c1, c2⟩ := hc k hlt
      have Ey : Hid (placeB ns es[k] = true → (es.drop (k + 1)).all (placeB ns) = es.all (placeB ns)) := all_here hlt H.out
      have En : Hid (placeB ns es[k] = false → es.all (placeB ns) = false) := all_stop hlt
      have lt2 : (k : Int) < (es.length : Int) := by omega
      clear hc H he
      generalize es[k] = x at *
      obtain ⟨xp, z⟩ := x
      unfold placeB at Ey En
      simp only at c1 c2 Ey En
      by_cases h1 : z < 0
      · have E := Lib.hid (En.out (by rw [decide_eq_false (by omega)]; rfl))
        have t2 : decide (z < 0) = true := decide_eq_true h1
        clear Ey En
        go_wp2
        simp only [Exit.jump]
        go_ret
        exact ⟨ret_bool E.out.symm, hq⟩
      · have t2 : decide (z < 0) = false := decide_eq_false h1
        by_cases h2 : (ns.length : Int) ≤ z
        · have E := Lib.hid (En.out (by rw [decide_eq_false (p := z < _) (by omega), Bool.and_false]))
          have t3 : decide ((ns.length : Int) ≤ z) = true := decide_eq_true h2
          clear Ey En
          go_wp2
          simp only [Exit.jump]
          go_ret
          exact ⟨ret_bool E.out.symm, hq⟩
        · have E := Lib.hid (Ey.out (by rw [decide_eq_true (by omega), decide_eq_true (p := z < _) (by omega)]; rfl))
          have t3 : decide ((ns.length : Int) ≤ z) = false := decide_eq_false h2
          clear Ey En
          go_wp2
          go_step3
          exact ⟨rfl, ⟨b, k + 1, _, _, _, _, _, _, _, _, _, _, _, _, _, _, _, _, _, _, _, _, _, _, _, rfl, hq, hcb, hcn, by omega, E⟩, by simp [intOf]; omega⟩
    · have t1 : ((k : Int) == (es.length : Int)) = true := beq_iff_eq.2 (by omega)
      have E : Hid (es.all (placeB ns) = true) := all_end (by omega) H.out
      clear H he
      go_wp2
      simp only [Exit.jump]
      go_ret
      exact ⟨ret_bool E.out.symm, hq⟩
end Go.Proofs.YtgbenepapajieaaGreat.Tr
namespace Go.Proofs.YtgbenepapajieaaGreat.Tr
open Go.RowKit
open Go.Proofs.YtgbenepapajieaaGreat.Nd (Nd mayN sumP nodeV NodeAt PcsAt)
open Go.Proofs.YtgbenepapajieaaGreat.Pa (lessB parentB hasParentB lastB underB joinB StrsAt)

theorem all_here' {α : Type} {f : α → Bool} {l : List α} {k : Nat} {b : Bool} (hk : k < l.length) (h : (l.drop k).all f = b) (h1 : f l[k] = true) : (l.drop (k + 1)).all f = b := by
  rw [← h, List.drop_eq_getElem_cons hk, List.all_cons, h1, Bool.true_and]
theorem all_stop' {α : Type} {f : α → Bool} {l : List α} {k : Nat} {b : Bool} (hk : k < l.length) (h : (l.drop k).all f = b) (h1 : f l[k] = false) : b = false := by
  rw [← h, List.drop_eq_getElem_cons hk, List.all_cons, h1, Bool.false_and]
theorem all_end' {α : Type} {f : α → Bool} {l : List α} {k : Nat} {b : Bool} (hk : l.length ≤ k) (h : (l.drop k).all f = b) : b = true := by
  rw [← h, List.drop_of_length_le hk]
  rfl
/-- Every entry has a node. -/
def Placed (es : List Ent) (N : Nat) : Prop := ∀ e ∈ es, 0 ≤ e.2 ∧ e.2 < N
theorem numb_placed {ns : List Nd} {es : List Ent} : ∀ {u r : Nat}, u ≤ ns.length → numb ns u es = some r → Placed es ns.length := by
  induction es with
  | nil => intro u r _ _ e he; cases he
  | cons x l ih =>
    intro u r hu h e he
    unfold numb at h
    split at h
    · rename_i hx
      rcases List.mem_cons.1 he with rfl | he
      · omega
      · exact ih (by omega) h e he
    · rename_i hx
      split at h
      · cases h
      · rename_i hy
        rcases List.mem_cons.1 he with rfl | he
        · omega
        · exact ih hu h e he
theorem numE_placed {es : List Ent} {ns : List Nd} (h : numE es ns = true) : Placed es ns.length := numb_placed (Nat.zero_le _) (of_decide_eq_true h)
set_option maxRecDepth 100000 in
set_option maxHeartbeats 2000000 in
theorem directory_any (v : Value) (t : Tree) (p : ByteArray) (w : World) (h : TreeAt w v t) (hp : Placed t.1 t.2.length) :
    Calls Tryz.prog 76 #[v, .string p] w fun e w' => e = .returned (.bool (isDir t.1 t.2 p)) ∧ Grew w w' := by
  have HF := Lib.hid (fun w h => find_any v t p w h)
  obtain ⟨es, ns⟩ := t
  obtain ⟨ve, vn, rfl, he, hn⟩ := h
  simp only at he hn hp ⊢
  have l2 := hn.len
  obtain ⟨A, c, rfl⟩ := he.form
  obtain ⟨B, d, rfl⟩ := hn.form
  unfold maxLen at l2
  have HT : Hid (∀ w', Q w w' → TreeAt w' (.agg #[.slice A es.length c, .slice B ns.length d]) (es, ns)) := fun w' q => ⟨_, _, rfl, he.keep q, hn.keep q⟩
  have bx := box_at w (.slice A es.length c) (.slice B ns.length d) 25
  clear he
  cases hm : findE es p with
  | none =>
    have E : Hid (isDir es ns p = false) := (by unfold isDir; rw [hm] : isDir es ns p = false)
    rw [show findE (es, ns).1 p = none from hm] at HF
    clear hm hp
    go_enter Tryz.func76, Tryz.ntmps76
    go_wp2_with fail
    refine (HF.out _ (HT.out _ ((Q.refl w).alloc _))).mono ?_
    rintro e w1 ⟨rfl, q1⟩
    go_wp2
    go_ret
    exact ⟨ret_bool E.out.symm, (Grew.alloc _ _).trans q1⟩
  | some z =>
    obtain ⟨m, rfl⟩ : ∃ m : Nat, z = m := ⟨z.toNat, by have := hp _ (findE_mem hm); simp only at this; omega⟩
    have hm2 : m < ns.length := by have := hp _ (findE_mem hm); simp only at this; omega
    have E : Hid (isDir es ns p = (ns[m].kind == 1)) := (by unfold isDir; rw [hm]; exact isd_at hm2 : isDir es ns p = (ns[m].kind == 1))
    rw [show findE (es, ns).1 p = some (m : Int) from hm] at HF
    have lt3 : (m : Int) < (ns.length : Int) := by omega
    have nn3 : (0 : Int) ≤ (m : Int) := by omega
    have wr3 : IntKind.i64.wrap (m : Int) = m := IntWalk.i64_in _ (by omega)
    have HN := Lib.hid hn
    obtain ⟨gn, on, _, ea, _, _, hc⟩ := hn.at_ (by omega)
    cases ea
    obtain ⟨va, vl, vd, hN, k0, -⟩ := hc m hm2
    clear hm hp hc hN hn
    go_enter Tryz.func76, Tryz.ntmps76
    go_wp2_with fail
    refine (HF.out _ (HT.out _ ((Q.refl w).alloc _))).mono ?_
    rintro e w1 ⟨rfl, q1⟩
    have k1 := q1.q.cell bx.2
    have k2 := q1.q.cell (((Q.refl w).alloc _).cell k0)
    clear k0 bx
    generalize ns[m].kind = q at *
    go_wp2
    go_ret
    exact ⟨ret_bool E.out.symm, (Grew.alloc _ _).trans q1⟩
set_option maxRecDepth 100000 in
set_option maxHeartbeats 4000000 in
theorem housed_any (v : Value) (t : Tree) (w : World) (h : TreeAt w v t) (hf : Fits t) (hpl : Placed t.1 t.2.length) :
    Calls Tryz.prog 47 #[v] w fun e w' => e = .returned (.bool (housed t.1 t.2)) ∧ Pa.Q w w' := by
  have HD := Lib.hid (fun p w h => directory_any v t p w h hpl)
  obtain ⟨es, ns⟩ := t
  obtain ⟨ve, vn, rfl, he, hn⟩ := h
  simp only at he hn hf ⊢
  have ll := he.len
  have l2 := hn.len
  obtain ⟨A, c, rfl⟩ := he.form
  obtain ⟨B, d, rfl⟩ := hn.form
  unfold maxLen at ll l2
  have he20 := hf.ents
  have hp := hf.path
  simp only at he20 hp
  have HT : Hid (∀ w', Q w w' → TreeAt w' (.agg #[.slice A es.length c, .slice B ns.length d]) (es, ns)) := fun w' q => ⟨_, _, rfl, he.keep q, hn.keep q⟩
  have bx := box_at w (.slice A es.length c) (.slice B ns.length d) 25
  clear hf hn hpl
  cases hd0 : isDir es ns ⟨#[]⟩
  · have E : Hid (housed es ns = false) := (by unfold housed; rw [hd0]; rfl : housed es ns = false)
    have HD0 := Lib.hid (fun w h => HD.out ⟨#[]⟩ w h)
    rw [show isDir (es, ns).1 (es, ns).2 ⟨#[]⟩ = false from hd0] at HD0
    clear hd0 HD
    go_enter Tryz.func47, Tryz.ntmps47
    go_wp2
    go_step3
    go_wp2_with fail
    refine (HD0.out _ (HT.out _ ((Q.refl w).alloc _))).mono ?_
    rintro e w1 ⟨rfl, q1⟩
    go_wp2
    try simp only [Exit.noGoto_ret]
    go_ret
    exact ⟨ret_bool E.out.symm, ((Pa.Q.refl w).alloc _).trans q1.pa⟩
  · have E : Hid (housed es ns = (es.drop 1).all (houseB es ns)) := (by unfold housed; rw [hd0]; rfl : housed es ns = (es.drop 1).all (houseB es ns))
    have HD0 := Lib.hid (fun w h => HD.out ⟨#[]⟩ w h)
    rw [show isDir (es, ns).1 (es, ns).2 ⟨#[]⟩ = true from hd0] at HD0
    have h1 : 1 ≤ es.length := by
      rcases Nat.eq_zero_or_pos es.length with h | h
      · rw [List.eq_nil_of_length_eq_zero h] at hd0; cases hd0
      · exact h
    clear hd0
    go_enter Tryz.func47, Tryz.ntmps47
    go_wp2
    refine wp_scope_goto 0 (fun a' w' => ∃ (b k : Nat) (u4 u5 u6 u7 u8 u9 u10 u11 u12 u13 u14 u15 u16 u17 u18 u19 u20 u21 u22 u23 u24 u25 u26 u27 u28 u29 u30 u31 u32 u33 : Value), a' = { tmps := #[.agg #[.slice A es.length c, .slice B ns.length d], .pointer (some ⟨b, 0, none⟩), .bool false, .int .i64 k, u4, u5, u6, u7, u8, u9, u10, u11, u12, u13, u14, u15, u16, u17, u18, u19, u20, u21, u22, u23, u24, u25, u26, u27, u28, u29, u30, u31, u32, u33], defers := [] } ∧ Pa.Q w w' ∧ w'.cell? ⟨b, 0, none⟩ = some (.slice A es.length c) ∧ w'.cell? ⟨b, 1, none⟩ = some (.slice B ns.length d) ∧ 1 ≤ k ∧ k ≤ es.length ∧ Hid ((es.drop k).all (houseB es ns) = (es.drop 1).all (houseB es ns))) (fun a' _ => es.length - (intOf (a'.tmps.getD 3 undef)).toNat) rfl ?_ ?_
    · intro hh
      go_wp2_with fail
      refine (HD0.out _ (HT.out _ ((Q.refl w).alloc _))).mono ?_
      rintro e w1 ⟨rfl, q1⟩
      go_wp2
      go_step3
      rename_i hK
      exact hK _ _ (hh.out _ _ ⟨w.heap.size, 1, _, _, _, _, _, _, _, _, _, _, _, _, _, _, _, _, _, _, _, _, _, _, _, _, _, _, _, _, _, _, rfl, ((Pa.Q.refl w).alloc _).trans q1.pa, q1.q.cell bx.1, q1.q.cell bx.2, by omega, by omega, rfl⟩)
    · rintro a' w' ⟨b, k, u4, u5, u6, u7, u8, u9, u10, u11, u12, u13, u14, u15, u16, u17, u18, u19, u20, u21, u22, u23, u24, u25, u26, u27, u28, u29, u30, u31, u32, u33, rfl, hq, hcb, hcn, hk1, hk, H⟩
      clear HD0 bx
      by_cases hlt : k < es.length
      · have t1 : ((k : Int) == (es.length : Int)) = false := beq_eq_false_iff_ne.2 (by omega)
        have HTq : Hid (∀ w'', Pa.Q w' w'' → TreeAt w'' (.agg #[.slice A es.length c, .slice B ns.length d]) (es, ns)) := fun w'' q => HT.out _ (hq.trans q).1
        obtain ⟨g, og, _, ea, _, _, hc⟩ := (he.keep hq.1).at_ (by omega)
        cases ea
        obtain ⟨c1, c2⟩ := hc k hlt
        have hx := hp _ (List.getElem_mem hlt)
        have Ey : Hid (houseB es ns es[k] = true → (es.drop (k + 1)).all (houseB es ns) = (es.drop 1).all (houseB es ns)) := all_here' hlt H.out
        have En : Hid (houseB es ns es[k] = false → housed es ns = false) := fun h => E.out.trans (all_stop' hlt H.out h)
        have lt2 : (k : Int) < (es.length : Int) := by omega
        clear hc H he
        generalize es[k] = x at *
        unfold houseB at Ey En
        have HP := Lib.hid (fun w => Pa.parent_any x.1 w (by unfold maxLen; omega))
        cases hh : hasParentB x.1
        · rw [hh] at HP
          have EE := Lib.hid (En.out (by rw [hh]; rfl))
          clear Ey En hh HD
          go_wp2_with fail
          refine (HP.out _).mono ?_
          rintro e w1 ⟨rfl, q1⟩
          go_wp2
          simp only [Exit.jump]
          go_ret
          exact ⟨ret_bool EE.out.symm, hq.trans q1⟩
        · rw [hh] at HP
          have HD1 := Lib.hid (fun w h => HD.out (parentB x.1) w h)
          cases hd : isDir es ns (parentB x.1)
          · rw [show isDir (es, ns).1 (es, ns).2 (parentB x.1) = false from hd] at HD1
            have EE := Lib.hid (En.out (by rw [hh, hd]; rfl))
            clear Ey En hh hd HD
            go_wp2_with fail
            refine (HP.out _).mono ?_
            rintro e w1 ⟨rfl, q1⟩
            replace hcb := q1.cell hcb
            replace hcn := q1.cell hcn
            go_wp2_with fail
            refine (HD1.out _ (HTq.out _ q1)).mono ?_
            rintro e w2 ⟨rfl, q2⟩
            go_wp2
            simp only [Exit.jump]
            go_ret
            exact ⟨ret_bool EE.out.symm, hq.trans (q1.trans q2.pa)⟩
          · rw [show isDir (es, ns).1 (es, ns).2 (parentB x.1) = true from hd] at HD1
            have EE := Lib.hid (Ey.out (by rw [hh, hd]; rfl))
            clear Ey En hh hd HD
            go_wp2_with fail
            refine (HP.out _).mono ?_
            rintro e w1 ⟨rfl, q1⟩
            replace hcb := q1.cell hcb
            replace hcn := q1.cell hcn
            go_wp2_with fail
            refine (HD1.out _ (HTq.out _ q1)).mono ?_
            rintro e w2 ⟨rfl, q2⟩
            replace hcb := q2.q.cell hcb
            replace hcn := q2.q.cell hcn
            clear c1 c2 HTq
            go_wp2
            go_step3
            exact ⟨rfl, ⟨b, k + 1, _, _, _, _, _, _, _, _, _, _, _, _, _, _, _, _, _, _, _, _, _, _, _, _, _, _, _, _, _, _, rfl, hq.trans (q1.trans q2.pa), hcb, hcn, by omega, by omega, EE⟩, by simp [intOf]; omega⟩
      · have t1 : ((k : Int) == (es.length : Int)) = true := beq_iff_eq.2 (by omega)
        have EE : Hid (housed es ns = true) := E.out.trans (all_end' (by omega) H.out)
        clear H he
        go_wp2
        simp only [Exit.jump]
        go_ret
        exact ⟨ret_bool EE.out.symm, hq⟩
end Go.Proofs.YtgbenepapajieaaGreat.Tr
namespace Go.Proofs.YtgbenepapajieaaGreat.Tr
open Go.RowKit
open Go.Proofs.YtgbenepapajieaaGreat.Nd (Nd mayN sumP nodeV NodeAt PcsAt)
open Go.Proofs.YtgbenepapajieaaGreat.Pa (lessB parentB hasParentB lastB underB joinB StrsAt)
set_option maxRecDepth 100000 in
set_option maxHeartbeats 4000000 in
theorem may_any (v : Value) (t : Tree) (w : World) (h : TreeAt w v t) (hf : Fits t) :
    Calls Tryz.prog 17 #[v] w fun e w' => e = .returned (.bool (mayT t.1 t.2)) ∧ Q w w' := by
  have HT : Hid (∀ w', Q w w' → TreeAt w' v t) := fun w' q => h.keep q
  have HR : Hid (∀ w' ve, EntsAt w' ve t.1 → Calls Tryz.prog 44 #[ve] w' fun e w'' => e = .returned (.bool (rise none t.1)) ∧ Q w' w'') := fun w' ve h => (rising_any ve t.1 w' h hf.path).mono fun e w'' k => ⟨k.1, k.2.1⟩
  have HU : Hid (∀ w', TreeAt w' v t → Calls Tryz.prog 45 #[v] w' fun e w'' => e = .returned (.bool (numE t.1 t.2)) ∧ Q w' w'') := fun w' h => (numbered_any v t w' h hf).mono fun e w'' k => ⟨k.1, k.2.q⟩
  have HN : Hid (∀ w' vn, NodesAt w' vn t.2 → Calls Tryz.prog 46 #[vn] w' fun e w'' => e = .returned (.bool (t.2.all mayN)) ∧ Q w' w'') := fun w' vn h => nodes_any vn t.2 w' h hf.node
  have HH : Hid (numE t.1 t.2 = true → ∀ w', TreeAt w' v t → Calls Tryz.prog 47 #[v] w' fun e w'' => e = .returned (.bool (housed t.1 t.2)) ∧ Q w' w'') := fun k w' h => (housed_any v t w' h hf (numE_placed k)).mono fun e w'' k => ⟨k.1, k.2.1⟩
  have E0 : Hid (mayT t.1 t.2 = (decide (t.1.length ≤ 100) && rise none t.1 && numE t.1 t.2 && t.2.all mayN && housed t.1 t.2)) := rfl
  obtain ⟨es, ns⟩ := t
  obtain ⟨ve, vn, rfl, he, hn⟩ := h
  simp only at he hn hf HR HU HN HH E0 ⊢
  have he20 := hf.ents
  simp only at he20
  obtain ⟨A, c, rfl⟩ := he.form
  obtain ⟨B, d, rfl⟩ := hn.form
  have bx := box_at w (.slice A es.length c) (.slice B ns.length d) 25
  have HE : Hid (∀ w', Q w w' → EntsAt w' (.slice A es.length c) es) := fun w' q => he.keep q
  have HM : Hid (∀ w', Q w w' → NodesAt w' (.slice B ns.length d) ns) := fun w' q => hn.keep q
  have q0 : Q w (w.alloc (.cells #[.slice A es.length c, .slice B ns.length d] 25)) := (Q.refl w).alloc _
  clear hf he hn
  generalize mayT es ns = r at *
  by_cases h1 : es.length ≤ 100
  · have t1 : decide ((es.length : Int) ≤ 100) = true := decide_eq_true (by omega)
    have T1 : Hid (decide (es.length ≤ 100) = true) := decide_eq_true h1
    clear h1
    cases v1 : rise none es
    · rw [v1] at HR E0
      have EE : Hid (r = false) := E0.out.trans (by simp)
      clear v1 E0
      go_enter Tryz.func17, Tryz.ntmps17
      go_wp2_with fail
      refine (HR.out _ _ (HE.out _ q0)).mono ?_
      rintro e w1 ⟨rfl, p1⟩
      have q1 := q0.trans p1
      replace bx := And.intro (p1.cell bx.1) (p1.cell bx.2)
      obtain ⟨b1a, b1b⟩ := bx
      have bx := And.intro b1a b1b
      go_wp2
      go_ret
      exact ⟨ret_bool EE.out.symm, q1⟩
    · rw [v1] at HR E0
      clear v1
      cases v2 : numE es ns
      · rw [v2] at HU E0
        have EE : Hid (r = false) := E0.out.trans (by simp)
        clear v2 E0
        go_enter Tryz.func17, Tryz.ntmps17
        go_wp2_with fail
        refine (HR.out _ _ (HE.out _ q0)).mono ?_
        rintro e w1 ⟨rfl, p1⟩
        have q1 := q0.trans p1
        replace bx := And.intro (p1.cell bx.1) (p1.cell bx.2)
        obtain ⟨b1a, b1b⟩ := bx
        have bx := And.intro b1a b1b
        go_wp2_with fail
        refine (HU.out _ (HT.out _ q1)).mono ?_
        rintro e w2 ⟨rfl, p2⟩
        have q2 := q1.trans p2
        replace bx := And.intro (p2.cell bx.1) (p2.cell bx.2)
        obtain ⟨b2a, b2b⟩ := bx
        have bx := And.intro b2a b2b
        go_wp2
        go_ret
        exact ⟨ret_bool EE.out.symm, q2⟩
      · rw [v2] at HU E0
        rw [v2] at HH
        clear v2
        cases v3 : ns.all mayN
        · rw [v3] at HN E0
          have EE : Hid (r = false) := E0.out.trans (by simp)
          clear v3 E0
          go_enter Tryz.func17, Tryz.ntmps17
          go_wp2_with fail
          refine (HR.out _ _ (HE.out _ q0)).mono ?_
          rintro e w1 ⟨rfl, p1⟩
          have q1 := q0.trans p1
          replace bx := And.intro (p1.cell bx.1) (p1.cell bx.2)
          obtain ⟨b1a, b1b⟩ := bx
          have bx := And.intro b1a b1b
          go_wp2_with fail
          refine (HU.out _ (HT.out _ q1)).mono ?_
          rintro e w2 ⟨rfl, p2⟩
          have q2 := q1.trans p2
          replace bx := And.intro (p2.cell bx.1) (p2.cell bx.2)
          obtain ⟨b2a, b2b⟩ := bx
          have bx := And.intro b2a b2b
          go_wp2_with fail
          refine (HN.out _ _ (HM.out _ q2)).mono ?_
          rintro e w3 ⟨rfl, p3⟩
          have q3 := q2.trans p3
          replace bx := And.intro (p3.cell bx.1) (p3.cell bx.2)
          obtain ⟨b3a, b3b⟩ := bx
          have bx := And.intro b3a b3b
          go_wp2
          go_ret
          exact ⟨ret_bool EE.out.symm, q3⟩
        · rw [v3] at HN E0
          clear v3
          cases v4 : housed es ns
          · rw [v4] at HH E0
            have EE : Hid (r = false) := E0.out.trans (by simp)
            clear v4 E0
            go_enter Tryz.func17, Tryz.ntmps17
            go_wp2_with fail
            refine (HR.out _ _ (HE.out _ q0)).mono ?_
            rintro e w1 ⟨rfl, p1⟩
            have q1 := q0.trans p1
            replace bx := And.intro (p1.cell bx.1) (p1.cell bx.2)
            obtain ⟨b1a, b1b⟩ := bx
            have bx := And.intro b1a b1b
            go_wp2_with fail
            refine (HU.out _ (HT.out _ q1)).mono ?_
            rintro e w2 ⟨rfl, p2⟩
            have q2 := q1.trans p2
            replace bx := And.intro (p2.cell bx.1) (p2.cell bx.2)
            obtain ⟨b2a, b2b⟩ := bx
            have bx := And.intro b2a b2b
            go_wp2_with fail
            refine (HN.out _ _ (HM.out _ q2)).mono ?_
            rintro e w3 ⟨rfl, p3⟩
            have q3 := q2.trans p3
            replace bx := And.intro (p3.cell bx.1) (p3.cell bx.2)
            obtain ⟨b3a, b3b⟩ := bx
            have bx := And.intro b3a b3b
            go_wp2_with fail
            refine (HH.out trivial _ (HT.out _ q3)).mono ?_
            rintro e w4 ⟨rfl, p4⟩
            have q4 := q3.trans p4
            replace bx := And.intro (p4.cell bx.1) (p4.cell bx.2)
            obtain ⟨b4a, b4b⟩ := bx
            have bx := And.intro b4a b4b
            go_wp2
            go_ret
            exact ⟨ret_bool EE.out.symm, q4⟩
          · rw [v4] at HH E0
            clear v4
            have EE : Hid (r = true) := E0.out.trans (by rw [T1.out]; rfl)
            clear E0
            go_enter Tryz.func17, Tryz.ntmps17
            go_wp2_with fail
            refine (HR.out _ _ (HE.out _ q0)).mono ?_
            rintro e w1 ⟨rfl, p1⟩
            have q1 := q0.trans p1
            replace bx := And.intro (p1.cell bx.1) (p1.cell bx.2)
            obtain ⟨b1a, b1b⟩ := bx
            have bx := And.intro b1a b1b
            go_wp2_with fail
            refine (HU.out _ (HT.out _ q1)).mono ?_
            rintro e w2 ⟨rfl, p2⟩
            have q2 := q1.trans p2
            replace bx := And.intro (p2.cell bx.1) (p2.cell bx.2)
            obtain ⟨b2a, b2b⟩ := bx
            have bx := And.intro b2a b2b
            go_wp2_with fail
            refine (HN.out _ _ (HM.out _ q2)).mono ?_
            rintro e w3 ⟨rfl, p3⟩
            have q3 := q2.trans p3
            replace bx := And.intro (p3.cell bx.1) (p3.cell bx.2)
            obtain ⟨b3a, b3b⟩ := bx
            have bx := And.intro b3a b3b
            go_wp2_with fail
            refine (HH.out trivial _ (HT.out _ q3)).mono ?_
            rintro e w4 ⟨rfl, p4⟩
            have q4 := q3.trans p4
            replace bx := And.intro (p4.cell bx.1) (p4.cell bx.2)
            obtain ⟨b4a, b4b⟩ := bx
            have bx := And.intro b4a b4b
            go_wp2
            go_ret
            exact ⟨ret_bool EE.out.symm, q4⟩
  · have t1 : decide ((es.length : Int) ≤ 100) = false := decide_eq_false (by omega)
    have EE : Hid (r = false) := E0.out.trans (by rw [decide_eq_false h1]; rfl)
    clear h1 E0
    go_enter Tryz.func17, Tryz.ntmps17
    go_wp2
    go_ret
    exact ⟨ret_bool EE.out.symm, q0⟩
end Go.Proofs.YtgbenepapajieaaGreat.Tr
