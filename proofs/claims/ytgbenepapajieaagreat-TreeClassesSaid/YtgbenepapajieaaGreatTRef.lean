/-
  The contract of tree.Same. The document's Find, Kids, Class, Total, Alike.
-/
import Derived.Test.YtgbenepapajieaaGreatTNeed
import Derived.Test.YtgbenepapajieaaGreatPRef3
import Derived.Test.YtgbenepapajieaaGreatNRefN
import Derived.Test.YtgbenepapajieaaGreatNTold
import Derived.Test.YtgbenepapajieaaGreatPRef2
namespace Go.Proofs.YtgbenepapajieaaGreat.Tr
open Go.RowKit
open Go.Proofs.YtgbenepapajieaaGreat.Nd (Nd mayN sumP nodeV NodeAt PcsAt)

def sameTT (a b : Tree) : Bool := sameT (normT a.1 a.2) (normT b.1 b.2)
theorem same_none {a b : Tree} (h : normT a.1 a.2 = none) : sameTT a b = false := by unfold sameTT sameT; rw [h]; rfl
theorem same_none' {a b : Tree} (h : normT b.1 b.2 = none) : sameTT a b = false := by unfold sameTT sameT; rw [h]; simp
theorem same_some {a b x y : Tree} (h : normT a.1 a.2 = some x) (k : normT b.1 b.2 = some y) : sameTT a b = (decide (x.1 = y.1) && decide (x.2 = y.2)) := by
  unfold sameTT sameT
  rw [h, k, Bool.eq_iff_iff]
  simp [Prod.ext_iff]
set_option maxRecDepth 100000 in
set_option maxHeartbeats 8000000 in
theorem same_any (v v' : Value) (a b : Tree) (w : World) (h : TreeAt w v a) (h' : TreeAt w v' b) (hf : Fits a) (hf' : Fits b) :
    Calls Tryz.prog 20 #[v, v'] w fun e w' => e = .returned (.bool (sameTT a b)) ∧ Q w w' := by
  have HA : Hid (∀ w', Q w w' → Calls Tryz.prog 11 #[v] w' (NormPost a w')) := fun w' q => norm_any v a w' (h.keep q) hf
  have HB : Hid (∀ w', Q w w' → Calls Tryz.prog 11 #[v'] w' (NormPost b w')) := fun w' q => norm_any v' b w' (h'.keep q) hf'
  have EN := Lib.hid (@same_none a b)
  have EM := Lib.hid (@same_none' a b)
  have ES : Hid (∀ x y : Tree, normT a.1 a.2 = some x → normT b.1 b.2 = some y → sameTT a b = (decide (x.1 = y.1) && decide (x.2 = y.2))) := fun x y h k => same_some h k
  obtain ⟨ve, vn, rfl, he, hn⟩ := h
  obtain ⟨ve', vn', rfl, he', hn'⟩ := h'
  obtain ⟨A, c, rfl⟩ := he.form
  obtain ⟨B, d, rfl⟩ := hn.form
  obtain ⟨A', c', rfl⟩ := he'.form
  obtain ⟨B', d', rfl⟩ := hn'.form
  clear he hn he' hn' hf hf'
  generalize a.1.length = l1 at *
  generalize a.2.length = l2 at *
  generalize b.1.length = l3 at *
  generalize b.2.length = l4 at *
  have b1 := box_at w (.slice A l1 c) (.slice B l2 d) 25
  have b2 := box_at (w.alloc (.cells #[.slice A l1 c, .slice B l2 d] 25)) (.slice A' l3 c') (.slice B' l4 d') 25
  rw [World.size_alloc] at b2
  have q0 : Q w ((w.alloc (.cells #[.slice A l1 c, .slice B l2 d] 25)).alloc (.cells #[.slice A' l3 c', .slice B' l4 d'] 25)) := ((Q.refl w).alloc _).alloc _
  unfold NormPost at HA HB
  generalize hS : sameTT a b = sab at *
  cases hx : normT a.1 a.2 with
  | none =>
    have EE := Lib.hid (EN.out hx)
    rw [hx] at HA
    simp only [resC, resT, Option.isSome_none, Option.getD_none, Bool.false_eq_true, if_false] at HA
    clear hx EN EM ES hS
    generalize resC (normT b.1 b.2) = cb at *
    generalize resT (normT b.1 b.2) = tb at *
    go_enter Tryz.func20, Tryz.ntmps20
    go_wp2_with fail
    refine (HA.out _ q0).mono ?_
    rintro e w1 ⟨x, rfl, tx, q1⟩
    obtain ⟨A1, m1, A2, m2, rfl⟩ := tx.form
    obtain ⟨b3, b4⟩ : w1.cell? ⟨w.heap.size + 1, 0, none⟩ = some (.slice A' l3 c') ∧ w1.cell? ⟨w.heap.size + 1, 1, none⟩ = some (.slice B' l4 d') := ⟨q1.cell b2.1, q1.cell b2.2⟩
    have hlt := World.block_lt_of_cell? w1 _ b3
    go_wp2_with fail
    refine (HB.out _ ((q0.trans q1).alloc _)).mono ?_
    rintro e w2 ⟨y, rfl, ty, q2⟩
    obtain ⟨A3, m3, A4, m4, rfl⟩ := ty.form
    have q3 := ((q0.trans q1).alloc _).trans q2
    go_wp2
    go_ret
    exact ⟨ret_bool EE.out.symm, q3.alloc _⟩
  | some xa =>
    rw [hx] at HA
    simp only [resC, resT, Option.isSome_some, Option.getD_some, if_true] at HA
    cases hy : normT b.1 b.2 with
    | none =>
      have EE := Lib.hid (EM.out hy)
      rw [hy] at HB
      simp only [resC, resT, Option.isSome_none, Option.getD_none, Bool.false_eq_true, if_false] at HB
      clear hx hy EN EM ES hS
      go_enter Tryz.func20, Tryz.ntmps20
      go_wp2_with fail
      refine (HA.out _ q0).mono ?_
      rintro e w1 ⟨x, rfl, tx, q1⟩
      obtain ⟨A1, m1, A2, m2, rfl⟩ := tx.form
      obtain ⟨b3, b4⟩ : w1.cell? ⟨w.heap.size + 1, 0, none⟩ = some (.slice A' l3 c') ∧ w1.cell? ⟨w.heap.size + 1, 1, none⟩ = some (.slice B' l4 d') := ⟨q1.cell b2.1, q1.cell b2.2⟩
      have hlt := World.block_lt_of_cell? w1 _ b3
      go_wp2_with fail
      refine (HB.out _ ((q0.trans q1).alloc _)).mono ?_
      rintro e w2 ⟨y, rfl, ty, q2⟩
      obtain ⟨A3, m3, A4, m4, rfl⟩ := ty.form
      have q3 := ((q0.trans q1).alloc _).trans q2
      go_wp2
      go_ret
      exact ⟨ret_bool EE.out.symm, q3.alloc _⟩
    | some yb =>
      have EE := Lib.hid (ES.out xa yb hx hy)
      rw [hy] at HB
      simp only [resC, resT, Option.isSome_some, Option.getD_some, if_true] at HB
      clear hx hy EN EM ES hS
      obtain ⟨xe, xn⟩ := xa
      obtain ⟨ye, yn⟩ := yb
      simp only at HA HB EE
      cases h1 : decide (xe = ye)
      · rw [h1, Bool.false_and] at EE
        go_enter Tryz.func20, Tryz.ntmps20
        go_wp2_with fail
        refine (HA.out _ q0).mono ?_
        rintro e w1 ⟨x, rfl, tx, q1⟩
        obtain ⟨A1, m1, A2, m2, rfl⟩ := tx.form
        obtain ⟨b3, b4⟩ : w1.cell? ⟨w.heap.size + 1, 0, none⟩ = some (.slice A' l3 c') ∧ w1.cell? ⟨w.heap.size + 1, 1, none⟩ = some (.slice B' l4 d') := ⟨q1.cell b2.1, q1.cell b2.2⟩
        have hlt := World.block_lt_of_cell? w1 _ b3
        go_wp2_with fail
        refine (HB.out _ ((q0.trans q1).alloc _)).mono ?_
        rintro e w2 ⟨y, rfl, ty, q2⟩
        obtain ⟨A3, m3, A4, m4, rfl⟩ := ty.form
        have q3 := ((q0.trans q1).alloc _).trans q2
        obtain ⟨ve1, vn1, ea, ex, nx⟩ := tx.at_
        obtain ⟨ve2, vn2, eb, ey, ny⟩ := ty.at_
        simp only [Value.agg.injEq, Array.mk.injEq, List.cons.injEq, and_true] at ea eb
        obtain ⟨rfl, rfl⟩ := ea
        obtain ⟨rfl, rfl⟩ := eb
        have bz := box_at w1 (.slice A1 xe.length m1) (.slice A2 xn.length m2) 25
        obtain ⟨b5, b6⟩ : w2.cell? ⟨w1.heap.size, 0, none⟩ = some (.slice A1 xe.length m1) ∧ w2.cell? ⟨w1.heap.size, 1, none⟩ = some (.slice A2 xn.length m2) := ⟨q2.cell bz.1, q2.cell bz.2⟩
        have hlt2 := World.block_lt_of_cell? w2 _ b5
        have q4 := ((Q.refl w1).alloc (.cells #[.slice A1 xe.length m1, .slice A2 xn.length m2] 25)).trans q2
        have HEQ : Hid (∀ w', Q w2 w' → Calls Tryz.prog 50 #[.slice A1 xe.length m1, .slice A3 ye.length m3] w' fun e w'' => e = .returned (.bool (decide (xe = ye))) ∧ Q w' w'') := fun w' q => equalEnts_any _ _ xe ye w' ((ex.keep q4).keep q) (ey.keep q)
        have HFQ : Hid (∀ w', Q w2 w' → Calls Tryz.prog 51 #[.slice A2 xn.length m2, .slice A4 yn.length m4, .func (.func 52) #[] #[]] w' fun e w'' => e = .returned (.bool (decide (xn = yn))) ∧ Q w' w'') := fun w' q => equalNodes_any _ _ xn yn w' ((nx.keep q4).keep q) (ny.keep q)
        clear ex nx ey ny tx ty
        have bw := box_at w2 (.slice A3 ye.length m3) (.slice A4 yn.length m4) 25
        rw [h1] at HEQ
        clear h1 HFQ
        go_wp2_with fail
        refine (HEQ.out _ ((Q.refl _).alloc _)).mono ?_
        rintro e w5 ⟨rfl, q5⟩
        go_wp2
        go_ret
        exact ⟨ret_bool EE.out.symm, (q3.alloc _).trans q5⟩
      · rw [h1, Bool.true_and] at EE
        go_enter Tryz.func20, Tryz.ntmps20
        go_wp2_with fail
        refine (HA.out _ q0).mono ?_
        rintro e w1 ⟨x, rfl, tx, q1⟩
        obtain ⟨A1, m1, A2, m2, rfl⟩ := tx.form
        obtain ⟨b3, b4⟩ : w1.cell? ⟨w.heap.size + 1, 0, none⟩ = some (.slice A' l3 c') ∧ w1.cell? ⟨w.heap.size + 1, 1, none⟩ = some (.slice B' l4 d') := ⟨q1.cell b2.1, q1.cell b2.2⟩
        have hlt := World.block_lt_of_cell? w1 _ b3
        go_wp2_with fail
        refine (HB.out _ ((q0.trans q1).alloc _)).mono ?_
        rintro e w2 ⟨y, rfl, ty, q2⟩
        obtain ⟨A3, m3, A4, m4, rfl⟩ := ty.form
        have q3 := ((q0.trans q1).alloc _).trans q2
        obtain ⟨ve1, vn1, ea, ex, nx⟩ := tx.at_
        obtain ⟨ve2, vn2, eb, ey, ny⟩ := ty.at_
        simp only [Value.agg.injEq, Array.mk.injEq, List.cons.injEq, and_true] at ea eb
        obtain ⟨rfl, rfl⟩ := ea
        obtain ⟨rfl, rfl⟩ := eb
        have bz := box_at w1 (.slice A1 xe.length m1) (.slice A2 xn.length m2) 25
        obtain ⟨b5, b6⟩ : w2.cell? ⟨w1.heap.size, 0, none⟩ = some (.slice A1 xe.length m1) ∧ w2.cell? ⟨w1.heap.size, 1, none⟩ = some (.slice A2 xn.length m2) := ⟨q2.cell bz.1, q2.cell bz.2⟩
        have hlt2 := World.block_lt_of_cell? w2 _ b5
        have q4 := ((Q.refl w1).alloc (.cells #[.slice A1 xe.length m1, .slice A2 xn.length m2] 25)).trans q2
        have HEQ : Hid (∀ w', Q w2 w' → Calls Tryz.prog 50 #[.slice A1 xe.length m1, .slice A3 ye.length m3] w' fun e w'' => e = .returned (.bool (decide (xe = ye))) ∧ Q w' w'') := fun w' q => equalEnts_any _ _ xe ye w' ((ex.keep q4).keep q) (ey.keep q)
        have HFQ : Hid (∀ w', Q w2 w' → Calls Tryz.prog 51 #[.slice A2 xn.length m2, .slice A4 yn.length m4, .func (.func 52) #[] #[]] w' fun e w'' => e = .returned (.bool (decide (xn = yn))) ∧ Q w' w'') := fun w' q => equalNodes_any _ _ xn yn w' ((nx.keep q4).keep q) (ny.keep q)
        clear ex nx ey ny tx ty
        have bw := box_at w2 (.slice A3 ye.length m3) (.slice A4 yn.length m4) 25
        rw [h1] at HEQ
        generalize decide (xn = yn) = r at *
        clear h1
        go_wp2_with fail
        refine (HEQ.out _ ((Q.refl _).alloc _)).mono ?_
        rintro e w5 ⟨rfl, q5⟩
        obtain ⟨b7, b8⟩ : w5.cell? ⟨w1.heap.size, 0, none⟩ = some (.slice A1 xe.length m1) ∧ w5.cell? ⟨w1.heap.size, 1, none⟩ = some (.slice A2 xn.length m2) := ⟨q5.cell (((Q.refl _).alloc _).cell b5), q5.cell (((Q.refl _).alloc _).cell b6)⟩
        obtain ⟨b9, b10⟩ := And.intro (q5.cell bw.1) (q5.cell bw.2)
        go_wp2_with fail
        refine (HFQ.out _ (((Q.refl _).alloc _).trans q5)).mono ?_
        rintro e w6 ⟨rfl, q6⟩
        go_wp2
        go_ret
        exact ⟨ret_bool EE.out.symm, ((q3.alloc _).trans q5).trans q6⟩
end Go.Proofs.YtgbenepapajieaaGreat.Tr
namespace Go.Proofs.YtgbenepapajieaaGreat.Tr
open Go.RowKit
open Go.Proofs.YtgbenepapajieaaGreat.Nd (Nd mayN sumP nodeV NodeAt PcsAt)
open Go.Proofs.YtgbenepapajieaaGreat.Pa (lessB parentB hasParentB lastB underB joinB StrsAt)
set_option maxRecDepth 100000 in
set_option maxHeartbeats 2000000 in
theorem rFind_any (v : Value) (t : Tree) (p : ByteArray) (w : World) (h : TreeAt w v t) :
    Calls Tryz.prog 16 #[v, .string p] w fun e w' => e = .returned (.tuple #[.int .i64 ((findE t.1 p).getD 0), .bool (findE t.1 p).isSome]) ∧ Grew w w' := by
  obtain ⟨es, ns⟩ := t
  obtain ⟨ve, vn, rfl, he, hn⟩ := h
  simp only at he hn ⊢
  have ll := he.len
  have l2 := hn.len
  obtain ⟨A, c, rfl⟩ := he.form
  obtain ⟨B, d, rfl⟩ := hn.form
  unfold maxLen at ll l2
  go_enter Tryz.func16, Tryz.ntmps16
  go_wp2
  have bx := box_at w (.slice A es.length c) (.slice B ns.length d) 25
  have g1 : Grew w (w.alloc (.cells #[.slice A es.length c, .slice B ns.length d] 25)) := Grew.alloc _ _
  have hbl : w.heap.size < (w.alloc (.cells #[.slice A es.length c, .slice B ns.length d] 25)).heap.size := by rw [World.size_alloc]; omega
  generalize w.alloc (.cells #[.slice A es.length c, .slice B ns.length d] 25) = w1 at *
  go_loopw [6] (fun i wr => ∃ k : Nat, i = .int .i64 k ∧ k ≤ es.length ∧ wr = w1 ∧ Hid (findE (es.drop k) p = findE es p)) (fun i _ => es.length - (intOf i).toNat)
  case atStart => exact ⟨0, rfl, by omega, rfl, rfl⟩
  case round =>
    obtain ⟨k, rfl, hk, rfl, H⟩ := hrel
    obtain ⟨b0, b1⟩ := bx
    by_cases hlt : k < es.length
    · obtain ⟨g, og, _, ea, _, _, hc⟩ := (he.keep g1.q).at_ (by omega)
      cases ea
      obtain ⟨c1, c2⟩ := hc k hlt
      have En : Hid (es[k].1 ≠ p → findE (es.drop (k + 1)) p = findE es p) := findE_take hlt H.out
      have Ey : Hid (es[k].1 = p → findE es p = some es[k].2) := findE_here hlt H.out
      have lt2 : (k : Int) < (es.length : Int) := by omega
      clear hc H he
      generalize es[k] = x at *
      by_cases hx : x.1 = p
      · have t2 := b_tl hx
        have E := Lib.hid (Ey.out hx)
        clear hx En Ey
        go_wp2
        go_ret2
        exact ⟨ret_find (by rw [E.out]; rfl) (by rw [E.out]; rfl), g1⟩
      · have t2 := b_tln hx
        have E := Lib.hid (En.out hx)
        clear hx En Ey
        go_wp2
        go_roundw
        case rel => exact ⟨k + 1, by go_num, by omega, trivial, E⟩
        case measure => simp [intOf]; omega
    · have E : Hid (findE es p = none) := by
        have := H.out
        rw [List.drop_of_length_le (by omega)] at this
        exact this.symm
      clear H he
      go_wp2
      go_ret2
      exact ⟨ret_find (by rw [E.out]; rfl) (by rw [E.out]; rfl), g1⟩
set_option maxRecDepth 100000 in
set_option maxHeartbeats 2000000 in
theorem rTotal_any (v : Value) (t : Tree) (w : World) (h : TreeAt w v t) (hf : Fits t) :
    Calls Tryz.prog 28 #[v] w fun e w' => e = .returned (.int .i64 (sumN t.2 : Nat)) ∧ Q w w' := by
  obtain ⟨es, ns⟩ := t
  obtain ⟨ve, vn, rfl, he, hn⟩ := h
  simp only at he hn hf ⊢
  have ll := he.len
  have l2 := hn.len
  obtain ⟨A, c, rfl⟩ := he.form
  obtain ⟨B, d, rfl⟩ := hn.form
  unfold maxLen at ll l2
  have hf2 := hf.node
  have hn20 := hf.nodes
  simp only at hf2 hn20
  clear hf he
  go_enter Tryz.func28, Tryz.ntmps28
  go_wp2
  have bx := box_at w (.slice A es.length c) (.slice B ns.length d) 25
  have g1 : Grew w (w.alloc (.cells #[.slice A es.length c, .slice B ns.length d] 25)) := Grew.alloc _ _
  have hbl : w.heap.size < (w.alloc (.cells #[.slice A es.length c, .slice B ns.length d] 25)).heap.size := by rw [World.size_alloc]; omega
  generalize w.alloc (.cells #[.slice A es.length c, .slice B ns.length d] 25) = w1 at *
  go_loopw [3, 4] (fun s i wr => ∃ k m : Nat, i = .int .i64 k ∧ s = .int .i64 (m : Nat) ∧ k ≤ ns.length ∧ m ≤ k * 1000000000 ∧ Q w1 wr ∧ Hid (m = sumN (ns.take k))) (fun _ i _ => ns.length - (intOf i).toNat)
  case atStart => exact ⟨0, 0, rfl, rfl, by omega, by omega, Q.refl _, rfl⟩
  case round =>
    obtain ⟨k, m, rfl, rfl, hk, hm, hq, H⟩ := hrel
    obtain ⟨b0, b1⟩ := And.intro (hq.cell bx.1) (hq.cell bx.2)
    clear bx
    by_cases hlt : k < ns.length
    · obtain ⟨g, og, _, ea, _, _, hc⟩ := (hn.keep (g1.q.trans hq)).at_ (by omega)
      cases ea
      obtain ⟨va, vl, vd, hN, c0, c1, c2, c3, c4, c5, c6, c7, c8, c9, c10, c11⟩ := hc k hlt
      have hx := (hf2 _ (List.getElem_mem hlt)).1.da
      have hb := sumP_le hx
      have E1 : Hid (m + sumP ns[k].data = sumN (ns.take (k + 1))) := (by rw [sumN_take hlt, H.out] : m + sumP ns[k].data = sumN (ns.take (k + 1)))
      clear hc H
      generalize ns[k] = x at *
      have HB := Lib.hid (Nd.rBytes_any _ x wr hN hx)
      unfold nodeV at HB
      have hw : IntKind.i64.wrap ((m : Int) + (sumP x.data : Nat)) = ((m + sumP x.data : Nat) : Int) := by rw [← Int.natCast_add]; exact IntWalk.i64_in _ (by omega)
      have hs2 : m + sumP x.data ≤ (k + 1) * 1000000000 := by omega
      generalize m + sumP x.data = s2 at *
      generalize sumP x.data = s3 at *
      have lt2 : (k : Int) < (ns.length : Int) := by omega
      go_wp2_with fail
      refine HB.out.mono ?_
      rintro e w2 ⟨rfl, q1⟩
      replace q1 := hq.trans q1.q
      clear c0 c1 c2 c3 c4 c5 c6 c7 c8 c9 c10 c11 hN HB b0 b1
      go_wp2
      go_roundw
      case rel => exact ⟨k + 1, s2, by go_num, rfl, by omega, hs2, q1, E1⟩
      case measure => simp [intOf]; omega
    · have E1 : Hid (m = sumN ns) := by
        have := H.out
        rwa [List.take_of_length_le (by omega)] at this
      clear H
      go_wp2
      go_ret
      exact ⟨ret_int (by rw [E1.out]), g1.q.trans hq⟩
/-- Two trees as they stand. -/
def alikeT (a b : Tree) : Bool := decide (a = b)
theorem alike_len {a b : Tree} (h : a.1.length ≠ b.1.length) : alikeT a b = false := decide_eq_false fun e => h (by rw [e])
theorem alike_len' {a b : Tree} (h : a.2.length ≠ b.2.length) : alikeT a b = false := decide_eq_false fun e => h (by rw [e])
theorem alike_ent {es es' : List Ent} {ns ns' : List Nd} {k : Nat} (hk : k < es.length) (hk' : k < es'.length) (h : ¬ es[k] = es'[k]) : alikeT (es, ns) (es', ns') = false := decide_eq_false fun e => by
  obtain ⟨rfl, rfl⟩ := Prod.mk.inj e
  exact h rfl
theorem alike_node {es es' : List Ent} {ns ns' : List Nd} {k : Nat} (hk : k < ns.length) (hk' : k < ns'.length) (h : ¬ ns[k] = ns'[k]) : alikeT (es, ns) (es', ns') = false := decide_eq_false fun e => by
  obtain ⟨rfl, rfl⟩ := Prod.mk.inj e
  exact h rfl
theorem take_more {α : Type} {a b : List α} {k : Nat} (hk : k < a.length) (hk' : k < b.length) (h : a.take k = b.take k) (h1 : a[k] = b[k]) : a.take (k + 1) = b.take (k + 1) := by
  rw [List.take_succ_eq_append_getElem hk, List.take_succ_eq_append_getElem hk', h, h1]
theorem take_done {α : Type} {a b : List α} {k : Nat} (hk : a.length ≤ k) (hl : a.length = b.length) (h : a.take k = b.take k) : a = b := by
  rwa [List.take_of_length_le hk, List.take_of_length_le (by omega)] at h
set_option maxRecDepth 100000 in
set_option maxHeartbeats 8000000 in
theorem alike_any (v v' : Value) (a b : Tree) (w : World) (h : TreeAt w v a) (h' : TreeAt w v' b) :
    Calls Tryz.prog 19 #[v, v'] w fun e w' => e = .returned (.bool (alikeT a b)) ∧ Q w w' := by
  obtain ⟨es, ns⟩ := a
  obtain ⟨es', ns'⟩ := b
  obtain ⟨ve, vn, rfl, he, hn⟩ := h
  obtain ⟨ve', vn', rfl, he', hn'⟩ := h'
  simp only at he hn he' hn' ⊢
  have l1 := he.len
  have l2 := hn.len
  have l3 := he'.len
  have l4 := hn'.len
  obtain ⟨A, c, rfl⟩ := he.form
  obtain ⟨B, d, rfl⟩ := hn.form
  obtain ⟨A', c', rfl⟩ := he'.form
  obtain ⟨B', d', rfl⟩ := hn'.form
  unfold maxLen at l1 l2 l3 l4
  have mixed : Tryz.prog.follows .mixedOrders = true := by kernel_rfl
  have bx := box_at w (.slice A es.length c) (.slice B ns.length d) 25
  have by_ := box_at (w.alloc (.cells #[.slice A es.length c, .slice B ns.length d] 25)) (.slice A' es'.length c') (.slice B' ns'.length d') 25
  rw [World.size_alloc] at by_
  have bz := And.intro (((Q.refl _).alloc (.cells #[.slice A' es'.length c', .slice B' ns'.length d'] 25)).cell bx.1) (((Q.refl _).alloc (.cells #[.slice A' es'.length c', .slice B' ns'.length d'] 25)).cell bx.2)
  have g1 : Q w ((w.alloc (.cells #[.slice A es.length c, .slice B ns.length d] 25)).alloc (.cells #[.slice A' es'.length c', .slice B' ns'.length d'] 25)) := ((Q.refl w).alloc _).alloc _
  clear bx
  by_cases h1 : es.length = es'.length
  · by_cases h2 : ns.length = ns'.length
    · have t1 : ((es.length : Int) != (es'.length : Int)) = false := by rw [bne_eq_false_iff_eq]; omega
      have t2 : ((ns.length : Int) != (ns'.length : Int)) = false := by rw [bne_eq_false_iff_eq]; omega
      have H1 := Lib.hid h1
      have H2 := Lib.hid h2
      clear h1 h2
      go_enter Tryz.func19, Tryz.ntmps19
      go_wp2
      generalize (w.alloc (.cells #[.slice A es.length c, .slice B ns.length d] 25)).alloc (.cells #[.slice A' es'.length c', .slice B' ns'.length d'] 25) = w1 at *
      go_loopw [5] (fun i wr => ∃ k : Nat, i = .int .i64 k ∧ k ≤ es.length ∧ Q w1 wr ∧ Hid (es.take k = es'.take k)) (fun i _ => es.length - (intOf i).toNat)
      case atStart => exact ⟨0, rfl, by omega, Q.refl _, rfl⟩
      case round =>
        obtain ⟨k, rfl, hk, hq, H⟩ := hrel
        obtain ⟨b0, b1⟩ := And.intro (hq.cell bz.1) (hq.cell bz.2)
        obtain ⟨b2, b3⟩ := And.intro (hq.cell by_.1) (hq.cell by_.2)
        by_cases hlt : k < es.length
        · have hlt' : k < es'.length := by have := H1.out; omega
          obtain ⟨ga, oa, _, ea, _, _, hca⟩ := (he.keep (g1.trans hq)).at_ (by omega)
          obtain ⟨gb, ob, _, eb, _, _, hcb⟩ := (he'.keep (g1.trans hq)).at_ (by omega)
          obtain ⟨rfl, -, rfl⟩ := Value.slice.inj ea
          obtain ⟨rfl, -, rfl⟩ := Value.slice.inj eb
          obtain ⟨c1, c2⟩ := hca k hlt
          obtain ⟨c3, c4⟩ := hcb k hlt'
          have En : Hid (¬ es[k] = es'[k] → alikeT (es, ns) (es', ns') = false) := alike_ent hlt hlt'
          have Ey : Hid (es[k] = es'[k] → es.take (k + 1) = es'.take (k + 1)) := take_more hlt hlt' H.out
          have hnq := fun w => neqE es[k] es'[k] w
          unfold aggE at hnq
          have lt2 : (k : Int) < (es.length : Int) := by omega
          have lt3 : (k : Int) < (es'.length : Int) := by omega
          clear hca hcb he he'
          generalize es[k] = x at *
          generalize es'[k] = y at *
          by_cases h1 : x = y
          · rw [decide_eq_true h1] at hnq
            have E1 := Lib.hid (Ey.out h1)
            simp only [Bool.not_true] at hnq
            clear h1 Ey En H
            go_wp2_with fail
            go_quiet (fail)
            go_wp2
            go_roundw
            case rel => exact ⟨k + 1, by go_num, by omega, (hq.drewN _), E1⟩
            case measure => simp [intOf]; omega
          · rw [decide_eq_false h1] at hnq
            have E1 := Lib.hid (En.out h1)
            simp only [Bool.not_false] at hnq
            clear h1 Ey En H
            go_wp2_with fail
            go_quiet (fail)
            go_wp2
            go_ret
            exact ⟨ret_bool E1.out.symm, g1.trans (hq.drewN _)⟩
        · have EE : Hid (es = es') := take_done (by omega) H1.out H.out
          obtain ⟨bb0, bb1⟩ := And.intro b0 b1
          replace g1 := g1.trans hq
          replace bz := And.intro b0 b1
          replace by_ := And.intro b2 b3
          obtain ⟨b0', b1'⟩ := bz
          obtain ⟨b2', b3'⟩ := by_
          have bz := And.intro b0' b1'
          have by_ := And.intro b2' b3'
          clear H hk b0 b1 bb0 bb1 b2 b3 hq he he'
          generalize wr = wq at *
          go_wp2
          go_loopw [6] (fun i wr => ∃ k : Nat, i = .int .i64 k ∧ k ≤ ns.length ∧ Q wq wr ∧ Hid (ns.take k = ns'.take k)) (fun i _ => ns.length - (intOf i).toNat)
          case atStart => exact ⟨0, rfl, by omega, Q.refl _, rfl⟩
          case round =>
            obtain ⟨k, rfl, hk, hq, H⟩ := hrel
            by_cases hlt : k < ns.length
            · have hlt' : k < ns'.length := by have := H2.out; omega
              obtain ⟨ga, oa, _, ea, _, _, hca⟩ := (hn.keep (g1.trans hq)).at_ (by omega)
              obtain ⟨gb, ob, _, eb, _, _, hcb⟩ := (hn'.keep (g1.trans hq)).at_ (by omega)
              obtain ⟨rfl, -, rfl⟩ := Value.slice.inj ea
              obtain ⟨rfl, -, rfl⟩ := Value.slice.inj eb
              obtain ⟨va, vl, vd, hN, c0, c1, c2, c3, c4, c5, c6, c7, c8, c9, c10, c11⟩ := hca k hlt
              obtain ⟨ua, ul, ud, hM, d0, d1, d2, d3, d4, d5, d6, d7, d8, d9, d10, d11⟩ := hcb k hlt'
              have En : Hid (¬ ns[k] = ns'[k] → alikeT (es, ns) (es', ns') = false) := alike_node hlt hlt'
              have Ey : Hid (ns[k] = ns'[k] → ns.take (k + 1) = ns'.take (k + 1)) := take_more hlt hlt' H.out
              have HS : Hid (∀ w', Q wr w' → Calls Tryz.prog 31 #[nodeV ns[k] va vl vd, nodeV ns'[k] ua ul ud] w' fun e w'' => e = .returned (.bool (decide (ns[k] = ns'[k]))) ∧ Q wr w'') := fun w' q => (Nd.sameNRef_any _ _ ns[k] ns'[k] w' (hN.keep q) (hM.keep q)).mono fun e w'' h => ⟨h.1, q.trans h.2⟩
              unfold nodeV at HS
              have lt2 : (k : Int) < (ns.length : Int) := by omega
              have lt3 : (k : Int) < (ns'.length : Int) := by omega
              have nn2 : (0 : Int) ≤ (k : Int) := by omega
              have wr2 : IntKind.i64.wrap (k : Int) = k := IntWalk.i64_in _ (by omega)
              clear hca hcb hn hn' hN hM
              generalize ns[k] = x at *
              generalize ns'[k] = y at *
              obtain ⟨b0, b1⟩ := And.intro (hq.cell bz.1) (hq.cell bz.2)
              obtain ⟨b2, b3⟩ := And.intro (hq.cell by_.1) (hq.cell by_.2)
              have kb1 : ∀ w'', Q wr w'' → w''.cell? ⟨w.heap.size, 1, none⟩ = some (.slice (some ⟨ga, oa, none⟩) ns.length d) := fun w'' q => q.cell b1
              have kb3 : ∀ w'', Q wr w'' → w''.cell? ⟨w.heap.size + 1, 1, none⟩ = some (.slice (some ⟨gb, ob, none⟩) ns'.length d') := fun w'' q => q.cell b3
              have kc0 : ∀ w'', Q wr w'' → w''.cell? ⟨ga, oa + k * 12, none⟩ = some (.int .i64 x.kind) := fun w'' q => q.cell c0
              have kc1 : ∀ w'', Q wr w'' → w''.cell? ⟨ga, oa + k * 12 + 1, none⟩ = some (.int .i64 x.mt.mode) := fun w'' q => q.cell c1
              have kc2 : ∀ w'', Q wr w'' → w''.cell? ⟨ga, oa + k * 12 + 2, none⟩ = some (.int .i64 x.mt.uid) := fun w'' q => q.cell c2
              have kc3 : ∀ w'', Q wr w'' → w''.cell? ⟨ga, oa + k * 12 + 3, none⟩ = some (.int .i64 x.mt.gid) := fun w'' q => q.cell c3
              have kc4 : ∀ w'', Q wr w'' → w''.cell? ⟨ga, oa + k * 12 + 4, none⟩ = some (.int .i64 x.mt.time) := fun w'' q => q.cell c4
              have kc5 : ∀ w'', Q wr w'' → w''.cell? ⟨ga, oa + k * 12 + 5, none⟩ = some (va) := fun w'' q => q.cell c5
              have kc6 : ∀ w'', Q wr w'' → w''.cell? ⟨ga, oa + k * 12 + 6, none⟩ = some (vl) := fun w'' q => q.cell c6
              have kc7 : ∀ w'', Q wr w'' → w''.cell? ⟨ga, oa + k * 12 + 7, none⟩ = some (.int .i64 x.size) := fun w'' q => q.cell c7
              have kc8 : ∀ w'', Q wr w'' → w''.cell? ⟨ga, oa + k * 12 + 8, none⟩ = some (vd) := fun w'' q => q.cell c8
              have kc9 : ∀ w'', Q wr w'' → w''.cell? ⟨ga, oa + k * 12 + 9, none⟩ = some (.string x.target) := fun w'' q => q.cell c9
              have kc10 : ∀ w'', Q wr w'' → w''.cell? ⟨ga, oa + k * 12 + 10, none⟩ = some (.int .i64 x.major) := fun w'' q => q.cell c10
              have kc11 : ∀ w'', Q wr w'' → w''.cell? ⟨ga, oa + k * 12 + 11, none⟩ = some (.int .i64 x.minor) := fun w'' q => q.cell c11
              have kd0 : ∀ w'', Q wr w'' → w''.cell? ⟨gb, ob + k * 12, none⟩ = some (.int .i64 y.kind) := fun w'' q => q.cell d0
              have kd1 : ∀ w'', Q wr w'' → w''.cell? ⟨gb, ob + k * 12 + 1, none⟩ = some (.int .i64 y.mt.mode) := fun w'' q => q.cell d1
              have kd2 : ∀ w'', Q wr w'' → w''.cell? ⟨gb, ob + k * 12 + 2, none⟩ = some (.int .i64 y.mt.uid) := fun w'' q => q.cell d2
              have kd3 : ∀ w'', Q wr w'' → w''.cell? ⟨gb, ob + k * 12 + 3, none⟩ = some (.int .i64 y.mt.gid) := fun w'' q => q.cell d3
              have kd4 : ∀ w'', Q wr w'' → w''.cell? ⟨gb, ob + k * 12 + 4, none⟩ = some (.int .i64 y.mt.time) := fun w'' q => q.cell d4
              have kd5 : ∀ w'', Q wr w'' → w''.cell? ⟨gb, ob + k * 12 + 5, none⟩ = some (ua) := fun w'' q => q.cell d5
              have kd6 : ∀ w'', Q wr w'' → w''.cell? ⟨gb, ob + k * 12 + 6, none⟩ = some (ul) := fun w'' q => q.cell d6
              have kd7 : ∀ w'', Q wr w'' → w''.cell? ⟨gb, ob + k * 12 + 7, none⟩ = some (.int .i64 y.size) := fun w'' q => q.cell d7
              have kd8 : ∀ w'', Q wr w'' → w''.cell? ⟨gb, ob + k * 12 + 8, none⟩ = some (ud) := fun w'' q => q.cell d8
              have kd9 : ∀ w'', Q wr w'' → w''.cell? ⟨gb, ob + k * 12 + 9, none⟩ = some (.string y.target) := fun w'' q => q.cell d9
              have kd10 : ∀ w'', Q wr w'' → w''.cell? ⟨gb, ob + k * 12 + 10, none⟩ = some (.int .i64 y.major) := fun w'' q => q.cell d10
              have kd11 : ∀ w'', Q wr w'' → w''.cell? ⟨gb, ob + k * 12 + 11, none⟩ = some (.int .i64 y.minor) := fun w'' q => q.cell d11
              by_cases hxy : x = y
              · rw [decide_eq_true hxy] at HS
                have E1 := Lib.hid (Ey.out hxy)
                clear hxy Ey En H c0 d0 c1 d1 c2 d2 c3 d3 c4 d4 c5 d5 c6 d6 c7 d7 c8 d8 c9 d9 c10 d10 c11 d11
                go_wp2_with fail
                clear b0 b1 b2 b3
                go_region_held3 (fun w' => Q wr w') (first | assumption | exact Q.drew (Q.refl _) | exact Q.drew (by assumption)) (first
                  | (go_at_call 31; refine (HS.out _ (by assumption)).mono ?_; rintro e wn ⟨rfl, qn⟩))
                all_goals
                  rename_i qn
                  go_wp2
                  go_roundw
                  case rel => exact ⟨k + 1, by go_num, by omega, hq.trans (by first | exact qn | assumption), E1⟩
                  case measure => simp [intOf]; omega
              · rw [decide_eq_false hxy] at HS
                have E1 := Lib.hid (En.out hxy)
                clear hxy Ey En H c0 d0 c1 d1 c2 d2 c3 d3 c4 d4 c5 d5 c6 d6 c7 d7 c8 d8 c9 d9 c10 d10 c11 d11
                go_wp2_with fail
                clear b0 b1 b2 b3
                go_region_held3 (fun w' => Q wr w') (first | assumption | exact Q.drew (Q.refl _) | exact Q.drew (by assumption)) (first
                  | (go_at_call 31; refine (HS.out _ (by assumption)).mono ?_; rintro e wn ⟨rfl, qn⟩))
                all_goals
                  rename_i qn
                  go_wp2
                  go_ret
                  exact ⟨ret_bool E1.out.symm, (g1.trans hq).trans (by first | exact qn | assumption)⟩
            · have EN : Hid (ns = ns') := take_done (by omega) H2.out H.out
              obtain ⟨b0, b1⟩ := And.intro (hq.cell bz.1) (hq.cell bz.2)
              go_wp2
              go_ret
              exact ⟨ret_bool (decide_eq_true (by rw [EE.out, EN.out])).symm, g1.trans hq⟩
    · have t1 : ((es.length : Int) != (es'.length : Int)) = false := by rw [bne_eq_false_iff_eq]; omega
      have t2 : ((ns.length : Int) != (ns'.length : Int)) = true := by rw [bne_iff_ne]; omega
      have EE := Lib.hid (@alike_len' (es, ns) (es', ns') h2)
      clear h1 h2
      go_enter Tryz.func19, Tryz.ntmps19
      go_wp2
      go_ret
      exact ⟨ret_bool EE.out.symm, g1⟩
  · have t1 : ((es.length : Int) != (es'.length : Int)) = true := by rw [bne_iff_ne]; omega
    have EE := Lib.hid (@alike_len (es, ns) (es', ns') h1)
    clear h1
    go_enter Tryz.func19, Tryz.ntmps19
    go_wp2
    go_ret
    exact ⟨ret_bool EE.out.symm, g1⟩
end Go.Proofs.YtgbenepapajieaaGreat.Tr
