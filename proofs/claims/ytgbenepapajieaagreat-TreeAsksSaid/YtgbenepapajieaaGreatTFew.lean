/-
  The contract of the law's Few over trees.
-/
import Derived.Test.YtgbenepapajieaaGreatTNum
import Derived.Test.YtgbenepapajieaaGreatNRefN
namespace Go.Proofs.YtgbenepapajieaaGreat.Tr
open Go.RowKit
open Go.Proofs.YtgbenepapajieaaGreat.Nd (Nd mayN sumP nodeV NodeAt PcsAt fewNd fewNd_any)

def fewT (t : Tree) : Bool := (t.1.all fun e => decide (e.1.size ≤ 120)) && t.2.all fewNd && decide (t.1.length ≤ 30) && decide (t.2.length ≤ 30)
theorem fewT_ent {es : List Ent} {ns : List Nd} {k : Nat} (hk : k < es.length) (h : ¬ es[k].1.size ≤ 120) : fewT (es, ns) = false := by
  unfold fewT
  rw [show (es.all fun e => decide (e.1.size ≤ 120)) = false from List.all_eq_false.2 ⟨_, List.getElem_mem hk, by simpa using h⟩]
  simp
theorem fewT_node {es : List Ent} {ns : List Nd} {k : Nat} (hk : k < ns.length) (h : fewNd ns[k] = false) : fewT (es, ns) = false := by
  unfold fewT
  rw [show ns.all fewNd = false from List.all_eq_false.2 ⟨_, List.getElem_mem hk, by rw [h]; simp⟩]
  simp
theorem fewT_end {es : List Ent} {ns : List Nd} (h1 : ∀ j (h : j < es.length), es[j].1.size ≤ 120) (h2 : ∀ j (h : j < ns.length), fewNd ns[j] = true) : fewT (es, ns) = (decide (es.length ≤ 30) && decide (ns.length ≤ 30)) := by
  unfold fewT
  rw [show (es.all fun e => decide (e.1.size ≤ 120)) = true from List.all_eq_true.2 fun e he => by
    obtain ⟨j, hj, rfl⟩ := List.getElem_of_mem he
    exact decide_eq_true (h1 j hj)]
  rw [show ns.all fewNd = true from List.all_eq_true.2 fun e he => by
    obtain ⟨j, hj, rfl⟩ := List.getElem_of_mem he
    exact h2 j hj]
  rfl
theorem fewT_fits {t : Tree} (h : fewT t = true) : Fits t := by
  unfold fewT at h
  simp only [Bool.and_eq_true, decide_eq_true_eq] at h
  obtain ⟨⟨⟨h1, h2⟩, h3⟩, h4⟩ := h
  refine ⟨by omega, by omega, fun e he => ?_, fun n hn => ?_⟩
  · have := of_decide_eq_true (List.all_eq_true.1 h1 e he)
    omega
  · have := Nd.few_bounds (List.all_eq_true.1 h2 n hn)
    exact ⟨this.1, by have := this.2.2.1; omega⟩
set_option maxRecDepth 100000 in
set_option maxHeartbeats 4000000 in
theorem few_any (v : Value) (t : Tree) (w : World) (h : TreeAt w v t) :
    Calls Tryz.prog 9 #[v] w fun e w' => e = .returned (.bool (fewT t)) ∧ Q w w' := by
  obtain ⟨es, ns⟩ := t
  obtain ⟨ve, vn, rfl, he, hn⟩ := h
  simp only at he hn ⊢
  have ll := he.len
  have l2 := hn.len
  unfold maxLen at ll l2
  obtain ⟨A, c, rfl⟩ := he.form
  obtain ⟨B, d, rfl⟩ := hn.form
  have x1 := BoxT.new w (.slice A es.length c) (.slice B ns.length d)
  have q1 : Q w (w.alloc (.cells #[.slice A es.length c, .slice B ns.length d] 25)) := (Q.refl w).alloc _
  have HE : Hid (∀ w', Q w w' → EntsAt w' (.slice A es.length c) es) := fun w' q => he.keep q
  have HN : Hid (∀ w', Q w w' → NodesAt w' (.slice B ns.length d) ns) := fun w' q => hn.keep q
  clear he hn
  go_enter Tryz.func9, Tryz.ntmps9
  go_wp2
  generalize w.alloc (.cells #[.slice A es.length c, .slice B ns.length d] 25) = w1 at *
  go_loopw [3] (fun iv wr => ∃ i : Nat, iv = .int .i64 i ∧ i ≤ es.length ∧ Q w1 wr ∧ Hid (∀ j (h : j < es.length), j < i → es[j].1.size ≤ 120)) (fun iv _ => es.length - (intOf iv).toNat)
  case atStart => exact ⟨0, rfl, by omega, Q.refl _, fun j _ h => by omega⟩
  case round =>
    obtain ⟨i, rfl, hi, hq, H⟩ := hrel
    obtain ⟨b0, b1⟩ := (x1.keep hq).cells
    by_cases hlt : i < es.length
    · have lt2 : (i : Int) < (es.length : Int) := by omega
      obtain ⟨g, o, _, ea, _, _, hc⟩ := (HE.out _ (q1.trans hq)).at_ (by omega)
      cases ea
      obtain ⟨c1, c2⟩ := hc i hlt
      have En : Hid (¬ es[i].1.size ≤ 120 → fewT (es, ns) = false) := fun h => fewT_ent hlt h
      have Ey : Hid (es[i].1.size ≤ 120 → ∀ j (h : j < es.length), j < i + 1 → es[j].1.size ≤ 120) := fun h j hj hji => by
        by_cases e : j = i
        · subst e; exact h
        · exact H.out j hj (by omega)
      clear hc H
      generalize es[i] = x at *
      obtain ⟨p0, z⟩ := x
      simp only at c1 c2 En Ey
      by_cases hs : p0.size ≤ 120
      · have t1 : decide ((120 : Int) < (p0.size : Int)) = false := decide_eq_false (by omega)
        have E := Lib.hid (Ey.out hs)
        clear En Ey hs
        go_wp2
        go_roundw
        case rel => exact ⟨i + 1, by go_num, by omega, hq, E⟩
        case measure => simp [intOf]; omega
      · have t1 : decide ((120 : Int) < (p0.size : Int)) = true := decide_eq_true (by omega)
        have E := Lib.hid (En.out hs)
        clear En Ey hs
        go_wp2
        go_ret
        exact ⟨ret_bool E.out.symm, q1.trans hq⟩
    · have lt2 : ¬ (i : Int) < (es.length : Int) := by omega
      have H1 : Hid (∀ j (h : j < es.length), es[j].1.size ≤ 120) := fun j hj => H.out j hj (by omega)
      clear H hi hlt
      go_wp2
      replace x1 := x1.keep hq
      replace q1 := q1.trans hq
      clear hq b0 b1 lt2
      generalize hw2 : wr = w2 at *
      clear hw2
      go_loopw [4] (fun iv wr => ∃ k : Nat, iv = .int .i64 k ∧ k ≤ ns.length ∧ Q w2 wr ∧ Hid (∀ j (h : j < ns.length), j < k → fewNd ns[j] = true)) (fun iv _ => ns.length - (intOf iv).toNat)
      case atStart => exact ⟨0, rfl, by omega, Q.refl _, fun j _ h => by omega⟩
      case round =>
        obtain ⟨k, rfl, hk, hq, H⟩ := hrel
        obtain ⟨b0, b1⟩ := (x1.keep hq).cells
        by_cases hlt : k < ns.length
        · have lt2 : (k : Int) < (ns.length : Int) := by omega
          obtain ⟨g, o, _, ea, _, _, hc⟩ := (HN.out _ (q1.trans hq)).at_ (by omega)
          cases ea
          obtain ⟨va, vl, vd, hnode, d0, d1, d2, d3, d4, d5, d6, d7, d8, d9, d10, d11⟩ := hc k hlt
          have HF := Lib.hid (fewNd_any _ ns[k] wr hnode)
          have En : Hid (fewNd ns[k] = false → fewT (es, ns) = false) := fun h => fewT_node hlt h
          have Ey : Hid (fewNd ns[k] = true → ∀ j (h : j < ns.length), j < k + 1 → fewNd ns[j] = true) := fun h j hj hji => by
            by_cases e : j = k
            · subst e; exact h
            · exact H.out j hj (by omega)
          obtain ⟨va', vl', vd', hv, ha, hl, hd⟩ := hnode
          unfold nodeV at hv HF
          simp only [Value.agg.injEq, Array.mk.injEq, List.cons.injEq, true_and, and_true] at hv
          obtain ⟨rfl, rfl, rfl⟩ := hv
          obtain ⟨A1, c1, rfl⟩ := ha.form
          obtain ⟨A2, c2, rfl⟩ := hl.form
          obtain ⟨A3, c3, rfl⟩ := RowAt.form hd
          clear hc H ha hl hd
          generalize ns[k] = x at *
          generalize x.mt.attrs.length = la at *
          generalize x.mt.acl.length = lb at *
          generalize x.data.length = lc at *
          cases hb : fewNd x
          · rw [hb] at HF
            have E := Lib.hid (En.out hb)
            clear En Ey hb
            go_wp2_with fail
            refine (HF.out).mono ?_
            rintro e w5 ⟨rfl, q5⟩
            go_wp2
            go_ret
            exact ⟨ret_bool E.out.symm, (q1.trans hq).trans q5⟩
          · rw [hb] at HF
            have E := Lib.hid (Ey.out hb)
            clear En Ey hb
            go_wp2_with fail
            refine (HF.out).mono ?_
            rintro e w5 ⟨rfl, q5⟩
            go_wp2
            go_roundw
            case rel => exact ⟨k + 1, by go_num, by omega, hq.trans q5, E⟩
            case measure => simp [intOf]; omega
        · have lt2 : ¬ (k : Int) < (ns.length : Int) := by omega
          have E := Lib.hid (fewT_end H1.out (fun j hj => H.out j hj (by omega)))
          clear H H1
          by_cases h1 : es.length ≤ 30
          · have t1 : decide ((es.length : Int) ≤ 30) = true := decide_eq_true (by omega)
            by_cases h2 : ns.length ≤ 30
            · have t2 : decide ((ns.length : Int) ≤ 30) = true := decide_eq_true (by omega)
              have E2 : Hid (fewT (es, ns) = true) := by have := E.out; rw [decide_eq_true h1, decide_eq_true h2] at this; exact this
              clear E h1 h2
              go_wp2
              go_ret
              exact ⟨ret_bool E2.out.symm, q1.trans hq⟩
            · have t2 : decide ((ns.length : Int) ≤ 30) = false := decide_eq_false (by omega)
              have E2 : Hid (fewT (es, ns) = false) := by have := E.out; rw [decide_eq_false h2, Bool.and_false] at this; exact this
              clear E h1 h2
              go_wp2
              go_ret
              exact ⟨ret_bool E2.out.symm, q1.trans hq⟩
          · have t1 : decide ((es.length : Int) ≤ 30) = false := decide_eq_false (by omega)
            have E2 : Hid (fewT (es, ns) = false) := by have := E.out; rw [decide_eq_false h1, Bool.false_and] at this; exact this
            clear E h1
            go_wp2
            go_ret
            exact ⟨ret_bool E2.out.symm, q1.trans hq⟩
end Go.Proofs.YtgbenepapajieaaGreat.Tr
