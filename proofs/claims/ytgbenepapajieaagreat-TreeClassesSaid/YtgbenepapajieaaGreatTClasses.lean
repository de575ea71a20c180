/-
  The walk of TreeClasses.
-/
import Derived.Test.YtgbenepapajieaaGreatTMake
import Derived.Test.YtgbenepapajieaaGreatTLawM
import Derived.Test.YtgbenepapajieaaGreatTTold
import Derived.BigQuiet
namespace Go.Proofs.YtgbenepapajieaaGreat.Tr.Cl
open Go.RowKit
open Go.Proofs.YtgbenepapajieaaGreat.Nd (Nd mayN sumP nodeV NodeAt PcsAt)
open Go.Proofs.YtgbenepapajieaaGreat.Pa (lessB parentB hasParentB lastB underB joinB)

theorem mem_take {l : List ByteArray} {k : Nat} (hk : k < l.length) (p : ByteArray) : decide (p ∈ l.take (k + 1)) = (decide (p ∈ l.take k) || decide (l[k] = p)) := by
  rw [List.take_succ_eq_append_getElem hk, Bool.eq_iff_iff]
  simp only [List.mem_append, List.mem_singleton, decide_eq_true_eq, Bool.or_eq_true]
  exact or_congr_right ⟨fun h => h.symm, fun h => h.symm⟩
set_option maxRecDepth 100000 in
set_option maxHeartbeats 8000000 in
theorem walk (v : Value) (l : List Int) (w : World) (h : RowAt cellsI 1 w v l) : Calls Tryz.prog 6 #[v] w fun e w' => e = .returned (.bool true) ∧ Q w w' := by
  have mixed : Tryz.prog.follows .mixedOrders = true := by kernel_rfl
  go_enter Tryz.func6, Tryz.ntmps6
  go_wp2_with fail
  refine (make_any v l _ h).mono ?_
  rintro e w1 ⟨v1, ⟨es, ns⟩, rfl, ht, hm, hf, q1⟩
  simp only at hm hf
  obtain ⟨ve, vn, rfl, he, hn⟩ := ht
  simp only at he hn
  obtain ⟨A1, c1, rfl⟩ := he.form
  obtain ⟨A2, c2, rfl⟩ := hn.form
  have hself := norm_self hm
  have hro := Lib.hid hself.2.2
  have hon := Lib.hid hself.2.1.once
  have hbx := BoxT.new w1 (.slice A1 es.length c1) (.slice A2 ns.length c2)
  have q2 : Q w (w1.alloc (.cells #[.slice A1 es.length c1, .slice A2 ns.length c2] 25)) := q1.alloc _
  have HE : Hid (∀ w', Q (w1.alloc (.cells #[.slice A1 es.length c1, .slice A2 ns.length c2] 25)) w' → EntsAt w' (.slice A1 es.length c1) es) := fun w' q => he.keep (((Q.refl w1).alloc _).trans q)
  have HT : Hid (∀ w', Q (w1.alloc (.cells #[.slice A1 es.length c1, .slice A2 ns.length c2] 25)) w' → TreeAt w' (.agg #[.slice A1 es.length c1, .slice A2 ns.length c2]) (es, ns)) := fun w' q => ⟨_, _, rfl, he.keep (((Q.refl w1).alloc _).trans q), hn.keep (((Q.refl w1).alloc _).trans q)⟩
  have hel : es.length ≤ 100 := (may_iff.1 hm).1
  have hps : Hid (∀ e ∈ es, e.1.size ≤ 90000) := hf.path
  have HFt := Lib.hid hf
  have HOL : Hid ((olds [] es).length = ns.length) := olds_all hm
  have hnl := hf.nodes
  simp only at hnl
  clear hself he hn hf hm
  go_wp2_with fail
  generalize (w1.alloc (.cells #[.slice A1 es.length c1, .slice A2 ns.length c2] 25)) = w2 at *
  generalize w1.heap.size = bt at *
  go_loopw [4, 5] (fun nv iv wr => ∃ i : Nat, nv = .int .i64 ((olds [] (es.take i)).length : Nat) ∧ iv = .int .i64 i ∧ i ≤ es.length ∧ Q w2 wr) (fun _ iv _ => es.length - (intOf iv).toNat)
  case atStart => exact ⟨0, rfl, rfl, by omega, Q.refl _⟩
  case round =>
    obtain ⟨i, rfl, rfl, hi, hq⟩ := hrel
    have kb0 : ∀ w', Q w2 w' → w'.cell? ⟨bt, 0, none⟩ = some (.slice A1 es.length c1) := fun w' q => (hbx.keep q).cells.1
    have kb1 : ∀ w', Q w2 w' → w'.cell? ⟨bt, 1, none⟩ = some (.slice A2 ns.length c2) := fun w' q => (hbx.keep q).cells.2
    have hol := olds_len [] (es.take i)
    simp only [List.length_take, List.length_nil] at hol
    by_cases hlt : i < es.length
    · have lt2 : (i : Int) < (es.length : Int) := by omega
      obtain ⟨g, o, _, ea, _, _, hc⟩ := (HE.out _ hq).at_ (by omega)
      cases ea
      have kp : ∀ w', Q w2 w' → w'.cell? ⟨g, o + i * 2, none⟩ = some (.string es[i].1) := fun w' q => by
        obtain ⟨g2, o2, _, ea, _, _, hc⟩ := (HE.out _ q).at_ (by omega)
        cases ea
        exact (hc i hlt).1
      have kz : ∀ w', Q w2 w' → w'.cell? ⟨g, o + i * 2 + 1, none⟩ = some (.int .i64 es[i].2) := fun w' q => by
        obtain ⟨g2, o2, _, ea, _, _, hc⟩ := (HE.out _ q).at_ (by omega)
        cases ea
        exact (hc i hlt).2
      have HCl : Hid (∀ w', Q w2 w' → Calls Tryz.prog 25 #[.agg #[.slice (some ⟨g, o, none⟩) es.length c1, .slice A2 ns.length c2], .string es[i].1] w' fun e w'' => ∃ vc, e = .returned vc ∧ OwnS w'' w'.heap.size vc (classE es es[i].2) ∧ Q w' w'') := fun w' q => by
        have := class_any _ (es, ns) es[i].1 w' (HT.out _ q) HFt.out
        rw [show classT (es, ns).1 es[i].1 = classE es es[i].2 from class_at hon.out hlt] at this
        exact this
      have HCF : Hid (∀ p ∈ classE es es[i].2, findE es p = some es[i].2) := fun p hp => class_found hon.out hp
      have HCR : Hid ((classE es es[i].2).Pairwise fun x y => lessB x y = true) := class_rising hro.out _
      have HCH : Hid (es[i].1 ∈ classE es es[i].2) := class_has hlt
      have HCS : Hid (∀ p ∈ classE es es[i].2, p.size ≤ 90000) := fun p hp => by
        obtain ⟨e, he, rfl, _⟩ := class_mem hp
        exact hps.out e he
      have HCC : Hid ((classE es es[i].2).head? = some es[i].1 ↔ es[i].2 ∉ olds [] (es.take i)) := class_head hon.out hlt
      have HCN : Hid ((olds [] (es.take (i + 1))).length = (olds [] (es.take i)).length + (if es[i].2 ∈ olds [] (es.take i) then 0 else 1)) := olds_count hlt
      have hcl : (classE es es[i].2).length ≤ es.length := class_len _ _
      have hcpos : 0 < (classE es es[i].2).length := List.length_pos_of_mem HCH.out
      generalize classE es es[i].2 = cs at *
      clear hc
      generalize hX : es[i] = x at *
      obtain ⟨p0, z⟩ := x
      simp only at kp kz HCl HCF HCH HCC HCN
      clear hX
      have hlo := World.block_lt_of_cell? wr _ (kp _ hq)
      go_wp2_with fail
      go_region_held3 (fun w' => Q w2 w') (first | assumption | exact Q.drew (Q.refl _) | exact Q.drew (by assumption)) (first
        | (go_at_call 25; refine (HCl.out _ (by assumption)).mono ?_; rintro e wn ⟨vc, rfl, hcs, qn0⟩; have qn : Q w2 wn := Q.trans (by assumption) qn0; clear qn0; have HS : Hid (∀ w', Q wn w' → RowAt cellsS 1 w' vc cs) := (fun w' q => (OwnR.row flatS hcs).keep q); obtain ⟨Ac, cc, rfl⟩ := OwnR.form flatS hcs; clear hcs))
      clear HCl
      go_wp2_with fail
      go_loopw [7, 8] (fun bv kv w' => ∃ k : Nat, bv = .bool (decide (p0 ∈ cs.take k)) ∧ kv = .int .i64 k ∧ k ≤ cs.length ∧ Q wn w') (fun _ kv _ => cs.length - (intOf kv).toNat)
      case atStart => exact ⟨0, rfl, rfl, by omega, by first | exact Q.refl _ | exact Q.drew (Q.refl _)⟩
      case round =>
        obtain ⟨k, rfl, rfl, hk, hq2⟩ := hrel
        by_cases hkl : k < cs.length
        · have lt3 : (k : Int) < (cs.length : Int) := by omega
          obtain ⟨gc, oc, _, ea, _, _, _⟩ := (HS.out _ (Q.refl _)).at_ (by omega)
          cases ea
          have kc : ∀ j (hj : j < cs.length) w', Q wn w' → w'.cell? ⟨gc, oc + j, none⟩ = some (.string cs[j]) := fun j hj w' q => by
            obtain ⟨_, _, _, ea, _, _, hcd⟩ := (HS.out _ q).at_ (by omega)
            cases ea
            have cdd := hcd j hj 0 _ rfl
            rw [show oc + j * 1 + 0 = oc + j by omega] at cdd
            exact cdd
          have hmt := Lib.hid (mem_take hkl p0)
          rw [← tl_eq] at hmt
          have hwk : IntKind.i64.wrap ((k : Int) + 1) = ((k + 1 : Nat) : Int) := by rw [IntWalk.i64_in _ (by omega)]; omega
          have hszk : ∀ j (hj : j < cs.length), cs[j].size ≤ 90000 := fun j hj => HCS.out _ (List.getElem_mem hj)
          have HFi : Hid (∀ w', Q wn w' → Calls Tryz.prog 15 #[.agg #[.slice (some ⟨g, o, none⟩) es.length c1, .slice A2 ns.length c2], .string cs[k]] w' fun e w'' => e = .returned (.tuple #[.int .i64 z, .bool true]) ∧ Grew w' w'') := fun w' q => by
            have := find_any _ (es, ns) cs[k] w' (HT.out _ (qn.trans q))
            rw [show findE (es, ns).1 cs[k] = some z from HCF.out _ (List.getElem_mem hkl)] at this
            exact this
          have kk := kc k hkl
          obtain ⟨j, hjk⟩ : ∃ j, j = k - 1 := ⟨_, rfl⟩
          have hjl : j < cs.length := by omega
          have HLs : Hid (∀ (hk0 : 0 < k) w', Calls Tryz.prog 32 #[.string cs[j], .string cs[k]] w' fun e w'' => e = .returned (.bool true) ∧ Q w' w'') := fun hk0 w' => by
            have := Pa.rless_any cs[j] cs[k] w' (by have := hszk j hjl; omega) (by have := hszk k hkl; omega)
            rw [List.pairwise_iff_getElem.1 HCR.out j k hjl hkl (by omega)] at this
            exact this.mono fun e w'' h => ⟨h.1, h.2.1⟩
          have kj := kc j hjl
          clear hszk kc
          have hlc := World.block_lt_of_cell? wn _ (kk _ (Q.refl _))
          have kbn0 : ∀ w', Q wn w' → w'.cell? ⟨bt, 0, none⟩ = some (.slice (some ⟨g, o, none⟩) es.length c1) := fun w' q => kb0 w' (qn.trans q)
          have kpn : ∀ w', Q wn w' → w'.cell? ⟨g, o + i * 2, none⟩ = some (.string p0) := fun w' q => kp w' (qn.trans q)
          have kzn : ∀ w', Q wn w' → w'.cell? ⟨g, o + i * 2 + 1, none⟩ = some (.int .i64 z) := fun w' q => kz w' (qn.trans q)
          have kbn1 : ∀ w', Q wn w' → w'.cell? ⟨bt, 1, none⟩ = some (.slice A2 ns.length c2) := fun w' q => kb1 w' (qn.trans q)
          go_wp2_with fail
          go_region_held3 (fun w' => Q wn w') (first | assumption | exact Q.drew (Q.refl _) | exact Q.drew (by assumption)) (first
            | (go_at_call 15; refine (HFi.out _ (by assumption)).mono ?_; rintro e wf ⟨rfl, gf⟩; have qf : Q wn wf := Q.trans (by assumption) gf.q; clear gf))
          go_wp2_with fail
          rcases Nat.eq_zero_or_pos k with hk0 | hk0
          · have hgt : decide ((0 : Int) < (k : Int)) = false := decide_eq_false (by omega)
            go_quiet (fail)
            clear hk0 hjk hgt
            go_wp2_with fail
            generalize hB : decide (p0 ∈ cs.take k) = bb at *
            cases bb
            · go_quiet (fail)
              go_wp2_with fail
              refine ⟨⟨k + 1, ?_, ?_, by omega, ?_⟩, ?_⟩
              · rw [hmt.out]; first | rfl | simp
              · first | rfl | simp
              · first | assumption | exact Q.drewN (by assumption) _ | exact Q.drewN (Q.drewN (by assumption) _) _ | exact Q.drew (by assumption)
              · show _ < _; simp [intOf] <;> omega
            · go_quiet (fail)
              go_wp2_with fail
              refine ⟨⟨k + 1, ?_, ?_, by omega, ?_⟩, ?_⟩
              · rw [hmt.out]; first | rfl | simp
              · first | rfl | simp
              · first | assumption | exact Q.drewN (by assumption) _ | exact Q.drewN (Q.drewN (by assumption) _) _ | exact Q.drew (by assumption)
              · show _ < _; simp [intOf] <;> omega
          · have hsb : IntKind.i64.wrap ((k : Int) - 1) = (j : Int) := by rw [show (k : Int) - 1 = (j : Int) by omega]; exact IntWalk.i64_in _ (by omega)
            have hj1 : (j : Int) < (cs.length : Int) := by omega
            have hj0 : (0 : Int) ≤ (j : Int) := by omega
            have hgt : decide ((0 : Int) < (k : Int)) = true := decide_eq_true (by omega)
            have HL0 := Lib.hid (HLs.out hk0)
            clear HLs hjk
            go_region_held3 (fun w' => Q wn w') (first | assumption | exact Q.drew (Q.refl _) | exact Q.drew (by assumption)) (first
              | (go_at_call 32; refine (HL0.out _).mono ?_; rintro e wg ⟨rfl, qg0⟩; have qg : Q wn wg := Q.trans (by assumption) qg0; clear qg0))
            go_wp2_with fail
            generalize hB : decide (p0 ∈ cs.take k) = bb at *
            cases bb
            · go_quiet (fail)
              go_wp2_with fail
              refine ⟨⟨k + 1, ?_, ?_, by omega, ?_⟩, ?_⟩
              · rw [hmt.out]; first | rfl | simp
              · first | rfl | simp
              · first | assumption | exact Q.drewN (by assumption) _ | exact Q.drewN (Q.drewN (by assumption) _) _ | exact Q.drew (by assumption)
              · show _ < _; simp [intOf] <;> omega
            · go_quiet (fail)
              go_wp2_with fail
              refine ⟨⟨k + 1, ?_, ?_, by omega, ?_⟩, ?_⟩
              · rw [hmt.out]; first | rfl | simp
              · first | rfl | simp
              · first | assumption | exact Q.drewN (by assumption) _ | exact Q.drewN (Q.drewN (by assumption) _) _ | exact Q.drew (by assumption)
              · show _ < _; simp [intOf] <;> omega
        · have lt3 : ¬ (k : Int) < (cs.length : Int) := by omega
          have hin : decide (p0 ∈ cs.take k) = true := by rw [List.take_of_length_le (by omega)]; exact decide_eq_true HCH.out
          rw [hin]
          obtain ⟨gc, oc, _, ea, _, _, _⟩ := (HS.out _ (Q.refl _)).at_ (by omega)
          cases ea
          have kc : ∀ w', Q wn w' → w'.cell? ⟨gc, oc, none⟩ = some (.string cs[0]) := fun w' q => by
            obtain ⟨_, _, _, ea, _, _, hcd⟩ := (HS.out _ q).at_ (by omega)
            cases ea
            have cdd := hcd 0 (by omega) 0 _ rfl
            rw [show oc + 0 * 1 + 0 = oc by omega] at cdd
            exact cdd
          have kbn0 : ∀ w', Q wn w' → w'.cell? ⟨bt, 0, none⟩ = some (.slice (some ⟨g, o, none⟩) es.length c1) := fun w' q => kb0 w' (qn.trans q)
          have kpn : ∀ w', Q wn w' → w'.cell? ⟨g, o + i * 2, none⟩ = some (.string p0) := fun w' q => kp w' (qn.trans q)
          have c0 := kc _ hq2
          have c1' := kbn0 _ hq2
          have c2' := kpn _ hq2
          have hcp : (0 : Int) < (cs.length : Int) := by omega
          have hhd : (cs[0].toList == p0.toList) = decide (z ∉ olds [] (es.take i)) := by
            rw [tl_eq]
            have : cs.head? = some cs[0] := by cases cs with
              | nil => simp at hcpos
              | cons a b => rfl
            have h2 := HCC.out
            rw [this, Option.some_inj] at h2
            exact decide_eq_decide.2 h2
          have hq3 : Q w2 _ := qn.trans hq2
          clear kc kbn0 kpn
          have HH := Lib.hid hhd
          clear hhd
          have hwn : IntKind.i64.wrap ((((olds [] (es.take i)).length : Nat) : Int) + 1) = (((olds [] (es.take i)).length + 1 : Nat) : Int) := by rw [IntWalk.i64_in _ (by omega)]; omega
          have hwi : IntKind.i64.wrap ((i : Int) + 1) = ((i + 1 : Nat) : Int) := by rw [IntWalk.i64_in _ (by omega)]; omega
          go_wp2_with fail
          go_quiet (fail)
          generalize hE : (cs[0].toList == p0.toList) = bb at *
          have hcn := HCN.out
          by_cases hz : z ∈ olds [] (es.take i)
          · rw [if_pos hz] at hcn
            have hb : bb = false := by rw [HH.out]; exact decide_eq_false (by simpa using hz)
            subst hb
            go_wp2_with fail
            refine ⟨⟨i + 1, ?_, ?_, by omega, ?_⟩, ?_⟩
            · rw [hcn]; first | rfl | simp
            · first | rfl | simp
            · first | assumption | exact Q.drewN (by assumption) _
            · show _ < _; simp [intOf] <;> omega
          · rw [if_neg hz] at hcn
            have hb : bb = true := by rw [HH.out]; exact decide_eq_true (by simpa using hz)
            subst hb
            go_wp2_with fail
            refine ⟨⟨i + 1, ?_, ?_, by omega, ?_⟩, ?_⟩
            · rw [hcn]; first | rfl | simp
            · first | rfl | simp
            · first | assumption | exact Q.drewN (by assumption) _
            · show _ < _; simp [intOf] <;> omega
    · have lt2 : ¬ (i : Int) < (es.length : Int) := by omega
      have htk : es.take i = es := List.take_of_length_le (by omega)
      have hnn : (olds [] (es.take i)).length = ns.length := by rw [htk]; exact HOL.out
      rw [hnn]
      have kb := kb1 _ hq
      have kb2 := kb0 _ hq
      have K1 := Lib.hid kb1
      clear kb1 kb0 hol htk hnn
      go_wp2_with fail
      refine (told_any _).mono ?_
      rintro e w4 ⟨rfl, q4⟩
      have kb := K1.out _ (hq.trans q4)
      go_wp2
      go_ret
      exact ⟨rfl, q2.trans (hq.trans q4)⟩
end Go.Proofs.YtgbenepapajieaaGreat.Tr.Cl
