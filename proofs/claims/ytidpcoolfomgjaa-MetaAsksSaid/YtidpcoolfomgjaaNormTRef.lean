/-
  The contract of the document's NormAttrs.
-/
import Derived.Test.YtidpcoolfomgjaaNormT
import Derived.Deep.DeepCutAuto
import Derived.Deep.AppendLies
namespace Go.Proofs.Ytidpcoolfomgjaa
open Go.RowKit

theorem ats_built (w : World) (x : Attr) (t : TypeId) : AtsAt (w.alloc (.cells #[.string x.1, .string x.2] t)) (.slice (some ⟨w.heap.size, 0, none⟩) 1 1) [x] :=
  .inr ⟨w.heap.size, 0, 1, rfl, by simp, by unfold maxLen; omega, fun i hi c u hu => by
    obtain rfl : i = 0 := by simpa using hi
    match c, hu with
    | 0, hu => cases hu; simp
    | 1, hu => cases hu; simp⟩

/-! ### One attribute is put in its place -/
def TailT (x : Attr) (m : List Attr) (k : Nat) : Prop := ∀ j (h : j < m.length), k ≤ j → ltT x m[j]
theorem TailT.start (x : Attr) (m : List Attr) : TailT x m m.length := fun j h hk => by omega
theorem TailT.step {x : Attr} {m : List Attr} {k : Nat} (hk : k < m.length) (h : TailT x m (k + 1)) (h1 : ltT x m[k]) : TailT x m k := fun j hj hjk => by
  by_cases e : j = k
  · subst e; exact h1
  · exact h j hj (by omega)
def NotFallT (m : List Attr) : Prop := m.Pairwise fun x y => ¬ ltT y x
def PlacedT (l : List Attr) (i : Nat) (m : List Attr) : Prop := m.Perm (l.take i) ∧ NotFallT m ∧ AllOkT (l.take i) ∧ m.length = i
theorem ins_okT {x : Attr} {m : List Attr} {k : Nat} (hk : k ≤ m.length) (hm : NotFallT m) (ht : TailT x m k) (hb : ∀ h : 0 < k, ¬ ltT x (m[k - 1]'(by omega))) : NotFallT (m.take k ++ [x] ++ m.drop k) := by
  unfold NotFallT at *
  have e : m.take k ++ m.drop k = m := List.take_append_drop k m
  have hm2 := hm
  rw [← e, List.pairwise_append] at hm2
  have hbefore : ∀ y ∈ m.take k, ¬ ltT x y := by
    intro y hy
    obtain ⟨j, hj, rfl⟩ := List.getElem_of_mem hy
    rw [List.length_take] at hj
    have h0 : 0 < k := by omega
    rw [List.getElem_take]
    by_cases e : j = k - 1
    · subst e; exact hb h0
    · exact ltT_ntrans (hb h0) (List.pairwise_iff_getElem.1 hm j (k - 1) (by omega) (by omega) (by omega))
  have hafter : ∀ y ∈ m.drop k, ltT x y := by
    intro y hy
    obtain ⟨j, hj, rfl⟩ := List.getElem_of_mem hy
    rw [List.length_drop] at hj
    rw [List.getElem_drop]
    exact ht (k + j) (by omega) (by omega)
  rw [List.append_assoc, List.pairwise_append]
  refine ⟨hm2.1, ?_, ?_⟩
  · rw [List.singleton_append, List.pairwise_cons]
    exact ⟨fun y hy h => ltT_irrefl _ (ltT_trans h (hafter y hy)), hm2.2.1⟩
  · intro a ha b hb'
    rw [List.singleton_append, List.mem_cons] at hb'
    rcases hb' with rfl | hb'
    · exact hbefore a ha
    · exact hm2.2.2 a ha b hb'
theorem PlacedT.next {l : List Attr} {i : Nat} {m : List Attr} {k : Nat} (hi : i < l.length) (h : PlacedT l i m) (ho : OkT l[i]) (hk : k ≤ m.length) (ht : TailT l[i] m k) (hb : ∀ h : 0 < k, ¬ ltT l[i] (m[k - 1]'(by omega))) : PlacedT l (i + 1) (m.take k ++ [l[i]] ++ m.drop k) := by
  obtain ⟨h1, h2, h3, h4⟩ := h
  refine ⟨?_, ins_okT hk h2 ht hb, allOkT_step hi h3 ho, ?_⟩
  · rw [List.take_succ_eq_append_getElem hi]
    have e1 : (m.take k ++ [l[i]] ++ m.drop k).Perm (m ++ [l[i]]) := by
      have : (m.take k ++ [l[i]] ++ m.drop k).Perm (m.take k ++ m.drop k ++ [l[i]]) := by
        rw [List.append_assoc, List.append_assoc]
        exact List.Perm.append_left _ List.perm_append_comm
      rwa [List.take_append_drop] at this
    exact e1.trans (h1.append_right _)
  · simp only [List.length_append, List.length_take, List.length_drop, List.length_cons, List.length_nil]
    omega

set_option maxHeartbeats 4000000 in
set_option maxRecDepth 100000 in
theorem normTRef_any (v : Value) (l : List Attr) (w : World) (h : AtsAt w v l) (hl : l.length ≤ 30000) :
    Calls Try.prog 10 #[v] w (NormPostT l w) := by
  have mixed : Try.prog.follows .mixedOrders = true := by kernel_rfl
  obtain ⟨A, c, rfl⟩ := h.form
  go_enter Try.func10, Try.ntmps10
  go_wp2
  go_loopw [4, 5] (fun mv iv wr => ∃ (i : Nat) (m : List Attr), iv = .int .i64 i ∧ i ≤ l.length ∧ Q w wr ∧ OwnT wr w.heap.size mv m ∧ Hid (PlacedT l i m)) (fun _ iv _ => l.length - (intOf iv).toNat)
  case atStart => exact ⟨0, [], rfl, by omega, Q.refl _, OwnR.nil_ _ _ _, List.Perm.refl _, List.Pairwise.nil, (fun x hx => by cases hx), rfl⟩
  case round =>
    obtain ⟨i, m, rfl, hi, hq, hown, H⟩ := hrel
    have hsz := hq.size
    by_cases hlt : i < l.length
    · have lt2 : (i : Int) < (l.length : Int) := by omega
      obtain ⟨g, o, _, ea, _, _, hc⟩ := h.atT (by omega)
      cases ea
      obtain ⟨e1, e2⟩ := hc i hlt
      have En : Hid (¬ OkT l[i] → ¬ AllOkT l) := allOkT_not hlt
      have Hn : Hid (OkT l[i] → ∀ k, k ≤ m.length → TailT l[i] m k → (∀ (h : 0 < k) (h' : k ≤ m.length), ¬ ltT l[i] (m[k - 1]'(by omega))) → PlacedT l (i + 1) (m.take k ++ [l[i]] ++ m.drop k)) := fun ho k hk ht hb => H.out.next hlt ho hk ht (fun h => hb h hk)
      have hml : m.length ≤ 30000 := by have := H.out.2.2.2; omega
      clear hc h H
      generalize l[i] = x at *
      have HE := Lib.hid (fun w => attrRef_any x w)
      obtain ⟨c1, c2⟩ : wr.cell? ⟨g, o + i * 2, none⟩ = some (.string x.1) ∧ wr.cell? ⟨g, o + i * 2 + 1, none⟩ = some (.string x.2) := ⟨hq.cell e1, hq.cell e2⟩
      by_cases hx : OkT x
      · rw [decide_eq_true hx] at HE
        have N := Lib.hid (Hn.out hx)
        clear hx En Hn
        go_wp2_with fail
        refine (HE.out _).mono ?_
        rintro e w1 ⟨rfl, g1⟩
        have hown1 := OwnR.grew hown g1
        have hq1 := hq.trans g1.q
        have hf : (∃ gm cm, u4 = .slice (some ⟨gm, 0, none⟩) m.length cm ∧ m.length ≤ cm ∧ cm ≤ maxLen) ∨ u4 = .slice none 0 0 ∧ m = [] := by
          rcases hown1.2 with ⟨e, hn⟩ | ⟨gm, cm, cur, e, _, _, h1, h2, _⟩
          · exact .inr ⟨e, List.eq_nil_of_length_eq_zero hn⟩
          · exact .inl ⟨gm, cm, e, h1, h2⟩
        clear c1 c2 hown hq hsz g1
        rcases hf with ⟨gm, cm, rfl, hcm, hcm2⟩ | ⟨rfl, rfl⟩
        · unfold maxLen at hcm2
          go_wp2_with fail
          go_loopw [6] (fun kv wi => ∃ k : Nat, kv = .int .i64 k ∧ k ≤ m.length ∧ Grew w1 wi ∧ Hid (TailT x m k)) (fun kv _ => (intOf kv).toNat)
          case atStart => exact ⟨m.length, rfl, Nat.le_refl _, Grew.refl _, TailT.start x m⟩
          case round =>
            obtain ⟨k, rfl, hk, g2, T⟩ := hrel
            obtain ⟨c1, c2⟩ : wr.cell? ⟨g, o + i * 2, none⟩ = some (.string x.1) ∧ wr.cell? ⟨g, o + i * 2 + 1, none⟩ = some (.string x.2) := ⟨(hq1.trans g2.q).cell e1, (hq1.trans g2.q).cell e2⟩
            by_cases h0 : k = 0
            · subst h0
              have E : Hid (PlacedT l (i + 1) ([] ++ [x] ++ m)) := Lib.hid (by
                have := N.out 0 (by omega) T.out (fun h => by omega)
                simpa using this)
              have hgb := World.block_lt_of_cell? wr _ c1
              have b1 := cell_grown (a := ⟨g, o + i * 2, none⟩) hgb c1
              have b2 := cell_grown (a := ⟨g, o + i * 2 + 1, none⟩) hgb c2
              clear T
              go_wp2_with fail
              (refine wp_region_quiet_grown (by assumption) (by kernel_rfl) ?_; (repeat (go_big_quiet_step ((fail)))); refine wpQuiet_nil ?_; intro _ hw'; obtain ⟨⟨nq, osq⟩, hw2⟩ := hw'; subst hw2)
              replace g2 : Grew w1 (Go.Sort.grow (wr.drewN nq) osq) := g2.trans ⟨_, _, rfl⟩
              have ca1 := b1 nq osq
              have ca2 := b2 nq osq
              clear b1 b2 c1 c2 hgb
              generalize Go.Sort.grow (wr.drewN nq) osq = wr at *
              have hownW := OwnR.grew hown1 g2
              have hqW := hq1.trans g2.q
              have hszW := hqW.size
              have mk : AtsAt wr (.slice (some ⟨gm, 0, none⟩) 0 cm) [] := .inl ⟨rfl, _, _, rfl, fun e => by cases e⟩
              have hd : ∀ w', Q wr w' → AtsAt w' (.slice (some ⟨gm, 0, none⟩) m.length cm) m := fun w' q => (hownW.row flatT).keep q
              have hle : (0 : Int) ≤ (m.length : Int) := by omega

              go_wp2_with (at_builtin; refine wpList_append_ats rfl (.tmp 41) (.tmp 44) rfl wr.heap.size _ [] rfl (own_empty _ wr _ (Nat.le_refl _)) _ [] rfl (mk.keep ((Q.refl wr).alloc _)) (by simp; try omega) (by rw [World.size_alloc]; omega) ?_)
              intro v3 w3 hown3 hg3
              try intro _
              replace hown3 : OwnT w3 wr.heap.size v3 [] := hown3
              have q3 : Q wr w3 := Below.grown ((Q.refl wr).alloc _) hg3 (by rw [World.size_alloc]; omega) fun g hg => by cases hg; exact Nat.le_refl _
              have hsz3 := q3.size
              clear hg3 mk
              obtain ⟨r1, r2⟩ : w3.cell? ⟨g, o + i * 2, none⟩ = some (.string x.1) ∧ w3.cell? ⟨g, o + i * 2 + 1, none⟩ = some (.string x.2) := ⟨q3.cell ca1, q3.cell ca2⟩
              clear ca1 ca2
              go_wp2_with fail
              go_region_law (first
                | (refine step_append_ats rfl (.tmp 46) (.tmp 51) rfl wr.heap.size v3 [] (by simp [Act.eval]) (World.ownsRow.drew (World.ownsRow.alloc hown3 _)) (.slice (some ⟨w3.heap.size, 0, none⟩) 1 1) [x] (by simp [Act.eval]) ((ats_built w3 x _).keep ((Q.refl _).drew)) (by simp; try omega) (by show _ ≤ (w3.alloc _).heap.size; rw [World.size_alloc]; omega) ?_; intro v5 w5 hown5 hg5)
                | (refine step_append_ats rfl (.tmp 52) (.tmp 55) rfl wr.heap.size v5 ([] ++ [x]) (by simp [Act.eval]) hown5 (.slice (some ⟨gm, 0, none⟩) m.length cm) m (by simp [Act.eval]) (hd w5 (Below.grown ((q3.alloc _).drew) hg5 ((q3.alloc _).drew.size) fun g hg => (hown3.lt g hg).1)) (by simp; try omega) ((Below.grown ((q3.alloc _).drew) hg5 ((q3.alloc _).drew.size) fun g hg => (hown3.lt g hg).1 : Q wr w5).size) ?_; intro v6 w6 hown6 hg6))
              all_goals
                have q5 : Q wr w5 := Below.grown ((q3.alloc _).drew) hg5 ((q3.alloc _).drew.size) fun g hg => (hown3.lt g hg).1
                have q6 : Q wr w6 := Below.grown q5 hg6 q5.size fun g hg => (hown5.lt g hg).1
                have hown7 : OwnT w6 w.heap.size v6 ([] ++ [x] ++ m) := hown6.mono hszW
                clear hown6 hown5 hg6 hg5 hown3 hd q5 q3
                go_wp2
                go_roundw
                case rel => exact ⟨i + 1, _, by go_num, by omega, hqW.trans q6, hown7, E⟩
                case measure => simp [intOf]; omega
            · obtain ⟨j, rfl⟩ : ∃ j, k = j + 1 := ⟨k - 1, by omega⟩
              have hgb := World.block_lt_of_cell? wr _ c1
              have b1 := cell_grown (a := ⟨g, o + i * 2, none⟩) hgb c1
              have b2 := cell_grown (a := ⟨g, o + i * 2 + 1, none⟩) hgb c2
              obtain ⟨gm2, om, cm2, eM, _, _, hmc⟩ := ((OwnR.grew hown1 g2).row flatT).atT (by omega)
              cases eM
              obtain ⟨d1, d2⟩ := hmc j (by omega)
              have hgd := World.block_lt_of_cell? wr _ d1
              have f1 : ∀ n os, (Go.Sort.grow (wr.drewN n) os).cell? ⟨gm, j * 2, none⟩ = some (.string (m[j]'(by omega)).1) := by
                have := cell_grown (a := ⟨gm, 0 + j * 2, none⟩) hgd d1
                simpa using this
              have f2 : ∀ n os, (Go.Sort.grow (wr.drewN n) os).cell? ⟨gm, j * 2 + 1, none⟩ = some (.string (m[j]'(by omega)).2) := by
                have := cell_grown (a := ⟨gm, 0 + j * 2 + 1, none⟩) hgd d2
                simpa using this
              have Tn : Hid (ltT x (m[j]'(by omega)) → TailT x m j) := T.out.step (by omega)
              have NX : Hid (¬ ltT x (m[j]'(by omega)) → PlacedT l (i + 1) (m.take (j + 1) ++ [x] ++ m.drop (j + 1))) := fun hb => N.out (j + 1) hk T.out (fun h h' => by simpa using hb)
              clear hmc T
              generalize m[j]'(by omega) = y at *
              have wr2 : IntKind.i64.wrap (j : Int) = j := IntWalk.i64_in _ (by omega)
              have nn2 : (0 : Int) ≤ (j : Int) := by omega
              have nn3 : (0 : Int) ≤ (j : Int) + 1 := by omega
              have t3 : decide ((0 : Int) < (j : Int) + 1) = true := decide_eq_true (by omega)
              have lt3 : (j : Int) < (m.length : Int) := by omega
              rw [show ((j + 1 : Nat) : Int) = (j : Int) + 1 from rfl] at *
              by_cases hx : ltT x y
              · have tl : Op.bytesLess x.1.toList y.1.toList = true := hx
                have E := Lib.hid (Tn.out hx)
                clear hx Tn NX
                go_wp2_with fail
                (refine wp_region_quiet_grown (by assumption) (by kernel_rfl) ?_; (repeat (go_big_quiet_step ((fail)))); refine wpQuiet_nil ?_; intro _ hw'; obtain ⟨⟨nq, osq⟩, hw2⟩ := hw'; subst hw2)
                go_wp2
                go_roundw
                case rel => exact ⟨j, by go_num, by omega, g2.trans ⟨_, _, rfl⟩, E⟩
                case measure => simp [intOf]
              · have tl : Op.bytesLess x.1.toList y.1.toList = false := Bool.eq_false_iff.2 hx
                have E := Lib.hid (NX.out hx)
                clear hx Tn NX
                go_wp2_with fail
                (refine wp_region_quiet_grown (by assumption) (by kernel_rfl) ?_; (repeat (go_big_quiet_step ((fail)))); refine wpQuiet_nil ?_; intro _ hw'; obtain ⟨⟨nq, osq⟩, hw2⟩ := hw'; subst hw2)
                replace g2 : Grew w1 (Go.Sort.grow (wr.drewN nq) osq) := g2.trans ⟨_, _, rfl⟩
                have ca1 := b1 nq osq
                have ca2 := b2 nq osq
                clear b1 b2 f1 f2 c1 c2 d1 d2 hgb hgd
                generalize Go.Sort.grow (wr.drewN nq) osq = wr at *
                have hownW := OwnR.grew hown1 g2
                have hqW := hq1.trans g2.q
                have hszW := hqW.size
                have mk : AtsAt wr (.slice (some ⟨gm, 0, none⟩) (j + 1) cm) (m.take (j + 1)) := row_take (hownW.row flatT) hk (by omega)
                have hd : ∀ w', Q wr w' → AtsAt w' (.slice (if cm = j + 1 then some ⟨gm, 0, none⟩ else some ⟨gm, (j + 1) * 2, none⟩) (m.length - (j + 1)) (cm - (j + 1))) (m.drop (j + 1)) := fun w' q => by
                  split
                  · exact row_drop ((hownW.row flatT).keep q) rfl hk _ _ (fun _ => by omega) (by omega) (by unfold maxLen; omega)
                  · exact row_drop ((hownW.row flatT).keep q) rfl hk _ _ (fun _ => by omega) (by omega) (by unfold maxLen; omega)
                have hle : (j : Int) + 1 ≤ (m.length : Int) := by omega

                go_wp2_with (at_builtin; refine wpList_append_ats rfl (.tmp 41) (.tmp 44) rfl wr.heap.size _ [] rfl (own_empty _ wr _ (Nat.le_refl _)) _ (m.take (j + 1)) rfl (mk.keep ((Q.refl wr).alloc _)) (by simp; try omega) (by rw [World.size_alloc]; omega) ?_)
                intro v3 w3 hown3 hg3
                try intro _
                replace hown3 : OwnT w3 wr.heap.size v3 (m.take (j + 1)) := hown3
                have q3 : Q wr w3 := Below.grown ((Q.refl wr).alloc _) hg3 (by rw [World.size_alloc]; omega) fun g hg => by cases hg; exact Nat.le_refl _
                have hsz3 := q3.size
                clear hg3 mk
                obtain ⟨r1, r2⟩ : w3.cell? ⟨g, o + i * 2, none⟩ = some (.string x.1) ∧ w3.cell? ⟨g, o + i * 2 + 1, none⟩ = some (.string x.2) := ⟨q3.cell ca1, q3.cell ca2⟩
                clear ca1 ca2
                go_wp2_with fail
                go_region_law (first
                  | (refine step_append_ats rfl (.tmp 46) (.tmp 51) rfl wr.heap.size v3 (m.take (j + 1)) (by simp [Act.eval]) (World.ownsRow.drew (World.ownsRow.alloc hown3 _)) (.slice (some ⟨w3.heap.size, 0, none⟩) 1 1) [x] (by simp [Act.eval]) ((ats_built w3 x _).keep ((Q.refl _).drew)) (by simp; try omega) (by show _ ≤ (w3.alloc _).heap.size; rw [World.size_alloc]; omega) ?_; intro v5 w5 hown5 hg5)
                  | (refine step_append_ats rfl (.tmp 52) (.tmp 55) rfl wr.heap.size v5 ((m.take (j + 1)) ++ [x]) (by simp [Act.eval]) hown5 (.slice (if cm = j + 1 then some ⟨gm, 0, none⟩ else some ⟨gm, (j + 1) * 2, none⟩) (m.length - (j + 1)) (cm - (j + 1))) (m.drop (j + 1)) (by simp [Act.eval]) (hd w5 (Below.grown ((q3.alloc _).drew) hg5 ((q3.alloc _).drew.size) fun g hg => (hown3.lt g hg).1)) (by simp; try omega) ((Below.grown ((q3.alloc _).drew) hg5 ((q3.alloc _).drew.size) fun g hg => (hown3.lt g hg).1 : Q wr w5).size) ?_; intro v6 w6 hown6 hg6))
                all_goals
                  have q5 : Q wr w5 := Below.grown ((q3.alloc _).drew) hg5 ((q3.alloc _).drew.size) fun g hg => (hown3.lt g hg).1
                  have q6 : Q wr w6 := Below.grown q5 hg6 q5.size fun g hg => (hown5.lt g hg).1
                  have hown7 : OwnT w6 w.heap.size v6 ((m.take (j + 1)) ++ [x] ++ (m.drop (j + 1))) := hown6.mono hszW
                  clear hown6 hown5 hg6 hg5 hown3 hd q5 q3
                  go_wp2
                  go_roundw
                  case rel => exact ⟨i + 1, _, by go_num, by omega, hqW.trans q6, hown7, E⟩
                  case measure => simp [intOf]; omega
        · have E0 : Hid (PlacedT l (i + 1) ([] ++ [x] ++ [])) := Lib.hid (by
            have := N.out 0 (by omega) (TailT.start x []) (fun h => by omega)
            simpa using this)
          go_wp2_with fail
          go_loopw [6] (fun kv wi => kv = .int .i64 0 ∧ wi = w1) (fun kv _ => (intOf kv).toNat)
          case atStart => exact ⟨rfl, rfl⟩
          case round =>
            obtain ⟨rfl, rfl⟩ := hrel
            have E := E0
            obtain ⟨c1, c2⟩ : wr.cell? ⟨g, o + i * 2, none⟩ = some (.string x.1) ∧ wr.cell? ⟨g, o + i * 2 + 1, none⟩ = some (.string x.2) := ⟨hq1.cell e1, hq1.cell e2⟩
            have hgb := World.block_lt_of_cell? wr _ c1
            have b1 := cell_grown (a := ⟨g, o + i * 2, none⟩) hgb c1
            have b2 := cell_grown (a := ⟨g, o + i * 2 + 1, none⟩) hgb c2
            go_wp2_with fail
            (refine wp_region_quiet_grown (by assumption) (by kernel_rfl) ?_; (repeat (go_big_quiet_step ((fail)))); refine wpQuiet_nil ?_; intro _ hw'; obtain ⟨⟨nq, osq⟩, hw2⟩ := hw'; subst hw2)
            have hqW : Q w (Go.Sort.grow (wr.drewN nq) osq) := hq1.trans (Grew.q ⟨_, _, rfl⟩)
            have ca1 := b1 nq osq
            have ca2 := b2 nq osq
            clear b1 b2 c1 c2 hgb hown1 hq1
            generalize Go.Sort.grow (wr.drewN nq) osq = wr at *
            have hszW := hqW.size
            have mk : AtsAt wr (.slice none 0 0) [] := RowAt.nil_ _
            have hd : ∀ w', Q wr w' → AtsAt w' (.slice none 0 0) [] := fun w' _ => RowAt.nil_ _
            go_wp2_with (at_builtin; refine wpList_append_ats rfl (.tmp 41) (.tmp 44) rfl wr.heap.size _ [] rfl (own_empty _ wr _ (Nat.le_refl _)) _ [] rfl (mk.keep ((Q.refl wr).alloc _)) (by simp; try omega) (by rw [World.size_alloc]; omega) ?_)
            intro v3 w3 hown3 hg3
            try intro _
            replace hown3 : OwnT w3 wr.heap.size v3 [] := hown3
            have q3 : Q wr w3 := Below.grown ((Q.refl wr).alloc _) hg3 (by rw [World.size_alloc]; omega) fun g hg => by cases hg; exact Nat.le_refl _
            have hsz3 := q3.size
            clear hg3 mk
            obtain ⟨r1, r2⟩ : w3.cell? ⟨g, o + i * 2, none⟩ = some (.string x.1) ∧ w3.cell? ⟨g, o + i * 2 + 1, none⟩ = some (.string x.2) := ⟨q3.cell ca1, q3.cell ca2⟩
            clear ca1 ca2
            go_wp2_with fail
            go_region_law (first
              | (refine step_append_ats rfl (.tmp 46) (.tmp 51) rfl wr.heap.size v3 [] (by simp [Act.eval]) (World.ownsRow.drew (World.ownsRow.alloc hown3 _)) (.slice (some ⟨w3.heap.size, 0, none⟩) 1 1) [x] (by simp [Act.eval]) ((ats_built w3 x _).keep ((Q.refl _).drew)) (by simp; try omega) (by show _ ≤ (w3.alloc _).heap.size; rw [World.size_alloc]; omega) ?_; intro v5 w5 hown5 hg5)
              | (refine step_append_ats rfl (.tmp 52) (.tmp 55) rfl wr.heap.size v5 ([] ++ [x]) (by simp [Act.eval]) hown5 (.slice none 0 0) [] (by simp [Act.eval]) (hd w5 (Below.grown ((q3.alloc _).drew) hg5 ((q3.alloc _).drew.size) fun g hg => (hown3.lt g hg).1)) (by simp; try omega) ((Below.grown ((q3.alloc _).drew) hg5 ((q3.alloc _).drew.size) fun g hg => (hown3.lt g hg).1 : Q wr w5).size) ?_; intro v6 w6 hown6 hg6))
            all_goals
              have q5 : Q wr w5 := Below.grown ((q3.alloc _).drew) hg5 ((q3.alloc _).drew.size) fun g hg => (hown3.lt g hg).1
              have q6 : Q wr w6 := Below.grown q5 hg6 q5.size fun g hg => (hown5.lt g hg).1
              have hown7 : OwnT w6 w.heap.size v6 ([] ++ [x] ++ []) := hown6.mono hszW
              clear hown6 hown5 hg6 hg5 hown3 hd q5 q3
              go_wp2
              go_roundw
              case rel => exact ⟨i + 1, _, by go_num, by omega, hqW.trans q6, hown7, E⟩
              case measure => simp [intOf]; omega
      · rw [decide_eq_false hx] at HE
        have E := Lib.hid (normCT_arg (En.out hx))
        clear hx En Hn
        go_wp2_with fail
        refine (HE.out _).mono ?_
        rintro e w1 ⟨rfl, g1⟩
        go_wp2
        go_ret2
        exact postT_err E.out (by decide) (hq.trans g1.q)
    · obtain rfl : i = l.length := by omega
      have P := H.out
      have HO := Lib.hid (onceT_rise (l := l) (r := m) (by have := P.1; rwa [List.take_length] at this) P.2.1)
      have HP : Hid (m.Perm l) := by have := P.1; rwa [List.take_length] at this
      have HA : Hid (AllOkT l) := by have := P.2.2.1; rwa [List.take_length] at this
      have NF : Hid (NotFallT m) := P.2.1
      have hml : m.length = l.length := P.2.2.2
      clear H P
      have hv := hown.row flatT
      obtain ⟨M, cm, rfl⟩ := hown.form flatT
      have HML := Lib.hid hml
      have hlm : m.length ≤ 30000 := by omega
      clear hml hi hlt
      go_wp2
      go_loopw [8] (fun iv wi => ∃ k : Nat, iv = .int .i64 ((k : Int) + 1) ∧ k ≤ m.length ∧ Grew wr wi ∧ Hid (UpToT m (k + 1))) (fun iv _ => m.length + 1 - (intOf iv).toNat)
      case atStart => exact ⟨0, rfl, by omega, Grew.refl _, UpToT.start m⟩
      case round =>
        obtain ⟨k, rfl, hk, g2, U⟩ := hrel
        have hvw := hv.keep g2.q
        have hqw := hq.trans g2.q
        by_cases hlt : k + 1 < m.length
        · obtain ⟨g, o, _, ea, _, _, hc⟩ := hvw.atT (by omega)
          cases ea
          obtain ⟨c1, c2⟩ := hc k (by omega)
          obtain ⟨d1, d2⟩ := hc (k + 1) hlt
          have En : Hid (¬ ltT m[k] m[k + 1] → ¬ RiseT m) := RiseT.not hlt
          have Ey : Hid (ltT m[k] m[k + 1] → UpToT m (k + 2)) := UpToT.step hlt U.out
          have Nf : Hid (¬ ltT m[k + 1] m[k]) := List.pairwise_iff_getElem.1 NF.out k (k + 1) (by omega) hlt (by omega)
          clear hc h U hv hvw hown
          generalize m[k] = x at *
          generalize m[k + 1] = y at *
          have hgb := World.block_lt_of_cell? _ _ c1
          have lt1 : (k : Int) + 1 < (m.length : Int) := by omega
          have lt2 : (k : Int) < (m.length : Int) := by omega
          have nn2 : (0 : Int) ≤ (k : Int) := by omega
          have nn3 : (0 : Int) ≤ (k : Int) + 1 := by omega
          have wr2 : IntKind.i64.wrap (k : Int) = k := IntWalk.i64_in _ (by omega)
          have b1 := cell_grown (a := ⟨g, o + k * 2, none⟩) hgb c1
          have b2 := cell_grown (a := ⟨g, o + k * 2 + 1, none⟩) hgb c2
          have e1 := cell_grown (a := ⟨g, o + (k + 1) * 2, none⟩) hgb d1
          have e2 := cell_grown (a := ⟨g, o + (k + 1) * 2 + 1, none⟩) hgb d2
          by_cases hx : ltT x y
          · have tl : (y.1.toList == x.1.toList) = false := beq_eq_false_iff_ne.2 fun e => ltT_name (x := x) (y := y) (str_inj e).symm hx
            have E := Lib.hid (Ey.out hx)
            clear hx En Ey Nf
            go_wp2_with fail
            (refine wp_region_quiet_grown (by assumption) (by kernel_rfl) ?_; (repeat (go_big_quiet_step ((fail)))); refine wpQuiet_nil ?_; intro _ hw'; obtain ⟨⟨nq, osq⟩, hw2⟩ := hw'; subst hw2)
            go_wp2
            go_roundw
            case rel => exact ⟨k + 1, by go_num, by omega, g2.trans ⟨_, _, rfl⟩, E⟩
            case measure => simp [intOf]; omega
          · have tl : (y.1.toList == x.1.toList) = true := beq_iff_eq.2 (by
              rcases ltT_total x y with h | h | h
              · exact absurd h hx
              · rw [h]
              · exact absurd h Nf.out)
            have E := Lib.hid (normCT_exist HA.out (fun o => En.out hx (HO.out.2 o)))
            clear hx En Ey Nf
            go_wp2_with fail
            (refine wp_region_quiet_grown (by assumption) (by kernel_rfl) ?_; (repeat (go_big_quiet_step ((fail)))); refine wpQuiet_nil ?_; intro _ hw'; obtain ⟨⟨nq, osq⟩, hw2⟩ := hw'; subst hw2)
            go_wp2
            go_ret2
            exact postT_err E.out (by decide) (hqw.trans (Grew.q ⟨_, _, rfl⟩))
        · have R := Lib.hid (U.out.rise (by omega))
          clear U
          by_cases h3 : 8 < m.length
          · have t3 : decide ((8 : Int) < (m.length : Int)) = true := decide_eq_true (by omega)
            have E := Lib.hid (normCT_limit HA.out (HO.out.1 R.out) (by have := HML.out; omega))
            clear h3
            go_wp2
            go_ret2
            exact postT_err E.out (by decide) hqw
          · have t3 : decide ((8 : Int) < (m.length : Int)) = false := decide_eq_false (by omega)
            have E := Lib.hid (normCT_ok HA.out (HO.out.1 R.out) (by have := HML.out; omega))
            clear h3
            go_wp2
            go_ret2
            exact postT_ok E.out hvw hqw (normRT_zero E.out HP.out R.out)
end Go.Proofs.Ytidpcoolfomgjaa
