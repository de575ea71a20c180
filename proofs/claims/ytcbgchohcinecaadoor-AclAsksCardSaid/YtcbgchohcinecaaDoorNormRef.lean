/-
  The contract of the document's NormAcl.
-/
import Derived.Test.YtcbgchohcinecaaDoorNorm
import Derived.Test.YtcbgchohcinecaaDoorRefs
import Derived.Deep.DeepCutAuto
import Derived.Deep.AppendLies
namespace Go.Proofs.YtcbgchohcinecaaDoor
open Go.RowKit

theorem step_append_aces {ops : Array Oper} {o : Oper} {a : Act} {w : World} {K : Act → World → Prop} {Q0 : Exit → Act → World → Prop} {E : Prop} (hgd : o.guard = none) (s x : Operand)
    (ho : o.op = .call { callee := .builtin .append, args := #[s, x], argTypes := #[22, 22] })
    (B : Nat) (v : Value) (l : List Ace) (hs : a.eval s = v) (hown : OwnA w B v l) (vx : Value) (m : List Ace) (hx : a.eval x = vx) (he : AcesAt w vx m) (hnl : l.length + m.length ≤ 100000) (hbase : B ≤ w.heap.size)
    (h : ∀ v' w', OwnA w' B v' (l ++ m) → w.grownBy w' v.ownBlock → K (a.put o.dst v') w') :
    if Region.wanted o (yielded ops a.tmps) = true then Oper.wp Tryd.prog o a w K Q0 else E := by
  have hw : Region.wanted o (yielded ops a.tmps) = true := by simp [Region.wanted, hgd]
  rw [if_pos hw]
  obtain ⟨v', w', hr, a2, a3, _⟩ := run_append_aces o.type B v l hown vx m he hnl hbase
  unfold Oper.wp execOp
  simp only [ho, resolve, invoke, builtin, Sem.run_bind, Sem.run_pure, Result.andThen_ok, List.map_toArray, List.map_cons, List.map_nil, hs, hx, hr]
  exact h v' w' a2 a3

theorem OwnA.grew {w w' : World} {B : Nat} {v : Value} {l : List Ace} (h : OwnA w B v l) (g : Grew w w') : OwnA w' B v l := by
  obtain ⟨k, os, rfl⟩ := g
  obtain ⟨hl, h0 | ⟨g, cap, cur, hv, hb, hh, r⟩⟩ := h
  · exact ⟨hl, .inl h0⟩
  · have hg : g < w.heap.size := by
      rcases Nat.lt_or_ge g w.heap.size with h1 | h1
      · exact h1
      · rw [Array.getElem?_eq_none h1] at hh
        cases hh
    exact ⟨hl, .inr ⟨g, cap, cur, hv, hb, by show (w.heap ++ os)[g]? = _; rw [Array.getElem?_append_left hg]; exact hh, r⟩⟩
theorem OwnA.lt {w : World} {B : Nat} {v : Value} {l : List Ace} (h : OwnA w B v l) (g : Nat) (hg : v.ownBlock = some g) : B ≤ g ∧ g < w.heap.size := World.ownsRow.lt h g hg
/-- An empty row that is not nil. -/
theorem own_empty (w : World) (B : Nat) (hB : B ≤ w.heap.size) : OwnA (w.alloc (.cells #[] 33)) B (.slice (some ⟨w.heap.size, 0, none⟩) 0 0) [] :=
  ⟨rfl, .inr ⟨w.heap.size, 0, #[], rfl, hB, by show (w.heap.push _)[w.heap.size]? = _; simp, Nat.le_refl _, by unfold maxLen; omega, rfl, rfl⟩⟩
theorem aces_take {w : World} {g o n cap : Nat} {l : List Ace} {k : Nat} (h : AcesAt w (.slice (some ⟨g, o, none⟩) n cap) l) (hn : n = l.length) (hk : k ≤ l.length) (hc : k ≤ cap) : AcesAt w (.slice (some ⟨g, o, none⟩) k cap) (l.take k) := by
  rcases h with ⟨rfl, a, c, e, _⟩ | ⟨g', o', cap', e, h1, h2, h3⟩
  · exact .inl ⟨by simp, _, _, by rw [show k = 0 by simpa using hk], fun e => by cases e⟩
  · cases e
    refine .inr ⟨g, o, cap, by rw [List.length_take, Nat.min_eq_left hk], by rw [List.length_take]; omega, h2, fun i hi => ?_⟩
    have hi' : i < l.length := by rw [List.length_take] at hi; omega
    rw [List.getElem_take]
    exact h3 i hi'
theorem aces_drop {w : World} {g o n cap : Nat} {l : List Ace} {k : Nat} (h : AcesAt w (.slice (some ⟨g, o, none⟩) n cap) l) (hn : n = l.length) (hk : k ≤ l.length) (o' cap' : Nat) (ho : k < l.length → o' = o + k * 3) (hc : l.length - k ≤ cap') (hc' : cap' ≤ maxLen) : AcesAt w (.slice (some ⟨g, o', none⟩) (n - k) cap') (l.drop k) := by
  by_cases e : k = l.length
  · exact .inl ⟨by rw [e]; simp, _, _, by rw [hn, e, Nat.sub_self], fun e => by cases e⟩
  · have hlt : k < l.length := by omega
    obtain rfl := ho hlt
    obtain ⟨g', o', cap2, e, h1, h2, h3⟩ := h.at_ (by omega)
    cases e
    refine .inr ⟨g, o + k * 3, cap', by rw [List.length_drop], by rw [List.length_drop]; omega, hc', fun i hi => ?_⟩
    rw [List.length_drop] at hi
    rw [List.getElem_drop, show o + k * 3 + i * 3 = o + (k + i) * 3 by omega]
    exact h3 (k + i) (by omega)
theorem aces_built (w : World) (x : Ace) (t : TypeId) : AcesAt (w.alloc (.cells #[.int .i64 x.1, .int .i64 x.2.1, .int .i64 x.2.2] t)) (.slice (some ⟨w.heap.size, 0, none⟩) 1 1) [x] :=
  .inr ⟨w.heap.size, 0, 1, rfl, by simp, by unfold maxLen; omega, fun i hi => by
    obtain rfl : i = 0 := by simpa using hi
    simp⟩

/-! ### One entry is put in its place -/
def Tail (x : Ace) (m : List Ace) (k : Nat) : Prop := ∀ j (h : j < m.length), k ≤ j → ltA x m[j]
theorem Tail.start (x : Ace) (m : List Ace) : Tail x m m.length := fun j h hk => by omega
theorem Tail.step {x : Ace} {m : List Ace} {k : Nat} (hk : k < m.length) (h : Tail x m (k + 1)) (h1 : ltA x m[k]) : Tail x m k := fun j hj hjk => by
  by_cases e : j = k
  · subst e; exact h1
  · exact h j hj (by omega)
def NotFall (m : List Ace) : Prop := m.Pairwise fun x y => ¬ ltA y x
def Placed (l : List Ace) (i : Nat) (m : List Ace) : Prop := m.Perm (l.take i) ∧ NotFall m ∧ AllOk (l.take i) ∧ m.length = i
theorem ins_ok {x : Ace} {m : List Ace} {k : Nat} (hk : k ≤ m.length) (hm : NotFall m) (ht : Tail x m k) (hb : ∀ h : 0 < k, ¬ ltA x (m[k - 1]'(by omega))) : NotFall (m.take k ++ [x] ++ m.drop k) := by
  unfold NotFall at *
  have e : m.take k ++ m.drop k = m := List.take_append_drop k m
  have hm2 := hm
  rw [← e, List.pairwise_append] at hm2
  have hbefore : ∀ y ∈ m.take k, ¬ ltA x y := by
    intro y hy
    obtain ⟨j, hj, rfl⟩ := List.getElem_of_mem hy
    rw [List.length_take] at hj
    have h0 : 0 < k := by omega
    rw [List.getElem_take]
    by_cases e : j = k - 1
    · subst e; exact hb h0
    · have := List.pairwise_iff_getElem.1 hm j (k - 1) (by omega) (by omega) (by omega)
      have := hb h0
      unfold ltA at *
      omega
  have hafter : ∀ y ∈ m.drop k, ltA x y := by
    intro y hy
    obtain ⟨j, hj, rfl⟩ := List.getElem_of_mem hy
    rw [List.length_drop] at hj
    rw [List.getElem_drop]
    exact ht (k + j) (by omega) (by omega)
  rw [List.append_assoc, List.pairwise_append]
  refine ⟨hm2.1, ?_, ?_⟩
  · rw [List.singleton_append, List.pairwise_cons]
    exact ⟨fun y hy h => by have := hafter y hy; unfold ltA at *; omega, hm2.2.1⟩
  · intro a ha b hb'
    rw [List.singleton_append, List.mem_cons] at hb'
    rcases hb' with rfl | hb'
    · exact hbefore a ha
    · exact hm2.2.2 a ha b hb'
theorem Placed.next {l : List Ace} {i : Nat} {m : List Ace} {k : Nat} (hi : i < l.length) (h : Placed l i m) (ho : OkA l[i]) (hk : k ≤ m.length) (ht : Tail l[i] m k) (hb : ∀ h : 0 < k, ¬ ltA l[i] (m[k - 1]'(by omega))) : Placed l (i + 1) (m.take k ++ [l[i]] ++ m.drop k) := by
  obtain ⟨h1, h2, h3, h4⟩ := h
  refine ⟨?_, ins_ok hk h2 ht hb, allOk_step hi h3 ho, ?_⟩
  · rw [List.take_succ_eq_append_getElem hi]
    have e1 : (m.take k ++ [l[i]] ++ m.drop k).Perm (m ++ [l[i]]) := by
      have : (m.take k ++ [l[i]] ++ m.drop k).Perm (m.take k ++ m.drop k ++ [l[i]]) := by
        rw [List.append_assoc, List.append_assoc]
        exact List.Perm.append_left _ List.perm_append_comm
      rwa [List.take_append_drop] at this
    exact e1.trans (h1.append_right _)
  · simp only [List.length_append, List.length_take, List.length_drop, List.length_cons, List.length_nil]
    omega

set_option maxHeartbeats 4000000 in
set_option maxRecDepth 100000 in
theorem normRef_any (v : Value) (l : List Ace) (w : World) (h : AcesAt w v l) (hl : l.length ≤ 30000) :
    Calls Tryd.prog 9 #[v] w (NormPost l w) := by
  have mixed : Tryd.prog.follows .mixedOrders = true := by kernel_rfl
  obtain ⟨A, c, rfl⟩ := h.form
  go_enter Tryd.func9, Tryd.ntmps9
  go_wp2
  go_loopw [4, 5] (fun mv iv wr => ∃ (i : Nat) (m : List Ace), iv = .int .i64 i ∧ i ≤ l.length ∧ Q w wr ∧ OwnA wr w.heap.size mv m ∧ Hid (Placed l i m)) (fun _ iv _ => l.length - (intOf iv).toNat)
  case atStart => exact ⟨0, [], rfl, by omega, Q.refl _, OwnA.nil_ _ _, List.Perm.refl _, List.Pairwise.nil, (fun x hx => by cases hx), rfl⟩
  case round =>
    obtain ⟨i, m, rfl, hi, hq, hown, H⟩ := hrel
    have hsz := hq.size
    by_cases hlt : i < l.length
    · have lt2 : (i : Int) < (l.length : Int) := by omega
      obtain ⟨g, o, _, ea, _, _, hc⟩ := h.at_ (by omega)
      cases ea
      obtain ⟨e1, e2, e3⟩ := hc i hlt
      have En : Hid (¬ OkA l[i] → ¬ AllOk l) := allOk_not hlt
      have Hn : Hid (OkA l[i] → ∀ k, k ≤ m.length → Tail l[i] m k → (∀ (h : 0 < k) (h' : k ≤ m.length), ¬ ltA l[i] (m[k - 1]'(by omega))) → Placed l (i + 1) (m.take k ++ [l[i]] ++ m.drop k)) := fun ho k hk ht hb => H.out.next hlt ho hk ht (fun h => hb h hk)
      have hml : m.length ≤ 30000 := by have := H.out.2.2.2; omega
      clear hc h H
      generalize l[i] = x at *
      have HE := Lib.hid (fun w => ace_any x w)
      obtain ⟨c1, c2, c3⟩ : wr.cell? ⟨g, o + i * 3, none⟩ = some (.int .i64 x.1) ∧ wr.cell? ⟨g, o + i * 3 + 1, none⟩ = some (.int .i64 x.2.1) ∧ wr.cell? ⟨g, o + i * 3 + 2, none⟩ = some (.int .i64 x.2.2) := ⟨hq.cell e1, hq.cell e2, hq.cell e3⟩
      by_cases hx : OkA x
      · rw [decide_eq_true hx] at HE
        have N := Lib.hid (Hn.out hx)
        clear hx En Hn
        go_wp2_with fail
        refine (HE.out _).mono ?_
        rintro e w1 ⟨rfl, g1⟩
        have hown1 := hown.grew g1
        have hq1 := hq.trans g1.q
        have hf : (∃ gm cm, u4 = .slice (some ⟨gm, 0, none⟩) m.length cm ∧ m.length ≤ cm ∧ cm ≤ maxLen) ∨ u4 = .slice none 0 0 ∧ m = [] := by
          rcases hown1.2 with ⟨e, hn⟩ | ⟨gm, cm, cur, e, _, _, h1, h2, _⟩
          · exact .inr ⟨e, List.eq_nil_of_length_eq_zero hn⟩
          · exact .inl ⟨gm, cm, e, h1, h2⟩
        clear c1 c2 c3 hown hq hsz g1
        rcases hf with ⟨gm, cm, rfl, hcm, hcm2⟩ | ⟨rfl, rfl⟩
        · unfold maxLen at hcm2
          go_wp2_with fail
          go_loopw [6] (fun kv wi => ∃ k : Nat, kv = .int .i64 k ∧ k ≤ m.length ∧ Grew w1 wi ∧ Hid (Tail x m k)) (fun kv _ => (intOf kv).toNat)
          case atStart => exact ⟨m.length, rfl, Nat.le_refl _, Grew.refl _, Tail.start x m⟩
          case round =>
            obtain ⟨k, rfl, hk, g2, T⟩ := hrel
            obtain ⟨c1, c2, c3⟩ : wr.cell? ⟨g, o + i * 3, none⟩ = some (.int .i64 x.1) ∧ wr.cell? ⟨g, o + i * 3 + 1, none⟩ = some (.int .i64 x.2.1) ∧ wr.cell? ⟨g, o + i * 3 + 2, none⟩ = some (.int .i64 x.2.2) := ⟨(hq1.trans g2.q).cell e1, (hq1.trans g2.q).cell e2, (hq1.trans g2.q).cell e3⟩
            by_cases h0 : k = 0
            · subst h0
              have E : Hid (Placed l (i + 1) ([] ++ [x] ++ m)) := Lib.hid (by
                have := N.out 0 (by omega) T.out (fun h => by omega)
                simpa using this)
              have hgb := World.block_lt_of_cell? wr _ c1
              have b1 := cell_grown (a := ⟨g, o + i * 3, none⟩) hgb c1
              have b2 := cell_grown (a := ⟨g, o + i * 3 + 1, none⟩) hgb c2
              have b3 := cell_grown (a := ⟨g, o + i * 3 + 2, none⟩) hgb c3
              clear T
              go_wp2_with fail
              (refine wp_region_quiet_grown (by assumption) (by kernel_rfl) ?_; (repeat (go_big_quiet_step ((fail)))); refine wpQuiet_nil ?_; intro _ hw'; obtain ⟨⟨nq, osq⟩, hw2⟩ := hw'; subst hw2)
              replace g2 : Grew w1 (Go.Sort.grow (wr.drewN nq) osq) := g2.trans ⟨_, _, rfl⟩
              have ca1 := b1 nq osq
              have ca2 := b2 nq osq
              have ca3 := b3 nq osq
              clear b1 b2 b3 c1 c2 c3 hgb
              generalize Go.Sort.grow (wr.drewN nq) osq = wr at *
              have hownW := hown1.grew g2
              have hqW := hq1.trans g2.q
              have hszW := hqW.size
              have mk : AcesAt wr (.slice (some ⟨gm, 0, none⟩) 0 cm) [] := .inl ⟨rfl, _, _, rfl, fun e => by cases e⟩
              have hd : ∀ w', Q wr w' → AcesAt w' (.slice (some ⟨gm, 0, none⟩) m.length cm) m := fun w' q => hownW.aces.keep q
              have hle : (0 : Int) ≤ (m.length : Int) := by omega

              go_wp2_with (at_builtin; refine wpList_append_aces rfl (.tmp 39) (.tmp 42) rfl wr.heap.size _ [] rfl (own_empty wr _ (Nat.le_refl _)) _ [] rfl (mk.keep ((Q.refl wr).alloc _)) (by simp; try omega) (by rw [World.size_alloc]; omega) ?_)
              intro v3 w3 hown3 hg3
              try intro _
              replace hown3 : OwnA w3 wr.heap.size v3 [] := hown3
              have q3 : Q wr w3 := Below.grown ((Q.refl wr).alloc _) hg3 (by rw [World.size_alloc]; omega) fun g hg => by cases hg; exact Nat.le_refl _
              have hsz3 := q3.size
              clear hg3 mk
              obtain ⟨r1, r2, r3⟩ : w3.cell? ⟨g, o + i * 3, none⟩ = some (.int .i64 x.1) ∧ w3.cell? ⟨g, o + i * 3 + 1, none⟩ = some (.int .i64 x.2.1) ∧ w3.cell? ⟨g, o + i * 3 + 2, none⟩ = some (.int .i64 x.2.2) := ⟨q3.cell ca1, q3.cell ca2, q3.cell ca3⟩
              clear ca1 ca2 ca3
              go_wp2_with fail
              go_region_law (first
                | (refine step_append_aces rfl (.tmp 44) (.tmp 49) rfl wr.heap.size v3 [] (by simp [Act.eval]) (World.ownsRow.drew (World.ownsRow.alloc hown3 _)) (.slice (some ⟨w3.heap.size, 0, none⟩) 1 1) [x] (by simp [Act.eval]) ((aces_built w3 x _).keep ((Q.refl _).drew)) (by simp; try omega) (by show _ ≤ (w3.alloc _).heap.size; rw [World.size_alloc]; omega) ?_; intro v5 w5 hown5 hg5)
                | (refine step_append_aces rfl (.tmp 50) (.tmp 53) rfl wr.heap.size v5 ([] ++ [x]) (by simp [Act.eval]) hown5 (.slice (some ⟨gm, 0, none⟩) m.length cm) m (by simp [Act.eval]) (hd w5 (Below.grown ((q3.alloc _).drew) hg5 ((q3.alloc _).drew.size) fun g hg => (hown3.lt g hg).1)) (by simp; try omega) ((Below.grown ((q3.alloc _).drew) hg5 ((q3.alloc _).drew.size) fun g hg => (hown3.lt g hg).1 : Q wr w5).size) ?_; intro v6 w6 hown6 hg6))
              all_goals
                have q5 : Q wr w5 := Below.grown ((q3.alloc _).drew) hg5 ((q3.alloc _).drew.size) fun g hg => (hown3.lt g hg).1
                have q6 : Q wr w6 := Below.grown q5 hg6 q5.size fun g hg => (hown5.lt g hg).1
                have hown7 : OwnA w6 w.heap.size v6 ([] ++ [x] ++ m) := hown6.mono hszW
                clear hown6 hown5 hg6 hg5 hown3 hd q5 q3
                go_wp2
                go_roundw
                case rel => exact ⟨i + 1, _, by go_num, by omega, hqW.trans q6, hown7, E⟩
                case measure => simp [intOf]; omega
            · obtain ⟨j, rfl⟩ : ∃ j, k = j + 1 := ⟨k - 1, by omega⟩
              have hgb := World.block_lt_of_cell? wr _ c1
              have b1 := cell_grown (a := ⟨g, o + i * 3, none⟩) hgb c1
              have b2 := cell_grown (a := ⟨g, o + i * 3 + 1, none⟩) hgb c2
              have b3 := cell_grown (a := ⟨g, o + i * 3 + 2, none⟩) hgb c3
              obtain ⟨gm2, om, cm2, eM, _, _, hmc⟩ := (hown1.grew g2).aces.at_ (by omega)
              cases eM
              obtain ⟨d1, d2, d3⟩ := hmc j (by omega)
              have hgd := World.block_lt_of_cell? wr _ d1
              have f1 : ∀ n os, (Go.Sort.grow (wr.drewN n) os).cell? ⟨gm, j * 3, none⟩ = some (.int .i64 (m[j]'(by omega)).1) := by
                have := cell_grown (a := ⟨gm, 0 + j * 3, none⟩) hgd d1
                simpa using this
              have f2 : ∀ n os, (Go.Sort.grow (wr.drewN n) os).cell? ⟨gm, j * 3 + 1, none⟩ = some (.int .i64 (m[j]'(by omega)).2.1) := by
                have := cell_grown (a := ⟨gm, 0 + j * 3 + 1, none⟩) hgd d2
                simpa using this
              have f3 : ∀ n os, (Go.Sort.grow (wr.drewN n) os).cell? ⟨gm, j * 3 + 2, none⟩ = some (.int .i64 (m[j]'(by omega)).2.2) := by
                have := cell_grown (a := ⟨gm, 0 + j * 3 + 2, none⟩) hgd d3
                simpa using this
              have Tn : Hid (ltA x (m[j]'(by omega)) → Tail x m j) := T.out.step (by omega)
              have NX : Hid (¬ ltA x (m[j]'(by omega)) → Placed l (i + 1) (m.take (j + 1) ++ [x] ++ m.drop (j + 1))) := fun hb => N.out (j + 1) hk T.out (fun h h' => by simpa using hb)
              have HL := Lib.hid (fun w => less_any x (m[j]'(by omega)) w)
              clear hmc T
              generalize m[j]'(by omega) = y at *
              have wr2 : IntKind.i64.wrap (j : Int) = j := IntWalk.i64_in _ (by omega)
              have nn2 : (0 : Int) ≤ (j : Int) := by omega
              have nn3 : (0 : Int) ≤ (j : Int) + 1 := by omega
              have t3 : decide ((0 : Int) < (j : Int) + 1) = true := decide_eq_true (by omega)
              have lt3 : (j : Int) < (m.length : Int) := by omega
              rw [show ((j + 1 : Nat) : Int) = (j : Int) + 1 from rfl] at *
              by_cases hx : ltA x y
              · rw [decide_eq_true hx] at HL
                have E := Lib.hid (Tn.out hx)
                clear hx Tn NX
                go_wp2_with fail
                (refine wp_region_quiet_grown (by assumption) (by kernel_rfl) ?_; (repeat (go_big_quiet_step ((go_at_call 24; exact Grew.calls (HL.out _))))); refine wpQuiet_nil ?_; intro _ hw'; obtain ⟨⟨nq, osq⟩, hw2⟩ := hw'; subst hw2)
                go_wp2
                go_roundw
                case rel => exact ⟨j, by go_num, by omega, g2.trans ⟨_, _, rfl⟩, E⟩
                case measure => simp [intOf]
              · rw [decide_eq_false hx] at HL
                have E := Lib.hid (NX.out hx)
                clear hx Tn NX
                go_wp2_with fail
                (refine wp_region_quiet_grown (by assumption) (by kernel_rfl) ?_; (repeat (go_big_quiet_step ((go_at_call 24; exact Grew.calls (HL.out _))))); refine wpQuiet_nil ?_; intro _ hw'; obtain ⟨⟨nq, osq⟩, hw2⟩ := hw'; subst hw2)
                replace g2 : Grew w1 (Go.Sort.grow (wr.drewN nq) osq) := g2.trans ⟨_, _, rfl⟩
                have ca1 := b1 nq osq
                have ca2 := b2 nq osq
                have ca3 := b3 nq osq
                clear b1 b2 b3 f1 f2 f3 c1 c2 c3 d1 d2 d3 hgb hgd HL
                generalize Go.Sort.grow (wr.drewN nq) osq = wr at *
                have hownW := hown1.grew g2
                have hqW := hq1.trans g2.q
                have hszW := hqW.size
                have mk : AcesAt wr (.slice (some ⟨gm, 0, none⟩) (j + 1) cm) (m.take (j + 1)) := aces_take hownW.aces rfl hk (by omega)
                have hd : ∀ w', Q wr w' → AcesAt w' (.slice (if cm = j + 1 then some ⟨gm, 0, none⟩ else some ⟨gm, (j + 1) * 3, none⟩) (m.length - (j + 1)) (cm - (j + 1))) (m.drop (j + 1)) := fun w' q => by
                  split
                  · exact aces_drop (hownW.aces.keep q) rfl hk _ _ (fun _ => by omega) (by omega) (by unfold maxLen; omega)
                  · exact aces_drop (hownW.aces.keep q) rfl hk _ _ (fun _ => by omega) (by omega) (by unfold maxLen; omega)
                have hle : (j : Int) + 1 ≤ (m.length : Int) := by omega

                go_wp2_with (at_builtin; refine wpList_append_aces rfl (.tmp 39) (.tmp 42) rfl wr.heap.size _ [] rfl (own_empty wr _ (Nat.le_refl _)) _ (m.take (j + 1)) rfl (mk.keep ((Q.refl wr).alloc _)) (by simp; try omega) (by rw [World.size_alloc]; omega) ?_)
                intro v3 w3 hown3 hg3
                try intro _
                replace hown3 : OwnA w3 wr.heap.size v3 (m.take (j + 1)) := hown3
                have q3 : Q wr w3 := Below.grown ((Q.refl wr).alloc _) hg3 (by rw [World.size_alloc]; omega) fun g hg => by cases hg; exact Nat.le_refl _
                have hsz3 := q3.size
                clear hg3 mk
                obtain ⟨r1, r2, r3⟩ : w3.cell? ⟨g, o + i * 3, none⟩ = some (.int .i64 x.1) ∧ w3.cell? ⟨g, o + i * 3 + 1, none⟩ = some (.int .i64 x.2.1) ∧ w3.cell? ⟨g, o + i * 3 + 2, none⟩ = some (.int .i64 x.2.2) := ⟨q3.cell ca1, q3.cell ca2, q3.cell ca3⟩
                clear ca1 ca2 ca3
                go_wp2_with fail
                go_region_law (first
                  | (refine step_append_aces rfl (.tmp 44) (.tmp 49) rfl wr.heap.size v3 (m.take (j + 1)) (by simp [Act.eval]) (World.ownsRow.drew (World.ownsRow.alloc hown3 _)) (.slice (some ⟨w3.heap.size, 0, none⟩) 1 1) [x] (by simp [Act.eval]) ((aces_built w3 x _).keep ((Q.refl _).drew)) (by simp; try omega) (by show _ ≤ (w3.alloc _).heap.size; rw [World.size_alloc]; omega) ?_; intro v5 w5 hown5 hg5)
                  | (refine step_append_aces rfl (.tmp 50) (.tmp 53) rfl wr.heap.size v5 ((m.take (j + 1)) ++ [x]) (by simp [Act.eval]) hown5 (.slice (if cm = j + 1 then some ⟨gm, 0, none⟩ else some ⟨gm, (j + 1) * 3, none⟩) (m.length - (j + 1)) (cm - (j + 1))) (m.drop (j + 1)) (by simp [Act.eval]) (hd w5 (Below.grown ((q3.alloc _).drew) hg5 ((q3.alloc _).drew.size) fun g hg => (hown3.lt g hg).1)) (by simp; try omega) ((Below.grown ((q3.alloc _).drew) hg5 ((q3.alloc _).drew.size) fun g hg => (hown3.lt g hg).1 : Q wr w5).size) ?_; intro v6 w6 hown6 hg6))
                all_goals
                  have q5 : Q wr w5 := Below.grown ((q3.alloc _).drew) hg5 ((q3.alloc _).drew.size) fun g hg => (hown3.lt g hg).1
                  have q6 : Q wr w6 := Below.grown q5 hg6 q5.size fun g hg => (hown5.lt g hg).1
                  have hown7 : OwnA w6 w.heap.size v6 ((m.take (j + 1)) ++ [x] ++ (m.drop (j + 1))) := hown6.mono hszW
                  clear hown6 hown5 hg6 hg5 hown3 hd q5 q3
                  go_wp2
                  go_roundw
                  case rel => exact ⟨i + 1, _, by go_num, by omega, hqW.trans q6, hown7, E⟩
                  case measure => simp [intOf]; omega
        · have E0 : Hid (Placed l (i + 1) ([] ++ [x] ++ [])) := Lib.hid (by
            have := N.out 0 (by omega) (Tail.start x []) (fun h => by omega)
            simpa using this)
          go_wp2_with fail
          go_loopw [6] (fun kv wi => kv = .int .i64 0 ∧ wi = w1) (fun kv _ => (intOf kv).toNat)
          case atStart => exact ⟨rfl, rfl⟩
          case round =>
            obtain ⟨rfl, rfl⟩ := hrel
            have E := E0
            obtain ⟨c1, c2, c3⟩ : wr.cell? ⟨g, o + i * 3, none⟩ = some (.int .i64 x.1) ∧ wr.cell? ⟨g, o + i * 3 + 1, none⟩ = some (.int .i64 x.2.1) ∧ wr.cell? ⟨g, o + i * 3 + 2, none⟩ = some (.int .i64 x.2.2) := ⟨hq1.cell e1, hq1.cell e2, hq1.cell e3⟩
            have hgb := World.block_lt_of_cell? wr _ c1
            have b1 := cell_grown (a := ⟨g, o + i * 3, none⟩) hgb c1
            have b2 := cell_grown (a := ⟨g, o + i * 3 + 1, none⟩) hgb c2
            have b3 := cell_grown (a := ⟨g, o + i * 3 + 2, none⟩) hgb c3
            go_wp2_with fail
            (refine wp_region_quiet_grown (by assumption) (by kernel_rfl) ?_; (repeat (go_big_quiet_step ((fail)))); refine wpQuiet_nil ?_; intro _ hw'; obtain ⟨⟨nq, osq⟩, hw2⟩ := hw'; subst hw2)
            have hqW : Q w (Go.Sort.grow (wr.drewN nq) osq) := hq1.trans (Grew.q ⟨_, _, rfl⟩)
            have ca1 := b1 nq osq
            have ca2 := b2 nq osq
            have ca3 := b3 nq osq
            clear b1 b2 b3 c1 c2 c3 hgb hown1 hq1
            generalize Go.Sort.grow (wr.drewN nq) osq = wr at *
            have hszW := hqW.size
            have mk : AcesAt wr (.slice none 0 0) [] := AcesAt.nil_ _
            have hd : ∀ w', Q wr w' → AcesAt w' (.slice none 0 0) [] := fun w' _ => AcesAt.nil_ _
            go_wp2_with (at_builtin; refine wpList_append_aces rfl (.tmp 39) (.tmp 42) rfl wr.heap.size _ [] rfl (own_empty wr _ (Nat.le_refl _)) _ [] rfl (mk.keep ((Q.refl wr).alloc _)) (by simp; try omega) (by rw [World.size_alloc]; omega) ?_)
            intro v3 w3 hown3 hg3
            try intro _
            replace hown3 : OwnA w3 wr.heap.size v3 [] := hown3
            have q3 : Q wr w3 := Below.grown ((Q.refl wr).alloc _) hg3 (by rw [World.size_alloc]; omega) fun g hg => by cases hg; exact Nat.le_refl _
            have hsz3 := q3.size
            clear hg3 mk
            obtain ⟨r1, r2, r3⟩ : w3.cell? ⟨g, o + i * 3, none⟩ = some (.int .i64 x.1) ∧ w3.cell? ⟨g, o + i * 3 + 1, none⟩ = some (.int .i64 x.2.1) ∧ w3.cell? ⟨g, o + i * 3 + 2, none⟩ = some (.int .i64 x.2.2) := ⟨q3.cell ca1, q3.cell ca2, q3.cell ca3⟩
            clear ca1 ca2 ca3
            go_wp2_with fail
            go_region_law (first
              | (refine step_append_aces rfl (.tmp 44) (.tmp 49) rfl wr.heap.size v3 [] (by simp [Act.eval]) (World.ownsRow.drew (World.ownsRow.alloc hown3 _)) (.slice (some ⟨w3.heap.size, 0, none⟩) 1 1) [x] (by simp [Act.eval]) ((aces_built w3 x _).keep ((Q.refl _).drew)) (by simp; try omega) (by show _ ≤ (w3.alloc _).heap.size; rw [World.size_alloc]; omega) ?_; intro v5 w5 hown5 hg5)
              | (refine step_append_aces rfl (.tmp 50) (.tmp 53) rfl wr.heap.size v5 ([] ++ [x]) (by simp [Act.eval]) hown5 (.slice none 0 0) [] (by simp [Act.eval]) (hd w5 (Below.grown ((q3.alloc _).drew) hg5 ((q3.alloc _).drew.size) fun g hg => (hown3.lt g hg).1)) (by simp; try omega) ((Below.grown ((q3.alloc _).drew) hg5 ((q3.alloc _).drew.size) fun g hg => (hown3.lt g hg).1 : Q wr w5).size) ?_; intro v6 w6 hown6 hg6))
            all_goals
              have q5 : Q wr w5 := Below.grown ((q3.alloc _).drew) hg5 ((q3.alloc _).drew.size) fun g hg => (hown3.lt g hg).1
              have q6 : Q wr w6 := Below.grown q5 hg6 q5.size fun g hg => (hown5.lt g hg).1
              have hown7 : OwnA w6 w.heap.size v6 ([] ++ [x] ++ []) := hown6.mono hszW
              clear hown6 hown5 hg6 hg5 hown3 hd q5 q3
              go_wp2
              go_roundw
              case rel => exact ⟨i + 1, _, by go_num, by omega, hqW.trans q6, hown7, E⟩
              case measure => simp [intOf]; omega
      · rw [decide_eq_false hx] at HE
        have E := Lib.hid (normC_arg (En.out hx))
        clear hx En Hn
        go_wp2_with fail
        refine (HE.out _).mono ?_
        rintro e w1 ⟨rfl, g1⟩
        go_wp2
        go_ret2
        exact post_err E.out (by decide) (hq.trans g1.q)
    · obtain rfl : i = l.length := by omega
      have P := H.out
      have HO := Lib.hid (once_rise (l := l) (r := m) (by have := P.1; rwa [List.take_length] at this) P.2.1)
      have HP : Hid (m.Perm l) := by have := P.1; rwa [List.take_length] at this
      have HA : Hid (AllOk l) := by have := P.2.2.1; rwa [List.take_length] at this
      have hml : m.length = l.length := P.2.2.2
      clear H P
      have hv := hown.aces
      obtain ⟨M, cm, rfl⟩ := hown.form
      have HML := Lib.hid hml
      have hlm : m.length ≤ 30000 := by omega
      clear hml hi hlt
      go_wp2
      go_loopw [8] (fun iv wi => ∃ k : Nat, iv = .int .i64 ((k : Int) + 1) ∧ k ≤ m.length ∧ Grew wr wi ∧ Hid (UpTo m (k + 1))) (fun iv _ => m.length + 1 - (intOf iv).toNat)
      case atStart => exact ⟨0, rfl, by omega, Grew.refl _, UpTo.start m⟩
      case round =>
        obtain ⟨k, rfl, hk, g2, U⟩ := hrel
        have hvw := hv.keep g2.q
        have hqw := hq.trans g2.q
        by_cases hlt : k + 1 < m.length
        · obtain ⟨g, o, _, ea, _, _, hc⟩ := hvw.at_ (by omega)
          cases ea
          obtain ⟨c1, c2, c3⟩ := hc k (by omega)
          obtain ⟨d1, d2, d3⟩ := hc (k + 1) hlt
          have En : Hid (¬ ltA m[k] m[k + 1] → ¬ Rise m) := Rise.not hlt
          have Ey : Hid (ltA m[k] m[k + 1] → UpTo m (k + 2)) := UpTo.step hlt U.out
          have HL := Lib.hid (fun w => less_any m[k] m[k + 1] w)
          clear hc h U hv hvw hown
          generalize m[k] = x at *
          generalize m[k + 1] = y at *
          have hgb := World.block_lt_of_cell? _ _ c1
          have lt1 : (k : Int) + 1 < (m.length : Int) := by omega
          have lt2 : (k : Int) < (m.length : Int) := by omega
          have nn2 : (0 : Int) ≤ (k : Int) := by omega
          have nn3 : (0 : Int) ≤ (k : Int) + 1 := by omega
          have wr2 : IntKind.i64.wrap (k : Int) = k := IntWalk.i64_in _ (by omega)
          have b1 := cell_grown (a := ⟨g, o + k * 3, none⟩) hgb c1
          have b2 := cell_grown (a := ⟨g, o + k * 3 + 1, none⟩) hgb c2
          have b3 := cell_grown (a := ⟨g, o + k * 3 + 2, none⟩) hgb c3
          have e1 := cell_grown (a := ⟨g, o + (k + 1) * 3, none⟩) hgb d1
          have e2 := cell_grown (a := ⟨g, o + (k + 1) * 3 + 1, none⟩) hgb d2
          have e3 := cell_grown (a := ⟨g, o + (k + 1) * 3 + 2, none⟩) hgb d3
          by_cases hx : ltA x y
          · rw [decide_eq_true hx] at HL
            have E := Lib.hid (Ey.out hx)
            clear hx En Ey
            go_wp2_with fail
            (refine wp_region_quiet_grown (by assumption) (by kernel_rfl) ?_; (repeat (go_big_quiet_step ((go_at_call 24; exact Grew.calls (HL.out _))))); refine wpQuiet_nil ?_; intro _ hw'; obtain ⟨⟨nq, osq⟩, hw2⟩ := hw'; subst hw2)
            go_wp2
            go_roundw
            case rel => exact ⟨k + 1, by go_num, by omega, g2.trans ⟨_, _, rfl⟩, E⟩
            case measure => simp [intOf]; omega
          · rw [decide_eq_false hx] at HL
            have E := Lib.hid (normC_exist HA.out (fun o => En.out hx (HO.out.2 o)))
            clear hx En Ey
            go_wp2_with fail
            (refine wp_region_quiet_grown (by assumption) (by kernel_rfl) ?_; (repeat (go_big_quiet_step ((go_at_call 24; exact Grew.calls (HL.out _))))); refine wpQuiet_nil ?_; intro _ hw'; obtain ⟨⟨nq, osq⟩, hw2⟩ := hw'; subst hw2)
            go_wp2
            go_ret2
            exact post_err E.out (by decide) (hqw.trans (Grew.q ⟨_, _, rfl⟩))
        · have R := Lib.hid (U.out.rise (by omega))
          clear U
          by_cases h3 : 16 < m.length
          · have t3 : decide ((16 : Int) < (m.length : Int)) = true := decide_eq_true (by omega)
            have E := Lib.hid (normC_limit HA.out (HO.out.1 R.out) (by have := HML.out; omega))
            clear h3
            go_wp2
            go_ret2
            exact post_err E.out (by decide) hqw
          · have t3 : decide ((16 : Int) < (m.length : Int)) = false := decide_eq_false (by omega)
            have H3 := Lib.hid h3
            clear h3
            have HN := Lib.hid (needs_any _ m _ hvw)
            cases hb : needsB m with
            | true =>
              rw [hb] at HN
              have E := Lib.hid (normC_none HA.out (HO.out.1 R.out) (by have := H3.out; have := HML.out; omega) (by rw [← needs_perm HP.out]; exact hb))
              clear hb
              go_wp2_with fail
              refine HN.out.mono ?_
              rintro e w5 ⟨rfl, rfl⟩
              go_wp2
              go_ret2
              exact post_err E.out (by decide) hqw
            | false =>
              rw [hb] at HN
              have E := Lib.hid (normC_ok HA.out (HO.out.1 R.out) (by have := H3.out; have := HML.out; omega) (by rw [← needs_perm HP.out]; exact hb))
              clear hb
              go_wp2_with fail
              refine HN.out.mono ?_
              rintro e w5 ⟨rfl, rfl⟩
              go_wp2
              go_ret2
              exact post_ok E.out hvw hqw (normR_zero E.out HP.out R.out)
end Go.Proofs.YtcbgchohcinecaaDoor
