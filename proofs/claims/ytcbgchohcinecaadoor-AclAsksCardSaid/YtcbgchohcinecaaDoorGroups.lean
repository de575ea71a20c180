/-
  The contracts of acl.user and acl.ofGroups.
-/
import Derived.Test.YtcbgchohcinecaaDoorInts
import Derived.Laws.OwnMore
import Derived.Deep.Onto
namespace Go.Proofs.YtcbgchohcinecaaDoor
open Go.RowKit

def UserPost (l : List Ace) (who : Int) (w : World) (e : Ending) (w' : World) : Prop :=
  ∃ k : Nat, e = .returned (.int .i64 k) ∧ w' = w ∧ k ≤ l.length ∧ Hid (NoUser who l k) ∧ Hid (∀ h : k < l.length, isUser who l[k] = true)
theorem isUser_yes {who : Int} {x : Ace} (h1 : x.1 = 1) (h2 : x.2.1 = who) : isUser who x = true := by unfold isUser; rw [h1, h2]; simp
theorem isUser_no1 {who : Int} {x : Ace} (h1 : ¬ x.1 = 1) : isUser who x = false := by unfold isUser; simp [h1]
theorem isUser_no2 {who : Int} {x : Ace} (h2 : ¬ x.2.1 = who) : isUser who x = false := by unfold isUser; simp [h2]

set_option maxHeartbeats 1000000 in
theorem user_any (v : Value) (l : List Ace) (who : Int) (w : World) (h : AcesAt w v l) :
    Calls Tryd.prog 29 #[v, .int .i64 who] w (UserPost l who w) := by
  have ll := h.len
  obtain ⟨A, c, rfl⟩ := h.form
  unfold maxLen at ll
  go_enter Tryd.func29, Tryd.ntmps29
  go_wp2
  refine wp_scope_goto 0 (fun a' w' => w' = w ∧ ∃ (k : Nat) (u6 u7 u8 u9 u10 u11 u12 u13 u14 u15 u16 u17 u18 u19 u20 u21 u22 u23 u24 u25 u26 u27 u28 u29 : Value), a' = { tmps := #[.slice A l.length c, .int .i64 who, undef, undef, .int .i64 0, .int .i64 k, u6, u7, u8, u9, u10, u11, u12, u13, u14, u15, u16, u17, u18, u19, u20, u21, u22, u23, u24, u25, u26, u27, u28, u29], defers := [] } ∧ k ≤ l.length ∧ Hid (NoUser who l k)) (fun a' _ => l.length - (intOf (a'.tmps.getD 5 undef)).toNat) rfl ?_ ?_
  · intro hh
    go_wp2
    go_step3
    rename_i hK
    exact hK _ _ (hh.out _ _ ⟨rfl, 0, _, _, _, _, _, _, _, _, _, _, _, _, _, _, _, _, _, _, _, _, _, _, _, _, rfl, by omega, NoUser.zero _ _⟩)
  · rintro a' w' ⟨rfl, k, u6, u7, u8, u9, u10, u11, u12, u13, u14, u15, u16, u17, u18, u19, u20, u21, u22, u23, u24, u25, u26, u27, u28, u29, rfl, hk, H⟩
    by_cases hlt : k < l.length
    · have t1 : ((k : Int) == (l.length : Int)) = false := beq_eq_false_iff_ne.2 (by omega)
      obtain ⟨g, o, _, ea, _, _, hc⟩ := h.at_ (by omega)
      cases ea
      obtain ⟨c1, c2, c3⟩ := hc k hlt
      have En : Hid (isUser who l[k] = true → ∀ h : k < l.length, isUser who l[k] = true) := fun e _ => e
      have Ey : Hid (isUser who l[k] = false → NoUser who l (k + 1)) := NoUser.step hlt H.out
      have X : Hid (∃ x : Ace, x = l[k]) := ⟨_, rfl⟩
      obtain ⟨x, hx⟩ := X.out
      rw [← hx] at c1 c2 c3
      have Ex := Lib.hid hx
      clear hc h hx X
      by_cases h1 : x.1 = 1
      · have t2 : (x.1 == 1) = true := beq_iff_eq.2 h1
        by_cases h2 : x.2.1 = who
        · have t3 : (x.2.1 == who) = true := beq_iff_eq.2 h2
          have E := Lib.hid (En.out (by rw [← Ex.out]; exact isUser_yes h1 h2))
          clear h1 h2 En Ey
          go_wp2
          simp only [Exit.jump]
          go_ret
          exact ⟨k, rfl, rfl, hk, H, E⟩
        · have t3 : (x.2.1 == who) = false := beq_eq_false_iff_ne.2 h2
          have E := Lib.hid (Ey.out (by rw [← Ex.out]; exact isUser_no2 h2))
          clear h1 h2 En Ey H
          go_wp2
          go_step3
          exact ⟨rfl, ⟨rfl, k + 1, _, _, _, _, _, _, _, _, _, _, _, _, _, _, _, _, _, _, _, _, _, _, _, _, rfl, hlt, E⟩, by simp [intOf]; omega⟩
      · have t2 : (x.1 == 1) = false := beq_eq_false_iff_ne.2 h1
        have E := Lib.hid (Ey.out (by rw [← Ex.out]; exact isUser_no1 h1))
        clear h1 En Ey H
        go_wp2
        go_step3
        exact ⟨rfl, ⟨rfl, k + 1, _, _, _, _, _, _, _, _, _, _, _, _, _, _, _, _, _, _, _, _, _, _, _, _, rfl, hlt, E⟩, by simp [intOf]; omega⟩
    · have t1 : ((k : Int) == (l.length : Int)) = true := beq_iff_eq.2 (by omega)
      go_wp2
      simp only [Exit.jump]
      go_ret
      exact ⟨k, rfl, rfl, hk, H, fun h => absurd h hlt⟩

/-! ### Rows of integers of the call's own -/
def OwnI (w : World) (B : Nat) (v : Value) (l : List Int) : Prop := w.ownsRow B 3 1 v l.length (l.map intV)
theorem OwnI.nil_ (w : World) (B : Nat) : OwnI w B (.slice none 0 0) [] := ⟨rfl, .inl ⟨rfl, rfl⟩⟩
theorem OwnI.ints {w : World} {B : Nat} {v : Value} {l : List Int} (h : OwnI w B v l) : IntsAt w v l := IntsAt.of_own h
theorem info_int : (Tryd.prog.info? 3).map (fun i => (i.zero, i.size, i.bytes)) = some (some (.int .i64 0), 1, 8) := by kernel_rfl
theorem ints_built (w : World) (p : Int) (t : TypeId) : IntsAt (w.alloc (.cells #[.int .i64 p] t)) (.slice (some ⟨w.heap.size, 0, none⟩) 1 1) [p] :=
  .inr ⟨w.heap.size, 0, 1, rfl, by simp, by unfold maxLen; omega, fun i hi => by
    obtain rfl : i = 0 := by simpa using hi
    simp⟩
theorem wpList_append_ints {ops : Array Oper} {rest : List Oper} {o : Oper} {a : Act} {Q0 : Exit → Act → World → Prop} {w : World} (hw : Region.wanted o (yielded ops a.tmps) = true) (s x : Operand)
    (ho : o.op = .call { callee := .builtin .append, args := #[s, x], argTypes := #[23, 23] })
    (B : Nat) (v : Value) (l : List Int) (hs : a.eval s = v) (hown : OwnI w B v l) (vx : Value) (p : Int) (hx : a.eval x = vx) (he : IntsAt w vx [p]) (hnl : l.length ≤ 100000) (hbase : B ≤ w.heap.size)
    (h : ∀ v' w', OwnI w' B v' (l ++ [p]) → w.grownBy w' v.ownBlock → wpList Tryd.prog ops Q0 rest (a.put o.dst v') w') : wpList Tryd.prog ops Q0 (o :: rest) a w := by
  obtain ⟨i0, hi0, hz0, hz1, hz2⟩ := info_parts info_int
  rcases he with ⟨e, _⟩ | ⟨g, off, cap, rfl, h1, h2, h3⟩
  · cases e
  · have hr := run_append_own (P := Tryd.prog) w B 23 o.type 3 i0 _ 1 8 Tryd.underlying23 hi0 hz0 hz1 hz2 rfl (by decide) v l.length (l.map intV) hown ⟨g, off, none⟩ 1 cap [intV p] rfl (by
      intro j u hu
      match j, hu with
      | 0, hu =>
        cases hu
        rw [Addr.add_lit]
        exact h3 0 (by simp)) (by intro u hu; rw [List.mem_singleton.1 hu]; rfl) (by unfold maxLen; omega) (by omega) hbase
    obtain ⟨v', w', hr, a2, a3, a4⟩ := hr
    refine wpList_step fun K hK => ?_
    rw [if_pos hw]
    unfold Oper.wp execOp
    simp only [ho, resolve, invoke, builtin, Sem.run_bind, Sem.run_pure, Result.andThen_ok, List.map_toArray, List.map_cons, List.map_nil, hs, hx, List.length_cons, List.length_nil, Nat.zero_add, hr]
    exact hK _ _ (h v' w' (by unfold OwnI; rw [List.length_append, List.map_append]; exact a2) a3)

theorem isGroup_no1 {gs : List Int} {x : Ace} (h1 : ¬ x.1 = 2) : isGroup gs x = false := by unfold isGroup; simp [h1]
theorem isGroup_of {gs : List Int} {x : Ace} (h1 : x.1 = 2) : isGroup gs x = gs.contains x.2.1 := by unfold isGroup; simp [h1]
def Sofar (l : List Ace) (own gid : Int) (gs : List Int) (k : Nat) (ps : List Int) : Prop := ps = permsL (l.take k) own gid gs ∧ ps.length ≤ k + 1
theorem Sofar.no {l : List Ace} {own gid : Int} {gs : List Int} {k : Nat} {ps : List Int} (hk : k < l.length) (h : Sofar l own gid gs k ps) (h1 : isGroup gs l[k] = false) : Sofar l own gid gs (k + 1) ps := by
  refine ⟨?_, by have := h.2; omega⟩
  rw [h.1]
  unfold permsL
  rw [permsG_step gs hk, h1]
  simp
theorem Sofar.yes {l : List Ace} {own gid : Int} {gs : List Int} {k : Nat} {ps : List Int} (hk : k < l.length) (h : Sofar l own gid gs k ps) (h1 : isGroup gs l[k] = true) : Sofar l own gid gs (k + 1) (ps ++ [l[k].2.2]) := by
  refine ⟨?_, by have := h.2; simp; omega⟩
  rw [h.1]
  unfold permsL
  rw [permsG_step gs hk, h1, if_pos rfl, List.append_assoc]
theorem Sofar.start_no {l : List Ace} {own gid : Int} {gs : List Int} (h : gs.contains gid = false) : Sofar l own gid gs 0 [] := by
  refine ⟨?_, by simp⟩
  unfold permsL permsG
  rw [h]
  simp
theorem Sofar.start_yes {l : List Ace} {own gid : Int} {gs : List Int} (h : gs.contains gid = true) : Sofar l own gid gs 0 [own] := by
  refine ⟨?_, by simp⟩
  unfold permsL permsG
  rw [h]
  simp

def GroupsPost (l : List Ace) (own gid : Int) (gs : List Int) (w : World) (e : Ending) (w' : World) : Prop := ∃ v, e = .returned v ∧ OwnI w' w.heap.size v (permsL l own gid gs) ∧ Q w w'

set_option maxHeartbeats 4000000 in
theorem ofGroups_any (v : Value) (l : List Ace) (own gid : Int) (vg : Value) (gs : List Int) (w : World) (h : AcesAt w v l) (hl : l.length ≤ 90000) (hg : IntsAt w vg gs) :
    Calls Tryd.prog 30 #[v, .int .i64 own, .int .i64 gid, vg] w (GroupsPost l own gid gs w) := by
  obtain ⟨A, c, rfl⟩ := h.form
  go_enter Tryd.func30, Tryd.ntmps30
  go_wp2
  refine wp_scope_goto 0 (fun a' w' => Q w w' ∧ ∃ (k : Nat) (pv : Value) (ps : List Int) (u11 u12 u13 u14 u15 u16 u17 u18 u19 u20 u21 u22 u23 u24 u25 u26 u27 u28 u29 u30 u31 u32 u33 u34 u35 u36 u37 u38 u39 u40 u41 u42 u43 u44 u45 u46 u47 : Value), a' = { tmps := #[.slice A l.length c, .int .i64 own, .int .i64 gid, vg, undef, undef, undef, undef, .slice none 0 0, pv, .int .i64 k, u11, u12, u13, u14, u15, u16, u17, u18, u19, u20, u21, u22, u23, u24, u25, u26, u27, u28, u29, u30, u31, u32, u33, u34, u35, u36, u37, u38, u39, u40, u41, u42, u43, u44, u45, u46, u47], defers := [] } ∧ k ≤ l.length ∧ OwnI w' w.heap.size pv ps ∧ Hid (Sofar l own gid gs k ps)) (fun a' _ => l.length - (intOf (a'.tmps.getD 10 undef)).toNat) rfl ?_ ?_
  · intro hh
    have HC := Lib.hid (contains_any vg gs gid w hg)
    cases hb : gs.contains gid with
    | false =>
      rw [hb] at HC
      have E := Lib.hid (Sofar.start_no (l := l) (own := own) hb)
      clear hb
      go_wp2_with fail
      refine HC.out.mono ?_
      rintro e w1 ⟨rfl, rfl⟩
      go_wp2
      go_step3
      rename_i hK
      exact hK _ _ (hh.out _ _ ⟨Q.refl _, 0, _, [], _, _, _, _, _, _, _, _, _, _, _, _, _, _, _, _, _, _, _, _, _, _, _, _, _, _, _, _, _, _, _, _, _, _, _, _, _, rfl, by omega, OwnI.nil_ _ _, E⟩)
    | true =>
      rw [hb] at HC
      have E := Lib.hid (Sofar.start_yes (l := l) (own := own) hb)
      clear hb
      go_wp2_with fail
      refine HC.out.mono ?_
      rintro e w1 ⟨rfl, rfl⟩
      go_wp2_with (at_builtin; refine wpList_append_ints rfl (.tmp 14) (.tmp 16) rfl w1.heap.size _ [] rfl (OwnI.nil_ _ _) _ own rfl (ints_built w1 own _) (by simp) (by simp) ?_)
      intro v2 w2 hown2 hg2
      have hq2 : Q w1 w2 := Below.grown ((Q.refl w1).alloc _) hg2 (by simp) fun g hg => by cases hg
      clear hg2
      go_wp2
      go_step3
      rename_i hK
      exact hK _ _ (hh.out _ _ ⟨hq2, 0, _, _, _, _, _, _, _, _, _, _, _, _, _, _, _, _, _, _, _, _, _, _, _, _, _, _, _, _, _, _, _, _, _, _, _, _, _, _, _, rfl, by omega, hown2, E⟩)
  · rintro a' w' ⟨hq, k, pv, ps, u11, u12, u13, u14, u15, u16, u17, u18, u19, u20, u21, u22, u23, u24, u25, u26, u27, u28, u29, u30, u31, u32, u33, u34, u35, u36, u37, u38, u39, u40, u41, u42, u43, u44, u45, u46, u47, rfl, hk, hown, H⟩
    have hsz := hq.size
    by_cases hlt : k < l.length
    · have t1 : ((k : Int) == (l.length : Int)) = false := beq_eq_false_iff_ne.2 (by omega)
      obtain ⟨g, o, _, ea, _, _, hc⟩ := (h.keep hq).at_ (by omega)
      cases ea
      obtain ⟨c1, c2, c3⟩ := hc k hlt
      have En : Hid (isGroup gs l[k] = true → Sofar l own gid gs (k + 1) (ps ++ [l[k].2.2])) := Sofar.yes hlt H.out
      have Ey : Hid (isGroup gs l[k] = false → Sofar l own gid gs (k + 1) ps) := Sofar.no hlt H.out
      have HC := Lib.hid (contains_any vg gs l[k].2.1 w' (hg.keep hq))
      have lps : ps.length ≤ 100000 := by have := H.out.2; omega
      clear hc h H
      generalize l[k] = x at *
      by_cases h1 : x.1 = 2
      · have t2 : (x.1 == 2) = true := beq_iff_eq.2 h1
        have G := Lib.hid (isGroup_of (gs := gs) h1)
        clear h1
        cases hb : gs.contains x.2.1 with
        | false =>
          rw [hb] at HC G
          have E := Lib.hid (Ey.out G.out)
          clear En Ey hb
          go_wp2_with fail
          refine HC.out.mono ?_
          rintro e w1 ⟨rfl, rfl⟩
          go_wp2
          go_step3
          exact ⟨rfl, ⟨hq, k + 1, _, _, _, _, _, _, _, _, _, _, _, _, _, _, _, _, _, _, _, _, _, _, _, _, _, _, _, _, _, _, _, _, _, _, _, _, _, _, _, rfl, hlt, hown, E⟩, by simp [intOf]; omega⟩
        | true =>
          rw [hb] at HC G
          have E := Lib.hid (En.out G.out)
          clear En Ey hb
          go_wp2_with fail
          refine HC.out.mono ?_
          rintro e w1 ⟨rfl, rfl⟩
          go_wp2_with (at_builtin; refine wpList_append_ints rfl (.tmp 38) (.tmp 44) rfl w.heap.size _ ps rfl (hown.alloc _) _ x.2.2 rfl (ints_built w1 x.2.2 _) lps (by rw [World.size_alloc]; omega) ?_)
          intro v2 w2 hown2 hg2
          have hq2 : Q w w2 := Below.grown (hq.alloc _) hg2 (by rw [World.size_alloc]; omega) fun g hg => (hown.lt g hg).1
          clear hg2
          go_wp2
          go_step3
          exact ⟨rfl, ⟨hq2, k + 1, _, _, _, _, _, _, _, _, _, _, _, _, _, _, _, _, _, _, _, _, _, _, _, _, _, _, _, _, _, _, _, _, _, _, _, _, _, _, _, rfl, hlt, hown2, E⟩, by simp [intOf]; omega⟩
      · have t2 : (x.1 == 2) = false := beq_eq_false_iff_ne.2 h1
        have E := Lib.hid (Ey.out (isGroup_no1 h1))
        clear h1 En Ey HC
        go_wp2
        go_step3
        exact ⟨rfl, ⟨hq, k + 1, _, _, _, _, _, _, _, _, _, _, _, _, _, _, _, _, _, _, _, _, _, _, _, _, _, _, _, _, _, _, _, _, _, _, _, _, _, _, _, rfl, hlt, hown, E⟩, by simp [intOf]; omega⟩
    · have t1 : ((k : Int) == (l.length : Int)) = true := beq_iff_eq.2 (by omega)
      have E := Lib.hid (show ps = permsL l own gid gs by have := H.out.1; rwa [List.take_of_length_le (by omega)] at this)
      clear H
      go_wp2
      simp only [Exit.jump]
      go_ret
      exact ⟨_, rfl, by rw [← E.out]; exact hown, hq⟩
end Go.Proofs.YtcbgchohcinecaaDoor
