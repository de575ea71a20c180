/-
  The contracts of acl.letter and acl.Show.
-/
import Derived.Test.YtcbgchohcinecaaDoorMem
import Derived.Test.YtcbgchohcinecaaDoorLayNum
import Derived.Laws.OwnMore
import Derived.Deep.Onto
import Derived.Laws.IdiomStrings
import Derived.Lib.AppendIntMem
import Derived.Lib.ItoaLen
namespace Go.Proofs.YtcbgchohcinecaaDoor
open Go.RowKit

set_option maxHeartbeats 1000000 in
theorem letter_any (k : Int) (w : World) : Calls Tryd.prog 34 #[.int .i64 k] w fun e w' => e = .returned (.int .u8 ((letterL k).toNat)) ∧ w' = w := by
  by_cases h1 : k = 1
  · subst h1
    go_enter Tryd.func34, Tryd.ntmps34
    go_wp2
    go_ret
    exact ⟨rfl, rfl⟩
  by_cases h2 : k = 2
  · subst h2
    go_enter Tryd.func34, Tryd.ntmps34
    go_wp2
    go_ret
    exact ⟨rfl, rfl⟩
  by_cases h3 : k = 3
  · subst h3
    go_enter Tryd.func34, Tryd.ntmps34
    go_wp2
    go_ret
    exact ⟨rfl, rfl⟩
  · have E : Hid (letterL k = 63) := by unfold letterL; rw [if_neg h1, if_neg h2, if_neg h3]; rfl
    have t1 : (k == 1) = false := beq_eq_false_iff_ne.2 h1
    have t2 : (k == 2) = false := beq_eq_false_iff_ne.2 h2
    have t3 : (k == 3) = false := beq_eq_false_iff_ne.2 h3
    clear h1 h2 h3
    go_enter Tryd.func34, Tryd.ntmps34
    go_wp2
    go_ret
    exact ⟨by rw [E.out]; rfl, rfl⟩

/-! ### Rows of bytes of the call's own -/
def OwnB (w : World) (B : Nat) (v : Value) (l : List UInt8) : Prop := w.ownsRow B 5 1 v l.length (Lib.byteCells l)
theorem OwnB.nil_ (w : World) (B : Nat) : OwnB w B (.slice none 0 0) [] := ⟨rfl, .inl ⟨rfl, rfl⟩⟩
theorem OwnB.alloc {w : World} {B : Nat} {v : Value} {l : List UInt8} (h : OwnB w B v l) (o : Obj) : OwnB (w.alloc o) B v l := World.ownsRow.alloc h o
theorem OwnB.lt {w : World} {B : Nat} {v : Value} {l : List UInt8} (h : OwnB w B v l) (g : Nat) (hg : v.ownBlock = some g) : B ≤ g ∧ g < w.heap.size := World.ownsRow.lt h g hg
theorem info_u8 : (Tryd.prog.info? 5).map (fun i => (i.zero, i.size, i.bytes)) = some (some (.int .u8 0), 1, 1) := by kernel_rfl
theorem wpList_append_byte {ops : Array Oper} {rest : List Oper} {o : Oper} {a : Act} {Q0 : Exit → Act → World → Prop} {w : World} (hw : Region.wanted o (yielded ops a.tmps) = true) (s x : Operand)
    (ho : o.op = .call { callee := .builtin .append, args := #[s, x], argTypes := #[48, 48] })
    (B : Nat) (v : Value) (l : List UInt8) (hs : a.eval s = v) (hown : OwnB w B v l) (g off cap : Nat) (hx : a.eval x = .slice (some ⟨g, off, none⟩) 1 cap) (z : Int) (c : UInt8) (hc : w.cell? ⟨g, off, none⟩ = some (.int .u8 z)) (hz : z = (c.toNat : Int)) (hnl : l.length ≤ 1000000) (hbase : B ≤ w.heap.size)
    (h : ∀ v' w', OwnB w' B v' (l ++ [c]) → w.grownBy w' v.ownBlock → wpList Tryd.prog ops Q0 rest (a.put o.dst v') w') : wpList Tryd.prog ops Q0 (o :: rest) a w := by
  obtain ⟨i0, hi0, hz0, hz1, hz2⟩ := info_parts info_u8
  subst hz
  have hr := run_append_own (P := Tryd.prog) w B 48 o.type 5 i0 _ 1 1 Tryd.underlying48 hi0 hz0 hz1 hz2 rfl (by decide) v l.length (Lib.byteCells l) hown ⟨g, off, none⟩ 1 cap [.int .u8 (c.toNat : Int)] rfl (by
    intro j u hu
    match j, hu with
    | 0, hu =>
      cases hu
      rw [Addr.add_lit]
      exact hc) (by intro u hu; rw [List.mem_singleton.1 hu]; rfl) (by unfold maxLen; omega) (by omega) hbase
  obtain ⟨v', w', hr, a2, a3, a4⟩ := hr
  refine wpList_step fun K hK => ?_
  rw [if_pos hw]
  unfold Oper.wp execOp
  simp only [ho, resolve, invoke, builtin, Sem.run_bind, Sem.run_pure, Result.andThen_ok, List.map_toArray, List.map_cons, List.map_nil, hs, hx, hr]
  exact hK _ _ (h v' w' (by unfold OwnB; rw [List.length_append, show Lib.byteCells (l ++ [c]) = Lib.byteCells l ++ [.int .u8 (c.toNat : Int)] by simp [Lib.byteCells]]; exact a2) a3)
theorem appendInt_any (B : Nat) (v : Value) (l : List UInt8) (i : Int) (w : World) (hi : -9223372036854775808 ≤ i ∧ i ≤ 9223372036854775807) (hown : OwnB w B v l) (hB : B ≤ w.heap.size) (hl : l.length ≤ 1000000) (htab : Lib.TabBelow Tryd.prog B w "internal/strconv.uint64pow10" .u64 Lib.pow10Tab) :
    Calls Tryd.prog 35 #[v, .int .i64 i, .int .i64 10] w fun e w' => ∃ v', e = .returned v' ∧ OwnB w' B v' (l ++ Lib.itoa i) ∧ Below B w w' := by
  have h := Any.strconv_AppendInt_10 YtcbgchohcinecaaDoor.appLay B l.length i hi.1 hi.2 v (Lib.byteCells l) w hown hB (by omega) htab
  refine Calls.mono (P := Tryd.prog) (f := 35) h ?_
  rintro e w' ⟨v', rfl, h1, h2, _⟩
  exact ⟨v', rfl, by unfold OwnB; rw [List.length_append, show Lib.byteCells (l ++ Lib.itoa i) = Lib.byteCells l ++ Lib.byteCells (Lib.itoa i) by simp [Lib.byteCells]]; exact h1, h2⟩
theorem string_own {w : World} {B : Nat} {v : Value} {l : List UInt8} (h : OwnB w B v l) : (convert 48 9 v).run Tryd.prog w = .ok (.string ⟨l.toArray⟩) w := by
  rcases h.2 with ⟨rfl, hn⟩ | ⟨g, cap, cur, rfl, hb, hg, h1, h2, h3, h4⟩
  · obtain rfl := List.eq_nil_of_length_eq_zero hn
    rw [run_convert_bytes_string w 48 9 5 none 0 0 Tryd.underlying48 Tryd.underlying5 Tryd.underlying9]
    rfl
  · exact run_convert_bytes_back w 48 9 5 ⟨g, 0, none⟩ cap l Tryd.underlying48 Tryd.underlying5 Tryd.underlying9 (fun j hj => World.ownsRow.cells h (g := g) rfl j _ (by simp [Lib.byteCells, hj]))

theorem show_next {l : List Ace} {k : Nat} {bs : List UInt8} (hk : k < l.length) (h : bs = showL (l.take k)) : ∀ r, r = bs ++ ((if k = 0 then [] else [32]) ++ showA l[k]) → r = showL (l.take (k + 1)) := by
  intro r e
  rw [e, h, showL_step hk]

set_option maxHeartbeats 8000000 in
set_option maxRecDepth 100000 in
theorem show_any (v : Value) (l : List Ace) (w : World) (h : AcesAt w v l) (hl : l.length ≤ 10000) (hF : ∀ x ∈ l, Fits x) (htab : Lib.TabIs Tryd.prog w "internal/strconv.uint64pow10" .u64 Lib.pow10Tab) :
    Calls Tryd.prog 15 #[v] w fun e w' => e = .returned (.string ⟨(showL l).toArray⟩) ∧ Q w w' := by
  have hT := Lib.tabBelow_of_tabIs htab
  obtain ⟨A, c, rfl⟩ := h.form
  go_enter Tryd.func15, Tryd.ntmps15
  go_wp2
  refine wp_scope_goto 0 (fun a' w' => Q w w' ∧ ∃ (k : Nat) (bv : Value) (bs : List UInt8) (u5 u6 u7 u8 u9 u10 u11 u12 u13 u14 u15 u16 u17 u18 u19 u20 u21 u22 u23 u24 u25 u26 u27 u28 u29 u30 u31 u32 u33 u34 u35 u36 u37 u38 u39 u40 u41 u42 u43 : Value), a' = { tmps := #[.slice A l.length c, undef, .string ⟨#[]⟩, bv, .int .i64 k, u5, u6, u7, u8, u9, u10, u11, u12, u13, u14, u15, u16, u17, u18, u19, u20, u21, u22, u23, u24, u25, u26, u27, u28, u29, u30, u31, u32, u33, u34, u35, u36, u37, u38, u39, u40, u41, u42, u43], defers := [] } ∧ k ≤ l.length ∧ OwnB w' w.heap.size bv bs ∧ bs.length ≤ k * 45 ∧ Hid (bs = showL (l.take k))) (fun a' _ => l.length - (intOf (a'.tmps.getD 4 undef)).toNat) rfl ?_ ?_
  · intro hh
    go_wp2
    go_step3
    rename_i hK
    exact hK _ _ (hh.out _ _ ⟨Q.refl _, 0, _, [], _, _, _, _, _, _, _, _, _, _, _, _, _, _, _, _, _, _, _, _, _, _, _, _, _, _, _, _, _, _, _, _, _, _, _, _, _, _, _, rfl, by omega, OwnB.nil_ _ _, by simp, rfl⟩)
  · rintro a' w' ⟨hq, k, bv, bs, u5, u6, u7, u8, u9, u10, u11, u12, u13, u14, u15, u16, u17, u18, u19, u20, u21, u22, u23, u24, u25, u26, u27, u28, u29, u30, u31, u32, u33, u34, u35, u36, u37, u38, u39, u40, u41, u42, u43, rfl, hk, hown, hbl, H⟩
    by_cases hlt : k < l.length
    · have t1 : ((k : Int) == (l.length : Int)) = false := beq_eq_false_iff_ne.2 (by omega)
      obtain ⟨g, o, _, ea, _, _, hc⟩ := h.at_ (by omega)
      cases ea
      obtain ⟨e1, e2, e3⟩ := hc k hlt
      have hf := hF _ (List.getElem_mem hlt)
      have lt2 : (k : Int) < (l.length : Int) := by omega
      by_cases h0 : k = 0
      · have t2 : decide ((0 : Int) < (k : Int)) = false := decide_eq_false (by omega)
        have t2n : ¬ 0 < k := by omega
        have E : Hid (∀ r, r = bs ++ (([] : List UInt8) ++ showA l[k]) → r = showL (l.take (k + 1))) := by
          have := show_next hlt H.out
          rwa [if_pos h0] at this
        clear h0 hc h H hF
        generalize l[k] = x at *
        unfold showA at E
        obtain ⟨c1, c2, c3⟩ : w'.cell? ⟨g, o + k * 3, none⟩ = some (.int .i64 x.1) ∧ w'.cell? ⟨g, o + k * 3 + 1, none⟩ = some (.int .i64 x.2.1) ∧ w'.cell? ⟨g, o + k * 3 + 2, none⟩ = some (.int .i64 x.2.2) := ⟨hq.cell e1, hq.cell e2, hq.cell e3⟩
        go_wp2_with fail
        refine (letter_any x.1 _).mono ?_
        rintro e w3 ⟨rfl, rfl⟩
        go_wp2_with (at_builtin; refine wpList_append_byte rfl (.tmp 16) (.tmp 23) rfl w.heap.size _ bs rfl (hown.alloc _) _ _ 1 rfl _ (letterL x.1) (by simp) rfl (by omega) (by rw [World.size_alloc]; have := hq.size; omega) ?_)
        intro v4 w4 hown4 hg4
        have hq4 : Q w w4 := Below.grown (hq.alloc _) hg4 (by rw [World.size_alloc]; have := hq.size; omega) fun g hg => (hown.lt g hg).1
        clear hg4 hown
        obtain ⟨d1, d2, d3⟩ : w4.cell? ⟨g, o + k * 3, none⟩ = some (.int .i64 x.1) ∧ w4.cell? ⟨g, o + k * 3 + 1, none⟩ = some (.int .i64 x.2.1) ∧ w4.cell? ⟨g, o + k * 3 + 2, none⟩ = some (.int .i64 x.2.2) := ⟨hq4.cell e1, hq4.cell e2, hq4.cell e3⟩
        clear c1 c2 c3
        go_wp2_with fail
        refine (appendInt_any w.heap.size v4 _ x.2.1 w4 hf.2.1 hown4 hq4.size (by simp; omega) (hT.on hq4)).mono ?_
        rintro e w5 ⟨v5, rfl, hown5, hb5⟩
        have l5 := Lib.itoa_length_le x.2.1 hf.2.1.1 hf.2.1.2
        have hq5 : Q w w5 := Below.trans hq4 hb5
        clear hown4 d1 d2 d3
        go_wp2_with (at_builtin; refine wpList_append_byte rfl (.tmp 32) (.tmp 33) rfl w.heap.size _ _ rfl (hown5.alloc _) _ _ 1 rfl _ 58 (by simp) rfl (by simp; omega) (by rw [World.size_alloc]; have := hq5.size; omega) ?_)
        intro v6 w6 hown6 hg6
        have hq6 : Q w w6 := Below.grown (hq5.alloc _) hg6 (by rw [World.size_alloc]; have := hq5.size; omega) fun g hg => (hown5.lt g hg).1
        clear hg6 hown5
        obtain ⟨d1, d2, d3⟩ : w6.cell? ⟨g, o + k * 3, none⟩ = some (.int .i64 x.1) ∧ w6.cell? ⟨g, o + k * 3 + 1, none⟩ = some (.int .i64 x.2.1) ∧ w6.cell? ⟨g, o + k * 3 + 2, none⟩ = some (.int .i64 x.2.2) := ⟨hq6.cell e1, hq6.cell e2, hq6.cell e3⟩
        go_wp2_with fail
        refine (appendInt_any w.heap.size v6 _ x.2.2 w6 hf.2.2 hown6 hq6.size (by simp; omega) (hT.on hq6)).mono ?_
        rintro e w7 ⟨v7, rfl, hown7, hb7⟩
        have l7 := Lib.itoa_length_le x.2.2 hf.2.2.1 hf.2.2.2
        have hq7 : Q w w7 := Below.trans hq6 hb7
        clear hown6 d1 d2 d3
        go_wp2
        go_step3
        exact ⟨rfl, ⟨hq7, k + 1, _, _, _, _, _, _, _, _, _, _, _, _, _, _, _, _, _, _, _, _, _, _, _, _, _, _, _, _, _, _, _, _, _, _, _, _, _, _, _, _, _, rfl, hlt, hown7, by simp; omega, E.out _ (by simp)⟩, by simp [intOf]; omega⟩
      · have t2 : decide ((0 : Int) < (k : Int)) = true := decide_eq_true (by omega)
        have t2n : 0 < k := by omega
        have E : Hid (∀ r, r = (bs ++ [32]) ++ (([] : List UInt8) ++ showA l[k]) → r = showL (l.take (k + 1))) := by
          have := show_next hlt H.out
          rw [if_neg h0] at this
          intro r hr
          exact this r (by rw [hr]; simp)
        have hk1 : bs.length + 1 ≤ k * 45 + 1 := by omega
        clear h0 hc h H hF
        generalize l[k] = x at *
        unfold showA at E
        go_wp2_with (at_builtin; refine wpList_append_byte rfl (.tmp 13) (.tmp 14) rfl w.heap.size _ bs rfl (hown.alloc _) _ _ 1 rfl _ 32 (by simp) rfl (by omega) (by rw [World.size_alloc]; have := hq.size; omega) ?_)
        intro v2 w2 hown2 hg2
        have hq2 : Q w w2 := Below.grown (hq.alloc _) hg2 (by rw [World.size_alloc]; have := hq.size; omega) fun g hg => (hown.lt g hg).1
        clear hg2 hown hq
        have hq := hq2
        have hown := hown2
        have hbl2 : (bs ++ [32]).length ≤ k * 45 + 1 := by simp; omega
        clear hq2 hown2 hbl hk1
        generalize (bs ++ [32] : List UInt8) = bs at *
        obtain ⟨c1, c2, c3⟩ : w2.cell? ⟨g, o + k * 3, none⟩ = some (.int .i64 x.1) ∧ w2.cell? ⟨g, o + k * 3 + 1, none⟩ = some (.int .i64 x.2.1) ∧ w2.cell? ⟨g, o + k * 3 + 2, none⟩ = some (.int .i64 x.2.2) := ⟨hq.cell e1, hq.cell e2, hq.cell e3⟩
        go_wp2_with fail
        refine (letter_any x.1 _).mono ?_
        rintro e w3 ⟨rfl, rfl⟩
        go_wp2_with (at_builtin; refine wpList_append_byte rfl (.tmp 16) (.tmp 23) rfl w.heap.size _ bs rfl (hown.alloc _) _ _ 1 rfl _ (letterL x.1) (by simp) rfl (by omega) (by rw [World.size_alloc]; have := hq.size; omega) ?_)
        intro v4 w4 hown4 hg4
        have hq4 : Q w w4 := Below.grown (hq.alloc _) hg4 (by rw [World.size_alloc]; have := hq.size; omega) fun g hg => (hown.lt g hg).1
        clear hg4 hown
        obtain ⟨d1, d2, d3⟩ : w4.cell? ⟨g, o + k * 3, none⟩ = some (.int .i64 x.1) ∧ w4.cell? ⟨g, o + k * 3 + 1, none⟩ = some (.int .i64 x.2.1) ∧ w4.cell? ⟨g, o + k * 3 + 2, none⟩ = some (.int .i64 x.2.2) := ⟨hq4.cell e1, hq4.cell e2, hq4.cell e3⟩
        clear c1 c2 c3
        go_wp2_with fail
        refine (appendInt_any w.heap.size v4 _ x.2.1 w4 hf.2.1 hown4 hq4.size (by simp; omega) (hT.on hq4)).mono ?_
        rintro e w5 ⟨v5, rfl, hown5, hb5⟩
        have l5 := Lib.itoa_length_le x.2.1 hf.2.1.1 hf.2.1.2
        have hq5 : Q w w5 := Below.trans hq4 hb5
        clear hown4 d1 d2 d3
        go_wp2_with (at_builtin; refine wpList_append_byte rfl (.tmp 32) (.tmp 33) rfl w.heap.size _ _ rfl (hown5.alloc _) _ _ 1 rfl _ 58 (by simp) rfl (by simp; omega) (by rw [World.size_alloc]; have := hq5.size; omega) ?_)
        intro v6 w6 hown6 hg6
        have hq6 : Q w w6 := Below.grown (hq5.alloc _) hg6 (by rw [World.size_alloc]; have := hq5.size; omega) fun g hg => (hown5.lt g hg).1
        clear hg6 hown5
        obtain ⟨d1, d2, d3⟩ : w6.cell? ⟨g, o + k * 3, none⟩ = some (.int .i64 x.1) ∧ w6.cell? ⟨g, o + k * 3 + 1, none⟩ = some (.int .i64 x.2.1) ∧ w6.cell? ⟨g, o + k * 3 + 2, none⟩ = some (.int .i64 x.2.2) := ⟨hq6.cell e1, hq6.cell e2, hq6.cell e3⟩
        go_wp2_with fail
        refine (appendInt_any w.heap.size v6 _ x.2.2 w6 hf.2.2 hown6 hq6.size (by simp; omega) (hT.on hq6)).mono ?_
        rintro e w7 ⟨v7, rfl, hown7, hb7⟩
        have l7 := Lib.itoa_length_le x.2.2 hf.2.2.1 hf.2.2.2
        have hq7 : Q w w7 := Below.trans hq6 hb7
        clear hown6 d1 d2 d3
        go_wp2
        go_step3
        exact ⟨rfl, ⟨hq7, k + 1, _, _, _, _, _, _, _, _, _, _, _, _, _, _, _, _, _, _, _, _, _, _, _, _, _, _, _, _, _, _, _, _, _, _, _, _, _, _, _, _, _, rfl, hlt, hown7, by simp; omega, E.out _ (by simp)⟩, by simp [intOf]; omega⟩
    · have t1 : ((k : Int) == (l.length : Int)) = true := beq_iff_eq.2 (by omega)
      have E := Lib.hid (show bs = showL l by have := H.out; rwa [List.take_of_length_le (by omega)] at this)
      have hs := string_own hown
      clear H
      go_wp2
      simp only [Exit.jump]
      go_ret
      exact ⟨ret_string (by rw [E.out]), hq⟩
end Go.Proofs.YtcbgchohcinecaaDoor
