/-
  The contracts of node's total, Bytes and lay, and of the library's Clone, Grow and Concat at pieces.
-/
import Derived.Test.YtheobpilmphdjaaGreatNText
import Derived.Lib.AppendZeros
namespace Go.Proofs.YtheobpilmphdjaaGreat.Nd
open Go.RowKit
open Go.Proofs.YtheobpilmphdjaaGreat.Ex.Rng
open Go.Proofs.YtheobpilmphdjaaGreat.Ex (E ExtsAt)

theorem sumX_append (l m : List X) : sumX (l ++ m) = sumX l + sumX m := by
  induction l with
  | nil => simp [sumX]
  | cons p r ih => simp only [List.cons_append, sumX, ih]; omega
theorem sumX_take {l : List X} {k : Nat} (h : k < l.length) : sumX (l.take (k + 1)) = sumX (l.take k) + l[k].2 := by
  rw [List.take_succ_eq_append_getElem h, sumX_append]; simp [sumX]
theorem sumP_take {l : List Pc} {k : Nat} (h : k < l.length) : sumP (l.take (k + 1)) = sumP (l.take k) + l[k].2.size := by
  rw [List.take_succ_eq_append_getElem h, sumP_append]; simp [sumP]
theorem layP_take {xs : List X} {l : List Pc} {k : Nat} (h : k < xs.length) : layP (xs.take k) l ++ [((xs[k].1 : Int), txt l xs[k].1 xs[k].2)] = layP (xs.take (k + 1)) l := by
  rw [List.take_succ_eq_append_getElem h]; unfold layP; rw [List.map_append]; rfl

set_option maxRecDepth 100000 in
set_option maxHeartbeats 2000000 in
theorem total_any (v : Value) (l : List X) (w : World) (h : ExtsAt w v l) (hl : Ok l) (h9 : l.length ≤ 10000) :
    Calls Tryz.prog 30 #[v] w fun e w' => e = .returned (.int .i64 (sumX l : Nat)) ∧ Q w w' := by
  obtain ⟨A, c, rfl⟩ := h.form
  have bM : M = 1099511627776 := rfl
  go_enter Tryz.func30, Tryz.ntmps30
  go_wp2
  go_loopw [3, 5, 8] (fun s _ i wr => ∃ (k n : Nat), i = .int .i64 k ∧ s = .int .i64 (n : Nat) ∧ k ≤ l.length ∧ n ≤ k * 1099511627776 ∧ wr = w ∧ Hid (n = sumX (l.take k))) (fun _ _ i _ => l.length - (intOf i).toNat)
  case atStart => exact ⟨0, 0, rfl, rfl, by omega, by omega, rfl, rfl⟩
  case round =>
    obtain ⟨k, n, rfl, rfl, hk, hn, rfl, H⟩ := hrel
    by_cases hlt : k < l.length
    · obtain ⟨g, og, _, ea, _, _, hc⟩ := h.at_ (by omega)
      obtain ⟨rfl, -, rfl⟩ := Value.slice.inj ea
      have c1 := hc k hlt
      have o1 := hl _ (List.getElem_mem hlt)
      have E1 : Hid (n + l[k].2 = sumX (l.take (k + 1))) := by rw [sumX_take hlt, ← H.out]; rfl
      clear hc H h hl
      generalize l[k] = x at *
      have lt2 : (k : Int) < (l.length : Int) := by omega
      have hb : n + x.2 ≤ (k + 1) * 1099511627776 := by omega
      have hw : IntKind.i64.wrap ((n : Int) + (x.2 : Int)) = ((n + x.2 : Nat) : Int) := by rw [← Int.natCast_add]; exact IntWalk.i64_in _ (by omega)
      generalize n + x.2 = n2 at *
      clear hn
      go_wp2_with fail
      refine (Ex.long_any x _ o1.2).mono ?_
      rintro e w1 ⟨rfl, rfl⟩
      go_wp2
      go_roundw
      case rel => exact ⟨k + 1, n2, by go_num, rfl, by omega, hb, trivial, E1⟩
      case measure => simp [intOf]; omega
    · have E1 : Hid (n = sumX l) := by
        have := H.out
        rwa [List.take_of_length_le (by omega)] at this
      clear H
      go_wp2
      go_ret
      exact ⟨ret_int (by rw [E1.out]), Q.refl _⟩

set_option maxRecDepth 100000 in
set_option maxHeartbeats 4000000 in
theorem lay_any (vx v : Value) (xs : List X) (l : List Pc) (w : World) (hx : ExtsAt w vx xs) (h : PcsAt w v l) (hxl : xs.length ≤ 10000) (hl : l.length ≤ 10000) (hok : ∀ p ∈ l, PcOk p) (hz : ∀ z ∈ xs, z.1 ≤ M ∧ z.2 ≤ 100000) :
    Calls Tryz.prog 31 #[vx, v] w fun e w' => ∃ v', e = .returned v' ∧ OwnP w' w.heap.size v' (layP xs l) ∧ Q w w' := by
  have HT : Hid (∀ z ∈ xs, ∀ w', Q w w' → Calls Tryz.prog 35 #[E z, v] w' fun e w'' => e = .returned (.string (txt l z.1 z.2)) ∧ Q w' w'') := fun z hzz w' q => text_any z v l w' (h.keep q) hl hok (hz z hzz).1 (hz z hzz).2
  obtain ⟨A, c, rfl⟩ := hx.form
  go_enter Tryz.func31, Tryz.ntmps31
  go_wp2
  go_loopw [5, 7, 10] (fun o _ i wr => ∃ (k : Nat) (ns : List Pc), i = .int .i64 k ∧ k ≤ xs.length ∧ OwnP wr w.heap.size o ns ∧ Q w wr ∧ ns.length ≤ k ∧ Hid (ns = layP (xs.take k) l)) (fun _ _ i _ => xs.length - (intOf i).toNat)
  case atStart => exact ⟨0, [], rfl, by omega, OwnR.nil_ _ _ _, Q.refl _, by simp, by rw [List.take_zero]; rfl⟩
  case round =>
    obtain ⟨k, ns, rfl, hk, hown, hq, hn, H⟩ := hrel
    obtain ⟨B, cb, rfl⟩ := hown.form flatP
    by_cases hlt : k < xs.length
    · obtain ⟨g, og, _, ea, _, _, hc⟩ := (hx.keep hq).at_ (by omega)
      obtain ⟨rfl, -, rfl⟩ := Value.slice.inj ea
      have c1 := hc k hlt
      have o1 := hz _ (List.getElem_mem hlt)
      have E1 : Hid (ns ++ [((xs[k].1 : Int), txt l xs[k].1 xs[k].2)] = layP (xs.take (k + 1)) l) := by rw [H.out]; exact layP_take hlt
      have HTk := Lib.hid (HT.out _ (List.getElem_mem hlt))
      clear hc H h hx HT
      generalize xs[k] = z at *
      have lt2 : (k : Int) < (xs.length : Int) := by omega
      go_wp2_with fail
      refine (Ex.at_any z _ o1.1).mono ?_
      rintro e w1 ⟨rfl, rfl⟩
      go_wp2_with fail
      refine (HTk.out _ hq).mono ?_
      rintro e w2 ⟨rfl, q2⟩
      replace hown := hown.keep q2
      replace hq := hq.trans q2
      clear q2 HTk c1
      generalize txt l z.1 z.2 = s at *
      have hsz := hq.size
      go_wp2_with (at_builtin; refine wpList_append_pcs rfl (.tmp 14) (.tmp 21) rfl w.heap.size _ ns rfl (hown.grew (Grew.alloc _ _)) _ [((z.1 : Int), s)] rfl ((own_one flatP 44 w2 w2.heap.size (Nat.le_refl _) ((z.1 : Int), s)).row flatP) (by simp; omega) (by rw [World.size_alloc]; omega) ?_)
      intro v3 w3 hown3 hg3 _
      have hq3 : Q w w3 := Below.grown (hq.alloc _) hg3 (by rw [World.size_alloc]; omega) fun g hg => (hown.lt g hg).1
      have hl3 : (ns ++ [((z.1 : Int), s)]).length ≤ k + 1 := by simp; omega
      generalize ns ++ [((z.1 : Int), s)] = ns3 at hown3 E1 hl3
      clear hg3 hown hsz
      go_wp2
      go_roundw
      case rel => exact ⟨k + 1, ns3, by go_num, by omega, hown3, hq3, hl3, E1⟩
      case measure => simp [intOf]; omega
    · have E1 : Hid (ns = layP xs l) := by
        have := H.out
        rwa [List.take_of_length_le (by omega)] at this
      clear H
      go_wp2
      go_ret
      exact ⟨_, rfl, by rw [← E1.out]; exact hown, hq⟩

set_option maxRecDepth 100000 in
set_option maxHeartbeats 2000000 in
theorem clone_any (v : Value) (l : List Pc) (w : World) (h : PcsAt w v l) (hl : l.length ≤ 10000) :
    Calls Tryz.prog 49 #[v] w fun e w' => ∃ v', e = .returned v' ∧ OwnP w' w.heap.size v' l ∧ Q w w' := by
  have hform : (v = .slice none 0 0 ∧ l = []) ∨ ∃ a c, v = .slice (some a) l.length c := by
    rcases h with ⟨rfl, a, c, rfl, ha⟩ | ⟨g, o, cap, rfl, _⟩
    · cases a with
      | none => rw [ha rfl]; exact .inl ⟨rfl, rfl⟩
      | some a => exact .inr ⟨a, c, rfl⟩
    · exact .inr ⟨_, _, rfl⟩
  have q22 : ∀ (w : World) (a : Option Addr) (n c : Nat), (binOp .eql 26 (.slice a n c) (.slice none 0 0)).run Tryz.prog w = .ok (.bool a.isNone) w := fun w a n c => by
    simp only [binOp]
    simp [run_equal_slice_nil (P := Tryz.prog) w 26 _ a n c Tryz.underlying26]
  rcases hform with ⟨rfl, rfl⟩ | ⟨a, c, rfl⟩
  · go_enter Tryz.func49, Tryz.ntmps49
    go_wp2
    go_ret
    exact ⟨_, rfl, OwnR.nil_ _ _ _, Q.refl _⟩
  · go_enter Tryz.func49, Tryz.ntmps49
    go_wp2_with (at_builtin; refine wpList_append_pcs rfl (.tmp 5) (.tmp 6) rfl w.heap.size _ [] rfl (own_empty 44 w w.heap.size (Nat.le_refl _)) _ l rfl (h.keep ((Q.refl w).alloc _)) (by simp; omega) (by rw [World.size_alloc]; omega) ?_)
    intro v3 w3 hown3 hg3 _
    have hq3 : Q w w3 := Below.grown ((Q.refl w).alloc _) hg3 (by rw [World.size_alloc]; omega) fun g hg => by cases hg; exact Nat.le_refl _
    clear hg3 h
    go_wp2
    go_ret
    exact ⟨_, rfl, hown3, hq3⟩

set_option maxRecDepth 100000 in
theorem cut_p0 (g n c h : Nat) (h2 : h ≤ c) (h3 : ¬ c = 0) (w : World) :
    Sem.run Tryz.prog (Instr.sliceAt 26 (.slice (some ⟨g, 0, none⟩) n c) none (some (.int .i64 (h : Int))) none) w = .ok (.slice (some ⟨g, 0, none⟩) h c) w := by
  rw [run_sliceAt_slice (P := Tryz.prog) w 26 _ _ _ _ Tryz.underlying26, run_slice_h (P := Tryz.prog) w 26 _ n c Tryz.underlying26 .i64 (h : Int) (by omega) (by omega)]
  rw [show Tryz.prog.elem 26 = 44 from by kernel_rfl, Tryz.sizeOf44]
  simp [Result.andThen, sliced, h3, Addr.add_lit]
set_option maxRecDepth 100000 in
theorem cut_pn (h : Nat) (h2 : h = 0) (w : World) :
    Sem.run Tryz.prog (Instr.sliceAt 26 (.slice none 0 0) none (some (.int .i64 (h : Int))) none) w = .ok (.slice none 0 0) w := by
  subst h2
  rw [run_sliceAt_slice (P := Tryz.prog) w 26 _ _ _ _ Tryz.underlying26, run_slice_h (P := Tryz.prog) w 26 _ 0 0 Tryz.underlying26 .i64 ((0 : Nat) : Int) (by omega) (by omega)]
  rw [show Tryz.prog.elem 26 = 44 from by kernel_rfl, Tryz.sizeOf44]
  simp [Result.andThen, sliced]

set_option maxRecDepth 100000 in
set_option maxHeartbeats 2000000 in
theorem grow_any (n : Nat) (w : World) (h0 : 0 < n) (hn : n ≤ 10000) :
    Calls Tryz.prog 50 #[.slice none 0 0, .int .i64 (n : Int)] w fun e w' => ∃ v', e = .returned v' ∧ OwnP w' w.heap.size v' [] ∧ Q w w' := by
  obtain ⟨i0, hi0, hz0, hz1, hz2⟩ := info_parts info_piece
  have hr := fun ty => Lib.run_append_nil_zeros (P := Tryz.prog) w 26 3 ty 44 i0 _ .i64 .i64 Tryz.underlying26 Tryz.underlying3 hi0 hz0 n h0 (by rw [hz1]; decide) (by omega) (by rw [hz2]; omega)
  have hge := grownCap_ge w n 0 44
  have hle := grownCap_le_maxLen w n 0 44 (by unfold maxLen; omega)
  generalize grownCap w n 0 44 = cp at *
  have hk0 := cut_pn 0 rfl
  have hk1 := fun w => cut_p0 w.heap.size n cp 0 (Nat.zero_le _) (by omega) w
  have h0' : (0 : Int) < (n : Int) := by omega
  have how : OwnP (w.drew.alloc (.cells (Builtin.zeroCells (Value.cells (.agg #[.int .i64 0, .string ⟨#[]⟩])) n ++ Builtin.zeroCells (Value.cells (.agg #[.int .i64 0, .string ⟨#[]⟩])) (cp - n)) 44)) w.heap.size (.slice (some ⟨w.heap.size, 0, none⟩) 0 cp) [] := by
    refine ⟨by simp [flatR], .inr ⟨w.heap.size, cp, _, rfl, Nat.le_refl _, by show (w.heap.push _)[w.heap.size]? = _; simp; rfl, Nat.zero_le _, hle, ?_, ?_⟩⟩
    · simp [Builtin.zeroCells, Value.cells]; omega
    · simp [flatR]
  have hq : Q w (w.drew.alloc (.cells (Builtin.zeroCells (Value.cells (.agg #[.int .i64 0, .string ⟨#[]⟩])) n ++ Builtin.zeroCells (Value.cells (.agg #[.int .i64 0, .string ⟨#[]⟩])) (cp - n)) 44)) := (Q.refl w).drew.alloc _
  generalize hW : w.drew.alloc (.cells (Builtin.zeroCells (Value.cells (.agg #[.int .i64 0, .string ⟨#[]⟩])) n ++ Builtin.zeroCells (Value.cells (.agg #[.int .i64 0, .string ⟨#[]⟩])) (cp - n)) 44) = w2 at *
  go_enter Tryz.func50, Tryz.ntmps50
  go_wp2_with (at_builtin; refine Lib.wpList_append_run _ rfl (.tmp 20) (.tmp 21) _ _ rfl _ _ rfl rfl _ _ (hr _) ?_)
  go_ret
  exact ⟨_, rfl, how, hq⟩

/-- Two rows one behind the other: what has come of the first k. -/
def fst2 (a b : List Pc) (k : Nat) : List Pc := if k = 0 then [] else if k = 1 then a else a ++ b
set_option maxRecDepth 100000 in
set_option maxHeartbeats 4000000 in
theorem concat_any (gs : Nat) (va vb : Value) (a b : List Pc) (w : World) (ha : PcsAt w va a) (hb : PcsAt w vb b) (ca : w.cell? ⟨gs, 0, none⟩ = some va) (cb : w.cell? ⟨gs, 1, none⟩ = some vb) (h9 : a.length + b.length ≤ 10000) (h0 : 0 < b.length) :
    Calls Tryz.prog 27 #[.slice (some ⟨gs, 0, none⟩) 2 2] w fun e w' => ∃ v', e = .returned v' ∧ OwnP w' w.heap.size v' (a ++ b) ∧ Q w w' := by
  have HS : Hid (∀ k, k < 2 → ∃ vk lk, w.cell? ⟨gs, k, none⟩ = some vk ∧ PcsAt w vk lk ∧ fst2 a b (k + 1) = fst2 a b k ++ lk ∧ lk.length ≤ 10000) := by
    intro k hk
    have : k = 0 ∨ k = 1 := by omega
    rcases this with rfl | rfl
    · exact ⟨va, a, ca, ha, by simp [fst2], by omega⟩
    · exact ⟨vb, b, cb, hb, by simp [fst2], by omega⟩
  have HL : Hid (∀ k, (fst2 a b k).length ≤ 10000) := by
    intro k
    unfold fst2
    split
    · simp
    · split <;> (try simp) <;> omega
  have HE : fst2 a b 2 = a ++ b := by simp [fst2]
  have HP : 0 < (fst2 a b 2).length := by simp [fst2]; omega
  have H0 : fst2 a b 0 = [] := by simp [fst2]
  replace HE := Lib.hid HE
  replace HP := Lib.hid HP
  replace H0 := Lib.hid H0
  generalize fst2 a b = F at *
  clear ha hb ca cb h0 h9
  go_enter Tryz.func27, Tryz.ntmps27
  go_wp2
  go_loopw [3, 5, 11] (fun s _ i wr => ∃ (k n : Nat), i = .int .i64 k ∧ s = .int .i64 (n : Nat) ∧ k ≤ 2 ∧ n ≤ 10000 ∧ Q w wr ∧ Hid (n = (F k).length)) (fun _ _ i _ => 2 - (intOf i).toNat)
  case atStart => exact ⟨0, 0, rfl, rfl, by omega, by omega, Q.refl _, by rw [H0.out]; rfl⟩
  case round =>
    obtain ⟨k, n, rfl, rfl, hk, hn, hq, H⟩ := hrel
    by_cases hlt : k < 2
    · obtain ⟨vk, lk, c1, hp, hs, hl⟩ := HS.out k hlt
      replace c1 := hq.cell c1
      have E1 : Hid (n + lk.length = (F (k + 1)).length) := by rw [hs, List.length_append, H.out]; rfl
      have hb2 : n + lk.length ≤ 10000 := by rw [E1.out]; exact HL.out _
      obtain ⟨A, c, rfl⟩ := hp.form
      have lt2 : (k : Int) < 2 := by omega
      clear hs H hp
      generalize lk.length = m at *
      go_wp2
      go_roundw
      case rel => exact ⟨k + 1, n + m, by go_num, rfl, by omega, hb2, hq, E1⟩
      case measure => simp [intOf]; omega
    · obtain rfl : k = 2 := by omega
      have hn0 : 0 < n := by rw [H.out]; exact HP.out
      clear H HP
      go_wp2_with fail
      refine (grow_any n _ hn0 hn).mono ?_
      rintro e w2 ⟨v2, rfl, hown, hq2⟩
      replace hown := hown.mono hq.size
      replace hq := hq.trans hq2
      obtain ⟨B, cB, rfl⟩ := hown.form flatP
      clear hq2
      go_wp2
      go_loopw [6, 8, 27] (fun o _ i wi => ∃ (k : Nat) (ns : List Pc), i = .int .i64 k ∧ k ≤ 2 ∧ OwnP wi w.heap.size o ns ∧ Q w wi ∧ ns.length ≤ 10000 ∧ Hid (ns = F k)) (fun _ _ i _ => 2 - (intOf i).toNat)
      case atStart => exact ⟨0, [], rfl, by omega, hown, hq, by simp, H0.out.symm⟩
      case round =>
        obtain ⟨k, ns, rfl, hk, hown, hq, hn, H⟩ := hrel
        obtain ⟨B, cB, rfl⟩ := hown.form flatP
        by_cases hlt : k < 2
        · obtain ⟨vk, lk, c1, hp, hs, hl⟩ := HS.out k hlt
          replace c1 := hq.cell c1
          replace hp := hp.keep hq
          have E1 : Hid (ns ++ lk = F (k + 1)) := by rw [hs, H.out]; rfl
          have hb2 : (ns ++ lk).length ≤ 10000 := by rw [E1.out]; exact HL.out _
          have hb3 : ns.length + lk.length ≤ 100000 := by omega
          have lt2 : (k : Int) < 2 := by omega
          have hsz := hq.size
          clear hs H HL H0 HE
          go_wp2_with (at_builtin; refine wpList_append_pcs rfl (.tmp 31) (.tmp 32) rfl w.heap.size _ ns rfl hown _ lk rfl hp hb3 hsz ?_)
          intro v3 w3 hown3 hg3 _
          have hq3 : Q w w3 := Below.grown hq hg3 hsz fun g hg => (hown.lt g hg).1
          generalize ns ++ lk = ns3 at hown3 E1 hb2
          clear hg3 hown hsz
          go_wp2
          go_roundw
          case rel => exact ⟨k + 1, ns3, by go_num, by omega, hown3, hq3, hb2, E1⟩
          case measure => simp [intOf]; omega
        · obtain rfl : k = 2 := by omega
          have E1 : Hid (ns = a ++ b) := H.out.trans HE.out
          clear H HE H0
          go_wp2
          go_ret
          exact ⟨_, rfl, by rw [← E1.out]; exact hown, hq⟩
end Go.Proofs.YtheobpilmphdjaaGreat.Nd
