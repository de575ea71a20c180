/-
  Pieces in memory; the contracts of node's offset, device, target, Bytes, extents, total.
-/
import Derived.Test.YtheobpilmphdjaaGreatNWr
import Derived.Test.YtheobpilmphdjaaGreatEMay
import Derived.Test.YtheobpilmphdjaaGreatDiff
import Derived.Lib.Bytealg
import Derived.Lib.IndexLaws
namespace Go.Proofs.YtheobpilmphdjaaGreat.Nd
open Go.RowKit
open Go.Proofs.YtheobpilmphdjaaGreat.Ex.Rng

def cellsP (p : Pc) : List Value := [.int .i64 p.1, .string p.2]
theorem flatP : Flat cellsP 2 where
  len _ := rfl
  one x u hu := by
    simp only [cellsP, List.mem_cons, List.not_mem_nil, or_false] at hu
    rcases hu with rfl | rfl <;> rfl
  pos := by decide
abbrev PcsAt (w : World) (v : Value) (l : List Pc) : Prop := RowAt cellsP 2 w v l
abbrev OwnP (w : World) (B : Nat) (v : Value) (l : List Pc) : Prop := OwnR 44 cellsP 2 w B v l
def aggP (p : Pc) : Value := .agg #[.int .i64 p.1, .string p.2]
theorem _root_.Go.Proofs.YtheobpilmphdjaaGreat.RowAt.atP {w : World} {v : Value} {l : List Pc} (h : PcsAt w v l) (hn : 0 < l.length) : ∃ g o cap, v = .slice (some ⟨g, o, none⟩) l.length cap ∧ l.length ≤ cap ∧ cap ≤ maxLen ∧ ∀ i (h : i < l.length), w.cell? ⟨g, o + i * 2, none⟩ = some (.int .i64 l[i].1) ∧ w.cell? ⟨g, o + i * 2 + 1, none⟩ = some (.string l[i].2) := by
  obtain ⟨g, o, cap, e, h1, h2, h3⟩ := h.at_ hn
  exact ⟨g, o, cap, e, h1, h2, fun i hi => ⟨by simpa using h3 i hi 0 (.int .i64 l[i].1) rfl, h3 i hi 1 (.string l[i].2) rfl⟩⟩
theorem info_piece : (Tryz.prog.info? 44).map (fun i => (i.zero, i.size, i.bytes)) = some (some (.agg #[.int .i64 0, .string ⟨#[]⟩]), 2, 24) := by kernel_rfl
theorem run_append_pcs {w : World} (ty : TypeId) (B : Nat) (v : Value) (l : List Pc) (hown : OwnP w B v l) (vx : Value) (m : List Pc) (he : PcsAt w vx m) (hnl : l.length + m.length ≤ 100000) (hbase : B ≤ w.heap.size) :
    ∃ v' w', (Builtin.append_ #[26, 26] ty #[v, vx]).run Tryz.prog w = .ok v' w' ∧ OwnP w' B v' (l ++ m) ∧ w.grownBy w' v.ownBlock ∧ (v' = .slice none 0 0 → l ++ m = []) := by
  obtain ⟨i0, hi0, hz0, hz1, hz2⟩ := info_parts info_piece
  exact run_append_row flatP Tryz.underlying26 hi0 hz0 hz1 hz2 rfl (by decide) ty B v l hown vx m he hnl hbase
/-- .. at an operation that is wanted. -/
theorem wpList_append_pcs {ops : Array Oper} {rest : List Oper} {o : Oper} {a : Act} {Q0 : Exit → Act → World → Prop} {w : World} (hw : Region.wanted o (yielded ops a.tmps) = true) (s x : Operand)
    (ho : o.op = .call { callee := .builtin .append, args := #[s, x], argTypes := #[26, 26] })
    (B : Nat) (v : Value) (l : List Pc) (hs : a.eval s = v) (hown : OwnP w B v l) (vx : Value) (m : List Pc) (hx : a.eval x = vx) (he : PcsAt w vx m) (hnl : l.length + m.length ≤ 100000) (hbase : B ≤ w.heap.size)
    (h : ∀ v' w', OwnP w' B v' (l ++ m) → w.grownBy w' v.ownBlock → (v' = .slice none 0 0 → l ++ m = []) → wpList Tryz.prog ops Q0 rest (a.put o.dst v') w') : wpList Tryz.prog ops Q0 (o :: rest) a w := by
  obtain ⟨v', w', hr, a2, a3, a4⟩ := run_append_pcs o.type B v l hown vx m he hnl hbase
  refine wpList_step fun K hK => ?_
  rw [if_pos hw]
  unfold Oper.wp execOp
  simp only [ho, resolve, invoke, builtin, Sem.run_bind, Sem.run_pure, Result.andThen_ok, List.map_toArray, List.map_cons, List.map_nil, hs, hx, hr]
  exact hK _ _ (h v' w' a2 a3 a4)

/-! ### Small functions -/
def offB (n : Int) : Bool := decide (0 ≤ n ∧ n ≤ 1099511627776)
set_option maxRecDepth 100000 in
set_option maxHeartbeats 400000 in
theorem offset_any (n : Int) (w : World) : Calls Tryz.prog 26 #[.int .i64 n] w fun e w' => e = .returned (.bool (offB n)) ∧ w' = w := by
  by_cases h1 : 0 ≤ n
  · by_cases h2 : n ≤ 1099511627776
    · have E : Hid (offB n = true) := decide_eq_true ⟨h1, h2⟩
      go_enter Tryz.func26, Tryz.ntmps26
      go_wp2
      go_ret
      exact ⟨ret_bool E.out.symm, rfl⟩
    · have E : Hid (offB n = false) := decide_eq_false fun h => h2 h.2
      go_enter Tryz.func26, Tryz.ntmps26
      go_wp2
      go_ret
      exact ⟨ret_bool E.out.symm, rfl⟩
  · have E : Hid (offB n = false) := decide_eq_false fun h => h1 h.1
    go_enter Tryz.func26, Tryz.ntmps26
    go_wp2
    go_ret
    exact ⟨ret_bool E.out.symm, rfl⟩
def devB (n : Int) : Bool := decide (0 ≤ n ∧ n ≤ 65535)
set_option maxRecDepth 100000 in
set_option maxHeartbeats 400000 in
theorem device_any (n : Int) (w : World) : Calls Tryz.prog 39 #[.int .i64 n] w fun e w' => e = .returned (.bool (devB n)) ∧ w' = w := by
  by_cases h1 : 0 ≤ n
  · by_cases h2 : n ≤ 65535
    · have E : Hid (devB n = true) := decide_eq_true ⟨h1, h2⟩
      go_enter Tryz.func39, Tryz.ntmps39
      go_wp2
      go_ret
      exact ⟨ret_bool E.out.symm, rfl⟩
    · have E : Hid (devB n = false) := decide_eq_false fun h => h2 h.2
      go_enter Tryz.func39, Tryz.ntmps39
      go_wp2
      go_ret
      exact ⟨ret_bool E.out.symm, rfl⟩
  · have E : Hid (devB n = false) := decide_eq_false fun h => h1 h.1
    go_enter Tryz.func39, Tryz.ntmps39
    go_wp2
    go_ret
    exact ⟨ret_bool E.out.symm, rfl⟩
set_option maxRecDepth 100000 in
set_option maxHeartbeats 1000000 in
theorem indexByte_any (s : ByteArray) (c : Int) (w : World) : Calls Tryz.prog 58 #[.string s, .int .u8 c] w fun e w' => e = .returned (.int .i64 (Lib.indexByte s.data.toList c.toNat.toUInt8)) ∧ w' = w := by
  have inner : ∀ w, Calls Tryz.prog 76 #[.string s, .int .u8 c] w fun e w' => e = .returned (.int .i64 (Lib.indexByte s.data.toList c.toNat.toUInt8)) ∧ w' = w := by
    intro w
    go_enter Tryz.func76, Tryz.ntmps76
    go_wp2_with fail
    rw [run_callFunc_extern Tryz.func90 (by kernel_rfl) (by kernel_rfl) (by kernel_rfl) (e := Extern.BytealgIndexByte.indexByte) (by kernel_rfl), Lib.run_indexByteString]
    simp only [Result.andThen]
    rw [Oper.upon_value]
    go_wp2
    go_ret
    exact ⟨rfl, rfl⟩
  go_enter Tryz.func58, Tryz.ntmps58
  go_wp2_with fail
  refine (inner _).mono ?_
  rintro e w1 ⟨rfl, rfl⟩
  go_wp2
  go_ret
  exact ⟨rfl, rfl⟩
def tgtB (s : ByteArray) : Bool := decide (1 ≤ (s.size : Int)) && decide ((s.size : Int) ≤ 200) && decide (Lib.indexByte s.data.toList 0 < 0)
set_option maxRecDepth 100000 in
set_option maxHeartbeats 1000000 in
theorem target_any (s : ByteArray) (w : World) : Calls Tryz.prog 38 #[.string s] w fun e w' => e = .returned (.bool (tgtB s)) ∧ w' = w := by
  have E0 : Hid (tgtB s = (decide (1 ≤ (s.size : Int)) && decide ((s.size : Int) ≤ 200) && decide (Lib.indexByte s.data.toList 0 < 0))) := rfl
  have HI := Lib.hid (fun w => indexByte_any s 0 w)
  generalize tgtB s = r at *
  by_cases h1 : 1 ≤ (s.size : Int)
  · have t1 : decide (1 ≤ (s.size : Int)) = true := decide_eq_true h1
    rw [t1] at E0
    clear h1
    by_cases h2 : (s.size : Int) ≤ 200
    · have t2 : decide ((s.size : Int) ≤ 200) = true := decide_eq_true h2
      rw [t2] at E0
      clear h2
      go_enter Tryz.func38, Tryz.ntmps38
      go_wp2_with fail
      refine (HI.out _).mono ?_
      rintro e w1 ⟨rfl, rfl⟩
      go_wp2
      all_goals
        go_ret
        exact ⟨ret_bool (by rw [E0.out]; simp_all), rfl⟩
    · have t2 : decide ((s.size : Int) ≤ 200) = false := decide_eq_false h2
      rw [t2] at E0
      clear h2
      go_enter Tryz.func38, Tryz.ntmps38
      go_wp2
      go_ret
      exact ⟨ret_bool (by rw [E0.out]; simp), rfl⟩
  · have t1 : decide (1 ≤ (s.size : Int)) = false := decide_eq_false h1
    rw [t1] at E0
    clear h1
    go_enter Tryz.func38, Tryz.ntmps38
    go_wp2
    go_ret
    exact ⟨ret_bool (by rw [E0.out]; simp), rfl⟩

/-! ### extents -/
open Go.Proofs.YtheobpilmphdjaaGreat.Ex (E ExtsAt)
theorem info_c : (Tryz.prog.info? 57).map (fun i => (i.zero, i.size, i.bytes)) = some (some (.complex .f64 0 0), 1, 16) := by kernel_rfl
theorem map_take {l : List Pc} {k : Nat} (h : k < l.length) : (l.take k).map xOf ++ [xOf l[k]] = (l.take (k + 1)).map xOf := by
  rw [List.take_succ_eq_append_getElem h, List.map_append]; rfl

set_option maxRecDepth 100000 in
set_option maxHeartbeats 2000000 in
theorem extents_any (v : Value) (l : List Pc) (w : World) (h : PcsAt w v l) (hl : l.length ≤ 10000) :
    Calls Tryz.prog 29 #[v] w fun e w' => ∃ v', e = .returned v' ∧ w'.ownsRow w.heap.size 57 1 v' l.length ((l.map xOf).map E) ∧ Q w w' := by
  obtain ⟨A, c, rfl⟩ := h.form
  obtain ⟨i0, hi0, hz0, hz1, hz2⟩ := info_parts info_c
  go_enter Tryz.func29, Tryz.ntmps29
  go_wp2
  go_loopw [3, 5, 8] (fun o _ i wr => ∃ (k : Nat) (ns : List X), i = .int .i64 k ∧ k ≤ l.length ∧ wr.ownsRow w.heap.size 57 1 o k (ns.map E) ∧ Q w wr ∧ ns.length = k ∧ Hid (ns = (l.take k).map xOf)) (fun _ _ i _ => l.length - (intOf i).toNat)
  case atStart => exact ⟨0, [], rfl, by omega, World.ownsRow_nil _ _ _ _, Q.refl _, rfl, rfl⟩
  case round =>
    obtain ⟨k, ns, rfl, hk, hown, hq, hn, H⟩ := hrel
    obtain ⟨B, cb, rfl⟩ := own_form hown
    by_cases hlt : k < l.length
    · obtain ⟨g, og, _, ea, _, _, hc⟩ := (h.keep hq).atP (by omega)
      cases ea
      obtain ⟨c1, c2⟩ := hc k hlt
      have E1 : Hid (ns ++ [xOf l[k]] = (l.take (k + 1)).map xOf) := by rw [H.out]; exact map_take hlt
      have HO := Lib.hid (fun w => Ex.of_any l[k].1 (l[k].2.size : Int) w)
      have HX : Hid ((limN l[k].1, limN (l[k].2.size : Int)) = xOf l[k]) := rfl
      clear hc H h
      generalize l[k] = x at *
      have hsz := hq.size
      go_wp2_with fail
      refine (HO.out _).mono ?_
      rintro e w1 ⟨rfl, rfl⟩
      rw [HX.out]
      generalize xOf x = y at *
      obtain ⟨y1, y2, hE⟩ : ∃ a b, E y = .complex .f64 a b := ⟨_, _, rfl⟩
      rw [hE]
      clear HO HX
      have own2 := hown.alloc (.cells #[.int .i64 x.1, .string x.2] 44)
      have q2 := hq.alloc (.cells #[.int .i64 x.1, .string x.2] 44)
      go_wp2_with (at_builtin; refine wpList_append_own _ rfl (.tmp 12) (.tmp 19) 40 rfl w.heap.size 57 i0 _ 1 16 Tryz.underlying40 hi0 hz0 hz1 hz2 rfl (by decide) _ k _ rfl (own2.alloc _) ⟨_, 0, none⟩ 1 1 [.complex .f64 y1 y2] rfl rfl ?c1 ?c2 ?c3 ?c4 ?c5 ?_)
      case c1 =>
        intro j u hj
        have := cell_one_new (wr.alloc (.cells #[.int .i64 x.1, .string x.2] 44)) (.complex .f64 y1 y2) 57 j u hj
        rw [World.size_alloc] at this
        exact this
      case c2 => intro u hu; rw [List.mem_singleton.1 hu]; rfl
      case c3 => unfold maxLen; omega
      case c4 => omega
      case c5 => rw [World.size_alloc, World.size_alloc]; omega
      intro v2 w2 hown2 hg2 _
      have hq2 : Q w w2 := Below.grown (q2.alloc _) hg2 (by rw [World.size_alloc, World.size_alloc]; omega) fun g hg => (hown.lt g hg).1
      rw [show ns.map E ++ [.complex .f64 y1 y2] = (ns ++ [y]).map E from by rw [← hE]; simp] at hown2
      have hl2 : (ns ++ [y]).length = k + 1 := by simp [hn]
      generalize ns ++ [y] = ns2 at hown2 E1 hl2
      clear hg2 hown hsz hE own2 q2
      go_wp2
      go_roundw
      case rel => exact ⟨k + 1, ns2, by go_num, by omega, hown2, hq2, hl2, E1⟩
      case measure => simp [intOf]; omega
    · have e1 : k = l.length := by omega
      have E1 := H.out
      rw [List.take_of_length_le (by omega)] at E1
      rw [E1, e1] at hown
      clear H E1
      subst e1
      go_wp2
      go_ret
      exact ⟨_, rfl, hown, hq⟩
end Go.Proofs.YtheobpilmphdjaaGreat.Nd
