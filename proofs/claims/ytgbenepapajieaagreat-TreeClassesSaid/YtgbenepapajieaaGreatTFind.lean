/-
  append to rows of strings, numbers, entries and nodes. slices.Sorted(slices.Values(l)) at strings: a new row with the same strings. The contracts of slices.Values, Sorted and Compact at strings. The contracts of tree.Find, Kids, Class, Bytes.
-/
import Derived.Test.YtgbenepapajieaaGreatTMem
import Derived.RangeFuncNested
import Derived.RangeFuncBound
import Derived.RangeFuncCalls
import Derived.RangeFuncLeaves
import Derived.RangeFuncBox
import Derived.Shelf.Abstract
import Derived.WalkKit
import Derived.OwnWalkIn
import Derived.TacticsInMore
import Derived.LoopNIn
import Derived.LoopIn
import Derived.Maps.AppendAt
import Derived.Lib.OwnBridge
import Derived.Lib.RowBridge
import Derived.Sort.OwnSorted
import Derived.Deep.QuietTactic
import Derived.BigQuiet
namespace Go.Proofs.YtgbenepapajieaaGreat.Tr
open Go.RowKit
open Go.Proofs.YtgbenepapajieaaGreat.Nd (Nd mayN sumP nodeV NodeAt PcsAt)

def cellsS (s : ByteArray) : List Value := [.string s]
theorem flatS : Flat cellsS 1 where
  len _ := rfl
  one e u hu := by simp only [cellsS, List.mem_cons, List.not_mem_nil, or_false] at hu; rcases hu with rfl; rfl
  pos := by decide
theorem flatR_S (l : List ByteArray) : flatR cellsS l = l.map Value.string := by
  induction l with
  | nil => rfl
  | cons x r ih => unfold flatR at *; rw [List.flatMap_cons, ih]; rfl
def cellsI (n : Int) : List Value := [.int .i64 n]
theorem flatI : Flat cellsI 1 where
  len _ := rfl
  one e u hu := by simp only [cellsI, List.mem_cons, List.not_mem_nil, or_false] at hu; rcases hu with rfl; rfl
  pos := by decide
abbrev OwnS (w : World) (B : Nat) (v : Value) (l : List ByteArray) : Prop := OwnR 9 cellsS 1 w B v l
abbrev OwnI (w : World) (B : Nat) (v : Value) (l : List Int) : Prop := OwnR 3 cellsI 1 w B v l
abbrev OwnE (w : World) (B : Nat) (v : Value) (l : List Ent) : Prop := OwnR 49 cellsE 2 w B v l
abbrev OwnN (w : World) (B : Nat) (v : Value) (l : List NV) : Prop := OwnR 47 cellsN 12 w B v l
theorem OwnS.strs {w : World} {B : Nat} {v : Value} {l : List ByteArray} (h : OwnS w B v l) : Pa.StrsAt w v l := by
  have h' := h
  unfold OwnS OwnR at h'
  rw [flatR_S] at h'
  exact Pa.StrsAt.of_own h'

theorem info_str : (Tryz.prog.info? 9).map (fun i => (i.zero, i.size, i.bytes)) = some (some (.string ⟨#[]⟩), 1, 16) := by kernel_rfl
theorem run_append_str {w : World} (ty : TypeId) (B : Nat) (v : Value) (l : List ByteArray) (hown : OwnS w B v l) (vx : Value) (m : List ByteArray) (he : RowAt cellsS 1 w vx m) (hnl : l.length + m.length ≤ 100000) (hbase : B ≤ w.heap.size) :
    ∃ v' w', (Builtin.append_ #[26, 26] ty #[v, vx]).run Tryz.prog w = .ok v' w' ∧ OwnS w' B v' (l ++ m) ∧ w.grownBy w' v.ownBlock ∧ (v' = .slice none 0 0 → l ++ m = []) := by
  obtain ⟨i0, hi0, hz0, hz1, hz2⟩ := info_parts info_str
  exact run_append_row flatS Tryz.underlying26 hi0 hz0 hz1 hz2 rfl (by decide) ty B v l hown vx m he hnl hbase
/-- .. at an operation that is wanted. -/
theorem wpList_append_str {ops : Array Oper} {rest : List Oper} {o : Oper} {a : Act} {Q0 : Exit → Act → World → Prop} {w : World} (hw : Region.wanted o (yielded ops a.tmps) = true) (s x : Operand)
    (ho : o.op = .call { callee := .builtin .append, args := #[s, x], argTypes := #[26, 26] })
    (B : Nat) (v : Value) (l : List ByteArray) (hs : a.eval s = v) (hown : OwnS w B v l) (vx : Value) (m : List ByteArray) (hx : a.eval x = vx) (he : RowAt cellsS 1 w vx m) (hnl : l.length + m.length ≤ 100000) (hbase : B ≤ w.heap.size)
    (h : ∀ v' w', OwnS w' B v' (l ++ m) → w.grownBy w' v.ownBlock → (v' = .slice none 0 0 → l ++ m = []) → wpList Tryz.prog ops Q0 rest (a.put o.dst v') w') : wpList Tryz.prog ops Q0 (o :: rest) a w := by
  obtain ⟨v', w', hr, a2, a3, a4⟩ := run_append_str o.type B v l hown vx m he hnl hbase
  refine wpList_step fun K hK => ?_
  rw [if_pos hw]
  unfold Oper.wp execOp
  simp only [ho, resolve, invoke, builtin, Sem.run_bind, Sem.run_pure, Result.andThen_ok, List.map_toArray, List.map_cons, List.map_nil, hs, hx, hr]
  exact hK _ _ (h v' w' a2 a3 a4)

theorem info_int : (Tryz.prog.info? 3).map (fun i => (i.zero, i.size, i.bytes)) = some (some (.int .i64 0), 1, 8) := by kernel_rfl
theorem run_append_int {w : World} (ty : TypeId) (B : Nat) (v : Value) (l : List Int) (hown : OwnI w B v l) (vx : Value) (m : List Int) (he : RowAt cellsI 1 w vx m) (hnl : l.length + m.length ≤ 100000) (hbase : B ≤ w.heap.size) :
    ∃ v' w', (Builtin.append_ #[39, 39] ty #[v, vx]).run Tryz.prog w = .ok v' w' ∧ OwnI w' B v' (l ++ m) ∧ w.grownBy w' v.ownBlock ∧ (v' = .slice none 0 0 → l ++ m = []) := by
  obtain ⟨i0, hi0, hz0, hz1, hz2⟩ := info_parts info_int
  exact run_append_row flatI Tryz.underlying39 hi0 hz0 hz1 hz2 rfl (by decide) ty B v l hown vx m he hnl hbase
/-- .. at an operation that is wanted. -/
theorem wpList_append_int {ops : Array Oper} {rest : List Oper} {o : Oper} {a : Act} {Q0 : Exit → Act → World → Prop} {w : World} (hw : Region.wanted o (yielded ops a.tmps) = true) (s x : Operand)
    (ho : o.op = .call { callee := .builtin .append, args := #[s, x], argTypes := #[39, 39] })
    (B : Nat) (v : Value) (l : List Int) (hs : a.eval s = v) (hown : OwnI w B v l) (vx : Value) (m : List Int) (hx : a.eval x = vx) (he : RowAt cellsI 1 w vx m) (hnl : l.length + m.length ≤ 100000) (hbase : B ≤ w.heap.size)
    (h : ∀ v' w', OwnI w' B v' (l ++ m) → w.grownBy w' v.ownBlock → (v' = .slice none 0 0 → l ++ m = []) → wpList Tryz.prog ops Q0 rest (a.put o.dst v') w') : wpList Tryz.prog ops Q0 (o :: rest) a w := by
  obtain ⟨v', w', hr, a2, a3, a4⟩ := run_append_int o.type B v l hown vx m he hnl hbase
  refine wpList_step fun K hK => ?_
  rw [if_pos hw]
  unfold Oper.wp execOp
  simp only [ho, resolve, invoke, builtin, Sem.run_bind, Sem.run_pure, Result.andThen_ok, List.map_toArray, List.map_cons, List.map_nil, hs, hx, hr]
  exact hK _ _ (h v' w' a2 a3 a4)

theorem info_ent : (Tryz.prog.info? 49).map (fun i => (i.zero, i.size, i.bytes)) = some (some (.agg #[.string ⟨#[]⟩, .int .i64 0]), 2, 24) := by kernel_rfl
theorem run_append_ent {w : World} (ty : TypeId) (B : Nat) (v : Value) (l : List Ent) (hown : OwnE w B v l) (vx : Value) (m : List Ent) (he : RowAt cellsE 2 w vx m) (hnl : l.length + m.length ≤ 100000) (hbase : B ≤ w.heap.size) :
    ∃ v' w', (Builtin.append_ #[22, 22] ty #[v, vx]).run Tryz.prog w = .ok v' w' ∧ OwnE w' B v' (l ++ m) ∧ w.grownBy w' v.ownBlock ∧ (v' = .slice none 0 0 → l ++ m = []) := by
  obtain ⟨i0, hi0, hz0, hz1, hz2⟩ := info_parts info_ent
  exact run_append_row flatE Tryz.underlying22 hi0 hz0 hz1 hz2 rfl (by decide) ty B v l hown vx m he hnl hbase
/-- .. at an operation that is wanted. -/
theorem wpList_append_ent {ops : Array Oper} {rest : List Oper} {o : Oper} {a : Act} {Q0 : Exit → Act → World → Prop} {w : World} (hw : Region.wanted o (yielded ops a.tmps) = true) (s x : Operand)
    (ho : o.op = .call { callee := .builtin .append, args := #[s, x], argTypes := #[22, 22] })
    (B : Nat) (v : Value) (l : List Ent) (hs : a.eval s = v) (hown : OwnE w B v l) (vx : Value) (m : List Ent) (hx : a.eval x = vx) (he : RowAt cellsE 2 w vx m) (hnl : l.length + m.length ≤ 100000) (hbase : B ≤ w.heap.size)
    (h : ∀ v' w', OwnE w' B v' (l ++ m) → w.grownBy w' v.ownBlock → (v' = .slice none 0 0 → l ++ m = []) → wpList Tryz.prog ops Q0 rest (a.put o.dst v') w') : wpList Tryz.prog ops Q0 (o :: rest) a w := by
  obtain ⟨v', w', hr, a2, a3, a4⟩ := run_append_ent o.type B v l hown vx m he hnl hbase
  refine wpList_step fun K hK => ?_
  rw [if_pos hw]
  unfold Oper.wp execOp
  simp only [ho, resolve, invoke, builtin, Sem.run_bind, Sem.run_pure, Result.andThen_ok, List.map_toArray, List.map_cons, List.map_nil, hs, hx, hr]
  exact hK _ _ (h v' w' a2 a3 a4)

theorem info_node : (Tryz.prog.info? 47).map (fun i => (i.zero, i.size, i.bytes)) = some (some (.agg #[.int .i64 0, .int .i64 0, .int .i64 0, .int .i64 0, .int .i64 0, .slice none 0 0, .slice none 0 0, .int .i64 0, .slice none 0 0, .string ⟨#[]⟩, .int .i64 0, .int .i64 0]), 12, 152) := by kernel_rfl
theorem run_append_node {w : World} (ty : TypeId) (B : Nat) (v : Value) (l : List NV) (hown : OwnN w B v l) (vx : Value) (m : List NV) (he : RowAt cellsN 12 w vx m) (hnl : l.length + m.length ≤ 100000) (hbase : B ≤ w.heap.size) :
    ∃ v' w', (Builtin.append_ #[23, 23] ty #[v, vx]).run Tryz.prog w = .ok v' w' ∧ OwnN w' B v' (l ++ m) ∧ w.grownBy w' v.ownBlock ∧ (v' = .slice none 0 0 → l ++ m = []) := by
  obtain ⟨i0, hi0, hz0, hz1, hz2⟩ := info_parts info_node
  exact run_append_row flatN Tryz.underlying23 hi0 hz0 hz1 hz2 rfl (by decide) ty B v l hown vx m he hnl hbase
/-- .. at an operation that is wanted. -/
theorem wpList_append_node {ops : Array Oper} {rest : List Oper} {o : Oper} {a : Act} {Q0 : Exit → Act → World → Prop} {w : World} (hw : Region.wanted o (yielded ops a.tmps) = true) (s x : Operand)
    (ho : o.op = .call { callee := .builtin .append, args := #[s, x], argTypes := #[23, 23] })
    (B : Nat) (v : Value) (l : List NV) (hs : a.eval s = v) (hown : OwnN w B v l) (vx : Value) (m : List NV) (hx : a.eval x = vx) (he : RowAt cellsN 12 w vx m) (hnl : l.length + m.length ≤ 100000) (hbase : B ≤ w.heap.size)
    (h : ∀ v' w', OwnN w' B v' (l ++ m) → w.grownBy w' v.ownBlock → (v' = .slice none 0 0 → l ++ m = []) → wpList Tryz.prog ops Q0 rest (a.put o.dst v') w') : wpList Tryz.prog ops Q0 (o :: rest) a w := by
  obtain ⟨v', w', hr, a2, a3, a4⟩ := run_append_node o.type B v l hown vx m he hnl hbase
  refine wpList_step fun K hK => ?_
  rw [if_pos hw]
  unfold Oper.wp execOp
  simp only [ho, resolve, invoke, builtin, Sem.run_bind, Sem.run_pure, Result.andThen_ok, List.map_toArray, List.map_cons, List.map_nil, hs, hx, hr]
  exact hK _ _ (h v' w' a2 a3 a4)
end Go.Proofs.YtgbenepapajieaaGreat.Tr
namespace Go.Proofs.YtgbenepapajieaaGreat.Tr
open Go.RowKit Go.Shelf

attribute [local go_sem] Oper.semAt_some

def upto {α : Type} (f : Nat → α) (k : Nat) : List α := (List.range k).map f
theorem upto_succ {α : Type} (f : Nat → α) (k : Nat) : upto f (k + 1) = upto f k ++ [f k] := by simp [upto, List.range_succ]
theorem upto_length {α : Type} (f : Nat → α) (k : Nat) : (upto f k).length = k := by simp [upto]
def strAt (zs : List ByteArray) (j : Nat) : ByteArray := zs[j]?.getD ⟨#[]⟩
theorem upto_all (zs : List ByteArray) : upto (strAt zs) zs.length = zs := by
  apply List.ext_getElem
  · simp [upto]
  · intro i h1 h2
    simp [upto, strAt, h2]
theorem upto_pre (zs : List ByteArray) {k : Nat} (hk : k ≤ zs.length) : upto (strAt zs) k <+: zs := by
  have : upto (strAt zs) k = zs.take k := by
    apply List.ext_getElem
    · simp [upto, hk]
    · intro i h1 h2
      have : i < zs.length := by simp [upto] at h1; omega
      simp [upto, strAt, this]
  rw [this]
  exact List.take_prefix _ _

set_option maxRecDepth 100000 in
set_option maxHeartbeats 2000000 in
/-- The iterator's own loop, for every body that keeps what lay below n₀. -/
theorem valuesLoop_in (F : Fence) (n : Nat) (hf : F.fn 72) (hro : F.round = none) (hn : 1 ≤ n) (l Bs n₀ b off len cap : Nat) (zs : List ByteArray) (hreach : len ≤ 1000000) (hb : b < n₀) (J Jx : List ByteArray → World → Prop)
    (hY : ∀ pre x W, J pre W → pre.length < len → YieldAt F (n - 1) Tryz.prog l #[.string x] W fun e W' =>
      (e = .returned (.bool true) ∧ J (pre ++ [x]) W' ∧ Below n₀ W W') ∨ (e = .returned (.bool false) ∧ Jx (pre ++ [x]) W'))
    (W : World) (hBs : W.cell? ⟨Bs, 0, none⟩ = some (.slice (some ⟨b, off, none⟩) len cap)) (hc : ∀ j, j < len → W.cell? ⟨b, off + j, none⟩ = some (.string (strAt zs j))) (h0 : J [] W) :
    CallsIn F n Tryz.prog 72 #[.func (.yield l) #[] #[], .pointer (some ⟨Bs, 0, none⟩)] W fun e W' => (∃ v, e = .returned v) ∧
      ((∃ ys, ys = upto (strAt zs) len ∧ J ys W') ∨ (∃ pre, (∃ k, k ≤ len ∧ pre = upto (strAt zs) k) ∧ Jx pre W')) := by
  refine callsIn_of_wp Tryz.func72 rfl hf ?_ hro
  simp only [Tryz.ntmps72, List.size_toArray, List.length_cons, List.length_nil, Nat.reduceAdd, Nat.reduceSub, Array.replicate_succ, Array.replicate_zero, List.push_toArray, List.append_toArray, List.nil_append, List.cons_append]
  gi_wp2
  gi_loopw [7] (fun i wr => ∃ k : Nat, k ≤ len ∧ i = .int .i64 k ∧ J (upto (strAt zs) k) wr ∧ Below n₀ W wr)
    (fun i _ => len - (intOf i).toNat)
  case atStart => exact ⟨0, Nat.zero_le _, rfl, h0, Below.refl _ _⟩
  case round =>
    obtain ⟨k, hk, rfl, hJs, hnx⟩ := hrel
    have hcx : k < len → wr.cell? ⟨b, off + k, none⟩ = some (.string (strAt zs k)) := fun h => (hnx.cell (p := ⟨b, off + k, none⟩) hb).trans (hc k h)
    by_cases hlt : k < len
    · obtain ⟨fn, tmps, assign, body, hy, hR⟩ := hY _ (strAt zs k) wr hJs (by rw [upto_length]; exact hlt)
      have hcx' := hcx hlt
      gi_wp2
      refine hR.mono ?_
      rintro e W3 (⟨rfl, hJ3, hk3⟩ | ⟨rfl, hJx3⟩)
      · gi_wp2
        go_roundw
        case rel => exact ⟨k + 1, by omega, by simp, by rw [upto_succ]; exact hJ3, hnx.trans hk3⟩
        case measure => simp [intOf]; omega
      · gi_wp2
        refine bodyPost_ret (results_none rfl _ _ _) rfl ?_
        exact ⟨⟨_, rfl⟩, .inr ⟨_, ⟨k + 1, by omega, (upto_succ _ _).symm⟩, hJx3⟩⟩
    · obtain rfl : k = len := by omega
      gi_wp2
      go_end0
      exact ⟨⟨_, rfl⟩, .inl ⟨_, rfl, hJs⟩⟩
set_option maxRecDepth 100000 in
set_option maxHeartbeats 1000000 in
theorem valuesNil_in (F : Fence) (n : Nat) (hf : F.fn 72) (hro : F.round = none) (l Bs : Nat) (a : Option Addr) (cap : Nat) (J : List ByteArray → World → Prop) (W : World) (hBs : W.cell? ⟨Bs, 0, none⟩ = some (.slice a 0 cap)) (h0 : J [] W) :
    CallsIn F n Tryz.prog 72 #[.func (.yield l) #[] #[], .pointer (some ⟨Bs, 0, none⟩)] W fun e W' => (∃ v, e = .returned v) ∧ J [] W' := by
  refine callsIn_of_wp Tryz.func72 rfl hf ?_ hro
  simp only [Tryz.ntmps72, List.size_toArray, List.length_cons, List.length_nil, Nat.reduceAdd, Nat.reduceSub, Array.replicate_succ, Array.replicate_zero, List.push_toArray, List.append_toArray, List.nil_append, List.cons_append]
  gi_wp2
  gi_loopw [7] (fun i wr => i = .int .i64 0 ∧ J [] wr) (fun _ _ => 0)
  case atStart => exact ⟨rfl, h0⟩
  case round =>
    obtain ⟨rfl, hJs⟩ := hrel
    gi_wp2
    go_end0
    exact ⟨⟨_, rfl⟩, hJs⟩
set_option maxRecDepth 100000 in
set_option maxHeartbeats 1000000 in
theorem values_in (F : Fence) (n : Nat) (hf : F.fn 41) (hro : F.round = none) (a : Option Addr) (len cap : Nat) (w : World) :
    CallsIn F n Tryz.prog 41 #[.slice a len cap] w fun e w' => e = .returned (.func (.func 72) #[] #[.pointer (some ⟨w.heap.size, 0, none⟩)]) ∧ w' = w.alloc (.cells #[.slice a len cap] 26) := by
  refine callsIn_of_wp Tryz.func41 rfl hf ?_ hro
  simp only [Tryz.ntmps41, List.size_toArray, List.length_cons, List.length_nil, Nat.reduceAdd, Nat.reduceSub, Array.replicate_succ, Array.replicate_zero, List.push_toArray, List.append_toArray, List.nil_append, List.cons_append]
  gi_wp2
  go_ret
  exact ⟨rfl, rfl⟩
theorem values_stops (F : Fence) (n : Nat) (hf : F.fn 72) (hro : F.round = none) (hn : 1 ≤ n) (Bs n₀ : Nat) (sv : Value) (zs : List ByteArray) (hreach : zs.length ≤ 1000000) (w : World) (hBs : Bs < w.heap.size) (hn₀ : n₀ ≤ w.heap.size)
    (hc : w.cell? ⟨Bs, 0, none⟩ = some sv) (hI : (∃ a cap, sv = .slice a 0 cap ∧ zs = []) ∨ ∃ b off cap, sv = .slice (some ⟨b, off, none⟩) zs.length cap ∧ b < n₀ ∧ ∀ j, j < zs.length → w.cell? ⟨b, off + j, none⟩ = some (.string (strAt zs j))) :
    SeqStopsK F n Tryz.prog 72 #[.pointer (some ⟨Bs, 0, none⟩)] (fun x : ByteArray => #[Value.string x]) (Below n₀) (fun ys => ys = zs) (fun pre => pre <+: zs) zs.length w := fun l J Jx W hW _ _ hY h0 => by
  have hc' := (hW.cell (p := ⟨Bs, 0, none⟩) hBs).trans hc
  rcases hI with ⟨a, cap, rfl, rfl⟩ | ⟨b, off, cap, rfl, hb, hcs⟩
  · exact (valuesNil_in F n hf hro l Bs a cap J W hc' h0).mono fun e W' ⟨he, hj⟩ => ⟨he, .inl ⟨_, rfl, hj⟩⟩
  · have hcs' : ∀ j, j < zs.length → W.cell? ⟨b, off + j, none⟩ = some (.string (strAt zs j)) := fun j hj => (hW.cell (p := ⟨b, off + j, none⟩) (by show b < w.heap.size; omega)).trans (hcs j hj)
    refine (valuesLoop_in F n hf hro hn l Bs n₀ b off zs.length cap zs hreach hb J Jx hY W hc' hcs' h0).mono ?_
    rintro e W' ⟨he, ⟨ys, rfl, hj⟩ | ⟨pre, ⟨k, hk, rfl⟩, hj⟩⟩
    · exact ⟨he, .inl ⟨_, upto_all zs, hj⟩⟩
    · exact ⟨he, .inr ⟨_, upto_pre zs hk, hj⟩⟩

set_option maxRecDepth 100000 in
set_option maxHeartbeats 2000000 in
theorem appendSeq_in (F : Fence) (n : Nat) (h8 : F.fn 88) (hv : F.fn 72) (hro : F.round = none) (hn : 3 ≤ n) (Bs : Nat) (sv : Value) (zs : List ByteArray) (hreach : zs.length ≤ 1000000) (w : World) (hBs : Bs < w.heap.size)
    (hc : w.cell? ⟨Bs, 0, none⟩ = some sv) (hI : (∃ a cap, sv = .slice a 0 cap ∧ zs = []) ∨ ∃ b off cap, sv = .slice (some ⟨b, off, none⟩) zs.length cap ∧ b < w.heap.size ∧ ∀ j, j < zs.length → w.cell? ⟨b, off + j, none⟩ = some (.string (strAt zs j))) :
    CallsIn F n Tryz.prog 88 #[.slice none 0 0, .func (.func 72) #[] #[.pointer (some ⟨Bs, 0, none⟩)]] w fun e W' => ∃ v, e = .returned v ∧ W'.ownsRow w.heap.size 9 1 v zs.length (zs.map Value.string) ∧ Below w.heap.size w W' := by
  have h1 : 1 ≤ n := by omega
  obtain ⟨i0, hi, hz0, hz1, hz2⟩ := info_parts info_str
  refine callsIn_of_wp_marks Tryz.func88 rfl h8 ?_ hro
  simp only [Tryz.ntmps88, List.size_toArray, List.length_cons, List.length_nil, Nat.reduceAdd, Nat.reduceSub, Array.replicate_succ, Array.replicate_zero, List.push_toArray, List.append_toArray, List.nil_append, List.cons_append]
  gi_wp2
  have bO := Boxed.new w 26 (.slice none 0 0)
  have hB0 : Below w.heap.size w (w.alloc (.cells #[.slice none 0 0] 26)) := (Below.refl _ w).alloc (Nat.le_refl _) _
  refine wpIn_rangeFunc_ownG hro h1 (gf := 72) (lb := #[.pointer (some ⟨Bs, 0, none⟩)]) rfl hv (enters_of Tryz.func72 (by kernel_rfl) rfl)
    (values_stops F (n - 1) hv hro (by omega) Bs w.heap.size sv zs hreach _ (by simp; omega) (by simp) ((hB0.cell (p := ⟨Bs, 0, none⟩) hBs).trans hc) (by
      rcases hI with h | ⟨b, off, cap, e, hb, hcs⟩
      · exact .inl h
      · exact .inr ⟨b, off, cap, e, hb, fun j hj => (hB0.cell (p := ⟨b, off + j, none⟩) hb).trans (hcs j hj)⟩)) belowK_t (belowK_b (by simp)) (Below.refl _ _) (fun _ => rfl)
    (fun pre W => (∃ v, Boxed W w.heap.size 26 v ∧ W.ownsRow w.heap.size 9 1 v pre.length (pre.map Value.string) ∧ (v = .slice none 0 0 ↔ pre = [])) ∧ Below w.heap.size w W)
    (fun _ _ _ => False)
    (OwnFrom.and (Own.from (holdsRow_own w.heap.size w.heap.size 26 9 1 (fun pre : List ByteArray => pre.length) (fun pre => pre.map Value.string) (fun pre v => v = .slice none 0 0 ↔ pre = [])) _) (ownFrom_below (Nat.le_refl _) (by simp)))
    (fun _ _ _ _ _ hs _ _ => hs)
    ⟨⟨_, bO, World.ownsRow_nil _ _ _ _, by simp⟩, hB0⟩
    (fun x => { tmps := #[.slice none 0 0, .func (.func 72) #[] #[.pointer (some ⟨Bs, 0, none⟩)], .pointer (some ⟨w.heap.size, 0, none⟩), undef, .slice none 0 0, .string x, .func (.func 72) #[] #[.pointer (some ⟨Bs, 0, none⟩)], .string x, undef, undef, undef, undef, undef], defers := [] }) ?assign ?body ?done ?stop
  case assign =>
    intro l x W K hK
    gi_wp2
    exact hK
  case body =>
    rintro l pre x W ⟨⟨v, hv, hrow, hnil⟩, hB⟩ hlt
    have hc := hv.cell
    gi_wp2_with (gi_at_builtin; refine wpListIn_append_own _ rfl _ _ 26 rfl w.heap.size 9 i0 (.string ⟨#[]⟩) 1 16 Tryz.underlying26 hi hz0 hz1 hz2 rfl (by decide) _ _ _ rfl (hrow.alloc _) ⟨W.heap.size, 0, none⟩ 1 1 [.string x] rfl rfl (cell_one_new _ _ _) (by simp [Value.oneCell']) (by unfold maxLen; omega) (by omega) (by have := hB.size; simp; omega) ?_; intro v' w1 hown' hgrow _; obtain ⟨g', cap', rfl⟩ := ownsRow_succ hown'; obtain ⟨hv1, hv2, hr2, hk2, hb2⟩ := hv.appended (by decide) hrow hB.size (Nat.le_refl _) hown' hgrow; have hc1 := hv1.cell; have hf1 := hv1.frozen)
    exact ⟨hk2.from _, hb2, ⟨_, hv2, by simpa using hr2, by simp⟩, hB.trans hb2⟩
  case done =>
    rintro D ys W hD rfl ⟨⟨v, hv, hrow, hnil⟩, hB⟩ hK
    have hc := hv.cell
    gi_wp2
    refine ⟨by simp, .inl ⟨_, _, rfl, run_takeDeferred hK, ?_⟩⟩
    exact ⟨_, results_tmp rfl _ _ _, v, rfl, ownsRow_putObj hrow _ hK rfl, hB.trans (belowK_b (w := w) (Nat.le_refl _) W D _ _ (by simp at hD; omega) hK rfl rfl)⟩
  case stop =>
    rintro D c pre W _ _ h _
    exact h.elim
end Go.Proofs.YtgbenepapajieaaGreat.Tr
namespace Go.Proofs.YtgbenepapajieaaGreat.Tr
open Go.RowKit Go.Sort Go.Shelf

/-! ### What slices.Compact leaves -/
theorem mem_compactUpTo {α : Type} [Inhabited α] [DecidableEq α] (d : Array α) (x : α) : ∀ m : Nat, x ∈ Lib.compactUpTo d m ↔ ∃ j, j < m ∧ d[j]! = x := by
  intro m
  induction m with
  | zero => simp [Lib.compactUpTo]
  | succ m ih =>
    rw [Lib.compactUpTo_succ, List.mem_append, ih]
    constructor
    · rintro (⟨j, hj, e⟩ | h)
      · exact ⟨j, by omega, e⟩
      · split at h
        · exact ⟨m, by omega, (List.mem_singleton.1 h).symm⟩
        · cases h
    · rintro ⟨j, hj, e⟩
      by_cases hjm : j < m
      · exact .inl ⟨j, hjm, e⟩
      · obtain rfl : j = m := by omega
        cases hk : Lib.keeps d j with
        | true => right; simp [e]
        | false =>
          left
          have h0 : ¬ j < 1 := fun h => by rw [Lib.keeps_lt_one d j h] at hk; cases hk
          refine ⟨j - 1, by omega, ?_⟩
          by_cases he : d[j]! = d[j - 1]!
          · rw [← he, e]
          · rw [Lib.keeps_pos he] at hk; cases hk
theorem mem_compact {α : Type} [Inhabited α] [DecidableEq α] (zs : List α) (x : α) : x ∈ Lib.compact zs ↔ x ∈ zs := by
  unfold Lib.compact
  rw [mem_compactUpTo]
  constructor
  · rintro ⟨j, hj, rfl⟩
    rw [getElem!_pos zs.toArray j (by simpa using hj)]
    simp
  · intro h
    obtain ⟨j, hj, rfl⟩ := List.mem_iff_getElem.1 h
    exact ⟨j, hj, by rw [getElem!_pos zs.toArray j (by simpa using hj)]; simp⟩

/-! ### Rows of strings, as lists of bytes -/
theorem enc_map (l : List (List UInt8)) : l.map encStr = flatR cellsS (l.map Pa.mkB) := by
  rw [flatR_S, List.map_map]
  rfl
theorem enc_back (l : List ByteArray) : (l.map fun s => s.data.toList).map encStr = l.map Value.string := by
  rw [List.map_map]
  rfl
theorem mk_back (l : List ByteArray) : (l.map fun s => s.data.toList).map Pa.mkB = l := by
  rw [List.map_map]
  exact List.map_id _
theorem ownS_of {w : World} {B : Nat} {v : Value} {l : List ByteArray} (h : w.ownsRow B 9 1 v l.length (l.map Value.string)) : OwnS w B v l := by
  unfold OwnS OwnR
  rw [flatR_S]
  exact h

theorem values_any (a : Option Addr) (len cap : Nat) (w : World) :
    Calls Tryz.prog 41 #[.slice a len cap] w fun e w' => e = .returned (.func (.func 72) #[] #[.pointer (some ⟨w.heap.size, 0, none⟩)]) ∧ w' = w.alloc (.cells #[.slice a len cap] 26) :=
  (callsIn_wide (n := 9)).1 (values_in Fence.wide 9 trivial rfl a len cap w)

set_option maxRecDepth 100000 in
set_option maxHeartbeats 2000000 in
theorem sortedStrs_any (Bs : Nat) (sv : Value) (zs : List ByteArray) (w : World) (hr : RowAt cellsS 1 w sv zs) (hl : zs.length ≤ 100000) (hBs : Bs < w.heap.size) (hc : w.cell? ⟨Bs, 0, none⟩ = some sv) :
    Calls Tryz.prog 40 #[.func (.func 72) #[] #[.pointer (some ⟨Bs, 0, none⟩)]] w fun e w' => ∃ v ts, e = .returned v ∧ OwnS w' w.heap.size v ts ∧ Q w w' ∧ Hid (ts.Perm zs) := by
  have hI : (∃ a cap, sv = .slice a 0 cap ∧ zs = []) ∨ ∃ b off cap, sv = .slice (some ⟨b, off, none⟩) zs.length cap ∧ b < w.heap.size ∧ ∀ j, j < zs.length → w.cell? ⟨b, off + j, none⟩ = some (.string (strAt zs j)) := by
    by_cases h0 : zs.length = 0
    · obtain ⟨A, c, rfl⟩ := hr.form
      exact .inl ⟨A, c, by rw [h0], List.eq_nil_of_length_eq_zero h0⟩
    · obtain ⟨g, o, cap, rfl, h1, h2, h3⟩ := hr.at_ (by omega)
      have hcell : ∀ j, j < zs.length → w.cell? ⟨g, o + j, none⟩ = some (.string (strAt zs j)) := fun j hj => by
        have := h3 j hj 0 (.string zs[j]) rfl
        rw [Nat.mul_one, Nat.add_zero] at this
        rw [this]
        simp [strAt, hj]
      exact .inr ⟨g, o, cap, rfl, World.block_lt_of_cell? w _ (hcell 0 (by omega)), hcell⟩
  have HA : ∀ w', Below w.heap.size w w' → CallsIn Fence.wide 6 Tryz.prog 88 #[.slice none 0 0, .func (.func 72) #[] #[.pointer (some ⟨Bs, 0, none⟩)]] w fun e W' => ∃ v, e = .returned v ∧ W'.ownsRow w.heap.size 9 1 v zs.length (zs.map Value.string) ∧ Below w.heap.size w W' := fun _ _ => appendSeq_in Fence.wide 6 trivial trivial rfl (by omega) Bs sv zs (by omega) w hBs hc hI
  have hfA : Fence.wide.fn 88 := trivial
  have HC : CallsIn Fence.wide 7 Tryz.prog 70 #[.func (.func 72) #[] #[.pointer (some ⟨Bs, 0, none⟩)]] w fun e W' => ∃ v, e = .returned v ∧ W'.ownsRow w.heap.size 9 1 v zs.length (zs.map Value.string) ∧ Below w.heap.size w W' := by
    refine callsIn_of_wp Tryz.func70 rfl trivial ?_ rfl
    simp only [Tryz.ntmps70, List.size_toArray, List.length_cons, List.length_nil, Nat.reduceAdd, Nat.reduceSub, Array.replicate_succ, Array.replicate_zero, List.push_toArray, List.append_toArray, List.nil_append, List.cons_append]
    gi_wp2_with (gi_at_call 88; refine (HA _ (Below.refl _ _)).mono ?_; rintro e W ⟨v, rfl, hrow, hb⟩)
    go_ret
    exact ⟨_, rfl, hrow, hb⟩
  refine (callsIn_wide (n := 8)).1 ?_
  have hfC : Fence.wide.fn 70 := trivial
  have hfS : Fence.wide.fn 71 := trivial
  refine callsIn_of_wp Tryz.func40 rfl trivial ?_ rfl
  simp only [Tryz.ntmps40, List.size_toArray, List.length_cons, List.length_nil, Nat.reduceAdd, Nat.reduceSub, Array.replicate_succ, Array.replicate_zero, List.push_toArray, List.append_toArray, List.nil_append, List.cons_append]
  gi_wp2_with (gi_at_call 70; refine HC.mono ?_; rintro e W ⟨v, rfl, hrow, hb⟩)
  rcases hrow.2 with ⟨rfl, hz⟩ | ⟨gb, cap, cur, rfl, hbase, hgb, r1, r2, r3, r4⟩
  · have hzs : zs = [] := List.eq_nil_of_length_eq_zero hz
    subst hzs
    have cS : ∀ W, CallsIn Fence.wide 7 Tryz.prog 71 #[.slice none 0 0] W fun e w' => e = .returned (.tuple #[]) ∧ w' = W := fun W => callsIn_wide.2 (AnyM.slices_Sort_string_none YtgbenepapajieaaGreat.sortM none 0 W)
    gi_wp2_with (gi_at_call 71; refine (cS _).mono ?_; rintro e w' ⟨rfl, rfl⟩)
    go_ret
    exact ⟨_, [], rfl, ownS_of (by simpa using hrow), hb, List.Perm.refl _⟩
  · have eb := enc_back zs
    have hH : Holds encStr W gb 0 (zs.map fun s => s.data.toList).toArray := holds_of_block hgb (by rw [eb]; simpa using r4)
    have hgl : gb < W.heap.size := (Array.getElem?_eq_some_iff.1 hgb).1
    have hS := AnyM.slices_Sort_string YtgbenepapajieaaGreat.sortM gb 0 cap (zs.map fun s => s.data.toList) W hH hgl (by rw [List.length_map]; omega)
    generalize hts : List.mergeSort (zs.map fun s => s.data.toList) _ = ts at hS
    have hp : ts.Perm (zs.map fun s => s.data.toList) := hts ▸ List.mergeSort_perm _ _
    have hlen : ts.length = zs.length := by rw [hp.length_eq, List.length_map]
    rw [List.length_map] at hS
    have cS := (callsIn_wide (n := 7)).2 hS
    change CallsIn _ _ Tryz.prog 71 _ _ _ at cS
    clear hS hts
    gi_wp2_with (gi_at_call 71; refine cS.mono ?_; rintro e w' ⟨rfl, nn, os, rfl⟩)
    go_ret
    have ho := ownsRow_sorted (n := nn) (os := os) (ss := zs.map fun s => s.data.toList) (ts := ts) (by rw [hlen, List.length_map]) hbase hgb (by rw [List.length_map]; exact r1) r2 r3
    rw [List.length_map, enc_map] at ho
    refine ⟨_, ts.map Pa.mkB, rfl, ?_, ?_, ?_⟩
    · unfold OwnS OwnR
      rw [List.length_map, hlen]
      exact ho
    · exact hb.grown (grownBy_sorted _) hb.size (fun j hj => by cases hj; exact hbase)
    · have := hp.map Pa.mkB
      rw [mk_back] at this
      exact this

set_option maxRecDepth 100000 in
set_option maxHeartbeats 2000000 in
theorem compact_any (v : Value) (zs : List ByteArray) (B : Nat) (w : World) (h : OwnS w B v zs) (hl : zs.length ≤ 100000) (hB : B ≤ w.heap.size) :
    Calls Tryz.prog 39 #[v] w fun e w' => ∃ v' us, e = .returned v' ∧ RowAt cellsS 1 w' v' us ∧ Below B w w' ∧ us.length ≤ zs.length ∧ Hid (∀ x, x ∈ us ↔ x ∈ zs) := by
  have hrow := h.row flatS
  rcases h.2 with ⟨rfl, hz⟩ | ⟨gb, cap, cur, rfl, hbase, hgb, r1, r2, r3, r4⟩
  · have hzs : zs = [] := List.eq_nil_of_length_eq_zero hz
    subst hzs
    refine Calls.mono (P := Tryz.prog) (f := 39) (Any.slices_Compact_string_empty YtgbenepapajieaaGreat.compact none 0 w) ?_
    rintro e w' ⟨rfl, rfl⟩
    exact ⟨_, [], rfl, hrow, Below.refl _ _, Nat.le_refl _, fun x => Iff.rfl⟩
  · have eb := enc_back zs
    have hH : Holds encStr w gb 0 (zs.map fun s => s.data.toList).toArray := holds_of_block hgb (by rw [eb, ← flatR_S]; simpa using r4)
    have hc := Any.slices_Compact_string YtgbenepapajieaaGreat.compact gb 0 cap (zs.map fun s => s.data.toList) w hH (by rw [List.length_map]; omega) (by rw [List.length_map]; exact r1)
    rw [List.length_map] at hc
    refine Calls.mono (P := Tryz.prog) (f := 39) hc ?_
    rintro e w' ⟨rfl, q, rfl⟩
    have hle := Lib.compact_length_le (zs.map fun s => s.data.toList)
    rw [List.length_map] at hle
    generalize hcz : Lib.compact (zs.map fun s => s.data.toList) = cz at *
    have hlen : (cz ++ List.replicate (zs.length - cz.length) []).length = zs.length := by rw [List.length_append, List.length_replicate]; omega
    have ho := ownsRow_sorted (n := q) (os := #[]) (ss := zs.map fun s => s.data.toList) (ts := cz ++ List.replicate (zs.length - cz.length) []) (by rw [hlen, List.length_map]) hbase hgb (by rw [List.length_map]; exact r1) r2 r3
    rw [grow_empty, List.length_map, enc_map] at ho
    have hrow2 : RowAt cellsS 1 (putRow encStr (Sort.ahead w q) gb 0 (cz ++ List.replicate (zs.length - cz.length) []).toArray) (.slice (some ⟨gb, 0, none⟩) zs.length cap) ((cz ++ List.replicate (zs.length - cz.length) []).map Pa.mkB) := by
      refine OwnR.row (E := 9) (B := B) flatS ?_
      unfold OwnR
      rw [List.length_map, hlen]
      exact ho
    have hcut := row_take (j := cz.length) hrow2 (by rw [List.length_map, hlen]; exact hle) (by omega)
    rw [List.map_append, List.take_left' (by rw [List.length_map])] at hcut
    refine ⟨_, cz.map Pa.mkB, rfl, hcut, Lib.below_putRow (Below.refl _ _) hbase, by rw [List.length_map]; exact hle, fun x => ?_⟩
    rw [List.mem_map]
    constructor
    · rintro ⟨y, hy, rfl⟩
      rw [← hcz, mem_compact, List.mem_map] at hy
      obtain ⟨s, hs, rfl⟩ := hy
      exact hs
    · intro hx
      refine ⟨x.data.toList, ?_, rfl⟩
      rw [← hcz, mem_compact]
      exact List.mem_map.2 ⟨x, hx, rfl⟩
end Go.Proofs.YtgbenepapajieaaGreat.Tr
namespace Go.Proofs.YtgbenepapajieaaGreat.Tr
open Go.RowKit
open Go.Proofs.YtgbenepapajieaaGreat.Nd (Nd mayN sumP nodeV NodeAt PcsAt)
open Go.Proofs.YtgbenepapajieaaGreat.Pa (lessB parentB hasParentB lastB underB joinB)

theorem ret_find {a b : Int} {x y : Bool} (h : a = b) (k : x = y) : Ending.returned (.tuple #[.int .i64 a, .bool x]) = .returned (.tuple #[.int .i64 b, .bool y]) := by rw [h, k]
set_option maxRecDepth 100000 in
set_option maxHeartbeats 1000000 in
theorem find_any (v : Value) (t : Tree) (p : ByteArray) (w : World) (h : TreeAt w v t) :
    Calls Tryz.prog 15 #[v, .string p] w fun e w' => e = .returned (.tuple #[.int .i64 ((findE t.1 p).getD 0), .bool (findE t.1 p).isSome]) ∧ Grew w w' := by
  obtain ⟨es, ns⟩ := t
  obtain ⟨ve, vn, rfl, he, hn⟩ := h
  simp only at he hn ⊢
  have ll := he.len
  obtain ⟨A, c, rfl⟩ := he.form
  obtain ⟨B, d, rfl⟩ := hn.form
  unfold maxLen at ll
  clear hn
  go_enter Tryz.func15, Tryz.ntmps15
  go_wp2
  refine wp_scope_goto 0 (fun a' w' => Grew w w' ∧ ∃ (b k : Nat) (u7 u8 u9 u10 u11 u12 u13 u14 u15 u16 u17 u18 u19 u20 u21 u22 u23 u24 u25 u26 u27 : Value), a' = { tmps := #[.agg #[.slice A es.length c, .slice B ns.length d], .string p, .pointer (some ⟨b, 0, none⟩), undef, .int .i64 0, .bool false, .int .i64 k, u7, u8, u9, u10, u11, u12, u13, u14, u15, u16, u17, u18, u19, u20, u21, u22, u23, u24, u25, u26, u27], defers := [] } ∧ w'.cell? ⟨b, 0, none⟩ = some (.slice A es.length c) ∧ k ≤ es.length ∧ Hid (findE (es.drop k) p = findE es p)) (fun a' _ => es.length - (intOf (a'.tmps.getD 6 undef)).toNat) rfl ?_ ?_
  · intro hh
    go_wp2
    go_step3
    rename_i hK
    exact hK _ _ (hh.out _ _ ⟨Grew.alloc _ _, w.heap.size, 0, _, _, _, _, _, _, _, _, _, _, _, _, _, _, _, _, _, _, _, _, _, rfl, (box_at _ _ _ _).1, by omega, rfl⟩)
  · rintro a' w' ⟨hq, b, k, u7, u8, u9, u10, u11, u12, u13, u14, u15, u16, u17, u18, u19, u20, u21, u22, u23, u24, u25, u26, u27, rfl, hcb, hk, H⟩
    by_cases hlt : k < es.length
    · have t1 : ((k : Int) == (es.length : Int)) = false := beq_eq_false_iff_ne.2 (by omega)
      obtain ⟨g, o, _, ea, _, _, hc⟩ := (he.keep hq.q).at_ (by omega)
      cases ea
      obtain ⟨c1, c2⟩ := hc k hlt
      have En : Hid (es[k].1 ≠ p → findE (es.drop (k + 1)) p = findE es p) := findE_take hlt H.out
      have Ey : Hid (es[k].1 = p → findE es p = some es[k].2) := findE_here hlt H.out
      clear hc H he
      generalize es[k] = x at *
      by_cases hx : x.1 = p
      · have t2 := b_tl hx
        have E := Lib.hid (Ey.out hx)
        clear hx En Ey
        go_wp2
        simp only [Exit.jump]
        go_ret2
        exact ⟨ret_find (by rw [E.out]; rfl) (by rw [E.out]; rfl), hq⟩
      · have t2 := b_tln hx
        have E := Lib.hid (En.out hx)
        clear hx En Ey
        go_wp2
        go_step3
        exact ⟨rfl, ⟨hq, b, k + 1, _, _, _, _, _, _, _, _, _, _, _, _, _, _, _, _, _, _, _, _, _, rfl, hcb, hlt, E⟩, by simp [intOf]; omega⟩
    · have t1 : ((k : Int) == (es.length : Int)) = true := beq_iff_eq.2 (by omega)
      have E : Hid (findE es p = none) := by
        have := H.out
        rw [List.drop_of_length_le (by omega)] at this
        exact this.symm
      clear H he
      go_wp2
      simp only [Exit.jump]
      go_ret2
      exact ⟨ret_find (by rw [E.out]; rfl) (by rw [E.out]; rfl), hq⟩
end Go.Proofs.YtgbenepapajieaaGreat.Tr
