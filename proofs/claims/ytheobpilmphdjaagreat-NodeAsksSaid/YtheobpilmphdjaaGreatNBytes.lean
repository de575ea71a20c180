/-
  Rows of bytes of the call's own: made, written by copy, read as a string.
-/
import Derived.Test.YtheobpilmphdjaaGreatNMem
import Derived.Test.YtheobpilmphdjaaGreatCopy
import Derived.Laws.CopyOwn
import Derived.Laws.IdiomStrings
import Derived.Deep.OwnRows
namespace Go.Proofs.YtheobpilmphdjaaGreat.Nd
open Go.RowKit
open Go.Proofs.YtheobpilmphdjaaGreat.Ex.Rng

def byteV (b : UInt8) : Value := .int .u8 (b.toNat : Int)
def Row8 (w : World) (g : Nat) (bs : List UInt8) : Prop := w.heap[g]? = some (.cells (bs.map byteV).toArray 5 (0, 0))
theorem Row8.lt {w : World} {g : Nat} {bs : List UInt8} (h : Row8 w g bs) : g < w.heap.size := by
  rcases Nat.lt_or_ge g w.heap.size with h' | h'
  · exact h'
  · unfold Row8 at h; rw [Array.getElem?_eq_none h'] at h; cases h
theorem Row8.other {w w' : World} {g : Nat} {bs : List UInt8} (h : Row8 w g bs) (q : w'.heap[g]? = w.heap[g]?) : Row8 w' g bs := q.trans h
theorem Row8.keep {w w' : World} {g : Nat} {bs : List UInt8} (h : Row8 w g bs) (q : Q w w') : Row8 w' g bs := h.other (q.block g h.lt)
theorem Row8.new (w : World) (bs : List UInt8) : Row8 (w.alloc (.cells (bs.map byteV).toArray 5)) w.heap.size bs := by
  show (w.heap.push _)[w.heap.size]? = _
  simp
theorem Row8.cell {w : World} {g : Nat} {bs : List UInt8} (h : Row8 w g bs) (j : Nat) (hj : j < bs.length) : w.cell? ⟨g, j, none⟩ = some (.int .u8 (bs[j].toNat : Int)) := by
  unfold Row8 at h
  simp [World.cell?, h, hj, byteV]
theorem Row8.soft {w : World} {g : Nat} {bs : List UInt8} (h : Row8 w g bs) (j : Nat) : w.frozen? ⟨g, j, none⟩ = false := by
  unfold Row8 at h
  simp [World.frozen?, h]
theorem Row8.set {w : World} {g : Nat} {bs : List UInt8} (h : Row8 w g bs) (i : Nat) (b : UInt8) : Row8 (w.setCell ⟨g, i, none⟩ (.int .u8 (b.toNat : Int))) g (bs.set i b) := by
  unfold Row8 World.setCell at *
  simp [Array.getElem?_modify, h, List.map_set, byteV]
theorem made8 (n : Nat) : madeCells #[.int .u8 0] n = ((List.replicate n (0 : UInt8)).map byteV).toArray := by
  refine Array.ext (by simp [madeCells]) fun i h1 h2 => ?_
  simp [madeCells, byteV, Nat.mod_one]
theorem info_u8 : (Tryz.prog.info? 5).map (fun i => (i.zero, i.size, i.bytes)) = some (some (.int .u8 0), 1, 1) := by kernel_rfl
theorem make8 (k : IntKind) (n : Nat) (h : n ≤ 1000000) (w : World) : (Instr.makeSlice 59 (.int k (n : Int)) (.int k (n : Int))).run Tryz.prog w = .ok (.slice (some ⟨w.heap.size, 0, none⟩) n n) (w.alloc (.cells ((List.replicate n (0 : UInt8)).map byteV).toArray 5)) := by
  rw [run_make_row' 59 5 (.int .u8 0) 1 Tryz.underlying59 info_u8 rfl k k n (by omega) (by omega) w, made8]
theorem string8 (w : World) (g c : Nat) (bs : List UInt8) (h : Row8 w g bs) (n : Nat) (hn : n = bs.length) :
    (convert 59 9 (.slice (some ⟨g, 0, none⟩) n c)).run Tryz.prog w = .ok (.string ⟨bs.toArray⟩) w := by
  subst hn
  exact run_convert_bytes_back w 59 9 5 ⟨g, 0, none⟩ c bs Tryz.underlying59 Tryz.underlying5 Tryz.underlying9 fun j hj => by
    rw [Addr.add_lit, Nat.zero_add]; exact h.cell j hj
theorem splice_map (bs : List UInt8) (o : Nat) (cs : List UInt8) : (splice bs o cs).map byteV = splice (bs.map byteV) o (cs.map byteV) := by
  unfold splice
  simp
theorem run_copy_str (w : World) (ty : TypeId) (g o dLen dCap : Nat) (s : ByteArray) (bs : List UInt8) (hg : Row8 w g bs) (hn : s.size ≤ dLen) (hfit : o + s.size ≤ bs.length) :
    (Builtin.copy_ #[59, 9] ty #[.slice (some ⟨g, o, none⟩) dLen dCap, .string s]).run Tryz.prog w = .ok (goInt s.size) (w.setRow g ((splice bs o s.data.toList).map byteV).toArray) := by
  have hu := Tryz.underlying59
  have hst := run_storeCells_at Tryz.prog g o 5 (s.data.toList.map byteV) 0 (bs.map byteV).toArray w hg (by simp; exact hfit) (fun v hv => by obtain ⟨b, _, rfl⟩ := List.mem_map.1 hv; rfl)
  obtain ⟨i, hq, hzz⟩ := Option.map_eq_some_iff.1 info_u8
  simp only [Prod.mk.injEq] at hzz
  have htake : List.take s.size (List.map (fun b : UInt8 => Value.int IntKind.u8 (b.toNat : Int)) s.data.toList) = s.data.toList.map byteV := by
    rw [List.take_of_length_le (by rw [List.length_map, Array.length_toList]; exact Nat.le_refl _)]
    rfl
  have hmin : Nat.min s.size dLen = s.size := Nat.min_eq_left hn
  simp [Builtin.copy_, sizeOf, typeInfo, hq, run_underlying hu, hmin, Builtin.lenOf, Builtin.firstCells]
  rw [htake, hst]
  simp [splice]

/-- A string laid over a row's part, as an operation. -/
theorem wpList_copy_str {ops : Array Oper} {rest : List Oper} {o : Oper} {a : Act} {Q0 : Exit → Act → World → Prop} {w : World} (hw : Region.wanted o (yielded ops a.tmps) = true) (d x : Operand)
    (ho : o.op = .call { callee := .builtin .copy, args := #[d, x], argTypes := #[59, 9] })
    (g off dLen dCap : Nat) (s : ByteArray) (bs : List UInt8) (hd : a.eval d = .slice (some ⟨g, off, none⟩) dLen dCap) (hs : a.eval x = .string s) (hg : Row8 w g bs) (hn : s.size ≤ dLen) (hfit : off + s.size ≤ bs.length)
    (h : wpList Tryz.prog ops Q0 rest (a.put o.dst (goInt s.size)) (w.setRow g ((splice bs off s.data.toList).map byteV).toArray)) : wpList Tryz.prog ops Q0 (o :: rest) a w := by
  have hr := run_copy_str w o.type g off dLen dCap s bs hg hn hfit
  refine wpList_step fun K hK => ?_
  rw [if_pos hw]
  unfold Oper.wp execOp
  simp only [ho, resolve, invoke, builtin, Sem.run_bind, Sem.run_pure, Result.andThen_ok, List.map_toArray, List.map_cons, List.map_nil, hd, hs, hr]
  exact hK _ _ h
theorem Row8.over {w : World} {g : Nat} {bs cs : List UInt8} (h : Row8 w g bs) : Row8 (w.setRow g (cs.map byteV).toArray) g cs := setRow_heap w g _ _ _ _ h

/-! ### Parts of slices and strings, as equations for every world -/
set_option maxRecDepth 100000 in
theorem cut_c (gx ox n c : Nat) (k h : Nat) (h1 : k ≤ h) (h2 : h ≤ c) (h3 : ¬ c = k) (w : World) :
    Sem.run Tryz.prog (Instr.sliceAt 40 (.slice (some ⟨gx, ox, none⟩) n c) (some (.int .i64 (k : Int))) (some (.int .i64 (h : Int))) none) w = .ok (.slice (some ⟨gx, ox + k, none⟩) (h - k) (c - k)) w := by
  rw [run_sliceAt_slice (P := Tryz.prog) w 40 _ _ _ _ Tryz.underlying40, run_slice_lh (P := Tryz.prog) w 40 _ n c Tryz.underlying40 .i64 .i64 (k : Int) (h : Int) (by omega) (by omega) (by omega)]
  rw [show Tryz.prog.elem 40 = 57 from by kernel_rfl, Tryz.sizeOf57]
  simp [Result.andThen, sliced, h3, Addr.add_lit]
set_option maxRecDepth 100000 in
theorem cut_u8 (g n c : Nat) (k : Nat) (h1 : k ≤ n) (h3 : ¬ c = k) (w : World) :
    Sem.run Tryz.prog (Instr.sliceAt 59 (.slice (some ⟨g, 0, none⟩) n c) (some (.int .i64 (k : Int))) none none) w = .ok (.slice (some ⟨g, k, none⟩) (n - k) (c - k)) w := by
  rw [run_sliceAt_slice (P := Tryz.prog) w 59 _ _ _ _ Tryz.underlying59, run_slice_l (P := Tryz.prog) w 59 _ n c Tryz.underlying59 .i64 (k : Int) (by omega) (by omega)]
  rw [show Tryz.prog.elem 59 = 5 from by kernel_rfl, Tryz.sizeOf5]
  simp [Result.andThen, sliced, h3, Addr.add_lit]
set_option maxRecDepth 100000 in
theorem cut_str (s : ByteArray) (k h : Nat) (h1 : k ≤ h) (h2 : h ≤ s.size) (w : World) :
    Sem.run Tryz.prog (Instr.sliceAt 9 (.string s) (some (.int .i64 (k : Int))) (some (.int .i64 (h : Int))) none) w = .ok (.string (s.extract k h)) w := by
  rw [run_sliceAt_string (P := Tryz.prog) w 9 _ _ _ _ Tryz.underlying9]
  simp only [Instr.slice, Sem.run_bind, run_underlying Tryz.underlying9, Result.andThen_ok, Instr.sliceBounds]
  simp [run_sliceBound, h1, h2, Result.andThen]
/-! ### All blocks but one -/
def Far (g : Nat) (w w' : World) : Prop := w.heap.size ≤ w'.heap.size ∧ ∀ b, b < w.heap.size → b ≠ g → w'.heap[b]? = w.heap[b]?
theorem Far.refl (g : Nat) (w : World) : Far g w w := ⟨Nat.le_refl _, fun _ _ _ => rfl⟩
theorem Far.trans {g : Nat} {a b c : World} (h : Far g a b) (k : Far g b c) : Far g a c := ⟨Nat.le_trans h.1 k.1, fun x hx hn => (k.2 x (Nat.lt_of_lt_of_le hx h.1) hn).trans (h.2 x hx hn)⟩
theorem Far.of_q {g : Nat} {w w' : World} (q : Q w w') : Far g w w' := ⟨q.size, fun b hb _ => q.block b hb⟩
theorem Far.setRow (g : Nat) (w : World) (cs : Array Value) : Far g w (w.setRow g cs) := ⟨by simp [World.setRow], fun b _ hn => setRow_other w g b cs hn⟩
theorem Far.setCell (g : Nat) (w : World) (i : Nat) (v : Value) : Far g w (w.setCell ⟨g, i, none⟩ v) := ⟨by rw [World.size_setCell]; exact Nat.le_refl _, fun b _ hn => heap_setCell_far w _ v hn⟩
theorem Far.cell {g : Nat} {w w' : World} (h : Far g w w') {b o : Nat} {v : Value} (hn : b ≠ g) (hc : w.cell? ⟨b, o, none⟩ = some v) : w'.cell? ⟨b, o, none⟩ = some v := by
  have hb := World.block_lt_of_cell? w _ hc
  have e := h.2 b hb hn
  unfold World.cell? at *
  simp only at *
  rw [e]
  exact hc
theorem Far.exts {g B : Nat} {w w' : World} (h : Far g w w') {e : TypeId} {v : Value} {ls : List X} (ho : w.ownsRow B e 1 v ls.length (ls.map Ex.E)) (hB : g < B) : Ex.ExtsAt w' v ls := by
  have hk : w'.ownsRow B e 1 v ls.length (ls.map Ex.E) := by
    obtain ⟨hl, h0 | ⟨b, cap, cur, hv, hb, hh, r⟩⟩ := ho
    · exact ⟨hl, .inl h0⟩
    · have hg : b < w.heap.size := by
        rcases Nat.lt_or_ge b w.heap.size with h1 | h1
        · exact h1
        · rw [Array.getElem?_eq_none h1] at hh
          cases hh
      exact ⟨hl, .inr ⟨b, cap, cur, hv, hb, (h.2 b hg (by omega)).trans hh, r⟩⟩
  exact Ex.ExtsAt.of_own hk
theorem Q.setRow {w w' : World} (h : Q w w') {g : Nat} (hg : w.heap.size ≤ g) (cs : Array Value) : Q w (w'.setRow g cs) := below_setRow h hg cs
end Go.Proofs.YtheobpilmphdjaaGreat.Nd
