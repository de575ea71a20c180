/-
  Rows of bytes of the call's own: made, written by copy, read as a string. The document's own extents: the contracts of Part, At, Long, Bound, Of, and of Norm and HasPlace at lists in order with gaps. The contracts of the document's MayExtents and clip.
-/
import Derived.Laws.CopyOwn
import Derived.Laws.IdiomStrings
import Derived.Deep.OwnRows
import Derived.Test.YtgbenepapajieaaGreatNMem
import Derived.Test.YtgbenepapajieaaGreatOpenM
import Derived.Deep.DeepCutAuto
import Derived.Deep.AppendLies
import Derived.RegionTactic
import Derived.Lib.MinMax
import Derived.Deep.RegionHeld3
namespace Go.Proofs.YtgbenepapajieaaGreat.Nd
open Go.RowKit
open Go.Proofs.YtgbenepapajieaaGreat.Ex.Rng

def byteV (b : UInt8) : Value := .int .u8 (b.toNat : Int)
def Row8 (w : World) (g : Nat) (bs : List UInt8) : Prop := w.heap[g]? = some (.cells (bs.map byteV).toArray 5 (0, 0))
theorem Row8.lt {w : World} {g : Nat} {bs : List UInt8} (h : Row8 w g bs) : g < w.heap.size := by
  rcases Nat.lt_or_ge g w.heap.size with h' | h'
  · exact h'
  · unfold Row8 at h; rw [Array.getElem?_eq_none h'] at h; cases h
theorem Row8.other {w w' : World} {g : Nat} {bs : List UInt8} (h : Row8 w g bs) (q : w'.heap[g]? = w.heap[g]?) : Row8 w' g bs := q.trans h
theorem Row8.keep {w w' : World} {g : Nat} {bs : List UInt8} (h : Row8 w g bs) (q : Q w w') : Row8 w' g bs := h.other (q.block g h.lt)
theorem Row8.new (w : World) (bs : List UInt8) : Row8 (w.alloc (.cells (bs.map byteV).toArray 5)) w.heap.size bs := by
  show (w.heap.push _)[w.heap.size]? = _
  simp
theorem Row8.cell {w : World} {g : Nat} {bs : List UInt8} (h : Row8 w g bs) (j : Nat) (hj : j < bs.length) : w.cell? ⟨g, j, none⟩ = some (.int .u8 (bs[j].toNat : Int)) := by
  unfold Row8 at h
  simp [World.cell?, h, hj, byteV]
theorem Row8.soft {w : World} {g : Nat} {bs : List UInt8} (h : Row8 w g bs) (j : Nat) : w.frozen? ⟨g, j, none⟩ = false := by
  unfold Row8 at h
  simp [World.frozen?, h]
theorem Row8.set {w : World} {g : Nat} {bs : List UInt8} (h : Row8 w g bs) (i : Nat) (b : UInt8) : Row8 (w.setCell ⟨g, i, none⟩ (.int .u8 (b.toNat : Int))) g (bs.set i b) := by
  unfold Row8 World.setCell at *
  simp [Array.getElem?_modify, h, List.map_set, byteV]
theorem made8 (n : Nat) : madeCells #[.int .u8 0] n = ((List.replicate n (0 : UInt8)).map byteV).toArray := by
  refine Array.ext (by simp [madeCells]) fun i h1 h2 => ?_
  simp [madeCells, byteV, Nat.mod_one]
theorem info_u8 : (Tryz.prog.info? 5).map (fun i => (i.zero, i.size, i.bytes)) = some (some (.int .u8 0), 1, 1) := by kernel_rfl
theorem splice_map (bs : List UInt8) (o : Nat) (cs : List UInt8) : (splice bs o cs).map byteV = splice (bs.map byteV) o (cs.map byteV) := by
  unfold splice
  simp
theorem Row8.over {w : World} {g : Nat} {bs cs : List UInt8} (h : Row8 w g bs) : Row8 (w.setRow g (cs.map byteV).toArray) g cs := setRow_heap w g _ _ _ _ h

/-! ### Parts of slices and strings, as equations for every world -/
set_option maxRecDepth 100000 in
theorem cut_c (gx ox n c : Nat) (k h : Nat) (h1 : k ≤ h) (h2 : h ≤ c) (h3 : ¬ c = k) (w : World) :
    Sem.run Tryz.prog (Instr.sliceAt 109 (.slice (some ⟨gx, ox, none⟩) n c) (some (.int .i64 (k : Int))) (some (.int .i64 (h : Int))) none) w = .ok (.slice (some ⟨gx, ox + k, none⟩) (h - k) (c - k)) w := by
  rw [run_sliceAt_slice (P := Tryz.prog) w 109 _ _ _ _ Tryz.underlying109, run_slice_lh (P := Tryz.prog) w 109 _ n c Tryz.underlying109 .i64 .i64 (k : Int) (h : Int) (by omega) (by omega) (by omega)]
  rw [show Tryz.prog.elem 109 = 136 from by kernel_rfl, Tryz.sizeOf136]
  simp [Result.andThen, sliced, h3, Addr.add_lit]
set_option maxRecDepth 100000 in
theorem cut_str (s : ByteArray) (k h : Nat) (h1 : k ≤ h) (h2 : h ≤ s.size) (w : World) :
    Sem.run Tryz.prog (Instr.sliceAt 9 (.string s) (some (.int .i64 (k : Int))) (some (.int .i64 (h : Int))) none) w = .ok (.string (s.extract k h)) w := by
  rw [run_sliceAt_string (P := Tryz.prog) w 9 _ _ _ _ Tryz.underlying9]
  simp only [Instr.slice, Sem.run_bind, run_underlying Tryz.underlying9, Result.andThen_ok, Instr.sliceBounds]
  simp [run_sliceBound, h1, h2, Result.andThen]
/-! ### All blocks but one -/
def Far (g : Nat) (w w' : World) : Prop := w.heap.size ≤ w'.heap.size ∧ ∀ b, b < w.heap.size → b ≠ g → w'.heap[b]? = w.heap[b]?
theorem Far.refl (g : Nat) (w : World) : Far g w w := ⟨Nat.le_refl _, fun _ _ _ => rfl⟩
theorem Far.trans {g : Nat} {a b c : World} (h : Far g a b) (k : Far g b c) : Far g a c := ⟨Nat.le_trans h.1 k.1, fun x hx hn => (k.2 x (Nat.lt_of_lt_of_le hx h.1) hn).trans (h.2 x hx hn)⟩
theorem Far.of_q {g : Nat} {w w' : World} (q : Q w w') : Far g w w' := ⟨q.size, fun b hb _ => q.block b hb⟩
theorem Far.setRow (g : Nat) (w : World) (cs : Array Value) : Far g w (w.setRow g cs) := ⟨by simp [World.setRow], fun b _ hn => setRow_other w g b cs hn⟩
theorem Far.setCell (g : Nat) (w : World) (i : Nat) (v : Value) : Far g w (w.setCell ⟨g, i, none⟩ v) := ⟨by rw [World.size_setCell]; exact Nat.le_refl _, fun b _ hn => heap_setCell_far w _ v hn⟩
theorem Far.cell {g : Nat} {w w' : World} (h : Far g w w') {b o : Nat} {v : Value} (hn : b ≠ g) (hc : w.cell? ⟨b, o, none⟩ = some v) : w'.cell? ⟨b, o, none⟩ = some v := by
  have hb := World.block_lt_of_cell? w _ hc
  have e := h.2 b hb hn
  unfold World.cell? at *
  simp only at *
  rw [e]
  exact hc
theorem Far.exts {g B : Nat} {w w' : World} (h : Far g w w') {e : TypeId} {v : Value} {ls : List X} (ho : w.ownsRow B e 1 v ls.length (ls.map Ex.E)) (hB : g < B) : Ex.ExtsAt w' v ls := by
  have hk : w'.ownsRow B e 1 v ls.length (ls.map Ex.E) := by
    obtain ⟨hl, h0 | ⟨b, cap, cur, hv, hb, hh, r⟩⟩ := ho
    · exact ⟨hl, .inl h0⟩
    · have hg : b < w.heap.size := by
        rcases Nat.lt_or_ge b w.heap.size with h1 | h1
        · exact h1
        · rw [Array.getElem?_eq_none h1] at hh
          cases hh
      exact ⟨hl, .inr ⟨b, cap, cur, hv, hb, (h.2 b hg (by omega)).trans hh, r⟩⟩
  exact Ex.ExtsAt.of_own hk
theorem Q.setRow {w w' : World} (h : Q w w') {g : Nat} (hg : w.heap.size ≤ g) (cs : Array Value) : Q w (w'.setRow g cs) := below_setRow h hg cs
end Go.Proofs.YtgbenepapajieaaGreat.Nd
namespace Go.Proofs.YtgbenepapajieaaGreat.Nd
open Go.RowKit
open Go.Proofs.YtgbenepapajieaaGreat.Ex.Rng
open Go.Proofs.YtgbenepapajieaaGreat.Ex (E ExtsAt fl fl_zero fl_most gt_fl eq_fl toInt_fl)

set_option maxRecDepth 100000 in
set_option maxHeartbeats 1000000 in
theorem part_any (n : Nat) (w : World) (h : n ≤ M) : Calls Tryz.prog 162 #[.float .f64 (fl n)] w fun e w' => e = .returned (.int .i64 n) ∧ w' = w := by
  unfold M at h
  have g1 := gt_fl n 1099511627776 (by omega) (by omega)
  have e1 := eq_fl n 1099511627776 (by omega) (by omega)
  have g2 := gt_fl n 0 (by omega) (by omega)
  have e2 := eq_fl n 0 (by omega) (by omega)
  rw [fl_most] at g1 e1
  rw [fl_zero] at g2 e2
  have hc : ∀ w, Sem.run Tryz.prog (convert 150 2 (.float .f64 (fl n))) w = .ok (.int .i64 n) w := fun w => run_convert_float_int w _ _ _ _ _ _ (by kernel_rfl) (by kernel_rfl) (toInt_fl n (by omega))
  rw [decide_eq_false (by omega)] at g1
  by_cases h1 : n = 1099511627776
  · rw [decide_eq_true h1] at e1
    have hr := Lib.hid h1
    clear g2 e2 hc h1 h
    go_enter Tryz.func162, Tryz.ntmps162
    go_wp2
    go_ret
    exact ⟨ret_int (by rw [hr.out]; rfl), rfl⟩
  · rw [decide_eq_false h1] at e1
    have hge : (FloatKind.f64.format.order (fl n) 0 == some .gt || FloatKind.f64.format.order (fl n) 0 == some .eq) = true := by
      rw [g2, e2]
      by_cases h0 : n = 0
      · simp [h0]
      · simp; omega
    clear g2 e2 h1 h
    go_enter Tryz.func162, Tryz.ntmps162
    go_wp2
    go_ret
    exact ⟨rfl, rfl⟩
set_option maxRecDepth 100000 in
set_option maxHeartbeats 400000 in
theorem rAt_any (x : X) (w : World) (h : x.1 ≤ M) : Calls Tryz.prog 138 #[E x] w fun e w' => e = .returned (.int .i64 x.1) ∧ w' = w := by
  unfold E
  go_enter Tryz.func138, Tryz.ntmps138
  go_wp2_with (go_at_call 162; refine (part_any x.1 _ h).mono ?_; rintro e w1 ⟨rfl, rfl⟩)
  go_ret
  exact ⟨rfl, rfl⟩
set_option maxRecDepth 100000 in
set_option maxHeartbeats 400000 in
theorem rLong_any (x : X) (w : World) (h : x.2 ≤ M) : Calls Tryz.prog 137 #[E x] w fun e w' => e = .returned (.int .i64 x.2) ∧ w' = w := by
  unfold E
  go_enter Tryz.func137, Tryz.ntmps137
  go_wp2_with (go_at_call 162; refine (part_any x.2 _ h).mono ?_; rintro e w1 ⟨rfl, rfl⟩)
  go_ret
  exact ⟨rfl, rfl⟩
set_option maxRecDepth 100000 in
set_option maxHeartbeats 400000 in
theorem bound_any (n : Int) (w : World) : Calls Tryz.prog 163 #[.int .i64 n] w fun e w' => e = .returned (.int .i64 (lim n)) ∧ w' = w := by
  have E : Hid (lim n = min (max n 0) 1099511627776) := by show ((min (max n 0).toNat M : Nat) : Int) = _; unfold M; omega
  go_enter Tryz.func163, Tryz.ntmps163
  go_wp2
  go_ret
  exact ⟨ret_int E.out.symm, rfl⟩
set_option maxRecDepth 100000 in
set_option maxHeartbeats 400000 in
theorem rOf_any (a b : Int) (w : World) : Calls Tryz.prog 139 #[.int .i64 a, .int .i64 b] w fun e w' => e = .returned (E (limN a, limN b)) ∧ w' = w := by
  go_enter Tryz.func139, Tryz.ntmps139
  go_wp2_with fail
  refine (bound_any a _).mono ?_
  rintro e w1 ⟨rfl, rfl⟩
  go_wp2_with fail
  refine (bound_any b _).mono ?_
  rintro e w1 ⟨rfl, rfl⟩
  go_wp2
  go_ret
  exact ⟨rfl, rfl⟩

/-! ### Rows of extents, generic -/
def cellsX (x : X) : List Value := [E x]
theorem flatX : Flat cellsX 1 where
  len _ := rfl
  one x u hu := by rw [List.mem_singleton.1 hu]; rfl
  pos := by decide
abbrev XsAt (w : World) (v : Value) (l : List X) : Prop := RowAt cellsX 1 w v l
abbrev OwnX (w : World) (B : Nat) (v : Value) (l : List X) : Prop := OwnR 136 cellsX 1 w B v l
theorem _root_.Go.Proofs.YtgbenepapajieaaGreat.Ex.ExtsAt.xs {w : World} {v : Value} {l : List X} (h : ExtsAt w v l) : XsAt w v l := by
  rcases h with ⟨rfl, rfl⟩ | ⟨g, og, cap, e, h1, h2, h3⟩
  · exact RowAt.nil_ _
  · refine .inr ⟨g, og, cap, e, h1, h2, fun i hi c u hu => ?_⟩
    match c, hu with
    | 0, hu => cases hu; rw [Nat.mul_one, Nat.add_zero]; exact h3 i hi
theorem _root_.Go.Proofs.YtgbenepapajieaaGreat.RowAt.atX {w : World} {v : Value} {l : List X} (h : XsAt w v l) (hn : 0 < l.length) : ∃ g o cap, v = .slice (some ⟨g, o, none⟩) l.length cap ∧ l.length ≤ cap ∧ cap ≤ maxLen ∧ ∀ i (h : i < l.length), w.cell? ⟨g, o + i, none⟩ = some (E l[i]) := by
  obtain ⟨g, o, cap, e, h1, h2, h3⟩ := h.at_ hn
  exact ⟨g, o, cap, e, h1, h2, fun i hi => by have := h3 i hi 0 (E l[i]) rfl; rwa [Nat.mul_one, Nat.add_zero] at this⟩
theorem run_append_xs {w : World} (ty : TypeId) (B : Nat) (v : Value) (l : List X) (hown : OwnX w B v l) (vx : Value) (m : List X) (he : XsAt w vx m) (hnl : l.length + m.length ≤ 100000) (hbase : B ≤ w.heap.size) :
    ∃ v' w', (Builtin.append_ #[109, 109] ty #[v, vx]).run Tryz.prog w = .ok v' w' ∧ OwnX w' B v' (l ++ m) ∧ w.grownBy w' v.ownBlock ∧ (v' = .slice none 0 0 → l ++ m = []) := by
  obtain ⟨i0, hi0, hz0, hz1, hz2⟩ := info_parts info_c
  exact run_append_row flatX Tryz.underlying109 hi0 hz0 hz1 hz2 rfl (by decide) ty B v l hown vx m he hnl hbase
theorem wpList_append_xs {ops : Array Oper} {rest : List Oper} {o : Oper} {a : Act} {Q0 : Exit → Act → World → Prop} {w : World} (hw : Region.wanted o (yielded ops a.tmps) = true) (s x : Operand)
    (ho : o.op = .call { callee := .builtin .append, args := #[s, x], argTypes := #[109, 109] })
    (B : Nat) (v : Value) (l : List X) (hs : a.eval s = v) (hown : OwnX w B v l) (vx : Value) (m : List X) (hx : a.eval x = vx) (he : XsAt w vx m) (hnl : l.length + m.length ≤ 100000) (hbase : B ≤ w.heap.size)
    (h : ∀ v' w', OwnX w' B v' (l ++ m) → w.grownBy w' v.ownBlock → wpList Tryz.prog ops Q0 rest (a.put o.dst v') w') : wpList Tryz.prog ops Q0 (o :: rest) a w := by
  obtain ⟨v', w', hr, a2, a3, a4⟩ := run_append_xs o.type B v l hown vx m he hnl hbase
  refine wpList_step fun K hK => ?_
  rw [if_pos hw]
  unfold Oper.wp execOp
  simp only [ho, resolve, invoke, builtin, Sem.run_bind, Sem.run_pure, Result.andThen_ok, List.map_toArray, List.map_cons, List.map_nil, hs, hx, hr]
  exact hK _ _ (h v' w' a2 a3)
theorem step_append_xs {ops : Array Oper} {o : Oper} {a : Act} {w : World} {K : Act → World → Prop} {Q0 : Exit → Act → World → Prop} {E : Prop} (hgd : o.guard = none) (s x : Operand)
    (ho : o.op = .call { callee := .builtin .append, args := #[s, x], argTypes := #[109, 109] })
    (B : Nat) (v : Value) (l : List X) (hs : a.eval s = v) (hown : OwnX w B v l) (vx : Value) (m : List X) (hx : a.eval x = vx) (he : XsAt w vx m) (hnl : l.length + m.length ≤ 100000) (hbase : B ≤ w.heap.size)
    (h : ∀ v' w', OwnX w' B v' (l ++ m) → w.grownBy w' v.ownBlock → K (a.put o.dst v') w') :
    if Region.wanted o (yielded ops a.tmps) = true then Oper.wp Tryz.prog o a w K Q0 else E := by
  have hw : Region.wanted o (yielded ops a.tmps) = true := by simp [Region.wanted, hgd]
  rw [if_pos hw]
  obtain ⟨v', w', hr, a2, a3, _⟩ := run_append_xs o.type B v l hown vx m he hnl hbase
  unfold Oper.wp execOp
  simp only [ho, resolve, invoke, builtin, Sem.run_bind, Sem.run_pure, Result.andThen_ok, List.map_toArray, List.map_cons, List.map_nil, hs, hx, hr]
  exact h v' w' a2 a3
end Go.Proofs.YtgbenepapajieaaGreat.Nd
namespace Go.Proofs.YtgbenepapajieaaGreat.Nd
open Go.RowKit
open Go.Proofs.YtgbenepapajieaaGreat.Ex.Rng
open Go.Proofs.YtgbenepapajieaaGreat.Ex (E ExtsAt)

theorem mayB_out {l : List X} {s : Int} (h : ¬ (0 ≤ s ∧ s ≤ 1099511627776)) : Ex.mayB l s = false := by
  unfold Ex.mayB
  rw [decide_eq_false (by unfold lim limN M; omega)]
  rfl
theorem mayB_in {l : List X} {s : Int} (h0 : 0 ≤ s) (h1 : s ≤ 1099511627776) : Ex.mayB l s = Ex.mayGo (-1) l s := by
  unfold Ex.mayB
  rw [decide_eq_true (by unfold lim limN M; omega)]
  rfl
set_option maxRecDepth 100000 in
set_option maxHeartbeats 2000000 in
theorem mayExts_any (v : Value) (l : List X) (s : Int) (w : World) (h : XsAt w v l) (hl : ∀ x ∈ l, x.1 ≤ M ∧ x.2 ≤ M) :
    Calls Tryz.prog 98 #[v, .int .i64 s] w fun e w' => e = .returned (.bool (Ex.mayB l s)) ∧ Q w w' := by
  have ll := h.len
  unfold maxLen at ll
  have bM : M = 1099511627776 := rfl
  have HV : Hid (∀ w', Q w w' → XsAt w' v l) := fun w' q => h.keep q
  have HB : Hid (∀ k (hk : k < l.length), l[k].1 ≤ M ∧ l[k].2 ≤ M) := fun k hk => hl _ (List.getElem_mem hk)
  obtain ⟨A, c, rfl⟩ := h.form
  clear h hl
  by_cases h0 : s < 0
  · have t0 : decide (s < 0) = true := decide_eq_true h0
    have E0 : Hid (Ex.mayB l s = false) := mayB_out (by omega)
    clear h0
    go_enter Tryz.func98, Tryz.ntmps98
    go_wp2
    go_ret
    exact ⟨ret_bool E0.out.symm, Q.refl _⟩
  have t0 : decide (s < 0) = false := decide_eq_false h0
  by_cases h1 : 1099511627776 < s
  · have t1 : decide (1099511627776 < s) = true := decide_eq_true h1
    have E0 : Hid (Ex.mayB l s = false) := mayB_out (by omega)
    clear h1 h0
    go_enter Tryz.func98, Tryz.ntmps98
    go_wp2
    go_ret
    exact ⟨ret_bool E0.out.symm, Q.refl _⟩
  have t1 : decide (1099511627776 < s) = false := decide_eq_false h1
  have E0 : Hid (Ex.mayB l s = Ex.mayGo (-1) l s) := mayB_in (by omega) (by omega)
  generalize Ex.mayB l s = r at *
  clear h0 h1
  go_enter Tryz.func98, Tryz.ntmps98
  go_wp2
  go_loopw [5, 6] (fun b i wr => ∃ (k : Nat) (last : Int), i = .int .i64 k ∧ b = .int .i64 last ∧ k ≤ l.length ∧ Q w wr ∧ Hid (r = Ex.mayGo last (l.drop k) s)) (fun _ i _ => l.length - (intOf i).toNat)
  case atStart => exact ⟨0, -1, rfl, rfl, by omega, Q.refl _, E0.out⟩
  case round =>
    obtain ⟨k, last, rfl, rfl, hk, hq, H⟩ := hrel
    by_cases hlt : k < l.length
    · obtain ⟨g, og, _, ea, _, _, hc⟩ := (HV.out _ hq).atX (by omega)
      obtain ⟨rfl, -, rfl⟩ := Value.slice.inj ea
      have c1 := hc k hlt
      obtain ⟨o1, o2⟩ := HB.out k hlt
      have En : Hid (¬ (l[k].2 ≠ 0 ∧ last < (l[k].1 : Int)) → r = false) := Ex.mayGo_no hlt H.out
      have Ey : Hid ((l[k].2 ≠ 0 ∧ last < (l[k].1 : Int)) → r = Ex.mayGo ((l[k].1 : Int) + l[k].2) (l.drop (k + 1)) s) := Ex.mayGo_on hlt H.out
      clear hc H E0 HV HB ea
      generalize l[k] = x at *
      have lt2 : (k : Int) < (l.length : Int) := by omega
      have wx : IntKind.i64.wrap ((x.1 : Int) + (x.2 : Int)) = (x.1 : Int) + (x.2 : Int) := IntWalk.i64_in _ (by omega)
      go_wp2_with fail
      refine (rLong_any x _ o2).mono ?_
      rintro e w2 ⟨rfl, rfl⟩
      by_cases h1 : x.2 = 0
      · have t2 : (((x.2 : Nat) : Int) == 0) = true := beq_iff_eq.2 (by omega)
        have E1 := Lib.hid (En.out (fun h => h.1 h1))
        clear h1 Ey En
        go_wp2
        go_ret
        exact ⟨ret_bool E1.out.symm, hq⟩
      have t2 : (((x.2 : Nat) : Int) == 0) = false := beq_eq_false_iff_ne.2 (by omega)
      by_cases h2 : last < (x.1 : Int)
      · have t3 : decide ((x.1 : Int) ≤ last) = false := decide_eq_false (by omega)
        have E1 := Lib.hid (Ey.out ⟨h1, h2⟩)
        clear h1 h2 Ey En
        go_wp2_with fail
        refine (rAt_any x _ o1).mono ?_
        rintro e w2 ⟨rfl, rfl⟩
        go_wp2_with fail
        go_quiet (first | ((go_at_call 138; exact Calls.quiet_of_same (rAt_any x _ o1))) | ((go_at_call 137; exact Calls.quiet_of_same (rLong_any x _ o2))))
        go_wp2
        go_roundw
        case rel => exact ⟨k + 1, _, by go_num, rfl, by omega, hq.drewN _, E1⟩
        case measure => simp [intOf]; omega
      · have t3 : decide ((x.1 : Int) ≤ last) = true := decide_eq_true (by omega)
        have E1 := Lib.hid (En.out (fun h => h2 h.2))
        clear h1 h2 Ey En
        go_wp2_with fail
        refine (rAt_any x _ o1).mono ?_
        rintro e w2 ⟨rfl, rfl⟩
        go_wp2
        go_ret
        exact ⟨ret_bool E1.out.symm, hq⟩
    · have E1 : Hid (r = decide (last ≤ s)) := Lib.hid (Ex.mayGo_end hlt H.out)
      clear H
      go_wp2
      go_ret
      exact ⟨ret_bool E1.out.symm, hq⟩

/-! ### clip -/
theorem keep2g {w0 w w' : World} {g h i j : Nat} {u v : Value} (k : Q w0 w ∧ w.cell? ⟨g, i, none⟩ = some u ∧ w.cell? ⟨h, j, none⟩ = some v) (q : Q w w') : Q w0 w' ∧ w'.cell? ⟨g, i, none⟩ = some u ∧ w'.cell? ⟨h, j, none⟩ = some v :=
  ⟨k.1.trans q, q.cell k.2.1, q.cell k.2.2⟩
theorem clip_take {l : List Pc} {lo hi : Int} {k : Nat} (hk : k < l.length) (h : max lo l[k].1 < min hi (l[k].1 + l[k].2.size)) : clipP (l.take k) lo hi ++ [cutP lo hi l[k]] = clipP (l.take (k + 1)) lo hi := by
  rw [List.take_succ_eq_append_getElem hk]
  unfold clipP
  rw [List.filterMap_append]
  simp [h]
theorem clip_skip {l : List Pc} {lo hi : Int} {k : Nat} (hk : k < l.length) (h : ¬ max lo l[k].1 < min hi (l[k].1 + l[k].2.size)) : clipP (l.take k) lo hi = clipP (l.take (k + 1)) lo hi := by
  rw [List.take_succ_eq_append_getElem hk]
  unfold clipP
  rw [List.filterMap_append]
  simp [h]
theorem step_append_pcs {ops : Array Oper} {o : Oper} {a : Act} {w : World} {K : Act → World → Prop} {Q0 : Exit → Act → World → Prop} {E : Prop} (hgd : o.guard = none) (s x : Operand)
    (ho : o.op = .call { callee := .builtin .append, args := #[s, x], argTypes := #[45, 45] })
    (B : Nat) (v : Value) (l : List Pc) (hs : a.eval s = v) (hown : OwnP w B v l) (vx : Value) (m : List Pc) (hx : a.eval x = vx) (he : PcsAt w vx m) (hnl : l.length + m.length ≤ 100000) (hbase : B ≤ w.heap.size)
    (h : ∀ v' w', OwnP w' B v' (l ++ m) → w.grownBy w' v.ownBlock → K (a.put o.dst v') w') :
    if Region.wanted o (yielded ops a.tmps) = true then Oper.wp Tryz.prog o a w K Q0 else E := by
  have hw : Region.wanted o (yielded ops a.tmps) = true := by simp [Region.wanted, hgd]
  rw [if_pos hw]
  obtain ⟨v', w', hr, a2, a3, _⟩ := run_append_pcs o.type B v l hown vx m he hnl hbase
  unfold Oper.wp execOp
  simp only [ho, resolve, invoke, builtin, Sem.run_bind, Sem.run_pure, Result.andThen_ok, List.map_toArray, List.map_cons, List.map_nil, hs, hx, hr]
  exact h v' w' a2 a3
set_option maxRecDepth 100000 in
set_option maxHeartbeats 4000000 in
theorem clip_any (v : Value) (l : List Pc) (lo hi : Int) (w : World) (h : PcsAt w v l) (hl : l.length ≤ 10000) (hok : ∀ p ∈ l, PcOk p) (h0 : 0 ≤ lo) (h1 : lo ≤ 2199023255552) (h2 : 0 ≤ hi) (h3 : hi ≤ 2199023255552) :
    Calls Tryz.prog 81 #[v, .int .i64 lo, .int .i64 hi] w fun e w' => ∃ v', e = .returned v' ∧ OwnP w' w.heap.size v' (clipP l lo hi) ∧ Q w w' := by
  have HV : Hid (∀ w', Q w w' → PcsAt w' v l) := fun w' q => h.keep q
  have HB : Hid (∀ k (hk : k < l.length), PcOk l[k]) := fun k hk => hok _ (List.getElem_mem hk)
  obtain ⟨A, c, rfl⟩ := h.form
  clear h hok
  go_enter Tryz.func81, Tryz.ntmps81
  go_wp2
  go_loopw [7, 8, 9, 10] (fun o i _ _ wr => ∃ (k : Nat) (ns : List Pc), i = .int .i64 k ∧ k ≤ l.length ∧ OwnP wr w.heap.size o ns ∧ Q w wr ∧ ns.length ≤ k ∧ Hid (ns = clipP (l.take k) lo hi)) (fun _ i _ _ _ => l.length - (intOf i).toNat)
  case atStart => exact ⟨0, [], rfl, by omega, OwnR.nil_ _ _ _, Q.refl _, by simp, by rw [List.take_zero]; rfl⟩
  case round =>
    obtain ⟨k, ns, rfl, hk, hown, hq, hn, H⟩ := hrel
    obtain ⟨B, cb, rfl⟩ := hown.form flatP
    by_cases hlt : k < l.length
    · obtain ⟨g, og, _, ea, _, _, hc⟩ := (HV.out _ hq).atP (by omega)
      obtain ⟨rfl, -, rfl⟩ := Value.slice.inj ea
      obtain ⟨c1, c2⟩ := hc k hlt
      obtain ⟨gw, ow, _, eaw, _, _, hcw⟩ := (HV.out _ (Q.refl w)).atP (by omega)
      obtain ⟨eaw1, -, -⟩ := Value.slice.inj eaw
      cases eaw1
      obtain ⟨b1, b2⟩ := hcw k hlt
      have o1 := HB.out k hlt
      have E1 : Hid (max lo l[k].1 < min hi (l[k].1 + l[k].2.size) → ns ++ [cutP lo hi l[k]] = clipP (l.take (k + 1)) lo hi) := fun hh => by rw [H.out]; exact clip_take hlt hh
      have E2 : Hid (¬ max lo l[k].1 < min hi (l[k].1 + l[k].2.size) → ns = clipP (l.take (k + 1)) lo hi) := fun hh => by rw [H.out]; exact clip_skip hlt hh
      clear hc hcw H HV HB ea eaw
      generalize l[k] = x at *
      obtain ⟨x1, xs⟩ := x
      unfold PcOk at o1
      unfold cutP at E1
      simp only at c1 c2 b1 b2 o1 E1 E2
      have lt2 : (k : Int) < (l.length : Int) := by omega
      have wx : IntKind.i64.wrap (x1 + (xs.size : Int)) = x1 + (xs.size : Int) := IntWalk.i64_in _ (by omega)
      by_cases hab : max lo x1 < min hi (x1 + (xs.size : Int))
      · have t1 : decide (max lo x1 < min hi (x1 + (xs.size : Int))) = true := decide_eq_true hab
        obtain ⟨n1, hn1⟩ : ∃ n : Nat, max lo x1 - x1 = (n : Int) := ⟨(max lo x1 - x1).toNat, by omega⟩
        obtain ⟨n2, hn2⟩ : ∃ n : Nat, min hi (x1 + (xs.size : Int)) - x1 = (n : Int) := ⟨(min hi (x1 + (xs.size : Int)) - x1).toNat, by omega⟩
        have w1 : IntKind.i64.wrap (max lo x1 - x1) = (n1 : Int) := by rw [hn1]; exact IntWalk.i64_in _ (by omega)
        have w2 : IntKind.i64.wrap (min hi (x1 + (xs.size : Int)) - x1) = (n2 : Int) := by rw [hn2]; exact IntWalk.i64_in _ (by omega)
        have hs : ∀ w, Sem.run Tryz.prog (Instr.sliceAt 9 (.string xs) (some (.int .i64 (n1 : Int))) (some (.int .i64 (n2 : Int))) none) w = .ok (.string (xs.extract n1 n2)) w := fun w => cut_str xs n1 n2 (by omega) (by omega) w
        have E3 := Lib.hid (E1.out hab)
        rw [hn1, hn2, Int.toNat_natCast, Int.toNat_natCast] at E3
        generalize xs.extract n1 n2 = ys at *
        clear hn1 hn2 E1 E2 hab
        go_wp2_with fail
        go_quiet (fail)
        go_wp2_with fail
        have hq1 := hq.drewN nq
        have hown1 := hown.keep ((Q.refl wr).drewN nq)
        have d1 := hq1.cell b1
        have d2 := hq1.cell b2
        have KS : ∀ w', Q w w' → Q w w' ∧ w'.cell? ⟨g, og + k * 2, none⟩ = some (.int .i64 x1) ∧ w'.cell? ⟨g, og + k * 2 + 1, none⟩ = some (.string xs) := fun w' q => ⟨q, q.cell b1, q.cell b2⟩
        clear hq hown c1 c2
        generalize wr.drewN nq = w3 at *
        have hq2 : Q w (w3.alloc (.cells #[.int .i64 (max lo x1), .string ys] 87)).drew := (hq1.alloc _).drew
        have hown2 : OwnP (w3.alloc (.cells #[.int .i64 (max lo x1), .string ys] 87)).drew w.heap.size (.slice B ns.length cb) ns := (hown1.keep ((Q.refl w3).alloc _)).keep (Q.refl _).drew
        have hone : PcsAt (w3.alloc (.cells #[.int .i64 (max lo x1), .string ys] 87)).drew (.slice (some ⟨w3.heap.size, 0, none⟩) 1 1) [(max lo x1, ys)] := ((own_one flatP 87 w3 w3.heap.size (Nat.le_refl _) (max lo x1, ys)).row flatP).keep (Q.refl _).drew
        replace KS := Lib.hid KS
        go_region_held3 (fun w' => Q w w' ∧ w'.cell? ⟨g, og + k * 2, none⟩ = some (.int .i64 x1) ∧ w'.cell? ⟨g, og + k * 2 + 1, none⟩ = some (.string xs)) (first | assumption | exact KS.out _ (by assumption) | exact KS.out _ (Q.drew hq1) | exact KS.out _ (Q.alloc (And.left (by assumption)) _) | exact KS.out _ (Q.drew (And.left (by assumption)))) (first
          | (refine step_append_pcs rfl (.tmp 41) (.tmp 64) rfl w.heap.size (.slice B ns.length cb) ns (by simp [Act.eval]) hown2 (.slice (some ⟨w3.heap.size, 0, none⟩) 1 1) [(max lo x1, ys)] (by simp [Act.eval]) hone (by simp; omega) hq2.size ?_; intro v6 w6 hown6 hg6; have q6 : Q w w6 := Below.grown hq2 hg6 hq2.size fun g hg => (hown2.lt g hg).1))
        clear hown1 hown2 hone hq1 hq2 hg6 KS d1 d2
        have hl6 : (ns ++ [(max lo x1, ys)]).length ≤ k + 1 := by simp; omega
        generalize ns ++ [(max lo x1, ys)] = ns6 at *
        go_wp2
        go_roundw
        case rel => exact ⟨k + 1, ns6, by go_num, by omega, hown6, q6, hl6, E3⟩
        case measure => simp [intOf]; omega
      · have t1 : decide (max lo x1 < min hi (x1 + (xs.size : Int))) = false := decide_eq_false hab
        have E3 := Lib.hid (E2.out hab)
        clear E1 E2 hab
        go_wp2_with fail
        go_quiet (fail)
        go_wp2
        go_roundw
        case rel => exact ⟨k + 1, ns, by go_num, by omega, hown.keep ((Q.refl _).drewN _), hq.drewN _, by omega, E3⟩
        case measure => simp [intOf]; omega
    · have E1 : Hid (ns = clipP l lo hi) := by
        have := H.out
        rwa [List.take_of_length_le (by omega)] at this
      clear H
      go_wp2
      go_ret
      exact ⟨_, rfl, by rw [← E1.out]; exact hown, hq⟩

end Go.Proofs.YtgbenepapajieaaGreat.Nd
