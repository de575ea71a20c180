/-
  For any metadata: what is done to the attributes and entries of one copy is done neither to the original nor to another copy.
-/
import Derived.Test.YtidpcoolfomgjaaToldT
import Derived.Test.YtidpcoolfomgjaaOpenM
import Derived.Test.YtidpcoolfomgjaaFew
import Derived.Test.YtidpcoolfomgjaaTwoCopies
namespace Go.Proofs.Ytidpcoolfomgjaa.own_
open Go.ChangeShapes Go.WideShapes Go.ChangeAt Go.WideMaps Go.WideElems Go.RowKit

theorem few_c (v : Value) (m : Mt) (b : Bool) (w : World) (h : MetaAt w v m) (hb : fewM m = b) : Calls Try.prog 7 #[v] w fun e w' => e = .returned (.bool b) ∧ Q w w' := by
  refine (few_any v m w h).mono ?_
  rintro e w' ⟨rfl, h1⟩
  exact ⟨by rw [hb], h1.q⟩

/-- The first k elements turned. -/
def part {α : Type} (f : α → α) (l : List α) (k : Nat) : List α := (l.take k).map f ++ l.drop k
theorem part_zero {α : Type} (f : α → α) (l : List α) : part f l 0 = l := by simp [part]
theorem part_len {α : Type} (f : α → α) (l : List α) (k : Nat) (hk : k ≤ l.length) : (part f l k).length = l.length := by simp [part]; omega
theorem part_end {α : Type} (f : α → α) (l : List α) (k : Nat) (hk : l.length ≤ k) : part f l k = l.map f := by
  unfold part
  rw [List.take_of_length_le hk, List.drop_of_length_le hk, List.append_nil]
theorem part_at {α : Type} (f : α → α) (l : List α) (k : Nat) (hk : k < l.length) (h : k < (part f l k).length) : (part f l k)[k] = l[k] := by
  have e : (part f l k)[k]? = some l[k] := by
    unfold part
    rw [List.getElem?_append_right (by simp; omega), List.length_map, List.length_take, Nat.min_eq_left (Nat.le_of_lt hk), Nat.sub_self, List.getElem?_drop, Nat.add_zero]
    exact List.getElem?_eq_getElem hk
  exact Option.some.inj ((List.getElem?_eq_getElem h).symm.trans e)
theorem part_next {α : Type} (f : α → α) (l : List α) (k : Nat) (hk : k < l.length) : part f l (k + 1) = (part f l k).set k (f l[k]) := by
  unfold part
  rw [List.set_append_right _ _ (by simp; omega), List.take_succ_eq_append_getElem hk, List.map_append, List.append_assoc]
  congr 1
  rw [List.length_map, List.length_take, Nat.min_eq_left (Nat.le_of_lt hk), Nat.sub_self, List.drop_eq_getElem_cons hk]
  rfl
def fx (x : Attr) : Attr := (x.1 ++ ⟨#[120]⟩, x.2)
def gx (x : Ace) : Ace := (x.1, x.2.1, bits .xor .i64 x.2.2 1)
theorem ofInt_bxor (x y : Int) : BitVec.ofInt 64 (bits .xor .i64 x y) = BitVec.ofInt 64 x ^^^ BitVec.ofInt 64 y := by
  show BitVec.ofInt 64 (IntKind.i64.wrap ((BitVec.ofInt 64 x ^^^ BitVec.ofInt 64 y).toNat : Int)) = _
  rw [ofInt_wrap, BitVec.ofInt_natCast, BitVec.ofNat_toNat, BitVec.setWidth_eq]
/-- A number with its lowest bit turned is another. -/
theorem bxor_ne (x : Int) : bits .xor .i64 x 1 ≠ x := by
  intro e
  have h := ofInt_bxor x 1
  rw [e] at h
  have h2 : BitVec.ofInt 64 x ^^^ BitVec.ofInt 64 x = BitVec.ofInt 64 x ^^^ (BitVec.ofInt 64 x ^^^ BitVec.ofInt 64 1) := by rw [← h]
  rw [BitVec.xor_self, ← BitVec.xor_assoc, BitVec.xor_self, BitVec.zero_xor] at h2
  exact absurd h2 (by decide)
theorem fx_ne (x : Attr) : fx x ≠ x := by
  intro e
  have := congrArg (fun y : Attr => y.1.size) e
  simp [fx] at this
  exact absurd this (by decide)
theorem gx_ne (x : Ace) : gx x ≠ x := fun e => bxor_ne x.2.2 (congrArg (fun y : Ace => y.2.2) e)
theorem map_ne {α : Type} {f : α → α} (hf : ∀ x, f x ≠ x) {l : List α} (h : l.map f = l) : l = [] := by
  cases l with
  | nil => rfl
  | cons x r => rw [List.map_cons] at h; exact absurd (List.cons.inj h).1 (hf x)
abbrev turned (m : Mt) : Mt := ⟨m.mode, m.uid, m.gid, m.time, m.attrs.map fx, m.acl.map gx⟩
theorem turned_same (m : Mt) : ((m.attrs.length : Int) + (m.acl.length : Int) == 0) = decide (turned m = m) := by
  rw [Bool.eq_iff_iff, beq_iff_eq, decide_eq_true_eq]
  obtain ⟨a1, a2, a3, a4, a5, a6⟩ := m
  simp only [turned, Mt.mk.injEq, true_and]
  constructor
  · intro h
    have h1 : a5 = [] := List.eq_nil_of_length_eq_zero (by omega)
    have h2 : a6 = [] := List.eq_nil_of_length_eq_zero (by omega)
    subst h1
    subst h2
    exact ⟨rfl, rfl⟩
  · rintro ⟨h1, h2⟩
    rw [map_ne fx_ne h1, map_ne gx_ne h2]
    rfl
theorem keep18 {w0 w w' : World} {b0 o0 b1 o1 b2 o2 b3 o3 b4 o4 b5 o5 b6 o6 b7 o7 b8 o8 b9 o9 b10 o10 b11 o11 b12 o12 b13 o13 b14 o14 b15 o15 b16 o16 b17 o17 : Nat} {v0 v1 v2 v3 v4 v5 v6 v7 v8 v9 v10 v11 v12 v13 v14 v15 v16 v17 : Value} (h : Q w0 w ∧ w.cell? ⟨b0, o0, none⟩ = some v0 ∧ w.cell? ⟨b1, o1, none⟩ = some v1 ∧ w.cell? ⟨b2, o2, none⟩ = some v2 ∧ w.cell? ⟨b3, o3, none⟩ = some v3 ∧ w.cell? ⟨b4, o4, none⟩ = some v4 ∧ w.cell? ⟨b5, o5, none⟩ = some v5 ∧ w.cell? ⟨b6, o6, none⟩ = some v6 ∧ w.cell? ⟨b7, o7, none⟩ = some v7 ∧ w.cell? ⟨b8, o8, none⟩ = some v8 ∧ w.cell? ⟨b9, o9, none⟩ = some v9 ∧ w.cell? ⟨b10, o10, none⟩ = some v10 ∧ w.cell? ⟨b11, o11, none⟩ = some v11 ∧ w.cell? ⟨b12, o12, none⟩ = some v12 ∧ w.cell? ⟨b13, o13, none⟩ = some v13 ∧ w.cell? ⟨b14, o14, none⟩ = some v14 ∧ w.cell? ⟨b15, o15, none⟩ = some v15 ∧ w.cell? ⟨b16, o16, none⟩ = some v16 ∧ w.cell? ⟨b17, o17, none⟩ = some v17) (q : Q w w') : Q w0 w' ∧ w'.cell? ⟨b0, o0, none⟩ = some v0 ∧ w'.cell? ⟨b1, o1, none⟩ = some v1 ∧ w'.cell? ⟨b2, o2, none⟩ = some v2 ∧ w'.cell? ⟨b3, o3, none⟩ = some v3 ∧ w'.cell? ⟨b4, o4, none⟩ = some v4 ∧ w'.cell? ⟨b5, o5, none⟩ = some v5 ∧ w'.cell? ⟨b6, o6, none⟩ = some v6 ∧ w'.cell? ⟨b7, o7, none⟩ = some v7 ∧ w'.cell? ⟨b8, o8, none⟩ = some v8 ∧ w'.cell? ⟨b9, o9, none⟩ = some v9 ∧ w'.cell? ⟨b10, o10, none⟩ = some v10 ∧ w'.cell? ⟨b11, o11, none⟩ = some v11 ∧ w'.cell? ⟨b12, o12, none⟩ = some v12 ∧ w'.cell? ⟨b13, o13, none⟩ = some v13 ∧ w'.cell? ⟨b14, o14, none⟩ = some v14 ∧ w'.cell? ⟨b15, o15, none⟩ = some v15 ∧ w'.cell? ⟨b16, o16, none⟩ = some v16 ∧ w'.cell? ⟨b17, o17, none⟩ = some v17 := by
  obtain ⟨h0, h1, h2, h3, h4, h5, h6, h7, h8, h9, h10, h11, h12, h13, h14, h15, h16, h17, h18⟩ := h
  exact ⟨h0.trans q, q.cell h1, q.cell h2, q.cell h3, q.cell h4, q.cell h5, q.cell h6, q.cell h7, q.cell h8, q.cell h9, q.cell h10, q.cell h11, q.cell h12, q.cell h13, q.cell h14, q.cell h15, q.cell h16, q.cell h17, q.cell h18⟩

set_option maxHeartbeats 8000000 in
set_option maxRecDepth 100000 in
theorem walk (v : Value) (m : Mt) (w : World) (h : MetaAt w v m) :
    Calls Try.prog 5 #[v] w fun e w' => e = .returned (.bool true) ∧ Q w w' := by
  have HM : Hid (∀ w', Q w w' → MetaAt w' v m) := fun w' q => h.keep q
  obtain ⟨xa, xl, rfl, ta, la⟩ := h
  obtain ⟨Xa, na, rfl⟩ := ta.form
  obtain ⟨Xl, nl, rfl⟩ := la.form
  unfold metaV at *
  have mixed : Try.prog.follows .mixedOrders = true := by kernel_rfl
  obtain ⟨f1, hf1⟩ : ∃ f, fewM m = f := ⟨_, rfl⟩
  have F1 := Lib.hid hf1
  clear hf1
  go_enter Try.func5, Try.ntmps5
  go_wp2_with fail
  have x0 : (w.alloc (.cells #[.int .i64 m.mode, .int .i64 m.uid, .int .i64 m.gid, .int .i64 m.time, .slice Xa m.attrs.length na, .slice Xl m.acl.length nl] 25)).cell? ⟨w.heap.size, 0, none⟩ = some (.int .i64 m.mode) := by simp
  have x1 : (w.alloc (.cells #[.int .i64 m.mode, .int .i64 m.uid, .int .i64 m.gid, .int .i64 m.time, .slice Xa m.attrs.length na, .slice Xl m.acl.length nl] 25)).cell? ⟨w.heap.size, 1, none⟩ = some (.int .i64 m.uid) := by simp
  have x2 : (w.alloc (.cells #[.int .i64 m.mode, .int .i64 m.uid, .int .i64 m.gid, .int .i64 m.time, .slice Xa m.attrs.length na, .slice Xl m.acl.length nl] 25)).cell? ⟨w.heap.size, 2, none⟩ = some (.int .i64 m.gid) := by simp
  have x3 : (w.alloc (.cells #[.int .i64 m.mode, .int .i64 m.uid, .int .i64 m.gid, .int .i64 m.time, .slice Xa m.attrs.length na, .slice Xl m.acl.length nl] 25)).cell? ⟨w.heap.size, 3, none⟩ = some (.int .i64 m.time) := by simp
  have x4 : (w.alloc (.cells #[.int .i64 m.mode, .int .i64 m.uid, .int .i64 m.gid, .int .i64 m.time, .slice Xa m.attrs.length na, .slice Xl m.acl.length nl] 25)).cell? ⟨w.heap.size, 4, none⟩ = some (.slice Xa m.attrs.length na) := by simp
  have x5 : (w.alloc (.cells #[.int .i64 m.mode, .int .i64 m.uid, .int .i64 m.gid, .int .i64 m.time, .slice Xa m.attrs.length na, .slice Xl m.acl.length nl] 25)).cell? ⟨w.heap.size, 5, none⟩ = some (.slice Xl m.acl.length nl) := by simp
  have q0 : Q w (w.alloc (.cells #[.int .i64 m.mode, .int .i64 m.uid, .int .i64 m.gid, .int .i64 m.time, .slice Xa m.attrs.length na, .slice Xl m.acl.length nl] 25)) := (Q.refl _).alloc _
  generalize (w.alloc (.cells #[.int .i64 m.mode, .int .i64 m.uid, .int .i64 m.gid, .int .i64 m.time, .slice Xa m.attrs.length na, .slice Xl m.acl.length nl] 25)) = w2 at *
  refine (few_c _ m f1 _ (HM.out _ q0) F1.out).mono ?_
  rintro e w3 ⟨rfl, q3⟩
  replace x0 := q3.cell x0
  replace x1 := q3.cell x1
  replace x2 := q3.cell x2
  replace x3 := q3.cell x3
  replace x4 := q3.cell x4
  replace x5 := q3.cell x5
  replace q0 := q0.trans q3
  clear q3
  cases f1 with
  | false =>
    go_wp2_with fail
    refine (told_any _).mono ?_
    rintro e w4 ⟨rfl, q4⟩
    go_wp2
    go_ret
    exact ⟨rfl, q0.trans q4⟩
  | true =>
  obtain ⟨SM, L12, L20⟩ := fewM_bounds F1.out
  have L0 := Lib.hid SM
  have L1 := Lib.hid L12
  have L2 := Lib.hid L20
  clear L12 L20 SM
  go_wp2_with fail
  have QM : Hid (∀ w', Q w3 w' → MetaAt w' (.agg #[.int .i64 m.mode, .int .i64 m.uid, .int .i64 m.gid, .int .i64 m.time, .slice Xa m.attrs.length na, .slice Xl m.acl.length nl]) m) := fun w' q => HM.out w' (q0.trans q)
  refine Code.wp_mono (Q := fun e a' w' => match e with | .normal => ∃ (p r : Nat) (va vl vb lb u11 u12 u13 u14 : Value), a' = { tmps := #[(.agg #[.int .i64 m.mode, .int .i64 m.uid, .int .i64 m.gid, .int .i64 m.time, .slice Xa m.attrs.length na, .slice Xl m.acl.length nl]), .pointer (some ⟨w.heap.size, 0, none⟩), .bool false, .pointer (some ⟨p, 0, none⟩), .pointer (some ⟨r, 0, none⟩), undef, undef, (.agg #[.int .i64 m.mode, .int .i64 m.uid, .int .i64 m.gid, .int .i64 m.time, .slice Xa m.attrs.length na, .slice Xl m.acl.length nl]), .bool true, .bool false, undef, u11, u12, u13, u14, undef, undef, undef, undef, undef, undef, undef, undef, undef, undef, undef, undef, undef, undef, undef, undef, undef, undef, undef, undef, undef, undef, undef, undef, undef, undef, undef, undef, undef, undef, undef, undef, undef, undef, undef, undef, undef, undef, undef, undef, undef, undef, undef, undef, undef, undef, undef, undef, undef, undef, undef, undef, undef, undef, undef, undef, undef, undef, undef, undef, undef, undef, undef, undef, undef, undef, undef], defers := [] } ∧ TwoAt m m.attrs m.acl w3 w' p r va vl vb lb | _ => False) ?post ?reg
  case reg =>
    clear ta la
    refine wp_region_inv (fun c a' w' => ∃ u3 u4 u11 u12 u13 u14 : Value, a' = { tmps := #[(.agg #[.int .i64 m.mode, .int .i64 m.uid, .int .i64 m.gid, .int .i64 m.time, .slice Xa m.attrs.length na, .slice Xl m.acl.length nl]), .pointer (some ⟨w.heap.size, 0, none⟩), .bool false, u3, u4, undef, undef, (.agg #[.int .i64 m.mode, .int .i64 m.uid, .int .i64 m.gid, .int .i64 m.time, .slice Xa m.attrs.length na, .slice Xl m.acl.length nl]), .bool true, .bool false, undef, u11, u12, u13, u14, undef, undef, undef, undef, undef, undef, undef, undef, undef, undef, undef, undef, undef, undef, undef, undef, undef, undef, undef, undef, undef, undef, undef, undef, undef, undef, undef, undef, undef, undef, undef, undef, undef, undef, undef, undef, undef, undef, undef, undef, undef, undef, undef, undef, undef, undef, undef, undef, undef, undef, undef, undef, undef, undef, undef, undef, undef, undef, undef, undef, undef, undef, undef, undef, undef, undef, undef], defers := [] } ∧ I3 m w3 (.agg #[.int .i64 m.mode, .int .i64 m.uid, .int .i64 m.gid, .int .i64 m.time, .slice Xa m.attrs.length na, .slice Xl m.acl.length nl]) c u3 u4 u11 u12 u13 u14 w') mixed (by kernel_rfl) ?_ ?_ ?_
    · exact ⟨_, _, _, _, _, _, rfl, I3.start ((Q.refl w3).drew)⟩
    · rintro c a' w' i oo ⟨u3, u4, u11, u12, u13, u14, rfl, hI⟩ ho hc hd
      have y0 := hI.q.cell x0
      have y1 := hI.q.cell x1
      have y2 := hI.q.cell x2
      have y3 := hI.q.cell x3
      have y4 := hI.q.cell x4
      have y5 := hI.q.cell x5
      have hi : i < 8 := (Array.getElem?_eq_some_iff.1 ho).1
      clear x0 x1 x2 x3 x4 x5
      match i, hi with
      | 0, _ =>
        cases (show some (_ : Oper) = some oo from ho)
        refine wpOp_step rfl (fun K' hK => ?_)
        rw [if_pos (by rfl)]
        go_simp
        exact hK _ _ ⟨_, _, _, _, _, _, rfl, hI.add0⟩
      | 1, _ =>
        cases (show some (_ : Oper) = some oo from ho)
        obtain rfl := hI.l0 (hd { on := 0, ground := .data } (by simp) rfl)
        refine wpOp_step rfl (fun K' hK => ?_)
        rw [if_pos (by rfl)]
        go_simp
        refine (copy_any _ m _ (QM.out _ hI.q) (by have := L1.out; omega) (by have := L2.out; omega)).mono ?_
        rintro e wa ⟨v, rfl, hv, qn⟩
        exact hK _ _ ⟨_, _, _, _, _, _, rfl, hI.add1 hc qn hv⟩
      | 2, _ =>
        cases (show some (_ : Oper) = some oo from ho)
        refine wpOp_step rfl (fun K' hK => ?_)
        rw [if_pos (by rfl)]
        go_simp
        exact hK _ _ ⟨_, _, _, _, _, _, rfl, hI.add2⟩
      | 3, _ =>
        cases (show some (_ : Oper) = some oo from ho)
        obtain rfl := hI.l2 (hd { on := 2, ground := .data } (by simp) rfl)
        refine wpOp_step rfl (fun K' hK => ?_)
        rw [if_pos (by rfl)]
        go_simp
        refine (copy_any _ m _ (QM.out _ hI.q) (by have := L1.out; omega) (by have := L2.out; omega)).mono ?_
        rintro e wa ⟨v, rfl, hv, qn⟩
        exact hK _ _ ⟨_, _, _, _, _, _, rfl, hI.add3 hc qn hv⟩
      | 4, _ =>
        cases (show some (_ : Oper) = some oo from ho)
        refine wpOp_step rfl (fun K' hK => ?_)
        rw [if_pos (by rfl)]
        go_simp
        exact hK _ _ ⟨_, _, _, _, _, _, rfl, hI.add4 hc _ rfl⟩
      | 5, _ =>
        cases (show some (_ : Oper) = some oo from ho)
        refine wpOp_step rfl (fun K' hK => ?_)
        rw [if_pos (by rfl)]
        go_simp
        exact hK _ _ ⟨_, _, _, _, _, _, rfl, hI.add5 hc _ rfl⟩
      | 6, _ =>
        cases (show some (_ : Oper) = some oo from ho)
        have c1 := hd { on := 1, ground := .data } (by simp) rfl
        have c4 := hd { on := 4, ground := .data } (by simp) rfl
        obtain ⟨p, cs, rfl, hp, hb, hs⟩ := hI.p4 c4
        obtain ⟨d0, d1, d2, d3, d4, d5, rfl⟩ := size6 hs
        obtain ⟨va, vl, rfl, oa, ol⟩ := hI.k1 c1
        obtain ⟨A1, n1, rfl⟩ := oa.form flatT
        obtain ⟨B1, k1, rfl⟩ := ol.form flat3
        have st := box_store hb (.int .i64 m.mode) (.int .i64 m.uid) (.int .i64 m.gid) (.int .i64 m.time) (.slice A1 m.attrs.length n1) (.slice B1 m.acl.length k1)
        obtain ⟨z0, z1, z2, z3, z4, z5⟩ := hb.cells
        have zf := hb.soft
        unfold metaV at *
        refine wpOp_step rfl (fun K' hK => ?_)
        rw [if_pos (by rfl)]
        go_simp
        exact hK _ _ ⟨_, _, _, _, _, _, rfl, hI.add6 c1 c4 rfl st.2 rfl st.1⟩
      | 7, _ =>
        cases (show some (_ : Oper) = some oo from ho)
        have c3 := hd { on := 3, ground := .data } (by simp) rfl
        have c5 := hd { on := 5, ground := .data } (by simp) rfl
        obtain ⟨p, cs, rfl, hp, hb, hs⟩ := hI.p5 c5
        obtain ⟨d0, d1, d2, d3, d4, d5, rfl⟩ := size6 hs
        obtain ⟨va, vl, rfl, oa, ol⟩ := hI.k3 c3
        obtain ⟨A1, n1, rfl⟩ := oa.form flatT
        obtain ⟨B1, k1, rfl⟩ := ol.form flat3
        have st := box_store hb (.int .i64 m.mode) (.int .i64 m.uid) (.int .i64 m.gid) (.int .i64 m.time) (.slice A1 m.attrs.length n1) (.slice B1 m.acl.length k1)
        obtain ⟨z0, z1, z2, z3, z4, z5⟩ := hb.cells
        have zf := hb.soft
        unfold metaV at *
        refine wpOp_step rfl (fun K' hK => ?_)
        rw [if_pos (by rfl)]
        go_simp
        exact hK _ _ ⟨_, _, _, _, _, _, rfl, hI.add7 c3 c5 rfl st.2 rfl st.1⟩
    · rintro c a' w' ⟨u3, u4, u11, u12, u13, u14, rfl, hI⟩ hall
      have c1 : c 1 = true := hall 1 (by simp)
      have c3 : c 3 = true := hall 3 (by simp)
      have c4 : c 4 = true := hall 4 (by simp)
      have c5 : c 5 = true := hall 5 (by simp)
      have c6 : c 6 = true := hall 6 (by simp)
      have c7 : c 7 = true := hall 7 (by simp)
      obtain ⟨p, va, vl, rfl, rfl, bp⟩ := hI.s6 c6
      obtain ⟨r, vb, lb, rfl, rfl, br⟩ := hI.s7 c7
      obtain ⟨va', vl', ea, oa, ol⟩ := hI.k1 c1
      obtain ⟨vb', lb', eb, ob, om⟩ := hI.k3 c3
      obtain ⟨p', cs', ep, hp, _⟩ := hI.p4 c4
      obtain ⟨r', cs'', er, hr, _⟩ := hI.p5 c5
      cases ep
      cases er
      unfold metaV at ea eb
      simp only [Value.agg.injEq, Array.mk.injEq, List.cons.injEq, true_and, and_true] at ea eb
      obtain ⟨rfl, rfl⟩ := ea
      obtain ⟨rfl, rfl⟩ := eb
      exact ⟨p, r, va, vl, vb, lb, _, _, _, _, rfl, hI.q, hp, hr, dj_ptrs (hI.d45 c4 c5), bp, br, oa, ol, ob, om, hI.d13 c1 c3, dj_ptr (hI.d14 c1 c4), dj_ptr (hI.d34 c3 c4), dj_ptr (hI.d15 c1 c5), dj_ptr (hI.d35 c3 c5)⟩
  case post =>
    rintro e a' w4 h
    cases e <;> first | exact h.elim | skip
    obtain ⟨p, r, va, vl, vb, lb, u11, u12, u13, u14, rfl, T⟩ := h
    dsimp only
    obtain ⟨A1, n1, rfl⟩ := T.oa.form flatT
    obtain ⟨B1, k1, rfl⟩ := T.ol.form flat3
    obtain ⟨A2, n2, rfl⟩ := T.ob.form flatT
    obtain ⟨B2, k2, rfl⟩ := T.om.form flat3
    have hl1 := L1.out
    have hl2 := L2.out
    obtain ⟨y0, y1, y2, y3, y4, y5⟩ := And.intro x0 (And.intro x1 (And.intro x2 (And.intro x3 (And.intro x4 x5))))
    clear x0 x1 x2 x3 x4 x5 ta la QM
    go_wp2_with fail
    go_loopw [5] (fun iv wr => ∃ k : Nat, iv = .int .i64 k ∧ k ≤ m.attrs.length ∧ TwoAt m (part fx m.attrs k) m.acl w3 wr p r (.slice A1 m.attrs.length n1) (.slice B1 m.acl.length k1) (.slice A2 m.attrs.length n2) (.slice B2 m.acl.length k2)) (fun iv _ => m.attrs.length - (intOf iv).toNat)
    case atStart => exact ⟨0, rfl, by omega, by rw [part_zero]; exact T⟩
    case round =>
      obtain ⟨k, rfl, hk, R⟩ := hrel
      obtain ⟨-, -, -, -, z4, z5⟩ := R.bp.cells
      by_cases hlt : k < m.attrs.length
      · have hplen := part_len fx m.attrs k (by omega)
        have hkp : k < (part fx m.attrs k).length := by omega
        obtain ⟨g, cg, eg, -, -⟩ := World.ownsRow.form (OwnR.keep R.oa (Q.refl wr)) (by omega)
        rw [hplen] at eg
        cases eg
        have R2 := R.keep ((Q.refl wr).drew)
        obtain ⟨g', o', _, eg, _, _, hc⟩ := (OwnR.row flatT R2.oa).atT (by omega)
        rw [hplen] at eg
        cases eg
        have c1 := (hc k hkp).1
        rw [part_at fx m.attrs k hlt hkp, Nat.zero_add] at c1
        have hfz : wr.drew.frozen? ⟨g, k * 2, none⟩ = false := by
          have := R2.oa
          unfold OwnT OwnR at this
          rw [hplen] at this
          exact World.ownsRow.frozenAt this (k * 2)
        have hsm := (L0.out _ (List.getElem_mem hlt)).1
        have T' : TwoAt m (part fx m.attrs (k + 1)) m.acl w3 (wr.drew.setCell ⟨g, k * 2, none⟩ (.string (m.attrs[k].1 ++ ⟨#[120]⟩))) p r (.slice (some ⟨g, 0, none⟩) m.attrs.length n1) (.slice B1 m.acl.length k1) (.slice A2 m.attrs.length n2) (.slice B2 m.acl.length k2) := by
          have := R2.setA k hkp (m.attrs[k].1 ++ ⟨#[120]⟩)
          rw [part_at fx m.attrs k hlt hkp] at this
          rw [part_next fx m.attrs k hlt]
          exact this
        obtain ⟨-, -, -, -, z4, -⟩ := R2.bp.cells
        have lt1 : (k : Int) < (m.attrs.length : Int) := by omega
        clear hc R R2 T z5
        generalize m.attrs[k] = x at *
        obtain ⟨xn, xv⟩ := x
        simp only at c1 hsm T'
        have hone : (⟨#[120]⟩ : ByteArray).size = 1 := rfl
        have hadd : Op.stringOp .add xn ⟨#[120]⟩ = pure (.string (xn ++ ⟨#[120]⟩)) := by
          unfold Op.stringOp
          simp only
          rw [if_neg (by simp [IntKind.max, IntKind.signed, IntKind.bits]; omega)]
        go_wp2_with fail
        refine wp_region_still_tail 12 (by kernel_rfl) (by kernel_rfl) ?_
        simp only [List.take_succ_cons, List.take_zero, List.drop_succ_cons, List.drop_zero]
        change wpStill _ _ wr.drew (fun a' => wpList _ _ _ _ a' wr.drew) _ _
        generalize wr.drew = w5 at *
        repeat still_step
        refine wpStill_nil ?_
        go_wp2
        go_roundw
        case rel => exact ⟨k + 1, by go_num, by omega, T'⟩
        case measure => simp [intOf]; omega
      · rw [part_end fx m.attrs k (by omega)] at R
        have sA : k = m.attrs.length := by omega
        subst sA
        clear hlt hk T
        go_wp2_with fail
        go_loopw [6] (fun iv wi => ∃ k : Nat, iv = .int .i64 k ∧ k ≤ m.acl.length ∧ TwoAt m (m.attrs.map fx) (part gx m.acl k) w3 wi p r (.slice A1 m.attrs.length n1) (.slice B1 m.acl.length k1) (.slice A2 m.attrs.length n2) (.slice B2 m.acl.length k2)) (fun iv _ => m.acl.length - (intOf iv).toNat)
        case atStart => exact ⟨0, rfl, by omega, by rw [part_zero]; exact R⟩
        case round =>
          clear R z4 z5
          obtain ⟨k, rfl, hk, R⟩ := hrel
          obtain ⟨-, -, -, -, z4, z5⟩ := R.bp.cells
          by_cases hlt : k < m.acl.length
          · have hplen := part_len gx m.acl k (by omega)
            have hkp : k < (part gx m.acl k).length := by omega
            obtain ⟨g, cg, eg, -, -⟩ := World.ownsRow.form (OwnR.keep R.ol (Q.refl wr)) (by omega)
            rw [hplen] at eg
            cases eg
            have R2 := R.keep ((Q.refl wr).drew)
            obtain ⟨g', o', _, eg, _, _, hc⟩ := ((OwnR.row flat3 R2.ol).aces).at_ (by omega)
            rw [hplen] at eg
            cases eg
            have c1 := (hc k hkp).2.2
            rw [part_at gx m.acl k hlt hkp, Nat.zero_add] at c1
            have hfz : wr.drew.frozen? ⟨g, k * 3 + 2, none⟩ = false := by
              have := R2.ol
              unfold OwnA OwnR at this
              rw [hplen] at this
              exact World.ownsRow.frozenAt this (k * 3 + 2)
            have T' : TwoAt m (m.attrs.map fx) (part gx m.acl (k + 1)) w3 (wr.drew.setCell ⟨g, k * 3 + 2, none⟩ (.int .i64 (bits .xor .i64 m.acl[k].2.2 1))) p r (.slice A1 m.attrs.length n1) (.slice (some ⟨g, 0, none⟩) m.acl.length k1) (.slice A2 m.attrs.length n2) (.slice B2 m.acl.length k2) := by
              have := R2.setL k hkp (bits .xor .i64 m.acl[k].2.2 1)
              rw [part_at gx m.acl k hlt hkp] at this
              rw [part_next gx m.acl k hlt]
              exact this
            obtain ⟨-, -, -, -, -, z5⟩ := R2.bp.cells
            have lt1 : (k : Int) < (m.acl.length : Int) := by omega
            clear hc R R2 z4
            generalize m.acl[k] = x at *
            obtain ⟨xk, xi, xp⟩ := x
            simp only at c1 T'
            go_wp2_with fail
            refine wp_region_still_tail 12 (by kernel_rfl) (by kernel_rfl) ?_
            simp only [List.take_succ_cons, List.take_zero, List.drop_succ_cons, List.drop_zero]
            change wpStill _ _ wr.drew (fun a' => wpList _ _ _ _ a' wr.drew) _ _
            generalize wr.drew = w5 at *
            repeat still_step
            refine wpStill_nil ?_
            go_wp2
            go_roundw
            case rel => exact ⟨k + 1, by go_num, by omega, T'⟩
            case measure => simp [intOf]; omega
          · rw [part_end gx m.acl k (by omega)] at R
            have sL : k = m.acl.length := by omega
            subst sL
            clear hlt hk
            have Ha : Hid (∀ w', Q wr w' → MetaAt w' (.agg #[.int .i64 m.mode, .int .i64 m.uid, .int .i64 m.gid, .int .i64 m.time, .slice A1 m.attrs.length n1, .slice B1 m.acl.length k1]) (turned m)) := fun w' q => ⟨_, _, rfl, (OwnR.row flatT R.oa).keep q, (OwnR.row flat3 R.ol).aces.keep q⟩
            have Hb : Hid (∀ w', Q wr w' → MetaAt w' (.agg #[.int .i64 m.mode, .int .i64 m.uid, .int .i64 m.gid, .int .i64 m.time, .slice A2 m.attrs.length n2, .slice B2 m.acl.length k2]) m) := fun w' q => ⟨_, _, rfl, (OwnR.row flatT R.ob).keep q, (OwnR.row flat3 R.om).aces.keep q⟩
            have qr := q0.trans R.q
            have x0 := R.q.cell y0
            have x1 := R.q.cell y1
            have x2 := R.q.cell y2
            have x3 := R.q.cell y3
            have x4 := R.q.cell y4
            have x5 := R.q.cell y5
            obtain ⟨a0, a1, a2, a3, a4, a5⟩ := R.bp.cells
            obtain ⟨b0, b1, b2, b3, b4, b5⟩ := R.br.cells
            clear R y0 y1 y2 y3 y4 y5 z4 z5
            obtain ⟨bs, hbs⟩ : ∃ c, decide (turned m = m) = c := ⟨_, rfl⟩
            have hE := (turned_same m).trans hbs
            have BS := Lib.hid hbs
            have wrn : IntKind.i64.wrap ((m.attrs.length : Int) + (m.acl.length : Int)) = (m.attrs.length : Int) + (m.acl.length : Int) := IntWalk.i64_in _ (by omega)
            have tbs : (bs == bs) = true := by simp
            have tl : ((m.attrs.length : Int) == (m.attrs.length : Int)) = true := by simp
            clear hbs
            go_wp2_with fail
            go_region_held3 (fun w' => Q wr w' ∧ w'.cell? ⟨w.heap.size, 0, none⟩ = some (.int .i64 m.mode) ∧ w'.cell? ⟨w.heap.size, 1, none⟩ = some (.int .i64 m.uid) ∧ w'.cell? ⟨w.heap.size, 2, none⟩ = some (.int .i64 m.gid) ∧ w'.cell? ⟨w.heap.size, 3, none⟩ = some (.int .i64 m.time) ∧ w'.cell? ⟨w.heap.size, 4, none⟩ = some (.slice Xa m.attrs.length na) ∧ w'.cell? ⟨w.heap.size, 5, none⟩ = some (.slice Xl m.acl.length nl) ∧ w'.cell? ⟨p, 0, none⟩ = some (.int .i64 m.mode) ∧ w'.cell? ⟨p, 1, none⟩ = some (.int .i64 m.uid) ∧ w'.cell? ⟨p, 2, none⟩ = some (.int .i64 m.gid) ∧ w'.cell? ⟨p, 3, none⟩ = some (.int .i64 m.time) ∧ w'.cell? ⟨p, 4, none⟩ = some (.slice A1 m.attrs.length n1) ∧ w'.cell? ⟨p, 5, none⟩ = some (.slice B1 m.acl.length k1) ∧ w'.cell? ⟨r, 0, none⟩ = some (.int .i64 m.mode) ∧ w'.cell? ⟨r, 1, none⟩ = some (.int .i64 m.uid) ∧ w'.cell? ⟨r, 2, none⟩ = some (.int .i64 m.gid) ∧ w'.cell? ⟨r, 3, none⟩ = some (.int .i64 m.time) ∧ w'.cell? ⟨r, 4, none⟩ = some (.slice A2 m.attrs.length n2) ∧ w'.cell? ⟨r, 5, none⟩ = some (.slice B2 m.acl.length k2)) (first | exact keep18 (by assumption) (by assumption) | exact keep18 ⟨Q.refl _, x0, x1, x2, x3, x4, x5, a0, a1, a2, a3, a4, a5, b0, b1, b2, b3, b4, b5⟩ (Q.drew (Q.refl _))) (first
              | (go_at_call 8; refine (told_any _).mono ?_; rintro e wn ⟨rfl, qn⟩)
              | (go_at_call_of 16 Xa; refine (metaSame_c _ _ m m true _ (Hb.out _ (And.left (by assumption))) (HM.out _ (qr.trans (And.left (by assumption)))) (by simp)).mono ?_; rintro e wn ⟨rfl, qn⟩)
              | (go_at_call 16; refine (metaSame_c _ _ (turned m) m bs _ (Ha.out _ (And.left (by assumption))) (Hb.out _ (And.left (by assumption))) BS.out).mono ?_; rintro e wn ⟨rfl, qn⟩))
            go_wp2
            go_ret
            exact ⟨rfl, qr.trans (And.left (by assumption))⟩

/-! ### The row -/
set_option maxRecDepth 100000 in
theorem lifted (os : Os) (started : os.Started) (H : Type) (enc : TypeId × Value → H) :
    ReturnsInHanded {} Try.checked os 5 .any (Rows.metaOwnSpec.pre6 enc Try.prog Try.f5 Rows.metaOwnRow.domain false) (Rows.metaOwnSpec.post enc Try.prog Try.f5 false true false false) := by
  refine returnsInHanded_of_change (C := Try.checked) own started (by kernel_rfl) Try.func5
    (ChangeSpec.witness6 (enc := enc) (C := Try.checked) false ⟨#[], #[.agg #[.int .i64 0, .int .i64 0, .int .i64 0, .int .i64 0, .slice none 0 0, .slice none 0 0]], []⟩ 8 (by kernel_rfl) (by kernel_rfl) (by kernel_rfl) (by kernel_rfl)) ?_
  intro W base args ds gs before hval0 hW hcnd _
  have hval : ∀ (j : Nat) t v, Try.f5.params[j]? = some t → args[j]? = some v → Value.okWide Try.prog W .any base t v := hval0
  have hW' := hW
  obtain ⟨p, q, hA0, hV, rfl, hfz, hnd⟩ := hW
  have hA : DataW.TrodAll enc Try.prog W 0 (fun _ => true) true Try.f5.params.toList args.toList ds p := hA0
  rw [Try.params5] at hA hval
  obtain ⟨v0, vs0, d0, ds0, p0, q0, hargs, rfl, rfl, h0, r0⟩ := trodAll_cons hA
  obtain ⟨rfl, rfl, rfl⟩ := trodAll_nil r0
  obtain rfl : args = #[v0] := by cases args; simp_all
  obtain ⟨rfl, rfl⟩ := trodVars_none hV
  have k0 := h0
  have lt0 : ∀ x ∈ p0, x.block < W.heap.size := by obtain ⟨m, hm⟩ := k0; exact DataW.trod_lt m _ _ _ hm
  obtain ⟨z0, w0, f0⟩ := open_meta (hval 0 25 v0 rfl rfl) h0
  clear hA0 hval0
  try simp only [List.append_nil] at hW'
  refine (walk _ z0 W w0).mono fun e W' ⟨he, bel⟩ => ?_
  subst he
  exact ⟨_, rfl, _, _, _, [], _, [], hW', trodAll_mk1 (shut_bool Try.underlying4 _), (trodAll_cons_mk (Below.trod laidOut (by kernel_rfl) (of_decide_eq_true (by kernel_rfl)) k0 bel lt0) trodAll_mk0), rfl, Below.frame bel _, fun h => by cases h⟩

theorem over : Rows.metaOwnRow.holds Try.pinned (OpenSpec.ofChange Rows.metaOwnSpec) :=
  OpenClaim.holds_of_wide 5 Try.f5 rfl rfl rfl rfl rfl rfl rfl ⟨rfl, rfl, rfl, rfl, rfl⟩ rfl rfl rfl rfl rfl (by kernel_rfl) Try.func5 (by kernel_rfl)
    (of_decide_eq_true (by kernel_rfl)) (by unfold Func.isWrapper; first | (rw [if_pos (by decide +kernel)]; kernel_rfl) | (rw [if_neg (by decide +kernel)]; exact ⟨rfl, rfl⟩))
    (fun os started H enc _ => lifted os started H enc)

theorem proved : Rows.MetaOwnSaid := over


end Go.Proofs.Ytidpcoolfomgjaa.own_
