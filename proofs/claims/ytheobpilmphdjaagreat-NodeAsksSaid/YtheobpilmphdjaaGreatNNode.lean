/-
  Nodes: as plain mathematics, as values; the contracts of node's Extents, Bytes, content, May, file.
-/
import Derived.Test.YtheobpilmphdjaaGreatNLay
namespace Go.Proofs.YtheobpilmphdjaaGreat.Nd
open Go.RowKit
open Go.Proofs.YtheobpilmphdjaaGreat.Ex.Rng
open Go.Proofs.YtheobpilmphdjaaGreat.Ex (E ExtsAt)

/-- A node. -/
structure Nd where
  kind : Int
  mt : Mt
  size : Int
  data : List Pc
  target : ByteArray
  major : Int
  minor : Int
deriving DecidableEq
def contentB (s : Int) (d : List Pc) : Bool := decide ((d.length : Int) ≤ 16) && decide ((sumP d : Int) ≤ 4000) && d.all (fun p => offB p.1) && Ex.mayB (d.map xOf) s
def mayN (n : Nd) : Bool :=
  if n.kind = 1 ∨ n.kind = 6 then (n.size == 0) && ((n.data.length : Int) == 0) && n.target.toList.isEmpty && (n.major == 0) && (n.minor == 0) && mayM n.mt
  else if n.kind = 2 then contentB n.size n.data && n.target.toList.isEmpty && (n.major == 0) && (n.minor == 0) && mayM n.mt
  else if n.kind = 3 then tgtB n.target && (n.size == 0) && ((n.data.length : Int) == 0) && (n.major == 0) && (n.minor == 0) && mayM n.mt
  else if n.kind = 4 ∨ n.kind = 5 then devB n.major && devB n.minor && (n.size == 0) && ((n.data.length : Int) == 0) && n.target.toList.isEmpty && mayM n.mt
  else false
def fileB (n : Nd) : Bool := (n.kind == 2) && mayN n
/-- What bounds its pieces for the machine. -/
def Small (l : List Pc) : Prop := l.length ≤ 10000 ∧ ∀ p ∈ l, p.2.size ≤ 100000

def nodeV (n : Nd) (va vl vd : Value) : Value := .agg #[.int .i64 n.kind, .int .i64 n.mt.mode, .int .i64 n.mt.uid, .int .i64 n.mt.gid, .int .i64 n.mt.time, va, vl, .int .i64 n.size, vd, .string n.target, .int .i64 n.major, .int .i64 n.minor]
def NodeAt (w : World) (v : Value) (n : Nd) : Prop := ∃ va vl vd, v = nodeV n va vl vd ∧ AtsAt w va n.mt.attrs ∧ AcesAt w vl n.mt.acl ∧ PcsAt w vd n.data
theorem NodeAt.keep {w w' : World} {v : Value} {n : Nd} (h : NodeAt w v n) (q : Q w w') : NodeAt w' v n := by
  obtain ⟨va, vl, vd, e, h1, h2, h3⟩ := h
  exact ⟨va, vl, vd, e, h1.keep q, h2.keep q, h3.keep q⟩

/-! ### A block of twelve cells -/
def BoxN (w : World) (g : Nat) (cs : Array Value) : Prop := w.heap[g]? = some (.cells cs 28 (0, 0))
theorem BoxN.cells {w : World} {g : Nat} {c0 c1 c2 c3 c4 c5 c6 c7 c8 c9 c10 c11 : Value} (h : BoxN w g #[c0, c1, c2, c3, c4, c5, c6, c7, c8, c9, c10, c11]) :
    w.cell? ⟨g, 0, none⟩ = some c0 ∧ w.cell? ⟨g, 1, none⟩ = some c1 ∧ w.cell? ⟨g, 2, none⟩ = some c2 ∧ w.cell? ⟨g, 3, none⟩ = some c3 ∧ w.cell? ⟨g, 4, none⟩ = some c4 ∧ w.cell? ⟨g, 5, none⟩ = some c5 ∧ w.cell? ⟨g, 6, none⟩ = some c6 ∧ w.cell? ⟨g, 7, none⟩ = some c7 ∧ w.cell? ⟨g, 8, none⟩ = some c8 ∧ w.cell? ⟨g, 9, none⟩ = some c9 ∧ w.cell? ⟨g, 10, none⟩ = some c10 ∧ w.cell? ⟨g, 11, none⟩ = some c11 := by
  unfold BoxN at h
  simp [World.cell?, h]
theorem BoxN.soft {w : World} {g : Nat} {cs : Array Value} (h : BoxN w g cs) (o : Nat) : w.frozen? ⟨g, o, none⟩ = false := by
  unfold BoxN at h
  simp [World.frozen?, h]
theorem BoxN.lt {w : World} {g : Nat} {cs : Array Value} (h : BoxN w g cs) : g < w.heap.size := by
  rcases Nat.lt_or_ge g w.heap.size with h' | h'
  · exact h'
  · unfold BoxN at h; rw [Array.getElem?_eq_none h'] at h; cases h
theorem BoxN.set {w : World} {g : Nat} {cs : Array Value} (h : BoxN w g cs) (i : Nat) (u : Value) : BoxN (w.setCell ⟨g, i, none⟩ u) g (cs.setIfInBounds i u) := by
  unfold BoxN World.setCell at *
  simp [Array.getElem?_modify, h]
theorem BoxN.other {w w' : World} {g : Nat} {cs : Array Value} (h : BoxN w g cs) (q : w'.heap[g]? = w.heap[g]?) : BoxN w' g cs := q.trans h
theorem BoxN.keep {w w' : World} {g : Nat} {cs : Array Value} (h : BoxN w g cs) (q : Q w w') : BoxN w' g cs := h.other (q.block g h.lt)
theorem BoxN.far {w w' : World} {g g2 : Nat} {cs : Array Value} (h : BoxN w g cs) (f : Far g2 w w') (hn : g ≠ g2) : BoxN w' g cs := h.other (f.2 g h.lt hn)
theorem BoxN.new (w : World) (cs : Array Value) : BoxN (w.alloc (.cells cs 28)) w.heap.size cs := by
  show (w.heap.push _)[w.heap.size]? = _
  simp
theorem Q.setCell {w0 w : World} (h : Q w0 w) {g : Nat} (hg : w0.heap.size ≤ g) (i : Nat) (u : Value) : Q w0 (w.setCell ⟨g, i, none⟩ u) := Below.setCell h (p := ⟨g, i, none⟩) hg u


/-! ### Extents, Bytes -/
set_option maxRecDepth 100000 in
set_option maxHeartbeats 2000000 in
theorem nodeExtents_any (v : Value) (n : Nd) (w : World) (h : NodeAt w v n) (hs : n.data.length ≤ 10000) :
    Calls Tryz.prog 21 #[v] w fun e w' => ∃ v', e = .returned v' ∧ w'.ownsRow w.heap.size 57 1 v' n.data.length ((n.data.map xOf).map E) ∧ Q w w' := by
  obtain ⟨va, vl, vd, rfl, ha, hl, hd⟩ := h
  obtain ⟨kind, ⟨mode, uid, gid, time, attrs, acl⟩, size, data, target, major, minor⟩ := n
  unfold nodeV
  simp only at ha hl hd hs ⊢
  go_enter Tryz.func21, Tryz.ntmps21
  go_wp2_with fail
  refine (extents_any vd data _ (hd.keep ((Q.refl w).alloc _)) hs).mono ?_
  rintro e w2 ⟨v2, rfl, ho, q2⟩
  have q3 := ((Q.refl w).alloc _).trans q2
  rw [World.size_alloc] at ho
  replace ho := World.ownsRow.mono ho (Nat.le_succ _)
  clear q2
  go_wp2
  go_ret
  exact ⟨_, rfl, ho, q3⟩

set_option maxRecDepth 100000 in
set_option maxHeartbeats 2000000 in
theorem bytes_any (v : Value) (n : Nd) (w : World) (h : NodeAt w v n) (hs : Small n.data) :
    Calls Tryz.prog 18 #[v] w fun e w' => e = .returned (.int .i64 (sumP n.data : Nat)) ∧ Q w w' := by
  obtain ⟨va, vl, vd, rfl, ha, hl, hd⟩ := h
  obtain ⟨kind, ⟨mode, uid, gid, time, attrs, acl⟩, size, data, target, major, minor⟩ := n
  unfold nodeV
  obtain ⟨hs1, hs2⟩ := hs
  simp only at ha hl hd hs1 hs2 ⊢
  obtain ⟨A, c, rfl⟩ := hd.form
  have HD : Hid (∀ w', Q w w' → PcsAt w' (.slice A data.length c) data) := fun w' q => hd.keep q
  go_enter Tryz.func18, Tryz.ntmps18
  go_wp2
  have q1 : Q w (w.alloc (.cells #[.int .i64 kind, .int .i64 mode, .int .i64 uid, .int .i64 gid, .int .i64 time, va, vl, .int .i64 size, .slice A data.length c, .string target, .int .i64 major, .int .i64 minor] 28)) := (Q.refl w).alloc _
  generalize w.alloc (.cells #[.int .i64 kind, .int .i64 mode, .int .i64 uid, .int .i64 gid, .int .i64 time, va, vl, .int .i64 size, .slice A data.length c, .string target, .int .i64 major, .int .i64 minor] 28) = w1 at *
  go_loopw [3, 5, 9] (fun s _ i wr => ∃ (k m : Nat), i = .int .i64 k ∧ s = .int .i64 (m : Nat) ∧ k ≤ data.length ∧ m ≤ k * 100000 ∧ Q w wr ∧ Hid (m = sumP (data.take k))) (fun _ _ i _ => data.length - (intOf i).toNat)
  case atStart => exact ⟨0, 0, rfl, rfl, by omega, by omega, q1, rfl⟩
  case round =>
    obtain ⟨k, m, rfl, rfl, hk, hm, hq, H⟩ := hrel
    by_cases hlt : k < data.length
    · obtain ⟨g, og, _, ea, _, _, hc⟩ := (HD.out _ hq).atP (by omega)
      obtain ⟨rfl, -, rfl⟩ := Value.slice.inj ea
      obtain ⟨c1, c2⟩ := hc k hlt
      have o1 := hs2 _ (List.getElem_mem hlt)
      have E1 : Hid (m + data[k].2.size = sumP (data.take (k + 1))) := by rw [sumP_take hlt, ← H.out]; rfl
      clear hc H hd hs2
      generalize data[k] = x at *
      have lt2 : (k : Int) < (data.length : Int) := by omega
      have hb : m + x.2.size ≤ (k + 1) * 100000 := by omega
      have hw : IntKind.i64.wrap ((m : Int) + (x.2.size : Int)) = ((m + x.2.size : Nat) : Int) := by rw [← Int.natCast_add]; exact IntWalk.i64_in _ (by omega)
      generalize m + x.2.size = m2 at *
      clear hm
      go_wp2
      go_roundw
      case rel => exact ⟨k + 1, m2, by go_num, rfl, by omega, hb, hq.alloc _, E1⟩
      case measure => simp [intOf]; omega
    · have E1 : Hid (m = sumP data) := by
        have := H.out
        rwa [List.take_of_length_le (by omega)] at this
      clear H
      go_wp2
      go_ret
      exact ⟨ret_int (by rw [E1.out]), hq⟩


/-! ### content -/
theorem content_no {s : Int} {d : List Pc} {k : Nat} (hk : k < d.length) (h : offB d[k].1 = false) : contentB s d = false := by
  unfold contentB
  have : d.all (fun p => offB p.1) = false := List.all_eq_false.2 ⟨_, List.getElem_mem hk, by simp [h]⟩
  rw [this]
  simp
theorem all_step {d : List Pc} {k : Nat} (hk : k < d.length) (h : (d.take k).all (fun p => offB p.1) = true) (h1 : offB d[k].1 = true) : (d.take (k + 1)).all (fun p => offB p.1) = true := by
  rw [List.take_succ_eq_append_getElem hk, List.all_append, h]
  simp [h1]
theorem keepN {w0 w w' : World} {g : Nat} {v0 v1 v2 v3 v4 v5 v6 v7 v8 v9 v10 v11 : Value} (h : Q w0 w ∧ w.cell? ⟨g, 0, none⟩ = some v0 ∧ w.cell? ⟨g, 1, none⟩ = some v1 ∧ w.cell? ⟨g, 2, none⟩ = some v2 ∧ w.cell? ⟨g, 3, none⟩ = some v3 ∧ w.cell? ⟨g, 4, none⟩ = some v4 ∧ w.cell? ⟨g, 5, none⟩ = some v5 ∧ w.cell? ⟨g, 6, none⟩ = some v6 ∧ w.cell? ⟨g, 7, none⟩ = some v7 ∧ w.cell? ⟨g, 8, none⟩ = some v8 ∧ w.cell? ⟨g, 9, none⟩ = some v9 ∧ w.cell? ⟨g, 10, none⟩ = some v10 ∧ w.cell? ⟨g, 11, none⟩ = some v11) (q : Q w w') : Q w0 w' ∧ w'.cell? ⟨g, 0, none⟩ = some v0 ∧ w'.cell? ⟨g, 1, none⟩ = some v1 ∧ w'.cell? ⟨g, 2, none⟩ = some v2 ∧ w'.cell? ⟨g, 3, none⟩ = some v3 ∧ w'.cell? ⟨g, 4, none⟩ = some v4 ∧ w'.cell? ⟨g, 5, none⟩ = some v5 ∧ w'.cell? ⟨g, 6, none⟩ = some v6 ∧ w'.cell? ⟨g, 7, none⟩ = some v7 ∧ w'.cell? ⟨g, 8, none⟩ = some v8 ∧ w'.cell? ⟨g, 9, none⟩ = some v9 ∧ w'.cell? ⟨g, 10, none⟩ = some v10 ∧ w'.cell? ⟨g, 11, none⟩ = some v11 := by
  obtain ⟨h0, h1, h2, h3, h4, h5, h6, h7, h8, h9, h10, h11, h12⟩ := h
  exact ⟨h0.trans q, q.cell h1, q.cell h2, q.cell h3, q.cell h4, q.cell h5, q.cell h6, q.cell h7, q.cell h8, q.cell h9, q.cell h10, q.cell h11, q.cell h12⟩
set_option maxRecDepth 100000 in
set_option maxHeartbeats 4000000 in
theorem content_any (v : Value) (n : Nd) (w : World) (h : NodeAt w v n) (hs : Small n.data) :
    Calls Tryz.prog 37 #[v] w fun e w' => e = .returned (.bool (contentB n.size n.data)) ∧ Q w w' := by
  have HB : Hid (∀ w', Q w w' → Calls Tryz.prog 18 #[v] w' fun e w'' => e = .returned (.int .i64 (sumP n.data : Nat)) ∧ Q w' w'') := fun w' q => bytes_any v n w' (h.keep q) hs
  have HX : Hid (∀ w', Q w w' → Calls Tryz.prog 21 #[v] w' fun e w'' => ∃ v', e = .returned v' ∧ ExtsAt w'' v' (n.data.map xOf) ∧ Q w' w'') := fun w' q => (nodeExtents_any v n w' (h.keep q) hs.1).mono (by
    rintro e w'' ⟨v', rfl, ho, q'⟩
    refine ⟨v', rfl, ExtsAt.of_own (base := w'.heap.size) (e := 57) ?_, q'⟩
    rw [List.length_map]; exact ho)
  have HM : Hid (∀ v' w', ExtsAt w' v' (n.data.map xOf) → Calls Tryz.prog 57 #[v', .int .i64 n.size] w' fun e w'' => e = .returned (.bool (Ex.mayB (n.data.map xOf) n.size)) ∧ Q w' w'') := fun v' w' hx => Ex.may_any v' _ n.size w' hx (fun y hy => by obtain ⟨p, _, rfl⟩ := List.mem_map.1 hy; exact xOf_ok p)
  have E0 : Hid (contentB n.size n.data = (decide ((n.data.length : Int) ≤ 16) && decide ((sumP n.data : Int) ≤ 4000) && n.data.all (fun p => offB p.1) && Ex.mayB (n.data.map xOf) n.size)) := rfl
  have En : Hid (∀ k (hk : k < n.data.length), offB n.data[k].1 = false → contentB n.size n.data = false) := fun k hk => content_no hk
  generalize contentB n.size n.data = r at *
  generalize Ex.mayB (n.data.map xOf) n.size = b at *
  clear hs
  obtain ⟨va, vl, vd, rfl, ha, hl, hd⟩ := h
  obtain ⟨kind, ⟨mode, uid, gid, time, attrs, acl⟩, size, data, target, major, minor⟩ := n
  simp only at ha hl hd HB HX HM E0 En ⊢
  obtain ⟨A, c, rfl⟩ := hd.form
  have HD : Hid (∀ w', Q w w' → PcsAt w' (.slice A data.length c) data) := fun w' q => hd.keep q
  have hdl := hd.len
  unfold maxLen at hdl
  unfold nodeV at HB HX ⊢
  simp only at HB HX ⊢
  clear hd ha hl
  go_enter Tryz.func37, Tryz.ntmps37
  by_cases h1 : (16 : Int) < (data.length : Int)
  · have t1 : decide ((16 : Int) < (data.length : Int)) = true := decide_eq_true h1
    have E1 : Hid (r = false) := by
      show r = false
      rw [E0.out, decide_eq_false (by omega)]; rfl
    clear h1
    go_wp2
    go_ret
    exact ⟨ret_bool E1.out.symm, (Q.refl w).alloc _⟩
  have t1 : decide ((16 : Int) < (data.length : Int)) = false := decide_eq_false h1
  have t1' : decide ((data.length : Int) ≤ 16) = true := decide_eq_true (by omega)
  rw [t1'] at E0
  clear t1' h1
  go_wp2_with fail
  have x1 := BoxN.new w #[.int .i64 kind, .int .i64 mode, .int .i64 uid, .int .i64 gid, .int .i64 time, va, vl, .int .i64 size, .slice A data.length c, .string target, .int .i64 major, .int .i64 minor]
  have q1 : Q w (w.alloc (.cells #[.int .i64 kind, .int .i64 mode, .int .i64 uid, .int .i64 gid, .int .i64 time, va, vl, .int .i64 size, .slice A data.length c, .string target, .int .i64 major, .int .i64 minor] 28)) := (Q.refl w).alloc _
  generalize w.alloc (.cells #[.int .i64 kind, .int .i64 mode, .int .i64 uid, .int .i64 gid, .int .i64 time, va, vl, .int .i64 size, .slice A data.length c, .string target, .int .i64 major, .int .i64 minor] 28) = w1 at *
  refine (HB.out _ q1).mono ?_
  rintro e w2 ⟨rfl, q2⟩
  replace x1 := x1.keep q2
  replace q1 := q1.trans q2
  clear q2 HB
  obtain ⟨k0, k1, k2, k3, k4, k5, k6, k7, k8, k9, k10, k11⟩ := x1.cells
  by_cases h2 : (4000 : Int) < (sumP data : Int)
  · have t2 : decide ((4000 : Int) < (sumP data : Int)) = true := decide_eq_true h2
    have E1 : Hid (r = false) := by
      show r = false
      rw [E0.out, decide_eq_false (by omega)]; simp
    clear h2
    go_wp2
    go_ret
    exact ⟨ret_bool E1.out.symm, q1⟩
  have t2 : decide ((4000 : Int) < (sumP data : Int)) = false := decide_eq_false h2
  have t2' : decide ((sumP data : Int) ≤ 4000) = true := decide_eq_true (by omega)
  rw [t2'] at E0
  clear t2' h2
  go_wp2
  clear k0 k1 k2 k3 k4 k5 k6 k7 k8 k9 k10 k11
  go_loopw [4, 17] (fun _ i wr => ∃ k : Nat, i = .int .i64 k ∧ k ≤ data.length ∧ Q w wr ∧ Hid (BoxN wr w.heap.size #[.int .i64 kind, .int .i64 mode, .int .i64 uid, .int .i64 gid, .int .i64 time, va, vl, .int .i64 size, .slice A data.length c, .string target, .int .i64 major, .int .i64 minor]) ∧ Hid ((data.take k).all (fun p => offB p.1) = true)) (fun _ i _ => data.length - (intOf i).toNat)
  case atStart => exact ⟨0, rfl, by omega, q1, x1, rfl⟩
  case round =>
    obtain ⟨k, rfl, hk, hq, hb, H⟩ := hrel
    by_cases hlt : k < data.length
    · obtain ⟨g, og, _, ea, _, _, hc⟩ := (HD.out _ hq).atP (by omega)
      obtain ⟨rfl, -, rfl⟩ := Value.slice.inj ea
      obtain ⟨c1, c2⟩ := hc k hlt
      have E1 : Hid (offB data[k].1 = false → r = false) := En.out k hlt
      have E2 : Hid (offB data[k].1 = true → (data.take (k + 1)).all (fun p => offB p.1) = true) := all_step hlt H.out
      have HO := Lib.hid (fun w => offset_any data[k].1 w)
      clear hc H
      generalize data[k] = x at *
      have lt2 : (k : Int) < (data.length : Int) := by omega
      go_wp2_with fail
      refine (HO.out _).mono ?_
      rintro e w3 ⟨rfl, rfl⟩
      cases hx : offB x.1 with
      | false =>
        have E3 := Lib.hid (E1.out hx)
        clear E1 E2 hx
        go_wp2
        go_ret
        exact ⟨ret_bool E3.out.symm, hq.alloc _⟩
      | true =>
        have E3 := Lib.hid (E2.out hx)
        have hb2 := Lib.hid (hb.out.keep ((Q.refl wr).alloc (.cells #[.int .i64 x.1, .string x.2] 44)))
        clear E1 E2 hx
        go_wp2
        go_roundw
        case rel => exact ⟨k + 1, by go_num, by omega, hq.alloc _, hb2, E3⟩
        case measure => simp [intOf]; omega
    · have E1 : Hid (r = b) := by
        show r = b
        have := H.out
        rw [List.take_of_length_le (by omega)] at this
        rw [E0.out, this]; simp
      have hx1 := hb.out
      obtain ⟨k0, k1, k2, k3, k4, k5, k6, k7, k8, k9, k10, k11⟩ := hx1.cells
      clear E0 En H hx1
      go_wp2_with fail
      go_region_held3 (fun w' => Q w w' ∧ w'.cell? ⟨w.heap.size, 0, none⟩ = some (.int .i64 kind) ∧ w'.cell? ⟨w.heap.size, 1, none⟩ = some (.int .i64 mode) ∧ w'.cell? ⟨w.heap.size, 2, none⟩ = some (.int .i64 uid) ∧ w'.cell? ⟨w.heap.size, 3, none⟩ = some (.int .i64 gid) ∧ w'.cell? ⟨w.heap.size, 4, none⟩ = some (.int .i64 time) ∧ w'.cell? ⟨w.heap.size, 5, none⟩ = some va ∧ w'.cell? ⟨w.heap.size, 6, none⟩ = some vl ∧ w'.cell? ⟨w.heap.size, 7, none⟩ = some (.int .i64 size) ∧ w'.cell? ⟨w.heap.size, 8, none⟩ = some (.slice A data.length c) ∧ w'.cell? ⟨w.heap.size, 9, none⟩ = some (.string target) ∧ w'.cell? ⟨w.heap.size, 10, none⟩ = some (.int .i64 major) ∧ w'.cell? ⟨w.heap.size, 11, none⟩ = some (.int .i64 minor)) (first | exact keepN (by assumption) (by assumption) | exact keepN ⟨hq, k0, k1, k2, k3, k4, k5, k6, k7, k8, k9, k10, k11⟩ (Q.drew (Q.refl _)) | assumption) (first
        | (go_at_call 21; refine (HX.out _ (And.left (by assumption))).mono ?_; rintro e wn ⟨v', rfl, hx', qn⟩)
        | (go_at_call 57; refine (HM.out _ _ hx').mono ?_; rintro e wn ⟨rfl, qn⟩))
      go_wp2
      go_ret
      exact ⟨ret_bool E1.out.symm, And.left (by assumption)⟩
end Go.Proofs.YtheobpilmphdjaaGreat.Nd
