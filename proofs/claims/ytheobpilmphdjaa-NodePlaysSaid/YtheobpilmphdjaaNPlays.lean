/-
  For every row of steps: a file written and cut step by step reads as plain bytes with holes of 0s, is valid, has its size, and its extents are the bytes that are there; it ends where a write finds too many pieces. No condition.
-/
import Derived.Test.YtheobpilmphdjaaNPl
import Derived.ShutString
import Derived.ChangeOld
namespace Go.Proofs.Ytheobpilmphdjaa.Nd.plays
open Go.ChangeShapes Go.WideShapes Go.ChangeAt Go.RowKit
open Go.ChangeMaps (open_string shut_string)
open Go.Proofs.Ytheobpilmphdjaa.Ex.Rng
open Go.Proofs.Ytheobpilmphdjaa.Ex (E ExtsAt)

theorem z8 : Try.zeroCells30 = ((bsOf []).map byteV).toArray := by kernel_rfl
theorem zb : Try.zeroCells31 = ((isOf []).map Value.bool).toArray := by kernel_rfl

/-- What holds before a step: the file, the two arrays. -/
structure J (w wr : World) (sz : Nat) (d : List Pc) (bs : List UInt8) (is : List Bool) (Aa Al Ad : Option Addr) (ca cl cd : Nat) : Prop where
  q : Q w wr
  x : BoxN wr w.heap.size #[.int .i64 2, .int .i64 0, .int .i64 0, .int .i64 0, .int .i64 0, .slice Aa 0 ca, .slice Al 0 cl, .int .i64 (sz : Int), .slice Ad d.length cd, .string ⟨#[]⟩, .int .i64 0, .int .i64 0]
  a : AtsAt wr (.slice Aa 0 ca) []
  l : AcesAt wr (.slice Al 0 cl) []
  d : PcsAt wr (.slice Ad d.length cd) d
  b : RowG 30 wr (w.heap.size + 1) (bs.map byteV)
  i : RowG 31 wr (w.heap.size + 1 + 1) (is.map Value.bool)
variable {w wr : World} {sz : Nat} {d : List Pc} {bs : List UInt8} {is : List Bool} {Aa Al Ad : Option Addr} {ca cl cd : Nat}
theorem J.keep {wr' : World} (h : J w wr sz d bs is Aa Al Ad ca cl cd) (q : Q wr wr') : J w wr' sz d bs is Aa Al Ad ca cl cd := ⟨h.q.trans q, h.x.keep q, h.a.keep q, h.l.keep q, h.d.keep q, h.b.keep q, h.i.keep q⟩
theorem J.setB (h : J w wr sz d bs is Aa Al Ad ca cl cd) (k : Nat) (u : UInt8) : J w (wr.setCell ⟨w.heap.size + 1, k, none⟩ (.int .u8 (u.toNat : Int))) sz d (bs.set k u) is Aa Al Ad ca cl cd :=
  ⟨Q.setCell h.q (Nat.le_succ _) _ _, h.x.far (Far.setCell _ _ _ _) (by omega), nil_any h.a, (nil_any h.l.row).aces, pcs_far h.d (Far.setCell _ _ _ _) (far_u8 h.b), by rw [List.map_set]; exact h.b.set k _, h.i.far (Far.setCell _ _ _ _) (by omega)⟩
theorem J.setI (h : J w wr sz d bs is Aa Al Ad ca cl cd) (k : Nat) (u : Bool) : J w (wr.setCell ⟨w.heap.size + 1 + 1, k, none⟩ (.bool u)) sz d bs (is.set k u) Aa Al Ad ca cl cd :=
  ⟨Q.setCell h.q (by omega) _ _, h.x.far (Far.setCell _ _ _ _) (by omega), nil_any h.a, (nil_any h.l.row).aces, pcs_far h.d (Far.setCell _ _ _ _) (far_bool h.i), h.b.far (Far.setCell _ _ _ _) (by omega), by rw [List.map_set]; exact h.i.set k _⟩

theorem J.put (h : J w wr sz d bs is Aa Al Ad ca cl cd) {sz2 : Nat} {d2 : List Pc} {Aa2 Al2 Ad2 : Option Addr} {ca2 cl2 cd2 : Nat} (ha : AtsAt wr (.slice Aa2 0 ca2) []) (hl : AcesAt wr (.slice Al2 0 cl2) []) (hd : PcsAt wr (.slice Ad2 d2.length cd2) d2) :
    J w ((((((((((((wr.setCell ⟨w.heap.size, 0, none⟩ (.int .i64 2)).setCell ⟨w.heap.size, 1, none⟩ (.int .i64 0)).setCell ⟨w.heap.size, 2, none⟩ (.int .i64 0)).setCell ⟨w.heap.size, 3, none⟩ (.int .i64 0)).setCell ⟨w.heap.size, 4, none⟩ (.int .i64 0)).setCell ⟨w.heap.size, 5, none⟩ (.slice Aa2 0 ca2)).setCell ⟨w.heap.size, 6, none⟩ (.slice Al2 0 cl2)).setCell ⟨w.heap.size, 7, none⟩ (.int .i64 (sz2 : Int))).setCell ⟨w.heap.size, 8, none⟩ (.slice Ad2 d2.length cd2)).setCell ⟨w.heap.size, 9, none⟩ (.string ⟨#[]⟩)).setCell ⟨w.heap.size, 10, none⟩ (.int .i64 0)).setCell ⟨w.heap.size, 11, none⟩ (.int .i64 0)) sz2 d2 bs is Aa2 Al2 Ad2 ca2 cl2 cd2 := by
  have f : Far w.heap.size wr ((((((((((((wr.setCell ⟨w.heap.size, 0, none⟩ (.int .i64 2)).setCell ⟨w.heap.size, 1, none⟩ (.int .i64 0)).setCell ⟨w.heap.size, 2, none⟩ (.int .i64 0)).setCell ⟨w.heap.size, 3, none⟩ (.int .i64 0)).setCell ⟨w.heap.size, 4, none⟩ (.int .i64 0)).setCell ⟨w.heap.size, 5, none⟩ (.slice Aa2 0 ca2)).setCell ⟨w.heap.size, 6, none⟩ (.slice Al2 0 cl2)).setCell ⟨w.heap.size, 7, none⟩ (.int .i64 (sz2 : Int))).setCell ⟨w.heap.size, 8, none⟩ (.slice Ad2 d2.length cd2)).setCell ⟨w.heap.size, 9, none⟩ (.string ⟨#[]⟩)).setCell ⟨w.heap.size, 10, none⟩ (.int .i64 0)).setCell ⟨w.heap.size, 11, none⟩ (.int .i64 0)) := (((((((((((((Far.refl _ wr).chain 0 _).chain 1 _).chain 2 _).chain 3 _).chain 4 _).chain 5 _).chain 6 _).chain 7 _).chain 8 _).chain 9 _).chain 10 _).chain 11 _)
  have x := ((((((((((((h.x.set 0 (.int .i64 2)).set 1 (.int .i64 0)).set 2 (.int .i64 0)).set 3 (.int .i64 0)).set 4 (.int .i64 0)).set 5 (.slice Aa2 0 ca2)).set 6 (.slice Al2 0 cl2)).set 7 (.int .i64 (sz2 : Int))).set 8 (.slice Ad2 d2.length cd2)).set 9 (.string ⟨#[]⟩)).set 10 (.int .i64 0)).set 11 (.int .i64 0))
  simp only [List.setIfInBounds_toArray, List.set_cons_zero, List.set_cons_succ] at x
  have q := (Q.setCell (Q.setCell (Q.setCell (Q.setCell (Q.setCell (Q.setCell (Q.setCell (Q.setCell (Q.setCell (Q.setCell (Q.setCell (Q.setCell h.q (Nat.le_refl _) 0 (.int .i64 2)) (Nat.le_refl _) 1 (.int .i64 0)) (Nat.le_refl _) 2 (.int .i64 0)) (Nat.le_refl _) 3 (.int .i64 0)) (Nat.le_refl _) 4 (.int .i64 0)) (Nat.le_refl _) 5 (.slice Aa2 0 ca2)) (Nat.le_refl _) 6 (.slice Al2 0 cl2)) (Nat.le_refl _) 7 (.int .i64 (sz2 : Int))) (Nat.le_refl _) 8 (.slice Ad2 d2.length cd2)) (Nat.le_refl _) 9 (.string ⟨#[]⟩)) (Nat.le_refl _) 10 (.int .i64 0)) (Nat.le_refl _) 11 (.int .i64 0))
  exact ⟨q, x, nil_any ha, (nil_any hl.row).aces, pcs_far hd f (far_node h.x), h.b.far f (by omega), h.i.far f (by omega)⟩

/-- The bytes of an array's beginning, as a string. -/
theorem stringG {T : TypeId} (w : World) (g c : Nat) (bs : List UInt8) (h : RowG T w g (bs.map byteV)) (n : Nat) (hn : n ≤ bs.length) :
    (convert 41 9 (.slice (some ⟨g, 0, none⟩) n c)).run Try.prog w = .ok (.string ⟨(bs.take n).toArray⟩) w := by
  have hl : (bs.take n).length = n := by rw [List.length_take]; omega
  have := run_convert_bytes_back w 41 9 5 ⟨g, 0, none⟩ c (bs.take n) Try.underlying41 Try.underlying5 Try.underlying9 fun j hj => by
    rw [Addr.add_lit, Nat.zero_add, h.cell j (by rw [List.length_map]; omega), List.getElem_map, List.getElem_take]
    rfl
  rwa [hl] at this
theorem keep1c {w wr w' : World} {g i : Nat} {u : Value} (h : Q w wr ∧ wr.cell? ⟨g, i, none⟩ = some u) (q : Q wr w') : Q w w' ∧ w'.cell? ⟨g, i, none⟩ = some u := ⟨h.1.trans q, q.cell h.2⟩
theorem sl8 (g z : Nat) (hz : z ≤ 600) (w : World) : (Instr.sliceAt 30 (.pointer (some ⟨g, 0, none⟩)) none (some (.int .i64 (z : Int))) none).run Try.prog w = .ok (.slice (some ⟨g, 0, none⟩) z 600) w := by
  have hu := Try.underlying30
  have ha : Try.prog.arrayLen 30 = 600 := by kernel_rfl
  have he : Try.prog.elem 30 = 5 := by kernel_rfl
  obtain ⟨i, hq, hzz⟩ := Option.map_eq_some_iff.1 info_u8
  simp only [Prod.mk.injEq] at hzz
  rw [run_sliceAt_array_h w 30 ⟨g, 0, none⟩ (by rw [ha, he]; exact hu) .i64 z (by omega) (by rw [ha]; omega), ha, he]
  simp [sizeOf, typeInfo, hq, slicedAt]
  rfl
theorem extX_any {v : Value} {n : Nd} {w : World} (h : NodeAt w v n) (hs : n.data.length ≤ 10000) :
    Calls Try.prog 12 #[v] w fun e w' => ∃ A c, e = .returned (.slice A n.data.length c) ∧ XsAt w' (.slice A n.data.length c) (n.data.map xOf) ∧ Q w w' := by
  refine (nodeExtents_any v n w h hs).mono ?_
  rintro e w' ⟨v', rfl, ho, q'⟩
  have hx : ExtsAt w' v' (n.data.map xOf) := ExtsAt.of_own (base := w.heap.size) (e := 65) (by rw [List.length_map]; exact ho)
  obtain ⟨A, c, rfl⟩ := hx.form
  rw [List.length_map] at hx ⊢
  exact ⟨A, c, rfl, hx.xs, q'⟩
theorem extF_any {v : Value} {sz : Int} {d : List Pc} {w : World} (h : NodeAt w v (F sz d)) (hs : d.length ≤ 10000) :
    Calls Try.prog 12 #[v] w fun e w' => ∃ A c, e = .returned (.slice A d.length c) ∧ XsAt w' (.slice A d.length c) (d.map xOf) ∧ Q w w' := extX_any h hs

set_option maxRecDepth 100000 in
set_option maxHeartbeats 16000000 in
theorem walk (v : Value) (ops : List Op3) (w : World) (h : OpsAt w v ops) :
    Calls Try.prog 3 #[v] w fun e w' => e = .returned (.bool true) ∧ Q w w' := by
  have HO : Hid (∀ w', Q w w' → OpsAt w' v ops) := fun w' q => h.keep q
  have ll := h.len
  unfold maxLen at ll
  obtain ⟨A, c, rfl⟩ := h.form
  clear h
  go_enter Try.func3, Try.ntmps3
  go_wp2
  have j0 : Hid (J w (((w.alloc (.cells #[.int .i64 2, .int .i64 0, .int .i64 0, .int .i64 0, .int .i64 0, .slice none 0 0, .slice none 0 0, .int .i64 0, .slice none 0 0, .string ⟨#[]⟩, .int .i64 0, .int .i64 0] 29)).alloc (.cells Try.zeroCells30 30)).alloc (.cells Try.zeroCells31 31)) 0 [] (bsOf []) (isOf []) none none none 0 0 0) := by
    refine ⟨((Q.refl w).alloc _).alloc _ |>.alloc _, ((BoxN.new w _).keep ((Q.refl _).alloc _)).keep ((Q.refl _).alloc _), RowAt.nil_ _, AcesAt.nil_ _, RowAt.nil_ _, ?_, ?_⟩
    · rw [z8]
      have := RowG.new 30 (w.alloc (.cells #[.int .i64 2, .int .i64 0, .int .i64 0, .int .i64 0, .int .i64 0, .slice none 0 0, .slice none 0 0, .int .i64 0, .slice none 0 0, .string ⟨#[]⟩, .int .i64 0, .int .i64 0] 29)) ((bsOf []).map byteV)
      rw [World.size_alloc] at this
      exact this.keep ((Q.refl _).alloc _)
    · rw [zb]
      have := RowG.new 31 ((w.alloc (.cells #[.int .i64 2, .int .i64 0, .int .i64 0, .int .i64 0, .int .i64 0, .slice none 0 0, .slice none 0 0, .int .i64 0, .slice none 0 0, .string ⟨#[]⟩, .int .i64 0, .int .i64 0] 29)).alloc (.cells Try.zeroCells30 30)) ((isOf []).map Value.bool)
      rw [World.size_alloc, World.size_alloc] at this
      exact this
  generalize (((w.alloc (.cells #[.int .i64 2, .int .i64 0, .int .i64 0, .int .i64 0, .int .i64 0, .slice none 0 0, .slice none 0 0, .int .i64 0, .slice none 0 0, .string ⟨#[]⟩, .int .i64 0, .int .i64 0] 29)).alloc (.cells Try.zeroCells30 30)).alloc (.cells Try.zeroCells31 31)) = wS at *
  have hv0 : Hid (VF ((0 : Nat) : Int) []) := vf_nil (by omega) (by omega)
  go_loopw [6, 7] (fun s i wr => ∃ (k sz : Nat) (d : List Pc) (Aa Al Ad : Option Addr) (ca cl cd : Nat), i = .int .i64 k ∧ s = .int .i64 sz ∧ k ≤ ops.length ∧ k ≤ 30 ∧ sz ≤ 540 ∧ Hid (VF (sz : Int) d) ∧ Hid (J w wr sz d (bsOf d) (isOf d) Aa Al Ad ca cl cd)) (fun _ i _ => 30 - (intOf i).toNat)
  case atStart => exact ⟨0, 0, [], none, none, none, 0, 0, 0, rfl, rfl, by omega, by omega, by omega, hv0, j0⟩
  case round =>
    obtain ⟨k, sz, d, Aa, Al, Ad, ca, cl, cd, rfl, rfl, hk, hk30, hsz, hv, j⟩ := hrel
    by_cases h1 : k < ops.length
    rotate_left
    · have t1 : decide ((k : Int) < (ops.length : Int)) = false := decide_eq_false (by omega)
      go_wp2_with fail
      refine (told_any _).mono ?_
      rintro e wt ⟨rfl, qt⟩
      go_wp2
      go_ret
      exact ⟨rfl, j.out.q.trans qt⟩
    have t1 : decide ((k : Int) < (ops.length : Int)) = true := decide_eq_true (by omega)
    by_cases h2 : k < 30
    rotate_left
    · have t2 : decide ((k : Int) < 30) = false := decide_eq_false (by omega)
      have t2' : ¬ k < 30 := h2
      go_wp2_with fail
      refine (told_any _).mono ?_
      rintro e wt ⟨rfl, qt⟩
      go_wp2
      go_ret
      exact ⟨rfl, j.out.q.trans qt⟩
    have t2 : decide ((k : Int) < 30) = true := decide_eq_true (by omega)
    obtain ⟨g, og, _, ea, _, _, hc⟩ := (HO.out _ j.out.q).atO (by omega)
    obtain ⟨rfl, -, rfl⟩ := Value.slice.inj ea
    obtain ⟨c1, c2, c3⟩ := hc k h1
    clear hc ea
    generalize ops[k] = x at *
    obtain ⟨kd, at_, s⟩ := x
    simp only at c1 c2 c3
    obtain ⟨a, ha, la⟩ := rem_nat at_ 500 (by decide)
    have ha' : (IntKind.u64.wrap at_).tmod 500 = (a : Int) := ha
    have wa : IntKind.i64.wrap (a : Int) = (a : Int) := IntWalk.i64_in _ (by omega)
    have lt2 : (k : Int) < (ops.length : Int) := by omega
    clear ha
    by_cases h3 : (40 : Int) < (s.size : Int)
    · have t3 : decide ((40 : Int) < (s.size : Int)) = true := decide_eq_true h3
      go_wp2_with fail
      refine (told_any _).mono ?_
      rintro e wt ⟨rfl, qt⟩
      go_wp2
      go_ret
      exact ⟨rfl, j.out.q.trans qt⟩
    have t3 : decide ((40 : Int) < (s.size : Int)) = false := decide_eq_false h3
    obtain ⟨kk, hkk⟩ : ∃ kk, bits BinOp.and IntKind.i64 kd 7 = kk := ⟨_, rfl⟩
    by_cases h4 : kk < 6
    · have t4 : decide (kk < 6) = true := decide_eq_true h4
      have hs4 : s.size ≤ 40 := by omega
      obtain ⟨i0, i1, i2, i3, i4, i5, i6, i7, i8, i9, i10, i11⟩ := j.out.x.cells
      go_wp2_with fail
      clear i0 i1 i2 i3 i4 i5 i6 i7 i8 i9 i10 i11
      rcases play_write (s := s) hv.out hsz la hs4 with ⟨ew, hl1⟩ | ⟨sz2, d2, ew, hv2, hsz2, hwr, hs2⟩
      · refine (wF_c (F_at j.out.a j.out.l j.out.d) hv.out (by omega) ew).mono ?_
        rintro e w1 ⟨Aa2, ca2, Al2, cl2, Ad2, cd2, rfl, ha2, hl2, hd2, qa⟩
        replace j := Lib.hid (j.out.keep qa)
        clear ha2 hl2 hd2 qa ew
        go_wp2_with fail
        refine (told_any _).mono ?_
        rintro e wt ⟨rfl, qt⟩
        have j2 := Lib.hid ((j.out.keep ((Q.refl w1).alloc _)).keep qt)
        obtain ⟨i0, i1, i2, i3, i4, i5, i6, i7, i8, i9, i10, i11⟩ := j2.out.x.cells
        have l1 : decide ((1 : Int) < (d.length : Int)) = true := decide_eq_true (by omega)
        have l2 : (1 : Int) < (d.length : Int) := by omega
        go_wp2
        go_ret
        exact ⟨rfl, j2.out.q⟩
      refine (wF_c (F_at j.out.a j.out.l j.out.d) hv.out (by omega) ew).mono ?_
      rintro e w1 ⟨Aa2, ca2, Al2, cl2, Ad2, cd2, rfl, ha2, hl2, hd2, qa⟩
      replace j := Lib.hid (j.out.keep qa)
      replace hv := Lib.hid hv2
      replace hwr := Lib.hid hwr
      replace hs2 := Lib.hid hs2
      clear qa ew hv2
      have qa : Q w1 (w1.alloc (.cells #[.int .i64 2, .int .i64 0, .int .i64 0, .int .i64 0, .int .i64 0, .slice Aa2 0 ca2, .slice Al2 0 cl2, .int .i64 (sz2 : Int), .slice Ad2 d2.length cd2, .string ⟨#[]⟩, .int .i64 0, .int .i64 0] 29)) := (Q.refl w1).alloc _
      replace j := Lib.hid (j.out.keep qa)
      have jp := Lib.hid (j.out.put (sz2 := sz2) (ha2.keep qa) (hl2.keep qa) (hd2.keep qa))
      obtain ⟨i0, i1, i2, i3, i4, i5, i6, i7, i8, i9, i10, i11⟩ := j.out.x.cells
      have f0 := j.out.x.soft 0
      have f1 := j.out.x.soft 1
      have f2 := j.out.x.soft 2
      have f3 := j.out.x.soft 3
      have f4 := j.out.x.soft 4
      have f5 := j.out.x.soft 5
      have f6 := j.out.x.soft 6
      have f7 := j.out.x.soft 7
      have f8 := j.out.x.soft 8
      have f9 := j.out.x.soft 9
      have f10 := j.out.x.soft 10
      have f11 := j.out.x.soft 11
      clear qa ha2 hl2 hd2
      go_wp2
      clear i0 i1 i2 i3 i4 i5 i6 i7 i8 i9 i10 i11 f0 f1 f2 f3 f4 f5 f6 f7 f8 f9 f10 f11 j
      generalize (((((((((((((w1.alloc (.cells #[.int .i64 2, .int .i64 0, .int .i64 0, .int .i64 0, .int .i64 0, .slice Aa2 0 ca2, .slice Al2 0 cl2, .int .i64 (sz2 : Int), .slice Ad2 d2.length cd2, .string ⟨#[]⟩, .int .i64 0, .int .i64 0] 29)).setCell ⟨w.heap.size, 0, none⟩ (.int .i64 2)).setCell ⟨w.heap.size, 1, none⟩ (.int .i64 0)).setCell ⟨w.heap.size, 2, none⟩ (.int .i64 0)).setCell ⟨w.heap.size, 3, none⟩ (.int .i64 0)).setCell ⟨w.heap.size, 4, none⟩ (.int .i64 0)).setCell ⟨w.heap.size, 5, none⟩ (.slice Aa2 0 ca2)).setCell ⟨w.heap.size, 6, none⟩ (.slice Al2 0 cl2)).setCell ⟨w.heap.size, 7, none⟩ (.int .i64 (sz2 : Int))).setCell ⟨w.heap.size, 8, none⟩ (.slice Ad2 d2.length cd2)).setCell ⟨w.heap.size, 9, none⟩ (.string ⟨#[]⟩)).setCell ⟨w.heap.size, 10, none⟩ (.int .i64 0)).setCell ⟨w.heap.size, 11, none⟩ (.int .i64 0)) = w3 at *
      go_loopw [13] (fun i wr => ∃ (m : Nat), i = .int .i64 m ∧ m ≤ s.size ∧ Hid (J w wr sz2 d2 (midB d a s m) (midI d a m) Aa2 Al2 Ad2 ca2 cl2 cd2)) (fun i _ => s.size - (intOf i).toNat)
      case atStart => exact ⟨0, rfl, by omega, by show J _ _ _ _ _ _ _ _ _ _ _ _; rw [midB_zero, midI_zero]; exact jp.out⟩
      case round =>
        obtain ⟨m, rfl, hm1, j⟩ := hrel
        clear jp
        by_cases h6 : m < s.size
        · have t6 : decide ((m : Int) < (s.size : Int)) = true := decide_eq_true (by omega)
          have lt6 : (m : Int) < (s.size : Int) := by omega
          obtain ⟨r, hr⟩ : ∃ r, r = a + m := ⟨_, rfl⟩
          have wr6 : IntKind.i64.wrap ((a : Int) + (m : Int)) = (r : Int) := by rw [show (a : Int) + (m : Int) = (r : Int) by omega]; exact IntWalk.i64_in _ (by omega)
          have r6 : r < 600 := by omega
          have r7 : (r : Int) < 600 := by omega
          have eB : (midB d a s m).set r s[m] = midB d a s (m + 1) := by rw [getB s m h6, hr, midB_step]
          have eI : (midI d a m).set r true = midI d a (m + 1) := by rw [hr, midI_step]
          have lb : r < (midB d a s m).length := by rw [show (midB d a s m).length = 600 from tab_len _]; exact r6
          have li : r < (midI d a m).length := by rw [show (midI d a m).length = 600 from tab_len _]; exact r6
          have jb : J w (wr.setCell ⟨w.heap.size + 1, r, none⟩ (.int .u8 (s[m].toNat : Int))) sz2 d2 ((midB d a s m).set r s[m]) (midI d a m) Aa2 Al2 Ad2 ca2 cl2 cd2 := j.out.setB r s[m]
          have ji := jb.setI r true
          rw [eB, eI] at ji
          have cb := j.out.b.cell r (by rw [List.length_map]; exact lb)
          have fb := j.out.b.soft r
          have ci := jb.i.cell r (by rw [List.length_map]; exact li)
          have fi := jb.i.soft r
          replace ji := Lib.hid ji
          replace hr := Lib.hid hr
          clear jb eB eI
          go_wp2
          go_roundw
          case rel => exact ⟨m + 1, by go_num, by omega, ji⟩
          case measure => simp [intOf]; omega
        obtain rfl : m = s.size := by omega
        have t6 : decide ((s.size : Int) < (s.size : Int)) = false := decide_eq_false (by omega)
        have G1 := midB_end hwr.out
        have G2 := midI_end hwr.out
        replace j := Lib.hid (by have := j.out; rwa [G1, G2] at this)
        clear G1 G2 h6
        by_cases h7 : 0 < s.size
        · have t7 : decide ((0 : Int) < (s.size : Int)) = true := decide_eq_true (by omega)
          have h8 : max (sz : Int) ((a : Int) + (s.size : Int)) = (sz2 : Int) := by have := hs2.out; rw [if_pos h7] at this; exact this.symm
          have w8 : IntKind.i64.wrap ((a : Int) + (s.size : Int)) = (a : Int) + (s.size : Int) := IntWalk.i64_in _ (by omega)
          replace hsz := hsz2
          obtain ⟨i0, i1, i2, i3, i4, i5, i6, i7, i8, i9, i10, i11⟩ := j.out.x.cells
          go_wp2_with fail
          clear i0 i1 i2 i3 i4 i5 i6 i7 i8 i9 i10 i11
          refine (read_c (F_at j.out.a j.out.l j.out.d) (F_fit hv.out) (by decide) (play_read hv.out hsz)).mono ?_
          rintro e w2 ⟨rfl, qa⟩
          replace j := Lib.hid (j.out.keep qa)
          clear qa
          have cv := stringG w2 (w.heap.size + 1) 600 (bsOf d2) j.out.b sz2 (by rw [show (bsOf d2).length = 600 from tab_len _]; omega)
          have sl2 := sl8 (w.heap.size + 1) sz2 (by omega)
          have hm := Lib.hid (F_may hv.out)
          obtain ⟨i0, i1, i2, i3, i4, i5, i6, i7, i8, i9, i10, i11⟩ := j.out.x.cells
          go_wp2_with fail
          clear i0 i1 i2 i3 i4 i5 i6 i7 i8 i9 i10 i11
          refine (may_c (F_at j.out.a j.out.l j.out.d) hv.out.small hm.out).mono ?_
          rintro e w3 ⟨rfl, qa⟩
          replace j := Lib.hid (j.out.keep qa)
          clear qa cv sl2 hm
          obtain ⟨i0, i1, i2, i3, i4, i5, i6, i7, i8, i9, i10, i11⟩ := j.out.x.cells
          go_wp2_with fail
          clear i0 i1 i2 i3 i4 i5 i6 i7 i8 i9 i10 i11
          refine (extF_any (F_at j.out.a j.out.l j.out.d) hv.out.small.1).mono ?_
          rintro e w4 ⟨A, c4, rfl, hx, qa⟩
          replace j := Lib.hid (j.out.keep qa)
          clear qa
          go_wp2
          go_loopw [20] (fun i wr => ∃ (p : Nat), i = .int .i64 p ∧ p ≤ 600 ∧ Hid (J w wr sz2 d2 (bsOf d2) (isOf d2) Aa2 Al2 Ad2 ca2 cl2 cd2) ∧ Hid (XsAt wr (.slice A (d2).length c4) ((d2).map xOf))) (fun i _ => 600 - (intOf i).toNat)
          case atStart => exact ⟨0, rfl, by omega, j, hx⟩
          case round =>
            obtain ⟨p, rfl, hp, j, hx⟩ := hrel
            by_cases h9 : p < 600
            · have t9 : decide ((p : Int) < 600) = true := decide_eq_true (by omega)
              have lp : p < (isOf d2).length := by rw [show (isOf d2).length = 600 from tab_len _]; exact h9
              have hc := j.out.i.cell p (by rw [List.length_map]; exact lp)
              rw [List.getElem_map, show (isOf d2)[p] = (byteOf (d2) p).isSome from tab_at _ p lp] at hc
              have HP : Hid (∀ w', Q wr w' → Calls Try.prog 13 #[.slice A (d2).length c4, .int .i64 p] w' fun e w'' => e = .returned (.bool (byteOf (d2) p).isSome) ∧ Q w' w'') := fun w' q => by
                have := hasPlace_any (.slice A (d2).length c4) ((d2).map xOf) p w' (hx.out.keep q) (play_val hv.out).1 (play_val hv.out).2 (by rw [List.length_map]; exact hv.out.small.1)
                rw [play_has hv.out p] at this
                exact this
              generalize (byteOf (d2) p).isSome = b at *
              have nb : (b != b) = false := by cases b <;> rfl
              have wp9 : IntKind.i64.wrap (p : Int) = (p : Int) := IntWalk.i64_in _ (by omega)
              have lt9 : (p : Int) < 600 := by omega
              clear lp
              go_wp2_with fail
              go_region_held3 (fun w' => Q wr w' ∧ w'.cell? ⟨w.heap.size + 1 + 1, p, none⟩ = some (.bool b)) (first | exact keep1c (by assumption) (by assumption) | exact keep1c ⟨Q.refl _, hc⟩ (Q.drew (Q.refl _)) | assumption) (first
                | (go_at_call 13; refine (HP.out _ (And.left (by assumption))).mono ?_; rintro e wn ⟨rfl, qn⟩))
              go_wp2
              have q9 : Q _ _ := And.left (by assumption)
              go_roundw
              case rel => exact ⟨p + 1, by go_num, by omega, Lib.hid (j.out.keep q9), Lib.hid (hx.out.keep q9)⟩
              case measure => simp [intOf]; omega
            · have t9 : decide ((p : Int) < 600) = false := decide_eq_false (by omega)
              go_wp2
              go_roundw
              case rel => exact ⟨k + 1, sz2, d2, Aa2, Al2, Ad2, ca2, cl2, cd2, by go_num, rfl, by omega, by omega, hsz, hv, j⟩
              case measure => simp [intOf]; omega
        · have t7 : decide ((0 : Int) < (s.size : Int)) = false := decide_eq_false (by omega)
          obtain rfl : sz2 = sz := by have := hs2.out; rw [if_neg h7] at this; omega
          obtain ⟨i0, i1, i2, i3, i4, i5, i6, i7, i8, i9, i10, i11⟩ := j.out.x.cells
          go_wp2_with fail
          clear i0 i1 i2 i3 i4 i5 i6 i7 i8 i9 i10 i11
          refine (read_c (F_at j.out.a j.out.l j.out.d) (F_fit hv.out) (by decide) (play_read hv.out hsz)).mono ?_
          rintro e w2 ⟨rfl, qa⟩
          replace j := Lib.hid (j.out.keep qa)
          clear qa
          have cv := stringG w2 (w.heap.size + 1) 600 (bsOf d2) j.out.b sz2 (by rw [show (bsOf d2).length = 600 from tab_len _]; omega)
          have sl2 := sl8 (w.heap.size + 1) sz2 (by omega)
          have hm := Lib.hid (F_may hv.out)
          obtain ⟨i0, i1, i2, i3, i4, i5, i6, i7, i8, i9, i10, i11⟩ := j.out.x.cells
          go_wp2_with fail
          clear i0 i1 i2 i3 i4 i5 i6 i7 i8 i9 i10 i11
          refine (may_c (F_at j.out.a j.out.l j.out.d) hv.out.small hm.out).mono ?_
          rintro e w3 ⟨rfl, qa⟩
          replace j := Lib.hid (j.out.keep qa)
          clear qa cv sl2 hm
          obtain ⟨i0, i1, i2, i3, i4, i5, i6, i7, i8, i9, i10, i11⟩ := j.out.x.cells
          go_wp2_with fail
          clear i0 i1 i2 i3 i4 i5 i6 i7 i8 i9 i10 i11
          refine (extF_any (F_at j.out.a j.out.l j.out.d) hv.out.small.1).mono ?_
          rintro e w4 ⟨A, c4, rfl, hx, qa⟩
          replace j := Lib.hid (j.out.keep qa)
          clear qa
          go_wp2
          go_loopw [20] (fun i wr => ∃ (p : Nat), i = .int .i64 p ∧ p ≤ 600 ∧ Hid (J w wr sz2 d2 (bsOf d2) (isOf d2) Aa2 Al2 Ad2 ca2 cl2 cd2) ∧ Hid (XsAt wr (.slice A (d2).length c4) ((d2).map xOf))) (fun i _ => 600 - (intOf i).toNat)
          case atStart => exact ⟨0, rfl, by omega, j, hx⟩
          case round =>
            obtain ⟨p, rfl, hp, j, hx⟩ := hrel
            by_cases h9 : p < 600
            · have t9 : decide ((p : Int) < 600) = true := decide_eq_true (by omega)
              have lp : p < (isOf d2).length := by rw [show (isOf d2).length = 600 from tab_len _]; exact h9
              have hc := j.out.i.cell p (by rw [List.length_map]; exact lp)
              rw [List.getElem_map, show (isOf d2)[p] = (byteOf (d2) p).isSome from tab_at _ p lp] at hc
              have HP : Hid (∀ w', Q wr w' → Calls Try.prog 13 #[.slice A (d2).length c4, .int .i64 p] w' fun e w'' => e = .returned (.bool (byteOf (d2) p).isSome) ∧ Q w' w'') := fun w' q => by
                have := hasPlace_any (.slice A (d2).length c4) ((d2).map xOf) p w' (hx.out.keep q) (play_val hv.out).1 (play_val hv.out).2 (by rw [List.length_map]; exact hv.out.small.1)
                rw [play_has hv.out p] at this
                exact this
              generalize (byteOf (d2) p).isSome = b at *
              have nb : (b != b) = false := by cases b <;> rfl
              have wp9 : IntKind.i64.wrap (p : Int) = (p : Int) := IntWalk.i64_in _ (by omega)
              have lt9 : (p : Int) < 600 := by omega
              clear lp
              go_wp2_with fail
              go_region_held3 (fun w' => Q wr w' ∧ w'.cell? ⟨w.heap.size + 1 + 1, p, none⟩ = some (.bool b)) (first | exact keep1c (by assumption) (by assumption) | exact keep1c ⟨Q.refl _, hc⟩ (Q.drew (Q.refl _)) | assumption) (first
                | (go_at_call 13; refine (HP.out _ (And.left (by assumption))).mono ?_; rintro e wn ⟨rfl, qn⟩))
              go_wp2
              have q9 : Q _ _ := And.left (by assumption)
              go_roundw
              case rel => exact ⟨p + 1, by go_num, by omega, Lib.hid (j.out.keep q9), Lib.hid (hx.out.keep q9)⟩
              case measure => simp [intOf]; omega
            · have t9 : decide ((p : Int) < 600) = false := decide_eq_false (by omega)
              go_wp2
              go_roundw
              case rel => exact ⟨k + 1, sz2, d2, Aa2, Al2, Ad2, ca2, cl2, cd2, by go_num, rfl, by omega, by omega, hsz, hv, j⟩
              case measure => simp [intOf]; omega
    have t4 : decide (kk < 6) = false := decide_eq_false h4
    by_cases h5 : kk = 6
    · have t5 : (kk == 6) = true := beq_iff_eq.2 h5
      obtain ⟨G1, G2⟩ := gon_end d a
      obtain ⟨ec, hv2⟩ := play_cut (a := a) hv.out la
      generalize hD : clipP d 0 (a : Int) = d2 at *
      obtain ⟨i0, i1, i2, i3, i4, i5, i6, i7, i8, i9, i10, i11⟩ := j.out.x.cells
      replace G1 := Lib.hid G1
      replace G2 := Lib.hid G2
      clear hD
      go_wp2_with fail
      clear i0 i1 i2 i3 i4 i5 i6 i7 i8 i9 i10 i11
      refine (cF_c (F_at j.out.a j.out.l j.out.d) hv.out ec).mono ?_
      rintro e w1 ⟨Aa2, ca2, Al2, cl2, Ad2, cd2, rfl, ha2, hl2, hd2, qa⟩
      replace j := Lib.hid (j.out.keep qa)
      replace hv := Lib.hid hv2
      clear qa ec hv2
      have qa : Q w1 (w1.alloc (.cells #[.int .i64 2, .int .i64 0, .int .i64 0, .int .i64 0, .int .i64 0, .slice Aa2 0 ca2, .slice Al2 0 cl2, .int .i64 (a : Int), .slice Ad2 d2.length cd2, .string ⟨#[]⟩, .int .i64 0, .int .i64 0] 29)) := (Q.refl w1).alloc _
      replace j := Lib.hid (j.out.keep qa)
      have jp := Lib.hid (j.out.put (sz2 := a) (ha2.keep qa) (hl2.keep qa) (hd2.keep qa))
      obtain ⟨i0, i1, i2, i3, i4, i5, i6, i7, i8, i9, i10, i11⟩ := j.out.x.cells
      have f0 := j.out.x.soft 0
      have f1 := j.out.x.soft 1
      have f2 := j.out.x.soft 2
      have f3 := j.out.x.soft 3
      have f4 := j.out.x.soft 4
      have f5 := j.out.x.soft 5
      have f6 := j.out.x.soft 6
      have f7 := j.out.x.soft 7
      have f8 := j.out.x.soft 8
      have f9 := j.out.x.soft 9
      have f10 := j.out.x.soft 10
      have f11 := j.out.x.soft 11
      clear qa ha2 hl2 hd2
      go_wp2
      clear i0 i1 i2 i3 i4 i5 i6 i7 i8 i9 i10 i11 f0 f1 f2 f3 f4 f5 f6 f7 f8 f9 f10 f11 j
      generalize (((((((((((((w1.alloc (.cells #[.int .i64 2, .int .i64 0, .int .i64 0, .int .i64 0, .int .i64 0, .slice Aa2 0 ca2, .slice Al2 0 cl2, .int .i64 (a : Int), .slice Ad2 d2.length cd2, .string ⟨#[]⟩, .int .i64 0, .int .i64 0] 29)).setCell ⟨w.heap.size, 0, none⟩ (.int .i64 2)).setCell ⟨w.heap.size, 1, none⟩ (.int .i64 0)).setCell ⟨w.heap.size, 2, none⟩ (.int .i64 0)).setCell ⟨w.heap.size, 3, none⟩ (.int .i64 0)).setCell ⟨w.heap.size, 4, none⟩ (.int .i64 0)).setCell ⟨w.heap.size, 5, none⟩ (.slice Aa2 0 ca2)).setCell ⟨w.heap.size, 6, none⟩ (.slice Al2 0 cl2)).setCell ⟨w.heap.size, 7, none⟩ (.int .i64 (a : Int))).setCell ⟨w.heap.size, 8, none⟩ (.slice Ad2 d2.length cd2)).setCell ⟨w.heap.size, 9, none⟩ (.string ⟨#[]⟩)).setCell ⟨w.heap.size, 10, none⟩ (.int .i64 0)).setCell ⟨w.heap.size, 11, none⟩ (.int .i64 0)) = w3 at *
      have hsz : a ≤ 540 := by omega
      go_loopw [16] (fun i wr => ∃ (m : Nat), i = .int .i64 m ∧ a ≤ m ∧ m ≤ 600 ∧ Hid (J w wr a d2 (gonB d a m) (gonI d a m) Aa2 Al2 Ad2 ca2 cl2 cd2)) (fun i _ => 600 - (intOf i).toNat)
      case atStart => exact ⟨a, rfl, by omega, by omega, by show J _ _ _ _ _ _ _ _ _ _ _ _; rw [gonB_zero, gonI_zero]; exact jp.out⟩
      case round =>
        obtain ⟨m, rfl, hm1, hm2, j⟩ := hrel
        clear jp
        by_cases h6 : m < 600
        · have t6 : decide ((m : Int) < 600) = true := decide_eq_true (by omega)
          have lt6 : (m : Int) < 600 := by omega
          have lb : m < (gonB d a m).length := by rw [show (gonB d a m).length = 600 from tab_len _]; exact h6
          have li : m < (gonI d a m).length := by rw [show (gonI d a m).length = 600 from tab_len _]; exact h6
          have jb : J w (wr.setCell ⟨w.heap.size + 1, m, none⟩ (.int .u8 0)) a d2 ((gonB d a m).set m 0) (gonI d a m) Aa2 Al2 Ad2 ca2 cl2 cd2 := j.out.setB m 0
          have ji := jb.setI m false
          rw [gonB_step d a m hm1, gonI_step d a m hm1] at ji
          have cb := j.out.b.cell m (by rw [List.length_map]; exact lb)
          have fb := j.out.b.soft m
          have ci := jb.i.cell m (by rw [List.length_map]; exact li)
          have fi := jb.i.soft m
          replace ji := Lib.hid ji
          clear jb
          go_wp2
          go_roundw
          case rel => exact ⟨m + 1, by go_num, by omega, by omega, ji⟩
          case measure => simp [intOf]; omega
        obtain rfl : m = 600 := by omega
        have t6 : decide (((600 : Nat) : Int) < 600) = false := decide_eq_false (by omega)
        replace j := Lib.hid (by have := j.out; rwa [G1.out, G2.out] at this)
        clear G1 G2 h6
        obtain ⟨i0, i1, i2, i3, i4, i5, i6, i7, i8, i9, i10, i11⟩ := j.out.x.cells
        go_wp2_with fail
        clear i0 i1 i2 i3 i4 i5 i6 i7 i8 i9 i10 i11
        refine (read_c (F_at j.out.a j.out.l j.out.d) (F_fit hv.out) (by decide) (play_read hv.out hsz)).mono ?_
        rintro e w2 ⟨rfl, qa⟩
        replace j := Lib.hid (j.out.keep qa)
        clear qa
        have cv := stringG w2 (w.heap.size + 1) 600 (bsOf d2) j.out.b a (by rw [show (bsOf d2).length = 600 from tab_len _]; omega)
        have sl2 := sl8 (w.heap.size + 1) a (by omega)
        have hm := Lib.hid (F_may hv.out)
        obtain ⟨i0, i1, i2, i3, i4, i5, i6, i7, i8, i9, i10, i11⟩ := j.out.x.cells
        go_wp2_with fail
        clear i0 i1 i2 i3 i4 i5 i6 i7 i8 i9 i10 i11
        refine (may_c (F_at j.out.a j.out.l j.out.d) hv.out.small hm.out).mono ?_
        rintro e w3 ⟨rfl, qa⟩
        replace j := Lib.hid (j.out.keep qa)
        clear qa cv sl2 hm
        obtain ⟨i0, i1, i2, i3, i4, i5, i6, i7, i8, i9, i10, i11⟩ := j.out.x.cells
        go_wp2_with fail
        clear i0 i1 i2 i3 i4 i5 i6 i7 i8 i9 i10 i11
        refine (extF_any (F_at j.out.a j.out.l j.out.d) hv.out.small.1).mono ?_
        rintro e w4 ⟨A, c4, rfl, hx, qa⟩
        replace j := Lib.hid (j.out.keep qa)
        clear qa
        go_wp2
        go_loopw [20] (fun i wr => ∃ (p : Nat), i = .int .i64 p ∧ p ≤ 600 ∧ Hid (J w wr a d2 (bsOf d2) (isOf d2) Aa2 Al2 Ad2 ca2 cl2 cd2) ∧ Hid (XsAt wr (.slice A (d2).length c4) ((d2).map xOf))) (fun i _ => 600 - (intOf i).toNat)
        case atStart => exact ⟨0, rfl, by omega, j, hx⟩
        case round =>
          obtain ⟨p, rfl, hp, j, hx⟩ := hrel
          by_cases h9 : p < 600
          · have t9 : decide ((p : Int) < 600) = true := decide_eq_true (by omega)
            have lp : p < (isOf d2).length := by rw [show (isOf d2).length = 600 from tab_len _]; exact h9
            have hc := j.out.i.cell p (by rw [List.length_map]; exact lp)
            rw [List.getElem_map, show (isOf d2)[p] = (byteOf (d2) p).isSome from tab_at _ p lp] at hc
            have HP : Hid (∀ w', Q wr w' → Calls Try.prog 13 #[.slice A (d2).length c4, .int .i64 p] w' fun e w'' => e = .returned (.bool (byteOf (d2) p).isSome) ∧ Q w' w'') := fun w' q => by
              have := hasPlace_any (.slice A (d2).length c4) ((d2).map xOf) p w' (hx.out.keep q) (play_val hv.out).1 (play_val hv.out).2 (by rw [List.length_map]; exact hv.out.small.1)
              rw [play_has hv.out p] at this
              exact this
            generalize (byteOf (d2) p).isSome = b at *
            have nb : (b != b) = false := by cases b <;> rfl
            have wp9 : IntKind.i64.wrap (p : Int) = (p : Int) := IntWalk.i64_in _ (by omega)
            have lt9 : (p : Int) < 600 := by omega
            clear lp
            go_wp2_with fail
            go_region_held3 (fun w' => Q wr w' ∧ w'.cell? ⟨w.heap.size + 1 + 1, p, none⟩ = some (.bool b)) (first | exact keep1c (by assumption) (by assumption) | exact keep1c ⟨Q.refl _, hc⟩ (Q.drew (Q.refl _)) | assumption) (first
              | (go_at_call 13; refine (HP.out _ (And.left (by assumption))).mono ?_; rintro e wn ⟨rfl, qn⟩))
            go_wp2
            have q9 : Q _ _ := And.left (by assumption)
            go_roundw
            case rel => exact ⟨p + 1, by go_num, by omega, Lib.hid (j.out.keep q9), Lib.hid (hx.out.keep q9)⟩
            case measure => simp [intOf]; omega
          · have t9 : decide ((p : Int) < 600) = false := decide_eq_false (by omega)
            go_wp2
            go_roundw
            case rel => exact ⟨k + 1, a, d2, Aa2, Al2, Ad2, ca2, cl2, cd2, by go_num, rfl, by omega, by omega, hsz, hv, j⟩
            case measure => simp [intOf]; omega
    have t5 : (kk == 6) = false := beq_eq_false_iff_ne.2 h5
    obtain ⟨i0, i1, i2, i3, i4, i5, i6, i7, i8, i9, i10, i11⟩ := j.out.x.cells
    go_wp2_with fail
    clear i0 i1 i2 i3 i4 i5 i6 i7 i8 i9 i10 i11
    refine (read_c (F_at j.out.a j.out.l j.out.d) (F_fit hv.out) (by decide) (play_read hv.out hsz)).mono ?_
    rintro e w2 ⟨rfl, qa⟩
    replace j := Lib.hid (j.out.keep qa)
    clear qa
    have cv := stringG w2 (w.heap.size + 1) 600 (bsOf d) j.out.b sz (by rw [show (bsOf d).length = 600 from tab_len _]; omega)
    have sl2 := sl8 (w.heap.size + 1) sz (by omega)
    have hm := Lib.hid (F_may hv.out)
    obtain ⟨i0, i1, i2, i3, i4, i5, i6, i7, i8, i9, i10, i11⟩ := j.out.x.cells
    go_wp2_with fail
    clear i0 i1 i2 i3 i4 i5 i6 i7 i8 i9 i10 i11
    refine (may_c (F_at j.out.a j.out.l j.out.d) hv.out.small hm.out).mono ?_
    rintro e w3 ⟨rfl, qa⟩
    replace j := Lib.hid (j.out.keep qa)
    clear qa cv sl2 hm
    obtain ⟨i0, i1, i2, i3, i4, i5, i6, i7, i8, i9, i10, i11⟩ := j.out.x.cells
    go_wp2_with fail
    clear i0 i1 i2 i3 i4 i5 i6 i7 i8 i9 i10 i11
    refine (extF_any (F_at j.out.a j.out.l j.out.d) hv.out.small.1).mono ?_
    rintro e w4 ⟨A, c4, rfl, hx, qa⟩
    replace j := Lib.hid (j.out.keep qa)
    clear qa
    go_wp2
    go_loopw [20] (fun i wr => ∃ (p : Nat), i = .int .i64 p ∧ p ≤ 600 ∧ Hid (J w wr sz d (bsOf d) (isOf d) Aa Al Ad ca cl cd) ∧ Hid (XsAt wr (.slice A (d).length c4) ((d).map xOf))) (fun i _ => 600 - (intOf i).toNat)
    case atStart => exact ⟨0, rfl, by omega, j, hx⟩
    case round =>
      obtain ⟨p, rfl, hp, j, hx⟩ := hrel
      by_cases h9 : p < 600
      · have t9 : decide ((p : Int) < 600) = true := decide_eq_true (by omega)
        have lp : p < (isOf d).length := by rw [show (isOf d).length = 600 from tab_len _]; exact h9
        have hc := j.out.i.cell p (by rw [List.length_map]; exact lp)
        rw [List.getElem_map, show (isOf d)[p] = (byteOf (d) p).isSome from tab_at _ p lp] at hc
        have HP : Hid (∀ w', Q wr w' → Calls Try.prog 13 #[.slice A (d).length c4, .int .i64 p] w' fun e w'' => e = .returned (.bool (byteOf (d) p).isSome) ∧ Q w' w'') := fun w' q => by
          have := hasPlace_any (.slice A (d).length c4) ((d).map xOf) p w' (hx.out.keep q) (play_val hv.out).1 (play_val hv.out).2 (by rw [List.length_map]; exact hv.out.small.1)
          rw [play_has hv.out p] at this
          exact this
        generalize (byteOf (d) p).isSome = b at *
        have nb : (b != b) = false := by cases b <;> rfl
        have wp9 : IntKind.i64.wrap (p : Int) = (p : Int) := IntWalk.i64_in _ (by omega)
        have lt9 : (p : Int) < 600 := by omega
        clear lp
        go_wp2_with fail
        go_region_held3 (fun w' => Q wr w' ∧ w'.cell? ⟨w.heap.size + 1 + 1, p, none⟩ = some (.bool b)) (first | exact keep1c (by assumption) (by assumption) | exact keep1c ⟨Q.refl _, hc⟩ (Q.drew (Q.refl _)) | assumption) (first
          | (go_at_call 13; refine (HP.out _ (And.left (by assumption))).mono ?_; rintro e wn ⟨rfl, qn⟩))
        go_wp2
        have q9 : Q _ _ := And.left (by assumption)
        go_roundw
        case rel => exact ⟨p + 1, by go_num, by omega, Lib.hid (j.out.keep q9), Lib.hid (hx.out.keep q9)⟩
        case measure => simp [intOf]; omega
      · have t9 : decide ((p : Int) < 600) = false := decide_eq_false (by omega)
        go_wp2
        go_roundw
        case rel => exact ⟨k + 1, sz, d, Aa, Al, Ad, ca, cl, cd, by go_num, rfl, by omega, by omega, hsz, hv, j⟩
        case measure => simp [intOf]; omega
end Go.Proofs.Ytheobpilmphdjaa.Nd.plays
