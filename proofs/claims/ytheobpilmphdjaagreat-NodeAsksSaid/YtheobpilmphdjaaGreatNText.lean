/-
  The contract of node.text: the bytes of a range.
-/
import Derived.Test.YtheobpilmphdjaaGreatNBytes
import Derived.Test.YtheobpilmphdjaaGreatEMeet
import Derived.Deep.RegionHeld3
import Derived.StillTailTactics
namespace Go.Proofs.YtheobpilmphdjaaGreat.Nd
open Go.RowKit
open Go.Proofs.YtheobpilmphdjaaGreat.Ex.Rng
open Go.Proofs.YtheobpilmphdjaaGreat.Ex (E ExtsAt)

/-- The range's bytes of the first k pieces. -/
def bytesTo (l : List Pc) (a n : Nat) : List UInt8 := (List.range n).map fun i => (byteOf l (a + i)).getD 0
/-- .. and, over them, those of a piece in ranges. -/
def bytesOver (l : List Pc) (p : Pc) (r : List X) (a n : Nat) : List UInt8 := (List.range n).map fun i => if Mem (a + i) r then byteP p (a + i) else (byteOf l (a + i)).getD 0
theorem bytesTo_len (l : List Pc) (a n : Nat) : (bytesTo l a n).length = n := by simp [bytesTo]
theorem bytesOver_len (l : List Pc) (p : Pc) (r : List X) (a n : Nat) : (bytesOver l p r a n).length = n := by simp [bytesOver]
theorem bytesTo_nil (a n : Nat) : List.replicate n (0 : UInt8) = bytesTo [] a n := by
  refine List.ext_getElem (by simp [bytesTo]) fun i h1 h2 => ?_
  simp [bytesTo, byteOf_nil]
theorem bytesOver_nil (l : List Pc) (p : Pc) (a n : Nat) : bytesOver l p [] a n = bytesTo l a n := by
  unfold bytesOver bytesTo
  refine List.map_congr_left fun i _ => ?_
  rw [if_neg (Mem.nil_ _)]
/-- What a Meet with one piece gives. -/
theorem meet_one {p : Pc} {a n : Nat} {r : List X} (hp : PcOk p) (h : IsMeet [xOf p] a (a + n) r) :
    (∀ q, Mem q r ↔ PIn q p ∧ a ≤ q ∧ q < a + n) ∧ (∀ x ∈ r, a ≤ x.1 ∧ x.1 + x.2 ≤ a + n ∧ 0 < x.2 ∧ p.1 ≤ (x.1 : Int) ∧ (x.1 : Int) + x.2 ≤ p.1 + p.2.size) := by
  have hm : ∀ q, Mem q r ↔ PIn q p ∧ a ≤ q ∧ q < a + n := fun q => by
    rw [h.2.2.1 q, mem_one, xOf_xN hp]
    unfold PcOk at hp
    unfold In xN PIn M
    simp only
    omega
  refine ⟨hm, fun x hx => ?_⟩
  have h0 := h.1.1 x hx
  have h1 := (hm x.1).1 ⟨x, hx, by unfold In; omega⟩
  have h2 := (hm (x.1 + x.2 - 1)).1 ⟨x, hx, by unfold In; omega⟩
  unfold PIn at h1 h2
  omega
theorem over_step {l : List Pc} {p : Pc} {r : List X} {a n j : Nat} (hj : j < r.length) (h1 : a ≤ r[j].1) (h2 : r[j].1 + r[j].2 ≤ a + n) (h3 : p.1 ≤ (r[j].1 : Int)) (h4 : (r[j].1 : Int) + r[j].2 ≤ p.1 + p.2.size) (f : Nat) (hf : (f : Int) = (r[j].1 : Int) - p.1) :
    splice (bytesOver l p (r.take j) a n) (r[j].1 - a) (p.2.extract f (f + r[j].2)).data.toList = bytesOver l p (r.take (j + 1)) a n := by
  have hs : (p.2.extract f (f + r[j].2)).data.size = r[j].2 := by
    have : (p.2.extract f (f + r[j].2)).data.size = (p.2.extract f (f + r[j].2)).size := rfl
    rw [this, ByteArray.size_extract]
    omega
  have hl : (p.2.extract f (f + r[j].2)).data.toList.length = r[j].2 := by rw [Array.length_toList, hs]
  unfold splice
  refine List.ext_getElem ?_ fun i g1 g2 => ?_
  · simp [bytesOver_len]; omega
  · rw [bytesOver_len] at g2
    have ht := take_mem r j hj (a + i)
    have hr : (bytesOver l p (r.take (j + 1)) a n)[i]'(by rw [bytesOver_len]; exact g2) = if Mem (a + i) (r.take (j + 1)) then byteP p (a + i) else (byteOf l (a + i)).getD 0 := by simp [bytesOver]
    rw [hr]
    by_cases hb : i < r[j].1 - a
    · rw [List.getElem_append_left (by simp [bytesOver_len]; omega), List.getElem_take]
      have hn : ¬ In (a + i) r[j] := by unfold In; omega
      have : Mem (a + i) (r.take (j + 1)) ↔ Mem (a + i) (r.take j) := by rw [ht]; exact ⟨fun k => k.elim id fun k => absurd k hn, .inl⟩
      simp only [bytesOver, List.getElem_map, List.getElem_range, this]
    · rw [List.getElem_append_right (by simp [bytesOver_len]; omega)]
      have hlen : (List.take (r[j].1 - a) (bytesOver l p (r.take j) a n)).length = r[j].1 - a := by rw [List.length_take, bytesOver_len]; omega
      by_cases hc : i < r[j].1 - a + r[j].2
      · have hin : In (a + i) r[j] := by unfold In; omega
        rw [if_pos (ht.2 (.inr hin)), List.getElem_append_left (by rw [hlen, hl]; omega)]
        simp only [hlen, Array.getElem_toList, ByteArray.data_extract]
        rw [Array.getElem_extract]
        unfold byteP
        have hlt : f + (i - (r[j].1 - a)) < p.2.data.size := by
          have : p.2.data.size = p.2.size := rfl
          omega
        rw [show (((a + i : Nat) : Int) - p.1).toNat = f + (i - (r[j].1 - a)) by omega, Array.getD_eq_getD_getElem?, Array.getElem?_eq_getElem hlt]
        rfl
      · rw [List.getElem_append_right (by rw [hlen, hl]; omega), List.getElem_drop]
        have hn : ¬ In (a + i) r[j] := by unfold In; omega
        have : Mem (a + i) (r.take (j + 1)) ↔ Mem (a + i) (r.take j) := by rw [ht]; exact ⟨fun k => k.elim id fun k => absurd k hn, .inl⟩
        simp only [hlen, hl, show r[j].1 - a + r[j].2 + (i - (r[j].1 - a) - r[j].2) = i by omega]
        simp only [bytesOver, List.getElem_map, List.getElem_range, this]
theorem over_end {l : List Pc} {k : Nat} (hk : k < l.length) {r : List X} {a n : Nat} (hm : ∀ q, Mem q r ↔ PIn q l[k] ∧ a ≤ q ∧ q < a + n) : bytesOver (l.take k) l[k] r a n = bytesTo (l.take (k + 1)) a n := by
  unfold bytesOver bytesTo
  refine List.map_congr_left fun i hi => ?_
  have hi := List.mem_range.1 hi
  rw [List.take_succ_eq_append_getElem hk, byteOf_add]
  by_cases h : PIn (a + i) l[k]
  · rw [if_pos h, if_pos ((hm _).2 ⟨h, by omega, by omega⟩)]; rfl
  · rw [if_neg h, if_neg fun h' => h ((hm _).1 h').1]

set_option maxRecDepth 100000 in
set_option maxHeartbeats 4000000 in
theorem text_any (z : X) (v : Value) (l : List Pc) (w : World) (h : PcsAt w v l) (hl : l.length ≤ 10000) (hok : ∀ p ∈ l, PcOk p) (hz : z.1 ≤ M) (hz2 : z.2 ≤ 100000) :
    Calls Tryz.prog 35 #[E z, v] w fun e w' => e = .returned (.string (txt l z.1 z.2)) ∧ Q w w' := by
  have bM : M = 1099511627776 := rfl
  have hzM : z.2 ≤ M := by omega
  have HV : Hid (∀ w', Q w w' → PcsAt w' v l) := fun w' q => h.keep q
  have ll := h.len
  unfold maxLen at ll
  obtain ⟨A, c, rfl⟩ := h.form
  obtain ⟨za, zn⟩ := z
  simp only at hz hz2 hzM ⊢
  obtain ⟨Z, hZ⟩ : ∃ Z, Z = ((List.replicate zn (0 : UInt8)).map byteV).toArray := ⟨_, rfl⟩
  have mk : ∀ w, (Instr.makeSlice 59 (.int .i64 (zn : Int)) (.int .i64 (zn : Int))).run Tryz.prog w = .ok (.slice (some ⟨w.heap.size, 0, none⟩) zn zn) (w.alloc (.cells Z 5)) := by rw [hZ]; exact make8 .i64 zn (by omega)
  replace hZ := Lib.hid hZ
  go_enter Tryz.func35, Tryz.ntmps35
  go_wp2_with fail
  refine (Ex.long_any (za, zn) _ hzM).mono ?_
  rintro e w1 ⟨rfl, rfl⟩
  simp only
  go_wp2_with fail
  have R0 : Row8 (w1.alloc (.cells Z 5)) w1.heap.size (List.replicate zn (0 : UInt8)) := by rw [hZ.out]; exact Row8.new w1 (List.replicate zn (0 : UInt8))
  have q0 : Q w1 (w1.alloc (.cells Z 5)) := (Q.refl w1).alloc _
  have s0 : (w1.alloc (.cells Z 5)).heap.size = w1.heap.size + 1 := World.size_alloc _ _
  generalize w1.alloc (.cells Z 5) = wa at *
  refine (extents_any _ l _ (HV.out _ q0) hl).mono ?_
  rintro e w2 ⟨vx, rfl, hx, qx⟩
  replace R0 := R0.keep qx
  replace q0 := q0.trans qx
  have s2 := qx.size
  obtain ⟨B, cb, rfl⟩ := own_form hx
  rw [bytesTo_nil za] at R0
  replace hx : w2.ownsRow (w1.heap.size + 1) 57 1 (.slice B l.length cb) (l.map xOf).length ((l.map xOf).map E) := by rw [List.length_map]; exact World.ownsRow.mono hx (by omega)
  clear mk qx hZ
  go_wp2
  go_loopw [7, 8, 10, 11, 19] (fun _ _ _ _ i wr => ∃ (k : Nat) (bs : List UInt8), i = .int .i64 k ∧ k ≤ l.length ∧ Q w1 wr ∧ Far w1.heap.size w2 wr ∧ Row8 wr w1.heap.size bs ∧ bs.length = zn ∧ Hid (bs = bytesTo (l.take k) za zn)) (fun _ _ _ _ i _ => l.length - (intOf i).toNat)
  case atStart => exact ⟨0, _, rfl, by omega, q0, Far.refl _ _, R0, bytesTo_len _ _ _, by rw [List.take_zero]; rfl⟩
  case round =>
    obtain ⟨k, bs, rfl, hk, hq, hf, R, hbl, H⟩ := hrel
    by_cases hlt : k < l.length
    · obtain ⟨g, og, _, ea, _, _, hc⟩ := (HV.out _ hq).atP (by omega)
      cases ea
      obtain ⟨c1, c2⟩ := hc k hlt
      obtain ⟨gx, ox, cb2, ex, hx1, hx2, hxc⟩ := (hf.exts hx (Nat.lt_succ_self _)).at_ (by rw [List.length_map]; omega)
      obtain ⟨rfl, -, rfl⟩ := Value.slice.inj ex
      rw [List.length_map] at hx1
      have c3 := hxc k (by rw [List.length_map]; exact hlt)
      rw [List.getElem_map] at c3
      have okx := hok _ (List.getElem_mem hlt)
      have Hstep : Hid (∀ r, (∀ q, Mem q r ↔ PIn q l[k] ∧ za ≤ q ∧ q < za + zn) → bytesOver (l.take k) l[k] r za zn = bytesTo (l.take (k + 1)) za zn) := fun r => over_end hlt
      have HB : Hid (bs = bytesOver (l.take k) l[k] [] za zn) := by rw [H.out]; exact (bytesOver_nil _ _ _ _).symm
      clear hc hxc H ex
      generalize l[k] = x at *
      generalize l.take k = lk at *
      have sr := hf.1
      have s3 : w1.heap.size + 1 ≤ w2.heap.size := by omega
      clear s0 R0 q0 h s2
      have lt2 : (k : Int) < (l.length : Int) := by omega
      replace hbl := Lib.hid hbl
      replace hf := Lib.hid hf
      replace R := Lib.hid R
      replace hq := Lib.hid hq
      replace hx := Lib.hid hx
      replace hok := Lib.hid hok
      replace okx := Lib.hid okx
      replace c3 := Lib.hid c3
      go_wp2_with fail
      have qb : Q wr (wr.alloc (.cells #[.int .i64 x.1, .string x.2] 44)) := (Q.refl wr).alloc _
      have b0 : (wr.alloc (.cells #[.int .i64 x.1, .string x.2] 44)).cell? ⟨wr.heap.size, 0, none⟩ = some (.int .i64 x.1) := by simp
      have b1 : (wr.alloc (.cells #[.int .i64 x.1, .string x.2] 44)).cell? ⟨wr.heap.size, 1, none⟩ = some (.string x.2) := by simp
      have sb : (wr.alloc (.cells #[.int .i64 x.1, .string x.2] 44)).heap.size = wr.heap.size + 1 := World.size_alloc _ _
      generalize wr.alloc (.cells #[.int .i64 x.1, .string x.2] 44) = wb at *
      replace c3 := qb.cell c3.out
      have HM : Hid (∀ w', Q wb w' → Calls Tryz.prog 34 #[.slice (some ⟨gx, ox + k, none⟩) 1 (cb - k), .int .i64 za, .int .i64 zn] w' fun e w'' => ∃ A2 n2 r, e = .returned (.slice A2 r.length n2) ∧ w''.ownsRow (w1.heap.size + 1) 57 1 (.slice A2 r.length n2) r.length (r.map E) ∧ Q w' w'' ∧ Hid (IsMeet [xOf x] za (za + zn) r)) := by
        intro w' q'
        have hz' : ExtsAt w' (.slice (some ⟨gx, ox + k, none⟩) 1 (cb - k)) [xOf x] := .inr ⟨gx, ox + k, cb - k, rfl, by show 1 ≤ cb - k; omega, by omega, fun i hi => by
          have : i = 0 := by simpa using hi
          subst this
          exact q'.cell c3⟩
        have := Ex.meet_any _ _ (za : Int) (zn : Int) w' hz' (fun y hy => by rw [List.mem_singleton.1 hy]; exact xOf_ok x) (by simp)
        rw [limN_nat za hz, limN_nat zn hzM] at this
        refine this.mono ?_
        rintro e w'' ⟨v, r, rfl, ho, qn, Hr⟩
        obtain ⟨A2, n2, rfl⟩ := own_form ho
        have := q'.size
        exact ⟨A2, n2, r, rfl, World.ownsRow.mono ho (by omega), qn, Hr⟩
      have ne1 : ¬ cb = k := by omega
      have hsl : ∀ w, Sem.run Tryz.prog (Instr.sliceAt 40 (.slice (some ⟨gx, ox, none⟩) l.length cb) (some (.int .i64 (k : Int))) (some (.int .i64 ((k : Int) + 1))) none) w = .ok (.slice (some ⟨gx, ox + k, none⟩) 1 (cb - k)) w := fun w => by
        have := cut_c gx ox l.length cb k (k + 1) (by omega) (by omega) ne1 w
        rwa [Nat.add_sub_cancel_left, Int.natCast_add] at this
      have wk : IntKind.i64.wrap ((k : Int) + 1) = (k : Int) + 1 := IntWalk.i64_in _ (by omega)
      go_region_held3 (fun w' => Q wb w') (first | exact Q.trans (by assumption) (by assumption) | exact Q.drew (Q.refl _) | assumption) (first
        | (go_at_call 52; refine (Ex.at_any (za, zn) _ hz).mono ?_; rintro e wn ⟨rfl, rfl⟩)
        | (go_at_call 55; refine (Ex.long_any (za, zn) _ hzM).mono ?_; rintro e wn ⟨rfl, rfl⟩)
        | (go_at_call 34; refine (HM.out _ (by assumption)).mono ?_; rintro e wn ⟨A2, n2, r, rfl, hr, qn, Hr⟩))
      have qn3 : Q wb wn := by assumption
      clear HM hsl wk ne1 c3 hx1 hx2 hx
      have mm := meet_one okx.out Hr.out
      have hrl : r.length ≤ 1 := Hr.out.2.2.2
      have Hend := Lib.hid (Hstep.out r mm.1)
      have HY := Lib.hid mm.2
      clear mm Hstep
      replace b0 := qn3.cell b0
      replace b1 := qn3.cell b1
      have f3 : Hid (Far w1.heap.size w2 wn) := hf.out.trans (Far.of_q (qb.trans qn3))
      have q3 : Q w1 wn := hq.out.trans (qb.trans qn3)
      have R3 : Row8 wn w1.heap.size bs := R.out.keep (qb.trans qn3)
      have sn := qn3.size
      clear qb qn qn3 R hf hq c1 c2
      have okr : Hid (Ok r) := Hr.out.2.1.ok
      generalize hg8 : wr.heap.size = g8 at *
      clear hg8
      go_wp2
      go_loopw [10, 11, 35] (fun _ _ i wi => ∃ (j : Nat) (bi : List UInt8), i = .int .i64 j ∧ j ≤ r.length ∧ Q w1 wi ∧ Hid (Far w1.heap.size wn wi) ∧ Hid (Row8 wi w1.heap.size bi) ∧ Hid (bi.length = zn) ∧ Hid (bi = bytesOver lk x (r.take j) za zn)) (fun _ _ i _ => r.length - (intOf i).toNat)
      case atStart => exact ⟨0, bs, rfl, by omega, q3, Far.refl _ _, R3, hbl, HB⟩
      case round =>
        obtain ⟨j, bi, rfl, hj, hqi, hfi, Ri, hil, Hi⟩ := hrel
        by_cases hjl : j < r.length
        · have lt3 : (j : Int) < (r.length : Int) := by omega
          obtain ⟨g2, o2, c4, e4, h41, h42, hc4⟩ := (hfi.out.exts hr (Nat.lt_succ_self _)).at_ (by omega)
          obtain ⟨rfl, -, rfl⟩ := Value.slice.inj e4
          have d1 := hc4 j hjl
          have nb : g8 ≠ w1.heap.size := by omega
          have d2 := hfi.out.cell nb b0
          have d3 := hfi.out.cell nb b1
          have hy := HY.out _ (List.getElem_mem hjl)
          have oy := okr.out _ (List.getElem_mem hjl)
          have Hs : Hid (∀ f : Nat, (f : Int) = (r[j].1 : Int) - x.1 → splice bi (r[j].1 - za) (x.2.extract f (f + r[j].2)).data.toList = bytesOver lk x (r.take (j + 1)) za zn) := fun f hf => by
            rw [Hi.out]; exact over_step hjl hy.1 hy.2.1 hy.2.2.2.1 hy.2.2.2.2 f hf
          have okx1 := okx.out
          clear hc4 HY okr Hi Hend HB
          generalize r[j] = y at *
          obtain ⟨f, hfe⟩ : ∃ f : Nat, (f : Int) = (y.1 : Int) - x.1 := ⟨((y.1 : Int) - x.1).toNat, by omega⟩
          obtain ⟨o, hoe⟩ : ∃ o : Nat, o = y.1 - za := ⟨_, rfl⟩
          replace Hs := Lib.hid (Hs.out f hfe)
          rw [← hoe] at Hs
          unfold PcOk at okx1
          have hx2 : f + y.2 ≤ x.2.size := by omega
          have w5 : IntKind.i64.wrap ((y.1 : Int) - x.1) = (f : Int) := by rw [← hfe]; exact IntWalk.i64_in _ (by omega)
          have w6 : IntKind.i64.wrap ((y.1 : Int) - (za : Int)) = (o : Int) := by rw [show (y.1 : Int) - (za : Int) = (o : Int) by omega]; exact IntWalk.i64_in _ (by omega)
          have w7 : IntKind.i64.wrap ((f : Int) + (y.2 : Int)) = (f : Int) + (y.2 : Int) := IntWalk.i64_in _ (by omega)
          have ne2 : ¬ zn = o := by omega
          have le2 : o ≤ zn := by omega
          have le3 : y.2 ≤ zn - o := by omega
          have hs1 := fun w => cut_u8 w1.heap.size zn zn o le2 ne2 w
          have hs2 : ∀ w, Sem.run Tryz.prog (Instr.sliceAt 9 (.string x.2) (some (.int .i64 (f : Int))) (some (.int .i64 ((f : Int) + (y.2 : Int)))) none) w = .ok (.string (x.2.extract f (f + y.2))) w := fun w => by
            have := cut_str x.2 f (f + y.2) (Nat.le_add_right _ _) hx2 w
            rwa [Int.natCast_add] at this
          have hsz : (x.2.extract f (f + y.2)).size = y.2 := by rw [ByteArray.size_extract]; omega
          generalize hS : x.2.extract f (f + y.2) = S at *
          replace hfe := Lib.hid hfe
          replace hoe := Lib.hid hoe
          replace hsz := Lib.hid hsz
          replace hS := Lib.hid hS
          clear okx1 hy
          go_wp2_with fail
          go_quiet (first | ((go_at_call 52; exact Calls.quiet_of_same (Ex.at_any y _ oy.1))))
          go_wp2_with fail
          have hq5 : Q w1 (wr.drewN nq).drew := (hqi.drewN nq).drew
          have hf5 : Hid (Far w1.heap.size wn (wr.drewN nq).drew) := hfi
          have hR5 : Hid (Row8 (wr.drewN nq).drew w1.heap.size bi) := Ri
          have e1 : (wr.drewN nq).drew.cell? ⟨g8, 0, none⟩ = some (.int .i64 x.1) := d2
          have e2 : (wr.drewN nq).drew.cell? ⟨g8, 1, none⟩ = some (.string x.2) := d3
          clear d1 d2 d3 hfi Ri hqi
          refine wp_region_still_tail 15 (by kernel_rfl) (by kernel_rfl) ?_
          simp only [List.take_succ_cons, List.take_zero, List.drop_succ_cons, List.drop_zero]
          change wpStill _ _ (wr.drewN nq).drew (fun a' => wpList _ _ _ _ a' (wr.drewN nq).drew) _ _
          generalize (wr.drewN nq).drew = w5' at *
          repeat still_step
          still_call (Ex.at_any y _ oy.1)
          repeat still_step
          still_call (Ex.at_any (za, zn) _ hz)
          repeat still_step
          still_call (Ex.long_any y _ oy.2)
          repeat still_step
          refine wpStill_nil ?_
          refine wpList_copy_str rfl (.tmp 50) (.tmp 58) rfl w1.heap.size o (zn - o) (zn - o) S bi rfl rfl hR5.out (by rw [hsz.out]; exact le3) (by rw [hsz.out, hil.out]; omega) ?_
          have R6 : Hid (Row8 (w5'.setRow w1.heap.size ((splice bi o S.data.toList).map byteV).toArray) w1.heap.size (bytesOver lk x (r.take (j + 1)) za zn)) := by
            rw [← Hs.out]
            exact hR5.out.over (cs := splice bi o S.data.toList)
          have f6 : Hid (Far w1.heap.size wn (w5'.setRow w1.heap.size ((splice bi o S.data.toList).map byteV).toArray)) := hf5.out.trans (Far.setRow _ _ _)
          have q6 : Q w1 (w5'.setRow w1.heap.size ((splice bi o S.data.toList).map byteV).toArray) := Q.setRow hq5 (Nat.le_refl _) _
          generalize w5'.setRow w1.heap.size ((splice bi o S.data.toList).map byteV).toArray = w6' at *
          clear hs1 hs2 hR5 hf5 hq5 e1 e2 w5 w6 w7
          go_wp2
          go_roundw
          case rel => exact ⟨j + 1, _, by go_num, by omega, q6, f6, R6, bytesOver_len _ _ _ _ _, rfl⟩
          case measure => simp [intOf]; omega
        · have ej : j = r.length := by omega
          have E1 : Hid (bi = bytesTo (l.take (k + 1)) za zn) := by
            have := Hi.out
            rw [List.take_of_length_le (by omega)] at this
            exact this.trans Hend.out
          have f7 : Hid (Far w1.heap.size w2 wr) := f3.out.trans hfi.out
          clear HY okr Hi Hend HB ej b0 b1
          go_wp2
          go_roundw
          case rel => exact ⟨k + 1, bi, by go_num, by omega, hqi, f7.out, Ri.out, hil.out, E1⟩
          case measure => simp [intOf]; omega
    · have ek : k = l.length := by omega
      have E1 : Hid (bs = bytesTo l za zn) := by
        have := H.out
        rwa [List.take_of_length_le (by omega)] at this
      have hcv := fun w => string8 w w1.heap.size zn bs
      have hst := string8 wr w1.heap.size zn bs R zn hbl.symm
      clear H ek HV hok hx
      go_wp2
      go_ret
      exact ⟨ret_string (by rw [E1.out]; rfl), hq⟩
end Go.Proofs.YtheobpilmphdjaaGreat.Nd
