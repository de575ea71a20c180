/-
  The contract of the document's Read.
-/
import Derived.Test.YtheobpilmphdjaaGreatNRefY
import Derived.StillTailTactics
namespace Go.Proofs.YtheobpilmphdjaaGreat.Nd
open Go.RowKit
open Go.Proofs.YtheobpilmphdjaaGreat.Ex.Rng
open Go.Proofs.YtheobpilmphdjaaGreat.Ex (E ExtsAt)

/-! ### What is laid byte by byte -/
/-- The first k bytes from a on. -/
def rdB (d : List Pc) (a k : Nat) : List UInt8 := (List.range k).map fun i => (byteOf d (a + i)).getD 0
/-- .. when j bytes of a piece that begins o behind a are laid over it. -/
def midR (d : List Pc) (s : ByteArray) (a k o j : Nat) : List UInt8 := (List.range k).map fun i => if o ≤ i ∧ i < o + j then s.data.getD (i - o) 0 else (byteOf d (a + i)).getD 0
theorem rdB_len (d : List Pc) (a k : Nat) : (rdB d a k).length = k := by simp [rdB]
theorem midR_len (d : List Pc) (s : ByteArray) (a k o j : Nat) : (midR d s a k o j).length = k := by simp [midR]
theorem rdB_nil (a k : Nat) : rdB [] a k = List.replicate k (0 : UInt8) := by
  refine List.ext_getElem (by simp [rdB]) fun i h1 h2 => ?_
  simp [rdB, byteOf_nil]
theorem midR_zero (d : List Pc) (s : ByteArray) (a k o : Nat) : midR d s a k o 0 = rdB d a k := by
  unfold midR rdB
  refine List.map_congr_left fun i _ => ?_
  rw [if_neg (by omega)]
theorem midR_step (d : List Pc) (s : ByteArray) (a k o j : Nat) : (midR d s a k o j).set (o + j) (s.data.getD j 0) = midR d s a k o (j + 1) := by
  refine List.ext_getElem (by simp [midR]) fun i h1 h2 => ?_
  rw [List.getElem_set]
  by_cases h : o + j = i
  · subst h
    rw [if_pos rfl]
    simp only [midR, List.getElem_map, List.getElem_range]
    rw [if_pos (by omega), show o + j - o = j by omega]
  · rw [if_neg h]
    simp only [midR, List.getElem_map, List.getElem_range]
    by_cases h3 : o ≤ i ∧ i < o + j
    · rw [if_pos h3, if_pos (by omega)]
    · rw [if_neg h3, if_neg (by omega)]
theorem midR_end (d : List Pc) (s : ByteArray) (a k o : Nat) : midR d s a k o s.size = rdB (d ++ [(((a + o : Nat) : Int), s)]) a k := by
  unfold midR rdB
  refine List.map_congr_left fun i _ => ?_
  rw [byteOf_add]
  by_cases h : o ≤ i ∧ i < o + s.size
  · rw [if_pos h, if_pos (by unfold PIn; simp only; omega)]
    unfold byteP
    simp only [Option.getD_some]
    rw [show (((a + i : Nat) : Int) - ((a + o : Nat) : Int)).toNat = i - o by omega]
  · rw [if_neg h, if_neg (by unfold PIn; simp only; omega)]
theorem rdB_clip (d : List Pc) (a k : Nat) : rdB (clipP d (a : Int) ((a : Int) + (k : Int))) a k = rdB d a k := by
  unfold rdB
  refine List.map_congr_left fun i hi => ?_
  have hi := List.mem_range.1 hi
  rw [clipP_byte, if_pos (by omega)]
theorem txt_rdB (d : List Pc) (a k : Nat) : txt d a k = ⟨(rdB d a k).toArray⟩ := rfl
theorem rd_take {l : List Pc} {k : Nat} (h : k < l.length) : l.take k ++ [l[k]] = l.take (k + 1) := (List.take_succ_eq_append_getElem h).symm
/-- Where a piece of what is read lies. -/
theorem rd_piece {d : List Pc} {a k : Nat} {p : Pc} (h : p ∈ clipP d (a : Int) ((a : Int) + (k : Int))) : ∃ o : Nat, p.1 = ((a + o : Nat) : Int) ∧ o + p.2.size ≤ k ∧ 0 < p.2.size := by
  obtain ⟨h1, h2, h3, _⟩ := clipP_ends h
  exact ⟨(p.1 - a).toNat, by omega, by omega, h3⟩
theorem readN_in {n : Nd} {a k : Nat} {long : Int} (h : fileB n = true) (h1 : 0 ≤ long) (h2 : long ≤ 4000) (hk : min long (n.size - (a : Int)) = (k : Int)) (hs : n.size ≤ 1099511627776) (ha : (a : Int) < n.size) : readN n (a : Int) long = (txt n.data a k, 0) := by
  unfold readN
  rw [if_pos ⟨h, by omega, h1, h2⟩, hk, show limN (a : Int) = a by unfold limN M; omega, show limN (k : Int) = k by unfold limN M; omega]
theorem readN_past {n : Nd} {a long : Int} (h : fileB n = true) (h0 : 0 ≤ a) (h1 : 0 ≤ long) (h2 : long ≤ 4000) (ha : n.size ≤ a) : readN n a long = (⟨#[]⟩, 0) := by
  unfold readN
  rw [if_pos ⟨h, h0, h1, h2⟩, show limN (min long (n.size - a)) = 0 by unfold limN; omega]
  rfl
set_option maxRecDepth 100000 in
set_option maxHeartbeats 16000000 in
theorem rRead_any (v : Value) (n : Nd) (a long : Int) (w : World) (h : NodeAt w v n) (hf : Fit n) (ht : n.target.size ≤ 1000000) :
    Calls Tryz.prog 11 #[v, .int .i64 a, .int .i64 long] w fun e w' => e = .returned (.tuple #[.string (readN n a long).1, .int .i64 (readN n a long).2]) ∧ Q w w' := by
  have HF : Hid (∀ w', Q w w' → Calls Tryz.prog 13 #[v] w' fun e w'' => e = .returned (.bool (mayN n)) ∧ Q w' w'') := fun w' q => rMayN_any v n w' (h.keep q) hf.da ht
  have HV : Hid (fileB n = true → VF n.size n.data) := fun k => (fileB_vf k).2
  have HB : Hid (fileB n = ((n.kind == 2) && mayN n)) := rfl
  have E1 : Hid (¬ (fileB n = true ∧ 0 ≤ a ∧ 0 ≤ long ∧ long ≤ 4000) → readN n a long = (⟨#[]⟩, 1)) := fun k => if_neg k
  have E2 : Hid (fileB n = true → 0 ≤ a → 0 ≤ long → long ≤ 4000 → n.size ≤ a → readN n a long = (⟨#[]⟩, 0)) := readN_past
  have E3 : Hid (∀ aN k : Nat, a = (aN : Int) → fileB n = true → 0 ≤ long → long ≤ 4000 → min long (n.size - (aN : Int)) = (k : Int) → n.size ≤ 1099511627776 → (aN : Int) < n.size → readN n a long = (txt n.data aN k, 0)) := fun aN k e h h1 h2 hk hs ha => by rw [e]; exact readN_in h h1 h2 hk hs ha
  obtain ⟨va, vl, vd, rfl, ha, hl, hd⟩ := h
  have HD : Hid (∀ w', Q w w' → PcsAt w' vd n.data) := fun w' q => hd.keep q
  have hdl := hf.da.1
  obtain ⟨AD, cD, rfl⟩ := hd.form
  obtain ⟨kind, ⟨mode, uid, gid, time, attrs, acl⟩, size, data, target, major, minor⟩ := n
  unfold nodeV at HF ⊢
  simp only at HF HV HB HD hdl E1 E2 E3 ⊢
  clear ha hl hd hf ht
  generalize readN ⟨kind, ⟨mode, uid, gid, time, attrs, acl⟩, size, data, target, major, minor⟩ a long = N at *
  generalize fileB ⟨kind, ⟨mode, uid, gid, time, attrs, acl⟩, size, data, target, major, minor⟩ = bf at *
  generalize mayN ⟨kind, ⟨mode, uid, gid, time, attrs, acl⟩, size, data, target, major, minor⟩ = bm at *
  go_enter Tryz.func11, Tryz.ntmps11
  go_wp2_with fail
  have x1 := BoxN.new w #[.int .i64 kind, .int .i64 mode, .int .i64 uid, .int .i64 gid, .int .i64 time, va, vl, .int .i64 size, .slice AD data.length cD, .string target, .int .i64 major, .int .i64 minor]
  have q1 : Q w (w.alloc (.cells #[.int .i64 kind, .int .i64 mode, .int .i64 uid, .int .i64 gid, .int .i64 time, va, vl, .int .i64 size, .slice AD data.length cD, .string target, .int .i64 major, .int .i64 minor] 28)) := (Q.refl w).alloc _
  generalize w.alloc (.cells #[.int .i64 kind, .int .i64 mode, .int .i64 uid, .int .i64 gid, .int .i64 time, va, vl, .int .i64 size, .slice AD data.length cD, .string target, .int .i64 major, .int .i64 minor] 28) = w1 at *
  refine (HF.out _ q1).mono ?_
  rintro e w2 ⟨rfl, q2⟩
  replace x1 := x1.keep q2
  replace q1 := q1.trans q2
  clear q2 HF
  obtain ⟨k0, k1, k2, k3, k4, k5, k6, k7, k8, k9, k10, k11⟩ := x1.cells
  have hlt0 := x1.lt
  cases bm with
  | false =>
    have EE : Hid (N = _) := E1.out (fun k => by rw [HB.out] at k; simp at k)
    clear E1 E2 E3 HV HD HB x1 hlt0
    go_wp2
    go_ret2
    rw [EE.out]
    exact ⟨rfl, q1⟩
  | true =>
    by_cases hkd : kind = 2
    rotate_left
    · have t0 : (kind != (2 : Int)) = true := bne_iff_ne.2 hkd
      have EE : Hid (N = _) := E1.out (fun k => by rw [HB.out] at k; simp at k; exact hkd k.1)
      clear E1 E2 E3 HV HD HB x1 hlt0 hkd
      go_wp2
      go_ret2
      rw [EE.out]
      exact ⟨rfl, q1⟩
    subst hkd
    have hbf : bf = true := HB.out
    subst hbf
    clear HB
    by_cases h1 : a < 0
    · have t1 : decide (a < 0) = true := decide_eq_true h1
      have EE : Hid (N = _) := E1.out (fun k => by omega)
      clear E1 E2 E3 HV HD h1 x1 hlt0
      go_wp2
      go_ret2
      rw [EE.out]
      exact ⟨rfl, q1⟩
    have t1 : decide (a < 0) = false := decide_eq_false h1
    by_cases h2 : long < 0
    · have t2 : decide (long < 0) = true := decide_eq_true h2
      have EE : Hid (N = _) := E1.out (fun k => by omega)
      clear E1 E2 E3 HV HD h1 h2 x1 hlt0
      go_wp2
      go_ret2
      rw [EE.out]
      exact ⟨rfl, q1⟩
    have t2 : decide (long < 0) = false := decide_eq_false h2
    by_cases h3 : 4000 < long
    · have t3 : decide ((4000 : Int) < long) = true := decide_eq_true h3
      have EE : Hid (N = _) := E1.out (fun k => by omega)
      clear E1 E2 E3 HV HD h1 h2 h3 x1 hlt0
      go_wp2
      go_ret2
      rw [EE.out]
      exact ⟨rfl, q1⟩
    have t3 : decide ((4000 : Int) < long) = false := decide_eq_false h3
    by_cases h4 : size ≤ a
    · have t4 : decide (size ≤ a) = true := decide_eq_true h4
      have EE : Hid (N = _) := E2.out rfl (by omega) (by omega) (by omega) h4
      clear E1 E2 E3 HV HD h1 h2 h3 h4 x1 hlt0
      go_wp2
      go_ret2
      rw [EE.out]
      exact ⟨rfl, q1⟩
    have t4 : decide (size ≤ a) = false := decide_eq_false h4
    have hvf := HV.out rfl
    have hs1 := hvf.s1
    obtain ⟨aN, haN⟩ : ∃ aN : Nat, a = (aN : Int) := ⟨a.toNat, by omega⟩
    obtain ⟨kn, hkn⟩ : ∃ kn : Nat, min long (size - a) = (kn : Int) := ⟨(min long (size - a)).toNat, by omega⟩
    have hk4 : kn ≤ 4000 := by omega
    have EE : Hid (N = _) := E3.out aN kn haN rfl (by omega) (by omega) (by rw [← haN]; exact hkn) hs1 (by omega)
    have wA : IntKind.i64.wrap (size - a) = size - a := IntWalk.i64_in _ (by omega)
    have wB : IntKind.i64.wrap long = long := IntWalk.i64_in _ (by omega)
    have wC : IntKind.i64.wrap (a + (kn : Int)) = a + (kn : Int) := IntWalk.i64_in _ (by omega)
    have wD : IntKind.i64.wrap (kn : Int) = (kn : Int) := IntWalk.i64_in _ (by omega)
    have HCl : Hid (∀ w', Q w w' → Calls Tryz.prog 32 #[.slice AD data.length cD, .int .i64 a, .int .i64 (a + (kn : Int))] w' fun e w'' => ∃ v', e = .returned v' ∧ OwnP w'' w'.heap.size v' (clipP data a (a + (kn : Int))) ∧ Q w' w'') := fun w' q => clip_any _ data a (a + (kn : Int)) w' (HD.out _ q) hdl hvf.ok (by omega) (by omega) (by omega) (by omega)
    have hpl : Hid (∀ p ∈ clipP data a (a + (kn : Int)), ∃ o : Nat, p.1 = ((aN + o : Nat) : Int) ∧ o + p.2.size ≤ kn ∧ 0 < p.2.size) := by rw [haN]; exact fun p hp => rd_piece hp
    have hLl : (clipP data a (a + (kn : Int))).length ≤ 10000 := Nat.le_trans (clipP_len _ _ _) hdl
    have hEnd : Hid (txt data aN kn = ⟨(rdB (clipP data a (a + (kn : Int))) aN kn).toArray⟩) := by rw [haN, rdB_clip]; exact txt_rdB _ _ _
    generalize clipP data a (a + (kn : Int)) = L at *
    generalize txt data aN kn = TT at *
    clear E1 E2 E3 HV HD hvf h1 h2 h3 h4 hs1
    obtain ⟨Z, hZ⟩ : ∃ Z, Z = ((List.replicate kn (0 : UInt8)).map byteV).toArray := ⟨_, rfl⟩
    have mk : ∀ w, (Instr.makeSlice 59 (.int .i64 (kn : Int)) (.int .i64 (kn : Int))).run Tryz.prog w = .ok (.slice (some ⟨w.heap.size, 0, none⟩) kn kn) (w.alloc (.cells Z 5)) := by rw [hZ]; exact make8 .i64 kn (by omega)
    replace hZ := Lib.hid hZ
    subst haN
    have R0 : Hid (Row8 (w2.alloc (.cells Z 5)) w2.heap.size (rdB [] aN kn)) := by
      show Row8 _ _ _
      rw [hZ.out, rdB_nil]; exact Row8.new w2 _
    have k8' := ((Q.refl w2).alloc (.cells Z 5)).cell k8
    have q3 : Q w (w2.alloc (.cells Z 5)) := q1.alloc _
    have s3 : (w2.alloc (.cells Z 5)).heap.size = w2.heap.size + 1 := World.size_alloc _ _
    clear hZ x1
    go_wp2_with fail
    refine (HCl.out _ q3).mono ?_
    rintro e w4 ⟨v4, rfl, hown, q4⟩
    rw [s3] at hown
    have R4 : Hid (Row8 w4 w2.heap.size (rdB [] aN kn)) := R0.out.keep q4
    have q5 : Q w w4 := q3.trans q4
    have hg2 : w.heap.size ≤ w2.heap.size := q1.size
    obtain ⟨A4, c4, rfl⟩ := hown.form flatP
    clear HCl R0 q3 q4 s3 mk k8' k0 k1 k2 k3 k4 k5 k6 k7 k8 k9 k10 k11 hlt0
    go_wp2
    go_loopw [11, 12] (fun i _ wr => ∃ k : Nat, i = .int .i64 k ∧ k ≤ L.length ∧ Q w wr ∧ OwnP wr (w2.heap.size + 1) (.slice A4 L.length c4) L ∧ Hid (Row8 wr w2.heap.size (rdB (L.take k) aN kn))) (fun i _ _ => L.length - (intOf i).toNat)
    case atStart => exact ⟨0, rfl, by omega, q5, hown, by rw [List.take_zero]; exact R4⟩
    case round =>
      obtain ⟨k, rfl, hk, hq, ho, R⟩ := hrel
      by_cases hlt : k < L.length
      · obtain ⟨g, og, _, ea, _, _, hc⟩ := (ho.row flatP).atP (by omega)
        obtain ⟨rfl, -, rfl⟩ := Value.slice.inj ea
        obtain ⟨c1, c2⟩ := hc k hlt
        obtain ⟨o, ho1, ho2, ho3⟩ := hpl.out _ (List.getElem_mem hlt)
        have HS : Hid (∀ wr', OwnP wr' (w2.heap.size + 1) (.slice (some ⟨g, og, none⟩) L.length c4) L → wr'.cell? ⟨g, og + k * 2, none⟩ = some (.int .i64 L[k].1) ∧ wr'.cell? ⟨g, og + k * 2 + 1, none⟩ = some (.string L[k].2)) := fun wr' h => by
          obtain ⟨g', og', _, ea', _, _, hc'⟩ := (h.row flatP).atP (by omega)
          obtain ⟨e1, -, -⟩ := Value.slice.inj ea'
          cases e1
          exact hc' k hlt
        have E1 : Hid (rdB (L.take k ++ [(((aN + o : Nat) : Int), L[k].2)]) aN kn = rdB (L.take (k + 1)) aN kn) := by rw [← ho1]; exact congrArg (fun l => rdB l aN kn) (rd_take hlt)
        clear hc ea hpl
        generalize L[k] = p at *
        obtain ⟨p1, ps⟩ := p
        simp only at c1 c2 ho1 ho2 ho3 HS E1
        have wO : IntKind.i64.wrap (p1 - (aN : Int)) = (o : Int) := by rw [show p1 - (aN : Int) = (o : Int) by omega]; exact IntWalk.i64_in _ (by omega)
        clear ho1
        have ltk : (k : Int) < (L.length : Int) := by omega
        go_wp2
        go_loopw [12] (fun j wi => ∃ jn : Nat, j = .int .i64 jn ∧ jn ≤ ps.size ∧ Q w wi ∧ OwnP wi (w2.heap.size + 1) (.slice (some ⟨g, og, none⟩) L.length c4) L ∧ Hid (Row8 wi w2.heap.size (midR (L.take k) ps aN kn o jn))) (fun j _ => ps.size - (intOf j).toNat)
        case atStart => exact ⟨0, rfl, by omega, hq, ho, by rw [midR_zero]; exact R⟩
        case round =>
          obtain ⟨jn, rfl, hj, hqi, hoi, Ri⟩ := hrel
          obtain ⟨d1, d2⟩ := HS.out _ hoi
          by_cases hjl : jn < ps.size
          · have ltj : (jn : Int) < (ps.size : Int) := by omega
            have u1 : decide ((jn : Int) < (ps.size : Int)) = true := decide_eq_true ltj
            have wI : IntKind.i64.wrap ((o : Int) + (jn : Int)) = ((o + jn : Nat) : Int) := by rw [← Int.natCast_add]; exact IntWalk.i64_in _ (by omega)
            have lti : ((o + jn : Nat) : Int) < (kn : Int) := by omega
            have Rd : Row8 wr.drew w2.heap.size (midR (L.take k) ps aN kn o jn) := Ri.out.keep (Q.refl wr).drew
            have b1 := (Q.refl wr).drew.cell d1
            have b2 := (Q.refl wr).drew.cell d2
            obtain ⟨u0, cc⟩ : ∃ u, wr.drew.cell? ⟨w2.heap.size, o + jn, none⟩ = some (.int .u8 u) := ⟨_, Rd.cell (o + jn) (by rw [midR_len]; omega)⟩
            have fr := Rd.soft (o + jn)
            have R2 : Hid (Row8 (wr.drew.setCell ⟨w2.heap.size, o + jn, none⟩ (.int .u8 (ps[jn].toNat : Int))) w2.heap.size (midR (L.take k) ps aN kn o (jn + 1))) := by
              have hsk : ps[jn] = ps.data.getD jn 0 := getB ps jn hjl
              show Row8 _ _ _
              rw [← midR_step, ← hsk]
              exact Rd.set (o + jn) ps[jn]
            have hq2 : Q w (wr.drew.setCell ⟨w2.heap.size, o + jn, none⟩ (.int .u8 (ps[jn].toNat : Int))) := Q.setCell hqi.drew hg2 _ _
            have ho2 : OwnP (wr.drew.setCell ⟨w2.heap.size, o + jn, none⟩ (.int .u8 (ps[jn].toNat : Int))) (w2.heap.size + 1) (.slice (some ⟨g, og, none⟩) L.length c4) L := own_far (hoi.keep (Q.refl _).drew) (Far.setCell _ _ _ _) (Nat.lt_succ_self _)
            have nni : (0 : Int) ≤ ((o + jn : Nat) : Int) := by omega
            have hxe : ∃ x, x = o + jn := ⟨_, rfl⟩
            obtain ⟨x, hx⟩ := hxe
            rw [← hx] at wI lti cc fr R2 hq2 ho2 nni
            clear hx
            clear Ri R c1 c2 Rd hoi hqi ho hq
            go_wp2_with fail
            clear d1 d2
            refine wp_region_still_tail 18 (by kernel_rfl) (by kernel_rfl) ?_
            simp only [List.take_succ_cons, List.take_zero, List.drop_succ_cons, List.drop_zero]
            change wpStill _ _ wr.drew (fun a' => wpList _ _ _ _ a' wr.drew) _ _
            generalize wr.drew = w6 at *
            repeat still_step
            refine wpStill_nil ?_
            have hsto : ∀ (x : Int) a m w, Sem.run Tryz.prog (store a (.int .u8 x) m) w = stored Tryz.prog w a (.int .u8 x) m := fun x a m w => run_store Tryz.prog w a _ m rfl
            go_wp2
            go_roundw
            case rel => exact ⟨jn + 1, by go_num, by omega, hq2, ho2, R2⟩
            case measure => simp [intOf]; omega
          · have u1 : decide ((jn : Int) < (ps.size : Int)) = false := decide_eq_false (by omega)
            obtain rfl : jn = ps.size := by omega
            have R2 : Hid (Row8 wr w2.heap.size (rdB (L.take (k + 1)) aN kn)) := by
              have := Ri.out
              rw [midR_end] at this
              rwa [E1.out] at this
            clear Ri R c1 c2
            go_wp2
            go_roundw
            case rel => exact ⟨k + 1, by go_num, by omega, hqi, hoi, R2⟩
            case measure => simp [intOf]; omega
      · have RE : Row8 wr w2.heap.size (rdB L aN kn) := by
          have := R.out
          rwa [List.take_of_length_le (by omega)] at this
        have cv := string8 wr w2.heap.size kn (rdB L aN kn) RE kn (rdB_len _ _ _).symm
        clear R RE
        go_wp2
        go_ret2
        rw [EE.out, hEnd.out]
        exact ⟨rfl, hq⟩
end Go.Proofs.YtheobpilmphdjaaGreat.Nd
