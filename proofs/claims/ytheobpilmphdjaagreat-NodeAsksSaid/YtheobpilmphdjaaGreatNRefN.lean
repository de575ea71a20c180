/-
  The contracts of the document's Extents, Bytes, data.
-/
import Derived.Test.YtheobpilmphdjaaGreatNRefC
import Derived.Test.YtheobpilmphdjaaGreatNLaws
namespace Go.Proofs.YtheobpilmphdjaaGreat.Nd
open Go.RowKit
open Go.Proofs.YtheobpilmphdjaaGreat.Ex.Rng
open Go.Proofs.YtheobpilmphdjaaGreat.Ex (E ExtsAt)

set_option maxRecDepth 100000 in
set_option maxHeartbeats 4000000 in
theorem rExtents_any (v : Value) (n : Nd) (w : World) (h : NodeAt w v n) (hs : n.data.length ≤ 10000) :
    Calls Tryz.prog 22 #[v] w fun e w' => ∃ v', e = .returned v' ∧ OwnX w' w.heap.size v' (n.data.map xOf) ∧ Q w w' := by
  obtain ⟨va, vl, vd, rfl, ha, hl, hd⟩ := h
  obtain ⟨kind, ⟨mode, uid, gid, time, attrs, acl⟩, size, data, target, major, minor⟩ := n
  unfold nodeV
  simp only at ha hl hd hs ⊢
  obtain ⟨A, c, rfl⟩ := hd.form
  have HD : Hid (∀ w', Q w w' → PcsAt w' (.slice A data.length c) data) := fun w' q => hd.keep q
  clear ha hl hd
  go_enter Tryz.func22, Tryz.ntmps22
  go_wp2
  have x1 := BoxN.new w #[.int .i64 kind, .int .i64 mode, .int .i64 uid, .int .i64 gid, .int .i64 time, va, vl, .int .i64 size, .slice A data.length c, .string target, .int .i64 major, .int .i64 minor]
  have k8 := x1.cells.2.2.2.2.2.2.2.2.1
  have q1 : Q w (w.alloc (.cells #[.int .i64 kind, .int .i64 mode, .int .i64 uid, .int .i64 gid, .int .i64 time, va, vl, .int .i64 size, .slice A data.length c, .string target, .int .i64 major, .int .i64 minor] 28)) := (Q.refl w).alloc _
  generalize w.alloc (.cells #[.int .i64 kind, .int .i64 mode, .int .i64 uid, .int .i64 gid, .int .i64 time, va, vl, .int .i64 size, .slice A data.length c, .string target, .int .i64 major, .int .i64 minor] 28) = w1 at *
  clear x1
  go_loopw [3, 4] (fun o i wr => ∃ (k : Nat) (ns : List X), i = .int .i64 k ∧ k ≤ data.length ∧ OwnX wr w1.heap.size o ns ∧ Q w1 wr ∧ ns.length = k ∧ Hid (ns = (data.take k).map xOf)) (fun _ i _ => data.length - (intOf i).toNat)
  case atStart => exact ⟨0, [], rfl, by omega, OwnR.nil_ _ _ _, Q.refl _, rfl, rfl⟩
  case round =>
    obtain ⟨k, ns, rfl, hk, hown, hq, hn, H⟩ := hrel
    obtain ⟨B, cb, rfl⟩ := hown.form flatX
    have c8 := hq.cell k8
    by_cases hlt : k < data.length
    · obtain ⟨g, og, _, ea, _, _, hc⟩ := (HD.out _ q1).atP (by omega)
      obtain ⟨rfl, -, rfl⟩ := Value.slice.inj ea
      obtain ⟨b1, b2⟩ := hc k hlt
      have E1 : Hid (ns ++ [xOf data[k]] = (data.take (k + 1)).map xOf) := by rw [H.out]; exact map_take hlt
      have HO0 := Lib.hid (fun w => rOf_any data[k].1 (data[k].2.size : Int) w)
      have HX : Hid ((limN data[k].1, limN (data[k].2.size : Int)) = xOf data[k]) := rfl
      clear hc H HD ea
      generalize data[k] = x at *
      obtain ⟨x1, xs⟩ := x
      simp only at b1 b2 HO0 HX
      have lt2 : (k : Int) < (data.length : Int) := by omega
      obtain ⟨y1, y2, hE⟩ : ∃ a b, E (xOf (x1, xs)) = .complex .f64 a b := ⟨_, _, rfl⟩
      have HO : Hid (∀ w, Calls Tryz.prog 47 #[.int .i64 x1, .int .i64 (xs.size : Int)] w fun e w' => e = .returned (.complex .f64 y1 y2) ∧ w' = w) := fun w => by
        have := HO0.out w
        rwa [HX.out, hE] at this
      generalize xOf (x1, xs) = y at *
      have hq2 : Q w1 (wr.alloc (.cells #[.complex .f64 y1 y2] 57)).drew := (hq.alloc _).drew
      have hown2 : OwnX (wr.alloc (.cells #[.complex .f64 y1 y2] 57)).drew w1.heap.size (.slice B ns.length cb) ns := (hown.keep ((Q.refl wr).alloc _)).keep (Q.refl _).drew
      have hone : XsAt (wr.alloc (.cells #[.complex .f64 y1 y2] 57)).drew (.slice (some ⟨wr.heap.size, 0, none⟩) 1 1) [y] := by
        have := (own_one flatX 57 wr wr.heap.size (Nat.le_refl _) y).row flatX
        unfold cellsX at this
        rw [hE] at this
        exact this.keep (Q.refl _).drew
      have KS : ∀ w', Q w1 w' → Q w1 w' ∧ w'.cell? ⟨w.heap.size, 8, none⟩ = some (.slice (some ⟨g, og, none⟩) data.length c) ∧ w'.cell? ⟨g, og + k * 2, none⟩ = some (.int .i64 x1) ∧ w'.cell? ⟨g, og + k * 2 + 1, none⟩ = some (.string xs) := fun w' q => ⟨q, q.cell k8, q.cell b1, q.cell b2⟩
      replace KS := Lib.hid KS
      replace hE := Lib.hid hE
      clear HO0 HX k8 b1 b2
      go_wp2_with fail
      go_region_held3 (fun w' => Q w1 w' ∧ w'.cell? ⟨w.heap.size, 8, none⟩ = some (.slice (some ⟨g, og, none⟩) data.length c) ∧ w'.cell? ⟨g, og + k * 2, none⟩ = some (.int .i64 x1) ∧ w'.cell? ⟨g, og + k * 2 + 1, none⟩ = some (.string xs)) (first | assumption | exact KS.out _ (by assumption) | exact KS.out _ (Q.drew hq) | exact KS.out _ (Q.alloc (And.left (by assumption)) _) | exact KS.out _ (Q.drew (And.left (by assumption)))) (first
        | (go_at_call 47; refine (HO.out _).mono ?_; rintro e wo ⟨rfl, rfl⟩)
        | (refine step_append_xs rfl (.tmp 12) (.tmp 27) rfl w1.heap.size (.slice B ns.length cb) ns (by simp [Act.eval, hn]) hown2 (.slice (some ⟨wr.heap.size, 0, none⟩) 1 1) [y] (by simp [Act.eval]) hone (by simp; omega) hq2.size ?_; intro v6 w6 hown6 hg6; have q6 : Q w1 w6 := Below.grown hq2 hg6 hq2.size fun g hg => (hown2.lt g hg).1))
      clear hown2 hone hq2 hg6 KS hown hq
      have hl6 : (ns ++ [y]).length = k + 1 := by simp [hn]
      generalize ns ++ [y] = ns6 at *
      go_wp2
      go_roundw
      case rel => exact ⟨k + 1, ns6, by go_num, by omega, hown6, q6, hl6, E1⟩
      case measure => simp [intOf]; omega
    · have E1 : Hid (ns = data.map xOf) := by
        have := H.out
        rwa [List.take_of_length_le (by omega)] at this
      clear H
      go_wp2
      go_ret
      exact ⟨_, rfl, by rw [← E1.out]; exact hown.mono q1.size, q1.trans hq⟩

set_option maxRecDepth 100000 in
set_option maxHeartbeats 2000000 in
theorem rBytes_any (v : Value) (n : Nd) (w : World) (h : NodeAt w v n) (hs : Small n.data) :
    Calls Tryz.prog 19 #[v] w fun e w' => e = .returned (.int .i64 (sumP n.data : Nat)) ∧ Grew w w' := by
  obtain ⟨va, vl, vd, rfl, ha, hl, hd⟩ := h
  obtain ⟨kind, ⟨mode, uid, gid, time, attrs, acl⟩, size, data, target, major, minor⟩ := n
  unfold nodeV
  obtain ⟨hs1, hs2⟩ := hs
  simp only at ha hl hd hs1 hs2 ⊢
  obtain ⟨A, c, rfl⟩ := hd.form
  have HD : Hid (∀ w', Q w w' → PcsAt w' (.slice A data.length c) data) := fun w' q => hd.keep q
  clear ha hl hd
  go_enter Tryz.func19, Tryz.ntmps19
  go_wp2
  have x1 := BoxN.new w #[.int .i64 kind, .int .i64 mode, .int .i64 uid, .int .i64 gid, .int .i64 time, va, vl, .int .i64 size, .slice A data.length c, .string target, .int .i64 major, .int .i64 minor]
  have k8 := x1.cells.2.2.2.2.2.2.2.2.1
  have q1 : Grew w (w.alloc (.cells #[.int .i64 kind, .int .i64 mode, .int .i64 uid, .int .i64 gid, .int .i64 time, va, vl, .int .i64 size, .slice A data.length c, .string target, .int .i64 major, .int .i64 minor] 28)) := Grew.alloc _ _
  generalize w.alloc (.cells #[.int .i64 kind, .int .i64 mode, .int .i64 uid, .int .i64 gid, .int .i64 time, va, vl, .int .i64 size, .slice A data.length c, .string target, .int .i64 major, .int .i64 minor] 28) = w1 at *
  clear x1
  go_loopw [3, 4] (fun s i wr => ∃ (k m : Nat), i = .int .i64 k ∧ s = .int .i64 (m : Nat) ∧ k ≤ data.length ∧ m ≤ k * 100000 ∧ Grew w1 wr ∧ Hid (m = sumP (data.take k))) (fun _ i _ => data.length - (intOf i).toNat)
  case atStart => exact ⟨0, 0, rfl, rfl, by omega, by omega, Grew.refl _, rfl⟩
  case round =>
    obtain ⟨k, m, rfl, rfl, hk, hm, hq, H⟩ := hrel
    have c8 := hq.q.cell k8
    by_cases hlt : k < data.length
    · obtain ⟨g, og, _, ea, _, _, hc⟩ := (HD.out _ (q1.trans hq).q).atP (by omega)
      obtain ⟨rfl, -, rfl⟩ := Value.slice.inj ea
      obtain ⟨c1, c2⟩ := hc k hlt
      have o1 := hs2 _ (List.getElem_mem hlt)
      have E1 : Hid (m + data[k].2.size = sumP (data.take (k + 1))) := by rw [sumP_take hlt, ← H.out]; rfl
      clear hc H hs2 HD ea
      generalize data[k] = x at *
      have lt2 : (k : Int) < (data.length : Int) := by omega
      have hb : m + x.2.size ≤ (k + 1) * 100000 := by omega
      have hw : IntKind.i64.wrap ((m : Int) + (x.2.size : Int)) = ((m + x.2.size : Nat) : Int) := by rw [← Int.natCast_add]; exact IntWalk.i64_in _ (by omega)
      generalize m + x.2.size = m2 at *
      clear hm
      go_wp2
      go_roundw
      case rel => exact ⟨k + 1, m2, by go_num, rfl, by omega, hb, hq, E1⟩
      case measure => simp [intOf]; omega
    · have E1 : Hid (m = sumP data) := by
        have := H.out
        rwa [List.take_of_length_le (by omega)] at this
      clear H
      go_wp2
      go_ret
      exact ⟨ret_int (by rw [E1.out]), q1.trans hq⟩
end Go.Proofs.YtheobpilmphdjaaGreat.Nd
