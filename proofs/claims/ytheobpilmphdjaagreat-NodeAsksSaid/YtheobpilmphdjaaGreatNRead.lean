/-
  The contract of node.Read.
-/
import Derived.Test.YtheobpilmphdjaaGreatNFile
namespace Go.Proofs.YtheobpilmphdjaaGreat.Nd
open Go.RowKit
open Go.Proofs.YtheobpilmphdjaaGreat.Ex.Rng
open Go.Proofs.YtheobpilmphdjaaGreat.Ex (E ExtsAt)


theorem keep2c {w0 w w' : World} {g i j : Nat} {u v : Value} (h : Q w0 w ∧ w.cell? ⟨g, i, none⟩ = some u ∧ w.cell? ⟨g, j, none⟩ = some v) (q : Q w w') : Q w0 w' ∧ w'.cell? ⟨g, i, none⟩ = some u ∧ w'.cell? ⟨g, j, none⟩ = some v :=
  ⟨h.1.trans q, q.cell h.2.1, q.cell h.2.2⟩
set_option maxRecDepth 100000 in
set_option maxHeartbeats 8000000 in
theorem read_any (v : Value) (n : Nd) (a long : Int) (w : World) (h : NodeAt w v n) (hf : Fit n) (ha9 : a ≤ 9223372036854775807) :
    Calls Tryz.prog 10 #[v, .int .i64 a, .int .i64 long] w fun e w' => e = .returned (.tuple #[.string (readN n a long).1, .int .i64 (readN n a long).2]) ∧ Q w w' := by
  have HF : Hid (∀ w', Q w w' → Calls Tryz.prog 25 #[v] w' fun e w'' => e = .returned (.bool (fileB n)) ∧ Q w' w'') := fun w' q => file_any v n w' (h.keep q) hf.da
  have HV : Hid (fileB n = true → VF n.size n.data) := fun k => (fileB_vf k).2
  have E1 : Hid (¬ (fileB n = true ∧ 0 ≤ a ∧ 0 ≤ long ∧ long ≤ 4000) → readN n a long = (⟨#[]⟩, 1)) := fun k => if_neg k
  have E5 : Hid (fileB n = true ∧ 0 ≤ a ∧ 0 ≤ long ∧ long ≤ 4000 → readN n a long = (txt n.data (limN a) (limN (min long (n.size - a))), 0)) := fun k => if_pos k
  obtain ⟨va, vl, vd, rfl, ha, hl, hd⟩ := h
  have HD : Hid (∀ w', Q w w' → PcsAt w' vd n.data) := fun w' q => hd.keep q
  have hdl := hf.da.1
  obtain ⟨AD, cD, rfl⟩ := hd.form
  obtain ⟨kind, ⟨mode, uid, gid, time, attrs, acl⟩, size, data, target, major, minor⟩ := n
  unfold nodeV at HF ⊢
  simp only at HF HV HD hdl E1 E5 ⊢
  clear ha hl hd hf
  generalize readN ⟨kind, ⟨mode, uid, gid, time, attrs, acl⟩, size, data, target, major, minor⟩ a long = N at *
  go_enter Tryz.func10, Tryz.ntmps10
  go_wp2_with fail
  have x1 := BoxN.new w #[.int .i64 kind, .int .i64 mode, .int .i64 uid, .int .i64 gid, .int .i64 time, va, vl, .int .i64 size, .slice AD data.length cD, .string target, .int .i64 major, .int .i64 minor]
  have q1 : Q w (w.alloc (.cells #[.int .i64 kind, .int .i64 mode, .int .i64 uid, .int .i64 gid, .int .i64 time, va, vl, .int .i64 size, .slice AD data.length cD, .string target, .int .i64 major, .int .i64 minor] 28)) := (Q.refl w).alloc _
  generalize w.alloc (.cells #[.int .i64 kind, .int .i64 mode, .int .i64 uid, .int .i64 gid, .int .i64 time, va, vl, .int .i64 size, .slice AD data.length cD, .string target, .int .i64 major, .int .i64 minor] 28) = w1 at *
  refine (HF.out _ q1).mono ?_
  rintro e w2 ⟨rfl, q2⟩
  replace x1 := x1.keep q2
  replace q1 := q1.trans q2
  clear q2 HF
  cases hbf : fileB ⟨kind, ⟨mode, uid, gid, time, attrs, acl⟩, size, data, target, major, minor⟩ with
  | false =>
    have EE : Hid (N = _) := E1.out (fun k => by rw [hbf] at k; cases k.1)
    clear E1 E5 HV HD hbf
    go_wp2
    go_ret2
    rw [EE.out]
    exact ⟨rfl, q1⟩
  | true =>
    by_cases h1 : a < 0
    · have t1 : decide (a < 0) = true := decide_eq_true h1
      have EE : Hid (N = _) := E1.out (fun k => by omega)
      clear E1 E5 HV HD hbf h1
      go_wp2
      go_ret2
      rw [EE.out]
      exact ⟨rfl, q1⟩
    have t1 : decide (a < 0) = false := decide_eq_false h1
    by_cases h2 : long < 0
    · have t2 : decide (long < 0) = true := decide_eq_true h2
      have EE : Hid (N = _) := E1.out (fun k => by omega)
      clear E1 E5 HV HD hbf h1 h2
      go_wp2
      go_ret2
      rw [EE.out]
      exact ⟨rfl, q1⟩
    have t2 : decide (long < 0) = false := decide_eq_false h2
    by_cases h3 : 4000 < long
    · have t3 : decide ((4000 : Int) < long) = true := decide_eq_true h3
      have EE : Hid (N = _) := E1.out (fun k => by omega)
      clear E1 E5 HV HD hbf h1 h2 h3
      go_wp2
      go_ret2
      rw [EE.out]
      exact ⟨rfl, q1⟩
    have t3 : decide ((4000 : Int) < long) = false := decide_eq_false h3
    have EE : Hid (N = _) := E5.out ⟨hbf, by omega, by omega, by omega⟩
    have hvf := HV.out hbf
    have hs0 := hvf.s0
    have hs1 := hvf.s1
    have hw : IntKind.i64.wrap (size - a) = size - a := IntWalk.i64_in _ (by omega)
    have hz2 : limN (min long (size - a)) ≤ 4000 := by unfold limN; omega
    have HO := Lib.hid (fun w => Ex.of_any a (min long (size - a)) w)
    have HT : Hid (∀ w', Q w w' → Calls Tryz.prog 35 #[E (limN a, limN (min long (size - a))), .slice AD data.length cD] w' fun e w'' => e = .returned (.string (txt data (limN a) (limN (min long (size - a))))) ∧ Q w' w'') := fun w' q => text_any (limN a, limN (min long (size - a))) _ data w' (HD.out _ q) (by have := hvf.len; omega) hvf.ok (limN_le _) (by simp only; omega)
    generalize limN a = zA at *
    generalize limN (min long (size - a)) = zB at *
    generalize txt data zA zB = S at *
    have k7 := x1.cells.2.2.2.2.2.2.2.1
    have k8 := x1.cells.2.2.2.2.2.2.2.2.1
    clear E1 E5 HV HD hbf hvf hs0 hs1 h1 h2 h3
    go_wp2_with fail
    go_region_held3 (fun w' => Q w w' ∧ w'.cell? ⟨w.heap.size, 7, none⟩ = some (.int .i64 size) ∧ w'.cell? ⟨w.heap.size, 8, none⟩ = some (.slice AD data.length cD)) (first | exact keep2c (by assumption) (by assumption) | exact keep2c ⟨q1, k7, k8⟩ (Q.drew (Q.refl _)) | assumption) (first
      | (go_at_call 36; refine (HO.out _).mono ?_; rintro e wn ⟨rfl, rfl⟩)
      | (go_at_call 35; refine (HT.out _ (And.left (by assumption))).mono ?_; rintro e wn ⟨rfl, qn⟩))
    go_wp2
    go_ret2
    rw [EE.out]
    exact ⟨rfl, And.left (by assumption)⟩
end Go.Proofs.YtheobpilmphdjaaGreat.Nd
