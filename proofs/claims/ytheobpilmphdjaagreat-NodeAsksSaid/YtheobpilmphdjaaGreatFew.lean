/-
  The contract of the statements' Few.
-/
import Derived.Test.YtheobpilmphdjaaGreatDiff
namespace Go.Proofs.YtheobpilmphdjaaGreat
open Go.RowKit

def smallT (x : Attr) : Prop := x.1.size ≤ 250 ∧ x.2.size ≤ 250
instance (x : Attr) : Decidable (smallT x) := by unfold smallT; infer_instance
def Smalls (l : List Attr) : Prop := ∀ x ∈ l, smallT x
instance (l : List Attr) : Decidable (Smalls l) := by unfold Smalls; infer_instance
def fewM (m : Mt) : Bool := decide (Smalls m.attrs) && decide ((m.attrs.length : Int) ≤ 12) && decide ((m.acl.length : Int) ≤ 20)
theorem fewM_bounds {m : Mt} (h : fewM m = true) : Smalls m.attrs ∧ m.attrs.length ≤ 12 ∧ m.acl.length ≤ 20 := by
  unfold fewM at h
  simp only [Bool.and_eq_true, decide_eq_true_eq] at h
  exact ⟨h.1.1, by omega, by omega⟩
theorem smalls_step {l : List Attr} {k : Nat} (hk : k < l.length) (h : Smalls (l.take k)) (h1 : smallT l[k]) : Smalls (l.take (k + 1)) := by
  rw [List.take_succ_eq_append_getElem hk]
  intro x hx
  rcases List.mem_append.1 hx with hx | hx
  · exact h x hx
  · rw [List.mem_singleton.1 hx]; exact h1
theorem smalls_not {m : Mt} {k : Nat} (hk : k < m.attrs.length) (h1 : ¬ smallT m.attrs[k]) : fewM m = false := by
  have : ¬ Smalls m.attrs := fun h => h1 (h _ (List.getElem_mem hk))
  unfold fewM
  simp [this]
theorem smalls_end {m : Mt} {k : Nat} (hk : m.attrs.length ≤ k) (h : Smalls (m.attrs.take k)) : fewM m = (decide ((m.attrs.length : Int) ≤ 12) && decide ((m.acl.length : Int) ≤ 20)) := by
  rw [List.take_of_length_le hk] at h
  unfold fewM
  simp [h]

set_option maxRecDepth 100000 in
set_option maxHeartbeats 4000000 in
theorem few_any (v : Value) (m : Mt) (w : World) (h : MetaAt w v m) :
    Calls Tryz.prog 23 #[v] w fun e w' => e = .returned (.bool (fewM m)) ∧ Grew w w' := by
  obtain ⟨va, vl, rfl, ha, hl⟩ := h
  have En : Hid (∀ k (hk : k < m.attrs.length), ¬ smallT m.attrs[k] → fewM m = false) := fun k hk => smalls_not hk
  have Ee : Hid (∀ k, m.attrs.length ≤ k → Smalls (m.attrs.take k) → fewM m = (decide ((m.attrs.length : Int) ≤ 12) && decide ((m.acl.length : Int) ≤ 20))) := fun k => smalls_end
  obtain ⟨mode, uid, gid, time, attrs, acl⟩ := m
  generalize fewM ⟨mode, uid, gid, time, attrs, acl⟩ = r at *
  unfold metaV
  simp only at ha hl En Ee ⊢
  have ll := ha.len
  have lc := hl.len
  unfold maxLen at ll lc
  obtain ⟨A, ca, rfl⟩ := ha.form
  obtain ⟨B, cb, rfl⟩ := hl.form
  go_enter Tryz.func23, Tryz.ntmps23
  go_wp2
  have gw : Grew w (w.alloc (.cells #[.int .i64 mode, .int .i64 uid, .int .i64 gid, .int .i64 time, .slice A attrs.length ca, .slice B acl.length cb] 25)) := Grew.alloc _ _
  have k4 : (w.alloc (.cells #[.int .i64 mode, .int .i64 uid, .int .i64 gid, .int .i64 time, .slice A attrs.length ca, .slice B acl.length cb] 25)).cell? ⟨w.heap.size, 4, none⟩ = some (.slice A attrs.length ca) := by simp
  have k5 : (w.alloc (.cells #[.int .i64 mode, .int .i64 uid, .int .i64 gid, .int .i64 time, .slice A attrs.length ca, .slice B acl.length cb] 25)).cell? ⟨w.heap.size, 5, none⟩ = some (.slice B acl.length cb) := by simp
  generalize w.alloc (.cells #[.int .i64 mode, .int .i64 uid, .int .i64 gid, .int .i64 time, .slice A attrs.length ca, .slice B acl.length cb] 25) = w1 at *
  go_loopw [3] (fun i wr => ∃ k : Nat, i = .int .i64 k ∧ k ≤ attrs.length ∧ wr = w1 ∧ Hid (Smalls (attrs.take k))) (fun i _ => attrs.length - (intOf i).toNat)
  case atStart => exact ⟨0, rfl, by omega, rfl, (fun x hx => by cases hx)⟩
  case round =>
    obtain ⟨k, rfl, hk, rfl, H⟩ := hrel
    by_cases hlt : k < attrs.length
    · obtain ⟨g, o, _, ea, _, _, hc⟩ := (ha.keep gw.q).atT (by omega)
      cases ea
      obtain ⟨c1, c2⟩ := hc k hlt
      have lt2 : (k : Int) < (attrs.length : Int) := by omega
      have E1 : Hid (¬ smallT attrs[k] → r = false) := En.out k hlt
      have E2 : Hid (smallT attrs[k] → Smalls (attrs.take (k + 1))) := smalls_step hlt H.out
      clear hc ha hl H Ee En
      generalize attrs[k] = x at *
      obtain ⟨n, u⟩ := x
      by_cases h1 : 250 < n.size
      · have t1 : decide ((250 : Int) < (n.size : Int)) = true := decide_eq_true (by omega)
        have E := Lib.hid (E1.out (by unfold smallT; simp only; omega))
        clear h1 E1 E2
        go_wp2
        go_ret
        exact ⟨ret_bool E.out.symm, gw⟩
      · have t1 : decide ((250 : Int) < (n.size : Int)) = false := decide_eq_false (by omega)
        by_cases h2 : 250 < u.size
        · have t2 : decide ((250 : Int) < (u.size : Int)) = true := decide_eq_true (by omega)
          have E := Lib.hid (E1.out (by unfold smallT; simp only; omega))
          clear h1 h2 E1 E2
          go_wp2
          go_ret
          exact ⟨ret_bool E.out.symm, gw⟩
        · have t2 : decide ((250 : Int) < (u.size : Int)) = false := decide_eq_false (by omega)
          have E := Lib.hid (E2.out (by unfold smallT; simp only; omega))
          clear h1 h2 E1 E2
          go_wp2
          go_roundw
          case rel => exact ⟨k + 1, by go_num, by omega, trivial, E⟩
          case measure => simp [intOf]; omega
    · have E := Lib.hid (Ee.out k (by omega) H.out)
      clear H ha hl Ee En
      by_cases h1 : (attrs.length : Int) ≤ 12
      · have t1 : decide ((attrs.length : Int) ≤ 12) = true := decide_eq_true h1
        rw [t1] at E
        clear h1
        go_wp2
        all_goals
          go_ret
          exact ⟨ret_bool (by rw [E.out]; simp_all), gw⟩
      · have t1 : decide ((attrs.length : Int) ≤ 12) = false := decide_eq_false h1
        rw [t1] at E
        clear h1
        go_wp2
        go_ret
        exact ⟨ret_bool (by rw [E.out]; simp_all), gw⟩
end Go.Proofs.YtheobpilmphdjaaGreat
