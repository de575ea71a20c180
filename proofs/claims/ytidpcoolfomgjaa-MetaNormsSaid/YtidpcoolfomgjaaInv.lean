/-
  A region that draws its order, by an invariant: what holds of the frame and the memory, given which operations have come up; each operation keeps it.
-/
import Derived.Test.YtidpcoolfomgjaaBase
import Derived.StillTail
import Derived.BigRegion
import Derived.RegionTactic
namespace Go.Proofs.Ytidpcoolfomgjaa
open Go.RowKit

/-- Behind operation i too. -/
def upon (c : Nat → Bool) (i : Nat) : Nat → Bool := fun j => c j || j == i
def Dag (md : Region.Mode) (ops : Array Oper) : Bool := (List.range ops.size).all fun i => match ops[i]? with | some o => o.after.all fun e => !Region.binds md e || decide (e.on < i) | none => true
theorem Dag.spec {md : Region.Mode} {ops : Array Oper} (h : Dag md ops = true) {i : Nat} {o : Oper} (ho : ops[i]? = some o) : ∀ e ∈ o.after, Region.binds md e = true → e.on < i := by
  intro e he hb
  have hi : i < ops.size := (Array.getElem?_eq_some_iff.1 ho).1
  have h1 := List.all_eq_true.1 h i (List.mem_range.2 hi)
  simp only [ho] at h1
  have h2 := Array.all_eq_true_iff_forall_mem.1 h1 e he
  rw [hb] at h2
  simpa using h2
def Left (n : Nat) (c : Nat → Bool) : Nat := ((List.range n).filter fun j => !c j).length
theorem Left.lt {n : Nat} {c : Nat → Bool} {i : Nat} (hi : i < n) (hc : c i = false) : Left n (upon c i) < Left n c := by
  have e : ((List.range n).filter fun j => !upon c i j) = ((List.range n).filter fun j => !c j).filter fun j => !(j == i) := by
    rw [List.filter_filter]
    congr 1
    funext j
    unfold upon
    cases c j <;> cases j == i <;> rfl
  unfold Left
  rw [e]
  refine List.length_filter_lt_length_iff_exists.2 ⟨i, ?_, by simp⟩
  rw [List.mem_filter]
  exact ⟨List.mem_range.2 hi, by rw [hc]; rfl⟩

theorem wpAny_inv {P : Program} {md : Region.Mode} {ops : Array Oper} {Q0 : Exit → Act → World → Prop} (Inv : (Nat → Bool) → Act → World → Prop) (hdag : Dag md ops = true)
    (hstep : ∀ (c : Nat → Bool) (a : Act) (w : World) (i : Nat) (o : Oper), Inv c a w → ops[i]? = some o → c i = false → (∀ e ∈ o.after, Region.binds md e = true → c e.on = true) → wpOp P ops Q0 i (Inv (upon c i)) a w)
    (hfin : ∀ (c : Nat → Bool) (a : Act) (w : World), Inv c a w → (∀ i, i < ops.size → c i = true) → Q0 .normal a w) :
    ∀ (n : Nat) (listed : Array Bool) (a : Act) (w : World), listed.size = ops.size → Left ops.size (fun j => listed.getD j false) ≤ n → Inv (fun j => listed.getD j false) a w → wpAny P md ops Q0 n listed a w := by
  have bothD : ∀ (listed : Array Bool) (i : Nat), i < listed.size → (listed.getD i true = false ↔ listed.getD i false = false) := by
    intro listed i hi
    simp [hi]
  have hend : ∀ (listed : Array Bool) (a : Act) (w : World), listed.size = ops.size → Inv (fun j => listed.getD j false) a w → Region.ready md ops listed = [] → Q0 .normal a w := by
    intro listed a w hs hI hr
    refine hfin _ a w hI ?_
    intro i
    induction i using Nat.strongRecOn with
    | _ i ih =>
      intro hi
      cases hc : listed.getD i false with
      | true => rfl
      | false =>
        exfalso
        have ho : ops[i]? = some ops[i] := Array.getElem?_eq_getElem hi
        have : i ∈ Region.ready md ops listed := mem_ready.2 ⟨(bothD listed i (by omega)).2 hc, _, ho, fun e he hb => ih e.on (Dag.spec hdag ho e he hb) (by have := Dag.spec hdag ho e he hb; omega)⟩
        rw [hr] at this
        cases this
  intro n
  induction n with
  | zero =>
    intro listed a w hs hn hI
    have hr : Region.ready md ops listed = [] := by
      rw [List.eq_nil_iff_forall_not_mem]
      intro i hi
      obtain ⟨h0, o, ho, _⟩ := mem_ready.1 hi
      have hin : i < ops.size := (Array.getElem?_eq_some_iff.1 ho).1
      have := Left.lt (c := fun j => listed.getD j false) hin ((bothD listed i (by omega)).1 h0)
      omega
    exact ⟨hr, hend listed a w hs hI hr⟩
  | succ n ih =>
    intro listed a w hs hn hI
    refine ⟨fun hr => hend listed a w hs hI hr, fun i hi => ?_⟩
    obtain ⟨h0, o, ho, hd⟩ := mem_ready.1 hi
    have hin : i < ops.size := (Array.getElem?_eq_some_iff.1 ho).1
    have hc := (bothD listed i (by omega)).1 h0
    have e : (fun j => (listed.setIfInBounds i true).getD j false) = upon (fun j => listed.getD j false) i := by
      funext j
      unfold upon
      by_cases hji : j = i
      · subst hji
        simp [hs, hin]
      · rw [getD_set_ne false (Ne.symm hji)]
        simp [hji]
    refine wpOp_mono (fun a' w' hI' => ih _ a' w' (by simp [hs]) ?_ (by rw [e]; exact hI')) (hstep _ a w i o hI ho hc hd)
    rw [e]
    have := Left.lt (c := fun j => listed.getD j false) hin hc
    omega
/-- The region as a whole. -/
theorem wp_region_inv {P : Program} {id : Nat} {ops : Array Oper} {Q0 : Exit → Act → World → Prop} {a : Act} {w : World} (Inv : (Nat → Bool) → Act → World → Prop) (hm : P.follows .mixedOrders = true) (hdag : Dag .any ops = true)
    (h0 : Inv (fun _ => false) a w.drew)
    (hstep : ∀ (c : Nat → Bool) (a : Act) (w : World) (i : Nat) (o : Oper), Inv c a w → ops[i]? = some o → c i = false → (∀ e ∈ o.after, Region.binds .any e = true → c e.on = true) → wpOp P ops Q0 i (Inv (upon c i)) a w)
    (hfin : ∀ (c : Nat → Bool) (a : Act) (w : World), Inv c a w → (∀ i, i < ops.size → c i = true) → Q0 .normal a w) : (Code.region id ops true).wp P Q0 a w := by
  refine wp_region_any hm (wpAny_inv Inv hdag hstep hfin ops.size _ a w.drew (by simp) ?_ ?_)
  · exact Nat.le_trans (List.length_filter_le _ _) (by simp)
  · have e : (fun j => (Array.replicate ops.size false).getD j false) = fun _ => false := by
      funext j
      by_cases hj : j < ops.size
      · simp [hj]
      · simp [hj]
    rw [e]
    exact h0
end Go.Proofs.Ytidpcoolfomgjaa
