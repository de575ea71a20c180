/-
  A region that draws its order, where at each place all that may come next are moves of a slot, but at the most one: it may be walked in the order of the text.
-/
import Derived.Test.YtcbgchohcinecaaDoorMem
import Derived.StillTail
import Derived.BigRegion
namespace Go.Proofs.YtcbgchohcinecaaDoor
open Go.RowKit Go.BigFrame

def moveOf (o : Oper) : Option Operand := match o.op with | .move x => some x | _ => none
def lexMove (md : Region.Mode) (ops : Array Oper) : Nat → Nat → Array Bool → Bool
  | 0, _, listed => (Region.ready md ops listed).isEmpty
  | g + 1, k, listed => (decide (Region.ready md ops listed = [k]) || ((((ops[k]?).bind moveOf).isSome && (Region.ready md ops listed).contains k) && Region.free md ops listed k)) && lexMove md ops g (k + 1) (listed.setIfInBounds k true)

theorem wpAny_of_lex {P : Program} {ops : Array Oper} {md : Region.Mode} {Q0 : Exit → Act → World → Prop} (hsel : Region.noSelect ops = true) (hQ : ∀ c a d v w, Q0 (.panic c) (Act.put a d v) w → Q0 (.panic c) a w) :
    ∀ (l : List Oper) (k : Nat) (listed : Array Bool) (a : Act) (w : World), (∀ j, l[j]? = ops[k + j]?) → lexMove md ops l.length k listed = true → wpList P ops Q0 l a w → wpAny P md ops Q0 l.length listed a w
  | [], _, _, _, _, _, hB, h => ⟨by simpa [lexMove] using hB, h⟩
  | o :: l, k, listed, a, w, hl, hB, h => by
    have h0 : ops[k]? = some o := by simpa using (hl 0).symm
    have hl' : ∀ j, l[j]? = ops[k + 1 + j]? := fun j => by have := hl (j + 1); simpa [Nat.add_assoc, Nat.add_comm 1 j] using this
    simp only [List.length_cons, lexMove, Bool.and_eq_true, Bool.or_eq_true, decide_eq_true_eq] at hB
    obtain ⟨hc, hB'⟩ := hB
    have hw : wpOp P ops Q0 k (wpList P ops Q0 l) a w := by unfold wpOp; simp only [h0]; exact h
    rcases hc with hc | ⟨⟨hm, hr⟩, hf⟩
    · refine ⟨fun h1 => (by rw [hc] at h1; cases h1), fun i hi => ?_⟩
      rw [hc] at hi
      obtain rfl : i = k := by simpa using hi
      exact wpOp_mono (fun a' w' h' => wpAny_of_lex hsel hQ l (i + 1) _ a' w' hl' hB' h') hw
    · rw [h0] at hm
      obtain ⟨x, hx⟩ : ∃ x, o.op = .move x := by
        unfold moveOf at hm
        simp only [Option.bind_some] at hm
        split at hm
        · exact ⟨_, by assumption⟩
        · simp at hm
      have hr' : k ∈ Region.ready md ops listed := by simpa using hr
      have hrun : ∀ w, (execOp a.eval o).run P w = .ok (.value (a.eval x)) w := fun w => BigFrame.run_move x hx w
      obtain ⟨v, hy, hK⟩ : ∃ v, Yields P ops o v a ∧ wpList P ops Q0 l (a.put o.dst v) w := by
        unfold wpOp at hw
        simp only [h0] at hw
        by_cases hwt : Region.wanted o (yielded ops a.tmps) = true
        · rw [if_pos hwt] at hw
          refine ⟨a.eval x, .inl ⟨hwt, hrun⟩, ?_⟩
          rcases hw with hw | ⟨hw, _⟩
          · unfold Oper.wp at hw
            rw [hrun w] at hw
            exact hw
          · exfalso
            have h2 : ((execOp a.eval o).runT P w #[]).2 = #[] := by unfold execOp; rw [hx]; rfl
            have := hw.1
            rw [h2] at this
            simp at this
        · rw [if_neg hwt] at hw
          exact ⟨undef, .inr ⟨by simpa using hwt, rfl⟩, hw⟩
      exact wpAny_first h0 (Region.noSelect_spec hsel) (fun c a w => hQ c a _ _ w) l.length listed a w (Region.free_spec h0 hf) hr' hy (wpAny_of_lex hsel hQ l (k + 1) _ _ w hl' hB' hK)

/-- One operation that reads no memory, ahead of all others. -/
theorem take_v {P : Program} {ops : Array Oper} {md : Region.Mode} {Q0 : Exit → Act → World → Prop} (hsel : Region.noSelect ops = true) (hQ : ∀ c a d v w, Q0 (.panic c) (Act.put a d v) w → Q0 (.panic c) a w)
    (f i : Nat) (o : Oper) (v : Value) (listed : Array Bool) (a : Act) (w : World) (ho : ops[i]? = some o) (hr : ((Region.ready md ops listed).contains i && Region.free md ops listed i) = true) (hy : Yields P ops o v a) (H : wpAny P md ops Q0 f (listed.setIfInBounds i true) (a.put o.dst v) w) : wpAny P md ops Q0 (f + 1) listed a w := by
  rw [Bool.and_eq_true] at hr
  exact wpAny_first ho (Region.noSelect_spec hsel) (fun c a w => hQ c a _ _ w) f listed a w (Region.free_spec ho hr.2) (by simpa using hr.1) hy H
/-- Two reads, in whichever order. -/
theorem take_two {P : Program} {ops : Array Oper} {md : Region.Mode} {Q0 : Exit → Act → World → Prop} (f i j : Nat) (oi oj : Oper) (vi vj : Value) (listed : Array Bool) (a : Act) (w : World) (hi : ops[i]? = some oi) (hj : ops[j]? = some oj)
    (hr : Region.ready md ops listed = [i, j]) (hri : Region.ready md ops (listed.setIfInBounds i true) = [j]) (hrj : Region.ready md ops (listed.setIfInBounds j true) = [i]) (hd : ∀ d, oi.dst = some d → oj.dst ≠ some d) (hne : i ≠ j)
    (wi : Region.wanted oi (yielded ops a.tmps) = true) (wi' : Region.wanted oi (yielded ops (a.put oj.dst vj).tmps) = true) (wj : Region.wanted oj (yielded ops a.tmps) = true) (wj' : Region.wanted oj (yielded ops (a.put oi.dst vi).tmps) = true)
    (yi : (execOp a.eval oi).run P w = .ok (.value vi) w) (yi' : (execOp (a.put oj.dst vj).eval oi).run P w = .ok (.value vi) w) (yj : (execOp a.eval oj).run P w = .ok (.value vj) w) (yj' : (execOp (a.put oi.dst vi).eval oj).run P w = .ok (.value vj) w)
    (H : wpAny P md ops Q0 f ((listed.setIfInBounds i true).setIfInBounds j true) ((a.put oi.dst vi).put oj.dst vj) w) : wpAny P md ops Q0 (f + 1 + 1) listed a w := by
  have step : ∀ (o : Oper) (v : Value) (a : Act) (k : Nat) (K : Act → World → Prop), ops[k]? = some o → Region.wanted o (yielded ops a.tmps) = true → (execOp a.eval o).run P w = .ok (.value v) w → K (a.put o.dst v) w → wpOp P ops Q0 k K a w := by
    intro o v a k K ho hw hy hK
    unfold wpOp
    simp only [ho]
    rw [if_pos hw]
    refine .inl ?_
    unfold Oper.wp
    rw [hy]
    exact hK
  refine ⟨fun h => (by rw [hr] at h; cases h), fun k hk => ?_⟩
  rw [hr] at hk
  have : k = i ∨ k = j := by simpa using hk
  rcases this with rfl | rfl
  · refine step oi vi a k _ hi wi yi ⟨fun h => (by rw [hri] at h; cases h), fun m hm => ?_⟩
    rw [hri] at hm
    obtain rfl : m = j := by simpa using hm
    exact step oj vj _ m _ hj wj' yj' H
  · refine step oj vj a k _ hj wj yj ⟨fun h => (by rw [hrj] at h; cases h), fun m hm => ?_⟩
    rw [hrj] at hm
    obtain rfl : m = i := by simpa using hm
    refine step oi vi _ m _ hi wi' yi' ?_
    rw [Array.setIfInBounds_comm _ _ (Ne.symm hne), ← Act.put_comm a vi vj hd]
    exact H
theorem wpAny_sized {P : Program} {ops : Array Oper} {md : Region.Mode} {Q0 : Exit → Act → World → Prop} {a : Act} {w : World} (n : Nat) (hn : (ops.size == n) = true) (H : wpAny P md ops Q0 n (Array.replicate n false) a w) : wpAny P md ops Q0 ops.size (Array.replicate ops.size false) a w := by
  rw [beq_iff_eq.1 hn]
  exact H
theorem wpAny_rest {P : Program} {L : List Oper} {md : Region.Mode} {Q0 : Exit → Act → World → Prop} {listed : Array Bool} {a : Act} {w : World} (n k : Nat) (hn : ((L.drop k).length == n) = true) (hsel : Region.noSelect L.toArray = true) (hQ : ∀ c a d v w, Q0 (.panic c) (Act.put a d v) w → Q0 (.panic c) a w) (hB : lexMove md L.toArray n k listed = true)
    (H : wpList P L.toArray Q0 (L.drop k) a w) : wpAny P md L.toArray Q0 n listed a w := by
  obtain rfl := beq_iff_eq.1 hn
  exact wpAny_of_lex hsel hQ (L.drop k) k listed a w (fun j => by simp) hB H
/-- The region's operations behind a name. -/
theorem wp_region_gen {P : Program} {id : Nat} {ops : Array Oper} {Q0 : Exit → Act → World → Prop} {a : Act} {w : World} (n : Nat) (hm : P.follows .mixedOrders = true) (hn : (ops.size == n) = true)
    (H : ∀ ops', ops' = ops → wpAny P .any ops' Q0 n (Array.replicate n false) a w.drew) : (Code.region id ops true).wp P Q0 a w :=
  wp_region_any hm (wpAny_sized n hn (H ops rfl))
theorem take_d {P : Program} {ops : Array Oper} {md : Region.Mode} {Q0 : Exit → Act → World → Prop} (hsel : Region.noSelect ops = true) (hQ : ∀ c a d v w, Q0 (.panic c) (Act.put a d v) w → Q0 (.panic c) a w)
    (f i d : Nat) (o : Oper) (v : Value) (listed : Array Bool) (a : Act) (w : World) (ho : ops[i]? = some o) (hd : o.dst = some d) (hr : ((Region.ready md ops listed).contains i && Region.free md ops listed i) = true) (hy : Yields P ops o v a) (H : wpAny P md ops Q0 f (listed.setIfInBounds i true) (a.put (some d) v) w) : wpAny P md ops Q0 (f + 1) listed a w :=
  take_v hsel hQ f i o v listed a w ho hr hy (by rw [hd]; exact H)
theorem take_two_d {P : Program} {ops : Array Oper} {md : Region.Mode} {Q0 : Exit → Act → World → Prop} (f i j di dj : Nat) (oi oj : Oper) (vi vj : Value) (listed : Array Bool) (a : Act) (w : World) (hi : ops[i]? = some oi) (hj : ops[j]? = some oj) (hdi : oi.dst = some di) (hdj : oj.dst = some dj)
    (hr : Region.ready md ops listed = [i, j]) (hri : Region.ready md ops (listed.setIfInBounds i true) = [j]) (hrj : Region.ready md ops (listed.setIfInBounds j true) = [i]) (hd : di ≠ dj) (hne : i ≠ j)
    (wi : Region.wanted oi (yielded ops a.tmps) = true) (wi' : Region.wanted oi (yielded ops (a.put (some dj) vj).tmps) = true) (wj : Region.wanted oj (yielded ops a.tmps) = true) (wj' : Region.wanted oj (yielded ops (a.put (some di) vi).tmps) = true)
    (yi : (execOp a.eval oi).run P w = .ok (.value vi) w) (yi' : (execOp (a.put (some dj) vj).eval oi).run P w = .ok (.value vi) w) (yj : (execOp a.eval oj).run P w = .ok (.value vj) w) (yj' : (execOp (a.put (some di) vi).eval oj).run P w = .ok (.value vj) w)
    (H : wpAny P md ops Q0 f ((listed.setIfInBounds i true).setIfInBounds j true) ((a.put (some di) vi).put (some dj) vj) w) : wpAny P md ops Q0 (f + 1 + 1) listed a w :=
  take_two f i j oi oj vi vj listed a w hi hj hr hri hrj (fun d h => by rw [hdi] at h; rw [hdj]; cases h; exact fun e => hd (Option.some.inj e).symm) hne wi (by rw [hdj]; exact wi') wj (by rw [hdi]; exact wj') yi (by rw [hdj]; exact yi') yj (by rw [hdi]; exact yj') (by rw [hdi, hdj]; exact H)

/-! ### The same, cheaper to ask: what has come up is a number -/
def depOk (md : Region.Mode) (o : Oper) (k : Nat) : Bool := o.after.all fun e => !Region.binds md e || decide (e.on < k)
def waitsOn (md : Region.Mode) (o : Oper) (k : Nat) : Bool := o.after.any fun e => Region.binds md e && e.on == k
def lexL (md : Region.Mode) (ops : Array Oper) : Nat → List Oper → Bool
  | _, [] => true
  | k, o :: rest => (depOk md o k && ((rest.all fun o' => !depOk md o' k) || ((moveOf o).isSome && rest.all fun o' => waitsOn md o' k || o.apart ops o'))) && lexL md ops (k + 1) rest
def Pre (n : Nat) (listed : Array Bool) (k : Nat) : Prop := listed.size = n ∧ ∀ j, j < n → listed.getD j true = decide (j < k) ∧ listed.getD j false = decide (j < k)
theorem Pre.deps {n : Nat} {listed : Array Bool} {k : Nat} (h : Pre n listed k) (hk : k ≤ n) (md : Region.Mode) (o : Oper) : (∀ e ∈ o.after, Region.binds md e = true → listed.getD e.on false = true) ↔ depOk md o k = true := by
  have hd : ∀ j, listed.getD j false = decide (j < k) := by
    intro j
    by_cases hj : j < n
    · exact (h.2 j hj).2
    · rw [decide_eq_false (by omega)]
      have : listed.size ≤ j := by have := h.1; omega
      simp [Array.getElem?_eq_none this]
  unfold depOk
  rw [Array.all_eq_true_iff_forall_mem]
  constructor
  · intro a e he
    cases hb : Region.binds md e with
    | false => rfl
    | true => have := a e he hb; rw [hd] at this; simp [this]
  · intro a e he hb
    have := a e he
    rw [hb] at this
    rw [hd]
    simpa using this
theorem Pre.next {n : Nat} {listed : Array Bool} {k : Nat} (h : Pre n listed k) (hk : k < n) : Pre n (listed.setIfInBounds k true) (k + 1) := by
  refine ⟨by simp [h.1], fun j hj => ?_⟩
  by_cases e : k = j
  · subst e
    have : k < listed.size := by have := h.1; omega
    simp [this]
  · have e2 : decide (j < k + 1) = decide (j < k) := by rw [decide_eq_decide]; omega
    rw [getD_set_ne true e, getD_set_ne false e, e2]
    exact h.2 j hj
theorem wpAny_of_lexL {P : Program} {ops : Array Oper} {md : Region.Mode} {Q0 : Exit → Act → World → Prop} (hsel : Region.noSelect ops = true) (hQ : ∀ c a d v w, Q0 (.panic c) (Act.put a d v) w → Q0 (.panic c) a w) :
    ∀ (l : List Oper) (k : Nat) (listed : Array Bool) (a : Act) (w : World), (∀ j, l[j]? = ops[k + j]?) → k + l.length = ops.size → Pre ops.size listed k → lexL md ops k l = true → wpList P ops Q0 l a w → wpAny P md ops Q0 l.length listed a w
  | [], k, listed, a, w, hl, hn, hp, hB, h => by
    have hk : k = ops.size := by simpa using hn
    refine ⟨?_, h⟩
    rw [List.eq_nil_iff_forall_not_mem]
    intro j hj
    obtain ⟨h0, o, ho, _⟩ := mem_ready.1 hj
    have hjn : j < ops.size := (Array.getElem?_eq_some_iff.1 ho).1
    rw [(hp.2 j hjn).1] at h0
    simp at h0
    omega
  | o :: l, k, listed, a, w, hl, hn, hp, hB, h => by
    have hkn : k < ops.size := by simp at hn; omega
    have h0 : ops[k]? = some o := by simpa using (hl 0).symm
    have hl' : ∀ j, l[j]? = ops[k + 1 + j]? := fun j => by have := hl (j + 1); simpa [Nat.add_assoc, Nat.add_comm 1 j] using this
    have hn' : k + 1 + l.length = ops.size := by simp at hn; omega
    simp only [lexL, Bool.and_eq_true, Bool.or_eq_true] at hB
    obtain ⟨⟨hd, hc⟩, hB'⟩ := hB
    have hw : wpOp P ops Q0 k (wpList P ops Q0 l) a w := by unfold wpOp; simp only [h0]; exact h
    have hr' : k ∈ Region.ready md ops listed := mem_ready.2 ⟨by rw [(hp.2 k hkn).1]; simp, o, h0, (hp.deps (by omega) md o).2 hd⟩
    have hlater : ∀ j oj, ops[j]? = some oj → k < j → oj ∈ l := by
      intro j oj hj hkj
      obtain ⟨d, rfl⟩ : ∃ d, j = k + 1 + d := ⟨j - k - 1, by omega⟩
      rw [← hl' d] at hj
      exact List.mem_of_getElem? hj
    rcases hc with hc | ⟨hm, hf⟩
    · refine ⟨fun h1 => (by rw [h1] at hr'; cases hr'), fun i hi => ?_⟩
      obtain ⟨hi0, oi, hoi, hall⟩ := mem_ready.1 hi
      have hin : i < ops.size := (Array.getElem?_eq_some_iff.1 hoi).1
      rw [(hp.2 i hin).1] at hi0
      have hki : k ≤ i := by simpa using hi0
      obtain rfl : i = k := by
        rcases Nat.lt_or_ge k i with hlt | hge
        · exfalso
          have h1 := List.all_eq_true.1 hc oi (hlater i oi hoi hlt)
          rw [(hp.deps (by omega) md oi).1 hall] at h1
          simp at h1
        · omega
      exact wpOp_mono (fun a' w' h' => wpAny_of_lexL hsel hQ l (i + 1) _ a' w' hl' hn' (hp.next hkn) hB' h') hw
    · obtain ⟨x, hx⟩ : ∃ x, o.op = .move x := by
        unfold moveOf at hm
        split at hm
        · exact ⟨_, by assumption⟩
        · simp at hm
      have hrun : ∀ w, (execOp a.eval o).run P w = .ok (.value (a.eval x)) w := fun w => BigFrame.run_move x hx w
      obtain ⟨v, hy, hK⟩ : ∃ v, Yields P ops o v a ∧ wpList P ops Q0 l (a.put o.dst v) w := by
        unfold wpOp at hw
        simp only [h0] at hw
        by_cases hwt : Region.wanted o (yielded ops a.tmps) = true
        · rw [if_pos hwt] at hw
          refine ⟨a.eval x, .inl ⟨hwt, hrun⟩, ?_⟩
          rcases hw with hw | ⟨hw, _⟩
          · unfold Oper.wp at hw
            rw [hrun w] at hw
            exact hw
          · exfalso
            have h2 : ((execOp a.eval o).runT P w #[]).2 = #[] := by unfold execOp; rw [hx]; rfl
            have := hw.1
            rw [h2] at this
            simp at this
        · rw [if_neg hwt] at hw
          exact ⟨undef, .inr ⟨by simpa using hwt, rfl⟩, hw⟩
      refine wpAny_first h0 (Region.noSelect_spec hsel) (fun c a w => hQ c a _ _ w) l.length listed a w ?_ hr' hy (wpAny_of_lexL hsel hQ l (k + 1) _ _ w hl' hn' (hp.next hkn) hB' hK)
      intro j oj hoj hjk hun hno
      have hjn : j < ops.size := (Array.getElem?_eq_some_iff.1 hoj).1
      rw [(hp.2 j hjn).1] at hun
      have hkj : k < j := by
        have : k ≤ j := by simpa using hun
        omega
      have h1 := List.all_eq_true.1 hf oj (hlater j oj hoj hkj)
      rw [Bool.or_eq_true] at h1
      rcases h1 with h1 | h1
      · exfalso
        unfold waitsOn at h1
        obtain ⟨e, he, hb⟩ := Array.any_eq_true'.1 h1
        simp only [Bool.and_eq_true, beq_iff_eq] at hb
        exact hno e he hb.1 hb.2
      · exact h1
theorem wpAny_last {P : Program} {L : List Oper} {md : Region.Mode} {Q0 : Exit → Act → World → Prop} {listed : Array Bool} {a : Act} {w : World} (n k N : Nat) (hN : (L.length == N) = true) (hn : n + k = N) (hsel : Region.noSelect L.toArray = true) (hQ : ∀ c a d v w, Q0 (.panic c) (Act.put a d v) w → Q0 (.panic c) a w)
    (hl : listed.size = N) (hp : ((List.range N).all fun j => listed.getD j true == decide (j < k) && listed.getD j false == decide (j < k)) = true) (hB : lexL md L.toArray k (L.drop k) = true) (H : wpList P L.toArray Q0 (L.drop k) a w) : wpAny P md L.toArray Q0 n listed a w := by
  have hLn : L.length = N := beq_iff_eq.1 hN
  have e : n = (L.drop k).length := by rw [List.length_drop]; omega
  rw [e]
  refine wpAny_of_lexL hsel hQ (L.drop k) k listed a w (fun j => by simp) (by rw [List.length_drop]; simp; omega) ⟨by simp [hl, hLn], fun j hj => ?_⟩ hB H
  have hj' : j < N := by simp at hj; omega
  have := List.all_eq_true.1 hp j (List.mem_range.2 hj')
  simpa using this
end Go.Proofs.YtcbgchohcinecaaDoor
