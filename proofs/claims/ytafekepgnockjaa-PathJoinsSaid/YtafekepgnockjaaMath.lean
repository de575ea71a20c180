/-
  Plain facts on names and paths as lists of bytes: the words that the contracts of package path are stated in. No program is named here.
-/
import GoSem.Op.String
namespace Go.Proofs.Ytafekepgnockjaa.Pth

/-- May a byte stand in a name? -/
def okByte (c : UInt8) : Bool := c != 47 && c != 0
/-- A valid name. -/
def nameL (l : List UInt8) : Bool := decide (1 ≤ l.length) && decide (l.length ≤ 20) && !(l == [46]) && !(l == [46, 46]) && l.all okByte
/-- The pieces between slashes. -/
def cutL : List UInt8 → List (List UInt8)
  | [] => [[]]
  | c :: r => if c == 47 then [] :: cutL r else match cutL r with
    | h :: t => (c :: h) :: t
    | [] => [[c]]
/-- A valid path. -/
def mayL (l : List UInt8) : Bool := l.isEmpty || (decide (l.length ≤ 100) && decide ((cutL l).length ≤ 8) && (cutL l).all nameL)
/-- The names of a path. -/
def partsL (l : List UInt8) : List (List UInt8) := if l.isEmpty || !mayL l then [] else cutL l
def depthL (l : List UInt8) : Int := if mayL l then ((partsL l).length : Int) else -1
def lastL (l : List UInt8) : List UInt8 := (partsL l).getLast?.getD []
def parentL (l : List UInt8) : List UInt8 := if (partsL l).isEmpty then [] else l.take (l.length - (lastL l).length - 1)
def hasParentL (l : List UInt8) : Bool := !(partsL l).isEmpty
def joinedL (a b : List UInt8) : List UInt8 := if a.isEmpty then b else a ++ 47 :: b
def joinErrL (a b : List UInt8) : Int := if !mayL a || !nameL b then 1 else if mayL (joinedL a b) then 0 else 2
def joinL (a b : List UInt8) : List UInt8 := if joinErrL a b = 0 then joinedL a b else []
def underL (s top : List UInt8) : Bool := mayL s && mayL top && (top.isEmpty || s == top || (top ++ [47]).isPrefixOf s)
/-- Lists of names, one by one. -/
def lessP : List (List UInt8) → List (List UInt8) → Bool
  | _, [] => false
  | [], _ :: _ => true
  | a :: x, b :: y => if a == b then lessP x y else Op.bytesLess a b
def lessL (a b : List UInt8) : Bool := lessP (partsL a) (partsL b)

/-! ### Bytes -/
theorem cutL_ne (l : List UInt8) : cutL l ≠ [] := by
  cases l with
  | nil => simp [cutL]
  | cons c r => unfold cutL; split; simp; split <;> simp

/-- The first slash from i on, or the end. -/
def endL (l : List UInt8) (i : Nat) : Nat := i + ((l.drop i).takeWhile (fun c => c != 47)).length
theorem endL_stop (l : List UInt8) (i : Nat) (h : i < l.length) (hc : l[i] = 47) : endL l i = i := by
  unfold endL
  rw [List.drop_eq_getElem_cons h, List.takeWhile_cons]
  simp [hc]
theorem endL_end (l : List UInt8) (i : Nat) (h : i = l.length) : endL l i = i := by
  unfold endL
  rw [List.drop_eq_nil_of_le (by omega)]
  simp
theorem endL_step (l : List UInt8) (i : Nat) (h : i < l.length) (hc : l[i] ≠ 47) : endL l (i + 1) = endL l i := by
  unfold endL
  rw [List.drop_eq_getElem_cons h, List.takeWhile_cons]
  simp [hc]
  omega
theorem endL_ge (l : List UInt8) (i : Nat) : i ≤ endL l i := by unfold endL; omega
theorem endL_le (l : List UInt8) (i : Nat) (h : i ≤ l.length) : endL l i ≤ l.length := by
  unfold endL
  have := List.IsPrefix.length_le (List.takeWhile_prefix (fun c : UInt8 => c != 47) (l := l.drop i))
  simp at this ⊢
  omega

/-! ### Pieces -/
theorem cutL_none (l : List UInt8) (h : ∀ c ∈ l, c ≠ 47) : cutL l = [l] := by
  induction l with
  | nil => rfl
  | cons c r ih =>
    have hc : (c == 47) = false := by simpa using h c (by simp)
    have := ih fun d hd => h d (by simp [hd])
    rw [cutL, hc, this]
    rfl
theorem cutL_slash (a b : List UInt8) (h : ∀ c ∈ a, c ≠ 47) : cutL (a ++ 47 :: b) = a :: cutL b := by
  induction a with
  | nil => rfl
  | cons c r ih =>
    have hc : (c == 47) = false := by simpa using h c (by simp)
    have := ih fun d hd => h d (by simp [hd])
    rw [List.cons_append, cutL, hc, this]
    rfl
/-- The piece that begins at i. -/
def pieceL (l : List UInt8) (i : Nat) : List UInt8 := (l.drop i).take (endL l i - i)
theorem pieceL_eq (l : List UInt8) (i : Nat) : pieceL l i = (l.drop i).takeWhile (fun c => c != 47) := by
  unfold pieceL endL
  rw [Nat.add_sub_cancel_left]
  exact (List.prefix_iff_eq_take.1 (List.takeWhile_prefix _)).symm
theorem takeWhile_no (l : List UInt8) : ∀ c ∈ l.takeWhile (fun c => c != 47), c ≠ 47 := by
  induction l with
  | nil => simp
  | cons d r ih =>
    intro c hc
    rw [List.takeWhile_cons] at hc
    split at hc
    · rename_i hd
      rcases List.mem_cons.1 hc with rfl | hc
      · simpa using hd
      · exact ih c hc
    · simp at hc
theorem pieceL_no (l : List UInt8) (i : Nat) : ∀ c ∈ pieceL l i, c ≠ 47 := by
  rw [pieceL_eq]
  exact takeWhile_no _
theorem drop_split (l : List UInt8) (i : Nat) :
    l.drop i = pieceL l i ++ l.drop (endL l i) := by
  unfold pieceL
  have h := endL_ge l i
  conv => lhs; rw [← List.take_append_drop (endL l i - i) (l.drop i)]
  rw [List.drop_drop]
  congr 2
  omega
theorem endL_slash (l : List UInt8) (i : Nat) (h : endL l i < l.length) : l[endL l i] = 47 := by
  have e : ∀ (m : List UInt8) (hm : (m.takeWhile (fun c => c != 47)).length < m.length), m[(m.takeWhile (fun c => c != 47)).length] = 47 := by
    intro m
    induction m with
    | nil => simp
    | cons d r ih =>
      intro hm
      by_cases hd : d = 47
      · subst hd; simp
      · have : (d :: r).takeWhile (fun c => c != 47) = d :: r.takeWhile (fun c => c != 47) := by rw [List.takeWhile_cons]; simp [hd]
        simp only [this, List.length_cons, List.getElem_cons_succ] at hm ⊢
        exact ih (by omega)
  have hlen : ((l.drop i).takeWhile (fun c => c != 47)).length < (l.drop i).length := by
    unfold endL at h
    rw [List.length_drop]
    omega
  have := e (l.drop i) hlen
  rw [List.getElem_drop] at this
  exact this
theorem cut_at_end (l : List UInt8) (i : Nat) (h : endL l i = l.length) : cutL (l.drop i) = [pieceL l i] := by
  have hs := drop_split l i
  rw [h, List.drop_length, List.append_nil] at hs
  rw [hs]
  exact cutL_none _ (pieceL_no l i)
theorem cut_at_more (l : List UInt8) (i : Nat) (h : endL l i < l.length) : cutL (l.drop i) = pieceL l i :: cutL (l.drop (endL l i + 1)) := by
  have hs := drop_split l i
  rw [List.drop_eq_getElem_cons h, endL_slash l i h] at hs
  rw [hs]
  exact cutL_slash _ _ (pieceL_no l i)

/-! ### What 'split' has found when it stands at i: the names before -/
def Cutting (l : List UInt8) (i : Nat) (ns : List (List UInt8)) : Prop := i ≤ l.length ∧ cutL l = ns ++ cutL (l.drop i) ∧ ns.all nameL = true ∧ ns.length ≤ 8
theorem Cutting.start (l : List UInt8) : Cutting l 0 [] := ⟨by simp, by simp, rfl, by simp⟩
theorem mayL_long (l : List UInt8) (h : 100 < l.length) : mayL l = false := by
  unfold mayL
  have : l ≠ [] := by intro e; subst e; simp at h
  simp [this]
  omega
theorem Cutting.full {l : List UInt8} {i : Nat} {ns : List (List UInt8)} (h : Cutting l i ns) (h0 : l ≠ []) (hn : ns.length = 8) : mayL l = false := by
  have hl : 8 < (cutL l).length := by
    rw [h.2.1, List.length_append]
    have := List.length_pos_iff.2 (cutL_ne (l.drop i))
    omega
  unfold mayL
  simp [h0]
  omega
theorem cut_head (l : List UInt8) (i : Nat) (hi : i ≤ l.length) : ∃ r, cutL (l.drop i) = pieceL l i :: r := by
  rcases Nat.lt_or_ge (endL l i) l.length with h | h
  · exact ⟨_, cut_at_more l i h⟩
  · exact ⟨_, cut_at_end l i (Nat.le_antisymm (endL_le l i hi) h)⟩
theorem Cutting.bad {l : List UInt8} {i : Nat} {ns : List (List UInt8)} (h : Cutting l i ns) (h0 : l ≠ []) (hn : nameL (pieceL l i) = false) : mayL l = false := by
  obtain ⟨r, hr⟩ := cut_head l i h.1
  have : (cutL l).all nameL = false := by rw [h.2.1, hr]; simp [hn]
  unfold mayL
  simp [h0]
  intro _ _
  simpa using this
theorem Cutting.last {l : List UInt8} {i : Nat} {ns : List (List UInt8)} (h : Cutting l i ns) (h0 : l ≠ []) (h1 : l.length ≤ 100) (hn : ns.length < 8) (hp : nameL (pieceL l i) = true) (he : endL l i = l.length) : mayL l = true ∧ partsL l = ns ++ [pieceL l i] := by
  have hc : cutL l = ns ++ [pieceL l i] := by rw [h.2.1, cut_at_end l i he]
  have hm : mayL l = true := by
    unfold mayL
    rw [hc, List.all_append, h.2.2.1]
    simp [h1, hp]
    omega
  refine ⟨hm, ?_⟩
  unfold partsL
  simp [h0, hm, hc]
theorem Cutting.next {l : List UInt8} {i : Nat} {ns : List (List UInt8)} (h : Cutting l i ns) (hn : ns.length < 8) (hp : nameL (pieceL l i) = true) (he : endL l i < l.length) : Cutting l (endL l i + 1) (ns ++ [pieceL l i]) := by
  refine ⟨he, ?_, ?_, ?_⟩
  · rw [h.2.1, cut_at_more l i he]; simp
  · rw [List.all_append, h.2.2.1]; simp [hp]
  · simp; omega

/-! ### The document's cut: pieces up to 'f', looking at 'k' -/
def CutAt (l : List UInt8) (f k : Nat) (ns : List (List UInt8)) : Prop := f ≤ k ∧ k ≤ l.length ∧ cutL l = ns ++ cutL (l.drop f) ∧ endL l k = endL l f
theorem CutAt.start (l : List UInt8) : CutAt l 0 0 [] := ⟨by omega, by omega, by simp, rfl⟩
theorem CutAt.skip {l : List UInt8} {f k : Nat} {ns : List (List UInt8)} (h : CutAt l f k ns) (hk : k < l.length) (hc : l[k] ≠ 47) : CutAt l f (k + 1) ns :=
  ⟨by have := h.1; omega, hk, h.2.2.1, by rw [endL_step l k hk hc]; exact h.2.2.2⟩
theorem CutAt.piece {l : List UInt8} {f k : Nat} {ns : List (List UInt8)} (h : CutAt l f k ns) (he : endL l k = k) : pieceL l f = (l.drop f).take (k - f) := by
  unfold pieceL
  rw [← h.2.2.2, he]
theorem CutAt.next {l : List UInt8} {f k : Nat} {ns : List (List UInt8)} (h : CutAt l f k ns) (hk : k < l.length) (hc : l[k] = 47) : CutAt l (k + 1) (k + 1) (ns ++ [(l.drop f).take (k - f)]) := by
  have he := endL_stop l k hk hc
  have hf : endL l f = k := by rw [← h.2.2.2]; exact he
  refine ⟨by omega, hk, ?_, rfl⟩
  rw [h.2.2.1, cut_at_more l f (by omega), ← h.piece he, hf]
  simp
theorem CutAt.last {l : List UInt8} {f k : Nat} {ns : List (List UInt8)} (h : CutAt l f k ns) (hk : k = l.length) : cutL l = ns ++ [(l.drop f).take (k - f)] := by
  have he := endL_end l k hk
  rw [← h.piece he, h.2.2.1, cut_at_end l f (by rw [← h.2.2.2, he, hk])]

end Go.Proofs.Ytafekepgnockjaa.Pth
