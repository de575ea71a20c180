/-
  append to an own row reads the tape forward. Plain facts on names and paths as lists of bytes: the words that the contracts of package path are stated in. No program is named here. Plain facts: names joined by slashes; Under and Less as facts on the lists of names; both orders. Words on memory and texts: what a call leaves below, a slice that reads as a list of texts, paths as byte arrays.
-/
import Derived.Test.YtgbenepapajieaaGreatCmp
import Derived.Test.YtgbenepapajieaaGreatRow
import GoSem.Op.String
import Derived.WalkKit
import Derived.WalkSpells
import Derived.WalkLawsBesides
import Derived.WalkSmall
import Derived.ScopeJumps
import Derived.WalkMore
import Derived.Lib.Hide
namespace Go.Proofs.YtgbenepapajieaaGreat
open Go.RowKit

theorem append_drawn {P : Program} (w : World) (base : Nat) (t ty e : TypeId) (i : TypeInfo) (z : Value) (size bytes : Nat) (ht : P.underlying t = some (.slice e)) (hi : P.info? e = some i) (hz : i.zero = some z)
    (hsize : i.size = size) (hby : i.bytes = bytes) (v : Value) (n : Nat) (xs : List Value) (hown : w.ownsRow base e size v n xs)
    (a : Addr) (m c : Nat) (news : List Value) (hl : news.length = m * size) (hnews : ∀ j u, news[j]? = some u → w.cell? (a.add j) = some u) (h1 : ∀ u ∈ news, u.oneCell' = true)
    (h63 : n + m ≤ maxLen) (hbytes : (n + m) * bytes ≤ 140737488355328) (v' : Value) (w' : World) (h : (Builtin.append_ #[t, t] ty #[v, .slice (some a) m c]).run P w = .ok v' w') : w.drawn ≤ w'.drawn := by
  subst hsize
  subst hby
  have hsmall : n + m ≤ 9223372036854775807 := by simp only [maxLen] at h63; omega
  rcases hown.2 with ⟨rfl, rfl⟩ | ⟨g, cap, cur, rfl, hbg, hg, hnc, hcm, hcs, htake⟩
  · by_cases hm : m = 0
    · subst hm
      have hn : news = [] := List.eq_nil_of_length_eq_zero (by simpa using hl)
      subst hn
      have hr : (Builtin.append_ #[t, t] ty #[.slice none 0 0, .slice (some a) 0 c]).run P w = .ok (.slice none 0 0) w := by
        simp [Builtin.append_, run_underlying ht, sizeOf, typeInfo, hi, Builtin.lenOf, Builtin.firstCells, loadCells, loadCellsFrom]
      rw [hr] at h
      cases h
      exact Nat.le_refl _
    · have hr := run_append_nil (P := P) w t ty e i z ht hi hz a m c news hl hnews (by omega) (by omega) (by have hb := hbytes; simp only [Nat.zero_add] at hb; omega)
      rw [hr] at h
      cases h
      exact Nat.le_succ _
  · by_cases hroom : n + m ≤ cap
    · have hfit : n * i.size + news.length ≤ cur.size := by rw [hl, hcs, ← Nat.add_mul]; exact Nat.mul_le_mul_right _ hroom
      have hr := run_append_room (P := P) w t ty e i ht hi g n cap cur hg a m c news hl hnews h1 hroom hfit
      rw [hr] at h
      cases h
      exact Nat.le_refl _
    · have holds : ∀ j u, xs[j]? = some u → w.cell? ((⟨g, 0, none⟩ : Addr).add j) = some u := hown.cells (g := g) rfl
      have hr := run_append_grow (P := P) w t ty e i z ht hi hz ⟨g, 0, none⟩ n cap xs hown.1 holds a m c news hl hnews (by omega) (by omega) (growslice_fits (by omega) hbytes)
      rw [hr] at h
      cases h
      exact Nat.le_succ _
theorem wpList_append_own_d {P : Program} (w : World) {ops : Array Oper} {rest : List Oper} {o : Oper} {a : Act} {Q : Exit → Act → World → Prop} (hgd : o.guard = none) (s x : Operand) (t : TypeId)
    (ho : o.op = .call { callee := .builtin .append, args := #[s, x], argTypes := #[t, t] })
    (base : Nat) (e : TypeId) (i : TypeInfo) (z : Value) (size bytes : Nat) (ht : P.underlying t = some (.slice e)) (hi : P.info? e = some i) (hz : i.zero = some z)
    (hsize : i.size = size) (hby : i.bytes = bytes) (hzs : z.cells.size = size) (hsz : 0 < size)
    (v : Value) (n : Nat) (xs : List Value) (hs : a.eval s = v) (hown : w.ownsRow base e size v n xs)
    (ad : Addr) (m c : Nat) (news : List Value) (hx : a.eval x = .slice (some ad) m c) (hl : news.length = m * size) (hnews : ∀ j u, news[j]? = some u → w.cell? (ad.add j) = some u) (h1 : ∀ u ∈ news, u.oneCell' = true)
    (h63 : n + m ≤ maxLen) (hbytes : (n + m) * bytes ≤ 140737488355328) (hbase : base ≤ w.heap.size)
    (h : ∀ v' w', w'.ownsRow base e size v' (n + m) (xs ++ news) → w.grownBy w' v.ownBlock → w.drawn ≤ w'.drawn → wpList P ops Q rest (a.put o.dst v') w') : wpList P ops Q (o :: rest) a w := by
  refine wpList_plain hgd fun _ hK => ?_
  obtain ⟨v', w', hr, h2, h3, h4⟩ := run_append_own (P := P) w base t o.type e i z size bytes ht hi hz hsize hby hzs hsz v n xs hown ad m c news hl hnews h1 h63 hbytes hbase
  have hd := append_drawn w base t o.type e i z size bytes ht hi hz hsize hby v n xs hown ad m c news hl hnews h1 h63 hbytes v' w' hr
  unfold Oper.wp execOp
  simp only [ho, resolve, invoke, builtin, Sem.run_bind, Sem.run_pure, Result.andThen_ok, List.map_toArray, List.map_cons, List.map_nil, hs, hx, hr]
  exact hK _ _ (h v' w' h2 h3 hd)
end Go.Proofs.YtgbenepapajieaaGreat
namespace Go.Proofs.YtgbenepapajieaaGreat.Pa.Pth

/-- May a byte stand in a name? -/
def okByte (c : UInt8) : Bool := c != 47 && c != 0
/-- A valid name. -/
def nameL (l : List UInt8) : Bool := decide (1 ≤ l.length) && decide (l.length ≤ 20) && !(l == [46]) && !(l == [46, 46]) && l.all okByte
/-- The pieces between slashes. -/
def cutL : List UInt8 → List (List UInt8)
  | [] => [[]]
  | c :: r => if c == 47 then [] :: cutL r else match cutL r with
    | h :: t => (c :: h) :: t
    | [] => [[c]]
/-- A valid path. -/
def mayL (l : List UInt8) : Bool := l.isEmpty || (decide (l.length ≤ 100) && decide ((cutL l).length ≤ 8) && (cutL l).all nameL)
/-- The names of a path. -/
def partsL (l : List UInt8) : List (List UInt8) := if l.isEmpty || !mayL l then [] else cutL l
def depthL (l : List UInt8) : Int := if mayL l then ((partsL l).length : Int) else -1
def lastL (l : List UInt8) : List UInt8 := (partsL l).getLast?.getD []
def parentL (l : List UInt8) : List UInt8 := if (partsL l).isEmpty then [] else l.take (l.length - (lastL l).length - 1)
def hasParentL (l : List UInt8) : Bool := !(partsL l).isEmpty
def joinedL (a b : List UInt8) : List UInt8 := if a.isEmpty then b else a ++ 47 :: b
def joinErrL (a b : List UInt8) : Int := if !mayL a || !nameL b then 1 else if mayL (joinedL a b) then 0 else 2
def joinL (a b : List UInt8) : List UInt8 := if joinErrL a b = 0 then joinedL a b else []
def underL (s top : List UInt8) : Bool := mayL s && mayL top && (top.isEmpty || s == top || (top ++ [47]).isPrefixOf s)
/-- Lists of names, one by one. -/
def lessP : List (List UInt8) → List (List UInt8) → Bool
  | _, [] => false
  | [], _ :: _ => true
  | a :: x, b :: y => if a == b then lessP x y else Op.bytesLess a b
def lessL (a b : List UInt8) : Bool := lessP (partsL a) (partsL b)

/-! ### Bytes -/
theorem cutL_ne (l : List UInt8) : cutL l ≠ [] := by
  cases l with
  | nil => simp [cutL]
  | cons c r => unfold cutL; split; simp; split <;> simp

/-- The first slash from i on, or the end. -/
def endL (l : List UInt8) (i : Nat) : Nat := i + ((l.drop i).takeWhile (fun c => c != 47)).length
theorem endL_stop (l : List UInt8) (i : Nat) (h : i < l.length) (hc : l[i] = 47) : endL l i = i := by
  unfold endL
  rw [List.drop_eq_getElem_cons h, List.takeWhile_cons]
  simp [hc]
theorem endL_end (l : List UInt8) (i : Nat) (h : i = l.length) : endL l i = i := by
  unfold endL
  rw [List.drop_eq_nil_of_le (by omega)]
  simp
theorem endL_step (l : List UInt8) (i : Nat) (h : i < l.length) (hc : l[i] ≠ 47) : endL l (i + 1) = endL l i := by
  unfold endL
  rw [List.drop_eq_getElem_cons h, List.takeWhile_cons]
  simp [hc]
  omega
theorem endL_ge (l : List UInt8) (i : Nat) : i ≤ endL l i := by unfold endL; omega
theorem endL_le (l : List UInt8) (i : Nat) (h : i ≤ l.length) : endL l i ≤ l.length := by
  unfold endL
  have := List.IsPrefix.length_le (List.takeWhile_prefix (fun c : UInt8 => c != 47) (l := l.drop i))
  simp at this ⊢
  omega

/-! ### Pieces -/
theorem cutL_none (l : List UInt8) (h : ∀ c ∈ l, c ≠ 47) : cutL l = [l] := by
  induction l with
  | nil => rfl
  | cons c r ih =>
    have hc : (c == 47) = false := by simpa using h c (by simp)
    have := ih fun d hd => h d (by simp [hd])
    rw [cutL, hc, this]
    rfl
theorem cutL_slash (a b : List UInt8) (h : ∀ c ∈ a, c ≠ 47) : cutL (a ++ 47 :: b) = a :: cutL b := by
  induction a with
  | nil => rfl
  | cons c r ih =>
    have hc : (c == 47) = false := by simpa using h c (by simp)
    have := ih fun d hd => h d (by simp [hd])
    rw [List.cons_append, cutL, hc, this]
    rfl
/-- The piece that begins at i. -/
def pieceL (l : List UInt8) (i : Nat) : List UInt8 := (l.drop i).take (endL l i - i)
theorem pieceL_eq (l : List UInt8) (i : Nat) : pieceL l i = (l.drop i).takeWhile (fun c => c != 47) := by
  unfold pieceL endL
  rw [Nat.add_sub_cancel_left]
  exact (List.prefix_iff_eq_take.1 (List.takeWhile_prefix _)).symm
theorem takeWhile_no (l : List UInt8) : ∀ c ∈ l.takeWhile (fun c => c != 47), c ≠ 47 := by
  induction l with
  | nil => simp
  | cons d r ih =>
    intro c hc
    rw [List.takeWhile_cons] at hc
    split at hc
    · rename_i hd
      rcases List.mem_cons.1 hc with rfl | hc
      · simpa using hd
      · exact ih c hc
    · simp at hc
theorem pieceL_no (l : List UInt8) (i : Nat) : ∀ c ∈ pieceL l i, c ≠ 47 := by
  rw [pieceL_eq]
  exact takeWhile_no _
theorem drop_split (l : List UInt8) (i : Nat) :
    l.drop i = pieceL l i ++ l.drop (endL l i) := by
  unfold pieceL
  have h := endL_ge l i
  conv => lhs; rw [← List.take_append_drop (endL l i - i) (l.drop i)]
  rw [List.drop_drop]
  congr 2
  omega
theorem endL_slash (l : List UInt8) (i : Nat) (h : endL l i < l.length) : l[endL l i] = 47 := by
  have e : ∀ (m : List UInt8) (hm : (m.takeWhile (fun c => c != 47)).length < m.length), m[(m.takeWhile (fun c => c != 47)).length] = 47 := by
    intro m
    induction m with
    | nil => simp
    | cons d r ih =>
      intro hm
      by_cases hd : d = 47
      · subst hd; simp
      · have : (d :: r).takeWhile (fun c => c != 47) = d :: r.takeWhile (fun c => c != 47) := by rw [List.takeWhile_cons]; simp [hd]
        simp only [this, List.length_cons, List.getElem_cons_succ] at hm ⊢
        exact ih (by omega)
  have hlen : ((l.drop i).takeWhile (fun c => c != 47)).length < (l.drop i).length := by
    unfold endL at h
    rw [List.length_drop]
    omega
  have := e (l.drop i) hlen
  rw [List.getElem_drop] at this
  exact this
theorem cut_at_end (l : List UInt8) (i : Nat) (h : endL l i = l.length) : cutL (l.drop i) = [pieceL l i] := by
  have hs := drop_split l i
  rw [h, List.drop_length, List.append_nil] at hs
  rw [hs]
  exact cutL_none _ (pieceL_no l i)
theorem cut_at_more (l : List UInt8) (i : Nat) (h : endL l i < l.length) : cutL (l.drop i) = pieceL l i :: cutL (l.drop (endL l i + 1)) := by
  have hs := drop_split l i
  rw [List.drop_eq_getElem_cons h, endL_slash l i h] at hs
  rw [hs]
  exact cutL_slash _ _ (pieceL_no l i)

/-! ### What 'split' has found when it stands at i: the names before -/
def Cutting (l : List UInt8) (i : Nat) (ns : List (List UInt8)) : Prop := i ≤ l.length ∧ cutL l = ns ++ cutL (l.drop i) ∧ ns.all nameL = true ∧ ns.length ≤ 8
theorem Cutting.start (l : List UInt8) : Cutting l 0 [] := ⟨by simp, by simp, rfl, by simp⟩
theorem mayL_long (l : List UInt8) (h : 100 < l.length) : mayL l = false := by
  unfold mayL
  have : l ≠ [] := by intro e; subst e; simp at h
  simp [this]
  omega
theorem Cutting.full {l : List UInt8} {i : Nat} {ns : List (List UInt8)} (h : Cutting l i ns) (h0 : l ≠ []) (hn : ns.length = 8) : mayL l = false := by
  have hl : 8 < (cutL l).length := by
    rw [h.2.1, List.length_append]
    have := List.length_pos_iff.2 (cutL_ne (l.drop i))
    omega
  unfold mayL
  simp [h0]
  omega
theorem cut_head (l : List UInt8) (i : Nat) (hi : i ≤ l.length) : ∃ r, cutL (l.drop i) = pieceL l i :: r := by
  rcases Nat.lt_or_ge (endL l i) l.length with h | h
  · exact ⟨_, cut_at_more l i h⟩
  · exact ⟨_, cut_at_end l i (Nat.le_antisymm (endL_le l i hi) h)⟩
theorem Cutting.bad {l : List UInt8} {i : Nat} {ns : List (List UInt8)} (h : Cutting l i ns) (h0 : l ≠ []) (hn : nameL (pieceL l i) = false) : mayL l = false := by
  obtain ⟨r, hr⟩ := cut_head l i h.1
  have : (cutL l).all nameL = false := by rw [h.2.1, hr]; simp [hn]
  unfold mayL
  simp [h0]
  intro _ _
  simpa using this
theorem Cutting.last {l : List UInt8} {i : Nat} {ns : List (List UInt8)} (h : Cutting l i ns) (h0 : l ≠ []) (h1 : l.length ≤ 100) (hn : ns.length < 8) (hp : nameL (pieceL l i) = true) (he : endL l i = l.length) : mayL l = true ∧ partsL l = ns ++ [pieceL l i] := by
  have hc : cutL l = ns ++ [pieceL l i] := by rw [h.2.1, cut_at_end l i he]
  have hm : mayL l = true := by
    unfold mayL
    rw [hc, List.all_append, h.2.2.1]
    simp [h1, hp]
    omega
  refine ⟨hm, ?_⟩
  unfold partsL
  simp [h0, hm, hc]
theorem Cutting.next {l : List UInt8} {i : Nat} {ns : List (List UInt8)} (h : Cutting l i ns) (hn : ns.length < 8) (hp : nameL (pieceL l i) = true) (he : endL l i < l.length) : Cutting l (endL l i + 1) (ns ++ [pieceL l i]) := by
  refine ⟨he, ?_, ?_, ?_⟩
  · rw [h.2.1, cut_at_more l i he]; simp
  · rw [List.all_append, h.2.2.1]; simp [hp]
  · simp; omega

/-! ### The document's cut: pieces up to 'f', looking at 'k' -/
def CutAt (l : List UInt8) (f k : Nat) (ns : List (List UInt8)) : Prop := f ≤ k ∧ k ≤ l.length ∧ cutL l = ns ++ cutL (l.drop f) ∧ endL l k = endL l f
theorem CutAt.start (l : List UInt8) : CutAt l 0 0 [] := ⟨by omega, by omega, by simp, rfl⟩
theorem CutAt.skip {l : List UInt8} {f k : Nat} {ns : List (List UInt8)} (h : CutAt l f k ns) (hk : k < l.length) (hc : l[k] ≠ 47) : CutAt l f (k + 1) ns :=
  ⟨by have := h.1; omega, hk, h.2.2.1, by rw [endL_step l k hk hc]; exact h.2.2.2⟩
theorem CutAt.piece {l : List UInt8} {f k : Nat} {ns : List (List UInt8)} (h : CutAt l f k ns) (he : endL l k = k) : pieceL l f = (l.drop f).take (k - f) := by
  unfold pieceL
  rw [← h.2.2.2, he]
theorem CutAt.next {l : List UInt8} {f k : Nat} {ns : List (List UInt8)} (h : CutAt l f k ns) (hk : k < l.length) (hc : l[k] = 47) : CutAt l (k + 1) (k + 1) (ns ++ [(l.drop f).take (k - f)]) := by
  have he := endL_stop l k hk hc
  have hf : endL l f = k := by rw [← h.2.2.2]; exact he
  refine ⟨by omega, hk, ?_, rfl⟩
  rw [h.2.2.1, cut_at_more l f (by omega), ← h.piece he, hf]
  simp
theorem CutAt.last {l : List UInt8} {f k : Nat} {ns : List (List UInt8)} (h : CutAt l f k ns) (hk : k = l.length) : cutL l = ns ++ [(l.drop f).take (k - f)] := by
  have he := endL_end l k hk
  rw [← h.piece he, h.2.2.1, cut_at_end l f (by rw [← h.2.2.2, he, hk])]

end Go.Proofs.YtgbenepapajieaaGreat.Pa.Pth
namespace Go.Proofs.YtgbenepapajieaaGreat.Pa.Pth

/-- Names with a slash between each two. -/
def joinN : List (List UInt8) → List UInt8
  | [] => []
  | [a] => a
  | a :: b :: r => a ++ 47 :: joinN (b :: r)
theorem joinN_cons (a : List UInt8) (r : List (List UInt8)) (h : r ≠ []) : joinN (a :: r) = a ++ 47 :: joinN r := by
  cases r with
  | nil => exact absurd rfl h
  | cons => rfl
theorem joinN_append (x y : List (List UInt8)) (hx : x ≠ []) (hy : y ≠ []) : joinN (x ++ y) = joinN x ++ 47 :: joinN y := by
  induction x with
  | nil => exact absurd rfl hx
  | cons a r ih =>
    cases r with
    | nil => exact joinN_cons a y hy
    | cons b t =>
      have := ih (by simp)
      rw [List.cons_append, joinN_cons a _ (by simp), this, joinN_cons a (b :: t) (by simp)]
      simp
theorem joinN_cut (l : List UInt8) : joinN (cutL l) = l := by
  induction l with
  | nil => rfl
  | cons c r ih =>
    unfold cutL
    split
    · rename_i hc
      rw [joinN_cons _ _ (cutL_ne r), ih]
      have : c = 47 := by simpa using hc
      subst this
      rfl
    · cases hr : cutL r with
      | nil => exact absurd hr (cutL_ne r)
      | cons h t =>
        rw [hr] at ih
        show joinN ((c :: h) :: t) = c :: r
        cases t with
        | nil => rw [← ih]; rfl
        | cons u v => rw [← ih]; rfl
theorem cut_joinN (x : List (List UInt8)) (h : ∀ a ∈ x, ∀ c ∈ a, c ≠ 47) (hx : x ≠ []) : cutL (joinN x) = x := by
  induction x with
  | nil => exact absurd rfl hx
  | cons a r ih =>
    cases r with
    | nil => exact cutL_none a (h a (by simp))
    | cons b t =>
      rw [joinN_cons a _ (by simp), cutL_slash _ _ (h a (by simp)), ih (fun d hd => h d (by simp at hd ⊢; exact .inr hd)) (by simp)]
theorem cut_append (t u : List UInt8) : cutL (t ++ 47 :: u) = cutL t ++ cutL u := by
  induction t with
  | nil => rfl
  | cons c r ih =>
    rw [List.cons_append, cutL, cutL, ih]
    split
    · rfl
    · cases hr : cutL r with
      | nil => exact absurd hr (cutL_ne r)
      | cons => rfl
theorem name_no {a : List UInt8} (h : nameL a = true) : ∀ c ∈ a, c ≠ 47 := by
  unfold nameL at h
  simp only [Bool.and_eq_true] at h
  intro c hc e
  have := List.all_eq_true.1 h.2 c hc
  subst e
  simp [okByte] at this
theorem name_pos {a : List UInt8} (h : nameL a = true) : 1 ≤ a.length ∧ a.length ≤ 20 := by
  unfold nameL at h
  simp only [Bool.and_eq_true, decide_eq_true_eq] at h
  exact ⟨h.1.1.1.1, h.1.1.1.2⟩
theorem joinN_nil_iff (x : List (List UInt8)) (h : x.all nameL = true) : (joinN x).isEmpty = x.isEmpty := by
  cases x with
  | nil => rfl
  | cons a r =>
    have ha := name_pos (List.all_eq_true.1 h a (by simp))
    cases r with
    | nil =>
      show a.isEmpty = _
      cases a with
      | nil => simp at ha
      | cons => rfl
    | cons b t => rw [joinN_cons a _ (by simp)]; simp
/-- Valid names joined: when the path may be, and what its names are. -/
theorem may_joinN (x : List (List UInt8)) (h : x.all nameL = true) : mayL (joinN x) = (decide ((joinN x).length ≤ 100) && decide (x.length ≤ 8)) := by
  unfold mayL
  rw [joinN_nil_iff x h]
  cases hx : x with
  | nil => rfl
  | cons a r =>
    rw [← hx, cut_joinN x (fun a ha => name_no (List.all_eq_true.1 h a ha)) (by simp [hx]), h]
    simp [hx]
theorem parts_joinN (x : List (List UInt8)) (h : x.all nameL = true) (hm : mayL (joinN x) = true) : partsL (joinN x) = x := by
  unfold partsL
  rw [joinN_nil_iff x h, hm]
  cases hx : x with
  | nil => rfl
  | cons a r =>
    rw [← hx, cut_joinN x (fun a ha => name_no (List.all_eq_true.1 h a ha)) (by simp [hx])]
    simp [hx]
theorem may_parts {l : List UInt8} (h : mayL l = true) : joinN (partsL l) = l := by
  unfold partsL
  rw [h]
  cases l with
  | nil => rfl
  | cons c r => exact joinN_cut (c :: r)
theorem may_all {l : List UInt8} (h : mayL l = true) : (partsL l).all nameL = true ∧ (partsL l).length ≤ 8 ∧ l.length ≤ 100 := by
  unfold partsL
  rw [h]
  cases l with
  | nil => simp
  | cons c r =>
    unfold mayL at h
    simp only [List.isEmpty_cons, Bool.false_or, Bool.and_eq_true, decide_eq_true_eq] at h
    exact ⟨h.2, h.1.2, h.1.1⟩

/-- Under, said of the lists of names. -/
theorem under_parts (s t : List UInt8) : underL s t = (mayL s && mayL t && (partsL t).isPrefixOf (partsL s)) := by
  unfold underL
  cases hs : mayL s
  · simp
  cases ht : mayL t
  · simp
  rw [Bool.true_and, Bool.true_and]
  cases t with
  | nil => simp [partsL]
  | cons c r =>
    have et : partsL (c :: r) = cutL (c :: r) := by unfold partsL; rw [ht]; rfl
    rw [et, List.isEmpty_cons, Bool.false_or]
    generalize c :: r = t at *
    cases s with
    | nil =>
      have e1 : partsL [] = [] := rfl
      rw [e1]
      have : (t ++ [47]).isPrefixOf [] = false := by cases t <;> rfl
      rw [this, Bool.or_false]
      cases hc : cutL t with
      | nil => exact absurd hc (cutL_ne t)
      | cons a b =>
        have hne : t ≠ [] := by
          intro e
          subst e
          exact cutL_ne _ et.symm
        cases t with
        | nil => exact absurd rfl hne
        | cons => rfl
    | cons d q =>
      have es : partsL (d :: q) = cutL (d :: q) := by unfold partsL; rw [hs]; rfl
      rw [es]
      generalize d :: q = s at *
      rw [Bool.true_and, Bool.eq_iff_iff, Bool.or_eq_true, beq_iff_eq, List.isPrefixOf_iff_prefix, List.isPrefixOf_iff_prefix]
      constructor
      · rintro (rfl | ⟨u, rfl⟩)
        · exact List.prefix_refl _
        · rw [List.append_assoc, List.singleton_append, cut_append]
          exact List.prefix_append _ _
      · rintro ⟨u, hu⟩
        by_cases hn : u = []
        · subst hn
          rw [List.append_nil] at hu
          left
          rw [← joinN_cut s, ← hu, joinN_cut]
        · right
          refine ⟨joinN u, ?_⟩
          rw [← joinN_cut s, ← hu, joinN_append _ _ (cutL_ne t) hn, joinN_cut]
          simp

/-! ### The order of bytes -/
theorem bl_cons (c d : UInt8) (r q : List UInt8) : Op.bytesLess (c :: r) (d :: q) = true ↔ c.toNat < d.toNat ∨ (c.toNat = d.toNat ∧ Op.bytesLess r q = true) := by
  simp only [Op.bytesLess, Bool.or_eq_true, Bool.and_eq_true, decide_eq_true_eq, beq_iff_eq, UInt8.lt_iff_toNat_lt, UInt8.toNat_inj]
theorem bl_irrefl (a : List UInt8) : ¬ Op.bytesLess a a = true := by
  induction a with
  | nil => simp [Op.bytesLess]
  | cons c r ih =>
    rw [bl_cons]
    rintro (h | ⟨_, h⟩)
    · omega
    · exact ih h
theorem bl_total (a b : List UInt8) : Op.bytesLess a b = true ∨ a = b ∨ Op.bytesLess b a = true := by
  induction a generalizing b with
  | nil => cases b <;> simp [Op.bytesLess]
  | cons c r ih =>
    cases b with
    | nil => simp [Op.bytesLess]
    | cons d q =>
      rw [bl_cons, bl_cons]
      rcases Nat.lt_trichotomy c.toNat d.toNat with h | h | h
      · exact .inl (.inl h)
      · rcases ih q with k | k | k
        · exact .inl (.inr ⟨h, k⟩)
        · right; left; rw [UInt8.toNat_inj.1 h, k]
        · exact .inr (.inr (.inr ⟨h.symm, k⟩))
      · exact .inr (.inr (.inl h))
theorem bl_trans (a b c : List UInt8) (h : Op.bytesLess a b = true) (k : Op.bytesLess b c = true) : Op.bytesLess a c = true := by
  induction a generalizing b c with
  | nil =>
    cases c with
    | nil => cases b <;> simp [Op.bytesLess] at k
    | cons => rfl
  | cons x r ih =>
    cases b with
    | nil => simp [Op.bytesLess] at h
    | cons y q =>
      cases c with
      | nil => simp [Op.bytesLess] at k
      | cons z s =>
        rw [bl_cons] at h k ⊢
        rcases h with h | ⟨h, h'⟩ <;> rcases k with k | ⟨k, k'⟩
        · left; omega
        · left; omega
        · left; omega
        · exact .inr ⟨by omega, ih q s h' k'⟩
theorem bl_asymm (a b : List UInt8) (h : Op.bytesLess a b = true) : ¬ Op.bytesLess b a = true := fun k => bl_irrefl a (bl_trans a b a h k)

/-! ### The order of paths -/
theorem lp_cons (a b : List UInt8) (x y : List (List UInt8)) : lessP (a :: x) (b :: y) = true ↔ (a = b ∧ lessP x y = true) ∨ Op.bytesLess a b = true := by
  have e : lessP (a :: x) (b :: y) = if a == b then lessP x y else Op.bytesLess a b := by rw [lessP]
  rw [e]
  by_cases h : a = b
  · subst h
    simp [bl_irrefl]
  · simp [h]
theorem lp_irrefl (x : List (List UInt8)) : ¬ lessP x x = true := by
  induction x with
  | nil => simp [lessP]
  | cons a r ih =>
    rw [lp_cons]
    rintro (⟨_, h⟩ | h)
    · exact ih h
    · exact bl_irrefl a h
theorem lp_total (x y : List (List UInt8)) : lessP x y = true ∨ x = y ∨ lessP y x = true := by
  induction x generalizing y with
  | nil => cases y <;> simp [lessP]
  | cons a r ih =>
    cases y with
    | nil => simp [lessP]
    | cons b q =>
      rw [lp_cons, lp_cons]
      rcases bl_total a b with h | h | h
      · exact .inl (.inr h)
      · subst h
        rcases ih q with k | k | k
        · exact .inl (.inl ⟨rfl, k⟩)
        · exact .inr (.inl (by rw [k]))
        · exact .inr (.inr (.inl ⟨rfl, k⟩))
      · exact .inr (.inr (.inr h))
theorem lp_trans (x y z : List (List UInt8)) (h : lessP x y = true) (k : lessP y z = true) : lessP x z = true := by
  induction x generalizing y z with
  | nil =>
    cases z with
    | nil => cases y <;> simp [lessP] at k
    | cons => rfl
  | cons a r ih =>
    cases y with
    | nil => simp [lessP] at h
    | cons b q =>
      cases z with
      | nil => simp [lessP] at k
      | cons c s =>
        rw [lp_cons] at h k ⊢
        rcases h with ⟨rfl, h⟩ | h <;> rcases k with ⟨rfl, k⟩ | k
        · exact .inl ⟨rfl, ih q s h k⟩
        · exact .inr k
        · exact .inr h
        · exact .inr (bl_trans _ _ _ h k)
theorem lp_asymm (x y : List (List UInt8)) (h : lessP x y = true) : ¬ lessP y x = true := fun k => lp_irrefl x (lp_trans x y x h k)
/-- What lies between a directory and a path under it lies under the directory. -/
theorem lp_between (x y z : List (List UInt8)) (h : x <+: y) (h1 : lessP x z = true) (h2 : lessP z y = true) : x <+: z := by
  induction x generalizing y z with
  | nil => exact List.nil_prefix
  | cons a r ih =>
    obtain ⟨u, rfl⟩ := h
    cases z with
    | nil => simp [lessP] at h1
    | cons c s =>
      rw [List.cons_append] at h2
      rw [lp_cons] at h1 h2
      rcases h1 with ⟨rfl, h1⟩ | h1
      · rcases h2 with ⟨_, h2⟩ | h2
        · exact List.cons_prefix_cons.2 ⟨rfl, ih (r ++ u) s (List.prefix_append _ _) h1 h2⟩
        · exact absurd h2 (bl_irrefl a)
      · rcases h2 with ⟨rfl, _⟩ | h2
        · exact absurd h1 (bl_irrefl c)
        · exact absurd h2 (bl_asymm _ _ h1)
theorem lp_prefix (x u : List (List UInt8)) (h : u ≠ []) : lessP x (x ++ u) = true := by
  induction x with
  | nil => cases u with
    | nil => exact absurd rfl h
    | cons => rfl
  | cons a r ih => rw [List.cons_append, lp_cons]; exact .inl ⟨rfl, ih⟩
end Go.Proofs.YtgbenepapajieaaGreat.Pa.Pth
namespace Go.Proofs.YtgbenepapajieaaGreat.Pa
open Go.RowKit
open Pth

/-- What a call that makes memory leaves: all that was there is as it was, and the tape is read forward. -/
def Q (w w' : World) : Prop := Go.Proofs.YtgbenepapajieaaGreat.Q w w' ∧ w.drawn ≤ w'.drawn
theorem Q.refl (w : World) : Q w w := ⟨Go.Proofs.YtgbenepapajieaaGreat.Q.refl w, Nat.le_refl _⟩
theorem Q.trans {a b c : World} (h : Q a b) (k : Q b c) : Q a c := ⟨h.1.trans k.1, Nat.le_trans h.2 k.2⟩
theorem Q.drew {a w : World} (h : Q a w) : Q a w.drew := ⟨h.1.drew, Nat.le_succ_of_le h.2⟩
theorem Q.drewN {a w : World} (h : Q a w) (n : Nat) : Q a (w.drewN n) := ⟨h.1.drewN n, Nat.le_trans h.2 (Nat.le_add_right _ _)⟩
theorem Q.alloc {a w : World} (h : Q a w) (o : Obj) : Q a (w.alloc o) := ⟨h.1.alloc o, h.2⟩
theorem Q.size {a w : World} (h : Q a w) : a.heap.size ≤ w.heap.size := Below.size h.1
theorem Q.cell {w w' : World} (h : Q w w') {b o : Nat} {v : Value} (hc : w.cell? ⟨b, o, none⟩ = some v) : w'.cell? ⟨b, o, none⟩ = some v := h.1.cell hc
theorem Q.grown {w0 w w' : World} {v : Value} (h : Q w0 w) (hg : w.grownBy w' v.ownBlock) (hd : w.drawn ≤ w'.drawn) (hl : ∀ g, v.ownBlock = some g → w0.heap.size ≤ g) : Q w0 w' := ⟨Below.grown h.1 hg (Below.size h.1) hl, Nat.le_trans h.2 hd⟩
/-- Such a world is the old one, grown. -/
theorem Q.grew {w w' : World} (h : Q w w') : Grew w w' := by
  obtain ⟨⟨h1, h2, h3, h4, h5⟩, h6⟩ := h
  refine ⟨w'.drawn - w.drawn, w'.heap.extract w.heap.size w'.heap.size, ?_⟩
  obtain ⟨hp, tp, dr, os, ou⟩ := w'
  obtain ⟨hp0, tp0, dr0, os0, ou0⟩ := w
  simp only at *
  subst h1 h2 h3
  have e1 : dr0 + (dr - dr0) = dr := by omega
  have e2 : hp0 ++ hp.extract hp0.size hp.size = hp := by
    apply Array.ext
    · simp; omega
    · intro i hi1 hi2
      rw [Array.getElem_append]
      split
      · rename_i hlt
        have := h5 i hlt
        rw [Array.getElem?_eq_getElem hi2, Array.getElem?_eq_getElem hlt] at this
        exact (Option.some.inj this).symm
      · rw [Array.getElem_extract]
        congr 1
        omega
  show _ = ({ heap := hp0 ++ hp.extract hp0.size hp.size, tape := _, drawn := dr0 + (dr - dr0), os := _, output := _ } : World)
  rw [e1, e2]
  rfl
theorem _root_.Go.Proofs.YtgbenepapajieaaGreat.Grew.pa {w w' : World} (h : Grew w w') : Q w w' := ⟨h.q, by obtain ⟨q, os, rfl⟩ := h; exact Nat.le_add_right _ _⟩

def mkB (l : List UInt8) : ByteArray := ⟨l.toArray⟩
theorem mkB_data (s : ByteArray) : mkB s.data.toList = s := rfl
theorem mkB_list (l : List UInt8) : (mkB l).data.toList = l := rfl
theorem extract_mkB (s : ByteArray) (a b : Nat) : s.extract a b = mkB ((s.data.toList.drop a).take (b - a)) := ByteArray.extract_mk s.data.toList a b

/-- A slice value that reads as these texts. -/
def StrsAt (w : World) (v : Value) (ls : List ByteArray) : Prop :=
  (ls = [] ∧ v = .slice none 0 0) ∨
  ∃ g cap, v = .slice (some ⟨g, 0, none⟩) ls.length cap ∧ ls.length ≤ cap ∧ cap ≤ maxLen ∧ ∀ i (h : i < ls.length), w.cell? ⟨g, i, none⟩ = some (.string ls[i])
theorem StrsAt.nil_ (w : World) : StrsAt w (.slice none 0 0) [] := .inl ⟨rfl, rfl⟩
theorem StrsAt.form {w : World} {v : Value} {ls : List ByteArray} (h : StrsAt w v ls) : ∃ A c, v = .slice A ls.length c := by
  rcases h with ⟨rfl, rfl⟩ | ⟨g, cap, rfl, _⟩
  · exact ⟨_, _, rfl⟩
  · exact ⟨_, _, rfl⟩
theorem StrsAt.at_ {w : World} {v : Value} {ls : List ByteArray} (h : StrsAt w v ls) (hn : 0 < ls.length) : ∃ g cap, v = .slice (some ⟨g, 0, none⟩) ls.length cap ∧ ls.length ≤ cap ∧ cap ≤ maxLen ∧ ∀ i (h : i < ls.length), w.cell? ⟨g, i, none⟩ = some (.string ls[i]) := by
  rcases h with ⟨rfl, rfl⟩ | h
  · simp at hn
  · exact h
theorem StrsAt.keep {w w' : World} {v : Value} {ls : List ByteArray} (h : StrsAt w v ls) (q : Q w w') : StrsAt w' v ls := by
  rcases h with h | ⟨g, cap, e, h1, h2, h3⟩
  · exact .inl h
  · exact .inr ⟨g, cap, e, h1, h2, fun i hi => q.cell (h3 i hi)⟩
theorem StrsAt.of_own {w : World} {base : Nat} {e : TypeId} {v : Value} {ls : List ByteArray} (h : w.ownsRow base e 1 v ls.length (ls.map Value.string)) : StrsAt w v ls := by
  rcases h.2 with ⟨rfl, hn⟩ | ⟨g, cap, cur, rfl, hb, hg, h1, h2, h3, h4⟩
  · exact .inl ⟨List.eq_nil_of_length_eq_zero hn, rfl⟩
  · refine .inr ⟨g, cap, rfl, h1, h2, fun i hi => ?_⟩
    have := h.cells (g := g) rfl i (.string ls[i]) (by simp [hi])
    simpa [Addr.add_lit] using this

/-! ### The words of paths over byte arrays -/
def endB (s : ByteArray) (i : Nat) : Nat := endL s.data.toList i
def nameB (s : ByteArray) : Bool := nameL s.data.toList
def mayB (s : ByteArray) : Bool := mayL s.data.toList
def partsB (s : ByteArray) : List ByteArray := (partsL s.data.toList).map mkB
def cutB (s : ByteArray) : List ByteArray := (cutL s.data.toList).map mkB
def depthB (s : ByteArray) : Int := depthL s.data.toList
def lastB (s : ByteArray) : ByteArray := mkB (lastL s.data.toList)
def parentB (s : ByteArray) : ByteArray := mkB (parentL s.data.toList)
def hasParentB (s : ByteArray) : Bool := hasParentL s.data.toList
def joinB (a b : ByteArray) : ByteArray := mkB (joinL a.data.toList b.data.toList)
def joinErrB (a b : ByteArray) : Int := joinErrL a.data.toList b.data.toList
def underB (s top : ByteArray) : Bool := underL s.data.toList top.data.toList
def lessB (a b : ByteArray) : Bool := lessL a.data.toList b.data.toList

theorem u8_eq {c : UInt8} (v : UInt8) (h : c = v) : ((c.toNat : Int) == (v.toNat : Int)) = true := by rw [h]; simp
theorem u8_ne {c : UInt8} (v : UInt8) (h : c ≠ v) : ((c.toNat : Int) == (v.toNat : Int)) = false :=
  beq_eq_false_iff_ne.2 fun e => h (UInt8.toNat_inj.1 (by omega))

end Go.Proofs.YtgbenepapajieaaGreat.Pa
