/-
  What a list holds of a range, and what it leaves below a size. The contract of extent.sorted: what of the extents lies before the greatest place, none empty, by their offsets. The contract of extent.sorted. The contract of extent.Norm. The contracts of extent.Meet and extent.Holes.
-/
import Derived.Test.YtgbenepapajieaaGreatEMay
import Derived.Lib.OwnBridge
import Derived.Lib.AppendIntMem
import Derived.StillTailTactics
import Derived.Deep.Onto
import Derived.Laws.OwnMore
namespace Go.Proofs.YtgbenepapajieaaGreat.Ex.Rng

/-- r holds what d holds from lo on, before hi, below the greatest place. -/
def IsMeet (d : List X) (lo hi : Nat) (r : List X) : Prop := Val r ∧ Upto M r ∧ (∀ p, Mem p r ↔ (Mem p d ∧ p < M) ∧ lo ≤ p ∧ p < hi) ∧ r.length ≤ d.length
/-- What the first k of n give. -/
def MeetAt (n : List X) (lo hi k : Nat) (out : List X) : Prop :=
  Val out ∧ Upto M out ∧ (∀ p, Mem p out ↔ Mem p (n.take k) ∧ lo ≤ p ∧ p < hi) ∧ out.length ≤ k ∧ ∀ y ∈ out, ∀ x ∈ n.drop k, y.1 + y.2 < x.1
theorem MeetAt.start (n : List X) (lo hi : Nat) : MeetAt n lo hi 0 [] := ⟨Val.nil_, Upto.nil_ _, fun p => by simp [Mem], by simp, by simp⟩
theorem MeetAt.done {d n out : List X} {lo hi k : Nat} (hn : IsNorm d n) (h : MeetAt n lo hi k out) (hk : ¬ k < n.length) (hk' : k ≤ n.length) : IsMeet d lo hi out := by
  have : k = n.length := by omega
  subst this
  refine ⟨h.1, h.2.1, fun p => ?_, Nat.le_trans h.2.2.2.1 hn.2.2.2⟩
  rw [h.2.2.1 p, List.take_length, hn.2.2.1 p]
theorem drop_sub {n : List X} {k : Nat} {x : X} (hk : k < n.length) (h : x ∈ n.drop (k + 1)) : x ∈ n.drop k := by
  rw [List.drop_eq_getElem_cons hk]; exact List.mem_cons_of_mem _ h
theorem drop_at {n : List X} {k : Nat} (hk : k < n.length) : n[k] ∈ n.drop k := by
  rw [List.drop_eq_getElem_cons hk]; exact List.mem_cons_self
theorem val_drop {n : List X} {k : Nat} (h : Val n) (hk : k < n.length) : ∀ x ∈ n.drop (k + 1), n[k].1 + n[k].2 < x.1 := by
  have h1 : Val (n.take (k + 1) ++ n.drop (k + 1)) := by rw [List.take_append_drop]; exact h
  exact fun x hx => h1.gap _ (at_mem n k hk) x hx
theorem MeetAt.skip {n out : List X} {lo hi k : Nat} (hk : k < n.length) (h : MeetAt n lo hi k out) (hg : ¬ max n[k].1 lo < min (n[k].1 + n[k].2) hi) : MeetAt n lo hi (k + 1) out := by
  obtain ⟨h1, h2, h3, h4, h5⟩ := h
  refine ⟨h1, h2, fun p => ?_, by omega, fun y hy x hx => h5 y hy x (drop_sub hk hx)⟩
  rw [h3 p, take_mem n k hk]
  constructor
  · rintro ⟨a, b⟩
    exact ⟨.inl a, b⟩
  · rintro ⟨a | a, b⟩
    · exact ⟨a, b⟩
    · unfold In at a; omega
theorem MeetAt.add {n out : List X} {lo hi k : Nat} (hn : Val n) (hu : Upto M n) (hk : k < n.length) (h : MeetAt n lo hi k out) (hg : max n[k].1 lo < min (n[k].1 + n[k].2) hi) :
    MeetAt n lo hi (k + 1) (out ++ [(max n[k].1 lo, min (n[k].1 + n[k].2) hi - max n[k].1 lo)]) := by
  obtain ⟨h1, h2, h3, h4, h5⟩ := h
  have hz := hu _ (List.getElem_mem hk)
  refine ⟨h1.add (by simp only; omega) (fun y hy => ?_), h2.add (by simp only; omega), fun p => ?_, by simp; omega, fun y hy x hx => ?_⟩
  · have := h5 y hy _ (drop_at hk)
    simp only
    omega
  · rw [mem_append, mem_one, h3 p, take_mem n k hk]
    generalize n[k] = z at *
    constructor
    · rintro (⟨a, b⟩ | a)
      · exact ⟨.inl a, b⟩
      · unfold In at *; simp only at a; exact ⟨.inr (by omega), by omega⟩
    · rintro ⟨a | a, b⟩
      · exact .inl ⟨a, b⟩
      · refine .inr ?_; unfold In at *; simp only; omega
  · rcases List.mem_append.1 hy with hy | hy
    · exact h5 y hy x (drop_sub hk hx)
    · have := val_drop hn hk x hx
      rw [List.mem_singleton.1 hy]
      simp only
      omega

/-- r holds what d leaves below s. -/
def IsHoles (d : List X) (s : Nat) (r : List X) : Prop := Val r ∧ Upto s r ∧ (∀ p, Mem p r ↔ p < s ∧ ¬ Mem p d) ∧ r.length ≤ d.length + 1
/-- What the first k of m leave below f. -/
structure HoleAt (m : List X) (s k f : Nat) (out : List X) : Prop where
  val : Val out
  mem : ∀ p, Mem p out ↔ p < f ∧ ¬ Mem p m
  ends : ∀ y ∈ out, y.1 + y.2 < f
  back : ∀ x ∈ m.take k, x.1 + x.2 ≤ f
  on : ∀ x ∈ m.drop k, f ≤ x.1
  le : f ≤ s
  len : out.length ≤ k
theorem HoleAt.start (m : List X) (s : Nat) : HoleAt m s 0 0 [] :=
  ⟨Val.nil_, fun p => ⟨fun h => absurd h (Mem.nil_ p), fun h => by omega⟩, by simp, by simp, fun x _ => Nat.zero_le _, Nat.zero_le _, by simp⟩
theorem HoleAt.step {m out : List X} {s k f : Nat} (hm : Val m) (hu : Upto s m) (hk : k < m.length) (h : HoleAt m s k f out) (new : List X) (hv : Val new) (hnew : ∀ p, Mem p new ↔ Mem p out ∨ (f ≤ p ∧ p < m[k].1)) (he : ∀ y ∈ new, y.1 + y.2 ≤ m[k].1) (hl : new.length ≤ k + 1) :
    HoleAt m s (k + 1) (m[k].1 + m[k].2) new := by
  have hz := hm.1 _ (List.getElem_mem hk)
  have hon := h.on _ (drop_at hk)
  have hd := val_drop hm hk
  have hsplit : ∀ x ∈ m, x ∈ m.take k ∨ x = m[k] ∨ x ∈ m.drop (k + 1) := by
    intro x hx
    have : x ∈ m.take k ++ m.drop k := by rw [List.take_append_drop]; exact hx
    rcases List.mem_append.1 this with a | a
    · exact .inl a
    · rw [List.drop_eq_getElem_cons hk] at a
      exact .inr (List.mem_cons.1 a)
  refine ⟨hv, fun p => ?_, fun y hy => by have := he y hy; omega, fun x hx => ?_, fun x hx => by have := hd x hx; omega, hu _ (List.getElem_mem hk), hl⟩
  · rw [hnew p, h.mem p]
    constructor
    · rintro (⟨a, b⟩ | ⟨a, b⟩)
      · exact ⟨by omega, b⟩
      · refine ⟨by omega, ?_⟩
        rintro ⟨x, hx, h1, h2⟩
        rcases hsplit x hx with c | rfl | c
        · have := h.back x c; omega
        · omega
        · have := hd x c; omega
    · rintro ⟨a, b⟩
      by_cases hp : p < f
      · exact .inl ⟨hp, b⟩
      · refine .inr ⟨by omega, ?_⟩
        by_cases hq : p < m[k].1
        · exact hq
        · exact absurd ⟨m[k], List.getElem_mem hk, by unfold In; omega⟩ b
  · rw [List.take_succ_eq_append_getElem hk] at hx
    rcases List.mem_append.1 hx with a | a
    · have := h.back x a; omega
    · rw [List.mem_singleton.1 a]; omega
theorem HoleAt.skip {m out : List X} {s k f : Nat} (hm : Val m) (hu : Upto s m) (hk : k < m.length) (h : HoleAt m s k f out) (hg : ¬ f < m[k].1) : HoleAt m s (k + 1) (m[k].1 + m[k].2) out := by
  have hon := h.on _ (drop_at hk)
  refine h.step hm hu hk out h.val (fun p => ⟨.inl, fun a => a.elim id fun b => by omega⟩) (fun y hy => by have := h.ends y hy; omega) (by have := h.len; omega)
theorem HoleAt.add {m out : List X} {s k f : Nat} (hm : Val m) (hu : Upto s m) (hk : k < m.length) (h : HoleAt m s k f out) (hg : f < m[k].1) : HoleAt m s (k + 1) (m[k].1 + m[k].2) (out ++ [(f, m[k].1 - f)]) := by
  refine h.step hm hu hk _ (h.val.add (by simp only; omega) h.ends) (fun p => ?_) (fun y hy => ?_) (by have := h.len; simp; omega)
  · rw [mem_append, mem_one]
    unfold In
    simp only
    constructor
    · rintro (a | a)
      · exact .inl a
      · exact .inr (by omega)
    · rintro (a | a)
      · exact .inl a
      · exact .inr (by omega)
  · rcases List.mem_append.1 hy with a | a
    · have := h.ends y a; omega
    · rw [List.mem_singleton.1 a]; simp only; omega
theorem HoleAt.last {d m out : List X} {s k f : Nat} (hs : s ≤ M) (hm : IsMeet d 0 s m) (hk : ¬ k < m.length) (h : HoleAt m s k f out) (hg : f < s) (hk' : k ≤ m.length) : IsHoles d s (out ++ [(f, s - f)]) := by
  have hb : ∀ x ∈ m, x.1 + x.2 ≤ f := by
    have := h.back
    rwa [List.take_of_length_le (by omega)] at this
  refine ⟨h.val.add (by simp only; omega) h.ends, Upto.add (fun y hy => by have := h.ends y hy; omega) (by simp only; omega), fun p => ?_, ?_⟩
  · rw [mem_append, mem_one, h.mem p, hm.2.2.1 p]
    unfold In
    simp only
    constructor
    · rintro (⟨a, b⟩ | a)
      · exact ⟨by omega, fun c => b ⟨⟨c, by omega⟩, by omega, by omega⟩⟩
      · refine ⟨by omega, fun c => ?_⟩
        obtain ⟨x, hx, h1, h2⟩ := (hm.2.2.1 p).2 ⟨⟨c, by omega⟩, by omega, by omega⟩
        have := hb x hx
        omega
    · rintro ⟨a, b⟩
      by_cases hp : p < f
      · exact .inl ⟨hp, fun c => b c.1.1⟩
      · exact .inr (by omega)
  · have := h.len
    have := hm.2.2.2
    simp
    omega
theorem HoleAt.done {d m out : List X} {s k f : Nat} (hs : s ≤ M) (hm : IsMeet d 0 s m) (h : HoleAt m s k f out) (hg : ¬ f < s) (hk' : k ≤ m.length) : IsHoles d s out := by
  have hf : f = s := by have := h.le; omega
  subst hf
  refine ⟨h.val, fun y hy => by have := h.ends y hy; omega, fun p => ?_, ?_⟩
  · rw [h.mem p, hm.2.2.1 p]
    constructor
    · rintro ⟨a, b⟩
      exact ⟨a, fun c => b ⟨⟨c, by omega⟩, by omega, a⟩⟩
    · rintro ⟨a, b⟩
      exact ⟨a, fun c => b c.1.1⟩
  · have := h.len
    have := hm.2.2.2
    omega
theorem IsHoles.one {d s : List X} {t : Nat} {r : List X} (h : IsHoles d t r) (hs : Val s) (k : ∀ p, Mem p s ↔ p < t ∧ ¬ Mem p d) : r = s :=
  val_ext h.1 hs fun p => by rw [h.2.2.1 p, k p]
end Go.Proofs.YtgbenepapajieaaGreat.Ex.Rng
namespace Go.Proofs.YtgbenepapajieaaGreat.Ex
open Go.RowKit
open Rng

def cmpN (a b : Nat) : Int := if a < b then -1 else if b < a then 1 else 0
/-- Extents that a list may hold. -/
abbrev XB : Type := {x : X // x.1 ≤ M ∧ x.2 ≤ M}
instance : Inhabited XB := ⟨⟨(0, 0), by unfold M; simp⟩⟩
def EB (x : XB) : Value := E x.1
def cmpB (x y : XB) : Int := cmpN x.1.1 y.1.1
def toB : (l : List X) → Ok l → List XB
  | [], _ => []
  | x :: r, h => ⟨x, h x (by simp)⟩ :: toB r fun y hy => h y (List.mem_cons_of_mem _ hy)
theorem toB_val : ∀ (l : List X) (h : Ok l), (toB l h).map (·.1) = l
  | [], _ => rfl
  | x :: r, h => congrArg (x :: ·) (toB_val r fun y hy => h y (List.mem_cons_of_mem _ hy))
theorem toB_map (l : List X) (h : Ok l) : (toB l h).map EB = l.map E := by
  have : (toB l h).map EB = ((toB l h).map (·.1)).map E := by rw [List.map_map]; rfl
  rw [this, toB_val]
theorem toB_len (l : List X) (h : Ok l) : (toB l h).length = l.length := by
  have := congrArg List.length (toB_val l h)
  rwa [List.length_map] at this

end Go.Proofs.YtgbenepapajieaaGreat.Ex
namespace Go.Proofs.YtgbenepapajieaaGreat.Ex
open Go.RowKit
open Rng

theorem info_ext : (Tryz.prog.info? 136).map (fun i => (i.zero, i.size, i.bytes)) = some (some (.complex .f64 0 0), 1, 16) := by kernel_rfl
theorem shut_ok (d : List X) (hd : Ok d) : Ok (shut d) := by
  intro x hx
  obtain ⟨hx, _⟩ := List.mem_filter.1 hx
  obtain ⟨y, hy, rfl⟩ := List.mem_map.1 hx
  have := hd y hy
  refine ⟨this.1, ?_⟩
  show min (y.1 + y.2) M - y.1 ≤ M
  omega
theorem shut_add {d : List X} {k : Nat} {ns : List X} (h : k < d.length) (hs : ns = shut (d.take k)) (hp : 0 < (cutN d[k]).2) : ns ++ [cutN d[k]] = shut (d.take (k + 1)) := by
  rw [shut_take d k h, if_pos hp, hs]
theorem shut_skip {d : List X} {k : Nat} {ns : List X} (h : k < d.length) (hs : ns = shut (d.take k)) (hp : ¬ 0 < (cutN d[k]).2) : ns = shut (d.take (k + 1)) := by
  rw [shut_take d k h, if_neg hp, hs]
theorem shut_all {d : List X} {k : Nat} {ns : List X} (h : ¬ k < d.length) (hs : ns = shut (d.take k)) : ns = shut d := by
  rw [hs, List.take_of_length_le (by omega)]

def SortedPost (d : List X) (w : World) (e : Ending) (w' : World) : Prop := ∃ v r, e = .returned v ∧ ExtsAt w' v r ∧ Q w w' ∧ Hid (Srt d r)

end Go.Proofs.YtgbenepapajieaaGreat.Ex
namespace Go.Proofs.YtgbenepapajieaaGreat.Ex
open Go.RowKit
open Rng

def NormPost (d : List X) (w : World) (e : Ending) (w' : World) : Prop := ∃ v r, e = .returned v ∧ w'.ownsRow w.heap.size 136 1 v r.length (r.map E) ∧ Q w w' ∧ Hid (IsNorm d r)

/-- What holds of the merging's round, hidden. -/
structure Mid (d r : List X) (k : Nat) (out : List X) : Prop where
  ok : Ok d
  srt : Srt d r
  mrg : Mrg r k out
theorem Mid.new {d r out : List X} {k : Nat} (h : Mid d r k out) (hk : k < r.length) (hg : ∀ y ∈ out, y.1 + y.2 < r[k].1) : Mid d r (k + 1) (out ++ [r[k]]) :=
  ⟨h.ok, h.srt, h.mrg.new hk h.srt.pos (h.srt.upto h.ok) hg⟩
theorem Mid.join {d r o : List X} {y : X} {k : Nat} (h : Mid d r k (o ++ [y])) (hk : k < r.length) (hg : r[k].1 ≤ y.1 + y.2) : Mid d r (k + 1) (o ++ [(y.1, max (y.1 + y.2) (r[k].1 + r[k].2) - y.1)]) :=
  ⟨h.ok, h.srt, h.mrg.join hk (h.srt.upto h.ok) h.srt.2.2 hg⟩
theorem Mid.far {d r o : List X} {y : X} {k : Nat} (h : Mid d r k (o ++ [y])) (hk : k < r.length) (hg : ¬ r[k].1 ≤ y.1 + y.2) : Mid d r (k + 1) (o ++ [y] ++ [r[k]]) :=
  h.new hk (h.mrg.apart hk (by omega))
theorem Mid.done {d r out : List X} {k : Nat} (h : Mid d r k out) (hk : ¬ k < r.length) (hk' : k ≤ r.length) : IsNorm d out := by
  have : k = r.length := by omega
  subst this
  exact Mrg.done h.ok h.srt h.mrg

theorem append_ext (r : List X) (z : X) : (r ++ [z]).map E = r.map E ++ [E z] := by simp

end Go.Proofs.YtgbenepapajieaaGreat.Ex
namespace Go.Proofs.YtgbenepapajieaaGreat.Ex
open Go.RowKit
open Rng

def MeetPost (d : List X) (lo hi : Nat) (w : World) (e : Ending) (w' : World) : Prop := ∃ v r, e = .returned v ∧ w'.ownsRow w.heap.size 136 1 v r.length (r.map E) ∧ Q w w' ∧ Hid (IsMeet d lo hi r)

end Go.Proofs.YtgbenepapajieaaGreat.Ex
