/-
  The contract of tree.sorted. The contract of tree.own: an equal node in memory of its own. slices.Index at numbers, slices.Equal at entries, slices.EqualFunc at nodes.
-/
import Derived.Test.YtgbenepapajieaaGreatTMay
import Derived.Test.YtgbenepapajieaaGreatTMem
import Derived.Test.YtgbenepapajieaaGreatTFind
import Derived.Test.YtgbenepapajieaaGreatNFile
import Derived.Laws.StructEq
namespace Go.Proofs.YtgbenepapajieaaGreat.Tr
open Go.RowKit Go.Sort
open Go.Proofs.YtgbenepapajieaaGreat.Pa (lessB)

/-- Entries whose paths the machine holds. -/
abbrev EB : Type := {e : Ent // e.1.size ≤ 90000}
instance : Inhabited EB := ⟨⟨(⟨#[]⟩, 0), by decide⟩⟩
def cellsB (x : EB) : List Value := cellsE x.1
def cmpB (x y : EB) : Int := cmpE x.1 y.1
def toEB (l : List Ent) (h : ∀ e ∈ l, e.1.size ≤ 90000) : List EB := l.pmap (fun e h => ⟨e, h⟩) h
theorem toEB_val (l : List Ent) (h : ∀ e ∈ l, e.1.size ≤ 90000) : (toEB l h).map (·.1) = l := by
  unfold toEB
  rw [List.map_pmap]
  simp
theorem toEB_len (l : List Ent) (h : ∀ e ∈ l, e.1.size ≤ 90000) : (toEB l h).length = l.length := by unfold toEB; simp
theorem lt_cmpB (x y : EB) : ltOf cmpB x y = lessB x.1.1 y.1.1 := by
  unfold ltOf cmpB
  rw [Bool.eq_iff_iff, decide_eq_true_eq]
  exact cmpE_lt
theorem swo_cmpB : Go.Sort.SWO (ltOf cmpB) where
  irrefl x := by rw [lt_cmpB]; exact lessB_irrefl _
  trans x y z h1 h2 := by rw [lt_cmpB] at *; exact lessB_trans h1 h2
  ntrans x y z h1 h2 := by rw [lt_cmpB] at *; exact lessB_ntrans h1 h2
theorem cmpLaysB (blk off size : Nat) (w : World) : CmpLays Tryz.prog 68 #[] cellsB 2 cmpB blk off size w :=
  fun _ _ _ _ x y => (compare_any x.1 y.1 _ (by have := x.2; unfold maxLen; omega) (by have := y.2; unfold maxLen; omega)).mono fun _ _ h => ⟨h.1, h.2.grew⟩
theorem cellsB_len (x : EB) : (cellsB x).length = 2 := rfl
theorem flatK_at (d : Array EB) (i c : Nat) (hi : i < d.size) (hc : c < 2) : (flatK cellsB 2 d)[i * 2 + c]! = (cellsB d[i])[c]! := by
  rw [get_flatK cellsB 2 d (i * 2 + c) (by omega)]
  rw [show (i * 2 + c) / 2 = i by omega, show (i * 2 + c) % 2 = c by omega, getElem!_pos d i hi]
theorem holds_ents {w : World} {g : Nat} {d : Array EB} (h : HoldsK cellsB 2 w g 0 d) : ∀ i (hi : i < (d.toList.map (·.1)).length) c u, (cellsE (d.toList.map (·.1))[i])[c]? = some u → w.cell? ⟨g, 0 + i * 2 + c, none⟩ = some u := by
  intro i hi c u hu
  rw [List.length_map, Array.length_toList] at hi
  rw [List.getElem_map, Array.getElem_toList] at hu
  have hc : c < 2 := by
    rcases Nat.lt_or_ge c 2 with h | h
    · exact h
    · rw [List.getElem?_eq_none (by exact h)] at hu; cases hu
  have hz : (flatK cellsB 2 d).size = d.size * 2 := size_flatK cellsB 2 d
  have a0 := (h (i * 2 + c) (by rw [hz]; omega)).1
  rw [flatK_at d i c hi hc] at a0
  have e2 : (cellsB d[i])[c]! = u := by
    have hl : c < (cellsB d[i]).length := hc
    rw [getElem!_pos _ c hl]
    have : (cellsB d[i])[c]? = some u := hu
    rw [List.getElem?_eq_getElem hl] at this
    exact Option.some.inj this
  rw [e2] at a0
  rw [Nat.add_assoc]
  exact a0
theorem holds_of_ownE {w : World} {B : Nat} {v : Value} {m : List EB} (h : OwnE w B v (m.map (·.1))) (hv : v ≠ .slice none 0 0) :
    ∃ g cap, v = .slice (some ⟨g, 0, none⟩) m.length cap ∧ B ≤ g ∧ g < w.heap.size ∧ m.length ≤ cap ∧ cap ≤ maxLen ∧ HoldsK cellsB 2 w g 0 m.toArray := by
  rcases h.2 with ⟨e0, _⟩ | ⟨g, cap, cur, rfl, hb, hg, hn, hm, hs, ht⟩
  · exact absurd e0 hv
  · have hlt : g < w.heap.size := by
      rcases Nat.lt_or_ge g w.heap.size with h' | h'
      · exact h'
      · rw [Array.getElem?_eq_none h'] at hg; cases hg
    rw [List.length_map] at hn
    refine ⟨g, cap, by rw [List.length_map], hb, hlt, hn, hm, fun j hj => ?_⟩
    have hj' : j < m.length * 2 := by rw [size_flatK] at hj; simpa using hj
    refine ⟨?_, by simp [World.frozen?, hg]⟩
    have hc := h.cells (g := g) rfl j
    have hi : j / 2 < m.length := by omega
    have hjd : j = j / 2 * 2 + j % 2 := by omega
    have e1 : (flatR cellsE (m.map (·.1)))[j]? = (cellsB m[j / 2])[j % 2]? := by
      conv => lhs; rw [hjd]
      rw [flatR_at flatE _ (j / 2) (j % 2) (by rw [List.length_map]; exact hi) (by omega), List.getElem_map]
      rfl
    have e2 : (flatK cellsB 2 m.toArray)[j]! = (cellsB m[j / 2])[j % 2]! := by
      conv => lhs; rw [hjd]
      rw [flatK_at m.toArray (j / 2) (j % 2) (by simpa using hi) (by omega)]
      rfl
    have h3 : j % 2 < (cellsB m[j / 2]).length := by rw [cellsB_len]; omega
    have := hc ((cellsB m[j / 2])[j % 2]) (by rw [e1, List.getElem?_eq_getElem h3])
    rw [Addr.add_lit] at this
    rw [this, e2, id_eq, getElem!_pos (cellsB m[j / 2]) (j % 2) h3]

set_option maxRecDepth 100000 in
set_option maxHeartbeats 1000000 in
theorem sortFunc_own (v : Value) (l : List Ent) (w w1 : World) (ho : OwnE w1 w.heap.size v l) (hp : ∀ e ∈ l, e.1.size ≤ 90000) (hl : l.length ≤ 100000) (hq : Q w w1) :
    Calls Tryz.prog 67 #[v, .func (.func 68) #[] #[]] w1 fun e w' => e = .returned (.tuple #[]) ∧ ∃ r : List Ent, EntsAt w' v r ∧ Q w w' ∧ Hid (r.Perm l ∧ r.Pairwise fun x y => lessB y.1 x.1 = false) := by
  by_cases h0 : l.length = 0
  · have e0 : l = [] := List.eq_nil_of_length_eq_zero h0
    subst e0
    have hx := OwnR.row flatE ho
    obtain ⟨A, c, rfl⟩ := OwnR.form flatE ho
    have hcon := AnyF.slices_SortFunc_none (P := Tryz.prog) (ρ := YtgbenepapajieaaGreat.sortE_ren) YtgbenepapajieaaGreat.sortE A c (.func (.func 68) #[] #[]) w1
    refine Calls.mono (P := Tryz.prog) (f := 67) hcon ?_
    rintro e w' ⟨rfl, rfl⟩
    exact ⟨rfl, [], hx, hq, List.Perm.refl _, List.Pairwise.nil⟩
  · have hv : v ≠ .slice none 0 0 := by
      rintro rfl
      rcases ho.2 with ⟨_, h⟩ | ⟨g, cap, cur, e, _⟩
      · exact h0 h
      · cases e
    have hval := toEB_val l hp
    have hlen := toEB_len l hp
    generalize toEB l hp = m at *
    rw [← hval] at ho
    obtain ⟨g, cap, rfl, hb, hg, h1, h2, h4⟩ := holds_of_ownE ho hv
    have eg : ∀ args w, (callFunc 68 args).run Tryz.prog w = .ok (.enter 68 args) w := enters_of Tryz.func68 (by kernel_rfl) rfl
    have hcon := AnyQ.slices_SortFunc YtgbenepapajieaaGreat.sortE 2 Tryz.isAgg49 Tryz.sizeOf49 cellsB (fun _ => rfl) (fun x v hv => flatE.one x.1 v hv) cmpB swo_cmpB 68 #[] g 0 cap m.toArray w1 eg (cmpLaysB g 0 _ w1) h4 hg (by simp; omega)
    have hsz : m.toArray.size = m.length := by simp
    rw [hsz] at hcon
    refine Calls.mono (P := Tryz.prog) (f := 67) hcon ?_
    rintro e w' ⟨rfl, d', n, os, hp', hs, rfl⟩
    have hz : d'.size = m.length := by rw [hp'.1, hsz]
    have hH := holdsK_sortWorldK cellsB 2 w1 g 0 n m.toArray d' os hg h4 (by rw [hz, hsz])
    refine ⟨rfl, d'.toList.map (·.1), .inr ⟨g, 0, cap, by simp [hz], by rw [List.length_map, Array.length_toList, hz]; exact h1, h2, holds_ents hH⟩, ?_, ?_, ?_⟩
    · have a1 : Below w.heap.size w (putRow id (Sort.ahead w1 n) g 0 (flatK cellsB 2 d')) := Lib.below_putRow hq hb
      have a2 := Go.Lib.below_grow w.heap.size (putRow id (Sort.ahead w1 n) g 0 (flatK cellsB 2 d')) a1.size 0 os
      exact a1.trans a2
    · have h := hp'.2.2
      have e1 : (d'.extract 0 m.length) = d' := by rw [← hz]; exact Array.extract_size
      have e2 : (m.toArray.extract 0 m.length) = m.toArray := by rw [← hsz]; exact Array.extract_size
      rw [e1, e2] at h
      rw [← hval]
      exact List.Perm.map _ h
    · rw [List.pairwise_map, List.pairwise_iff_getElem]
      intro i j hi hj hij
      have := hs i j (by omega) hij (by simpa [hz] using hj)
      rw [lt_cmpB] at this
      have hi' : i < d'.size := by simpa using hi
      have hj' : j < d'.size := by simpa using hj
      rw [getElem!_pos d' i hi', getElem!_pos d' j hj'] at this
      simp only [Array.getElem_toList]
      exact this

set_option maxRecDepth 100000 in
set_option maxHeartbeats 1000000 in
theorem sorted_any (v : Value) (l : List Ent) (w : World) (h : EntsAt w v l) (hp : ∀ e ∈ l, e.1.size ≤ 90000) (hl : l.length ≤ 20000) :
    Calls Tryz.prog 37 #[v] w fun e w' => ∃ v' r, e = .returned v' ∧ EntsAt w' v' r ∧ Q w w' ∧ Hid (r.Perm l ∧ r.Pairwise fun x y => lessB y.1 x.1 = false) := by
  go_enter Tryz.func37, Tryz.ntmps37
  go_wp2_with (at_builtin; refine wpList_append_ent rfl (.const (.slice none 0 0)) (.tmp 4) rfl w.heap.size _ [] rfl (OwnR.nil_ _ _ _) v l rfl h (by simp; omega) (Nat.le_refl _) ?_)
  intro v2 w2 hown2 hg2 _
  have hq2 : Q w w2 := Below.grown (Q.refl w) hg2 (Nat.le_refl _) fun g hg => by cases hg
  clear hg2
  go_wp2_with fail
  refine (sortFunc_own v2 l w w2 hown2 hp (by omega) hq2).mono ?_
  rintro e w3 ⟨rfl, r, hr, q3, Hp⟩
  clear hown2 hq2
  obtain ⟨A, c, rfl⟩ := hr.form
  go_wp2
  go_ret
  exact ⟨_, r, rfl, hr, q3, Hp⟩
end Go.Proofs.YtgbenepapajieaaGreat.Tr
namespace Go.Proofs.YtgbenepapajieaaGreat.Nd
open Go.RowKit
open Go.Proofs.YtgbenepapajieaaGreat.Ex.Rng

set_option maxRecDepth 100000 in
set_option maxHeartbeats 8000000 in
theorem treeOwn_any (v : Value) (n : Nd) (w : World) (h : NodeAt w v n) (h1 : n.mt.attrs.length ≤ 10000) (h2 : n.mt.acl.length ≤ 10000) (h3 : n.data.length ≤ 10000) :
    Calls Tryz.prog 66 #[v] w fun e w' => ∃ v', e = .returned v' ∧ OwnN w' w.heap.size v' n ∧ Q w w' := by
  obtain ⟨va, vl, vd, rfl, ha, hl, hd⟩ := h
  obtain ⟨kind, ⟨mode, uid, gid, time, attrs, acl⟩, size, data, target, major, minor⟩ := n
  unfold nodeV
  simp only at ha hl hd h1 h2 h3 ⊢
  have x1 : BoxN (w.alloc (.cells #[.int .i64 kind, .int .i64 mode, .int .i64 uid, .int .i64 gid, .int .i64 time, va, vl, .int .i64 size, vd, .string target, .int .i64 major, .int .i64 minor] 47)) w.heap.size #[.int .i64 kind, .int .i64 mode, .int .i64 uid, .int .i64 gid, .int .i64 time, va, vl, .int .i64 size, vd, .string target, .int .i64 major, .int .i64 minor] := BoxN.new w _
  have x1 := x1.keep ((Q.refl (w.alloc (.cells #[.int .i64 kind, .int .i64 mode, .int .i64 uid, .int .i64 gid, .int .i64 time, va, vl, .int .i64 size, vd, .string target, .int .i64 major, .int .i64 minor] 47))).alloc (.cells #[.int .i64 0, .int .i64 0, .int .i64 0, .int .i64 0, .int .i64 0, .slice none 0 0, .slice none 0 0, .int .i64 0, .slice none 0 0, .string ⟨#[]⟩, .int .i64 0, .int .i64 0] 47))
  have y1 := BoxN.new (w.alloc (.cells #[.int .i64 kind, .int .i64 mode, .int .i64 uid, .int .i64 gid, .int .i64 time, va, vl, .int .i64 size, vd, .string target, .int .i64 major, .int .i64 minor] 47)) #[.int .i64 0, .int .i64 0, .int .i64 0, .int .i64 0, .int .i64 0, .slice none 0 0, .slice none 0 0, .int .i64 0, .slice none 0 0, .string ⟨#[]⟩, .int .i64 0, .int .i64 0]
  rw [World.size_alloc] at y1
  have q1 : Q w ((w.alloc (.cells #[.int .i64 kind, .int .i64 mode, .int .i64 uid, .int .i64 gid, .int .i64 time, va, vl, .int .i64 size, vd, .string target, .int .i64 major, .int .i64 minor] 47)).alloc (.cells #[.int .i64 0, .int .i64 0, .int .i64 0, .int .i64 0, .int .i64 0, .slice none 0 0, .slice none 0 0, .int .i64 0, .slice none 0 0, .string ⟨#[]⟩, .int .i64 0, .int .i64 0] 47)) := ((Q.refl w).alloc _).alloc _
  have s1 : ((w.alloc (.cells #[.int .i64 kind, .int .i64 mode, .int .i64 uid, .int .i64 gid, .int .i64 time, va, vl, .int .i64 size, vd, .string target, .int .i64 major, .int .i64 minor] 47)).alloc (.cells #[.int .i64 0, .int .i64 0, .int .i64 0, .int .i64 0, .int .i64 0, .slice none 0 0, .slice none 0 0, .int .i64 0, .slice none 0 0, .string ⟨#[]⟩, .int .i64 0, .int .i64 0] 47)).heap.size = w.heap.size + 2 := by rw [World.size_alloc, World.size_alloc]
  obtain ⟨k0, k1, k2, k3, k4, k5, k6, k7, k8, k9, k10, k11⟩ := x1.cells
  have g1 := x1.soft
  go_enter Tryz.func66, Tryz.ntmps66
  go_wp2_with (at_builtin; refine wpList_append_ats rfl (.const (.slice none 0 0)) (.tmp 5) rfl ((w.alloc (.cells #[.int .i64 kind, .int .i64 mode, .int .i64 uid, .int .i64 gid, .int .i64 time, va, vl, .int .i64 size, vd, .string target, .int .i64 major, .int .i64 minor] 47)).alloc (.cells #[.int .i64 0, .int .i64 0, .int .i64 0, .int .i64 0, .int .i64 0, .slice none 0 0, .slice none 0 0, .int .i64 0, .slice none 0 0, .string ⟨#[]⟩, .int .i64 0, .int .i64 0] 47)).heap.size _ [] rfl (OwnR.nil_ _ _ _) va attrs rfl (ha.keep q1) (by simp; omega) (Nat.le_refl _) ?_)
  intro v2 w2 oa hg _
  try rw [List.nil_append] at oa
  have qq : Q ((w.alloc (.cells #[.int .i64 kind, .int .i64 mode, .int .i64 uid, .int .i64 gid, .int .i64 time, va, vl, .int .i64 size, vd, .string target, .int .i64 major, .int .i64 minor] 47)).alloc (.cells #[.int .i64 0, .int .i64 0, .int .i64 0, .int .i64 0, .int .i64 0, .slice none 0 0, .slice none 0 0, .int .i64 0, .slice none 0 0, .string ⟨#[]⟩, .int .i64 0, .int .i64 0] 47)) w2 := Below.grown (Q.refl ((w.alloc (.cells #[.int .i64 kind, .int .i64 mode, .int .i64 uid, .int .i64 gid, .int .i64 time, va, vl, .int .i64 size, vd, .string target, .int .i64 major, .int .i64 minor] 47)).alloc (.cells #[.int .i64 0, .int .i64 0, .int .i64 0, .int .i64 0, .int .i64 0, .slice none 0 0, .slice none 0 0, .int .i64 0, .slice none 0 0, .string ⟨#[]⟩, .int .i64 0, .int .i64 0] 47))) hg (Nat.le_refl _) fun g hg => by cases hg
  obtain ⟨A2, n2, rfl⟩ := oa.form flatT
  try rw [s1] at oa
  have s2 := Nat.le_trans (Nat.le_of_eq s1.symm) qq.size
  replace x1 := x1.keep qq
  replace y1 := y1.keep qq
  replace q1 := q1.trans qq
  clear hg qq g1 k0 k1 k2 k3 k4 k5 k6 k7 k8 k9 k10 k11
  have x2 := x1.set 5 (.slice A2 attrs.length n2)
  simp only [List.setIfInBounds_toArray, List.set_cons_succ, List.set_cons_zero] at x2
  have f1 := (Far.refl w.heap.size w2).chain 5 (.slice A2 attrs.length n2)
  have q2 := Q.setCell q1 (Nat.le_refl _) 5 (.slice A2 attrs.length n2)
  have y2 : BoxN (w2.setCell ⟨w.heap.size, 5, none⟩ (.slice A2 attrs.length n2)) (w.heap.size + 1) _ := y1.far f1 (by omega)
  replace oa := own_far oa f1 (by omega)
  have s3 := Nat.le_trans s2 f1.1
  have g1 := x1.soft
  obtain ⟨j0, j1, j2, j3, j4, j5, j6, j7, j8, j9, j10, j11⟩ := x1.cells
  obtain ⟨k0, k1, k2, k3, k4, k5, k6, k7, k8, k9, k10, k11⟩ := x2.cells
  clear f1 q1 x1 y1 s2
  go_wp2_with (at_builtin; refine wpList_append_aces rfl (.const (.slice none 0 0)) (.tmp 11) rfl (w2.setCell ⟨w.heap.size, 5, none⟩ (.slice A2 attrs.length n2)).heap.size _ [] rfl (OwnR.nil_ _ _ _) vl acl rfl (hl.keep q2) (by simp; omega) (Nat.le_refl _) ?_)
  intro v4 w4 ol hg _
  try rw [List.nil_append] at ol
  have qq : Q (w2.setCell ⟨w.heap.size, 5, none⟩ (.slice A2 attrs.length n2)) w4 := Below.grown (Q.refl (w2.setCell ⟨w.heap.size, 5, none⟩ (.slice A2 attrs.length n2))) hg (Nat.le_refl _) fun g hg => by cases hg
  obtain ⟨A3, n3, rfl⟩ := ol.form flat3
  replace ol := OwnR.mono (B' := w.heap.size + 2) ol (by simpa using s3)
  replace oa := oa.keep qq
  replace x2 := x2.keep qq
  replace y2 := y2.keep qq
  replace q2 := q2.trans qq
  replace s3 := Nat.le_trans s3 qq.size
  clear hg qq g1 j0 j1 j2 j3 j4 j5 j6 j7 j8 j9 j10 j11 k0 k1 k2 k3 k4 k5 k6 k7 k8 k9 k10 k11
  have x3 := x2.set 6 (.slice A3 acl.length n3)
  simp only [List.setIfInBounds_toArray, List.set_cons_succ, List.set_cons_zero] at x3
  have f2 := (Far.refl w.heap.size w4).chain 6 (.slice A3 acl.length n3)
  have q3 := Q.setCell q2 (Nat.le_refl _) 6 (.slice A3 acl.length n3)
  have y3 : BoxN (w4.setCell ⟨w.heap.size, 6, none⟩ (.slice A3 acl.length n3)) (w.heap.size + 1) _ := y2.far f2 (by omega)
  replace oa := own_far oa f2 (by omega)
  replace ol := own_far ol f2 (by omega)
  have s4 := Nat.le_trans s3 f2.1
  have g1 := x2.soft
  obtain ⟨j0, j1, j2, j3, j4, j5, j6, j7, j8, j9, j10, j11⟩ := x2.cells
  obtain ⟨k0, k1, k2, k3, k4, k5, k6, k7, k8, k9, k10, k11⟩ := x3.cells
  clear f2 q2 x2 y2 s3
  go_wp2_with (at_builtin; refine wpList_append_pcs rfl (.const (.slice none 0 0)) (.tmp 16) rfl (w4.setCell ⟨w.heap.size, 6, none⟩ (.slice A3 acl.length n3)).heap.size _ [] rfl (OwnR.nil_ _ _ _) vd data rfl (hd.keep q3) (by simp; omega) (Nat.le_refl _) ?_)
  intro v6 w6 od hg _
  try rw [List.nil_append] at od
  have qq : Q (w4.setCell ⟨w.heap.size, 6, none⟩ (.slice A3 acl.length n3)) w6 := Below.grown (Q.refl (w4.setCell ⟨w.heap.size, 6, none⟩ (.slice A3 acl.length n3))) hg (Nat.le_refl _) fun g hg => by cases hg
  obtain ⟨A4, n4, rfl⟩ := od.form flatP
  replace od := OwnR.mono (B' := w.heap.size + 2) od (by simpa using s4)
  replace oa := oa.keep qq
  replace ol := ol.keep qq
  replace x3 := x3.keep qq
  replace y3 := y3.keep qq
  replace q3 := q3.trans qq
  replace s4 := Nat.le_trans s4 qq.size
  clear hg qq g1 j0 j1 j2 j3 j4 j5 j6 j7 j8 j9 j10 j11 k0 k1 k2 k3 k4 k5 k6 k7 k8 k9 k10 k11
  have x4 := x3.set 8 (.slice A4 data.length n4)
  simp only [List.setIfInBounds_toArray, List.set_cons_succ, List.set_cons_zero] at x4
  have f3 := (Far.refl w.heap.size w6).chain 8 (.slice A4 data.length n4)
  have q4 := Q.setCell q3 (Nat.le_refl _) 8 (.slice A4 data.length n4)
  have y4 : BoxN (w6.setCell ⟨w.heap.size, 8, none⟩ (.slice A4 data.length n4)) (w.heap.size + 1) _ := y3.far f3 (by omega)
  replace oa := own_far oa f3 (by omega)
  replace ol := own_far ol f3 (by omega)
  replace od := own_far od f3 (by omega)
  have s5 := Nat.le_trans s4 f3.1
  have g1 := x3.soft
  obtain ⟨j0, j1, j2, j3, j4, j5, j6, j7, j8, j9, j10, j11⟩ := x3.cells
  obtain ⟨k0, k1, k2, k3, k4, k5, k6, k7, k8, k9, k10, k11⟩ := x4.cells
  have g2 := y4.soft
  obtain ⟨m0, m1, m2, m3, m4, m5, m6, m7, m8, m9, m10, m11⟩ := y4.cells
  clear f3 q3 x3 y3 ha hl hd
  go_wp2_with fail
  clear k0 k1 k2 k3 k4 k5 k6 k7 k8 k9 k10 k11 m0 m1 m2 m3 m4 m5 m6 m7 m8 m9 m10 m11 j0 j1 j2 j3 j4 j5 j6 j7 j8 j9 j10 j11 g1 g2
  generalize w6.setCell ⟨w.heap.size, 8, none⟩ (.slice A4 data.length n4) = w7 at *
  have y5 := ((((((((((((y4.set 0 (.int .i64 kind)).set 1 (.int .i64 mode)).set 2 (.int .i64 uid)).set 3 (.int .i64 gid)).set 4 (.int .i64 time)).set 5 (.slice A2 attrs.length n2)).set 6 (.slice A3 acl.length n3)).set 7 (.int .i64 size)).set 8 (.slice A4 data.length n4)).set 9 (.string target)).set 10 (.int .i64 major)).set 11 (.int .i64 minor))
  simp only [List.setIfInBounds_toArray, List.set_cons_succ, List.set_cons_zero] at y5
  have f5 := (((((((((((((Far.refl (w.heap.size + 1) w7).chain 0 (.int .i64 kind)).chain 1 (.int .i64 mode)).chain 2 (.int .i64 uid)).chain 3 (.int .i64 gid)).chain 4 (.int .i64 time)).chain 5 (.slice A2 attrs.length n2)).chain 6 (.slice A3 acl.length n3)).chain 7 (.int .i64 size)).chain 8 (.slice A4 data.length n4)).chain 9 (.string target)).chain 10 (.int .i64 major)).chain 11 (.int .i64 minor))
  have q5 := (Q.setCell (Q.setCell (Q.setCell (Q.setCell (Q.setCell (Q.setCell (Q.setCell (Q.setCell (Q.setCell (Q.setCell (Q.setCell (Q.setCell q4 (Nat.le_succ _) 0 (.int .i64 kind)) (Nat.le_succ _) 1 (.int .i64 mode)) (Nat.le_succ _) 2 (.int .i64 uid)) (Nat.le_succ _) 3 (.int .i64 gid)) (Nat.le_succ _) 4 (.int .i64 time)) (Nat.le_succ _) 5 (.slice A2 attrs.length n2)) (Nat.le_succ _) 6 (.slice A3 acl.length n3)) (Nat.le_succ _) 7 (.int .i64 size)) (Nat.le_succ _) 8 (.slice A4 data.length n4)) (Nat.le_succ _) 9 (.string target)) (Nat.le_succ _) 10 (.int .i64 major)) (Nat.le_succ _) 11 (.int .i64 minor))
  have oa5 := own_far oa f5 (by omega)
  have ol5 := own_far ol f5 (by omega)
  have od5 := own_far od f5 (by omega)
  clear oa ol od f5 q4 x4 y4
  generalize ((((((((((((w7.setCell ⟨(w.heap.size + 1), 0, none⟩ (.int .i64 kind)).setCell ⟨(w.heap.size + 1), 1, none⟩ (.int .i64 mode)).setCell ⟨(w.heap.size + 1), 2, none⟩ (.int .i64 uid)).setCell ⟨(w.heap.size + 1), 3, none⟩ (.int .i64 gid)).setCell ⟨(w.heap.size + 1), 4, none⟩ (.int .i64 time)).setCell ⟨(w.heap.size + 1), 5, none⟩ (.slice A2 attrs.length n2)).setCell ⟨(w.heap.size + 1), 6, none⟩ (.slice A3 acl.length n3)).setCell ⟨(w.heap.size + 1), 7, none⟩ (.int .i64 size)).setCell ⟨(w.heap.size + 1), 8, none⟩ (.slice A4 data.length n4)).setCell ⟨(w.heap.size + 1), 9, none⟩ (.string target)).setCell ⟨(w.heap.size + 1), 10, none⟩ (.int .i64 major)).setCell ⟨(w.heap.size + 1), 11, none⟩ (.int .i64 minor)) = w8 at *
  obtain ⟨k0, k1, k2, k3, k4, k5, k6, k7, k8, k9, k10, k11⟩ := y5.cells
  refine bodyPost_ret (v := .agg #[.int .i64 kind, .int .i64 mode, .int .i64 uid, .int .i64 gid, .int .i64 time, .slice A2 attrs.length n2, .slice A3 acl.length n3, .int .i64 size, .slice A4 data.length n4, .string target, .int .i64 major, .int .i64 minor]) (by simp [results, Tryz.results66, go_sem, k0, k1, k2, k3, k4, k5, k6, k7, k8, k9, k10, k11]) rfl ?_
  exact ⟨_, rfl, ⟨_, _, _, rfl, oa5.mono (by omega), ol5.mono (by omega), od5.mono (by omega)⟩, q5⟩
end Go.Proofs.YtgbenepapajieaaGreat.Nd
namespace Go.Proofs.YtgbenepapajieaaGreat.Tr
open Go.RowKit
open Go.Proofs.YtgbenepapajieaaGreat.Nd (Nd mayN sumP nodeV NodeAt PcsAt)
open Go.Proofs.YtgbenepapajieaaGreat.Pa (lessB parentB hasParentB lastB underB joinB StrsAt)
theorem guardE : Tryz.prog.eqGuardType Tryz.prog.depth 49 = false := by kernel_rfl
theorem equalE (x y : Ent) (w : World) : (Op.equalIn 10000 49 (aggE x) (aggE y)).run Tryz.prog w = .ok (decide (x = y)) w := by
  obtain ⟨v, n⟩ := x
  obtain ⟨v', n'⟩ := y
  have u3 := Tryz.underlying9
  have a3 := Tryz.isAgg9
  have z3 := Tryz.sizeOf9
  have u4 := Tryz.underlying3
  have a4 := Tryz.isAgg3
  have z4 := Tryz.sizeOf3
  have hS : Tryz.prog.underlying 49 = some (.struct (Tryz.prog.fieldsOf 49)) := by kernel_rfl
  have hp : Tryz.prog.stoodInHeld 49 = false := by kernel_rfl
  unfold aggE
  rw [show (10000 : Nat) = 9999 + 1 from rfl, run_equalIn_agg w 9999 49 _ _ hS hp]
  simp only [Program.fieldsOf, Tryz.underlying49]
  go_simp
  have e2 : (v.toList = v'.toList) = (v = v') := propext ⟨str_inj, fun e => by rw [e]⟩
  by_cases h1 : n = n' <;> by_cases h2 : v = v' <;> simp [h1, h2, e2]
theorem neqE (x y : Ent) (w : World) : Sem.run Tryz.prog (binOp .neq 49 (aggE x) (aggE y)) w = .ok (.bool (!decide (x = y))) w := by
  have h := equalE x y w
  unfold aggE at *
  rw [run_neq_struct]
  rw [h]
  rfl
theorem same_headE {a b : List Ent} (h : a.length = b.length) {k : Nat} (hk : k < a.length) (hs : a.take k = b.take k) (h1 : a[k] = b[k]) : a.take (k + 1) = b.take (k + 1) := by
  rw [List.take_succ_eq_append_getElem hk, List.take_succ_eq_append_getElem (by omega : k < b.length), hs, h1]
theorem same_noE {a b : List Ent} {k : Nat} (hk : k < a.length) (hk' : k < b.length) (h1 : ¬ a[k] = b[k]) : ¬ a = b := by
  intro e
  subst e
  exact h1 rfl
set_option maxRecDepth 100000 in
set_option maxHeartbeats 4000000 in
theorem equalEnts_any (va vb : Value) (a b : List Ent) (w : World) (ha : EntsAt w va a) (hb : EntsAt w vb b) :
    Calls Tryz.prog 50 #[va, vb] w fun e w' => e = .returned (.bool (decide (a = b))) ∧ Q w w' := by
  have la := ha.len
  have lb := hb.len
  obtain ⟨A, ca, rfl⟩ := ha.form
  obtain ⟨B, cb, rfl⟩ := hb.form
  by_cases hl : a.length = b.length
  · have t1 : ((a.length : Int) != (b.length : Int)) = false := by rw [bne_eq_false_iff_eq]; omega
    have E0 : Hid (a.take a.length = b.take a.length → a = b) := by intro h; rwa [List.take_length, hl, List.take_length] at h
    replace hl := Lib.hid hl
    unfold maxLen at la lb
    go_enter Tryz.func50, Tryz.ntmps50
    go_wp2
    go_loopw [5, 13] (fun _ i wr => ∃ k : Nat, i = .int .i64 k ∧ k ≤ a.length ∧ Q w wr ∧ Hid (a.take k = b.take k)) (fun _ i _ => a.length - (intOf i).toNat)
    case atStart => exact ⟨0, rfl, by omega, Q.refl _, rfl⟩
    case round =>
      obtain ⟨k, rfl, hk, hq, H⟩ := hrel
      by_cases hlt : k < a.length
      · have hlt' : k < b.length := by have := hl.out; omega
        obtain ⟨ga, oa, _, ea, _, _, hca⟩ := (ha.keep hq).at_ (by omega)
        obtain ⟨gb, ob, _, eb, _, _, hcb⟩ := (hb.keep hq).at_ (by omega)
        obtain ⟨rfl, -, rfl⟩ := Value.slice.inj ea
        obtain ⟨rfl, -, rfl⟩ := Value.slice.inj eb
        obtain ⟨c1, c2⟩ := hca k hlt
        obtain ⟨c3, c4⟩ := hcb k hlt'
        have En : Hid (¬ a[k] = b[k] → ¬ a = b) := same_noE hlt hlt'
        have Ey : Hid (a[k] = b[k] → a.take (k + 1) = b.take (k + 1)) := same_headE hl.out hlt H.out
        have hnq := fun w => neqE a[k] b[k] w
        unfold aggE at hnq
        have lt2 : (k : Int) < (a.length : Int) := by omega
        have lt3 : (k : Int) < (b.length : Int) := by omega
        clear hca hcb ha hb
        generalize a[k] = x at *
        generalize b[k] = y at *
        by_cases h1 : x = y
        · rw [decide_eq_true h1] at hnq
          have E1 := Lib.hid (Ey.out h1)
          simp only [Bool.not_true] at hnq
          clear h1 Ey En H
          go_wp2_with fail
          go_quiet (fail)
          go_wp2
          go_roundw
          case rel => exact ⟨k + 1, by go_num, by omega, (hq.drewN _), E1⟩
          case measure => simp [intOf]; omega
        · rw [decide_eq_false h1] at hnq
          have E1 := Lib.hid (En.out h1)
          simp only [Bool.not_false] at hnq
          clear h1 Ey En H
          go_wp2_with fail
          go_quiet (fail)
          go_wp2
          go_ret
          exact ⟨ret_bool (decide_eq_false E1.out).symm, hq.drewN _⟩
      · have : k = a.length := by omega
        subst this
        have E1 := Lib.hid (E0.out H.out)
        go_wp2
        go_ret
        exact ⟨ret_bool (decide_eq_true E1.out).symm, hq⟩
  · have t1 : ((a.length : Int) != (b.length : Int)) = true := by rw [bne_iff_ne]; omega
    have E0 : Hid (¬ a = b) := by intro e; exact hl (by rw [e])
    go_enter Tryz.func50, Tryz.ntmps50
    go_wp2
    go_ret
    exact ⟨ret_bool (decide_eq_false E0.out).symm, Q.refl _⟩

/-! ### slices.Index -/
def idxI (l : List Int) (x : Int) : Int := if x ∈ l then (l.idxOf x : Int) else -1
theorem idx_take {l : List Int} {x : Int} (k : Nat) (hk : k < l.length) (h : x ∉ l.take k) (h1 : l[k] = x) : idxI l x = k := by
  unfold idxI
  rw [if_pos (h1 ▸ List.getElem_mem hk)]
  have e : l = l.take k ++ (x :: l.drop (k + 1)) := by
    rw [← h1, List.getElem_cons_drop, List.take_append_drop]
  conv => lhs; rw [e]
  rw [List.idxOf_append, if_neg h, List.idxOf_cons_self, List.length_take]
  simp
  omega
theorem idx_none {l : List Int} {x : Int} (h : x ∉ l) : idxI l x = -1 := if_neg h
theorem notin_step {l : List Int} {x : Int} {k : Nat} (hk : k < l.length) (h : x ∉ l.take k) (h1 : ¬ l[k] = x) : x ∉ l.take (k + 1) := by
  rw [List.take_succ_eq_append_getElem hk, List.mem_append]
  rintro (h2 | h2)
  · exact h h2
  · exact h1 (List.mem_singleton.1 h2).symm
set_option maxRecDepth 100000 in
set_option maxHeartbeats 1000000 in
theorem index_any (v : Value) (l : List Int) (x : Int) (w : World) (h : RowAt cellsI 1 w v l) :
    Calls Tryz.prog 65 #[v, .int .i64 x] w fun e w' => e = .returned (.int .i64 (idxI l x)) ∧ w' = w := by
  have ll := h.len
  obtain ⟨A, c, rfl⟩ := h.form
  unfold maxLen at ll
  go_enter Tryz.func65, Tryz.ntmps65
  go_wp2
  go_loopw [5, 8] (fun _ i wr => ∃ k : Nat, i = .int .i64 k ∧ k ≤ l.length ∧ wr = w ∧ Hid (x ∉ l.take k)) (fun _ i _ => l.length - (intOf i).toNat)
  case atStart => exact ⟨0, rfl, by omega, rfl, fun h => by cases h⟩
  case round =>
    obtain ⟨k, rfl, hk, rfl, H⟩ := hrel
    by_cases hlt : k < l.length
    · obtain ⟨g, o, _, ea, _, _, hc⟩ := h.at_ (by omega)
      cases ea
      have c1 := hc k hlt 0 _ rfl
      rw [Nat.mul_one, Nat.add_zero] at c1
      have En : Hid (l[k] = x → idxI l x = k) := idx_take k hlt H.out
      have Ey : Hid (¬ l[k] = x → x ∉ l.take (k + 1)) := notin_step hlt H.out
      clear hc h H
      generalize l[k] = y at *
      by_cases hb : y = x
      · have E := Lib.hid (En.out hb)
        have t2 : (x == y) = true := beq_iff_eq.2 hb.symm
        clear En Ey hb
        go_wp2
        go_ret
        exact ⟨ret_int E.out.symm, rfl⟩
      · have E := Lib.hid (Ey.out hb)
        have t2 : (x == y) = false := beq_eq_false_iff_ne.2 fun e => hb e.symm
        clear En Ey hb
        go_wp2
        go_roundw
        case rel => exact ⟨k + 1, by go_num, by omega, trivial, E⟩
        case measure => simp [intOf]; omega
    · have E : Hid (idxI l x = -1) := idx_none (by have := H.out; rwa [List.take_of_length_le (by omega)] at this)
      clear H
      go_wp2
      go_ret
      exact ⟨ret_int E.out.symm, rfl⟩
theorem NodesAt.at3 {w : World} {v : Value} {l : List Nd} (h : NodesAt w v l) (hn : 0 < l.length) : ∃ g o cap, v = .slice (some ⟨g, o, none⟩) l.length cap ∧ l.length ≤ cap ∧ cap ≤ maxLen ∧
    ∀ i (h : i < l.length), ∃ (A1 A2 A3 : Option Addr) (n1 m1 n2 m2 n3 m3 : Nat), NodeAt w (nodeV l[i] (.slice A1 n1 m1) (.slice A2 n2 m2) (.slice A3 n3 m3)) l[i] ∧ w.cell? ⟨g, o + i * 12, none⟩ = some (.int .i64 l[i].kind) ∧ w.cell? ⟨g, o + i * 12 + 1, none⟩ = some (.int .i64 l[i].mt.mode) ∧ w.cell? ⟨g, o + i * 12 + 2, none⟩ = some (.int .i64 l[i].mt.uid) ∧ w.cell? ⟨g, o + i * 12 + 3, none⟩ = some (.int .i64 l[i].mt.gid) ∧ w.cell? ⟨g, o + i * 12 + 4, none⟩ = some (.int .i64 l[i].mt.time) ∧ w.cell? ⟨g, o + i * 12 + 5, none⟩ = some (.slice A1 n1 m1) ∧ w.cell? ⟨g, o + i * 12 + 6, none⟩ = some (.slice A2 n2 m2) ∧ w.cell? ⟨g, o + i * 12 + 7, none⟩ = some (.int .i64 l[i].size) ∧ w.cell? ⟨g, o + i * 12 + 8, none⟩ = some (.slice A3 n3 m3) ∧ w.cell? ⟨g, o + i * 12 + 9, none⟩ = some (.string l[i].target) ∧ w.cell? ⟨g, o + i * 12 + 10, none⟩ = some (.int .i64 l[i].major) ∧ w.cell? ⟨g, o + i * 12 + 11, none⟩ = some (.int .i64 l[i].minor) := by
  obtain ⟨rs, h, rfl, h4⟩ := h
  rw [List.length_map] at hn
  obtain ⟨g, o, cap, e, h1, h2, h3⟩ := RowAt.at_ h hn
  refine ⟨g, o, cap, by rw [List.length_map]; exact e, by rw [List.length_map]; exact h1, h2, fun i hi => ?_⟩
  rw [List.length_map] at hi
  rw [List.getElem_map]
  exact ⟨_, _, _, _, _, _, _, _, _, (h4 _ (List.getElem_mem hi)).node, h3 i hi 0 _ rfl, h3 i hi 1 _ rfl, h3 i hi 2 _ rfl, h3 i hi 3 _ rfl, h3 i hi 4 _ rfl, h3 i hi 5 _ rfl, h3 i hi 6 _ rfl, h3 i hi 7 _ rfl, h3 i hi 8 _ rfl, h3 i hi 9 _ rfl, h3 i hi 10 _ rfl, h3 i hi 11 _ rfl⟩
/-! ### slices.EqualFunc with node.Same -/
set_option maxRecDepth 100000 in
set_option maxHeartbeats 4000000 in
theorem equalNodes_any (va vb : Value) (a b : List Nd) (w : World) (ha : NodesAt w va a) (hb : NodesAt w vb b) :
    Calls Tryz.prog 51 #[va, vb, .func (.func 52) #[] #[]] w fun e w' => e = .returned (.bool (decide (a = b))) ∧ Q w w' := by
  have la := ha.len
  have lb := hb.len
  obtain ⟨A, ca, rfl⟩ := ha.form
  obtain ⟨B, cb, rfl⟩ := hb.form
  by_cases hl : a.length = b.length
  · have t1 : ((a.length : Int) != (b.length : Int)) = false := by rw [bne_eq_false_iff_eq]; omega
    have E0 : Hid (a.take a.length = b.take a.length → a = b) := by intro h; rwa [List.take_length, hl, List.take_length] at h
    replace hl := Lib.hid hl
    unfold maxLen at la lb
    go_enter Tryz.func51, Tryz.ntmps51
    go_wp2
    go_loopw [7, 17] (fun _ i wr => ∃ k : Nat, i = .int .i64 k ∧ k ≤ a.length ∧ Q w wr ∧ Hid (a.take k = b.take k)) (fun _ i _ => a.length - (intOf i).toNat)
    case atStart => exact ⟨0, rfl, by omega, Q.refl _, rfl⟩
    case round =>
      obtain ⟨k, rfl, hk, hq, H⟩ := hrel
      by_cases hlt : k < a.length
      · have hlt' : k < b.length := by have := hl.out; omega
        obtain ⟨ga, oa, _, ea, _, _, hca⟩ := (ha.keep hq).at3 (by omega)
        obtain ⟨gb, ob, _, eb, _, _, hcb⟩ := (hb.keep hq).at3 (by omega)
        obtain ⟨rfl, -, rfl⟩ := Value.slice.inj ea
        obtain ⟨rfl, -, rfl⟩ := Value.slice.inj eb
        obtain ⟨A1, A2, A3, n1, m1, n2, m2, n3, m3, hN, c0, c1, c2, c3, c4, c5, c6, c7, c8, c9, c10, c11⟩ := hca k hlt
        obtain ⟨B1, B2, B3, i1, j1, i2, j2, i3, j3, hM, d0, d1, d2, d3, d4, d5, d6, d7, d8, d9, d10, d11⟩ := hcb k hlt'
        have En : Hid (¬ a[k] = b[k] → ¬ a = b) := fun h e => h (by subst e; rfl)
        have Ey : Hid (a[k] = b[k] → a.take (k + 1) = b.take (k + 1)) := fun h => by
          rw [List.take_succ_eq_append_getElem hlt, List.take_succ_eq_append_getElem hlt', H.out, h]
        have HS : Hid (∀ w', Q wr w' → Calls Tryz.prog 52 #[nodeV a[k] (.slice A1 n1 m1) (.slice A2 n2 m2) (.slice A3 n3 m3), nodeV b[k] (.slice B1 i1 j1) (.slice B2 i2 j2) (.slice B3 i3 j3)] w' fun e w'' => e = .returned (.bool (decide (a[k] = b[k]))) ∧ Q w' w'') := fun w' q => Nd.sameN_any _ _ a[k] b[k] w' (hN.keep q) (hM.keep q)
        unfold nodeV at HS
        have lt2 : (k : Int) < (a.length : Int) := by omega
        have lt3 : (k : Int) < (b.length : Int) := by omega
        have hgb := World.block_lt_of_cell? wr _ d0
        clear hca hcb ha hb hN hM
        generalize a[k] = x at *
        generalize b[k] = y at *
        by_cases h1 : x = y
        · rw [decide_eq_true h1] at HS
          have E1 := Lib.hid (Ey.out h1)
          clear h1 Ey En H
          go_wp2_with fail
          refine (HS.out _ (((Q.refl _).alloc _).alloc _)).mono ?_
          rintro e w1 ⟨rfl, q1⟩
          replace q1 := hq.trans ((((Q.refl wr).alloc _).alloc _).trans q1)
          clear c0 c1 c2 c3 c4 c5 c6 c7 c8 c9 c10 c11 d0 d1 d2 d3 d4 d5 d6 d7 d8 d9 d10 d11 HS
          go_wp2
          go_roundw
          case rel => exact ⟨k + 1, by go_num, by omega, q1, E1⟩
          case measure => simp [intOf]; omega
        · rw [decide_eq_false h1] at HS
          have E1 := Lib.hid (En.out h1)
          clear h1 Ey En H
          go_wp2_with fail
          refine (HS.out _ (((Q.refl _).alloc _).alloc _)).mono ?_
          rintro e w1 ⟨rfl, q1⟩
          replace q1 := hq.trans ((((Q.refl wr).alloc _).alloc _).trans q1)
          clear c0 c1 c2 c3 c4 c5 c6 c7 c8 c9 c10 c11 d0 d1 d2 d3 d4 d5 d6 d7 d8 d9 d10 d11 HS
          go_wp2
          go_ret
          exact ⟨ret_bool (decide_eq_false E1.out).symm, q1⟩
      · have : k = a.length := by omega
        subst this
        have E1 := Lib.hid (E0.out H.out)
        go_wp2
        go_ret
        exact ⟨ret_bool (decide_eq_true E1.out).symm, hq⟩
  · have t1 : ((a.length : Int) != (b.length : Int)) = true := by rw [bne_iff_ne]; omega
    have E0 : Hid (¬ a = b) := by intro e; exact hl (by rw [e])
    go_enter Tryz.func51, Tryz.ntmps51
    go_wp2
    go_ret
    exact ⟨ret_bool (decide_eq_false E0.out).symm, Q.refl _⟩
end Go.Proofs.YtgbenepapajieaaGreat.Tr
