/-
  slices.SortFunc at lists of entries of a tree: the program bears the bodies that the contract asks for. slices.Sorted, slices.Sort and slices.Compact at strings: the program bears the bodies that the contracts ask for. Trees as plain mathematics: what is found, which may be, the normal form, a part. Trees in memory: entries, nodes.
-/
import Derived.Test.YtgbenepapajieaaGreatRows
import Derived.Shelf.SlSortCmp.NoneTotal
import Derived.Shelf.SlIter.Sorted
import Derived.Shelf.SortM.Plain
import Derived.Shelf.SortM.SortNone
import Derived.Shelf.Slices.CompactS
import Derived.Test.YtgbenepapajieaaGreatCmp
import Derived.Test.YtgbenepapajieaaGreatNTold
import Derived.Test.YtgbenepapajieaaGreatPRef2
namespace Go.Proofs
open Go.Shelf

def YtgbenepapajieaaGreat.sortE_ren : Go.Shelf.Ren := ⟨fun | 6 => 67 | 15 => 86 | 14 => 85 | 28 => 112 | 29 => 113 | 20 => 104 | 21 => 105 | 22 => 106 | 23 => 107 | 24 => 108 | 25 => 109 | 26 => 110 | 27 => 111 | 46 => 142 | 47 => 143 | 48 => 144 | 49 => 145 | 50 => 146 | 57 => 164 | n => n,
  fun | 22 => 22 | 24 => 49 | 25 => 92 | 3 => 3 | 39 => 51 | 0 => 0 | 53 => 121 | 55 => 123 | 4 => 4 | 46 => 115 | 45 => 114 | 50 => 32 | 5 => 5 | 9 => 9 | 66 => 138 | 70 => 142 | 76 => 151 | 77 => 152 | n => n,
  fun n => n⟩
theorem YtgbenepapajieaaGreat.sortE : Go.Proofs.SlLaysF0.n6 Tryz.prog YtgbenepapajieaaGreat.sortE_ren where
  mixed := by kernel_rfl
  f6 := ⟨Tryz.f67.name, by kernel_rfl, Tryz.func67.trans (congrArg some (by kernel_rfl))⟩
  f14 := ⟨Tryz.f85.name, by kernel_rfl, Tryz.func85.trans (congrArg some (by kernel_rfl))⟩
  f15 := Tryz.func86.trans (congrArg some (by kernel_rfl))
  f20 := ⟨Tryz.f104.name, by kernel_rfl, Tryz.func104.trans (congrArg some (by kernel_rfl))⟩
  f21 := ⟨Tryz.f105.name, by kernel_rfl, Tryz.func105.trans (congrArg some (by kernel_rfl))⟩
  f22 := ⟨Tryz.f106.name, by kernel_rfl, Tryz.func106.trans (congrArg some (by kernel_rfl))⟩
  f23 := ⟨Tryz.f107.name, by kernel_rfl, Tryz.func107.trans (congrArg some (by kernel_rfl))⟩
  f24 := ⟨Tryz.f108.name, by kernel_rfl, Tryz.func108.trans (congrArg some (by kernel_rfl))⟩
  f25 := ⟨Tryz.f109.name, by kernel_rfl, Tryz.func109.trans (congrArg some (by kernel_rfl))⟩
  f26 := ⟨Tryz.f110.name, by kernel_rfl, Tryz.func110.trans (congrArg some (by kernel_rfl))⟩
  f27 := ⟨Tryz.f111.name, by kernel_rfl, Tryz.func111.trans (congrArg some (by kernel_rfl))⟩
  f28 := Tryz.func112.trans (congrArg some (by kernel_rfl))
  f29 := Tryz.func113.trans (congrArg some (by kernel_rfl))
  f46 := ⟨Tryz.f142.name, by kernel_rfl, Tryz.func142.trans (congrArg some (by kernel_rfl))⟩
  f47 := Tryz.func143.trans (congrArg some (by kernel_rfl))
  f48 := Tryz.func144.trans (congrArg some (by kernel_rfl))
  f49 := ⟨Tryz.f145.name, by kernel_rfl, Tryz.func145.trans (congrArg some (by kernel_rfl))⟩
  f50 := ⟨Tryz.f146.name, by kernel_rfl, Tryz.func146.trans (congrArg some (by kernel_rfl))⟩
  f57 := ⟨Tryz.f164.name, by kernel_rfl, Tryz.func164.trans (congrArg some (by kernel_rfl))⟩
  t0 := Tryz.underlying0
  a0 := Tryz.isAgg0
  z0 := Tryz.sizeOf0
  v0 := Tryz.zeroValue0
  t3 := Tryz.underlying3
  a3 := Tryz.isAgg3
  z3 := Tryz.sizeOf3
  v3 := Tryz.zeroValue3
  t4 := Tryz.underlying4
  a4 := Tryz.isAgg4
  z4 := Tryz.sizeOf4
  v4 := Tryz.zeroValue4
  t5 := Tryz.underlying5
  a5 := Tryz.isAgg5
  z5 := Tryz.sizeOf5
  v5 := Tryz.zeroValue5
  t9 := Tryz.underlying9
  a9 := Tryz.isAgg9
  z9 := Tryz.sizeOf9
  v9 := Tryz.zeroValue9
  t22 := Tryz.underlying22
  a22 := Tryz.isAgg22
  z22 := Tryz.sizeOf22
  v22 := Tryz.zeroValue22
  t25 := Tryz.underlying92
  a25 := Tryz.isAgg92
  z25 := Tryz.sizeOf92
  v25 := Tryz.zeroValue92
  t39 := Tryz.underlying51
  a39 := Tryz.isAgg51
  z39 := Tryz.sizeOf51
  v39 := Tryz.zeroValue51
  t45 := Tryz.underlying114
  a45 := Tryz.isAgg114
  z45 := Tryz.sizeOf114
  v45 := Tryz.zeroValue114
  t46 := Tryz.underlying115
  a46 := Tryz.isAgg115
  z46 := Tryz.sizeOf115
  v46 := Tryz.zeroValue115
  t50 := Tryz.underlying32
  a50 := Tryz.isAgg32
  z50 := Tryz.sizeOf32
  v50 := Tryz.zeroValue32
  t53 := Tryz.underlying121
  a53 := Tryz.isAgg121
  z53 := Tryz.sizeOf121
  v53 := Tryz.zeroValue121
  t55 := Tryz.underlying123
  a55 := Tryz.isAgg123
  z55 := Tryz.sizeOf123
  v55 := Tryz.zeroValue123
  t66 := Tryz.underlying138
  a66 := Tryz.isAgg138
  z66 := Tryz.sizeOf138
  v66 := Tryz.zeroValue138
  t70 := Tryz.underlying142
  a70 := Tryz.isAgg142
  z70 := Tryz.sizeOf142
  v70 := Tryz.zeroValue142
  t76 := Tryz.underlying151
  a76 := Tryz.isAgg151
  z76 := Tryz.sizeOf151
  v76 := Tryz.zeroValue151
  t77 := Tryz.underlying152
  a77 := Tryz.isAgg152
  z77 := Tryz.sizeOf152
  v77 := Tryz.zeroValue152
end Go.Proofs
namespace Go.Proofs
open Go.Shelf

def YtgbenepapajieaaGreat.sortedZ_ren : Go.Shelf.Ren := ⟨fun | 6 => 40 | 8 => 70 | 9 => 71 | 11 => 88 | 13 => 86 | 12 => 89 | 23 => 112 | 24 => 113 | 14 => 114 | 15 => 115 | 16 => 116 | 17 => 117 | 18 => 118 | 19 => 119 | 20 => 120 | 21 => 121 | 22 => 122 | 25 => 147 | 26 => 143 | 27 => 144 | 28 => 148 | 29 => 149 | 30 => 150 | 31 => 165 | n => n,
  fun | 26 => 9 | 28 => 64 | 24 => 26 | 0 => 0 | 3 => 3 | 37 => 51 | 48 => 121 | 50 => 123 | 4 => 4 | 40 => 115 | 39 => 114 | 45 => 32 | 5 => 5 | 9 => 9 | 51 => 138 | 55 => 142 | 57 => 151 | 58 => 152 | 33 => 60 | n => n,
  fun | n => n⟩
theorem YtgbenepapajieaaGreat.sortedZ : Go.Proofs.SlLaysZ.n6 Tryz.prog YtgbenepapajieaaGreat.sortedZ_ren where
  mixed := by kernel_rfl
  f6 := ⟨Tryz.f40.name, by kernel_rfl, Tryz.func40.trans (congrArg some (by kernel_rfl))⟩
  f8 := ⟨Tryz.f70.name, by kernel_rfl, Tryz.func70.trans (congrArg some (by kernel_rfl))⟩
  f11 := ⟨Tryz.f88.name, by kernel_rfl, Tryz.func88.trans (congrArg some (by kernel_rfl))⟩
  t0 := Tryz.underlying0
  a0 := Tryz.isAgg0
  z0 := Tryz.sizeOf0
  v0 := Tryz.zeroValue0
  t24 := Tryz.underlying26
  a24 := Tryz.isAgg26
  z24 := Tryz.sizeOf26
  v24 := Tryz.zeroValue26
  t26 := Tryz.underlying9
  a26 := Tryz.isAgg9
  z26 := Tryz.sizeOf9
  v26 := Tryz.zeroValue9
  t28 := Tryz.underlying64
  a28 := Tryz.isAgg64
  z28 := Tryz.sizeOf64
  v28 := Tryz.zeroValue64
  i26 := by kernel_rfl
def YtgbenepapajieaaGreat.sortM_ren : Go.Shelf.Ren := ⟨fun | 6 => 71 | 8 => 86 | 9 => 89 | 19 => 112 | 20 => 113 | 21 => 114 | 22 => 115 | 23 => 116 | 24 => 117 | 25 => 118 | 26 => 119 | 27 => 120 | 28 => 121 | 29 => 122 | 36 => 147 | 31 => 143 | 32 => 144 | 37 => 148 | 38 => 149 | 39 => 150 | 41 => 165 | n => n,
  fun | 27 => 26 | 29 => 9 | 3 => 3 | 32 => 51 | 26 => 26 | 0 => 0 | 44 => 121 | 46 => 123 | 4 => 4 | 36 => 115 | 35 => 114 | 41 => 32 | 5 => 5 | 9 => 9 | 53 => 138 | 57 => 142 | 63 => 151 | 64 => 152 | n => n,
  fun | n => n⟩
theorem YtgbenepapajieaaGreat.sortM : Go.Proofs.SlLaysM.n6 Tryz.prog YtgbenepapajieaaGreat.sortM_ren where
  mixed := by kernel_rfl
  f6 := ⟨Tryz.f71.name, by kernel_rfl, Tryz.func71.trans (congrArg some (by kernel_rfl))⟩
  f8 := Tryz.func86.trans (congrArg some (by kernel_rfl))
  f9 := ⟨Tryz.f89.name, by kernel_rfl, Tryz.func89.trans (congrArg some (by kernel_rfl))⟩
  f19 := Tryz.func112.trans (congrArg some (by kernel_rfl))
  f20 := Tryz.func113.trans (congrArg some (by kernel_rfl))
  f21 := ⟨Tryz.f114.name, by kernel_rfl, Tryz.func114.trans (congrArg some (by kernel_rfl))⟩
  f22 := ⟨Tryz.f115.name, by kernel_rfl, Tryz.func115.trans (congrArg some (by kernel_rfl))⟩
  f23 := ⟨Tryz.f116.name, by kernel_rfl, Tryz.func116.trans (congrArg some (by kernel_rfl))⟩
  f24 := ⟨Tryz.f117.name, by kernel_rfl, Tryz.func117.trans (congrArg some (by kernel_rfl))⟩
  f25 := ⟨Tryz.f118.name, by kernel_rfl, Tryz.func118.trans (congrArg some (by kernel_rfl))⟩
  f26 := ⟨Tryz.f119.name, by kernel_rfl, Tryz.func119.trans (congrArg some (by kernel_rfl))⟩
  f27 := ⟨Tryz.f120.name, by kernel_rfl, Tryz.func120.trans (congrArg some (by kernel_rfl))⟩
  f28 := ⟨Tryz.f121.name, by kernel_rfl, Tryz.func121.trans (congrArg some (by kernel_rfl))⟩
  f29 := ⟨Tryz.f122.name, by kernel_rfl, Tryz.func122.trans (congrArg some (by kernel_rfl))⟩
  f31 := Tryz.func143.trans (congrArg some (by kernel_rfl))
  f32 := Tryz.func144.trans (congrArg some (by kernel_rfl))
  f36 := ⟨Tryz.f147.name, by kernel_rfl, Tryz.func147.trans (congrArg some (by kernel_rfl))⟩
  f37 := ⟨Tryz.f148.name, by kernel_rfl, Tryz.func148.trans (congrArg some (by kernel_rfl))⟩
  f38 := ⟨Tryz.f149.name, by kernel_rfl, Tryz.func149.trans (congrArg some (by kernel_rfl))⟩
  f39 := ⟨Tryz.f150.name, by kernel_rfl, Tryz.func150.trans (congrArg some (by kernel_rfl))⟩
  f41 := ⟨Tryz.f165.name, by kernel_rfl, Tryz.func165.trans (congrArg some (by kernel_rfl))⟩
  t0 := Tryz.underlying0
  a0 := Tryz.isAgg0
  z0 := Tryz.sizeOf0
  v0 := Tryz.zeroValue0
  t3 := Tryz.underlying3
  a3 := Tryz.isAgg3
  z3 := Tryz.sizeOf3
  v3 := Tryz.zeroValue3
  t4 := Tryz.underlying4
  a4 := Tryz.isAgg4
  z4 := Tryz.sizeOf4
  v4 := Tryz.zeroValue4
  t5 := Tryz.underlying5
  a5 := Tryz.isAgg5
  z5 := Tryz.sizeOf5
  v5 := Tryz.zeroValue5
  t9 := Tryz.underlying9
  a9 := Tryz.isAgg9
  z9 := Tryz.sizeOf9
  v9 := Tryz.zeroValue9
  t26 := Tryz.underlying26
  a26 := Tryz.isAgg26
  z26 := Tryz.sizeOf26
  v26 := Tryz.zeroValue26
  t27 := Tryz.underlying26
  a27 := Tryz.isAgg26
  z27 := Tryz.sizeOf26
  v27 := Tryz.zeroValue26
  t29 := Tryz.underlying9
  a29 := Tryz.isAgg9
  z29 := Tryz.sizeOf9
  v29 := Tryz.zeroValue9
  t32 := Tryz.underlying51
  a32 := Tryz.isAgg51
  z32 := Tryz.sizeOf51
  v32 := Tryz.zeroValue51
  t35 := Tryz.underlying114
  a35 := Tryz.isAgg114
  z35 := Tryz.sizeOf114
  v35 := Tryz.zeroValue114
  t36 := Tryz.underlying115
  a36 := Tryz.isAgg115
  z36 := Tryz.sizeOf115
  v36 := Tryz.zeroValue115
  t41 := Tryz.underlying32
  a41 := Tryz.isAgg32
  z41 := Tryz.sizeOf32
  v41 := Tryz.zeroValue32
  t44 := Tryz.underlying121
  a44 := Tryz.isAgg121
  z44 := Tryz.sizeOf121
  v44 := Tryz.zeroValue121
  t46 := Tryz.underlying123
  a46 := Tryz.isAgg123
  z46 := Tryz.sizeOf123
  v46 := Tryz.zeroValue123
  t53 := Tryz.underlying138
  a53 := Tryz.isAgg138
  z53 := Tryz.sizeOf138
  v53 := Tryz.zeroValue138
  t57 := Tryz.underlying142
  a57 := Tryz.isAgg142
  z57 := Tryz.sizeOf142
  v57 := Tryz.zeroValue142
  t63 := Tryz.underlying151
  a63 := Tryz.isAgg151
  z63 := Tryz.sizeOf151
  v63 := Tryz.zeroValue151
  t64 := Tryz.underlying152
  a64 := Tryz.isAgg152
  z64 := Tryz.sizeOf152
  v64 := Tryz.zeroValue152
def YtgbenepapajieaaGreat.compact_ren : Go.Shelf.Ren := ⟨fun | 194 => 39 | n => n,
  fun | 31 => 26 | 9 => 9 | 3 => 3 | 4 => 4 | 0 => 0 | n => n,
  fun | n => n⟩
theorem YtgbenepapajieaaGreat.compact : Go.Proofs.Lays.n194 Tryz.prog YtgbenepapajieaaGreat.compact_ren where
  mixed := by kernel_rfl
  f194 := Tryz.func39.trans (congrArg some (by kernel_rfl))
  t0 := Tryz.underlying0
  a0 := Tryz.isAgg0
  z0 := Tryz.sizeOf0
  v0 := Tryz.zeroValue0
  t3 := Tryz.underlying3
  a3 := Tryz.isAgg3
  z3 := Tryz.sizeOf3
  v3 := Tryz.zeroValue3
  t4 := Tryz.underlying4
  a4 := Tryz.isAgg4
  z4 := Tryz.sizeOf4
  v4 := Tryz.zeroValue4
  t9 := Tryz.underlying9
  a9 := Tryz.isAgg9
  z9 := Tryz.sizeOf9
  v9 := Tryz.zeroValue9
  t31 := Tryz.underlying26
  a31 := Tryz.isAgg26
  z31 := Tryz.sizeOf26
  v31 := Tryz.zeroValue26
end Go.Proofs
namespace Go.Proofs.YtgbenepapajieaaGreat.Tr
open Go.RowKit
open Go.Proofs.YtgbenepapajieaaGreat.Nd (Nd mayN sumP)
open Go.Proofs.YtgbenepapajieaaGreat.Pa (lessB parentB hasParentB lastB underB joinB)

/-- An entry: its path, its node's number. -/
abbrev Ent := ByteArray × Int
theorem tl_eq (a b : ByteArray) : (a.toList == b.toList) = decide (a = b) := by
  rw [Bool.eq_iff_iff, decide_eq_true_eq, beq_iff_eq]
  constructor
  · intro h
    rw [ByteArray.toList_eq, ByteArray.toList_eq] at h
    exact Pa.bs_eq h
  · rintro rfl; rfl

/-! ### What is found -/
def findE : List Ent → ByteArray → Option Int
  | [], _ => none
  | e :: r, p => if e.1 = p then some e.2 else findE r p
def kidB (p : ByteArray) (e : Ent) : Bool := hasParentB e.1 && decide (parentB e.1 = p)
def kidsE (es : List Ent) (p : ByteArray) : List ByteArray := (es.filter (kidB p)).map fun e => lastB e.1
def classE (es : List Ent) (n : Int) : List ByteArray := (es.filter fun e => decide (e.2 = n)).map (·.1)
def classT (es : List Ent) (p : ByteArray) : List ByteArray := match findE es p with | some n => classE es n | none => []
def sumN (ns : List Nd) : Nat := (ns.map fun n => sumP n.data).sum
theorem findE_take {es : List Ent} {p : ByteArray} {k : Nat} (hk : k < es.length) (h : findE (es.drop k) p = findE es p) (h1 : es[k].1 ≠ p) : findE (es.drop (k + 1)) p = findE es p := by
  rw [← h, List.drop_eq_getElem_cons hk]
  simp [findE, h1]
theorem findE_here {es : List Ent} {p : ByteArray} {k : Nat} (hk : k < es.length) (h : findE (es.drop k) p = findE es p) (h1 : es[k].1 = p) : findE es p = some es[k].2 := by
  rw [← h, List.drop_eq_getElem_cons hk]
  simp [findE, h1]
theorem findE_mem {es : List Ent} {p : ByteArray} {n : Int} (h : findE es p = some n) : (p, n) ∈ es := by
  induction es with
  | nil => cases h
  | cons e r ih =>
    unfold findE at h
    split at h
    · rename_i h1; cases h; subst h1; exact List.mem_cons_self
    · exact List.mem_cons_of_mem _ (ih h)
theorem findE_none {es : List Ent} {p : ByteArray} : findE es p = none ↔ ∀ e ∈ es, e.1 ≠ p := by
  induction es with
  | nil => simp [findE]
  | cons e r ih =>
    unfold findE
    split
    · rename_i h; simp [h]
    · rename_i h; rw [ih]; simp [h]
theorem filter_snoc {α : Type} {l : List α} {f : α → Bool} {k : Nat} (hk : k < l.length) : (l.take (k + 1)).filter f = (l.take k).filter f ++ (if f l[k] then [l[k]] else []) := by
  rw [List.take_succ_eq_append_getElem hk, List.filter_append]
  congr 1
  cases h : f l[k] <;> simp [h]

/-! ### Which may be -/
def rise : Option ByteArray → List Ent → Bool
  | _, [] => true
  | q, e :: r => Pa.mayB e.1 && (match q with | none => true | some q => lessB q e.1) && rise (some e.1) r
def isd (ns : List Nd) (k : Nat) : Bool := match ns[k]? with | some n => n.kind == 1 | none => false
def numb (ns : List Nd) : Nat → List Ent → Option Nat
  | u, [] => some u
  | u, e :: r => if e.2 = u ∧ u < ns.length then numb ns (u + 1) r else if e.2 < 0 ∨ (u : Int) ≤ e.2 ∨ isd ns e.2.toNat = true then none else numb ns u r
def numE (es : List Ent) (ns : List Nd) : Bool := decide (numb ns 0 es = some ns.length)
def isDir (es : List Ent) (ns : List Nd) (p : ByteArray) : Bool := match findE es p with | some n => isd ns n.toNat | none => false
def houseB (es : List Ent) (ns : List Nd) (e : Ent) : Bool := hasParentB e.1 && isDir es ns (parentB e.1)
def housed (es : List Ent) (ns : List Nd) : Bool := isDir es ns ⟨#[]⟩ && (es.drop 1).all (houseB es ns)
def mayT (es : List Ent) (ns : List Nd) : Bool := decide (es.length ≤ 100) && rise none es && numE es ns && ns.all mayN && housed es ns
def placed (es : List Ent) (ns : List Nd) : Bool := es.all fun e => decide (0 ≤ e.2) && decide (e.2 < ns.length)

/-! ### The normal form -/
def ins (e : Ent) : List Ent → List Ent
  | [] => [e]
  | x :: r => if lessB e.1 x.1 then e :: x :: r else x :: ins e r
def isort (l : List Ent) : List Ent := l.foldl (fun r e => ins e r) []
/-- The numbers in the order in which they come up first. -/
def olds : List Int → List Ent → List Int
  | o, [] => o
  | o, e :: r => if e.2 ∈ o then olds o r else olds (o ++ [e.2]) r
def nodeAt (ns : List Nd) (k : Int) : Nd := (ns[k.toNat]?).getD ⟨0, ⟨0, 0, 0, 0, [], []⟩, 0, [], ⟨#[]⟩, 0, 0⟩
def numEnts (o : List Int) (l : List Ent) : List Ent := l.map fun e => (e.1, (o.idxOf e.2 : Int))
def numT (l : List Ent) (ns : List Nd) : List Ent × List Nd := (numEnts (olds [] l) l, (olds [] l).map (nodeAt ns))
def mayN2 (t : List Ent × List Nd) : Bool := mayT t.1 t.2
def normT (es : List Ent) (ns : List Nd) : Option (List Ent × List Nd) :=
  if es.length ≤ 100 ∧ placed es ns = true ∧ mayN2 (numT (isort es) ns) = true then some (numT (isort es) ns) else none
def sameT (x y : Option (List Ent × List Nd)) : Bool := x.isSome && y.isSome && decide (x = y)
def neededB (tops : List ByteArray) (e : Ent) : Bool := decide (e.1 = ⟨#[]⟩) || tops.any fun t => underB e.1 t || underB t e.1
def partE (es : List Ent) (tops : List ByteArray) : List Ent := es.filter (neededB tops)
def hasB (es : List Ent) (tops : List ByteArray) : Bool := tops.all fun t => (findE es t).isSome
/-- What comes of a tree and a code: the empty tree beside an error. -/
def resT (x : Option (List Ent × List Nd)) : List Ent × List Nd := x.getD ([], [])
def resC (x : Option (List Ent × List Nd)) : Int := if x.isSome then 0 else 1
def partT (es : List Ent) (ns : List Nd) (tops : List ByteArray) : (List Ent × List Nd) × Int :=
  if mayT es ns then (if hasB es tops then (resT (normT (partE es tops) ns), resC (normT (partE es tops) ns)) else (([], []), 7)) else (([], []), 1)

/-! ### rise, and what is sorted -/
theorem lessB_irrefl (a : ByteArray) : lessB a a = false := by
  cases h : lessB a a with
  | false => rfl
  | true => exact absurd h (Pa.Pth.lp_irrefl _)
theorem lessB_asymm {a b : ByteArray} (h : lessB a b = true) : lessB b a = false := by
  cases h1 : lessB b a with
  | false => rfl
  | true => exact absurd h1 (Pa.Pth.lp_asymm _ _ h)
theorem lessB_trans {a b c : ByteArray} (h : lessB a b = true) (k : lessB b c = true) : lessB a c = true := Pa.Pth.lp_trans _ _ _ h k
theorem lessB_ntrans {a b c : ByteArray} (h : lessB a b = false) (k : lessB b c = false) : lessB a c = false := by
  cases h1 : lessB a c with
  | false => rfl
  | true =>
    exfalso
    unfold Pa.lessB Pa.Pth.lessL at *
    rcases Pa.Pth.lp_total (Pa.Pth.partsL a.data.toList) (Pa.Pth.partsL b.data.toList) with q | q | q
    · rw [q] at h; cases h
    · rw [q] at h1; rw [h1] at k; cases k
    · rw [Pa.Pth.lp_trans _ _ _ q h1] at k; cases k
theorem rise_some {q : ByteArray} {l : List Ent} : rise (some q) l = true → ∀ e ∈ l, Pa.mayB e.1 = true ∧ lessB q e.1 = true := by
  induction l generalizing q with
  | nil => intro _ e he; cases he
  | cons x r ih =>
    intro h e he
    simp only [rise, Bool.and_eq_true] at h
    rcases List.mem_cons.1 he with rfl | he
    · exact h.1
    · have := ih h.2 e he
      exact ⟨this.1, lessB_trans h.1.2 this.2⟩
/-- Strictly rising, all valid. -/
def Rising (l : List Ent) : Prop := (∀ e ∈ l, Pa.mayB e.1 = true) ∧ l.Pairwise fun x y => lessB x.1 y.1 = true
theorem rise_cons {q : Option ByteArray} {x : Ent} {r : List Ent} (h : rise q (x :: r) = true) : Rising (x :: r) := by
  induction r generalizing q x with
  | nil =>
    simp only [rise, Bool.and_eq_true] at h
    exact ⟨fun e he => by simp at he; rw [he]; exact h.1.1, List.pairwise_singleton _ _⟩
  | cons y r ih =>
    have h2 := h
    unfold rise at h2
    simp only [Bool.and_eq_true] at h2
    have h3 := ih h2.2
    refine ⟨fun e he => ?_, List.pairwise_cons.2 ⟨fun e he => (rise_some h2.2 e he).2, h3.2⟩⟩
    rcases List.mem_cons.1 he with rfl | he
    · exact h2.1.1
    · exact h3.1 e he
theorem rise_iff (l : List Ent) : rise none l = true ↔ Rising l := by
  constructor
  · intro h
    cases l with
    | nil => exact ⟨fun e he => (by cases he), List.Pairwise.nil⟩
    | cons x r => exact rise_cons h
  · have key : ∀ (r : List Ent) (q : Option ByteArray), Rising r → (∀ p, q = some p → ∀ e ∈ r, lessB p e.1 = true) → rise q r = true := by
      intro r
      induction r with
      | nil => intros; rfl
      | cons x r ih =>
        intro q h hq
        have hp := List.pairwise_cons.1 h.2
        have h3 := ih (some x.1) ⟨fun e he => h.1 e (List.mem_cons_of_mem _ he), hp.2⟩ (by rintro p ⟨rfl⟩ e he; exact hp.1 e he)
        unfold rise
        rw [h.1 x List.mem_cons_self, h3]
        cases q with
        | none => rfl
        | some p => simp [hq p rfl x List.mem_cons_self]
    exact fun h => key l none h (by rintro p ⟨⟩)
theorem sorted_unique {l m : List Ent} (hp : l.Perm m) (hl : l.Pairwise fun x y => lessB y.1 x.1 = false) (hm : Rising m) : l = m := by
  induction m generalizing l with
  | nil => exact List.Perm.eq_nil hp
  | cons y r ih =>
    cases l with
    | nil => exact (List.Perm.nil_eq hp)
    | cons x t =>
      have hl' := List.pairwise_cons.1 hl
      have hm' := List.pairwise_cons.1 hm.2
      have e : x = y := by
        rcases List.mem_cons.1 (hp.mem_iff.1 List.mem_cons_self : x ∈ y :: r) with h | h
        · exact h
        · have h1 := hm'.1 x h
          rcases List.mem_cons.1 (hp.mem_iff.2 List.mem_cons_self : y ∈ x :: t) with h2 | h2
          · exact h2.symm
          · rw [hl'.1 y h2] at h1; cases h1
      subst e
      rw [ih ((List.perm_cons x).1 hp) hl'.2 ⟨fun e he => hm.1 e (List.mem_cons_of_mem _ he), hm'.2⟩]
theorem rising_weak {l : List Ent} (h : Rising l) : l.Pairwise fun x y => lessB y.1 x.1 = false := h.2.imp fun h => lessB_asymm h
theorem ins_perm (e : Ent) (l : List Ent) : (ins e l).Perm (e :: l) := by
  induction l with
  | nil => exact List.Perm.refl _
  | cons x r ih =>
    unfold ins
    split
    · exact List.Perm.refl _
    · exact (List.Perm.cons x ih).trans (List.Perm.swap e x r)
theorem ins_sorted (e : Ent) {l : List Ent} (h : l.Pairwise fun x y => lessB y.1 x.1 = false) : (ins e l).Pairwise fun x y => lessB y.1 x.1 = false := by
  induction l with
  | nil => exact List.pairwise_singleton _ _
  | cons x r ih =>
    have h' := List.pairwise_cons.1 h
    unfold ins
    split
    · rename_i hx
      refine List.pairwise_cons.2 ⟨fun y hy => ?_, h⟩
      rcases List.mem_cons.1 hy with rfl | hy
      · exact lessB_asymm hx
      · exact lessB_ntrans (h'.1 y hy) (lessB_asymm hx)
    · rename_i hx
      refine List.pairwise_cons.2 ⟨fun y hy => ?_, ih h'.2⟩
      rcases List.mem_cons.1 ((ins_perm e r).mem_iff.1 hy) with rfl | hy
      · simpa using hx
      · exact h'.1 y hy
theorem isort_go (l : List Ent) : ∀ r : List Ent, (r.Pairwise fun x y => lessB y.1 x.1 = false) → (l.foldl (fun r e => ins e r) r).Perm (r ++ l) ∧ (l.foldl (fun r e => ins e r) r).Pairwise fun x y => lessB y.1 x.1 = false := by
  induction l with
  | nil => intro r h; simp only [List.foldl_nil, List.append_nil]; exact ⟨List.Perm.refl _, h⟩
  | cons e l ih =>
    intro r h
    obtain ⟨h1, h2⟩ := ih (ins e r) (ins_sorted e h)
    refine ⟨h1.trans ?_, h2⟩
    refine ((ins_perm e r).append_right l).trans ?_
    simpa using (List.perm_middle (l₁ := r) (a := e) (l₂ := l)).symm
theorem isort_perm (l : List Ent) : (isort l).Perm l := (isort_go l [] List.Pairwise.nil).1
theorem isort_sorted (l : List Ent) : (isort l).Pairwise fun x y => lessB y.1 x.1 = false := (isort_go l [] List.Pairwise.nil).2
theorem isort_of {l r : List Ent} (hp : r.Perm l) (hr : Rising r) : isort l = r := sorted_unique ((isort_perm l).trans hp.symm) (isort_sorted l) hr
theorem isort_self {l : List Ent} (h : Rising l) : isort l = l := isort_of (List.Perm.refl _) h

/-! ### Numbers -/
theorem numEnts_fst (o : List Int) (l : List Ent) : (numEnts o l).map (·.1) = l.map (·.1) := by
  unfold numEnts
  rw [List.map_map]
  rfl
theorem rising_fst {l m : List Ent} (h : l.map (·.1) = m.map (·.1)) (hm : Rising m) : Rising l := by
  have key : ∀ (x : List Ent), Rising x ↔ (∀ p ∈ x.map (·.1), Pa.mayB p = true) ∧ (x.map (·.1)).Pairwise fun p q => lessB p q = true := by
    intro x
    unfold Rising
    rw [List.pairwise_map]
    simp
  rw [key] at hm ⊢
  rw [h]
  exact hm
theorem mayT_rising {es : List Ent} {ns : List Nd} (h : mayT es ns = true) : Rising es := by
  unfold mayT at h
  simp only [Bool.and_eq_true] at h
  exact (rise_iff es).1 h.1.1.1.2
theorem numT_rising {l : List Ent} {ns : List Nd} (h : mayN2 (numT l ns) = true) : Rising l := rising_fst (numEnts_fst _ _).symm (mayT_rising h)
/-- Whatever order a sort leaves of entries alike: the same answer. -/
theorem may_sorted {es r : List Ent} {ns : List Nd} (hp : r.Perm es) (hs : r.Pairwise fun x y => lessB y.1 x.1 = false) :
    mayN2 (numT r ns) = mayN2 (numT (isort es) ns) ∧ (mayN2 (numT r ns) = true → numT r ns = numT (isort es) ns) := by
  have a1 : mayN2 (numT r ns) = true → isort es = r := fun h => isort_of hp (numT_rising h)
  have a2 : mayN2 (numT (isort es) ns) = true → r = isort es := fun h => sorted_unique (hp.trans (isort_perm es).symm) hs (numT_rising h)
  refine ⟨?_, fun h => by rw [a1 h]⟩
  cases h1 : mayN2 (numT r ns) with
  | true => rw [a1 h1, h1]
  | false =>
    cases h2 : mayN2 (numT (isort es) ns) with
    | true => rw [a2 h2, h2] at h1; cases h1
    | false => rfl
end Go.Proofs.YtgbenepapajieaaGreat.Tr
namespace Go.Proofs.YtgbenepapajieaaGreat.Tr
open Go.RowKit
open Go.Proofs.YtgbenepapajieaaGreat.Nd (Nd mayN sumP nodeV NodeAt PcsAt)

/-! ### Entries -/
def cellsE (e : Ent) : List Value := [.string e.1, .int .i64 e.2]
theorem flatE : Flat cellsE 2 where
  len _ := rfl
  one e u hu := by simp only [cellsE, List.mem_cons, List.not_mem_nil, or_false] at hu; rcases hu with rfl | rfl <;> rfl
  pos := by decide
def aggE (e : Ent) : Value := .agg #[.string e.1, .int .i64 e.2]
/-- A slice value that reads as these entries. -/
def EntsAt (w : World) (v : Value) (l : List Ent) : Prop := RowAt cellsE 2 w v l
theorem EntsAt.form {w : World} {v : Value} {l : List Ent} (h : EntsAt w v l) : ∃ A c, v = .slice A l.length c := RowAt.form h
theorem EntsAt.len {w : World} {v : Value} {l : List Ent} (h : EntsAt w v l) : l.length ≤ maxLen := RowAt.len h
theorem EntsAt.keep {w w' : World} {v : Value} {l : List Ent} (h : EntsAt w v l) (q : Q w w') : EntsAt w' v l := RowAt.keep h q
theorem EntsAt.nil_ (w : World) : EntsAt w (.slice none 0 0) [] := RowAt.nil_ w
theorem EntsAt.at_ {w : World} {v : Value} {l : List Ent} (h : EntsAt w v l) (hn : 0 < l.length) : ∃ g o cap, v = .slice (some ⟨g, o, none⟩) l.length cap ∧ l.length ≤ cap ∧ cap ≤ maxLen ∧
    ∀ i (h : i < l.length), w.cell? ⟨g, o + i * 2, none⟩ = some (.string l[i].1) ∧ w.cell? ⟨g, o + i * 2 + 1, none⟩ = some (.int .i64 l[i].2) := by
  obtain ⟨g, o, cap, e, h1, h2, h3⟩ := RowAt.at_ h hn
  exact ⟨g, o, cap, e, h1, h2, fun i hi => ⟨h3 i hi 0 _ rfl, h3 i hi 1 _ rfl⟩⟩

/-! ### Nodes -/
/-- A slice value's three parts. -/
abbrev Sl := Option Addr × Nat × Nat
def slv (s : Sl) : Value := .slice s.1 s.2.1 s.2.2
/-- A node and the slices that its cells hold. -/
structure NV where
  n : Nd
  a : Sl
  l : Sl
  d : Sl
def cellsN (x : NV) : List Value := [.int .i64 x.n.kind, .int .i64 x.n.mt.mode, .int .i64 x.n.mt.uid, .int .i64 x.n.mt.gid, .int .i64 x.n.mt.time, slv x.a, slv x.l, .int .i64 x.n.size, slv x.d, .string x.n.target, .int .i64 x.n.major, .int .i64 x.n.minor]
theorem flatN : Flat cellsN 12 where
  len _ := rfl
  one e u hu := by simp only [cellsN, List.mem_cons, List.not_mem_nil, or_false] at hu; rcases hu with rfl | rfl | rfl | rfl | rfl | rfl | rfl | rfl | rfl | rfl | rfl | rfl <;> rfl
  pos := by decide
/-- What the slices of a node hold. -/
def InN (w : World) (x : NV) : Prop := AtsAt w (slv x.a) x.n.mt.attrs ∧ AcesAt w (slv x.l) x.n.mt.acl ∧ PcsAt w (slv x.d) x.n.data
theorem InN.keep {w w' : World} {x : NV} (h : InN w x) (q : Q w w') : InN w' x := ⟨h.1.keep q, h.2.1.keep q, h.2.2.keep q⟩
theorem InN.node {w : World} {x : NV} (h : InN w x) : NodeAt w (.agg (cellsN x).toArray) x.n := ⟨_, _, _, rfl, h.1, h.2.1, h.2.2⟩
theorem node_nv {w : World} {v : Value} {n : Nd} (h : NodeAt w v n) : ∃ x : NV, x.n = n ∧ v = .agg (cellsN x).toArray ∧ InN w x := by
  obtain ⟨va, vl, vd, rfl, h1, h2, h3⟩ := h
  obtain ⟨A, c, rfl⟩ := h1.form
  obtain ⟨B, d, rfl⟩ := h2.form
  obtain ⟨C, e, rfl⟩ := h3.form
  exact ⟨⟨n, (A, _, c), (B, _, d), (C, _, e)⟩, rfl, rfl, h1, h2, h3⟩
/-- A slice value that reads as these nodes. -/
def NodesAt (w : World) (v : Value) (ns : List Nd) : Prop := ∃ rs : List NV, RowAt cellsN 12 w v rs ∧ rs.map (·.n) = ns ∧ ∀ x ∈ rs, InN w x
theorem NodesAt.form {w : World} {v : Value} {l : List Nd} (h : NodesAt w v l) : ∃ A c, v = .slice A l.length c := by
  obtain ⟨rs, h, rfl, _⟩ := h
  rw [List.length_map]
  exact RowAt.form h
theorem NodesAt.len {w : World} {v : Value} {l : List Nd} (h : NodesAt w v l) : l.length ≤ maxLen := by
  obtain ⟨rs, h, rfl, _⟩ := h
  rw [List.length_map]
  exact RowAt.len h
theorem NodesAt.keep {w w' : World} {v : Value} {l : List Nd} (h : NodesAt w v l) (q : Q w w') : NodesAt w' v l := by
  obtain ⟨rs, h, e, h2⟩ := h
  exact ⟨rs, RowAt.keep h q, e, fun x hx => (h2 x hx).keep q⟩
theorem NodesAt.nil_ (w : World) : NodesAt w (.slice none 0 0) [] := ⟨[], RowAt.nil_ w, rfl, fun x hx => by cases hx⟩
theorem NodesAt.at_ {w : World} {v : Value} {l : List Nd} (h : NodesAt w v l) (hn : 0 < l.length) : ∃ g o cap, v = .slice (some ⟨g, o, none⟩) l.length cap ∧ l.length ≤ cap ∧ cap ≤ maxLen ∧
    ∀ i (h : i < l.length), ∃ va vl vd, NodeAt w (nodeV l[i] va vl vd) l[i] ∧ w.cell? ⟨g, o + i * 12, none⟩ = some (.int .i64 l[i].kind) ∧ w.cell? ⟨g, o + i * 12 + 1, none⟩ = some (.int .i64 l[i].mt.mode) ∧ w.cell? ⟨g, o + i * 12 + 2, none⟩ = some (.int .i64 l[i].mt.uid) ∧ w.cell? ⟨g, o + i * 12 + 3, none⟩ = some (.int .i64 l[i].mt.gid) ∧ w.cell? ⟨g, o + i * 12 + 4, none⟩ = some (.int .i64 l[i].mt.time) ∧ w.cell? ⟨g, o + i * 12 + 5, none⟩ = some va ∧ w.cell? ⟨g, o + i * 12 + 6, none⟩ = some vl ∧ w.cell? ⟨g, o + i * 12 + 7, none⟩ = some (.int .i64 l[i].size) ∧ w.cell? ⟨g, o + i * 12 + 8, none⟩ = some vd ∧ w.cell? ⟨g, o + i * 12 + 9, none⟩ = some (.string l[i].target) ∧ w.cell? ⟨g, o + i * 12 + 10, none⟩ = some (.int .i64 l[i].major) ∧ w.cell? ⟨g, o + i * 12 + 11, none⟩ = some (.int .i64 l[i].minor) := by
  obtain ⟨rs, h, rfl, h4⟩ := h
  rw [List.length_map] at hn
  obtain ⟨g, o, cap, e, h1, h2, h3⟩ := RowAt.at_ h hn
  refine ⟨g, o, cap, by rw [List.length_map]; exact e, by rw [List.length_map]; exact h1, h2, fun i hi => ?_⟩
  rw [List.length_map] at hi
  rw [List.getElem_map]
  exact ⟨_, _, _, (h4 _ (List.getElem_mem hi)).node, h3 i hi 0 _ rfl, h3 i hi 1 _ rfl, h3 i hi 2 _ rfl, h3 i hi 3 _ rfl, h3 i hi 4 _ rfl, h3 i hi 5 _ rfl, h3 i hi 6 _ rfl, h3 i hi 7 _ rfl, h3 i hi 8 _ rfl, h3 i hi 9 _ rfl, h3 i hi 10 _ rfl, h3 i hi 11 _ rfl⟩

/-! ### Trees -/
/-- A tree: its entries, its nodes. -/
abbrev Tree := List Ent × List Nd
def TreeAt (w : World) (v : Value) (t : Tree) : Prop := ∃ ve vn, v = .agg #[ve, vn] ∧ EntsAt w ve t.1 ∧ NodesAt w vn t.2
theorem TreeAt.keep {w w' : World} {v : Value} {t : Tree} (h : TreeAt w v t) (q : Q w w') : TreeAt w' v t := by
  obtain ⟨ve, vn, e, h1, h2⟩ := h
  exact ⟨ve, vn, e, h1.keep q, h2.keep q⟩
theorem TreeAt.nil_ (w : World) : TreeAt w (.agg #[.slice none 0 0, .slice none 0 0]) ([], []) := ⟨_, _, rfl, EntsAt.nil_ w, NodesAt.nil_ w⟩
/-- What bounds a tree for the machine. -/
structure Fits (t : Tree) : Prop where
  ents : t.1.length ≤ 20000
  nodes : t.2.length ≤ 20000
  path : ∀ e ∈ t.1, e.1.size ≤ 90000
  node : ∀ n ∈ t.2, Nd.Fit n ∧ n.target.size ≤ 1000000
theorem box_at (w : World) (x y : Value) (t : TypeId) : (w.alloc (.cells #[x, y] t)).cell? ⟨w.heap.size, 0, none⟩ = some x ∧ (w.alloc (.cells #[x, y] t)).cell? ⟨w.heap.size, 1, none⟩ = some y := by
  have h : (w.alloc (.cells #[x, y] t)).heap[w.heap.size]? = some (.cells #[x, y] t (0, 0)) := by
    show (w.heap.push _)[w.heap.size]? = _
    simp
  constructor <;> (unfold World.cell?; simp only [h]; rfl)
theorem b_tl {a b : ByteArray} (h : a = b) : (a.toList == b.toList) = true := by rw [tl_eq]; simp [h]
theorem b_tln {a b : ByteArray} (h : a ≠ b) : (a.toList == b.toList) = false := by rw [tl_eq]; simp [h]
end Go.Proofs.YtgbenepapajieaaGreat.Tr
