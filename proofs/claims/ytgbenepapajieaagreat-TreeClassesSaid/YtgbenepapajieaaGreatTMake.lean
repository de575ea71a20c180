/-
  The contract of Make: a made tree may be.
-/
import Derived.Test.YtgbenepapajieaaGreatTMadeM
import Derived.Test.YtgbenepapajieaaGreatTMakeJ
import Derived.Test.YtgbenepapajieaaGreatTRefN
import Derived.Test.YtgbenepapajieaaGreatTRefW
import Derived.Test.YtgbenepapajieaaGreatTDec
import Derived.Test.YtgbenepapajieaaGreatTRef
import Derived.Test.YtgbenepapajieaaGreatTMk9
import Derived.Test.YtgbenepapajieaaGreatPRef2
namespace Go.Proofs.YtgbenepapajieaaGreat.Tr
open Go.RowKit
open Go.Proofs.YtgbenepapajieaaGreat.Nd (Nd mayN sumP nodeV NodeAt PcsAt OwnP BoxN writeN cutNd)
open Go.Proofs.YtgbenepapajieaaGreat.Pa (lessB parentB hasParentB lastB underB joinB joinErrB)

def rootN : Nd := ⟨1, ⟨493, 0, 0, 9, [], []⟩, 0, [], ⟨#[]⟩, 0, 0⟩
def rootV : NV := ⟨rootN, (none, 0, 0), (none, 0, 0), (none, 0, 0)⟩
theorem root_own (W : World) (B : Nat) : InO W B rootV := ⟨OwnR.nil_ _ _ _, OwnR.nil_ _ _ _, OwnR.nil_ _ _ _⟩
theorem MM.start : MM [(⟨#[]⟩, 0)] [rootN] [⟨#[]⟩] [] 0 where
  ok := by
    refine ⟨by simp, ?_, by simp, ?_, ⟨0, by simp, by decide +kernel⟩, ?_, ?_, ?_⟩
    · intro e he; rw [List.mem_singleton.1 he]; exact may_root
    · intro e he; rw [List.mem_singleton.1 he]; simp
    · intro e he hn; rw [List.mem_singleton.1 he] at hn; exact absurd rfl hn
    · intro e he e' he' _ _; rw [List.mem_singleton.1 he, List.mem_singleton.1 he']
    · intro e he; rw [List.mem_singleton.1 he]; decide +kernel
  el := by simp
  nl := by simp
  dl := by simp
  fl := by simp
  dpos := by simp
  dirs d hd := by rw [List.mem_singleton.1 hd]; exact ⟨0, by simp, by decide +kernel⟩
  files z hz := by cases hz
  fit n hn := by rw [List.mem_singleton.1 hn]; exact ⟨⟨by simp [rootN], by simp [rootN], small_nil⟩, by decide⟩
/-- The seven names. -/
def nm (k : Nat) : ByteArray := match k with | 0 => ⟨#[97]⟩ | 1 => ⟨#[98]⟩ | 2 => ⟨#[99]⟩ | 3 => ⟨#[97, 45]⟩ | 4 => ⟨#[97, 98]⟩ | 5 => ⟨#[122]⟩ | _ => ⟨#[113, 46, 114]⟩
theorem nm_cell (W : World) (T : TypeId) (k : Nat) (hk : k < 7) : (W.alloc (.cells #[.string ⟨#[97]⟩, .string ⟨#[98]⟩, .string ⟨#[99]⟩, .string ⟨#[97, 45]⟩, .string ⟨#[97, 98]⟩, .string ⟨#[122]⟩, .string ⟨#[113, 46, 114]⟩] T)).cell? ⟨W.heap.size, k, none⟩ = some (.string (nm k)) := by
  have h : (W.alloc (.cells #[.string ⟨#[97]⟩, .string ⟨#[98]⟩, .string ⟨#[99]⟩, .string ⟨#[97, 45]⟩, .string ⟨#[97, 98]⟩, .string ⟨#[122]⟩, .string ⟨#[113, 46, 114]⟩] T)).heap[W.heap.size]? = some (.cells #[.string ⟨#[97]⟩, .string ⟨#[98]⟩, .string ⟨#[99]⟩, .string ⟨#[97, 45]⟩, .string ⟨#[97, 98]⟩, .string ⟨#[122]⟩, .string ⟨#[113, 46, 114]⟩] T (0, 0)) := by
    show (W.heap.push _)[W.heap.size]? = _
    simp
  have : k = 0 ∨ k = 1 ∨ k = 2 ∨ k = 3 ∨ k = 4 ∨ k = 5 ∨ k = 6 := by omega
  rcases this with rfl | rfl | rfl | rfl | rfl | rfl | rfl <;> (unfold World.cell?; simp only [h]; rfl)
theorem nm_size (k : Nat) : (nm k).size ≤ 3 := by
  unfold nm
  split <;> decide
/-- A call of a Go function with two arguments as one step of a region that draws. -/
theorem step_go2 {P : Program} {ops : Array Oper} {o : Oper} {a : Act} {w : World} {K : Act → World → Prop} {Q0 : Exit → Act → World → Prop} {E : Prop} (hgd : o.guard = none) (f : FuncId) (x y : Operand) (t t2 : TypeId)
    (ho : o.op = .call { callee := .value (.func f), args := #[x, y], argTypes := #[t, t2] }) (vx vy : Value) (hx : a.eval x = vx) (hy : a.eval y = vy)
    (eg : ∀ args w, (callFunc f args).run P w = .ok (.enter f args) w) {R : Ending → World → Prop} (hc : Calls P f #[vx, vy] w R)
    (h : ∀ e w', R e w' → ∃ v, e = .returned v ∧ K (a.put o.dst v) w') : if Region.wanted o (yielded ops a.tmps) = true then Oper.wp P o a w K Q0 else E := by
  have hw : Region.wanted o (yielded ops a.tmps) = true := by simp [Region.wanted, hgd]
  rw [if_pos hw]
  unfold Oper.wp execOp
  have hf : a.eval (.func f) = .func (.func f) #[] #[] := rfl
  simp only [ho, resolve, invoke, Deferred.ofValue, Sem.run_bind, Sem.run_pure, Result.andThen_ok, List.map_toArray, List.map_cons, List.map_nil, hx, hy, hf, Array.append_empty, eg]
  refine hc.mono fun e w' hr => ?_
  obtain ⟨v, rfl, hk⟩ := h e w' hr
  exact hk
def MakePost (w : World) (e : Ending) (w' : World) : Prop := ∃ (v : Value) (t : Tree), e = .returned v ∧ TreeAt w' v t ∧ mayT t.1 t.2 = true ∧ Fits t ∧ Q w w'
set_option maxRecDepth 100000 in
set_option maxHeartbeats 8000000 in
theorem make_any (v : Value) (l : List Int) (w : World) (h : RowAt cellsI 1 w v l) : Calls Tryz.prog 29 #[v] w (MakePost w) := by
  unfold MakePost
  have mixed : Tryz.prog.follows .mixedOrders = true := by kernel_rfl
  have HLr : Hid (∀ w', Q w w' → RowAt cellsI 1 w' v l) := fun w' q => h.keep q
  have hll := h.len
  unfold maxLen at hll
  obtain ⟨A, c, rfl⟩ := h.form
  clear h
  have hj0 := MJ.start w rootV _ _ _ _ _ rfl rfl rfl rfl rfl (fun W => root_own W _)
  go_enter Tryz.func29, Tryz.ntmps29
  go_wp2_with fail
  have mm0 : ∃ X, X = (((((w.alloc (.cells #[.slice none 0 0, .slice none 0 0] 25)).alloc (.cells #[.string ⟨#[]⟩, .int .i64 0] 49)).alloc (.cells (cellsN rootV).toArray 47)).alloc (.cells #[.slice (some ⟨w.heap.size + 1, 0, none⟩) 1 1, .slice (some ⟨w.heap.size + 2, 0, none⟩) 1 1] 25)).alloc (.cells #[.string ⟨#[]⟩] 9)) := ⟨_, rfl⟩
  obtain ⟨w1, hw1⟩ := mm0
  rw [← hw1] at hj0
  have hw2 := hw1
  simp only [cellsN, rootV, rootN, slv] at hw2
  rw [← hw2]
  clear hw1 hw2
  obtain ⟨bt, hbt⟩ : ∃ bt, bt = w.heap.size + 1 + 1 + 1 := ⟨_, rfl⟩
  rw [show w.heap.size + 3 = bt from hbt.symm, show w.heap.size + 4 = bt + 1 by rw [hbt]] at hj0
  rw [← hbt]
  clear hbt
  go_loopw [4, 5, 6] (fun dv fv iv wr => ∃ (i : Nat) (es : List Ent) (rs : List NV) (ds : List ByteArray) (fs : List Int) (vE vN : Value), iv = .int .i64 i ∧ i ≤ l.length ∧ i ≤ 25 ∧ MJ w wr bt vE vN dv fv es rs ds fs ∧ Hid (MM es (rs.map (·.n)) ds fs i)) (fun _ _ iv _ => l.length - (intOf iv).toNat)
  case atStart => exact ⟨0, _, _, _, _, _, _, rfl, by omega, by omega, hj0, MM.start⟩
  case round =>
    clear hj0
    obtain ⟨i, es, rs, ds, fs, vE, vN, rfl, hi, hi25, hj, M⟩ := hrel
    have hq := hj.q
    have hdp := M.out.dpos
    have hdl := M.out.dl
    by_cases hlt : i < l.length
    · have lt2 : (i : Int) < (l.length : Int) := by omega
      by_cases h25 : i < 25
      · have t1 : decide ((i : Int) < 25) = true := decide_eq_true (by omega)
        obtain ⟨gl, ol, cl, ea, _, _, hc⟩ := (HLr.out _ hq).at_ (by omega)
        cases ea
        have cz := hc i hlt 0 _ rfl
        rw [show ol + i * 1 + 0 = ol + i by omega] at cz
        clear hc
        generalize l[i] = z at *
        obtain ⟨U, hU, hU2⟩ : ∃ U : Nat, IntKind.u64.wrap z = (U : Int) ∧ U < 18446744073709551616 := by
          refine ⟨(IntKind.u64.wrap z).toNat, (Int.toNat_of_nonneg (wrap_u64_nonneg z)).symm, ?_⟩
          have := wrap_u64_nonneg z
          have h2 : IntKind.u64.wrap z < 18446744073709551616 := by
            unfold IntKind.wrap
            simp only
            first | omega | exact Int.emod_lt_of_pos _ (by decide)
          omega
        obtain ⟨D, cD, rfl⟩ := OwnR.form flatS hj.rd
        have hlen : IntKind.u64.wrap (ds.length : Int) = (ds.length : Int) := IntWalk.u64_in _ (by omega)
        have hne : ¬ (ds.length : Int) = 0 := by omega
        have hne2 : ¬ ds.length = 0 := by omega
        have hne3 : ¬ ds = [] := fun h => hne2 (by rw [h]; rfl)
        obtain ⟨x1, hx1, hx1l⟩ : ∃ x1 : Nat, Int.tmod (U : Int) (ds.length : Int) = (x1 : Int) ∧ x1 < ds.length := ⟨U % ds.length, (Int.ofNat_tmod U ds.length).symm, Nat.mod_lt _ hdp⟩
        have hx1w : IntKind.u64.wrap (x1 : Int) = (x1 : Int) := IntWalk.u64_in _ (by omega)
        have hx1i : (x1 : Int) < (ds.length : Int) := by omega
        obtain ⟨y7, hy7, hy7l⟩ : ∃ y7 : Nat, Int.tdiv (U : Int) 7 = (y7 : Int) ∧ y7 < 18446744073709551616 := ⟨U / 7, (Int.ofNat_tdiv U 7).symm, by omega⟩
        have hy7w : IntKind.u64.wrap (y7 : Int) = (y7 : Int) := IntWalk.u64_in _ (by omega)
        obtain ⟨x2, hx2, hx2l⟩ : ∃ x2 : Nat, Int.tmod (y7 : Int) 7 = (x2 : Int) ∧ x2 < 7 := ⟨y7 % 7, (Int.ofNat_tmod y7 7).symm, Nat.mod_lt _ (by omega)⟩
        have hx2w : IntKind.u64.wrap (x2 : Int) = (x2 : Int) := IntWalk.u64_in _ (by omega)
        have hx2i : (x2 : Int) < 7 := by omega
        have nn1 : (0 : Int) ≤ (x1 : Int) := by omega
        have nn2 : (0 : Int) ≤ (x2 : Int) := by omega
        obtain ⟨gd, od, cd, ea, _, _, hcd⟩ := (OwnR.row flatS hj.rd).at_ (by omega)
        cases ea
        have cdd := hcd x1 hx1l 0 _ rfl
        rw [show od + x1 * 1 + 0 = od + x1 by omega] at cdd
        have hmem := List.getElem_mem hx1l
        have hdsz : ds[x1].size ≤ 100000 := by
          obtain ⟨zz, h1, _⟩ := M.out.dirs _ hmem
          have : ds[x1].size ≤ 100 := Pa.mayB_size _ (M.out.ok.may _ h1)
          omega
        have HMEM := Lib.hid hmem
        clear hcd hmem
        generalize ds[x1] = dd at *
        have kn : ∀ W : World, (W.alloc (.cells #[.string ⟨#[97]⟩, .string ⟨#[98]⟩, .string ⟨#[99]⟩, .string ⟨#[97, 45]⟩, .string ⟨#[97, 98]⟩, .string ⟨#[122]⟩, .string ⟨#[113, 46, 114]⟩] 9)).cell? ⟨W.heap.size, x2, none⟩ = some (.string (nm x2)) := fun W => nm_cell W _ x2 hx2l
        have kd1 := ((Q.refl wr).alloc (.cells #[.string ⟨#[97]⟩, .string ⟨#[98]⟩, .string ⟨#[99]⟩, .string ⟨#[97, 45]⟩, .string ⟨#[97, 98]⟩, .string ⟨#[122]⟩, .string ⟨#[113, 46, 114]⟩] 9)).cell cdd
        have hns := nm_size x2
        have HJ : Hid (∀ w', Calls Tryz.prog 33 #[.string dd, .string (nm x2)] w' fun e w'' => e = .returned (.tuple #[.string (joinB dd (nm x2)), .int .i64 (joinErrB dd (nm x2))]) ∧ Q w' w'') := fun w' => (Pa.rjoin_any dd (nm x2) w' hdsz (by omega)).mono fun e w'' h => ⟨h.1, h.2.1⟩
        generalize nm x2 = nx at *
        have JH := Lib.hid hj
        clear hj
        go_wp2_with fail
        rename_i hK9
        have HK9 := Lib.hid hK9
        clear hK9
        have eJ : ∀ args w, (callFunc 33 args).run Tryz.prog w = .ok (.enter 33 args) w := enters_of Tryz.func33 (by kernel_rfl) rfl
        go_region_law (first | (refine step_go2 rfl 33 (.tmp 44) (.tmp 50) 9 9 rfl _ _ (by simp [Act.eval]) (by simp [Act.eval]) eJ (HJ.out _) ?_; rintro e wn ⟨rfl, qn⟩; refine ⟨_, rfl, ?_⟩))
        all_goals
          have qw : Q wr wn := by first | exact Q.trans (((Q.refl wr).alloc _).drew) qn | exact Q.trans (((Q.refl wr).drew).alloc _) qn | exact Q.trans ((Q.refl wr).alloc _) qn | exact Q.trans ((Q.refl wr).drew) qn
          have J9 := Lib.hid (JH.out.keep qw)
          clear qw qn
          refine HK9.out _ _ ?_
          refine k9 (joinB dd nx) dd nx _ _ _ _ _ _ _ _ _ _ _ _ _ _ _ _ _ _ _ _ _ _ _ _ _ _ _ _ _ _ _ _ _ _ _ _ _ _ _ _ _ _ _ _ _ _ _ _ _ _ _ _ _ _ _ _ _ _ _ _ _ _ _ _ _ _ _ _ _ _ _ _ _ _ _ _ _ _ _ _ _ _ _ _ _ _ _ _ _ _ _ _ _ _ _ _ _ _ _ _ _ _ _ _ _ _ _ _ _ _ _ _ _ _ _ _ _ _ _ _ _ _ _ _ _ _ _ _ _ _ _ _ _ _ _ _ _ _ _ _ _ _ _ _ _ _ _ _ _ _ _ _ _ _ _ _ _ _ _ _ _ _ _ _ _ _ _ _ _ _ _ _ _ _ _ _ _ _ _ _ _ _ _ _ _ _ _ _ _ _ _ _ _ _ _ _ _ _ _ _ _ _ _ _ _ _ _ _ _ _ _ _ _ _ _ _ _ _ _ _ _ _ _ _ _ J9.out hU2 M.out h25 HMEM.out rfl ?_ ?_
          all_goals
            intro d10 d11 d12 d13 d54 d55 d56 d57 d58 d59 d60 d61 d62 d63 d64 d65 d66 d67 d68 d69 d70 d71 d72 d73 d74 d75 d76 d77 d78 d79 d80 d81 d82 d83 d84 d85 d86 d87 d88 d89 d90 d91 d92 d93 d94 d95 d96 d97 d98 d99 d100 d101 d102 d103 d104 d105 d106 d107 d108 d109 d110 d111 d112 d113 d114 d115 d116 d117 d118 d119 d120 d121 d122 d123 d124 d125 d126 d127 d128 d129 d130 d131 d132 d133 d134 d135 d136 d137 d138 d139 d140 d141 d142 d143 d144 d145 d146 d147 d148 d149 d150 d151 d152 d153 d154 d155 d156 d157 d158 d159 d160 d161 d162 d163 d164 d165 d166 d167 d168 d169 d170 d171 d172 d173 d174 d175 d176 d177 d178 d179 d180 d181 d182 d183 d184 d185 d186 d187 d188 d189 d190 d191 d192 d193 d194 d195 d196 d197 d198 d199 d200 d201 d202 d203 d204 d205 d206 d207 d208 d209 d210 d211 d212 d213 d214 d215 d216 d217 d218 d219 d220 d221 d222 d223 d224 vD' vF' w' hPM
            obtain ⟨es', rs', ds', fs', vE', vN', J', M'⟩ := hPM
            have HJ' := Lib.hid J'
            have HM' := Lib.hid M'
            clear J' M' 
            go_wp2
            go_roundw
            case rel => exact ⟨i + 1, es', rs', ds', fs', vE', vN', by go_num, by omega, by omega, HJ'.out, HM'⟩
            case measure => simp [intOf]; omega
      · have t1 : decide ((i : Int) < 25) = false := decide_eq_false (by omega)
        have hdone : i ≤ 25 := hi25
        have HO := Lib.hid M.out
        obtain ⟨t, ht, htm, htf, htl⟩ := HO.out.done (by omega)
        have HC := Lib.hid (rNormO_any vE vN es rs wr (OwnR.row flatE hj.re) (OwnR.row flatN hj.rn) (fun x hx => (hj.inn x hx).in_) (HO.out.fits (by omega)))
        unfold NormPostO at HC
        rw [ht] at HC
        simp only [resC, resT, Option.isSome_some, Option.getD_some, if_true] at HC
        obtain ⟨b2, b3⟩ := hj.box.cells
        obtain ⟨AE, cE, rfl⟩ := OwnR.form flatE hj.re
        obtain ⟨AN, cN, rfl⟩ := OwnR.form flatN hj.rn
        have HT := Lib.hid (And.intro htm htf)
        have JH := Lib.hid hj
        clear ht htm htf htl hj HO M
        go_wp2_with fail
        refine HC.out.mono ?_
        rintro e w8 ⟨vE8, vN8, rs8, rfl, hre, hrn, hmap, hin, q8⟩
        have J8 := JH.out.keep q8
        have tb := J8.box
        have rb := J8.res
        have hbt := J8.blt
        have HIN : Hid (∀ x ∈ rs8, InO w8 (w.heap.size + 1) x) := fun x hx => J8.inn x (hin x hx)
        have HMP := Lib.hid hmap
        have q0 := J8.q
        obtain ⟨A8, c8, rfl⟩ := OwnR.form flatE hre
        obtain ⟨B8, d8, rfl⟩ := OwnR.form flatN hrn
        have HRE := Lib.hid hre
        have HRN := Lib.hid hrn
        generalize hl8 : t.1.length = l8 at *
        clear J8 hin hmap hre hrn HC JH
        obtain ⟨m0, m1⟩ := tb.cells
        have ms := tb.soft
        obtain ⟨y0, y1⟩ := rb.cells
        have ys := rb.soft
        have tb1 : BoxT ((w8.setCell ⟨bt, 0, none⟩ (.slice A8 l8 c8)).setCell ⟨bt, 1, none⟩ (.slice B8 rs8.length d8)) bt (.slice A8 l8 c8) (.slice B8 rs8.length d8) := (tb.set0 _).set1 _
        have rb1 : BoxT ((w8.setCell ⟨bt, 0, none⟩ (.slice A8 l8 c8)).setCell ⟨bt, 1, none⟩ (.slice B8 rs8.length d8)) w.heap.size (.slice none 0 0) (.slice none 0 0) := (rb.other (by omega) 0 _).other (by omega) 1 _
        have t1 : Typ [25] w8 ((w8.setCell ⟨bt, 0, none⟩ (.slice A8 l8 c8)).setCell ⟨bt, 1, none⟩ (.slice B8 rs8.length d8)) := (Typ.set tb (by simp) 0 _).trans (Typ.set (tb.set0 _) (by simp) 1 _)
        have q1 : Q w ((w8.setCell ⟨bt, 0, none⟩ (.slice A8 l8 c8)).setCell ⟨bt, 1, none⟩ (.slice B8 rs8.length d8)) := q_set (q_set q0 (by omega) 0 _) (by omega) 1 _
        obtain ⟨p0, p1⟩ := tb1.cells
        have rs1 := rb1.soft
        obtain ⟨r0, r1⟩ := rb1.cells
        have ps := tb1.soft
        have tbl := tb.lt
        have rbl := rb.lt
        go_wp2
        have rz : BoxT ((((w8.setCell ⟨bt, 0, none⟩ (.slice A8 l8 c8)).setCell ⟨bt, 1, none⟩ (.slice B8 rs8.length d8)).setCell ⟨w.heap.size, 0, none⟩ (.slice A8 l8 c8)).setCell ⟨w.heap.size, 1, none⟩ (.slice B8 rs8.length d8)) w.heap.size (.slice A8 l8 c8) (.slice B8 rs8.length d8) := (rb1.set0 _).set1 _
        have qz : Q w ((((w8.setCell ⟨bt, 0, none⟩ (.slice A8 l8 c8)).setCell ⟨bt, 1, none⟩ (.slice B8 rs8.length d8)).setCell ⟨w.heap.size, 0, none⟩ (.slice A8 l8 c8)).setCell ⟨w.heap.size, 1, none⟩ (.slice B8 rs8.length d8)) := q_set (q_set q1 (Nat.le_refl _) 0 _) (Nat.le_refl _) 1 _
        have t2 : Typ [25] w8 ((((w8.setCell ⟨bt, 0, none⟩ (.slice A8 l8 c8)).setCell ⟨bt, 1, none⟩ (.slice B8 rs8.length d8)).setCell ⟨w.heap.size, 0, none⟩ (.slice A8 l8 c8)).setCell ⟨w.heap.size, 1, none⟩ (.slice B8 rs8.length d8)) := t1.trans ((Typ.set rb1 (by simp) 0 _).trans (Typ.set (rb1.set0 _) (by simp) 1 _))
        obtain ⟨z0, z1⟩ := rz.cells
        refine bodyPost_ret (v := .agg #[.slice A8 l8 c8, .slice B8 rs8.length d8]) (by simp [results, Tryz.results29, go_sem, z0, z1]) rfl ?_
        exact ⟨_, t, rfl, ⟨_, _, rfl, OwnR.row flatE (OwnR.typ HRE.out t2 (by decide)), rs8, OwnR.row flatN (OwnR.typ HRN.out t2 (by decide)), HMP.out, fun x hx => ((HIN.out x hx).typ t2 (by decide) (by decide) (by decide)).in_⟩, HT.out.1, HT.out.2, qz⟩
    · have lt2 : ¬ (i : Int) < (l.length : Int) := by omega
      have HO := Lib.hid M.out
      obtain ⟨t, ht, htm, htf, htl⟩ := HO.out.done (by omega)
      have HC := Lib.hid (rNormO_any vE vN es rs wr (OwnR.row flatE hj.re) (OwnR.row flatN hj.rn) (fun x hx => (hj.inn x hx).in_) (HO.out.fits (by omega)))
      unfold NormPostO at HC
      rw [ht] at HC
      simp only [resC, resT, Option.isSome_some, Option.getD_some, if_true] at HC
      obtain ⟨b2, b3⟩ := hj.box.cells
      obtain ⟨AE, cE, rfl⟩ := OwnR.form flatE hj.re
      obtain ⟨AN, cN, rfl⟩ := OwnR.form flatN hj.rn
      have HT := Lib.hid (And.intro htm htf)
      have JH := Lib.hid hj
      clear ht htm htf htl hj HO M
      go_wp2_with fail
      refine HC.out.mono ?_
      rintro e w8 ⟨vE8, vN8, rs8, rfl, hre, hrn, hmap, hin, q8⟩
      have J8 := JH.out.keep q8
      have tb := J8.box
      have rb := J8.res
      have hbt := J8.blt
      have HIN : Hid (∀ x ∈ rs8, InO w8 (w.heap.size + 1) x) := fun x hx => J8.inn x (hin x hx)
      have HMP := Lib.hid hmap
      have q0 := J8.q
      obtain ⟨A8, c8, rfl⟩ := OwnR.form flatE hre
      obtain ⟨B8, d8, rfl⟩ := OwnR.form flatN hrn
      have HRE := Lib.hid hre
      have HRN := Lib.hid hrn
      generalize hl8 : t.1.length = l8 at *
      clear J8 hin hmap hre hrn HC JH
      obtain ⟨m0, m1⟩ := tb.cells
      have ms := tb.soft
      obtain ⟨y0, y1⟩ := rb.cells
      have ys := rb.soft
      have tb1 : BoxT ((w8.setCell ⟨bt, 0, none⟩ (.slice A8 l8 c8)).setCell ⟨bt, 1, none⟩ (.slice B8 rs8.length d8)) bt (.slice A8 l8 c8) (.slice B8 rs8.length d8) := (tb.set0 _).set1 _
      have rb1 : BoxT ((w8.setCell ⟨bt, 0, none⟩ (.slice A8 l8 c8)).setCell ⟨bt, 1, none⟩ (.slice B8 rs8.length d8)) w.heap.size (.slice none 0 0) (.slice none 0 0) := (rb.other (by omega) 0 _).other (by omega) 1 _
      have t1 : Typ [25] w8 ((w8.setCell ⟨bt, 0, none⟩ (.slice A8 l8 c8)).setCell ⟨bt, 1, none⟩ (.slice B8 rs8.length d8)) := (Typ.set tb (by simp) 0 _).trans (Typ.set (tb.set0 _) (by simp) 1 _)
      have q1 : Q w ((w8.setCell ⟨bt, 0, none⟩ (.slice A8 l8 c8)).setCell ⟨bt, 1, none⟩ (.slice B8 rs8.length d8)) := q_set (q_set q0 (by omega) 0 _) (by omega) 1 _
      obtain ⟨p0, p1⟩ := tb1.cells
      have rs1 := rb1.soft
      obtain ⟨r0, r1⟩ := rb1.cells
      have ps := tb1.soft
      have tbl := tb.lt
      have rbl := rb.lt
      go_wp2
      have rz : BoxT ((((w8.setCell ⟨bt, 0, none⟩ (.slice A8 l8 c8)).setCell ⟨bt, 1, none⟩ (.slice B8 rs8.length d8)).setCell ⟨w.heap.size, 0, none⟩ (.slice A8 l8 c8)).setCell ⟨w.heap.size, 1, none⟩ (.slice B8 rs8.length d8)) w.heap.size (.slice A8 l8 c8) (.slice B8 rs8.length d8) := (rb1.set0 _).set1 _
      have qz : Q w ((((w8.setCell ⟨bt, 0, none⟩ (.slice A8 l8 c8)).setCell ⟨bt, 1, none⟩ (.slice B8 rs8.length d8)).setCell ⟨w.heap.size, 0, none⟩ (.slice A8 l8 c8)).setCell ⟨w.heap.size, 1, none⟩ (.slice B8 rs8.length d8)) := q_set (q_set q1 (Nat.le_refl _) 0 _) (Nat.le_refl _) 1 _
      have t2 : Typ [25] w8 ((((w8.setCell ⟨bt, 0, none⟩ (.slice A8 l8 c8)).setCell ⟨bt, 1, none⟩ (.slice B8 rs8.length d8)).setCell ⟨w.heap.size, 0, none⟩ (.slice A8 l8 c8)).setCell ⟨w.heap.size, 1, none⟩ (.slice B8 rs8.length d8)) := t1.trans ((Typ.set rb1 (by simp) 0 _).trans (Typ.set (rb1.set0 _) (by simp) 1 _))
      obtain ⟨z0, z1⟩ := rz.cells
      refine bodyPost_ret (v := .agg #[.slice A8 l8 c8, .slice B8 rs8.length d8]) (by simp [results, Tryz.results29, go_sem, z0, z1]) rfl ?_
      exact ⟨_, t, rfl, ⟨_, _, rfl, OwnR.row flatE (OwnR.typ HRE.out t2 (by decide)), rs8, OwnR.row flatN (OwnR.typ HRN.out t2 (by decide)), HMP.out, fun x hx => ((HIN.out x hx).typ t2 (by decide) (by decide) (by decide)).in_⟩, HT.out.1, HT.out.2, qz⟩
end Go.Proofs.YtgbenepapajieaaGreat.Tr
