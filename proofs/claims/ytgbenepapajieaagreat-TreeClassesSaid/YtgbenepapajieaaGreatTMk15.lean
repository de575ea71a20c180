/-
  Make: what kind of node a round makes.
-/
import Derived.Test.YtgbenepapajieaaGreatTMk17
import Derived.Test.YtgbenepapajieaaGreatTMk33
import Derived.Test.YtgbenepapajieaaGreatTRefW
import Derived.Test.YtgbenepapajieaaGreatTDec
namespace Go.Proofs.YtgbenepapajieaaGreat.Tr
open Go.RowKit
open Go.Proofs.YtgbenepapajieaaGreat.Nd (Nd mayN sumP nodeV NodeAt PcsAt OwnP BoxN writeN cutNd)
open Go.Proofs.YtgbenepapajieaaGreat.Pa (lessB parentB hasParentB lastB underB joinB joinErrB)
/-- What a round leaves. -/
def PM (w w' : World) (bt : Nat) (vD vF : Value) (i : Nat) : Prop := ∃ (es : List Ent) (rs : List NV) (ds : List ByteArray) (fs : List Int) (vE vN : Value), MJ w w' bt vE vN vD vF es rs ds fs ∧ MM es (rs.map (·.n)) ds fs i
/-- A call of a Go function with three arguments as one step of a region that draws. -/
theorem step_go3 {P : Program} {ops : Array Oper} {o : Oper} {a : Act} {w : World} {K : Act → World → Prop} {Q0 : Exit → Act → World → Prop} {E : Prop} (hgd : o.guard = none) (f : FuncId) (x y z : Operand) (t t2 t3 : TypeId)
    (ho : o.op = .call { callee := .value (.func f), args := #[x, y, z], argTypes := #[t, t2, t3] }) (vx vy vz : Value) (hx : a.eval x = vx) (hy : a.eval y = vy) (hz : a.eval z = vz)
    (eg : ∀ args w, (callFunc f args).run P w = .ok (.enter f args) w) {R : Ending → World → Prop} (hc : Calls P f #[vx, vy, vz] w R)
    (h : ∀ e w', R e w' → ∃ v, e = .returned v ∧ K (a.put o.dst v) w') : if Region.wanted o (yielded ops a.tmps) = true then Oper.wp P o a w K Q0 else E := by
  have hw : Region.wanted o (yielded ops a.tmps) = true := by simp [Region.wanted, hgd]
  rw [if_pos hw]
  unfold Oper.wp execOp
  have hf : a.eval (.func f) = .func (.func f) #[] #[] := rfl
  simp only [ho, resolve, invoke, Deferred.ofValue, Sem.run_bind, Sem.run_pure, Result.andThen_ok, List.map_toArray, List.map_cons, List.map_nil, hx, hy, hz, hf, Array.append_empty, eg]
  refine hc.mono fun e w' hr => ?_
  obtain ⟨v, rfl, hk⟩ := h e w' hr
  exact hk
theorem mm_end {es : List Ent} {rs : List NV} {ds : List ByteArray} {fs : List Int} {i : Nat} {x : NV} {p : ByteArray} (h : MM (es ++ [(p, ((rs.map (·.n)).length : Int))]) (rs.map (·.n) ++ [x.n]) ds fs i) : MM (es ++ [(p, (rs.length : Int))]) ((rs ++ [x]).map (·.n)) ds fs i := by
  rw [List.map_append]
  rw [List.length_map] at h
  exact h
theorem mm_end' {es : List Ent} {rs : List NV} {ds : List ByteArray} {fs : List Int} {i : Nat} {x : NV} {p : ByteArray} (h : MM (es ++ [(p, ((rs.map (·.n)).length : Int))]) (rs.map (·.n) ++ [x.n]) ds (fs ++ [((rs.map (·.n)).length : Int)]) i) : MM (es ++ [(p, (rs.length : Int))]) ((rs ++ [x]).map (·.n)) ds (fs ++ [(rs.length : Int)]) i := by
  rw [List.map_append]
  rw [List.length_map] at h
  exact h
set_option maxRecDepth 100000 in
set_option maxHeartbeats 8000000 in
theorem k15 {w wr0 wr : World} {bt gb U i : Nat} {vE vN vD vF : Value} {es : List Ent} {rs : List NV} {ds : List ByteArray} {fs : List Int} {m : Mt} {sa sl : Sl} {Q0 : Exit → Act → World → Prop} (p0 d b : ByteArray) (c0 c1 c2 c6 c9 c10 c11 c13 c14 c15 c16 c17 c18 c19 c20 c21 c22 c23 c24 c25 c26 c27 c28 c29 c30 c31 c32 c33 c34 c35 c36 c37 c38 c39 c40 c41 c42 c43 c44 c45 c46 c47 c48 c49 c50 c51 c52 c53 c54 c55 c56 c57 c58 c59 c60 c61 c62 c63 c64 c65 c66 c67 c68 c69 c70 c71 c72 c73 c74 c75 c76 c77 c78 c79 c80 c81 c82 c83 c84 c85 c86 c87 c88 c89 c90 c91 c92 c93 c94 c95 c96 c97 c98 c99 c100 c101 c102 c103 c104 c105 c106 c107 c108 c109 c110 c111 c112 c113 c114 c115 c116 c117 c118 c119 c120 c121 c122 c123 c124 c125 c126 c127 c128 c129 c130 c131 c132 c133 c134 c135 c136 c137 c138 c139 c140 c141 c142 c143 c144 c145 c146 c147 c148 c149 c150 c151 c152 c153 c154 c155 c156 c157 c158 c159 c160 c161 c162 c163 c164 c165 c166 c167 c168 c169 c170 c171 c172 c173 c174 c175 c176 c177 c178 c179 c180 c181 c182 c183 c184 c185 c186 c187 c188 c189 c190 c191 c192 c193 c194 c195 c196 c197 c198 c199 c200 c201 c202 c203 c204 c205 c206 c207 c208 c209 c210 c211 c212 c213 c214 c215 c216 c217 c218 c219 c220 c221 c222 c223 c224 c225 c226 c227 c228 c229 c230 : Value)
    (J0 : MJ w wr0 bt vE vN vD vF es rs ds fs) (q0 : Q wr0 wr) (hgb : wr0.heap.size ≤ gb) (NB : BoxN wr gb #[.int .i64 2, .int .i64 m.mode, .int .i64 m.uid, .int .i64 m.gid, .int .i64 m.time, .slice sa.1 sa.2.1 sa.2.2, .slice sl.1 sl.2.1 sl.2.2, .int .i64 0, .slice none 0 0, .string ⟨#[]⟩, .int .i64 0, .int .i64 0]) (OA : OwnT wr (w.heap.size + 1) (slv sa) m.attrs) (OL : OwnA wr (w.heap.size + 1) (slv sl) m.acl) (MK : MkMt m) (hU : U < 18446744073709551616)
    (M0 : MM es (rs.map (·.n)) ds fs i) (hi : i < 25) (hd : d ∈ ds) (hje : joinErrB d b = 0) (hfe : findE es (joinB d b) = none) (hp0 : joinB d b = p0)
    (hexit0 : ∀ (d13 d100 d101 d102 d103 d104 d105 d106 d107 d108 d109 d110 d111 d112 d113 d114 d115 d116 d117 d118 d119 d120 d121 d122 d123 d124 d125 d126 d127 d128 d129 d130 d131 d132 d133 d134 d135 d136 d137 d138 d139 d140 d141 d142 d143 d144 d145 d146 d147 d148 d149 d150 d151 d152 d153 d154 d155 d156 d157 d158 d159 d160 d161 d162 d163 d164 d165 d166 d167 d168 d169 d170 d171 d172 d173 d174 d175 d176 d177 d178 d179 d180 d181 d182 d183 d184 d185 d186 d187 d188 d189 d190 d191 d192 d193 d194 d195 d196 d197 d198 d199 d200 d201 d202 d203 d204 d205 d206 d207 d208 d209 d210 d211 d212 d213 d214 d215 d216 d217 d218 d219 d220 d221 d222 d223 d224 vD' vF' : Value) (w' : World), PM w w' bt vD' vF' (i + 1) → Q0 .normal ⟨#[c0, c1, c2, .pointer (some ⟨bt, 0, none⟩), vD', vF', c6, .int .u64 (U : Nat), .string p0, c9, c10, c11, .pointer (some ⟨gb, 0, none⟩), d13, c14, c15, c16, c17, c18, c19, c20, c21, c22, c23, c24, c25, c26, c27, c28, c29, c30, c31, c32, c33, c34, c35, c36, c37, c38, c39, c40, c41, c42, c43, c44, c45, c46, c47, c48, c49, c50, c51, c52, c53, c54, c55, c56, c57, c58, c59, c60, c61, c62, c63, c64, c65, c66, c67, c68, c69, c70, c71, c72, c73, c74, c75, c76, c77, c78, c79, c80, c81, c82, c83, c84, c85, c86, c87, c88, c89, c90, c91, c92, c93, c94, c95, c96, c97, c98, c99, d100, d101, d102, d103, d104, d105, d106, d107, d108, d109, d110, d111, d112, d113, d114, d115, d116, d117, d118, d119, d120, d121, d122, d123, d124, d125, d126, d127, d128, d129, d130, d131, d132, d133, d134, d135, d136, d137, d138, d139, d140, d141, d142, d143, d144, d145, d146, d147, d148, d149, d150, d151, d152, d153, d154, d155, d156, d157, d158, d159, d160, d161, d162, d163, d164, d165, d166, d167, d168, d169, d170, d171, d172, d173, d174, d175, d176, d177, d178, d179, d180, d181, d182, d183, d184, d185, d186, d187, d188, d189, d190, d191, d192, d193, d194, d195, d196, d197, d198, d199, d200, d201, d202, d203, d204, d205, d206, d207, d208, d209, d210, d211, d212, d213, d214, d215, d216, d217, d218, d219, d220, d221, d222, d223, d224, c225, c226, c227, c228, c229, c230], []⟩ w')
    (hexit1 : ∀ (d13 d100 d101 d102 d103 d104 d105 d106 d107 d108 d109 d110 d111 d112 d113 d114 d115 d116 d117 d118 d119 d120 d121 d122 d123 d124 d125 d126 d127 d128 d129 d130 d131 d132 d133 d134 d135 d136 d137 d138 d139 d140 d141 d142 d143 d144 d145 d146 d147 d148 d149 d150 d151 d152 d153 d154 d155 d156 d157 d158 d159 d160 d161 d162 d163 d164 d165 d166 d167 d168 d169 d170 d171 d172 d173 d174 d175 d176 d177 d178 d179 d180 d181 d182 d183 d184 d185 d186 d187 d188 d189 d190 d191 d192 d193 d194 d195 d196 d197 d198 d199 d200 d201 d202 d203 d204 d205 d206 d207 d208 d209 d210 d211 d212 d213 d214 d215 d216 d217 d218 d219 d220 d221 d222 d223 d224 vD' vF' : Value) (w' : World), PM w w' bt vD' vF' (i + 1) → Q0 (.exit 1) ⟨#[c0, c1, c2, .pointer (some ⟨bt, 0, none⟩), vD', vF', c6, .int .u64 (U : Nat), .string p0, c9, c10, c11, .pointer (some ⟨gb, 0, none⟩), d13, c14, c15, c16, c17, c18, c19, c20, c21, c22, c23, c24, c25, c26, c27, c28, c29, c30, c31, c32, c33, c34, c35, c36, c37, c38, c39, c40, c41, c42, c43, c44, c45, c46, c47, c48, c49, c50, c51, c52, c53, c54, c55, c56, c57, c58, c59, c60, c61, c62, c63, c64, c65, c66, c67, c68, c69, c70, c71, c72, c73, c74, c75, c76, c77, c78, c79, c80, c81, c82, c83, c84, c85, c86, c87, c88, c89, c90, c91, c92, c93, c94, c95, c96, c97, c98, c99, d100, d101, d102, d103, d104, d105, d106, d107, d108, d109, d110, d111, d112, d113, d114, d115, d116, d117, d118, d119, d120, d121, d122, d123, d124, d125, d126, d127, d128, d129, d130, d131, d132, d133, d134, d135, d136, d137, d138, d139, d140, d141, d142, d143, d144, d145, d146, d147, d148, d149, d150, d151, d152, d153, d154, d155, d156, d157, d158, d159, d160, d161, d162, d163, d164, d165, d166, d167, d168, d169, d170, d171, d172, d173, d174, d175, d176, d177, d178, d179, d180, d181, d182, d183, d184, d185, d186, d187, d188, d189, d190, d191, d192, d193, d194, d195, d196, d197, d198, d199, d200, d201, d202, d203, d204, d205, d206, d207, d208, d209, d210, d211, d212, d213, d214, d215, d216, d217, d218, d219, d220, d221, d222, d223, d224, c225, c226, c227, c228, c229, c230], []⟩ w') :
    Code.wp Tryz.prog (mk 15) Q0 ⟨#[c0, c1, c2, .pointer (some ⟨bt, 0, none⟩), vD, vF, c6, .int .u64 (U : Nat), .string p0, c9, c10, c11, .pointer (some ⟨gb, 0, none⟩), c13, c14, c15, c16, c17, c18, c19, c20, c21, c22, c23, c24, c25, c26, c27, c28, c29, c30, c31, c32, c33, c34, c35, c36, c37, c38, c39, c40, c41, c42, c43, c44, c45, c46, c47, c48, c49, c50, c51, c52, c53, c54, c55, c56, c57, c58, c59, c60, c61, c62, c63, c64, c65, c66, c67, c68, c69, c70, c71, c72, c73, c74, c75, c76, c77, c78, c79, c80, c81, c82, c83, c84, c85, c86, c87, c88, c89, c90, c91, c92, c93, c94, c95, c96, c97, c98, c99, c100, c101, c102, c103, c104, c105, c106, c107, c108, c109, c110, c111, c112, c113, c114, c115, c116, c117, c118, c119, c120, c121, c122, c123, c124, c125, c126, c127, c128, c129, c130, c131, c132, c133, c134, c135, c136, c137, c138, c139, c140, c141, c142, c143, c144, c145, c146, c147, c148, c149, c150, c151, c152, c153, c154, c155, c156, c157, c158, c159, c160, c161, c162, c163, c164, c165, c166, c167, c168, c169, c170, c171, c172, c173, c174, c175, c176, c177, c178, c179, c180, c181, c182, c183, c184, c185, c186, c187, c188, c189, c190, c191, c192, c193, c194, c195, c196, c197, c198, c199, c200, c201, c202, c203, c204, c205, c206, c207, c208, c209, c210, c211, c212, c213, c214, c215, c216, c217, c218, c219, c220, c221, c222, c223, c224, c225, c226, c227, c228, c229, c230], []⟩ wr := by
  have mixed : Tryz.prog.follows .mixedOrders = true := by kernel_rfl
  have HX0 := Lib.hid hexit0
  have HX1 := Lib.hid hexit1
  clear hexit0 hexit1
  refine Code.wp_mono (Q := Exit.then (fun a w => Q0 .normal a w) (fun e a w => match e with | .exit n => Q0 (.exit n) a w | _ => False)) ?_ ?_
  · intro e a w h
    cases e <;> first | exact h | exact h.elim
  have hel := M0.el
  have hrl0 := M0.nl
  rw [List.length_map] at hrl0
  have hdl := M0.dl
  have hfl := M0.fl
  have hpm : Pa.mayB p0 = true := by rw [← hp0]; exact (join_facts hje).1
  have hps := Pa.mayB_size _ hpm
  have hsz0 := J0.size
  have hszq := q0.size
  conv => arg 2; whnf
  refine wp_seqc (y' := mk 33) rfl ?_
  obtain ⟨q3, hq3, hq3l⟩ : ∃ r : Nat, Int.tdiv (U : Int) 3 = (r : Int) ∧ r < 18446744073709551616 := ⟨U / 3, div_c U 3, by omega⟩
  have hq3w : IntKind.u64.wrap (q3 : Int) = (q3 : Int) := IntWalk.u64_in _ (by omega)
  obtain ⟨kk, hkk, hkl⟩ : ∃ r : Nat, Int.tmod (q3 : Int) 9 = (r : Int) ∧ r < 9 := ⟨q3 % 9, rem_c q3 9, Nat.mod_lt _ (by omega)⟩
  have hkw : IntKind.u64.wrap (kk : Int) = (kk : Int) := IntWalk.u64_in _ (by omega)
  by_cases h2 : kk < 2
  · have t1 : decide ((kk : Int) < 2) = true := decide_eq_true (by omega)
    have nb0 := NB.set 0 (.int .i64 1)
    simp only [List.setIfInBounds_toArray, List.set_cons_zero] at nb0
    have qs0 := q_set q0 hgb 0 (.int .i64 1)
    have ts0 := box_typ NB 0 (.int .i64 1)
    have so0 := NB.soft
    have hnl := NB.lt
    obtain ⟨k0, k1, k2, k3, k4, k5, k6, k7, k8, k9, k10, k11⟩ := NB.cells
    have JH := Lib.hid (J0.keep qs0)
    have hro := (own_one flatS 9 (wr.setCell ⟨gb, 0, none⟩ (.int .i64 1)) _ (Nat.le_refl _) p0).row flatS
    rw [show (wr.setCell ⟨gb, 0, none⟩ (.int .i64 1)).heap.size = wr.heap.size by simp] at hro
    have hro := Lib.hid hro
    go_wp2_with (at_builtin; refine wpList_append_str rfl (.tmp 157) (.tmp 159) rfl (w.heap.size + 1) vD ds rfl (OwnR.keep JH.out.rd ((Q.refl _).alloc _)) _ [p0] rfl hro.out (by simp; omega) (by rw [World.size_alloc]; have := JH.out.size; omega) ?_)
    intro v9 w9 hown9 hg9 _
    have qa := (Q.refl (wr.setCell ⟨gb, 0, none⟩ (.int .i64 1))).alloc (.cells #[.string p0] 9)
    have J8 := JH.out.keep qa
    have tg : Typ [9] ((wr.setCell ⟨gb, 0, none⟩ (.int .i64 1)).alloc (.cells #[.string p0] 9)) w9 := Typ.grown J8.rd hg9 (by simp)
    have NB9 := Lib.hid (boxN_typ (nb0.keep qa) tg (by decide))
    have J9 := Lib.hid (J8.dir hg9 hown9)
    have ta : Typ [47, 9] wr w9 := Typ.trans (Typ.trans (⟨ts0.1, fun g cs E f h hE => ts0.2 g cs E f h (fun hh => hE (by simp at hh; simp [hh]))⟩ : Typ [47, 9] wr _) (Typ.of_q qa)) (⟨tg.1, fun g cs E f h hE => tg.2 g cs E f h (fun hh => hE (by simp at hh; simp [hh]))⟩ : Typ [47, 9] _ w9)
    have XO9 : Hid (InO w9 (w.heap.size + 1) (⟨⟨1, m, 0, [], ⟨#[]⟩, 0, 0⟩, sa, sl, (none, 0, 0)⟩ : NV)) := ⟨OwnR.typ OA ta (by decide), OwnR.typ OL ta (by decide), OwnR.nil_ _ _ _⟩
    have hno := node_dir MK
    have HM : Hid (MM (es ++ [(p0, (rs.length : Int))]) ((rs ++ [(⟨⟨1, m, 0, [], ⟨#[]⟩, 0, 0⟩, sa, sl, (none, 0, 0)⟩ : NV)]).map (·.n)) (ds ++ [p0]) fs (i + 1)) := mm_end (by have h := M0.dir hi hd hje hfe hno.1 rfl ⟨hno.2, Nat.zero_le _⟩; rw [hp0] at h; exact h)
    clear J8 tg ta qa nb0 qs0 ts0 hno OA OL hown9 hg9 JH NB so0 k0 k1 k2 k3 k4 k5 k6 k7 k8 k9 k10 k11
    go_wp2_with fail
    exact k33 p0 _ _ _ _ _ _ _ _ _ _ _ _ _ _ _ _ _ _ _ _ _ _ _ _ _ _ _ _ _ _ _ _ _ _ _ _ _ _ _ _ _ _ _ _ _ _ _ _ _ _ _ _ _ _ _ _ _ _ _ _ _ _ _ _ _ _ _ _ _ _ _ _ _ _ _ _ _ _ _ _ _ _ _ _ _ _ _ _ _ _ _ _ _ _ _ _ _ _ _ _ _ _ _ _ _ _ _ _ _ _ _ _ _ _ _ _ _ _ _ _ _ _ _ _ _ _ _ _ _ _ _ _ _ _ _ _ _ _ _ _ _ _ _ _ _ _ _ _ _ _ _ _ _ _ _ _ _ _ _ _ _ _ _ _ _ _ _ _ _ _ _ _ _ _ _ _ _ _ _ _ _ _ _ _ _ _ _ _ _ _ _ _ _ _ _ _ _ _ _ _ _ _ _ _ _ _ _ _ _ _ _ _ _ _ _ _ _ _ _ _ _ _ _ _ _ _ _ _ J9.out NB9.out XO9.out (by omega) (by omega) (fun _ _ _ _ _ _ _ _ _ _ _ _ _ _ _ _ vE' vN' w' hJ => HX0.out _ _ _ _ _ _ _ _ _ _ _ _ _ _ _ _ _ _ _ _ _ _ _ _ _ _ _ _ _ _ _ _ _ _ _ _ _ _ _ _ _ _ _ _ _ _ _ _ _ _ _ _ _ _ _ _ _ _ _ _ _ _ _ _ _ _ _ _ _ _ _ _ _ _ _ _ _ _ _ _ _ _ _ _ _ _ _ _ _ _ _ _ _ _ _ _ _ _ _ _ _ _ _ _ _ _ _ _ _ _ _ _ _ _ _ _ _ _ _ _ _ _ _ _ _ _ _ _ w' ⟨_, _, _, _, _, _, hJ, HM.out⟩)
  have t1 : decide ((kk : Int) < 2) = false := decide_eq_false (by omega)
  by_cases hlk : kk = 2 ∧ 0 < fs.length
  · obtain ⟨hk2, hfp⟩ := hlk
    have t2 : ((kk : Int) == 2) = true := beq_iff_eq.2 (by omega)
    have tf : decide ((0 : Int) < (fs.length : Int)) = true := decide_eq_true (by omega)
    have hlen : IntKind.u64.wrap (fs.length : Int) = (fs.length : Int) := IntWalk.u64_in _ (by omega)
    have hne : ¬ (fs.length : Int) = 0 := by omega
    have hne2 : ¬ fs.length = 0 := by omega
    have hne3 : ¬ fs = [] := fun h => hne2 (by rw [h]; rfl)
    obtain ⟨u2, hu2, hu2l⟩ : ∃ r : Nat, Int.tdiv (U : Int) 2 = (r : Int) ∧ r < 18446744073709551616 := ⟨U / 2, div_c U 2, by omega⟩
    have hu2w : IntKind.u64.wrap (u2 : Int) = (u2 : Int) := IntWalk.u64_in _ (by omega)
    obtain ⟨x1, hx1, hx1l⟩ : ∃ x1 : Nat, Int.tmod (u2 : Int) (fs.length : Int) = (x1 : Int) ∧ x1 < fs.length := ⟨u2 % fs.length, (Int.ofNat_tmod u2 fs.length).symm, Nat.mod_lt _ hfp⟩
    have hx1w : IntKind.u64.wrap (x1 : Int) = (x1 : Int) := IntWalk.u64_in _ (by omega)
    have hx1i : (x1 : Int) < (fs.length : Int) := by omega
    have nn1 : (0 : Int) ≤ (x1 : Int) := by omega
    have J := J0.keep q0
    obtain ⟨F, cF, rfl⟩ := OwnR.form flatI J.rf
    obtain ⟨gf, of_, cf, ea, _, _, hcf⟩ := (OwnR.row flatI J.rf).at_ (by omega)
    cases ea
    have cz := hcf x1 hx1l 0 _ rfl
    rw [show of_ + x1 * 1 + 0 = of_ + x1 by omega] at cz
    have HM : Hid (MM (es ++ [(p0, fs[x1])]) (rs.map (·.n)) ds fs (i + 1)) := by
      have h := M0.link hi hd hje hfe (List.getElem_mem hx1l)
      rw [hp0] at h
      exact h
    clear hcf
    generalize fs[x1] = z at *
    obtain ⟨b2, b3⟩ := J.box.cells
    have hbl := J.box.lt
    have hgf := World.block_lt_of_cell? wr _ cz
    have hszJ := J.size
    have JH := Lib.hid J
    clear J J0
    go_wp2_with fail
    go_region_law (first | (refine step_append_ent rfl (.tmp 170) (.tmp 182) rfl (w.heap.size + 1) vE es (by simp [Act.eval]) (OwnR.keep JH.out.re (((Q.refl wr).alloc _).drew)) (.slice (some ⟨wr.heap.size, 0, none⟩) 1 1) [(p0, z)] (by simp [Act.eval]) (ents_built wr p0 z) (by simp; omega) (by show _ ≤ (wr.alloc _).heap.size; rw [World.size_alloc]; omega) ?_; intro v9 w9 hown9 hg9; have hj9 := Lib.hid (JH.out.keep (((Q.refl wr).alloc (.cells #[.string p0, .int .i64 z] 49)).drew)); obtain ⟨m0, m1⟩ := (hj9.out.box.typ (Typ.grown (Ts := [49]) hj9.out.re hg9 (by simp)) (by decide)).cells; have ms := (hj9.out.box.typ (Typ.grown (Ts := [49]) hj9.out.re hg9 (by simp)) (by decide)).soft; obtain ⟨A9, n9, rfl⟩ := OwnR.form flatE hown9))
    all_goals
      have hjz := hj9.out.ent hg9 hown9
      rw [show (es ++ [(p0, z)]).length = es.length + 1 by simp] at hjz
      have HZ := Lib.hid hjz
      clear hj9 hg9 hown9 m0 m1 ms hjz
      go_wp2
      exact HX1.out _ _ _ _ _ _ _ _ _ _ _ _ _ _ _ _ _ _ _ _ _ _ _ _ _ _ _ _ _ _ _ _ _ _ _ _ _ _ _ _ _ _ _ _ _ _ _ _ _ _ _ _ _ _ _ _ _ _ _ _ _ _ _ _ _ _ _ _ _ _ _ _ _ _ _ _ _ _ _ _ _ _ _ _ _ _ _ _ _ _ _ _ _ _ _ _ _ _ _ _ _ _ _ _ _ _ _ _ _ _ _ _ _ _ _ _ _ _ _ _ _ _ _ _ _ _ _ _ _ ⟨_, _, _, _, _, _, HZ.out, HM.out⟩
  have tl : kk = 2 → ¬ 0 < fs.length := fun h1 h2 => hlk ⟨h1, h2⟩
  by_cases h3 : kk = 3
  · have t2 : ((kk : Int) == 2) = false := beq_eq_false_iff_ne.2 (by omega)
    have t3 : ((kk : Int) == 3) = true := beq_iff_eq.2 (by omega)
    have ha := Nd.add_str (a := ⟨#[46, 46, 47]⟩) (b := p0) (by show 3 + _ ≤ _; omega)
    have NBs := NB
    have qz := q0
    have nb0 := NB.set 0 (.int .i64 3)
    simp only [List.setIfInBounds_toArray, List.set_cons_zero] at nb0
    have qs0 := q_set q0 hgb 0 (.int .i64 3)
    have ts0 := box_typ NB 0 (.int .i64 3)
    have so0 := NB.soft
    have nb9 := nb0.set 9 (.string ((⟨#[46, 46, 47]⟩ : ByteArray) ++ p0))
    simp only [List.setIfInBounds_toArray, List.set_cons_succ, List.set_cons_zero] at nb9
    have qs9 := q_set qs0 hgb 9 (.string ((⟨#[46, 46, 47]⟩ : ByteArray) ++ p0))
    have ts9 := Typ.trans ts0 (box_typ nb0 9 (.string ((⟨#[46, 46, 47]⟩ : ByteArray) ++ p0)))
    have so9 := nb0.soft
    have J9 := Lib.hid (J0.keep qs9)
    have NB9 := Lib.hid nb9
    have XO9 : Hid (InO _ (w.heap.size + 1) (⟨⟨3, m, 0, [], ((⟨#[46, 46, 47]⟩ : ByteArray) ++ p0), 0, 0⟩, sa, sl, (none, 0, 0)⟩ : NV)) := ⟨OwnR.typ OA ts9 (by decide), OwnR.typ OL ts9 (by decide), OwnR.nil_ _ _ _⟩
    have hno := node_link MK hpm
    have HM : Hid (MM (es ++ [(p0, (rs.length : Int))]) ((rs ++ [(⟨⟨3, m, 0, [], ((⟨#[46, 46, 47]⟩ : ByteArray) ++ p0), 0, 0⟩, sa, sl, (none, 0, 0)⟩ : NV)]).map (·.n)) ds fs (i + 1)) := mm_end (by have h := M0.node (x := ((⟨⟨3, m, 0, [], ((⟨#[46, 46, 47]⟩ : ByteArray) ++ p0), 0, 0⟩, sa, sl, (none, 0, 0)⟩ : NV) : NV).n) hi hd hje hfe hno.1 ⟨hno.2, by show ByteArray.size (_ ++ _) ≤ _; rw [ByteArray.size_append]; show 3 + _ ≤ _; omega⟩; rw [hp0] at h; exact h)
    obtain ⟨k0, k1, k2, k3, k4, k5, k6, k7, k8, k9, k10, k11⟩ := NB.cells
    have hnl := NB.lt
    clear OA OL NBs qz hno
    go_wp2_with fail
    exact k33 p0 _ _ _ _ _ _ _ _ _ _ _ _ _ _ _ _ _ _ _ _ _ _ _ _ _ _ _ _ _ _ _ _ _ _ _ _ _ _ _ _ _ _ _ _ _ _ _ _ _ _ _ _ _ _ _ _ _ _ _ _ _ _ _ _ _ _ _ _ _ _ _ _ _ _ _ _ _ _ _ _ _ _ _ _ _ _ _ _ _ _ _ _ _ _ _ _ _ _ _ _ _ _ _ _ _ _ _ _ _ _ _ _ _ _ _ _ _ _ _ _ _ _ _ _ _ _ _ _ _ _ _ _ _ _ _ _ _ _ _ _ _ _ _ _ _ _ _ _ _ _ _ _ _ _ _ _ _ _ _ _ _ _ _ _ _ _ _ _ _ _ _ _ _ _ _ _ _ _ _ _ _ _ _ _ _ _ _ _ _ _ _ _ _ _ _ _ _ _ _ _ _ _ _ _ _ _ _ _ _ _ _ _ _ _ _ _ _ _ _ _ _ _ _ _ _ _ _ _ J9.out NB9.out XO9.out (by omega) (by omega) (fun _ _ _ _ _ _ _ _ _ _ _ _ _ _ _ _ vE' vN' w' hJ => HX0.out _ _ _ _ _ _ _ _ _ _ _ _ _ _ _ _ _ _ _ _ _ _ _ _ _ _ _ _ _ _ _ _ _ _ _ _ _ _ _ _ _ _ _ _ _ _ _ _ _ _ _ _ _ _ _ _ _ _ _ _ _ _ _ _ _ _ _ _ _ _ _ _ _ _ _ _ _ _ _ _ _ _ _ _ _ _ _ _ _ _ _ _ _ _ _ _ _ _ _ _ _ _ _ _ _ _ _ _ _ _ _ _ _ _ _ _ _ _ _ _ _ _ _ _ _ _ _ _ w' ⟨_, _, _, _, _, _, hJ, HM.out⟩)
  by_cases h4 : kk = 4
  · have t2 : ((kk : Int) == 2) = false := beq_eq_false_iff_ne.2 (by omega)
    have t3 : ((kk : Int) == 3) = false := beq_eq_false_iff_ne.2 (by omega)
    have t4 : ((kk : Int) == 4) = true := beq_iff_eq.2 (by omega)
    obtain ⟨r3, hr3, hr3l⟩ : ∃ r : Nat, Int.tmod (U : Int) 300 = (r : Int) ∧ r < 300 := ⟨U % 300, rem_c U 300, Nat.mod_lt _ (by omega)⟩
    have hr3w : IntKind.u64.wrap (r3 : Int) = (r3 : Int) := IntWalk.u64_in _ (by omega)
    have hr3i : IntKind.i64.wrap (r3 : Int) = (r3 : Int) := IntWalk.i64_in _ (by omega)
    obtain ⟨u2, hu2, hu2l⟩ : ∃ r : Nat, Int.tdiv (U : Int) 2 = (r : Int) ∧ r < 18446744073709551616 := ⟨U / 2, div_c U 2, by omega⟩
    have hu2w : IntKind.u64.wrap (u2 : Int) = (u2 : Int) := IntWalk.u64_in _ (by omega)
    obtain ⟨r4, hr4, hr4l⟩ : ∃ r : Nat, Int.tmod (u2 : Int) 300 = (r : Int) ∧ r < 300 := ⟨u2 % 300, rem_c u2 300, Nat.mod_lt _ (by omega)⟩
    have hr4w : IntKind.u64.wrap (r4 : Int) = (r4 : Int) := IntWalk.u64_in _ (by omega)
    have hr4i : IntKind.i64.wrap (r4 : Int) = (r4 : Int) := IntWalk.i64_in _ (by omega)
    have NBs := NB
    have qz := q0
    have nb0 := NB.set 0 (.int .i64 4)
    simp only [List.setIfInBounds_toArray, List.set_cons_zero] at nb0
    have qs0 := q_set q0 hgb 0 (.int .i64 4)
    have ts0 := box_typ NB 0 (.int .i64 4)
    have so0 := NB.soft
    have nb10 := nb0.set 10 (.int .i64 (r3 : Int))
    simp only [List.setIfInBounds_toArray, List.set_cons_succ, List.set_cons_zero] at nb10
    have qs10 := q_set qs0 hgb 10 (.int .i64 (r3 : Int))
    have ts10 := Typ.trans ts0 (box_typ nb0 10 (.int .i64 (r3 : Int)))
    have so10 := nb0.soft
    have nb11 := nb10.set 11 (.int .i64 (r4 : Int))
    simp only [List.setIfInBounds_toArray, List.set_cons_succ, List.set_cons_zero] at nb11
    have qs11 := q_set qs10 hgb 11 (.int .i64 (r4 : Int))
    have ts11 := Typ.trans ts10 (box_typ nb10 11 (.int .i64 (r4 : Int)))
    have so11 := nb10.soft
    have J9 := Lib.hid (J0.keep qs11)
    have NB9 := Lib.hid nb11
    have XO9 : Hid (InO _ (w.heap.size + 1) (⟨⟨4, m, 0, [], ⟨#[]⟩, (r3 : Int), (r4 : Int)⟩, sa, sl, (none, 0, 0)⟩ : NV)) := ⟨OwnR.typ OA ts11 (by decide), OwnR.typ OL ts11 (by decide), OwnR.nil_ _ _ _⟩
    have hno := node_char MK (x := (r3 : Int)) (y := (r4 : Int)) (by omega) (by omega) (by omega) (by omega)
    have HM : Hid (MM (es ++ [(p0, (rs.length : Int))]) ((rs ++ [(⟨⟨4, m, 0, [], ⟨#[]⟩, (r3 : Int), (r4 : Int)⟩, sa, sl, (none, 0, 0)⟩ : NV)]).map (·.n)) ds fs (i + 1)) := mm_end (by have h := M0.node (x := ((⟨⟨4, m, 0, [], ⟨#[]⟩, (r3 : Int), (r4 : Int)⟩, sa, sl, (none, 0, 0)⟩ : NV) : NV).n) hi hd hje hfe hno.1 ⟨hno.2, Nat.zero_le _⟩; rw [hp0] at h; exact h)
    obtain ⟨k0, k1, k2, k3, k4, k5, k6, k7, k8, k9, k10, k11⟩ := NB.cells
    have hnl := NB.lt
    clear OA OL NBs qz hno
    go_wp2_with fail
    exact k33 p0 _ _ _ _ _ _ _ _ _ _ _ _ _ _ _ _ _ _ _ _ _ _ _ _ _ _ _ _ _ _ _ _ _ _ _ _ _ _ _ _ _ _ _ _ _ _ _ _ _ _ _ _ _ _ _ _ _ _ _ _ _ _ _ _ _ _ _ _ _ _ _ _ _ _ _ _ _ _ _ _ _ _ _ _ _ _ _ _ _ _ _ _ _ _ _ _ _ _ _ _ _ _ _ _ _ _ _ _ _ _ _ _ _ _ _ _ _ _ _ _ _ _ _ _ _ _ _ _ _ _ _ _ _ _ _ _ _ _ _ _ _ _ _ _ _ _ _ _ _ _ _ _ _ _ _ _ _ _ _ _ _ _ _ _ _ _ _ _ _ _ _ _ _ _ _ _ _ _ _ _ _ _ _ _ _ _ _ _ _ _ _ _ _ _ _ _ _ _ _ _ _ _ _ _ _ _ _ _ _ _ _ _ _ _ _ _ _ _ _ _ _ _ _ _ _ _ _ _ J9.out NB9.out XO9.out (by omega) (by omega) (fun _ _ _ _ _ _ _ _ _ _ _ _ _ _ _ _ vE' vN' w' hJ => HX0.out _ _ _ _ _ _ _ _ _ _ _ _ _ _ _ _ _ _ _ _ _ _ _ _ _ _ _ _ _ _ _ _ _ _ _ _ _ _ _ _ _ _ _ _ _ _ _ _ _ _ _ _ _ _ _ _ _ _ _ _ _ _ _ _ _ _ _ _ _ _ _ _ _ _ _ _ _ _ _ _ _ _ _ _ _ _ _ _ _ _ _ _ _ _ _ _ _ _ _ _ _ _ _ _ _ _ _ _ _ _ _ _ _ _ _ _ _ _ _ _ _ _ _ _ _ _ _ _ w' ⟨_, _, _, _, _, _, hJ, HM.out⟩)
  by_cases h5 : kk = 5
  · have t2 : ((kk : Int) == 2) = false := beq_eq_false_iff_ne.2 (by omega)
    have t3 : ((kk : Int) == 3) = false := beq_eq_false_iff_ne.2 (by omega)
    have t4 : ((kk : Int) == 4) = false := beq_eq_false_iff_ne.2 (by omega)
    have t5 : ((kk : Int) == 5) = true := beq_iff_eq.2 (by omega)
    have NBs := NB
    have qz := q0
    have nb0 := NB.set 0 (.int .i64 6)
    simp only [List.setIfInBounds_toArray, List.set_cons_zero] at nb0
    have qs0 := q_set q0 hgb 0 (.int .i64 6)
    have ts0 := box_typ NB 0 (.int .i64 6)
    have so0 := NB.soft
    have J9 := Lib.hid (J0.keep qs0)
    have NB9 := Lib.hid nb0
    have XO9 : Hid (InO _ (w.heap.size + 1) (⟨⟨6, m, 0, [], ⟨#[]⟩, 0, 0⟩, sa, sl, (none, 0, 0)⟩ : NV)) := ⟨OwnR.typ OA ts0 (by decide), OwnR.typ OL ts0 (by decide), OwnR.nil_ _ _ _⟩
    have hno := node_fifo MK
    have HM : Hid (MM (es ++ [(p0, (rs.length : Int))]) ((rs ++ [(⟨⟨6, m, 0, [], ⟨#[]⟩, 0, 0⟩, sa, sl, (none, 0, 0)⟩ : NV)]).map (·.n)) ds fs (i + 1)) := mm_end (by have h := M0.node (x := ((⟨⟨6, m, 0, [], ⟨#[]⟩, 0, 0⟩, sa, sl, (none, 0, 0)⟩ : NV) : NV).n) hi hd hje hfe hno.1 ⟨hno.2, Nat.zero_le _⟩; rw [hp0] at h; exact h)
    obtain ⟨k0, k1, k2, k3, k4, k5, k6, k7, k8, k9, k10, k11⟩ := NB.cells
    have hnl := NB.lt
    clear OA OL NBs qz hno
    go_wp2_with fail
    exact k33 p0 _ _ _ _ _ _ _ _ _ _ _ _ _ _ _ _ _ _ _ _ _ _ _ _ _ _ _ _ _ _ _ _ _ _ _ _ _ _ _ _ _ _ _ _ _ _ _ _ _ _ _ _ _ _ _ _ _ _ _ _ _ _ _ _ _ _ _ _ _ _ _ _ _ _ _ _ _ _ _ _ _ _ _ _ _ _ _ _ _ _ _ _ _ _ _ _ _ _ _ _ _ _ _ _ _ _ _ _ _ _ _ _ _ _ _ _ _ _ _ _ _ _ _ _ _ _ _ _ _ _ _ _ _ _ _ _ _ _ _ _ _ _ _ _ _ _ _ _ _ _ _ _ _ _ _ _ _ _ _ _ _ _ _ _ _ _ _ _ _ _ _ _ _ _ _ _ _ _ _ _ _ _ _ _ _ _ _ _ _ _ _ _ _ _ _ _ _ _ _ _ _ _ _ _ _ _ _ _ _ _ _ _ _ _ _ _ _ _ _ _ _ _ _ _ _ _ _ _ J9.out NB9.out XO9.out (by omega) (by omega) (fun _ _ _ _ _ _ _ _ _ _ _ _ _ _ _ _ vE' vN' w' hJ => HX0.out _ _ _ _ _ _ _ _ _ _ _ _ _ _ _ _ _ _ _ _ _ _ _ _ _ _ _ _ _ _ _ _ _ _ _ _ _ _ _ _ _ _ _ _ _ _ _ _ _ _ _ _ _ _ _ _ _ _ _ _ _ _ _ _ _ _ _ _ _ _ _ _ _ _ _ _ _ _ _ _ _ _ _ _ _ _ _ _ _ _ _ _ _ _ _ _ _ _ _ _ _ _ _ _ _ _ _ _ _ _ _ _ _ _ _ _ _ _ _ _ _ _ _ _ _ _ _ _ w' ⟨_, _, _, _, _, _, hJ, HM.out⟩)
  have t2 : ((kk : Int) == 2) = false ∨ ((kk : Int) == 2) = true ∧ decide ((0 : Int) < (fs.length : Int)) = false := by
    by_cases h : kk = 2
    · exact .inr ⟨beq_iff_eq.2 (by omega), decide_eq_false (by have := tl h; omega)⟩
    · exact .inl (beq_eq_false_iff_ne.2 (by omega))
  have t3 : ((kk : Int) == 3) = false := beq_eq_false_iff_ne.2 (by omega)
  have t4 : ((kk : Int) == 4) = false := beq_eq_false_iff_ne.2 (by omega)
  have t5 : ((kk : Int) == 5) = false := beq_eq_false_iff_ne.2 (by omega)
  obtain ⟨F, cF, hvF⟩ := OwnR.form flatI J0.rf
  obtain ⟨u4, hu4, hu4l⟩ : ∃ r : Nat, Int.tdiv (U : Int) 4 = (r : Int) ∧ r < 18446744073709551616 := ⟨U / 4, div_c U 4, by omega⟩
  have hu4w : IntKind.u64.wrap (u4 : Int) = (u4 : Int) := IntWalk.u64_in _ (by omega)
  obtain ⟨r2, hr2, hr2l⟩ : ∃ r : Nat, Int.tmod (u4 : Int) 2 = (r : Int) ∧ r < 2 := ⟨u4 % 2, rem_c u4 2, Nat.mod_lt _ (by omega)⟩
  have hr2w : IntKind.u64.wrap (r2 : Int) = (r2 : Int) := IntWalk.u64_in _ (by omega)
  have hr2m : IntKind.u64.wrap ((r2 : Int) * 600) = (r2 : Int) * 600 := IntWalk.u64_in _ (by omega)
  have hr2i : IntKind.i64.wrap ((r2 : Int) * 600) = (r2 : Int) * 600 := IntWalk.i64_in _ (by omega)
  obtain ⟨rt, hrt, hrtl⟩ : ∃ r : Nat, Int.tmod (U : Int) 1000 = (r : Int) ∧ r < 1000 := ⟨U % 1000, rem_c U 1000, Nat.mod_lt _ (by omega)⟩
  have hrtw : IntKind.u64.wrap (rt : Int) = (rt : Int) := IntWalk.u64_in _ (by omega)
  have hrti : IntKind.i64.wrap (rt : Int) = (rt : Int) := IntWalk.i64_in _ (by omega)
  have HD := Lib.hid (fun W => Dec.decimal_q rt W (by omega))
  have hno := node_file MK
  have KN : Hid (NK ⟨2, m, 0, [], ⟨#[]⟩, 0, 0⟩) := ⟨hno.1, hno.2, rfl, rfl⟩
  have HW : Hid (∀ (W : World) (st : ByteArray), Q wr W → st.size ≤ 90000 → Calls Tryz.prog 59 #[.agg #[.int .i64 2, .int .i64 m.mode, .int .i64 m.uid, .int .i64 m.gid, .int .i64 m.time, .slice sa.1 sa.2.1 sa.2.2, .slice sl.1 sl.2.1 sl.2.2, .int .i64 0, .slice none 0 0, .string ⟨#[]⟩, .int .i64 0, .int .i64 0], .int .i64 ((r2 : Int) * 600), .string st] W fun e w' => ∃ (x : NV) (cd : Int), e = .returned (.tuple #[.agg #[.int .i64 x.n.kind, .int .i64 x.n.mt.mode, .int .i64 x.n.mt.uid, .int .i64 x.n.mt.gid, .int .i64 x.n.mt.time, .slice x.a.1 x.a.2.1 x.a.2.2, .slice x.l.1 x.l.2.1 x.l.2.2, .int .i64 x.n.size, .slice x.d.1 x.d.2.1 x.d.2.2, .string x.n.target, .int .i64 x.n.major, .int .i64 x.n.minor], .int .i64 cd]) ∧ NK x.n ∧ InO w' (w.heap.size + 1) x ∧ Q W w') := fun W st q hst => by
    have hown : Nd.OwnN W (w.heap.size + 1) (.agg #[.int .i64 2, .int .i64 m.mode, .int .i64 m.uid, .int .i64 m.gid, .int .i64 m.time, .slice sa.1 sa.2.1 sa.2.2, .slice sl.1 sl.2.1 sl.2.2, .int .i64 0, .slice none 0 0, .string ⟨#[]⟩, .int .i64 0, .int .i64 0]) ⟨2, m, 0, [], ⟨#[]⟩, 0, 0⟩ := ⟨slv sa, slv sl, .slice none 0 0, rfl, OwnR.keep OA q, OwnR.keep OL q, OwnR.nil_ _ _ _⟩
    refine (Nd.rWrite_own _ _ ((r2 : Int) * 600) st W hown (by have := q.size; omega) hno.2 (Nat.zero_le _) hst).mono fun e w' ⟨v', he, ho, q'⟩ => ?_
    obtain ⟨x, hx, rfl, hin⟩ := own_nv ho
    exact ⟨x, _, he, by rw [hx]; exact KN.out.write _ _, hin, q'⟩
  have hNBk : Hid (∀ W, Q wr W → BoxN W gb #[.int .i64 2, .int .i64 m.mode, .int .i64 m.uid, .int .i64 m.gid, .int .i64 m.time, .slice sa.1 sa.2.1 sa.2.2, .slice sl.1 sl.2.1 sl.2.2, .int .i64 0, .slice none 0 0, .string ⟨#[]⟩, .int .i64 0, .int .i64 0]) := fun W q => NB.keep q
  have eDec : ∀ args w, (callFunc 58 args).run Tryz.prog w = .ok (.enter 58 args) w := enters_of Tryz.func58 (by kernel_rfl) rfl
  have eWr : ∀ args w, (callFunc 59 args).run Tryz.prog w = .ok (.enter 59 args) w := enters_of Tryz.func59 (by kernel_rfl) rfl
  have HMF : Hid (∀ x : NV, NK x.n → MM (es ++ [(p0, (rs.length : Int))]) ((rs ++ [x]).map (·.n)) ds (fs ++ [(rs.length : Int)]) (i + 1)) := fun x hx => mm_end' (by have h := M0.file (x := x.n) hi hd hje hfe hx.may hx.kind ⟨hx.fit, by rw [hx.tgt]; exact Nat.zero_le _⟩; rw [hp0] at h; exact h)
  obtain ⟨k0, k1, k2, k3, k4, k5, k6, k7, k8, k9, k10, k11⟩ := NB.cells
  have hnl := NB.lt
  subst hvF
  have HJ0 := Lib.hid J0
  clear hno OA OL NB M0 J0
  have t2 : (((kk : Int) == 2) = false) ∨ (((kk : Int) == 2) = true ∧ fs = []) := by
    rcases t2 with h | ⟨h, h'⟩
    · exact .inl h
    · exact .inr ⟨h, List.eq_nil_of_length_eq_zero (by have := of_decide_eq_false h'; omega)⟩
  rcases t2 with t2 | ⟨t2, rfl⟩
  · go_wp2_with fail
    rename_i hK17
    have HK17 := Lib.hid hK17
    clear hK17
    go_region_law (first
      | (refine step_go rfl 58 (.tmp 112) 3 rfl (.int .i64 (rt : Int)) (by simp [Act.eval, Act.put]) eDec (HD.out _) ?_; rintro e wn ⟨sd, rfl, hsd, rfl⟩; refine ⟨_, rfl, ?_⟩; have hs1 : ((⟨#[116, 101, 120, 116, 32]⟩ : ByteArray) ++ sd).size = 5 + sd.size := (by rw [ByteArray.size_append]; rfl); have ha1 := Nd.add_str (a := (⟨#[116, 101, 120, 116, 32]⟩ : ByteArray)) (b := sd) (by show 5 + _ ≤ _; omega); have ha2 := Nd.add_str (a := (⟨#[116, 101, 120, 116, 32]⟩ : ByteArray) ++ sd) (b := (⟨#[32, 111, 102, 32, 116, 104, 105, 115, 32, 97, 110, 100, 32, 116, 104, 97, 116, 44, 32, 97, 110, 100, 32, 111, 102, 32, 116, 104, 105, 115, 32, 97, 110, 100, 32, 116, 104, 97, 116]⟩ : ByteArray)) (by rw [hs1]; show 5 + sd.size + 39 ≤ _; omega))
      | (refine step_go3 rfl 59 (.tmp 104) (.tmp 109) (.tmp 115) 47 2 9 rfl (.agg #[.int .i64 2, .int .i64 m.mode, .int .i64 m.uid, .int .i64 m.gid, .int .i64 m.time, .slice sa.1 sa.2.1 sa.2.2, .slice sl.1 sl.2.1 sl.2.2, .int .i64 0, .slice none 0 0, .string ⟨#[]⟩, .int .i64 0, .int .i64 0]) (.int .i64 ((r2 : Int) * 600)) (.string ((⟨#[116, 101, 120, 116, 32]⟩ : ByteArray) ++ sd ++ (⟨#[32, 111, 102, 32, 116, 104, 105, 115, 32, 97, 110, 100, 32, 116, 104, 97, 116, 44, 32, 97, 110, 100, 32, 111, 102, 32, 116, 104, 105, 115, 32, 97, 110, 100, 32, 116, 104, 97, 116]⟩ : ByteArray))) (by simp [Act.eval, Act.put]) (by simp [Act.eval, Act.put]) (by simp [Act.eval, Act.put]) eWr (HW.out _ ((⟨#[116, 101, 120, 116, 32]⟩ : ByteArray) ++ sd ++ (⟨#[32, 111, 102, 32, 116, 104, 105, 115, 32, 97, 110, 100, 32, 116, 104, 97, 116, 44, 32, 97, 110, 100, 32, 111, 102, 32, 116, 104, 105, 115, 32, 97, 110, 100, 32, 116, 104, 97, 116]⟩ : ByteArray)) (by first | exact Q.refl _ | exact (Q.refl _).drew) (by rw [ByteArray.size_append, hs1]; show 5 + sd.size + 39 ≤ _; omega)) ?_; rintro e w5 ⟨x5, cd, rfl, hk5, hi5, q5⟩; refine ⟨_, rfl, ?_⟩; have q5w : Q wr w5 := (by first | exact q5 | exact Q.trans ((Q.refl wr).drew) q5); have nb5 := hNBk.out _ q5w; have so5 := nb5.soft; obtain ⟨g0, g1, g2, g3, g4, g5, g6, g7, g8, g9, g10, g11⟩ := nb5.cells; have gl5 := nb5.lt))
    all_goals
      refine HK17.out _ _ ?_
      obtain ⟨NB6, q6, t6⟩ := store12 nb5 (q0.trans q5w) hgb (.int .i64 x5.n.kind) (.int .i64 x5.n.mt.mode) (.int .i64 x5.n.mt.uid) (.int .i64 x5.n.mt.gid) (.int .i64 x5.n.mt.time) (.slice x5.a.1 x5.a.2.1 x5.a.2.2) (.slice x5.l.1 x5.l.2.1 x5.l.2.2) (.int .i64 x5.n.size) (.slice x5.d.1 x5.d.2.1 x5.d.2.2) (.string x5.n.target) (.int .i64 x5.n.major) (.int .i64 x5.n.minor)
      have NB7 := Lib.hid NB6
      have XO7 := Lib.hid (hi5.nodeTyp t6)
      have q7 := q6
      have HK5 := Lib.hid hk5
      clear NB6 q6 t6 nb5 so5 g0 g1 g2 g3 g4 g5 g6 g7 g8 g9 g10 g11 gl5 hi5 hk5 k0 k1 k2 k3 k4 k5 k6 k7 k8 k9 k10 k11 hnl
      refine k17 p0 _ _ _ _ _ _ _ _ _ _ _ _ _ _ _ _ _ _ _ _ _ _ _ _ _ _ _ _ _ _ _ _ _ _ _ _ _ _ _ _ _ _ _ _ _ _ _ _ _ _ _ _ _ _ _ _ _ _ _ _ _ _ _ _ _ _ _ _ _ _ _ _ _ _ _ _ _ _ _ _ _ _ _ _ _ _ _ _ _ _ _ _ _ _ _ _ _ _ _ _ _ _ _ _ _ _ _ _ _ _ _ _ _ _ _ _ _ _ _ _ _ _ _ _ _ _ _ _ _ _ _ _ _ _ _ _ _ _ _ _ _ _ _ _ _ _ _ _ _ _ _ _ _ _ _ _ _ _ _ _ _ _ _ _ _ _ _ _ _ _ _ _ _ _ _ _ _ _ _ _ _ _ _ _ _ _ _ _ _ _ _ _ _ _ _ _ _ _ _ _ _ _ _ _ _ _ _ _ _ _ _ _ _ _ _ _ _ _ _ _ _ _ _ _ _ _ HJ0.out q7 hgb NB7.out XO7.out HK5.out (by omega) hU (by omega) ?_
      intro d119 d120 d121 d122 d123 d124 d125 d126 d127 d128 d129 d130 d131 d132 d133 d134 d135 d136 d137 d138 d139 d140 d141 d142 d143 d144 d145 d146 d147 d148 d149 d150 d151 d152 vF2 x6 w6 J6 NB6 XO6 K6
      have HJ6 := Lib.hid J6
      have HN6 := Lib.hid NB6
      have HO6 := Lib.hid XO6
      have HM6 := Lib.hid (HMF.out x6 K6)
      clear J6 NB6 XO6 K6
      exact k33 p0 _ _ _ _ _ _ _ _ _ _ _ _ _ _ _ _ _ _ _ _ _ _ _ _ _ _ _ _ _ _ _ _ _ _ _ _ _ _ _ _ _ _ _ _ _ _ _ _ _ _ _ _ _ _ _ _ _ _ _ _ _ _ _ _ _ _ _ _ _ _ _ _ _ _ _ _ _ _ _ _ _ _ _ _ _ _ _ _ _ _ _ _ _ _ _ _ _ _ _ _ _ _ _ _ _ _ _ _ _ _ _ _ _ _ _ _ _ _ _ _ _ _ _ _ _ _ _ _ _ _ _ _ _ _ _ _ _ _ _ _ _ _ _ _ _ _ _ _ _ _ _ _ _ _ _ _ _ _ _ _ _ _ _ _ _ _ _ _ _ _ _ _ _ _ _ _ _ _ _ _ _ _ _ _ _ _ _ _ _ _ _ _ _ _ _ _ _ _ _ _ _ _ _ _ _ _ _ _ _ _ _ _ _ _ _ _ _ _ _ _ _ _ _ _ _ _ _ _ HJ6.out HN6.out HO6.out (by omega) (by omega) (fun _ _ _ _ _ _ _ _ _ _ _ _ _ _ _ _ vE' vN' w' hJ => HX0.out _ _ _ _ _ _ _ _ _ _ _ _ _ _ _ _ _ _ _ _ _ _ _ _ _ _ _ _ _ _ _ _ _ _ _ _ _ _ _ _ _ _ _ _ _ _ _ _ _ _ _ _ _ _ _ _ _ _ _ _ _ _ _ _ _ _ _ _ _ _ _ _ _ _ _ _ _ _ _ _ _ _ _ _ _ _ _ _ _ _ _ _ _ _ _ _ _ _ _ _ _ _ _ _ _ _ _ _ _ _ _ _ _ _ _ _ _ _ _ _ _ _ _ _ _ _ _ _ w' ⟨_, _, _, _, _, _, hJ, HM6.out⟩)
  · go_wp2_with fail
    rename_i hK17
    have HK17 := Lib.hid hK17
    clear hK17
    go_region_law (first
      | (refine step_go rfl 58 (.tmp 112) 3 rfl (.int .i64 (rt : Int)) (by simp [Act.eval, Act.put]) eDec (HD.out _) ?_; rintro e wn ⟨sd, rfl, hsd, rfl⟩; refine ⟨_, rfl, ?_⟩; have hs1 : ((⟨#[116, 101, 120, 116, 32]⟩ : ByteArray) ++ sd).size = 5 + sd.size := (by rw [ByteArray.size_append]; rfl); have ha1 := Nd.add_str (a := (⟨#[116, 101, 120, 116, 32]⟩ : ByteArray)) (b := sd) (by show 5 + _ ≤ _; omega); have ha2 := Nd.add_str (a := (⟨#[116, 101, 120, 116, 32]⟩ : ByteArray) ++ sd) (b := (⟨#[32, 111, 102, 32, 116, 104, 105, 115, 32, 97, 110, 100, 32, 116, 104, 97, 116, 44, 32, 97, 110, 100, 32, 111, 102, 32, 116, 104, 105, 115, 32, 97, 110, 100, 32, 116, 104, 97, 116]⟩ : ByteArray)) (by rw [hs1]; show 5 + sd.size + 39 ≤ _; omega))
      | (refine step_go3 rfl 59 (.tmp 104) (.tmp 109) (.tmp 115) 47 2 9 rfl (.agg #[.int .i64 2, .int .i64 m.mode, .int .i64 m.uid, .int .i64 m.gid, .int .i64 m.time, .slice sa.1 sa.2.1 sa.2.2, .slice sl.1 sl.2.1 sl.2.2, .int .i64 0, .slice none 0 0, .string ⟨#[]⟩, .int .i64 0, .int .i64 0]) (.int .i64 ((r2 : Int) * 600)) (.string ((⟨#[116, 101, 120, 116, 32]⟩ : ByteArray) ++ sd ++ (⟨#[32, 111, 102, 32, 116, 104, 105, 115, 32, 97, 110, 100, 32, 116, 104, 97, 116, 44, 32, 97, 110, 100, 32, 111, 102, 32, 116, 104, 105, 115, 32, 97, 110, 100, 32, 116, 104, 97, 116]⟩ : ByteArray))) (by simp [Act.eval, Act.put]) (by simp [Act.eval, Act.put]) (by simp [Act.eval, Act.put]) eWr (HW.out _ ((⟨#[116, 101, 120, 116, 32]⟩ : ByteArray) ++ sd ++ (⟨#[32, 111, 102, 32, 116, 104, 105, 115, 32, 97, 110, 100, 32, 116, 104, 97, 116, 44, 32, 97, 110, 100, 32, 111, 102, 32, 116, 104, 105, 115, 32, 97, 110, 100, 32, 116, 104, 97, 116]⟩ : ByteArray)) (by first | exact Q.refl _ | exact (Q.refl _).drew) (by rw [ByteArray.size_append, hs1]; show 5 + sd.size + 39 ≤ _; omega)) ?_; rintro e w5 ⟨x5, cd, rfl, hk5, hi5, q5⟩; refine ⟨_, rfl, ?_⟩; have q5w : Q wr w5 := (by first | exact q5 | exact Q.trans ((Q.refl wr).drew) q5); have nb5 := hNBk.out _ q5w; have so5 := nb5.soft; obtain ⟨g0, g1, g2, g3, g4, g5, g6, g7, g8, g9, g10, g11⟩ := nb5.cells; have gl5 := nb5.lt))
    all_goals
      refine HK17.out _ _ ?_
      obtain ⟨NB6, q6, t6⟩ := store12 nb5 (q0.trans q5w) hgb (.int .i64 x5.n.kind) (.int .i64 x5.n.mt.mode) (.int .i64 x5.n.mt.uid) (.int .i64 x5.n.mt.gid) (.int .i64 x5.n.mt.time) (.slice x5.a.1 x5.a.2.1 x5.a.2.2) (.slice x5.l.1 x5.l.2.1 x5.l.2.2) (.int .i64 x5.n.size) (.slice x5.d.1 x5.d.2.1 x5.d.2.2) (.string x5.n.target) (.int .i64 x5.n.major) (.int .i64 x5.n.minor)
      have NB7 := Lib.hid NB6
      have XO7 := Lib.hid (hi5.nodeTyp t6)
      have q7 := q6
      have HK5 := Lib.hid hk5
      clear NB6 q6 t6 nb5 so5 g0 g1 g2 g3 g4 g5 g6 g7 g8 g9 g10 g11 gl5 hi5 hk5 k0 k1 k2 k3 k4 k5 k6 k7 k8 k9 k10 k11 hnl
      refine k17 p0 _ _ _ _ _ _ _ _ _ _ _ _ _ _ _ _ _ _ _ _ _ _ _ _ _ _ _ _ _ _ _ _ _ _ _ _ _ _ _ _ _ _ _ _ _ _ _ _ _ _ _ _ _ _ _ _ _ _ _ _ _ _ _ _ _ _ _ _ _ _ _ _ _ _ _ _ _ _ _ _ _ _ _ _ _ _ _ _ _ _ _ _ _ _ _ _ _ _ _ _ _ _ _ _ _ _ _ _ _ _ _ _ _ _ _ _ _ _ _ _ _ _ _ _ _ _ _ _ _ _ _ _ _ _ _ _ _ _ _ _ _ _ _ _ _ _ _ _ _ _ _ _ _ _ _ _ _ _ _ _ _ _ _ _ _ _ _ _ _ _ _ _ _ _ _ _ _ _ _ _ _ _ _ _ _ _ _ _ _ _ _ _ _ _ _ _ _ _ _ _ _ _ _ _ _ _ _ _ _ _ _ _ _ _ _ _ _ _ _ _ _ _ _ _ _ _ HJ0.out q7 hgb NB7.out XO7.out HK5.out (by omega) hU (by omega) ?_
      intro d119 d120 d121 d122 d123 d124 d125 d126 d127 d128 d129 d130 d131 d132 d133 d134 d135 d136 d137 d138 d139 d140 d141 d142 d143 d144 d145 d146 d147 d148 d149 d150 d151 d152 vF2 x6 w6 J6 NB6 XO6 K6
      have HJ6 := Lib.hid J6
      have HN6 := Lib.hid NB6
      have HO6 := Lib.hid XO6
      have HM6 := Lib.hid (HMF.out x6 K6)
      clear J6 NB6 XO6 K6
      exact k33 p0 _ _ _ _ _ _ _ _ _ _ _ _ _ _ _ _ _ _ _ _ _ _ _ _ _ _ _ _ _ _ _ _ _ _ _ _ _ _ _ _ _ _ _ _ _ _ _ _ _ _ _ _ _ _ _ _ _ _ _ _ _ _ _ _ _ _ _ _ _ _ _ _ _ _ _ _ _ _ _ _ _ _ _ _ _ _ _ _ _ _ _ _ _ _ _ _ _ _ _ _ _ _ _ _ _ _ _ _ _ _ _ _ _ _ _ _ _ _ _ _ _ _ _ _ _ _ _ _ _ _ _ _ _ _ _ _ _ _ _ _ _ _ _ _ _ _ _ _ _ _ _ _ _ _ _ _ _ _ _ _ _ _ _ _ _ _ _ _ _ _ _ _ _ _ _ _ _ _ _ _ _ _ _ _ _ _ _ _ _ _ _ _ _ _ _ _ _ _ _ _ _ _ _ _ _ _ _ _ _ _ _ _ _ _ _ _ _ _ _ _ _ _ _ _ _ _ _ _ HJ6.out HN6.out HO6.out (by omega) (by omega) (fun _ _ _ _ _ _ _ _ _ _ _ _ _ _ _ _ vE' vN' w' hJ => HX0.out _ _ _ _ _ _ _ _ _ _ _ _ _ _ _ _ _ _ _ _ _ _ _ _ _ _ _ _ _ _ _ _ _ _ _ _ _ _ _ _ _ _ _ _ _ _ _ _ _ _ _ _ _ _ _ _ _ _ _ _ _ _ _ _ _ _ _ _ _ _ _ _ _ _ _ _ _ _ _ _ _ _ _ _ _ _ _ _ _ _ _ _ _ _ _ _ _ _ _ _ _ _ _ _ _ _ _ _ _ _ _ _ _ _ _ _ _ _ _ _ _ _ _ _ _ _ _ _ w' ⟨_, _, _, _, _, _, hJ, HM6.out⟩)
end Go.Proofs.YtgbenepapajieaaGreat.Tr
