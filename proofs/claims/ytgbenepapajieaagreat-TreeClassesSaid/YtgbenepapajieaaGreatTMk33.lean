/-
  Make, the end of a round: the entry and the node are appended.
-/
import Derived.Test.YtgbenepapajieaaGreatTMakeJ
import Derived.Test.YtgbenepapajieaaGreatTMadeM
import Derived.Test.YtgbenepapajieaaGreatTRefN
namespace Go.Proofs.YtgbenepapajieaaGreat.Tr
open Go.RowKit
open Go.Proofs.YtgbenepapajieaaGreat.Nd (Nd mayN sumP nodeV NodeAt PcsAt OwnP BoxN writeN cutNd)
open Go.Proofs.YtgbenepapajieaaGreat.Pa (lessB parentB hasParentB lastB underB joinB joinErrB)
theorem wp_seqc {P : Program} {x y y' : Code} {Q : Exit → Act → World → Prop} {a : Act} {w : World} (e : y = y') (h : x.wp P (Exit.then (y'.wp P Q) Q) a w) : (Code.seq x y).wp P Q a w := by
  subst e
  exact wp_seq h
noncomputable def mk (k : Nat) : Code := (Tryz.f29.body.bind (findReg k)).getD .skip
set_option maxRecDepth 100000 in
set_option maxHeartbeats 8000000 in
theorem k33 {w wr : World} {bt gb : Nat} {vE vN vD vF : Value} {es : List Ent} {rs : List NV} {ds : List ByteArray} {fs : List Int} {x : NV} {Q0 : Exit → Act → World → Prop} (p0 : ByteArray) (c0 c1 c2 c4 c5 c6 c7 c9 c10 c11 c13 c14 c15 c16 c17 c18 c19 c20 c21 c22 c23 c24 c25 c26 c27 c28 c29 c30 c31 c32 c33 c34 c35 c36 c37 c38 c39 c40 c41 c42 c43 c44 c45 c46 c47 c48 c49 c50 c51 c52 c53 c54 c55 c56 c57 c58 c59 c60 c61 c62 c63 c64 c65 c66 c67 c68 c69 c70 c71 c72 c73 c74 c75 c76 c77 c78 c79 c80 c81 c82 c83 c84 c85 c86 c87 c88 c89 c90 c91 c92 c93 c94 c95 c96 c97 c98 c99 c100 c101 c102 c103 c104 c105 c106 c107 c108 c109 c110 c111 c112 c113 c114 c115 c116 c117 c118 c119 c120 c121 c122 c123 c124 c125 c126 c127 c128 c129 c130 c131 c132 c133 c134 c135 c136 c137 c138 c139 c140 c141 c142 c143 c144 c145 c146 c147 c148 c149 c150 c151 c152 c153 c154 c155 c156 c157 c158 c159 c160 c161 c162 c163 c164 c165 c166 c167 c168 c169 c170 c171 c172 c173 c174 c175 c176 c177 c178 c179 c180 c181 c182 c183 c184 c185 c186 c187 c188 c189 c190 c191 c192 c193 c194 c195 c196 c197 c198 c199 c200 c201 c202 c203 c204 c205 c206 c207 c208 c209 c210 c211 c212 c213 c214 c215 c216 c217 c218 c219 c220 c221 c222 c223 c224 c225 c226 c227 c228 c229 c230 : Value)
    (J : MJ w wr bt vE vN vD vF es rs ds fs) (NB : BoxN wr gb #[.int .i64 x.n.kind, .int .i64 x.n.mt.mode, .int .i64 x.n.mt.uid, .int .i64 x.n.mt.gid, .int .i64 x.n.mt.time, .slice x.a.1 x.a.2.1 x.a.2.2, .slice x.l.1 x.l.2.1 x.l.2.2, .int .i64 x.n.size, .slice x.d.1 x.d.2.1 x.d.2.2, .string x.n.target, .int .i64 x.n.major, .int .i64 x.n.minor]) (XO : InO wr (w.heap.size + 1) x) (hel : es.length ≤ 1000) (hrl : rs.length ≤ 1000)
    (hexit : ∀ (d209 d210 d211 d212 d213 d214 d215 d216 d217 d218 d219 d220 d221 d222 d223 d224 vE' vN' : Value) (w' : World), MJ w w' bt vE' vN' vD vF (es ++ [(p0, (rs.length : Int))]) (rs ++ [x]) ds fs → Q0 .normal ⟨#[c0, c1, c2, .pointer (some ⟨bt, 0, none⟩), c4, c5, c6, c7, .string p0, c9, c10, c11, .pointer (some ⟨gb, 0, none⟩), c13, c14, c15, c16, c17, c18, c19, c20, c21, c22, c23, c24, c25, c26, c27, c28, c29, c30, c31, c32, c33, c34, c35, c36, c37, c38, c39, c40, c41, c42, c43, c44, c45, c46, c47, c48, c49, c50, c51, c52, c53, c54, c55, c56, c57, c58, c59, c60, c61, c62, c63, c64, c65, c66, c67, c68, c69, c70, c71, c72, c73, c74, c75, c76, c77, c78, c79, c80, c81, c82, c83, c84, c85, c86, c87, c88, c89, c90, c91, c92, c93, c94, c95, c96, c97, c98, c99, c100, c101, c102, c103, c104, c105, c106, c107, c108, c109, c110, c111, c112, c113, c114, c115, c116, c117, c118, c119, c120, c121, c122, c123, c124, c125, c126, c127, c128, c129, c130, c131, c132, c133, c134, c135, c136, c137, c138, c139, c140, c141, c142, c143, c144, c145, c146, c147, c148, c149, c150, c151, c152, c153, c154, c155, c156, c157, c158, c159, c160, c161, c162, c163, c164, c165, c166, c167, c168, c169, c170, c171, c172, c173, c174, c175, c176, c177, c178, c179, c180, c181, c182, c183, c184, c185, c186, c187, c188, c189, c190, c191, c192, c193, c194, c195, c196, c197, c198, c199, c200, c201, c202, c203, c204, c205, c206, c207, c208, d209, d210, d211, d212, d213, d214, d215, d216, d217, d218, d219, d220, d221, d222, d223, d224, c225, c226, c227, c228, c229, c230], []⟩ w') :
    Code.wp Tryz.prog (mk 33) Q0 ⟨#[c0, c1, c2, .pointer (some ⟨bt, 0, none⟩), c4, c5, c6, c7, .string p0, c9, c10, c11, .pointer (some ⟨gb, 0, none⟩), c13, c14, c15, c16, c17, c18, c19, c20, c21, c22, c23, c24, c25, c26, c27, c28, c29, c30, c31, c32, c33, c34, c35, c36, c37, c38, c39, c40, c41, c42, c43, c44, c45, c46, c47, c48, c49, c50, c51, c52, c53, c54, c55, c56, c57, c58, c59, c60, c61, c62, c63, c64, c65, c66, c67, c68, c69, c70, c71, c72, c73, c74, c75, c76, c77, c78, c79, c80, c81, c82, c83, c84, c85, c86, c87, c88, c89, c90, c91, c92, c93, c94, c95, c96, c97, c98, c99, c100, c101, c102, c103, c104, c105, c106, c107, c108, c109, c110, c111, c112, c113, c114, c115, c116, c117, c118, c119, c120, c121, c122, c123, c124, c125, c126, c127, c128, c129, c130, c131, c132, c133, c134, c135, c136, c137, c138, c139, c140, c141, c142, c143, c144, c145, c146, c147, c148, c149, c150, c151, c152, c153, c154, c155, c156, c157, c158, c159, c160, c161, c162, c163, c164, c165, c166, c167, c168, c169, c170, c171, c172, c173, c174, c175, c176, c177, c178, c179, c180, c181, c182, c183, c184, c185, c186, c187, c188, c189, c190, c191, c192, c193, c194, c195, c196, c197, c198, c199, c200, c201, c202, c203, c204, c205, c206, c207, c208, c209, c210, c211, c212, c213, c214, c215, c216, c217, c218, c219, c220, c221, c222, c223, c224, c225, c226, c227, c228, c229, c230], []⟩ wr := by
  have HX := Lib.hid hexit
  clear hexit
  refine Code.wp_mono (Q := Exit.then (fun a w => Q0 .normal a w) (fun e a w => match e with | .exit n => Q0 (.exit n) a w | _ => False)) ?_ ?_
  · intro e a w h
    cases e <;> first | exact h | exact h.elim
  conv => arg 2; whnf
  have hsz := J.size
  obtain ⟨AN, cN, rfl⟩ := OwnR.form flatN J.rn
  obtain ⟨b2, b3⟩ := J.box.cells
  have hbl := J.box.lt
  have JH := Lib.hid J
  have NH := Lib.hid NB
  have XH := Lib.hid XO
  clear J NB XO
  go_wp2_with (at_builtin; refine wpList_append_ent rfl (.tmp 210) (.tmp 216) rfl (w.heap.size + 1) vE es rfl (OwnR.keep JH.out.re ((Q.refl wr).alloc _)) _ [(p0, (rs.length : Int))] rfl (ents_box wr p0 rs.length) (by simp; omega) (by rw [World.size_alloc]; omega) ?_)
  intro v9 w9 hown9 hg9 _
  have J9 := JH.out.keep ((Q.refl wr).alloc (.cells #[.string p0, .int .i64 (rs.length : Int)] 49))
  have NB9 := boxN_typ (NH.out.keep ((Q.refl wr).alloc (.cells #[.string p0, .int .i64 (rs.length : Int)] 49))) (J9.ent_typ hg9 v9) (by decide)
  have XO9 := (XH.out.typ (Typ.of_q (Ts := []) ((Q.refl wr).alloc (.cells #[.string p0, .int .i64 (rs.length : Int)] 49))) (by simp) (by simp) (by simp)).typ (J9.ent_typ hg9 v9) (by decide) (by decide) (by decide)
  have tb9 := J9.box.typ (Typ.grown (Ts := [49]) J9.re hg9 (by simp)) (by decide)
  obtain ⟨m0, m1⟩ := tb9.cells
  have ms := tb9.soft
  obtain ⟨A9, n9, rfl⟩ := OwnR.form flatE hown9
  have J10 := J9.ent hg9 hown9
  rw [show (es ++ [(p0, (rs.length : Int))]).length = es.length + 1 by simp] at J10 NB9 XO9
  obtain ⟨b4, b5⟩ := J10.box.cells
  obtain ⟨k0, k1, k2, k3, k4, k5, k6, k7, k8, k9, k10, k11⟩ := NB9.cells
  have hsz10 := J10.size
  have JH2 := Lib.hid J10
  have XH2 := Lib.hid XO9
  have hro2 := nodes_built (w9.setCell ⟨bt, 0, none⟩ (.slice A9 (es.length + 1) n9)) x
  rw [show (w9.setCell ⟨bt, 0, none⟩ (.slice A9 (es.length + 1) n9)).heap.size = w9.heap.size by simp] at hro2
  have hro2 := Lib.hid hro2
  have hlt9 := World.block_lt_of_cell? w9 _ m0
  have hnl := NB9.lt
  clear J9 NB9 XO9 J10 tb9 JH NH XH hg9 hown9 b2 b3 hbl
  go_wp2_with (at_builtin; refine wpList_append_node rfl (.tmp 220) (.tmp 222) rfl (w.heap.size + 1) (.slice AN rs.length cN) rs rfl (OwnR.keep JH2.out.rn ((Q.refl _).alloc _)) _ [x] rfl hro2.out (by simp; omega) (by rw [World.size_alloc]; omega) ?_)
  intro v11 w11 hown11 hg11 _
  have J11 := JH2.out.keep ((Q.refl (w9.setCell ⟨bt, 0, none⟩ (.slice A9 (es.length + 1) n9))).alloc (.cells #[.int .i64 x.n.kind, .int .i64 x.n.mt.mode, .int .i64 x.n.mt.uid, .int .i64 x.n.mt.gid, .int .i64 x.n.mt.time, .slice x.a.1 x.a.2.1 x.a.2.2, .slice x.l.1 x.l.2.1 x.l.2.2, .int .i64 x.n.size, .slice x.d.1 x.d.2.1 x.d.2.2, .string x.n.target, .int .i64 x.n.major, .int .i64 x.n.minor] 47))
  have XO11 := XH2.out.typ (Typ.of_q (Ts := []) ((Q.refl (w9.setCell ⟨bt, 0, none⟩ (.slice A9 (es.length + 1) n9))).alloc (.cells #[.int .i64 x.n.kind, .int .i64 x.n.mt.mode, .int .i64 x.n.mt.uid, .int .i64 x.n.mt.gid, .int .i64 x.n.mt.time, .slice x.a.1 x.a.2.1 x.a.2.2, .slice x.l.1 x.l.2.1 x.l.2.2, .int .i64 x.n.size, .slice x.d.1 x.d.2.1 x.d.2.2, .string x.n.target, .int .i64 x.n.major, .int .i64 x.n.minor] 47))) (by simp) (by simp) (by simp)
  have tb11 := J11.box.typ (Typ.grown (Ts := [47]) J11.rn hg11 (by simp)) (by decide)
  obtain ⟨q0, q1⟩ := tb11.cells
  have qs := tb11.soft
  obtain ⟨A11, n11, rfl⟩ := OwnR.form flatN hown11
  have J12 := Lib.hid (J11.node hg11 hown11 XO11)
  rw [show (rs ++ [x]).length = rs.length + 1 by simp] at J12
  clear J11 XO11 tb11 hg11 hown11 JH2 XH2 m0 m1 ms k0 k1 k2 k3 k4 k5 k6 k7 k8 k9 k10 k11 b4 b5
  go_wp2
  exact HX.out _ _ _ _ _ _ _ _ _ _ _ _ _ _ _ _ _ _ _ J12.out
end Go.Proofs.YtgbenepapajieaaGreat.Tr
