/-
  Make: the number of a new file is kept.
-/
import Derived.Test.YtgbenepapajieaaGreatTMk33
import Derived.Test.YtgbenepapajieaaGreatTMkB
namespace Go.Proofs.YtgbenepapajieaaGreat.Tr
open Go.RowKit
open Go.Proofs.YtgbenepapajieaaGreat.Nd (Nd mayN sumP nodeV NodeAt PcsAt OwnP BoxN writeN cutNd)
open Go.Proofs.YtgbenepapajieaaGreat.Pa (lessB parentB hasParentB lastB underB joinB joinErrB)
set_option maxRecDepth 100000 in
set_option maxHeartbeats 8000000 in
theorem k21 {w wr : World} {bt gb : Nat} {vE vN vD vF : Value} {es : List Ent} {rs : List NV} {ds : List ByteArray} {fs : List Int} {x : NV} {Q0 : Exit → Act → World → Prop} (c0 c1 c2 c4 c6 c7 c8 c9 c10 c11 c12 c13 c14 c15 c16 c17 c18 c19 c20 c21 c22 c23 c24 c25 c26 c27 c28 c29 c30 c31 c32 c33 c34 c35 c36 c37 c38 c39 c40 c41 c42 c43 c44 c45 c46 c47 c48 c49 c50 c51 c52 c53 c54 c55 c56 c57 c58 c59 c60 c61 c62 c63 c64 c65 c66 c67 c68 c69 c70 c71 c72 c73 c74 c75 c76 c77 c78 c79 c80 c81 c82 c83 c84 c85 c86 c87 c88 c89 c90 c91 c92 c93 c94 c95 c96 c97 c98 c99 c100 c101 c102 c103 c104 c105 c106 c107 c108 c109 c110 c111 c112 c113 c114 c115 c116 c117 c118 c119 c120 c121 c122 c123 c124 c125 c126 c127 c128 c129 c130 c131 c132 c133 c134 c135 c136 c137 c138 c139 c140 c141 c142 c143 c144 c145 c146 c147 c148 c149 c150 c151 c152 c153 c154 c155 c156 c157 c158 c159 c160 c161 c162 c163 c164 c165 c166 c167 c168 c169 c170 c171 c172 c173 c174 c175 c176 c177 c178 c179 c180 c181 c182 c183 c184 c185 c186 c187 c188 c189 c190 c191 c192 c193 c194 c195 c196 c197 c198 c199 c200 c201 c202 c203 c204 c205 c206 c207 c208 c209 c210 c211 c212 c213 c214 c215 c216 c217 c218 c219 c220 c221 c222 c223 c224 c225 c226 c227 c228 c229 c230 : Value)
    (J : MJ w wr bt vE vN vD vF es rs ds fs) (NB : BoxN wr gb #[.int .i64 x.n.kind, .int .i64 x.n.mt.mode, .int .i64 x.n.mt.uid, .int .i64 x.n.mt.gid, .int .i64 x.n.mt.time, .slice x.a.1 x.a.2.1 x.a.2.2, .slice x.l.1 x.l.2.1 x.l.2.2, .int .i64 x.n.size, .slice x.d.1 x.d.2.1 x.d.2.2, .string x.n.target, .int .i64 x.n.major, .int .i64 x.n.minor]) (XO : InO wr (w.heap.size + 1) x) (hfl : fs.length ≤ 1000)
    (hexit : ∀ (d147 d148 d149 d150 d151 d152 vF' : Value) (w' : World), MJ w w' bt vE vN vD vF' es rs ds (fs ++ [(rs.length : Int)]) → BoxN w' gb #[.int .i64 x.n.kind, .int .i64 x.n.mt.mode, .int .i64 x.n.mt.uid, .int .i64 x.n.mt.gid, .int .i64 x.n.mt.time, .slice x.a.1 x.a.2.1 x.a.2.2, .slice x.l.1 x.l.2.1 x.l.2.2, .int .i64 x.n.size, .slice x.d.1 x.d.2.1 x.d.2.2, .string x.n.target, .int .i64 x.n.major, .int .i64 x.n.minor] → InO w' (w.heap.size + 1) x → Q0 .normal ⟨#[c0, c1, c2, .pointer (some ⟨bt, 0, none⟩), c4, vF', c6, c7, c8, c9, c10, c11, c12, c13, c14, c15, c16, c17, c18, c19, c20, c21, c22, c23, c24, c25, c26, c27, c28, c29, c30, c31, c32, c33, c34, c35, c36, c37, c38, c39, c40, c41, c42, c43, c44, c45, c46, c47, c48, c49, c50, c51, c52, c53, c54, c55, c56, c57, c58, c59, c60, c61, c62, c63, c64, c65, c66, c67, c68, c69, c70, c71, c72, c73, c74, c75, c76, c77, c78, c79, c80, c81, c82, c83, c84, c85, c86, c87, c88, c89, c90, c91, c92, c93, c94, c95, c96, c97, c98, c99, c100, c101, c102, c103, c104, c105, c106, c107, c108, c109, c110, c111, c112, c113, c114, c115, c116, c117, c118, c119, c120, c121, c122, c123, c124, c125, c126, c127, c128, c129, c130, c131, c132, c133, c134, c135, c136, c137, c138, c139, c140, c141, c142, c143, c144, c145, c146, d147, d148, d149, d150, d151, d152, c153, c154, c155, c156, c157, c158, c159, c160, c161, c162, c163, c164, c165, c166, c167, c168, c169, c170, c171, c172, c173, c174, c175, c176, c177, c178, c179, c180, c181, c182, c183, c184, c185, c186, c187, c188, c189, c190, c191, c192, c193, c194, c195, c196, c197, c198, c199, c200, c201, c202, c203, c204, c205, c206, c207, c208, c209, c210, c211, c212, c213, c214, c215, c216, c217, c218, c219, c220, c221, c222, c223, c224, c225, c226, c227, c228, c229, c230], []⟩ w') :
    Code.wp Tryz.prog (mk 21) Q0 ⟨#[c0, c1, c2, .pointer (some ⟨bt, 0, none⟩), c4, vF, c6, c7, c8, c9, c10, c11, c12, c13, c14, c15, c16, c17, c18, c19, c20, c21, c22, c23, c24, c25, c26, c27, c28, c29, c30, c31, c32, c33, c34, c35, c36, c37, c38, c39, c40, c41, c42, c43, c44, c45, c46, c47, c48, c49, c50, c51, c52, c53, c54, c55, c56, c57, c58, c59, c60, c61, c62, c63, c64, c65, c66, c67, c68, c69, c70, c71, c72, c73, c74, c75, c76, c77, c78, c79, c80, c81, c82, c83, c84, c85, c86, c87, c88, c89, c90, c91, c92, c93, c94, c95, c96, c97, c98, c99, c100, c101, c102, c103, c104, c105, c106, c107, c108, c109, c110, c111, c112, c113, c114, c115, c116, c117, c118, c119, c120, c121, c122, c123, c124, c125, c126, c127, c128, c129, c130, c131, c132, c133, c134, c135, c136, c137, c138, c139, c140, c141, c142, c143, c144, c145, c146, c147, c148, c149, c150, c151, c152, c153, c154, c155, c156, c157, c158, c159, c160, c161, c162, c163, c164, c165, c166, c167, c168, c169, c170, c171, c172, c173, c174, c175, c176, c177, c178, c179, c180, c181, c182, c183, c184, c185, c186, c187, c188, c189, c190, c191, c192, c193, c194, c195, c196, c197, c198, c199, c200, c201, c202, c203, c204, c205, c206, c207, c208, c209, c210, c211, c212, c213, c214, c215, c216, c217, c218, c219, c220, c221, c222, c223, c224, c225, c226, c227, c228, c229, c230], []⟩ wr := by
  have HX := Lib.hid hexit
  clear hexit
  refine Code.wp_mono (Q := Exit.then (fun a w => Q0 .normal a w) (fun e a w => match e with | .exit n => Q0 (.exit n) a w | _ => False)) ?_ ?_
  · intro e a w h
    cases e <;> first | exact h | exact h.elim
  conv => arg 2; whnf
  have hsz := J.size
  obtain ⟨AN, cN, rfl⟩ := OwnR.form flatN J.rn
  obtain ⟨b2, b3⟩ := J.box.cells
  have hbl := J.box.lt
  have JH := Lib.hid J
  have NH := Lib.hid NB
  have XH := Lib.hid XO
  clear J NB XO
  go_wp2_with (at_builtin; refine wpList_append_int rfl (.tmp 147) (.tmp 151) rfl (w.heap.size + 1) vF fs rfl (OwnR.keep JH.out.rf ((Q.refl wr).alloc _)) _ [(rs.length : Int)] rfl ((own_one flatI 3 wr wr.heap.size (Nat.le_refl _) (rs.length : Int)).row flatI) (by simp; omega) (by rw [World.size_alloc]; omega) ?_)
  intro v9 w9 hown9 hg9 _
  have q9 := (Q.refl wr).alloc (.cells #[.int .i64 (rs.length : Int)] 3)
  have J9 := JH.out.keep q9
  have tg : Typ [3] (wr.alloc (.cells #[.int .i64 (rs.length : Int)] 3)) w9 := Typ.grown J9.rf hg9 (by simp)
  have NB9 := Lib.hid (boxN_typ (NH.out.keep q9) tg (by decide))
  have XO9 := Lib.hid ((XH.out.keepQ q9).typ tg (by decide) (by decide) (by decide))
  have J10 := Lib.hid (J9.file hg9 hown9)
  clear J9 tg q9 hg9 hown9 JH NH XH b2 b3 hbl
  go_wp2
  exact HX.out _ _ _ _ _ _ _ _ J10.out NB9.out XO9.out
end Go.Proofs.YtgbenepapajieaaGreat.Tr
