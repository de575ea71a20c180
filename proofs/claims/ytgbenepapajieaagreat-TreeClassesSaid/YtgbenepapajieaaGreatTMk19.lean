/-
  Make: a new file may be cut.
-/
import Derived.Test.YtgbenepapajieaaGreatTMk21
import Derived.Test.YtgbenepapajieaaGreatTRefW
namespace Go.Proofs.YtgbenepapajieaaGreat.Tr
open Go.RowKit
open Go.Proofs.YtgbenepapajieaaGreat.Nd (Nd mayN sumP nodeV NodeAt PcsAt OwnP BoxN writeN cutNd)
open Go.Proofs.YtgbenepapajieaaGreat.Pa (lessB parentB hasParentB lastB underB joinB joinErrB)
set_option maxRecDepth 100000 in
set_option maxHeartbeats 8000000 in
theorem k19 {w wr0 wr : World} {bt gb U : Nat} {vE vN vD vF : Value} {es : List Ent} {rs : List NV} {ds : List ByteArray} {fs : List Int} {x : NV} {Q0 : Exit → Act → World → Prop} (c0 c1 c2 c4 c6 c8 c9 c10 c11 c13 c14 c15 c16 c17 c18 c19 c20 c21 c22 c23 c24 c25 c26 c27 c28 c29 c30 c31 c32 c33 c34 c35 c36 c37 c38 c39 c40 c41 c42 c43 c44 c45 c46 c47 c48 c49 c50 c51 c52 c53 c54 c55 c56 c57 c58 c59 c60 c61 c62 c63 c64 c65 c66 c67 c68 c69 c70 c71 c72 c73 c74 c75 c76 c77 c78 c79 c80 c81 c82 c83 c84 c85 c86 c87 c88 c89 c90 c91 c92 c93 c94 c95 c96 c97 c98 c99 c100 c101 c102 c103 c104 c105 c106 c107 c108 c109 c110 c111 c112 c113 c114 c115 c116 c117 c118 c119 c120 c121 c122 c123 c124 c125 c126 c127 c128 c129 c130 c131 c132 c133 c134 c135 c136 c137 c138 c139 c140 c141 c142 c143 c144 c145 c146 c147 c148 c149 c150 c151 c152 c153 c154 c155 c156 c157 c158 c159 c160 c161 c162 c163 c164 c165 c166 c167 c168 c169 c170 c171 c172 c173 c174 c175 c176 c177 c178 c179 c180 c181 c182 c183 c184 c185 c186 c187 c188 c189 c190 c191 c192 c193 c194 c195 c196 c197 c198 c199 c200 c201 c202 c203 c204 c205 c206 c207 c208 c209 c210 c211 c212 c213 c214 c215 c216 c217 c218 c219 c220 c221 c222 c223 c224 c225 c226 c227 c228 c229 c230 : Value)
    (J0 : MJ w wr0 bt vE vN vD vF es rs ds fs) (q0 : Q wr0 wr) (hgb : wr0.heap.size ≤ gb) (NB : BoxN wr gb #[.int .i64 x.n.kind, .int .i64 x.n.mt.mode, .int .i64 x.n.mt.uid, .int .i64 x.n.mt.gid, .int .i64 x.n.mt.time, .slice x.a.1 x.a.2.1 x.a.2.2, .slice x.l.1 x.l.2.1 x.l.2.2, .int .i64 x.n.size, .slice x.d.1 x.d.2.1 x.d.2.2, .string x.n.target, .int .i64 x.n.major, .int .i64 x.n.minor]) (XO : InO wr (w.heap.size + 1) x) (HK : NK x.n) (hfl : fs.length ≤ 1000) (_hU : U < 18446744073709551616)
    (hexit : ∀ (d132 d133 d134 d135 d136 d137 d138 d139 d140 d141 d142 d143 d144 d145 d146 d147 d148 d149 d150 d151 d152 vF' : Value) (x : NV) (w' : World), MJ w w' bt vE vN vD vF' es rs ds (fs ++ [(rs.length : Int)]) → BoxN w' gb #[.int .i64 x.n.kind, .int .i64 x.n.mt.mode, .int .i64 x.n.mt.uid, .int .i64 x.n.mt.gid, .int .i64 x.n.mt.time, .slice x.a.1 x.a.2.1 x.a.2.2, .slice x.l.1 x.l.2.1 x.l.2.2, .int .i64 x.n.size, .slice x.d.1 x.d.2.1 x.d.2.2, .string x.n.target, .int .i64 x.n.major, .int .i64 x.n.minor] → InO w' (w.heap.size + 1) x → NK x.n → Q0 .normal ⟨#[c0, c1, c2, .pointer (some ⟨bt, 0, none⟩), c4, vF', c6, .int .u64 (U : Nat), c8, c9, c10, c11, .pointer (some ⟨gb, 0, none⟩), c13, c14, c15, c16, c17, c18, c19, c20, c21, c22, c23, c24, c25, c26, c27, c28, c29, c30, c31, c32, c33, c34, c35, c36, c37, c38, c39, c40, c41, c42, c43, c44, c45, c46, c47, c48, c49, c50, c51, c52, c53, c54, c55, c56, c57, c58, c59, c60, c61, c62, c63, c64, c65, c66, c67, c68, c69, c70, c71, c72, c73, c74, c75, c76, c77, c78, c79, c80, c81, c82, c83, c84, c85, c86, c87, c88, c89, c90, c91, c92, c93, c94, c95, c96, c97, c98, c99, c100, c101, c102, c103, c104, c105, c106, c107, c108, c109, c110, c111, c112, c113, c114, c115, c116, c117, c118, c119, c120, c121, c122, c123, c124, c125, c126, c127, c128, c129, c130, c131, d132, d133, d134, d135, d136, d137, d138, d139, d140, d141, d142, d143, d144, d145, d146, d147, d148, d149, d150, d151, d152, c153, c154, c155, c156, c157, c158, c159, c160, c161, c162, c163, c164, c165, c166, c167, c168, c169, c170, c171, c172, c173, c174, c175, c176, c177, c178, c179, c180, c181, c182, c183, c184, c185, c186, c187, c188, c189, c190, c191, c192, c193, c194, c195, c196, c197, c198, c199, c200, c201, c202, c203, c204, c205, c206, c207, c208, c209, c210, c211, c212, c213, c214, c215, c216, c217, c218, c219, c220, c221, c222, c223, c224, c225, c226, c227, c228, c229, c230], []⟩ w') :
    Code.wp Tryz.prog (mk 19) Q0 ⟨#[c0, c1, c2, .pointer (some ⟨bt, 0, none⟩), c4, vF, c6, .int .u64 (U : Nat), c8, c9, c10, c11, .pointer (some ⟨gb, 0, none⟩), c13, c14, c15, c16, c17, c18, c19, c20, c21, c22, c23, c24, c25, c26, c27, c28, c29, c30, c31, c32, c33, c34, c35, c36, c37, c38, c39, c40, c41, c42, c43, c44, c45, c46, c47, c48, c49, c50, c51, c52, c53, c54, c55, c56, c57, c58, c59, c60, c61, c62, c63, c64, c65, c66, c67, c68, c69, c70, c71, c72, c73, c74, c75, c76, c77, c78, c79, c80, c81, c82, c83, c84, c85, c86, c87, c88, c89, c90, c91, c92, c93, c94, c95, c96, c97, c98, c99, c100, c101, c102, c103, c104, c105, c106, c107, c108, c109, c110, c111, c112, c113, c114, c115, c116, c117, c118, c119, c120, c121, c122, c123, c124, c125, c126, c127, c128, c129, c130, c131, c132, c133, c134, c135, c136, c137, c138, c139, c140, c141, c142, c143, c144, c145, c146, c147, c148, c149, c150, c151, c152, c153, c154, c155, c156, c157, c158, c159, c160, c161, c162, c163, c164, c165, c166, c167, c168, c169, c170, c171, c172, c173, c174, c175, c176, c177, c178, c179, c180, c181, c182, c183, c184, c185, c186, c187, c188, c189, c190, c191, c192, c193, c194, c195, c196, c197, c198, c199, c200, c201, c202, c203, c204, c205, c206, c207, c208, c209, c210, c211, c212, c213, c214, c215, c216, c217, c218, c219, c220, c221, c222, c223, c224, c225, c226, c227, c228, c229, c230], []⟩ wr := by
  have HX := Lib.hid hexit
  clear hexit
  refine Code.wp_mono (Q := Exit.then (fun a w => Q0 .normal a w) (fun e a w => match e with | .exit n => Q0 (.exit n) a w | _ => False)) ?_ ?_
  · intro e a w h
    cases e <;> first | exact h | exact h.elim
  conv => arg 2; whnf
  refine wp_seqc (y' := mk 21) rfl ?_
  obtain ⟨r5, hr5, hr5l⟩ : ∃ r : Nat, Int.tmod (U : Int) 5 = (r : Int) ∧ r < 5 := ⟨U % 5, rem_c U 5, Nat.mod_lt _ (by omega)⟩
  have hr5w : IntKind.u64.wrap (r5 : Int) = (r5 : Int) := IntWalk.u64_in _ (by omega)
  have hsize := HK.size
  have JH := Lib.hid J0
  have NH := Lib.hid NB
  have XH := Lib.hid XO
  have KH := Lib.hid HK
  clear J0 NB XO HK
  by_cases h5 : r5 = 0
  · have t5 : ((r5 : Int) == 0) = true := beq_iff_eq.2 (by omega)
    obtain ⟨r7, hr7, hr7l⟩ : ∃ r : Nat, Int.tmod (U : Int) 7 = (r : Int) ∧ r < 7 := ⟨U % 7, rem_c U 7, Nat.mod_lt _ (by omega)⟩
    have hr7w : IntKind.u64.wrap (r7 : Int) = (r7 : Int) := IntWalk.u64_in _ (by omega)
    have hr7i : IntKind.i64.wrap (r7 : Int) = (r7 : Int) := IntWalk.i64_in _ (by omega)
    have hr7m : IntKind.i64.wrap ((r7 : Int) * 100) = (r7 : Int) * 100 := IntWalk.i64_in _ (by omega)
    have hr7s : IntKind.i64.wrap (x.n.size + (r7 : Int) * 100) = x.n.size + (r7 : Int) * 100 := IntWalk.i64_in _ (by omega)
    obtain ⟨k0, k1, k2, k3, k4, k5, k6, k7, k8, k9, k10, k11⟩ := NH.out.cells
    have hnl0 := NH.out.lt
    have HC := Lib.hid (Nd.rCut_own _ x.n (x.n.size + (r7 : Int) * 100) wr XH.out.own (by have := JH.out.size; have := q0.size; omega) KH.out.fit (by rw [KH.out.tgt]; decide))
    have HK' := Lib.hid (KH.out.cut (x.n.size + (r7 : Int) * 100))
    generalize (cutNd x.n (x.n.size + (r7 : Int) * 100)).1 = n5 at *
    generalize (cutNd x.n (x.n.size + (r7 : Int) * 100)).2 = e5 at *
    go_wp2_with fail
    refine HC.out.mono ?_
    rintro e w5 ⟨v5, rfl, hown5, q5⟩
    clear HC k0 k1 k2 k3 k4 k5 k6 k7 k8 k9 k10 k11 hnl0
    obtain ⟨x2, hx2, rfl, XO2⟩ := own_nv hown5
    have HK2 : Hid (NK x2.n) := by rw [hx2]; exact HK'.out
    have NB5 := NH.out.keep q5
    have ns := NB5.soft
    obtain ⟨k0, k1, k2, k3, k4, k5, k6, k7, k8, k9, k10, k11⟩ := NB5.cells
    have hnl := NB5.lt
    obtain ⟨NB6, q6, t6⟩ := store12 NB5 (q0.trans q5) hgb (.int .i64 x2.n.kind) (.int .i64 x2.n.mt.mode) (.int .i64 x2.n.mt.uid) (.int .i64 x2.n.mt.gid) (.int .i64 x2.n.mt.time) (.slice x2.a.1 x2.a.2.1 x2.a.2.2) (.slice x2.l.1 x2.l.2.1 x2.l.2.2) (.int .i64 x2.n.size) (.slice x2.d.1 x2.d.2.1 x2.d.2.2) (.string x2.n.target) (.int .i64 x2.n.major) (.int .i64 x2.n.minor)
    have NB7 := Lib.hid NB6
    have XO7 := Lib.hid (XO2.nodeTyp t6)
    have q7 := q6
    clear hx2 HK' NB5 NB6 q6 t6 XO2 hown5 NH XH q5 q0
    unfold cellsN slv
    go_wp2_with fail
    exact k21 _ _ _ _ _ _ _ _ _ _ _ _ _ _ _ _ _ _ _ _ _ _ _ _ _ _ _ _ _ _ _ _ _ _ _ _ _ _ _ _ _ _ _ _ _ _ _ _ _ _ _ _ _ _ _ _ _ _ _ _ _ _ _ _ _ _ _ _ _ _ _ _ _ _ _ _ _ _ _ _ _ _ _ _ _ _ _ _ _ _ _ _ _ _ _ _ _ _ _ _ _ _ _ _ _ _ _ _ _ _ _ _ _ _ _ _ _ _ _ _ _ _ _ _ _ _ _ _ _ _ _ _ _ _ _ _ _ _ _ _ _ _ _ _ _ _ _ _ _ _ _ _ _ _ _ _ _ _ _ _ _ _ _ _ _ _ _ _ _ _ _ _ _ _ _ _ _ _ _ _ _ _ _ _ _ _ _ _ _ _ _ _ _ _ _ _ _ _ _ _ _ _ _ _ _ _ _ _ _ _ _ _ _ _ _ _ _ _ _ _ _ _ _ _ _ _ _ _ _ (JH.out.keep q7) NB7.out XO7.out hfl (fun _ _ _ _ _ _ _ w' a b c => HX.out _ _ _ _ _ _ _ _ _ _ _ _ _ _ _ _ _ _ _ _ _ _ x2 w' a b c HK2.out)
  · have t5 : ((r5 : Int) == 0) = false := beq_eq_false_iff_ne.2 (by omega)
    go_wp2_with fail
    exact k21 _ _ _ _ _ _ _ _ _ _ _ _ _ _ _ _ _ _ _ _ _ _ _ _ _ _ _ _ _ _ _ _ _ _ _ _ _ _ _ _ _ _ _ _ _ _ _ _ _ _ _ _ _ _ _ _ _ _ _ _ _ _ _ _ _ _ _ _ _ _ _ _ _ _ _ _ _ _ _ _ _ _ _ _ _ _ _ _ _ _ _ _ _ _ _ _ _ _ _ _ _ _ _ _ _ _ _ _ _ _ _ _ _ _ _ _ _ _ _ _ _ _ _ _ _ _ _ _ _ _ _ _ _ _ _ _ _ _ _ _ _ _ _ _ _ _ _ _ _ _ _ _ _ _ _ _ _ _ _ _ _ _ _ _ _ _ _ _ _ _ _ _ _ _ _ _ _ _ _ _ _ _ _ _ _ _ _ _ _ _ _ _ _ _ _ _ _ _ _ _ _ _ _ _ _ _ _ _ _ _ _ _ _ _ _ _ _ _ _ _ _ _ _ _ _ _ _ _ _ (JH.out.keep q0) NH.out XH.out hfl (fun _ _ _ _ _ _ _ w' a b c => HX.out _ _ _ _ _ _ _ _ _ _ _ _ _ _ _ _ _ _ _ _ _ _ x w' a b c KH.out)
end Go.Proofs.YtgbenepapajieaaGreat.Tr
