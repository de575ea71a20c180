/-
  Make: attributes and an access list for some nodes.
-/
import Derived.Test.YtgbenepapajieaaGreatTMk15
import Derived.Test.YtgbenepapajieaaGreatTDec
namespace Go.Proofs.YtgbenepapajieaaGreat.Tr
open Go.RowKit
open Go.Proofs.YtgbenepapajieaaGreat.Nd (Nd mayN sumP nodeV NodeAt PcsAt OwnP BoxN writeN cutNd)
open Go.Proofs.YtgbenepapajieaaGreat.Pa (lessB parentB hasParentB lastB underB joinB joinErrB)
theorem own_aces2 (w : World) (B : Nat) (hB : B ≤ w.heap.size) (a b c d e f : Int) : OwnA (w.alloc (.cells #[.int .i64 a, .int .i64 b, .int .i64 c, .int .i64 d, .int .i64 e, .int .i64 f] 80)) B (.slice (some ⟨w.heap.size, 0, none⟩) 2 2) [(a, b, c), (d, e, f)] :=
  ⟨rfl, .inr ⟨w.heap.size, 2, #[.int .i64 a, .int .i64 b, .int .i64 c, .int .i64 d, .int .i64 e, .int .i64 f], rfl, hB, by show (w.heap.push _)[w.heap.size]? = _; simp, Nat.le_refl _, by unfold maxLen; omega, rfl, rfl⟩⟩
set_option maxRecDepth 100000 in
set_option maxHeartbeats 8000000 in
theorem k12 {w wr0 wr : World} {bt gb U i : Nat} {vE vN vD vF : Value} {es : List Ent} {rs : List NV} {ds : List ByteArray} {fs : List Int} {m : Mt} {Q0 : Exit → Act → World → Prop} (p0 d b : ByteArray) (c0 c1 c2 c6 c9 c10 c11 c13 c14 c15 c16 c17 c18 c19 c20 c21 c22 c23 c24 c25 c26 c27 c28 c29 c30 c31 c32 c33 c34 c35 c36 c37 c38 c39 c40 c41 c42 c43 c44 c45 c46 c47 c48 c49 c50 c51 c52 c53 c54 c55 c56 c57 c58 c59 c60 c61 c62 c63 c64 c65 c66 c67 c68 c69 c70 c71 c72 c73 c74 c75 c76 c77 c78 c79 c80 c81 c82 c83 c84 c85 c86 c87 c88 c89 c90 c91 c92 c93 c94 c95 c96 c97 c98 c99 c100 c101 c102 c103 c104 c105 c106 c107 c108 c109 c110 c111 c112 c113 c114 c115 c116 c117 c118 c119 c120 c121 c122 c123 c124 c125 c126 c127 c128 c129 c130 c131 c132 c133 c134 c135 c136 c137 c138 c139 c140 c141 c142 c143 c144 c145 c146 c147 c148 c149 c150 c151 c152 c153 c154 c155 c156 c157 c158 c159 c160 c161 c162 c163 c164 c165 c166 c167 c168 c169 c170 c171 c172 c173 c174 c175 c176 c177 c178 c179 c180 c181 c182 c183 c184 c185 c186 c187 c188 c189 c190 c191 c192 c193 c194 c195 c196 c197 c198 c199 c200 c201 c202 c203 c204 c205 c206 c207 c208 c209 c210 c211 c212 c213 c214 c215 c216 c217 c218 c219 c220 c221 c222 c223 c224 c225 c226 c227 c228 c229 c230 : Value)
    (J0 : MJ w wr0 bt vE vN vD vF es rs ds fs) (q0 : Q wr0 wr) (hgb : wr0.heap.size ≤ gb) (NB : BoxN wr gb #[.int .i64 2, .int .i64 m.mode, .int .i64 m.uid, .int .i64 m.gid, .int .i64 m.time, .slice none 0 0, .slice none 0 0, .int .i64 0, .slice none 0 0, .string ⟨#[]⟩, .int .i64 0, .int .i64 0]) (MK : MkMt m) (hma : m.attrs = [] ∧ m.acl = []) (hU : U < 18446744073709551616)
    (M0 : MM es (rs.map (·.n)) ds fs i) (hi : i < 25) (hd : d ∈ ds) (hje : joinErrB d b = 0) (hfe : findE es (joinB d b) = none) (hp0 : joinB d b = p0)
    (hexit0 : ∀ (d13 d80 d81 d82 d83 d84 d85 d86 d87 d88 d89 d90 d91 d92 d93 d94 d95 d96 d97 d98 d99 d100 d101 d102 d103 d104 d105 d106 d107 d108 d109 d110 d111 d112 d113 d114 d115 d116 d117 d118 d119 d120 d121 d122 d123 d124 d125 d126 d127 d128 d129 d130 d131 d132 d133 d134 d135 d136 d137 d138 d139 d140 d141 d142 d143 d144 d145 d146 d147 d148 d149 d150 d151 d152 d153 d154 d155 d156 d157 d158 d159 d160 d161 d162 d163 d164 d165 d166 d167 d168 d169 d170 d171 d172 d173 d174 d175 d176 d177 d178 d179 d180 d181 d182 d183 d184 d185 d186 d187 d188 d189 d190 d191 d192 d193 d194 d195 d196 d197 d198 d199 d200 d201 d202 d203 d204 d205 d206 d207 d208 d209 d210 d211 d212 d213 d214 d215 d216 d217 d218 d219 d220 d221 d222 d223 d224 vD' vF' : Value) (w' : World), PM w w' bt vD' vF' (i + 1) → Q0 .normal ⟨#[c0, c1, c2, .pointer (some ⟨bt, 0, none⟩), vD', vF', c6, .int .u64 (U : Nat), .string p0, c9, c10, c11, .pointer (some ⟨gb, 0, none⟩), d13, c14, c15, c16, c17, c18, c19, c20, c21, c22, c23, c24, c25, c26, c27, c28, c29, c30, c31, c32, c33, c34, c35, c36, c37, c38, c39, c40, c41, c42, c43, c44, c45, c46, c47, c48, c49, c50, c51, c52, c53, c54, c55, c56, c57, c58, c59, c60, c61, c62, c63, c64, c65, c66, c67, c68, c69, c70, c71, c72, c73, c74, c75, c76, c77, c78, c79, d80, d81, d82, d83, d84, d85, d86, d87, d88, d89, d90, d91, d92, d93, d94, d95, d96, d97, d98, d99, d100, d101, d102, d103, d104, d105, d106, d107, d108, d109, d110, d111, d112, d113, d114, d115, d116, d117, d118, d119, d120, d121, d122, d123, d124, d125, d126, d127, d128, d129, d130, d131, d132, d133, d134, d135, d136, d137, d138, d139, d140, d141, d142, d143, d144, d145, d146, d147, d148, d149, d150, d151, d152, d153, d154, d155, d156, d157, d158, d159, d160, d161, d162, d163, d164, d165, d166, d167, d168, d169, d170, d171, d172, d173, d174, d175, d176, d177, d178, d179, d180, d181, d182, d183, d184, d185, d186, d187, d188, d189, d190, d191, d192, d193, d194, d195, d196, d197, d198, d199, d200, d201, d202, d203, d204, d205, d206, d207, d208, d209, d210, d211, d212, d213, d214, d215, d216, d217, d218, d219, d220, d221, d222, d223, d224, c225, c226, c227, c228, c229, c230], []⟩ w')
    (hexit1 : ∀ (d13 d80 d81 d82 d83 d84 d85 d86 d87 d88 d89 d90 d91 d92 d93 d94 d95 d96 d97 d98 d99 d100 d101 d102 d103 d104 d105 d106 d107 d108 d109 d110 d111 d112 d113 d114 d115 d116 d117 d118 d119 d120 d121 d122 d123 d124 d125 d126 d127 d128 d129 d130 d131 d132 d133 d134 d135 d136 d137 d138 d139 d140 d141 d142 d143 d144 d145 d146 d147 d148 d149 d150 d151 d152 d153 d154 d155 d156 d157 d158 d159 d160 d161 d162 d163 d164 d165 d166 d167 d168 d169 d170 d171 d172 d173 d174 d175 d176 d177 d178 d179 d180 d181 d182 d183 d184 d185 d186 d187 d188 d189 d190 d191 d192 d193 d194 d195 d196 d197 d198 d199 d200 d201 d202 d203 d204 d205 d206 d207 d208 d209 d210 d211 d212 d213 d214 d215 d216 d217 d218 d219 d220 d221 d222 d223 d224 vD' vF' : Value) (w' : World), PM w w' bt vD' vF' (i + 1) → Q0 (.exit 1) ⟨#[c0, c1, c2, .pointer (some ⟨bt, 0, none⟩), vD', vF', c6, .int .u64 (U : Nat), .string p0, c9, c10, c11, .pointer (some ⟨gb, 0, none⟩), d13, c14, c15, c16, c17, c18, c19, c20, c21, c22, c23, c24, c25, c26, c27, c28, c29, c30, c31, c32, c33, c34, c35, c36, c37, c38, c39, c40, c41, c42, c43, c44, c45, c46, c47, c48, c49, c50, c51, c52, c53, c54, c55, c56, c57, c58, c59, c60, c61, c62, c63, c64, c65, c66, c67, c68, c69, c70, c71, c72, c73, c74, c75, c76, c77, c78, c79, d80, d81, d82, d83, d84, d85, d86, d87, d88, d89, d90, d91, d92, d93, d94, d95, d96, d97, d98, d99, d100, d101, d102, d103, d104, d105, d106, d107, d108, d109, d110, d111, d112, d113, d114, d115, d116, d117, d118, d119, d120, d121, d122, d123, d124, d125, d126, d127, d128, d129, d130, d131, d132, d133, d134, d135, d136, d137, d138, d139, d140, d141, d142, d143, d144, d145, d146, d147, d148, d149, d150, d151, d152, d153, d154, d155, d156, d157, d158, d159, d160, d161, d162, d163, d164, d165, d166, d167, d168, d169, d170, d171, d172, d173, d174, d175, d176, d177, d178, d179, d180, d181, d182, d183, d184, d185, d186, d187, d188, d189, d190, d191, d192, d193, d194, d195, d196, d197, d198, d199, d200, d201, d202, d203, d204, d205, d206, d207, d208, d209, d210, d211, d212, d213, d214, d215, d216, d217, d218, d219, d220, d221, d222, d223, d224, c225, c226, c227, c228, c229, c230], []⟩ w') :
    Code.wp Tryz.prog (mk 12) Q0 ⟨#[c0, c1, c2, .pointer (some ⟨bt, 0, none⟩), vD, vF, c6, .int .u64 (U : Nat), .string p0, c9, c10, c11, .pointer (some ⟨gb, 0, none⟩), c13, c14, c15, c16, c17, c18, c19, c20, c21, c22, c23, c24, c25, c26, c27, c28, c29, c30, c31, c32, c33, c34, c35, c36, c37, c38, c39, c40, c41, c42, c43, c44, c45, c46, c47, c48, c49, c50, c51, c52, c53, c54, c55, c56, c57, c58, c59, c60, c61, c62, c63, c64, c65, c66, c67, c68, c69, c70, c71, c72, c73, c74, c75, c76, c77, c78, c79, c80, c81, c82, c83, c84, c85, c86, c87, c88, c89, c90, c91, c92, c93, c94, c95, c96, c97, c98, c99, c100, c101, c102, c103, c104, c105, c106, c107, c108, c109, c110, c111, c112, c113, c114, c115, c116, c117, c118, c119, c120, c121, c122, c123, c124, c125, c126, c127, c128, c129, c130, c131, c132, c133, c134, c135, c136, c137, c138, c139, c140, c141, c142, c143, c144, c145, c146, c147, c148, c149, c150, c151, c152, c153, c154, c155, c156, c157, c158, c159, c160, c161, c162, c163, c164, c165, c166, c167, c168, c169, c170, c171, c172, c173, c174, c175, c176, c177, c178, c179, c180, c181, c182, c183, c184, c185, c186, c187, c188, c189, c190, c191, c192, c193, c194, c195, c196, c197, c198, c199, c200, c201, c202, c203, c204, c205, c206, c207, c208, c209, c210, c211, c212, c213, c214, c215, c216, c217, c218, c219, c220, c221, c222, c223, c224, c225, c226, c227, c228, c229, c230], []⟩ wr := by
  have HX0 := Lib.hid hexit0
  have HX1 := Lib.hid hexit1
  clear hexit0 hexit1
  refine Code.wp_mono (Q := Exit.then (fun a w => Q0 .normal a w) (fun e a w => match e with | .exit n => Q0 (.exit n) a w | _ => False)) ?_ ?_
  · intro e a w h
    cases e <;> first | exact h | exact h.elim
  have hsz0 := J0.size
  have hszq := q0.size
  obtain ⟨mo, ui, gi, ti, at_, ac⟩ := m
  obtain ⟨rfl, rfl⟩ : at_ = [] ∧ ac = [] := hma
  conv => arg 2; whnf
  refine wp_seqc (y' := mk 15) rfl ?_
  obtain ⟨r11, hr11, hr11l⟩ : ∃ r : Nat, Int.tmod (U : Int) 11 = (r : Int) ∧ r < 11 := ⟨U % 11, rem_c U 11, Nat.mod_lt _ (by omega)⟩
  have hr11w : IntKind.u64.wrap (r11 : Int) = (r11 : Int) := IntWalk.u64_in _ (by omega)
  by_cases h11 : r11 = 0
  · have t11 : ((r11 : Int) == 0) = true := beq_iff_eq.2 (by omega)
    obtain ⟨rh, hrh, hrhl⟩ : ∃ r : Nat, Int.tmod (U : Int) 100 = (r : Int) ∧ r < 100 := ⟨U % 100, rem_c U 100, Nat.mod_lt _ (by omega)⟩
    have hrhw : IntKind.u64.wrap (rh : Int) = (rh : Int) := IntWalk.u64_in _ (by omega)
    have hrhi : IntKind.i64.wrap (rh : Int) = (rh : Int) := IntWalk.i64_in _ (by omega)
    obtain ⟨r8, hr8, hr8l⟩ : ∃ r : Nat, Int.tmod (U : Int) 8 = (r : Int) ∧ r < 8 := ⟨U % 8, rem_c U 8, Nat.mod_lt _ (by omega)⟩
    have hr8w : IntKind.u64.wrap (r8 : Int) = (r8 : Int) := IntWalk.u64_in _ (by omega)
    have hr8i : IntKind.i64.wrap (r8 : Int) = (r8 : Int) := IntWalk.i64_in _ (by omega)
    have HD := Lib.hid (Dec.decimal_q rh wr (by omega))
    have JH := Lib.hid J0
    have NH := Lib.hid NB
    have MH := Lib.hid M0
    clear J0 NB M0
    go_wp2_with fail
    refine HD.out.mono ?_
    rintro e wx ⟨sd, rfl, hsd, rfl⟩
    have hs1 : ((⟨#[118]⟩ : ByteArray) ++ sd).size = 1 + sd.size := by rw [ByteArray.size_append]; rfl
    have ha1 := Nd.add_str (a := (⟨#[118]⟩ : ByteArray)) (b := sd) (by show 1 + _ ≤ _; omega)
    have hst : ((⟨#[118]⟩ : ByteArray) ++ sd).size ≤ 200 := by omega
    clear hs1
    generalize (⟨#[118]⟩ : ByteArray) ++ sd = sv at *
    have n1 := NH.out.keep ((Q.refl wx).alloc (.cells #[.string ⟨#[117, 115, 101, 114, 46, 107]⟩, .string sv] 78))
    have n2 := n1.set 5 (.slice (some ⟨wx.heap.size, 0, none⟩) 1 1)
    simp only [List.setIfInBounds_toArray, List.set_cons_succ, List.set_cons_zero] at n2
    have n3 := n2.keep ((Q.refl _).alloc (.cells #[.int .i64 1, .int .i64 7, .int .i64 (r8 : Int), .int .i64 3, .int .i64 0, .int .i64 7] 80))
    have q1 := q_set (q0.alloc (.cells #[.string ⟨#[117, 115, 101, 114, 46, 107]⟩, .string sv] 78)) hgb 5 (.slice (some ⟨wx.heap.size, 0, none⟩) 1 1)
    have oa1 : OwnT (wx.alloc (.cells #[.string ⟨#[117, 115, 101, 114, 46, 107]⟩, .string sv] 78)) (w.heap.size + 1) (.slice (some ⟨wx.heap.size, 0, none⟩) 1 1) [(⟨#[117, 115, 101, 114, 46, 107]⟩, sv)] := own_one flatT 78 wx (w.heap.size + 1) (by omega) ((⟨#[117, 115, 101, 114, 46, 107]⟩ : ByteArray), sv)
    have oa2 := OwnR.typ oa1 (box_typ n1 5 (.slice (some ⟨wx.heap.size, 0, none⟩) 1 1)) (by decide)
    have oa3 := OwnR.keep oa2 ((Q.refl _).alloc (.cells #[.int .i64 1, .int .i64 7, .int .i64 (r8 : Int), .int .i64 3, .int .i64 0, .int .i64 7] 80))
    have ol1 := own_aces2 ((wx.alloc (.cells #[.string ⟨#[117, 115, 101, 114, 46, 107]⟩, .string sv] 78)).setCell ⟨gb, 5, none⟩ (.slice (some ⟨wx.heap.size, 0, none⟩) 1 1)) (w.heap.size + 1) (by have := q1.size; omega) 1 7 (r8 : Int) 3 0 7
    have e2 : ((wx.alloc (.cells #[.string ⟨#[117, 115, 101, 114, 46, 107]⟩, .string sv] 78)).setCell ⟨gb, 5, none⟩ (.slice (some ⟨wx.heap.size, 0, none⟩) 1 1)).heap.size = wx.heap.size + 1 := by simp [World.size_alloc]
    rw [e2] at ol1
    have n4 := n3.set 6 (.slice (some ⟨wx.heap.size + 1, 0, none⟩) 2 2)
    simp only [List.setIfInBounds_toArray, List.set_cons_succ, List.set_cons_zero] at n4
    have t4 := box_typ n3 6 (.slice (some ⟨wx.heap.size + 1, 0, none⟩) 2 2)
    have q4 := q_set (q1.alloc (.cells #[.int .i64 1, .int .i64 7, .int .i64 (r8 : Int), .int .i64 3, .int .i64 0, .int .i64 7] 80)) hgb 6 (.slice (some ⟨wx.heap.size + 1, 0, none⟩) 2 2)
    have OA := Lib.hid (OwnR.typ oa3 t4 (by decide))
    have OL := Lib.hid (OwnR.typ ol1 t4 (by decide))
    have N4 := Lib.hid n4
    have Q4 := Lib.hid q4
    obtain ⟨k0, k1, k2, k3, k4, k5, k6, k7, k8, k9, k10, k11⟩ := n1.cells
    have s1 := n1.soft
    have s3 := n3.soft
    obtain ⟨g0, g1, g2, g3, g4, g5, g6, g7, g8, g9, g10, g11⟩ := n3.cells
    have hnl := n1.lt
    have hnl3 := n3.lt
    clear n1 n2 n3 n4 q1 oa1 oa2 oa3 ol1 t4 q4
    go_wp2_with fail
    exact k15 (sa := (some ⟨wx.heap.size, 0, none⟩, 1, 1)) (sl := (some ⟨wx.heap.size + 1, 0, none⟩, 2, 2)) (m := ⟨mo, ui, gi, ti, [(⟨#[117, 115, 101, 114, 46, 107]⟩, sv)], [(1, 7, (r8 : Int)), (3, 0, 7)]⟩) p0 d b _ _ _ _ _ _ _ _ _ _ _ _ _ _ _ _ _ _ _ _ _ _ _ _ _ _ _ _ _ _ _ _ _ _ _ _ _ _ _ _ _ _ _ _ _ _ _ _ _ _ _ _ _ _ _ _ _ _ _ _ _ _ _ _ _ _ _ _ _ _ _ _ _ _ _ _ _ _ _ _ _ _ _ _ _ _ _ _ _ _ _ _ _ _ _ _ _ _ _ _ _ _ _ _ _ _ _ _ _ _ _ _ _ _ _ _ _ _ _ _ _ _ _ _ _ _ _ _ _ _ _ _ _ _ _ _ _ _ _ _ _ _ _ _ _ _ _ _ _ _ _ _ _ _ _ _ _ _ _ _ _ _ _ _ _ _ _ _ _ _ _ _ _ _ _ _ _ _ _ _ _ _ _ _ _ _ _ _ _ _ _ _ _ _ _ _ _ _ _ _ _ _ _ _ _ _ _ _ _ _ _ _ _ _ _ _ _ _ _ _ _ _ _ _ _ JH.out Q4.out hgb N4.out OA.out OL.out ⟨MK.1, MK.2.1, MK.2.2.1, MK.2.2.2.1, MK.2.2.2.2.1, MK.2.2.2.2.2.1, MK.2.2.2.2.2.2.1, .inr ⟨⟨sv, rfl, hst⟩, (r8 : Int), rfl, by omega, by omega⟩⟩ hU MH.out hi hd hje hfe hp0 (fun _ _ _ _ _ _ _ _ _ _ _ _ _ _ _ _ _ _ _ _ _ _ _ _ _ _ _ _ _ _ _ _ _ _ _ _ _ _ _ _ _ _ _ _ _ _ _ _ _ _ _ _ _ _ _ _ _ _ _ _ _ _ _ _ _ _ _ _ _ _ _ _ _ _ _ _ _ _ _ _ _ _ _ _ _ _ _ _ _ _ _ _ _ _ _ _ _ _ _ _ _ _ _ _ _ _ _ _ _ _ _ _ _ _ _ _ _ _ _ _ _ _ _ _ _ _ vD' vF' w' h => HX0.out _ _ _ _ _ _ _ _ _ _ _ _ _ _ _ _ _ _ _ _ _ _ _ _ _ _ _ _ _ _ _ _ _ _ _ _ _ _ _ _ _ _ _ _ _ _ _ _ _ _ _ _ _ _ _ _ _ _ _ _ _ _ _ _ _ _ _ _ _ _ _ _ _ _ _ _ _ _ _ _ _ _ _ _ _ _ _ _ _ _ _ _ _ _ _ _ _ _ _ _ _ _ _ _ _ _ _ _ _ _ _ _ _ _ _ _ _ _ _ _ _ _ _ _ _ _ _ _ _ _ _ _ _ _ _ _ _ _ _ _ _ _ _ _ _ _ _ _ w' h) (fun _ _ _ _ _ _ _ _ _ _ _ _ _ _ _ _ _ _ _ _ _ _ _ _ _ _ _ _ _ _ _ _ _ _ _ _ _ _ _ _ _ _ _ _ _ _ _ _ _ _ _ _ _ _ _ _ _ _ _ _ _ _ _ _ _ _ _ _ _ _ _ _ _ _ _ _ _ _ _ _ _ _ _ _ _ _ _ _ _ _ _ _ _ _ _ _ _ _ _ _ _ _ _ _ _ _ _ _ _ _ _ _ _ _ _ _ _ _ _ _ _ _ _ _ _ _ vD' vF' w' h => HX1.out _ _ _ _ _ _ _ _ _ _ _ _ _ _ _ _ _ _ _ _ _ _ _ _ _ _ _ _ _ _ _ _ _ _ _ _ _ _ _ _ _ _ _ _ _ _ _ _ _ _ _ _ _ _ _ _ _ _ _ _ _ _ _ _ _ _ _ _ _ _ _ _ _ _ _ _ _ _ _ _ _ _ _ _ _ _ _ _ _ _ _ _ _ _ _ _ _ _ _ _ _ _ _ _ _ _ _ _ _ _ _ _ _ _ _ _ _ _ _ _ _ _ _ _ _ _ _ _ _ _ _ _ _ _ _ _ _ _ _ _ _ _ _ _ _ _ _ _ w' h)
  · have t11 : ((r11 : Int) == 0) = false := beq_eq_false_iff_ne.2 (by omega)
    go_wp2_with fail
    exact k15 (sa := (none, 0, 0)) (sl := (none, 0, 0)) (m := ⟨mo, ui, gi, ti, [], []⟩) p0 d b _ _ _ _ _ _ _ _ _ _ _ _ _ _ _ _ _ _ _ _ _ _ _ _ _ _ _ _ _ _ _ _ _ _ _ _ _ _ _ _ _ _ _ _ _ _ _ _ _ _ _ _ _ _ _ _ _ _ _ _ _ _ _ _ _ _ _ _ _ _ _ _ _ _ _ _ _ _ _ _ _ _ _ _ _ _ _ _ _ _ _ _ _ _ _ _ _ _ _ _ _ _ _ _ _ _ _ _ _ _ _ _ _ _ _ _ _ _ _ _ _ _ _ _ _ _ _ _ _ _ _ _ _ _ _ _ _ _ _ _ _ _ _ _ _ _ _ _ _ _ _ _ _ _ _ _ _ _ _ _ _ _ _ _ _ _ _ _ _ _ _ _ _ _ _ _ _ _ _ _ _ _ _ _ _ _ _ _ _ _ _ _ _ _ _ _ _ _ _ _ _ _ _ _ _ _ _ _ _ _ _ _ _ _ _ _ _ _ _ _ _ _ _ _ _ J0 q0 hgb NB (OwnR.nil_ _ _ _) (OwnR.nil_ _ _ _) MK hU M0 hi hd hje hfe hp0 (fun _ _ _ _ _ _ _ _ _ _ _ _ _ _ _ _ _ _ _ _ _ _ _ _ _ _ _ _ _ _ _ _ _ _ _ _ _ _ _ _ _ _ _ _ _ _ _ _ _ _ _ _ _ _ _ _ _ _ _ _ _ _ _ _ _ _ _ _ _ _ _ _ _ _ _ _ _ _ _ _ _ _ _ _ _ _ _ _ _ _ _ _ _ _ _ _ _ _ _ _ _ _ _ _ _ _ _ _ _ _ _ _ _ _ _ _ _ _ _ _ _ _ _ _ _ _ vD' vF' w' h => HX0.out _ _ _ _ _ _ _ _ _ _ _ _ _ _ _ _ _ _ _ _ _ _ _ _ _ _ _ _ _ _ _ _ _ _ _ _ _ _ _ _ _ _ _ _ _ _ _ _ _ _ _ _ _ _ _ _ _ _ _ _ _ _ _ _ _ _ _ _ _ _ _ _ _ _ _ _ _ _ _ _ _ _ _ _ _ _ _ _ _ _ _ _ _ _ _ _ _ _ _ _ _ _ _ _ _ _ _ _ _ _ _ _ _ _ _ _ _ _ _ _ _ _ _ _ _ _ _ _ _ _ _ _ _ _ _ _ _ _ _ _ _ _ _ _ _ _ _ _ w' h) (fun _ _ _ _ _ _ _ _ _ _ _ _ _ _ _ _ _ _ _ _ _ _ _ _ _ _ _ _ _ _ _ _ _ _ _ _ _ _ _ _ _ _ _ _ _ _ _ _ _ _ _ _ _ _ _ _ _ _ _ _ _ _ _ _ _ _ _ _ _ _ _ _ _ _ _ _ _ _ _ _ _ _ _ _ _ _ _ _ _ _ _ _ _ _ _ _ _ _ _ _ _ _ _ _ _ _ _ _ _ _ _ _ _ _ _ _ _ _ _ _ _ _ _ _ _ _ vD' vF' w' h => HX1.out _ _ _ _ _ _ _ _ _ _ _ _ _ _ _ _ _ _ _ _ _ _ _ _ _ _ _ _ _ _ _ _ _ _ _ _ _ _ _ _ _ _ _ _ _ _ _ _ _ _ _ _ _ _ _ _ _ _ _ _ _ _ _ _ _ _ _ _ _ _ _ _ _ _ _ _ _ _ _ _ _ _ _ _ _ _ _ _ _ _ _ _ _ _ _ _ _ _ _ _ _ _ _ _ _ _ _ _ _ _ _ _ _ _ _ _ _ _ _ _ _ _ _ _ _ _ _ _ _ _ _ _ _ _ _ _ _ _ _ _ _ _ _ _ _ _ _ _ w' h)
end Go.Proofs.YtgbenepapajieaaGreat.Tr
