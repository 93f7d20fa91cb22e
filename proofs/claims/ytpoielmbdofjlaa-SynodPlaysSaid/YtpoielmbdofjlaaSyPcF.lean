import Derived.Test.YtpoielmbdofjlaaSyMid
import Derived.BigQuiet
import Derived.Test.YtpoielmbdofjlaaSyPcB
import Derived.Test.YtpoielmbdofjlaaSyPcD
import Derived.Test.YtpoielmbdofjlaaSyPcE
import Derived.Deep.Cut
import Derived.Deep.CutRange
import Derived.Deep.RegionHeld3
namespace Go.Proofs.Ytpoielmbdofjlaa.Syn
set_option linter.unusedVariables false
set_option linter.unusedSimpArgs false
open Go.RowKit Mem Gt
open Jump (Gave equalZ_c)
/-- The first region of a statement; the statements from such a one on; the block that begins so. -/
def headIs (n : Nat) : Code → Bool
  | .region i _ _ => decide (i = n)
  | .seq a _ => headIs n a
  | .block _ c => headIs n c
  | .loop c => headIs n c
  | _ => false
def tailAt (n : Nat) : Code → Option Code
  | .seq a b => if headIs n a = true then some (.seq a b) else match tailAt n a with
    | some c => some c
    | none => tailAt n b
  | .loop c => tailAt n c
  | .block _ c => tailAt n c
  | .scope c => tailAt n c
  | .cond _ a b => match tailAt n a with
    | some c => some c
    | none => tailAt n b
  | _ => none
def blockAt (n : Nat) : Code → Option Code
  | .block i c => if headIs n c = true then some (.block i c) else blockAt n c
  | .seq a b => match blockAt n a with
    | some c => some c
    | none => blockAt n b
  | .loop c => blockAt n c
  | .scope c => blockAt n c
  | .cond _ a b => match blockAt n a with
    | some c => some c
    | none => blockAt n b
  | _ => none
noncomputable def pcT23 : Code := ((Try.f9.body.bind (tailAt 23)).getD .skip)
theorem fixed_same {s : S} {b : Nat} (h : s.fixed b = false) : ({ s with fixed := upd s.fixed b false } : S) = s := by
  have : upd s.fixed b false = s.fixed := by
    funext c
    unfold upd
    split
    · rename_i e; rw [e, h]
    · rfl
  rw [this]
set_option maxRecDepth 1000000 in
set_option maxHeartbeats 16000000 in
theorem ok_p (W : World) (n P : Nat) (b oc : Nat) (od : Int) (s : S) (A9 A7 : Option Addr) (q c9 c7 k m : Nat) (outs : List An) (pv : Nat → Value) (w : World) (h1 : 1 ≤ b) (h4 : b ≤ 400) (h2 : n ≤ 16) (hoc : oc < 65536) (hq : s.acc.length = q) (hq2 : q ≤ 900000) (hl : ∀ c, (s.pr c).length ≤ m) (hm : m ≤ 900000) (ho : outs.length = k) (hk4 : k ≤ 400) (hf : s.fixed b = false) (hM : Mid W n P (1, b, oc, od) (0, 0, 0) s (.slice A9 q c9) (.slice A7 k c7) outs pv w) (Q : Exit → Act → World → Prop)
    (c1 c2 c3 c4 c5 c6 c15 c18 c19 c20 c21 c22 c23 c24 c25 c26 c27 c28 c29 c30 c31 c32 c33 c34 c35 c36 c37 c38 c39 c40 c41 c42 c43 c44 c45 c46 c47 c48 c49 c50 c51 c52 c53 c54 c55 c56 c57 c58 c59 c60 c61 c62 c63 c64 c65 c66 c67 c68 c69 c70 c71 c72 c73 c74 c75 c76 c77 c78 c79 c80 c81 c82 c83 c84 c85 c86 c87 c88 c89 c90 c91 c92 c93 c94 c95 c96 c97 c98 c99 c100 c101 c102 c103 c104 c105 c106 c107 c108 c109 c110 c111 c112 c113 c114 c115 c116 c117 c118 c119 c120 c121 c122 c123 c124 c125 c126 c127 c128 c129 c130 c131 c132 c133 c134 c135 c136 c137 c138 c139 c140 c141 c142 c143 c144 c145 c146 c147 c148 c149 c150 c151 c152 c153 c154 c155 c156 c157 c158 c159 c160 c161 c162 c163 c164 c165 c166 c167 c168 c169 c170 c171 c172 c173 c174 c175 c176 c177 c178 c179 c180 c181 c182 c183 c184 c185 c186 c187 c188 c189 c190 c191 c192 c193 c194 c195 c196 c197 c198 c199 c200 c201 c202 c203 c204 c205 c206 c207 c208 c209 c210 c211 c212 c213 c214 c215 c216 c217 c218 c219 c220 c221 c222 c223 c224 c225 c226 c227 c228 c229 c230 c231 c232 c233 c234 c235 c236 c237 c238 c239 c240 c241 c242 c243 c244 c245 c246 c247 c248 c249 c250 c251 c252 c253 c254 c255 c256 c257 c258 c259 c260 c261 : Value)
    (hK : ∀ (v18 v19 v20 v22 v106 v107 v108 v109 v110 v111 v112 v113 v114 v115 v116 v117 v118 v119 v120 v121 v122 v123 v124 v125 v126 v127 v128 v129 v130 v131 v132 v133 v134 v135 v136 v137 v138 v139 v140 v141 v142 v143 v144 v145 v146 v147 v148 v149 v150 v151 v152 v153 v154 v155 v156 v157 v158 v159 v160 v161 v162 v163 v164 v165 v166 v167 v168 v169 v170 v171 v172 v173 v174 v175 v176 v177 v178 v179 v180 v181 v182 v183 v184 v185 v186 v187 v188 v189 v190 v191 v192 v193 v194 v195 v196 v197 v198 v199 v200 v201 v202 v203 v204 v205 v206 v207 v208 v209 v210 v211 v212 v213 v214 v215 v216 v217 v218 v219 v220 v221 v222 v223 v224 v225 v226 v227 v228 : Value) (A8 : Option Addr) (c8 : Nat) (pv1 : Nat → Value) (w1 : World), (prepare n s b oc od).1.acc.length = q → (∀ c, ((prepare n s b oc od).1.pr c).length ≤ m + n) → St W n (prepare n s b oc od).1 w1 (.slice A9 q c9) (.slice A8 (k + 1) c8) (outs ++ [(0, (prepare n s b oc od).2, val (prepare n s b oc od).1 b)]) pv1 → Q .normal ⟨#[.int .i64 (n : Nat), c1, c2, c3, c4, c5, c6, .slice A8 (k + 1) c8, .slice (some ⟨W.heap.size, 0, none⟩) n n, .slice A9 q c9, .pointer (some ⟨W.heap.size + 2, 0, none⟩), .pointer (some ⟨W.heap.size + 6, 0, none⟩), .map (some (W.heap.size + 4)), .map (some (W.heap.size + 5)), .func (.func 19) #[] #[.pointer (some ⟨W.heap.size + 6, 0, none⟩), .pointer (some ⟨W.heap.size + 2, 0, none⟩)], c15, .pointer (some ⟨P, 0, none⟩), .pointer (some ⟨P + 1, 0, none⟩), v18, v19, v20, c21, v22, c23, c24, c25, c26, c27, c28, c29, c30, c31, c32, c33, c34, c35, c36, c37, c38, c39, c40, c41, c42, c43, c44, c45, c46, c47, c48, c49, c50, c51, c52, c53, c54, c55, c56, c57, c58, c59, c60, c61, c62, c63, c64, c65, c66, c67, c68, c69, c70, c71, c72, c73, c74, c75, c76, c77, c78, c79, c80, c81, c82, c83, c84, c85, c86, c87, c88, c89, c90, c91, c92, c93, c94, c95, c96, c97, c98, c99, c100, c101, c102, c103, c104, c105, v106, v107, v108, v109, v110, v111, v112, v113, v114, v115, v116, v117, v118, v119, v120, v121, v122, v123, v124, v125, v126, v127, v128, v129, v130, v131, v132, v133, v134, v135, v136, v137, v138, v139, v140, v141, v142, v143, v144, v145, v146, v147, v148, v149, v150, v151, v152, v153, v154, v155, v156, v157, v158, v159, v160, v161, v162, v163, v164, v165, v166, v167, v168, v169, v170, v171, v172, v173, v174, v175, v176, v177, v178, v179, v180, v181, v182, v183, v184, v185, v186, v187, v188, v189, v190, v191, v192, v193, v194, v195, v196, v197, v198, v199, v200, v201, v202, v203, v204, v205, v206, v207, v208, v209, v210, v211, v212, v213, v214, v215, v216, v217, v218, v219, v220, v221, v222, v223, v224, v225, v226, v227, v228, c229, c230, c231, c232, c233, c234, c235, c236, c237, c238, c239, c240, c241, c242, c243, c244, c245, c246, c247, c248, c249, c250, c251, c252, c253, c254, c255, c256, c257, c258, c259, c260, c261], []⟩ w1) :
    Code.wp Try.prog pcT23 Q ⟨#[.int .i64 (n : Nat), c1, c2, c3, c4, c5, c6, .slice A7 k c7, .slice (some ⟨W.heap.size, 0, none⟩) n n, .slice A9 q c9, .pointer (some ⟨W.heap.size + 2, 0, none⟩), .pointer (some ⟨W.heap.size + 6, 0, none⟩), .map (some (W.heap.size + 4)), .map (some (W.heap.size + 5)), .func (.func 19) #[] #[.pointer (some ⟨W.heap.size + 6, 0, none⟩), .pointer (some ⟨W.heap.size + 2, 0, none⟩)], c15, .pointer (some ⟨P, 0, none⟩), .pointer (some ⟨P + 1, 0, none⟩), c18, c19, c20, c21, c22, c23, c24, c25, c26, c27, c28, c29, c30, c31, c32, c33, c34, c35, c36, c37, c38, c39, c40, c41, c42, c43, c44, c45, c46, c47, c48, c49, c50, c51, c52, c53, c54, c55, c56, c57, c58, c59, c60, c61, c62, c63, c64, c65, c66, c67, c68, c69, c70, c71, c72, c73, c74, c75, c76, c77, c78, c79, c80, c81, c82, c83, c84, c85, c86, c87, c88, c89, c90, c91, c92, c93, c94, c95, c96, c97, c98, c99, c100, c101, c102, c103, c104, c105, c106, c107, c108, c109, c110, c111, c112, c113, c114, c115, c116, c117, c118, c119, c120, c121, c122, c123, c124, c125, c126, c127, c128, c129, c130, c131, c132, c133, c134, c135, c136, c137, c138, c139, c140, c141, c142, c143, c144, c145, c146, c147, c148, c149, c150, c151, c152, c153, c154, c155, c156, c157, c158, c159, c160, c161, c162, c163, c164, c165, c166, c167, c168, c169, c170, c171, c172, c173, c174, c175, c176, c177, c178, c179, c180, c181, c182, c183, c184, c185, c186, c187, c188, c189, c190, c191, c192, c193, c194, c195, c196, c197, c198, c199, c200, c201, c202, c203, c204, c205, c206, c207, c208, c209, c210, c211, c212, c213, c214, c215, c216, c217, c218, c219, c220, c221, c222, c223, c224, c225, c226, c227, c228, c229, c230, c231, c232, c233, c234, c235, c236, c237, c238, c239, c240, c241, c242, c243, c244, c245, c246, c247, c248, c249, c250, c251, c252, c253, c254, c255, c256, c257, c258, c259, c260, c261], []⟩ w := by
  have HK := Lib.hid hK
  clear hK
  have HQ := Lib.hid hq
  have HL := Lib.hid hl
  have HO := Lib.hid ho
  have HF := Lib.hid hf
  have MM := Lib.hid hM
  clear hq hl ho hf hM
  conv => arg 2; whnf
  refine wp_seq_k ?_
  intro K1 hK1
  refine name_c W n P 1 b oc od (0, 0, 0) s (.slice A9 q c9) (.slice A7 k c7) outs pv w h1 h4 (.inl rfl) MM.out _ _ _ _ _ _ _ _ _ _ _ _ _ _ _ _ _ _ _ _ _ _ _ _ _ _ _ _ _ _ _ _ _ _ _ _ _ _ _ _ _ _ _ _ _ _ _ _ _ _ _ _ _ _ _ _ _ _ _ _ _ _ _ _ _ _ _ _ _ _ _ _ _ _ _ _ _ _ _ _ _ _ _ _ _ _ _ _ _ _ _ _ _ _ _ _ _ _ _ _ _ _ _ _ _ _ _ _ _ _ _ _ _ _ _ _ _ _ _ _ _ _ _ _ _ _ _ _ _ _ _ _ _ _ _ _ _ _ _ _ _ _ _ _ _ _ _ _ _ _ _ _ _ _ _ _ _ _ _ _ _ _ _ _ _ _ _ _ _ _ _ _ _ _ _ _ _ _ _ _ _ _ _ _ _ _ _ _ _ _ _ _ _ _ _ _ _ _ _ _ _ _ _ _ _ _ _ _ _ _ _ _ _ _ _ _ _ _ _ _ _ _ _ _ _ _ _ _ _ _ _ _ _ _ _ _ _ _ _ _ _ _ _ _ _ _ _ _ _ _ _ _ _ _ ?_
  intro v106 v107 v108 v109 v110 v111 v112 v113 v114 v115 v116 v117 v118 v119 v120 v121 v122 v123 w1 hM1
  refine hK1 _ _ ?_
  clear hK1
  obtain ⟨s1, hs1⟩ : ∃ s1, s1 = name1 s b od := ⟨_, rfl⟩
  rw [if_pos rfl, ← hs1] at hM1
  obtain ⟨e1, e2, e3, e4, e5⟩ := name_facts s b od
  rw [← hs1] at e1 e2 e3 e4 e5
  have f1 : s1.fixed b = false := by rw [e1]; exact HF.out
  have HQ1 := Lib.hid (show s1.acc.length = q by rw [e4]; exact HQ.out)
  have HL1 := Lib.hid (show ∀ c, (s1.pr c).length ≤ m from fun c => by rw [e3]; exact HL.out c)
  have EP := Lib.hid (show prepare n s b oc od = (List.range n).foldl (prep1 b oc) (s1, 0) by rw [hs1]; rfl)
  have y0 := hM1.o0
  have y1 := hM1.o1
  simp only at y0 y1
  have LK := hM1.st.fixedL h4
  rw [f1] at LK
  obtain ⟨ks, hk, hmx⟩ := hM1.st.mx
  have GM := Lib.hid hmx
  have KL := Lib.hid hk.len
  have WB := Lib.hid (show (Lit.int .i64 (b : Int)).wf = true from wf_of (by unfold Fit; omega))
  have NX := Lib.hid (fun (V' : World) (h : GMap V' (W.heap.size + 5) (.bool false) (setI (fun x => .bool (s1.fixed x.toNat)) b (.bool false)) (addK ks b)) (g : w1.grownBy V' (some (W.heap.size + 5))) => show Mid W n P (1, b, oc, od) (0, 0, 0) s1 (.slice A9 q c9) (.slice A7 k c7) outs pv V' from by
    have := hM1.low g (by omega) (hM1.st.fixed1 h1 h4 hk h g)
    rwa [fixed_same f1] at this)
  clear hmx hk f1 e1 e2 e3 e4 e5 hs1 hM1 HF
  go_upto_region 25 with fail
  go_frame
  go_cut [16] from 124 to 135 (fun v wx => v = .pointer (some ⟨P, 0, none⟩) ∧ Mid W n P (1, b, oc, od) (0, 0, 0) s1 (.slice A9 q c9) (.slice A7 k c7) outs pv wx)
  case first =>
    go_wp2_with (refine wpList_update_m Try.underlying53 rfl _ _ _ (by rfl) GM.out KL.out b WB.out rfl rfl _ rfl ?_; intro w2 m2 g2)
    go_meet
    exact ⟨rfl, NX.out _ m2.out g2.out⟩
  case rest =>
  obtain ⟨rfl, hM2⟩ := hcut
  clear LK GM KL WB NX y0 y1
  have vC := hM2.st.valueC h4 (Nat.le_trans (HL1.out b) (by omega))
  obtain ⟨vv, hvv⟩ : ∃ vv, val s1 b = vv := ⟨_, rfl⟩
  rw [hvv] at vC
  have VC := Lib.hid vC
  have y1 := hM2.o1
  simp only at y1
  have M2 := Lib.hid hM2
  clear vC hvv hM2
  obtain ⟨w2, rfl⟩ : ∃ w2 : World, w2 = wc := ⟨_, rfl⟩
  go_upto_region 26 with fail
  go_cut [18] from 136 to 139 (fun v wx => v = .int .i64 vv ∧ Mid W n P (1, b, oc, od) (0, 0, 0) s1 (.slice A9 q c9) (.slice A7 k c7) outs pv wx)
  case first =>
    go_wp2_with (go_at_call 19; refine VC.out.mono ?_; rintro e w3 ⟨rfl, hb3⟩)
    go_meet
    exact ⟨rfl, M2.out.later hb3⟩
  case rest =>
  obtain ⟨rfl, hM3⟩ := hcut
  clear M2 VC y1
  refine link (by assumption) ?_
  refine wp_seq_k ?_
  intro K2 hK2
  refine voters_p W n P b oc od s1 A9 q c9 m (.slice A7 k c7) outs pv _ h1 h4 h2 hoc HQ1.out (by omega) HL1.out hm hM3 _ _ _ _ _ _ _ _ _ _ _ _ _ _ _ _ _ _ _ _ _ _ _ _ _ _ _ _ _ _ _ _ _ _ _ _ _ _ _ _ _ _ _ _ _ _ _ _ _ _ _ _ _ _ _ _ _ _ _ _ _ _ _ _ _ _ _ _ _ _ _ _ _ _ _ _ _ _ _ _ _ _ _ _ _ _ _ _ _ _ _ _ _ _ _ _ _ _ _ _ _ _ _ _ _ _ _ _ _ _ _ _ _ _ _ _ _ _ _ _ _ _ _ _ _ _ _ _ _ _ _ _ _ _ _ _ _ _ _ _ _ _ _ _ _ _ _ _ _ _ _ _ _ _ _ _ _ _ _ _ _ _ _ _ _ _ _ _ _ _ _ _ _ _ _ _ _ _ _ _ _ _ _ _ _ _ _ _ _ _ _ _ _ _ _ _ _ _ _ _ _ _ _ _ _ _ _ _ _ _ _ _ _ _ _ _ _ _ _ _ _ _ _ _ _ _ _ _ _ _ _ _ _ _ _ _ _ _ _ _ _ _ _ _ _ _ _ _ _ _ _ _ _ ?_
  clear hM3
  intro v19 v20 v22 v140 v141 v142 v143 v144 v145 v146 v147 v148 v149 v150 v151 v152 v153 v154 v155 v156 v157 v158 v159 v160 v161 v162 v163 v164 v165 v166 v167 v168 v169 v170 v171 v172 v173 v174 v175 v176 v177 v178 v179 v180 v181 v182 v183 v184 v185 v186 v187 v188 v189 v190 v191 v192 v193 v194 v195 v196 v197 v198 v199 v200 v201 v202 v203 v204 v205 v206 v207 v208 v209 v210 v211 v212 v213 v214 v215 v216 v217 v218 v219 pv1 x1 w4 hx1 hq1 hpl hdid hM3
  obtain ⟨⟨t, did⟩, rfl⟩ : ∃ y, x1 = y := ⟨_, rfl⟩
  simp only at hq1 hdid hM3 hpl
  refine hK2 _ _ ?_
  have vC := hM3.st.valueC h4 (Nat.le_trans (hpl b) (by omega))
  obtain ⟨vb, hvb⟩ : ∃ vb, val t b = vb := ⟨_, rfl⟩
  rw [hvb] at vC
  have VB := Lib.hid vC
  have y1 := hM3.o1
  simp only at y1
  have z0 := hM3.a0
  have z1 := hM3.a1
  have z2 := hM3.a2
  have fz := hM3.fz 2
  simp only at z0 z1 z2
  have M3 := Lib.hid hM3
  have HVB := Lib.hid hvb
  have HX1 := Lib.hid hx1
  have HQ1 := Lib.hid hq1
  clear hM3 vC hvb hx1 hq1 hK2
  obtain ⟨w3, rfl⟩ : ∃ w3 : World, w3 = w4 := ⟨_, rfl⟩
  go_upto_region 44 with fail
  go_frame
  go_cut [16] from 220 to 224 (fun v wx => v = .pointer (some ⟨P, 0, none⟩) ∧ Mid W n P (1, b, oc, od) (0, did, vb) t (.slice A9 q c9) (.slice A7 k c7) outs pv1 wx)
  case first =>
    go_wp2_with (go_at_call 19; refine VB.out.mono ?_; rintro e w4 ⟨rfl, hb4⟩; have hM4 := M3.out.later hb4; have M4 := Lib.hid hM4; replace z2 := hM4.a2; replace fz := hM4.fz 2; simp only at z2; clear hb4 hM4)
    go_meet
    exact ⟨rfl, M4.out.put 2 _ (0, did, vb) rfl⟩
  case rest =>
    obtain ⟨rfl, hM5⟩ := hcut
    clear M3 VB y1 z0 z1 z2 fz
    have z0 := hM5.a0
    have z1 := hM5.a1
    have z2 := hM5.a2
    simp only at z0 z1 z2
    have M5 := Lib.hid hM5
    have TA := Lib.hid hM5.st.out
    have SZ := Lib.hid (show W.heap.size + 7 ≤ wc.heap.size from hM5.st.size)
    clear hM5
    obtain ⟨w5, rfl⟩ : ∃ w5 : World, w5 = wc := ⟨_, rfl⟩
    go_wp2_with (refine wpList_append_g (E := anE) elAn rfl _ _ (by rfl) (0, did, vb) rfl (by decide) (by rfl) (by rfl) TA.out HO.out (by unfold maxLen; omega) (by omega) SZ.out ?_; intro A8 c8 w6 T6 G6 O6)
    have S6 := Lib.hid ((M5.out.later (below_lit _ _)).st.out1 T6.out G6.out)
    clear T6 G6 O6 TA SZ z0 z1 z2 M5
    have EP3 := EP.out.trans HX1.out.symm
    refine HK.out _ _ _ _ _ _ _ _ _ _ _ _ _ _ _ _ _ _ _ _ _ _ _ _ _ _ _ _ _ _ _ _ _ _ _ _ _ _ _ _ _ _ _ _ _ _ _ _ _ _ _ _ _ _ _ _ _ _ _ _ _ _ _ _ _ _ _ _ _ _ _ _ _ _ _ _ _ _ _ _ _ _ _ _ _ _ _ _ _ _ _ _ _ _ _ _ _ _ _ _ _ _ _ _ _ _ _ _ _ _ _ _ _ _ _ _ _ _ _ _ _ _ _ _ _ _ _ A8 c8 pv1 _ ?_ ?_ ?_
    · rw [EP3]; exact HQ1.out
    · rw [EP3]; exact hpl
    · rw [EP3]; simp only; rw [HVB.out]; exact S6.out
end Go.Proofs.Ytpoielmbdofjlaa.Syn
