import Derived.Test.YtpoielmbdofjlaaSyMid
import Derived.BigQuiet
import Derived.Test.YtpoielmbdofjlaaSyPcA
import Derived.Test.YtpoielmbdofjlaaSyPcF
import Derived.Test.YtpoielmbdofjlaaSyPcG
import Derived.Deep.Cut
import Derived.Deep.CutRange
namespace Go.Proofs.Ytpoielmbdofjlaa.Syn
set_option linter.unusedVariables false
set_option linter.unusedSimpArgs false
open Go.RowKit Mem Gt
open Jump (Gave equalZ_c)
/-- Behind the first k operations. -/
structure Rnd (W : World) (n k q : Nat) (s : S) (outs : List An) (A9 : Option Addr) (c9 : Nat) (A7 : Option Addr) (c7 : Nat) (pv : Nat → Value) (wr : World) : Prop where
  st : St W n s wr (.slice A9 q c9) (.slice A7 k c7) outs pv
  aq : s.acc.length = q
  ol : outs.length = k
  bd : q ≤ 16 * k
  pb : ∀ b, (s.pr b).length ≤ 16 * k
noncomputable def pcB11 : Code := ((Try.f9.body.bind (blockAt 11)).getD .skip)
theorem step_p {n : Nat} {s : S} {b oc : Nat} {od : Int} (h : opE n s (1, (b : Int), oc, od) = 0) : step n s (1, (b : Int), oc, od) = ((prepare n s b oc od).1, 0, (prepare n s b oc od).2, val (prepare n s b oc od).1 b) := by
  unfold step
  rw [if_pos h]
  have : move n s (1, (b : Int), oc, od) = prepare n s b oc od := by unfold move; rw [if_pos rfl]; simp only [Int.toNat_natCast]
  rw [this]
  simp only [Int.toNat_natCast]
theorem step_a {n : Nat} {s : S} {b oc : Nat} {od : Int} (h : opE n s (2, (b : Int), oc, od) = 0) : step n s (2, (b : Int), oc, od) = ((accept n s b oc).1, 0, (accept n s b oc).2, val (accept n s b oc).1 b) := by
  unfold step
  rw [if_pos h]
  have : move n s (2, (b : Int), oc, od) = accept n s b oc := by unfold move; rw [if_neg (show ¬ (2 : Int) = 1 by decide)]; simp only [Int.toNat_natCast]
  rw [this]
  simp only [Int.toNat_natCast]
set_option maxRecDepth 1000000 in
set_option maxHeartbeats 16000000 in
theorem round_c (W : World) (n k q no ca : Nat) (oa ob : Int) (oc : Nat) (od : Int) (s : S) (outs : List An) (A9 A7 : Option Addr) (c9 c7 : Nat) (pv : Nat → Value) (w : World) (b1 o1 : Nat) (h2 : n ≤ 16) (hk : k < no) (hno : no ≤ 400) (hoc : oc < 65536) (hR : Rnd W n k q s outs A9 c9 A7 c7 pv w)
    (y0 : w.cell? ⟨b1, o1 + k * 4, none⟩ = some (.int .i64 oa)) (y1 : w.cell? ⟨b1, o1 + k * 4 + 1, none⟩ = some (.int .i64 ob)) (y2 : w.cell? ⟨b1, o1 + k * 4 + 2, none⟩ = some (.int .u16 (oc : Nat))) (y3 : w.cell? ⟨b1, o1 + k * 4 + 3, none⟩ = some (.int .i64 od)) (Q : Exit → Act → World → Prop)
    (c1 c2 c3 c4 c5 c6 c15 c16 c17 c18 c19 c20 c21 c22 c23 c24 c25 c26 c27 c28 c29 c30 c31 c32 c33 c34 c35 c36 c37 c38 c39 c40 c41 c42 c43 c44 c45 c47 c49 c50 c51 c52 c53 c54 c55 c56 c57 c58 c59 c60 c61 c62 c63 c64 c65 c66 c67 c68 c69 c70 c71 c72 c73 c74 c75 c76 c77 c78 c79 c80 c81 c82 c83 c84 c85 c86 c87 c88 c89 c90 c91 c92 c93 c94 c95 c96 c97 c98 c99 c100 c101 c102 c103 c104 c105 c106 c107 c108 c109 c110 c111 c112 c113 c114 c115 c116 c117 c118 c119 c120 c121 c122 c123 c124 c125 c126 c127 c128 c129 c130 c131 c132 c133 c134 c135 c136 c137 c138 c139 c140 c141 c142 c143 c144 c145 c146 c147 c148 c149 c150 c151 c152 c153 c154 c155 c156 c157 c158 c159 c160 c161 c162 c163 c164 c165 c166 c167 c168 c169 c170 c171 c172 c173 c174 c175 c176 c177 c178 c179 c180 c181 c182 c183 c184 c185 c186 c187 c188 c189 c190 c191 c192 c193 c194 c195 c196 c197 c198 c199 c200 c201 c202 c203 c204 c205 c206 c207 c208 c209 c210 c211 c212 c213 c214 c215 c216 c217 c218 c219 c220 c221 c222 c223 c224 c225 c226 c227 c228 c229 c230 c231 c232 c233 c234 c235 c236 c237 c238 c239 c240 c241 c242 c243 c244 c245 c246 c247 c248 c249 c250 c251 c252 c253 c254 c255 c256 c257 c258 c259 c260 c261 : Value)
    (hK : ∀ (v16 v17 v18 v19 v20 v22 v50 v51 v52 v53 v54 v55 v56 v57 v58 v59 v60 v61 v62 v63 v64 v65 v66 v67 v68 v69 v70 v71 v72 v73 v74 v75 v76 v77 v78 v79 v80 v81 v82 v83 v84 v85 v86 v87 v88 v89 v90 v91 v92 v93 v94 v95 v96 v97 v98 v99 v100 v101 v102 v103 v104 v105 v106 v107 v108 v109 v110 v111 v112 v113 v114 v115 v116 v117 v118 v119 v120 v121 v122 v123 v124 v125 v126 v127 v128 v129 v130 v131 v132 v133 v134 v135 v136 v137 v138 v139 v140 v141 v142 v143 v144 v145 v146 v147 v148 v149 v150 v151 v152 v153 v154 v155 v156 v157 v158 v159 v160 v161 v162 v163 v164 v165 v166 v167 v168 v169 v170 v171 v172 v173 v174 v175 v176 v177 v178 v179 v180 v181 v182 v183 v184 v185 v186 v187 v188 v189 v190 v191 v192 v193 v194 v195 v196 v197 v198 v199 v200 v201 v202 v203 v204 v205 v206 v207 v208 v209 v210 v211 v212 v213 v214 v215 v216 v217 v218 v219 v220 v221 v222 v223 v224 v225 v226 v227 v228 : Value) (A8 : Option Addr) (c8 : Nat) (A1 : Option Addr) (q1 e1 : Nat) (pv1 : Nat → Value) (w1 : World), Rnd W n (k + 1) q1 (step n s (oa, ob, oc, od)).1 (outs ++ [(step n s (oa, ob, oc, od)).2]) A1 e1 A8 c8 pv1 w1 → Q .normal ⟨#[.int .i64 (n : Nat), c1, c2, c3, c4, c5, c6, .slice A8 (k + 1) c8, .slice (some ⟨W.heap.size, 0, none⟩) n n, .slice A1 q1 e1, .pointer (some ⟨W.heap.size + 2, 0, none⟩), .pointer (some ⟨W.heap.size + 6, 0, none⟩), .map (some (W.heap.size + 4)), .map (some (W.heap.size + 5)), .func (.func 19) #[] #[.pointer (some ⟨W.heap.size + 6, 0, none⟩), .pointer (some ⟨W.heap.size + 2, 0, none⟩)], c15, v16, v17, v18, v19, v20, c21, v22, c23, c24, c25, c26, c27, c28, c29, c30, c31, c32, c33, c34, c35, c36, c37, c38, c39, c40, c41, c42, c43, c44, c45, .slice (some ⟨b1, o1, none⟩) no ca, c47, .int .i64 (k : Nat), c49, v50, v51, v52, v53, v54, v55, v56, v57, v58, v59, v60, v61, v62, v63, v64, v65, v66, v67, v68, v69, v70, v71, v72, v73, v74, v75, v76, v77, v78, v79, v80, v81, v82, v83, v84, v85, v86, v87, v88, v89, v90, v91, v92, v93, v94, v95, v96, v97, v98, v99, v100, v101, v102, v103, v104, v105, v106, v107, v108, v109, v110, v111, v112, v113, v114, v115, v116, v117, v118, v119, v120, v121, v122, v123, v124, v125, v126, v127, v128, v129, v130, v131, v132, v133, v134, v135, v136, v137, v138, v139, v140, v141, v142, v143, v144, v145, v146, v147, v148, v149, v150, v151, v152, v153, v154, v155, v156, v157, v158, v159, v160, v161, v162, v163, v164, v165, v166, v167, v168, v169, v170, v171, v172, v173, v174, v175, v176, v177, v178, v179, v180, v181, v182, v183, v184, v185, v186, v187, v188, v189, v190, v191, v192, v193, v194, v195, v196, v197, v198, v199, v200, v201, v202, v203, v204, v205, v206, v207, v208, v209, v210, v211, v212, v213, v214, v215, v216, v217, v218, v219, v220, v221, v222, v223, v224, v225, v226, v227, v228, c229, c230, c231, c232, c233, c234, c235, c236, c237, c238, c239, c240, c241, c242, c243, c244, c245, c246, c247, c248, c249, c250, c251, c252, c253, c254, c255, c256, c257, c258, c259, c260, c261], []⟩ w1) :
    Code.wp Try.prog pcB11 Q ⟨#[.int .i64 (n : Nat), c1, c2, c3, c4, c5, c6, .slice A7 k c7, .slice (some ⟨W.heap.size, 0, none⟩) n n, .slice A9 q c9, .pointer (some ⟨W.heap.size + 2, 0, none⟩), .pointer (some ⟨W.heap.size + 6, 0, none⟩), .map (some (W.heap.size + 4)), .map (some (W.heap.size + 5)), .func (.func 19) #[] #[.pointer (some ⟨W.heap.size + 6, 0, none⟩), .pointer (some ⟨W.heap.size + 2, 0, none⟩)], c15, c16, c17, c18, c19, c20, c21, c22, c23, c24, c25, c26, c27, c28, c29, c30, c31, c32, c33, c34, c35, c36, c37, c38, c39, c40, c41, c42, c43, c44, c45, .slice (some ⟨b1, o1, none⟩) no ca, c47, .int .i64 (k : Nat), c49, c50, c51, c52, c53, c54, c55, c56, c57, c58, c59, c60, c61, c62, c63, c64, c65, c66, c67, c68, c69, c70, c71, c72, c73, c74, c75, c76, c77, c78, c79, c80, c81, c82, c83, c84, c85, c86, c87, c88, c89, c90, c91, c92, c93, c94, c95, c96, c97, c98, c99, c100, c101, c102, c103, c104, c105, c106, c107, c108, c109, c110, c111, c112, c113, c114, c115, c116, c117, c118, c119, c120, c121, c122, c123, c124, c125, c126, c127, c128, c129, c130, c131, c132, c133, c134, c135, c136, c137, c138, c139, c140, c141, c142, c143, c144, c145, c146, c147, c148, c149, c150, c151, c152, c153, c154, c155, c156, c157, c158, c159, c160, c161, c162, c163, c164, c165, c166, c167, c168, c169, c170, c171, c172, c173, c174, c175, c176, c177, c178, c179, c180, c181, c182, c183, c184, c185, c186, c187, c188, c189, c190, c191, c192, c193, c194, c195, c196, c197, c198, c199, c200, c201, c202, c203, c204, c205, c206, c207, c208, c209, c210, c211, c212, c213, c214, c215, c216, c217, c218, c219, c220, c221, c222, c223, c224, c225, c226, c227, c228, c229, c230, c231, c232, c233, c234, c235, c236, c237, c238, c239, c240, c241, c242, c243, c244, c245, c246, c247, c248, c249, c250, c251, c252, c253, c254, c255, c256, c257, c258, c259, c260, c261], []⟩ w := by
  have HK := Lib.hid hK
  clear hK
  have RR := Lib.hid hR
  have AQ := Lib.hid hR.aq
  have OL := Lib.hid hR.ol
  have PB := Lib.hid hR.pb
  have hbd := hR.bd
  have i1 : (k : Int) < (no : Int) := by omega
  obtain ⟨P, hP⟩ : ∃ P, P = w.heap.size := ⟨_, rfl⟩
  have M0 := Lib.hid (show Mid W n P (oa, ob, oc, od) (0, 0, 0) s (.slice A9 q c9) (.slice A7 k c7) outs pv ((w.alloc (.cells #[.int .i64 oa, .int .i64 ob, .int .u16 (oc : Nat), .int .i64 od] tO)).alloc (.cells #[.int .i64 0, .int .u16 0, .int .i64 0] tA)) by rw [hP]; exact Mid.start hR.st)
  have HP := Lib.hid hP
  clear hR hP
  conv => arg 2; whnf
  refine wp_block ?_
  go_upto_region 12 with fail
  go_cut [16, 17] from 50 to 52 (fun v u wx => v = .pointer (some ⟨P, 0, none⟩) ∧ u = .pointer (some ⟨P + 1, 0, none⟩) ∧ Mid W n P (oa, ob, oc, od) (0, 0, 0) s (.slice A9 q c9) (.slice A7 k c7) outs pv wx)
  case first =>
    go_wp2
    go_meet
    exact ⟨by rw [HP.out], by rw [HP.out], M0.out⟩
  case rest =>
  obtain ⟨rfl, rfl, hM⟩ := hcut
  clear M0 y0 y1 y2 y3 i1 HP
  refine link (by assumption) ?_
  refine wp_seq_k ?_
  intro K1 hK1
  refine wp_block ?_
  refine sw_c W n P oa ob oc od s (.slice A9 q c9) (.slice A7 k c7) outs pv _ h2 (fun b => Nat.le_trans (PB.out b) (by omega)) hM _ _ _ _ _ _ _ _ _ _ _ _ _ _ _ _ _ _ _ _ _ _ _ _ _ _ _ _ _ _ _ _ _ _ _ _ _ _ _ _ _ _ _ _ _ _ _ _ _ _ _ _ _ _ _ _ _ _ _ _ _ _ _ _ _ _ _ _ _ _ _ _ _ _ _ _ _ _ _ _ _ _ _ _ _ _ _ _ _ _ _ _ _ _ _ _ _ _ _ _ _ _ _ _ _ _ _ _ _ _ _ _ _ _ _ _ _ _ _ _ _ _ _ _ _ _ _ _ _ _ _ _ _ _ _ _ _ _ _ _ _ _ _ _ _ _ _ _ _ _ _ _ _ _ _ _ _ _ _ _ _ _ _ _ _ _ _ _ _ _ _ _ _ _ _ _ _ _ _ _ _ _ _ _ _ _ _ _ _ _ _ _ _ _ _ _ _ _ _ _ _ _ _ _ _ _ _ _ _ _ _ _ _ _ _ _ _ _ _ _ _ _ _ _ _ _ _ _ _ _ _ _ _ _ _ _ _ _ _ _ _ _ _ _ _ _ _ _ _ _ _ _ _ _ ?_
  clear hM
  intro v53 v54 v55 v56 v57 v58 v59 v60 v61 v62 v63 v64 v65 v66 v67 v68 v69 v70 v71 v72 v73 v74 v75 v76 v77 v78 v79 v80 v81 v82 v83 v84 v85 v86 v87 v88 v89 v90 v91 v92 v93 v94 v95 v96 v97 v98 w1 hM1
  refine hK1 _ _ ?_
  clear hK1
  obtain ⟨e, he⟩ : ∃ e, opE n s (oa, ob, oc, od) = e := ⟨_, rfl⟩
  rw [he] at hM1
  have z0 := hM1.a0
  simp only at z0
  by_cases h0 : e = 0
  · subst h0
    obtain ⟨g1, g4, hc⟩ := opE_zero he
    simp only at g1 g4 hc
    obtain ⟨b, rfl⟩ : ∃ b : Nat, ob = (b : Int) := ⟨ob.toNat, by omega⟩
    rw [Int.toNat_natCast] at hc
    have HE := Lib.hid he
    have M1 := Lib.hid hM1
    have CC := Lib.hid hc
    have h1 : 1 ≤ b := by omega
    have h4 : b ≤ 400 := by omega
    clear he hM1 hc g1 g4
    go_upto_if 101 with fail
    first | go_frame | skip
    go_cut [7] from 99 to 105 (fun v wx => v = .slice A7 k c7 ∧ wx = w1)
    case first =>
      go_wp2
      go_meet
      exact ⟨rfl, rfl⟩
    case rest =>
    obtain ⟨rfl, rfl⟩ := hcut
    refine link (by assumption) ?_
    clear z0
    rcases CC.out with ⟨rfl, hf⟩ | ⟨rfl, hm⟩
    · refine ok_p W n P b oc od s A9 A7 q c9 c7 k (16 * k) outs pv _ h1 h4 h2 hoc AQ.out (by omega) PB.out (by omega) OL.out (by omega) hf M1.out _ _ _ _ _ _ _ _ _ _ _ _ _ _ _ _ _ _ _ _ _ _ _ _ _ _ _ _ _ _ _ _ _ _ _ _ _ _ _ _ _ _ _ _ _ _ _ _ _ _ _ _ _ _ _ _ _ _ _ _ _ _ _ _ _ _ _ _ _ _ _ _ _ _ _ _ _ _ _ _ _ _ _ _ _ _ _ _ _ _ _ _ _ _ _ _ _ _ _ _ _ _ _ _ _ _ _ _ _ _ _ _ _ _ _ _ _ _ _ _ _ _ _ _ _ _ _ _ _ _ _ _ _ _ _ _ _ _ _ _ _ _ _ _ _ _ _ _ _ _ _ _ _ _ _ _ _ _ _ _ _ _ _ _ _ _ _ _ _ _ _ _ _ _ _ _ _ _ _ _ _ _ _ _ _ _ _ _ _ _ _ _ _ _ _ _ _ _ _ _ _ _ _ _ _ _ _ _ _ _ _ _ _ _ _ _ _ _ _ _ _ _ _ _ _ _ _ _ _ _ _ _ _ _ _ _ _ _ _ _ _ _ _ _ _ _ _ _ _ _ _ _ ?_
      intro v18 v19 v20 v22 v106 v107 v108 v109 v110 v111 v112 v113 v114 v115 v116 v117 v118 v119 v120 v121 v122 v123 v124 v125 v126 v127 v128 v129 v130 v131 v132 v133 v134 v135 v136 v137 v138 v139 v140 v141 v142 v143 v144 v145 v146 v147 v148 v149 v150 v151 v152 v153 v154 v155 v156 v157 v158 v159 v160 v161 v162 v163 v164 v165 v166 v167 v168 v169 v170 v171 v172 v173 v174 v175 v176 v177 v178 v179 v180 v181 v182 v183 v184 v185 v186 v187 v188 v189 v190 v191 v192 v193 v194 v195 v196 v197 v198 v199 v200 v201 v202 v203 v204 v205 v206 v207 v208 v209 v210 v211 v212 v213 v214 v215 v216 v217 v218 v219 v220 v221 v222 v223 v224 v225 v226 v227 v228 A8 c8 pv1 w2 hq2 hp2 hS
      refine HK.out _ _ _ _ _ _ _ _ _ _ _ _ _ _ _ _ _ _ _ _ _ _ _ _ _ _ _ _ _ _ _ _ _ _ _ _ _ _ _ _ _ _ _ _ _ _ _ _ _ _ _ _ _ _ _ _ _ _ _ _ _ _ _ _ _ _ _ _ _ _ _ _ _ _ _ _ _ _ _ _ _ _ _ _ _ _ _ _ _ _ _ _ _ _ _ _ _ _ _ _ _ _ _ _ _ _ _ _ _ _ _ _ _ _ _ _ _ _ _ _ _ _ _ _ _ _ _ _ _ _ _ _ _ _ _ _ _ _ _ _ _ _ _ _ _ _ _ _ _ _ _ _ _ _ _ _ _ _ _ _ _ _ _ _ _ _ _ _ _ _ _ _ _ _ _ _ _ _ _ _ _ _ _ _ _  A8 c8 A9 q c9 pv1 _ ?_
      rw [step_p HE.out]
      exact ⟨hS, hq2, by rw [List.length_append, OL.out]; rfl, by omega, fun c => Nat.le_trans (hp2 c) (by omega)⟩
    · refine ok_a W n P b oc od s A9 A7 q c9 c7 k (16 * k) outs pv _ h1 h4 h2 hoc AQ.out (by omega) PB.out (by omega) OL.out (by omega) M1.out _ _ _ _ _ _ _ _ _ _ _ _ _ _ _ _ _ _ _ _ _ _ _ _ _ _ _ _ _ _ _ _ _ _ _ _ _ _ _ _ _ _ _ _ _ _ _ _ _ _ _ _ _ _ _ _ _ _ _ _ _ _ _ _ _ _ _ _ _ _ _ _ _ _ _ _ _ _ _ _ _ _ _ _ _ _ _ _ _ _ _ _ _ _ _ _ _ _ _ _ _ _ _ _ _ _ _ _ _ _ _ _ _ _ _ _ _ _ _ _ _ _ _ _ _ _ _ _ _ _ _ _ _ _ _ _ _ _ _ _ _ _ _ _ _ _ _ _ _ _ _ _ _ _ _ _ _ _ _ _ _ _ _ _ _ _ _ _ _ _ _ _ _ _ _ _ _ _ _ _ _ _ _ _ _ _ _ _ _ _ _ _ _ _ _ _ _ _ _ _ _ _ _ _ _ _ _ _ _ _ _ _ _ _ _ _ _ _ _ _ _ _ _ _ _ _ _ _ _ _ _ _ _ _ _ _ _ _ _ _ _ _ _ _ _ _ _ _ _ _ _ _ ?_
      intro v18 v19 v20 v22 v106 v107 v108 v109 v110 v111 v112 v113 v114 v115 v116 v117 v118 v119 v120 v121 v122 v123 v124 v125 v126 v127 v128 v129 v130 v131 v132 v133 v134 v135 v136 v137 v138 v139 v140 v141 v142 v143 v144 v145 v146 v147 v148 v149 v150 v151 v152 v153 v154 v155 v156 v157 v158 v159 v160 v161 v162 v163 v164 v165 v166 v167 v168 v169 v170 v171 v172 v173 v174 v175 v176 v177 v178 v179 v180 v181 v182 v183 v184 v185 v186 v187 v188 v189 v190 v191 v192 v193 v194 v195 v196 v197 v198 v199 v200 v201 v202 v203 v204 v205 v206 v207 v208 v209 v210 v211 v212 v213 v214 v215 v216 v217 v218 v219 v220 v221 v222 v223 v224 v225 v226 v227 v228 A8 c8 A1 q1 e1 w2 hq2 hqn hp2 hS
      refine HK.out _ _ _ _ _ _ _ _ _ _ _ _ _ _ _ _ _ _ _ _ _ _ _ _ _ _ _ _ _ _ _ _ _ _ _ _ _ _ _ _ _ _ _ _ _ _ _ _ _ _ _ _ _ _ _ _ _ _ _ _ _ _ _ _ _ _ _ _ _ _ _ _ _ _ _ _ _ _ _ _ _ _ _ _ _ _ _ _ _ _ _ _ _ _ _ _ _ _ _ _ _ _ _ _ _ _ _ _ _ _ _ _ _ _ _ _ _ _ _ _ _ _ _ _ _ _ _ _ _ _ _ _ _ _ _ _ _ _ _ _ _ _ _ _ _ _ _ _ _ _ _ _ _ _ _ _ _ _ _ _ _ _ _ _ _ _ _ _ _ _ _ _ _ _ _ _ _ _ _ _ _ _ _ _ _  A8 c8 A1 q1 e1 pv _ ?_
      rw [step_a HE.out]
      exact ⟨hS, hq2, by rw [List.length_append, OL.out]; rfl, by omega, fun c => Nat.le_trans (hp2 c) (by omega)⟩
  · have ne : (e != 0) = true := by simp [h0]
    have z1 := hM1.a1
    have z2 := hM1.a2
    simp only at z1 z2
    have EE := Lib.hid (show step n s (oa, ob, oc, od) = (s, e, 0, 0) by unfold step; rw [he, if_neg h0])
    have M1 := Lib.hid hM1
    have TA := Lib.hid hM1.st.out
    have SZ := Lib.hid (show W.heap.size + 7 ≤ w1.heap.size from hM1.st.size)
    clear he h0 hM1
    go_wp2_with (refine wpList_append_g (E := anE) elAn rfl _ _ (by rfl) (e, 0, 0) rfl (by decide) (by rfl) (by rfl) TA.out OL.out (by unfold maxLen; omega) (by omega) SZ.out ?_; intro A8 c8 w6 T6 G6 O6)
    refine HK.out _ _ _ _ _ _ _ _ _ _ _ _ _ _ _ _ _ _ _ _ _ _ _ _ _ _ _ _ _ _ _ _ _ _ _ _ _ _ _ _ _ _ _ _ _ _ _ _ _ _ _ _ _ _ _ _ _ _ _ _ _ _ _ _ _ _ _ _ _ _ _ _ _ _ _ _ _ _ _ _ _ _ _ _ _ _ _ _ _ _ _ _ _ _ _ _ _ _ _ _ _ _ _ _ _ _ _ _ _ _ _ _ _ _ _ _ _ _ _ _ _ _ _ _ _ _ _ _ _ _ _ _ _ _ _ _ _ _ _ _ _ _ _ _ _ _ _ _ _ _ _ _ _ _ _ _ _ _ _ _ _ _ _ _ _ _ _ _ _ _ _ _ _ _ _ _ _ _ _ _ _ _ _ _ _  A8 c8 A9 q c9 pv _ ?_
    rw [EE.out]
    exact ⟨(M1.out.later (below_lit _ _)).st.out1 T6.out G6.out, AQ.out, by rw [List.length_append, OL.out]; rfl, by omega, fun c => Nat.le_trans (PB.out c) (by omega)⟩
end Go.Proofs.Ytpoielmbdofjlaa.Syn
