import Derived.Test.YtpoielmbdofjlaaSyMid
import Derived.BigQuiet
import Derived.Test.YtpoielmbdofjlaaSyPcA
import Derived.Deep.Cut
import Derived.Deep.RegionHeld3
namespace Go.Proofs.Ytpoielmbdofjlaa.Syn
set_option linter.unusedVariables false
set_option linter.unusedSimpArgs false
open Go.RowKit Mem Gt
open Jump (Gave equalZ_c)
noncomputable def pc23 : Code := ((Try.f9.body.bind (firstAt 23)).getD .skip)
set_option maxRecDepth 1000000 in
set_option maxHeartbeats 16000000 in
theorem name_c (W : World) (n P : Nat) (oa : Int) (b oc : Nat) (od : Int) (x : An) (s : S) (va vo : Value) (outs : List An) (pv : Nat → Value) (w : World) (h1 : 1 ≤ b) (h4 : b ≤ 400) (ha : oa = 1 ∨ oa = 2) (hM : Mid W n P (oa, b, oc, od) x s va vo outs pv w) (Q : Exit → Act → World → Prop)
    (c1 c2 c3 c4 c5 c6 c7 c9 c15 c18 c19 c20 c21 c22 c23 c24 c25 c26 c27 c28 c29 c30 c31 c32 c33 c34 c35 c36 c37 c38 c39 c40 c41 c42 c43 c44 c45 c46 c47 c48 c49 c50 c51 c52 c53 c54 c55 c56 c57 c58 c59 c60 c61 c62 c63 c64 c65 c66 c67 c68 c69 c70 c71 c72 c73 c74 c75 c76 c77 c78 c79 c80 c81 c82 c83 c84 c85 c86 c87 c88 c89 c90 c91 c92 c93 c94 c95 c96 c97 c98 c99 c100 c101 c102 c103 c104 c105 c106 c107 c108 c109 c110 c111 c112 c113 c114 c115 c116 c117 c118 c119 c120 c121 c122 c123 c124 c125 c126 c127 c128 c129 c130 c131 c132 c133 c134 c135 c136 c137 c138 c139 c140 c141 c142 c143 c144 c145 c146 c147 c148 c149 c150 c151 c152 c153 c154 c155 c156 c157 c158 c159 c160 c161 c162 c163 c164 c165 c166 c167 c168 c169 c170 c171 c172 c173 c174 c175 c176 c177 c178 c179 c180 c181 c182 c183 c184 c185 c186 c187 c188 c189 c190 c191 c192 c193 c194 c195 c196 c197 c198 c199 c200 c201 c202 c203 c204 c205 c206 c207 c208 c209 c210 c211 c212 c213 c214 c215 c216 c217 c218 c219 c220 c221 c222 c223 c224 c225 c226 c227 c228 c229 c230 c231 c232 c233 c234 c235 c236 c237 c238 c239 c240 c241 c242 c243 c244 c245 c246 c247 c248 c249 c250 c251 c252 c253 c254 c255 c256 c257 c258 c259 c260 c261 : Value)
    (hK : ∀ (v106 v107 v108 v109 v110 v111 v112 v113 v114 v115 v116 v117 v118 v119 v120 v121 v122 v123 : Value)  (w1 : World), Mid W n P (oa, b, oc, od) x (if oa = 1 then name1 s b od else s) va vo outs pv w1 → Q .normal ⟨#[.int .i64 (n : Nat), c1, c2, c3, c4, c5, c6, c7, .slice (some ⟨W.heap.size, 0, none⟩) n n, c9, .pointer (some ⟨W.heap.size + 2, 0, none⟩), .pointer (some ⟨W.heap.size + 6, 0, none⟩), .map (some (W.heap.size + 4)), .map (some (W.heap.size + 5)), .func (.func 19) #[] #[.pointer (some ⟨W.heap.size + 6, 0, none⟩), .pointer (some ⟨W.heap.size + 2, 0, none⟩)], c15, .pointer (some ⟨P, 0, none⟩), .pointer (some ⟨P + 1, 0, none⟩), c18, c19, c20, c21, c22, c23, c24, c25, c26, c27, c28, c29, c30, c31, c32, c33, c34, c35, c36, c37, c38, c39, c40, c41, c42, c43, c44, c45, c46, c47, c48, c49, c50, c51, c52, c53, c54, c55, c56, c57, c58, c59, c60, c61, c62, c63, c64, c65, c66, c67, c68, c69, c70, c71, c72, c73, c74, c75, c76, c77, c78, c79, c80, c81, c82, c83, c84, c85, c86, c87, c88, c89, c90, c91, c92, c93, c94, c95, c96, c97, c98, c99, c100, c101, c102, c103, c104, c105, v106, v107, v108, v109, v110, v111, v112, v113, v114, v115, v116, v117, v118, v119, v120, v121, v122, v123, c124, c125, c126, c127, c128, c129, c130, c131, c132, c133, c134, c135, c136, c137, c138, c139, c140, c141, c142, c143, c144, c145, c146, c147, c148, c149, c150, c151, c152, c153, c154, c155, c156, c157, c158, c159, c160, c161, c162, c163, c164, c165, c166, c167, c168, c169, c170, c171, c172, c173, c174, c175, c176, c177, c178, c179, c180, c181, c182, c183, c184, c185, c186, c187, c188, c189, c190, c191, c192, c193, c194, c195, c196, c197, c198, c199, c200, c201, c202, c203, c204, c205, c206, c207, c208, c209, c210, c211, c212, c213, c214, c215, c216, c217, c218, c219, c220, c221, c222, c223, c224, c225, c226, c227, c228, c229, c230, c231, c232, c233, c234, c235, c236, c237, c238, c239, c240, c241, c242, c243, c244, c245, c246, c247, c248, c249, c250, c251, c252, c253, c254, c255, c256, c257, c258, c259, c260, c261], []⟩ w1) :
    Code.wp Try.prog pc23 (Q) ⟨#[.int .i64 (n : Nat), c1, c2, c3, c4, c5, c6, c7, .slice (some ⟨W.heap.size, 0, none⟩) n n, c9, .pointer (some ⟨W.heap.size + 2, 0, none⟩), .pointer (some ⟨W.heap.size + 6, 0, none⟩), .map (some (W.heap.size + 4)), .map (some (W.heap.size + 5)), .func (.func 19) #[] #[.pointer (some ⟨W.heap.size + 6, 0, none⟩), .pointer (some ⟨W.heap.size + 2, 0, none⟩)], c15, .pointer (some ⟨P, 0, none⟩), .pointer (some ⟨P + 1, 0, none⟩), c18, c19, c20, c21, c22, c23, c24, c25, c26, c27, c28, c29, c30, c31, c32, c33, c34, c35, c36, c37, c38, c39, c40, c41, c42, c43, c44, c45, c46, c47, c48, c49, c50, c51, c52, c53, c54, c55, c56, c57, c58, c59, c60, c61, c62, c63, c64, c65, c66, c67, c68, c69, c70, c71, c72, c73, c74, c75, c76, c77, c78, c79, c80, c81, c82, c83, c84, c85, c86, c87, c88, c89, c90, c91, c92, c93, c94, c95, c96, c97, c98, c99, c100, c101, c102, c103, c104, c105, c106, c107, c108, c109, c110, c111, c112, c113, c114, c115, c116, c117, c118, c119, c120, c121, c122, c123, c124, c125, c126, c127, c128, c129, c130, c131, c132, c133, c134, c135, c136, c137, c138, c139, c140, c141, c142, c143, c144, c145, c146, c147, c148, c149, c150, c151, c152, c153, c154, c155, c156, c157, c158, c159, c160, c161, c162, c163, c164, c165, c166, c167, c168, c169, c170, c171, c172, c173, c174, c175, c176, c177, c178, c179, c180, c181, c182, c183, c184, c185, c186, c187, c188, c189, c190, c191, c192, c193, c194, c195, c196, c197, c198, c199, c200, c201, c202, c203, c204, c205, c206, c207, c208, c209, c210, c211, c212, c213, c214, c215, c216, c217, c218, c219, c220, c221, c222, c223, c224, c225, c226, c227, c228, c229, c230, c231, c232, c233, c234, c235, c236, c237, c238, c239, c240, c241, c242, c243, c244, c245, c246, c247, c248, c249, c250, c251, c252, c253, c254, c255, c256, c257, c258, c259, c260, c261], []⟩ w := by
  have HK := Lib.hid hK
  clear hK
  have MM := Lib.hid hM
  have y0 := hM.o0
  have y1 := hM.o1
  have y3 := hM.o3
  simp only at y0 y1 y3
  rcases ha with rfl | rfl
  · have LK := hM.st.seenL (b := b) h4
    have b11 := hM.st.b11
    cases hf : s.seen b with
    | true =>
      have E := Lib.hid (show (if (1 : Int) = 1 then name1 s b od else s) = s by rw [if_pos rfl]; unfold name1; rw [if_pos hf])
      rw [hf] at LK
      clear hM hf
      conv => arg 2; whnf
      go_wp2
      refine HK.out _ _ _ _ _ _ _ _ _ _ _ _ _ _ _ _ _ _  _ (by rw [E.out]; exact MM.out)
    | false =>
      have E := Lib.hid (show (if (1 : Int) = 1 then name1 s b od else s) = { { s with seen := upd s.seen b true } with first := upd s.first b od } by rw [if_pos rfl]; unfold name1; rw [if_neg (by simp [hf])])
      rw [hf] at LK
      have wb : (Lit.int .i64 (b : Int)).wf = true := wf_of (by unfold Fit; omega)
      have hD : Mid W n P (1, b, oc, od) x s va vo outs pv w.drew := hM.later (Mem.below_drew (Below.refl _ _))
      obtain ⟨ks, hk, hm⟩ := hD.st.ms
      obtain ⟨V1, r1, p1, g1⟩ := hm.upd Try.underlying53 hk.len b wb (.bool true)
      have hM1 := hD.low g1 (by omega) (hD.st.seen1 h1 h4 hk p1 g1)
      obtain ⟨js, hj, hmf⟩ := hM1.st.mf
      obtain ⟨V2, r2, p2, g2⟩ := hmf.upd Try.underlying52 hj.len b wb (.int .i64 od)
      have M2 := Lib.hid (hM1.low g2 (by omega) (hM1.st.first1 h1 h4 hj p2 g2))
      have M1 := Lib.hid hM1
      have MD := Lib.hid hD
      clear hM hf hk hm hM1 hj hmf p1 g1 p2 g2 wb hD
      conv => arg 2; whnf
      go_upto_region 24 with fail
      go_region_held3 (fun u => u.cell? ⟨P, 1, none⟩ = some (.int .i64 (b : Int)) ∧ u.cell? ⟨P, 3, none⟩ = some (.int .i64 od) ∧ u.cell? ⟨W.heap.size + 6, 0, none⟩ = some (.map (some (W.heap.size + 3))))
        (first | exact ⟨M2.out.o1, M2.out.o3, M2.out.st.b11⟩ | exact ⟨M1.out.o1, M1.out.o3, M1.out.st.b11⟩ | exact ⟨MD.out.o1, MD.out.o3, MD.out.st.b11⟩ | go_keep)
        (fail)
      all_goals
        go_wp2
        refine HK.out _ _ _ _ _ _ _ _ _ _ _ _ _ _ _ _ _ _  _ (by rw [E.out]; exact M2.out)
  · have E := Lib.hid (show (if (2 : Int) = 1 then name1 s b od else s) = s by rw [if_neg (by decide)])
    clear hM
    conv => arg 2; whnf
    go_wp2
    refine HK.out _ _ _ _ _ _ _ _ _ _ _ _ _ _ _ _ _ _  _ (by rw [E.out]; exact MM.out)
end Go.Proofs.Ytpoielmbdofjlaa.Syn
