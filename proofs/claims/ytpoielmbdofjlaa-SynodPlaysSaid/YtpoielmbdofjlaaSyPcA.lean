import Derived.Test.YtpoielmbdofjlaaSyMid
import Derived.BigQuiet
import Derived.Deep.Cut
namespace Go.Proofs.Ytpoielmbdofjlaa.Syn
set_option linter.unusedVariables false
set_option linter.unusedSimpArgs false
open Go.RowKit Mem Gt
open Jump (Gave equalZ_c)
/-- The statement that begins with region n. -/
def firstAt (n : Nat) : Code → Option Code
  | .loop c => firstAt n c
  | .seq a b => match a with
    | .region i _ _ => if i = n then some (.seq a b) else firstAt n b
    | _ => match firstAt n a with
      | some c => some c
      | none => firstAt n b
  | .block _ c => firstAt n c
  | .scope c => firstAt n c
  | .cond _ a b => match firstAt n a with
    | some c => some c
    | none => firstAt n b
  | _ => none
/-- What follows a cut, laid open (a piece is then met whole: 'refine link (by assumption) ?_', then 'refine wp_seq_k ?_; intro K hK' where more follows it). -/
theorem link {P : Program} {c : Code} {K : Act → World → Prop} {Q : Exit → Act → World → Prop} {a : Act} {w : World} (hK : ∀ a w, c.wp P Q a w → K a w) (h : c.wp P Q a w) : K a w := hK a w h
noncomputable def pc13 : Code := ((Try.f9.body.bind (firstAt 13)).getD .skip)
set_option maxRecDepth 1000000 in
set_option maxHeartbeats 16000000 in
theorem sw_c (W : World) (n P : Nat) (oa ob : Int) (oc : Nat) (od : Int) (s : S) (va vo : Value) (outs : List An) (pv : Nat → Value) (w : World) (h2 : n ≤ 16) (hpl : ∀ b, (s.pr b).length ≤ 1000000) (hM : Mid W n P (oa, ob, oc, od) (0, 0, 0) s va vo outs pv w) (Q : Exit → Act → World → Prop)
    (c1 c2 c3 c4 c5 c6 c7 c9 c15 c18 c19 c20 c21 c22 c23 c24 c25 c26 c27 c28 c29 c30 c31 c32 c33 c34 c35 c36 c37 c38 c39 c40 c41 c42 c43 c44 c45 c46 c47 c48 c49 c50 c51 c52 c53 c54 c55 c56 c57 c58 c59 c60 c61 c62 c63 c64 c65 c66 c67 c68 c69 c70 c71 c72 c73 c74 c75 c76 c77 c78 c79 c80 c81 c82 c83 c84 c85 c86 c87 c88 c89 c90 c91 c92 c93 c94 c95 c96 c97 c98 c99 c100 c101 c102 c103 c104 c105 c106 c107 c108 c109 c110 c111 c112 c113 c114 c115 c116 c117 c118 c119 c120 c121 c122 c123 c124 c125 c126 c127 c128 c129 c130 c131 c132 c133 c134 c135 c136 c137 c138 c139 c140 c141 c142 c143 c144 c145 c146 c147 c148 c149 c150 c151 c152 c153 c154 c155 c156 c157 c158 c159 c160 c161 c162 c163 c164 c165 c166 c167 c168 c169 c170 c171 c172 c173 c174 c175 c176 c177 c178 c179 c180 c181 c182 c183 c184 c185 c186 c187 c188 c189 c190 c191 c192 c193 c194 c195 c196 c197 c198 c199 c200 c201 c202 c203 c204 c205 c206 c207 c208 c209 c210 c211 c212 c213 c214 c215 c216 c217 c218 c219 c220 c221 c222 c223 c224 c225 c226 c227 c228 c229 c230 c231 c232 c233 c234 c235 c236 c237 c238 c239 c240 c241 c242 c243 c244 c245 c246 c247 c248 c249 c250 c251 c252 c253 c254 c255 c256 c257 c258 c259 c260 c261 : Value)
    (hK : ∀ (v53 v54 v55 v56 v57 v58 v59 v60 v61 v62 v63 v64 v65 v66 v67 v68 v69 v70 v71 v72 v73 v74 v75 v76 v77 v78 v79 v80 v81 v82 v83 v84 v85 v86 v87 v88 v89 v90 v91 v92 v93 v94 v95 v96 v97 v98 : Value)  (w1 : World), Mid W n P (oa, ob, oc, od) (opE n s (oa, ob, oc, od), 0, 0) s va vo outs pv w1 → Q .normal ⟨#[.int .i64 (n : Nat), c1, c2, c3, c4, c5, c6, c7, .slice (some ⟨W.heap.size, 0, none⟩) n n, c9, .pointer (some ⟨W.heap.size + 2, 0, none⟩), .pointer (some ⟨W.heap.size + 6, 0, none⟩), .map (some (W.heap.size + 4)), .map (some (W.heap.size + 5)), .func (.func 19) #[] #[.pointer (some ⟨W.heap.size + 6, 0, none⟩), .pointer (some ⟨W.heap.size + 2, 0, none⟩)], c15, .pointer (some ⟨P, 0, none⟩), .pointer (some ⟨P + 1, 0, none⟩), c18, c19, c20, c21, c22, c23, c24, c25, c26, c27, c28, c29, c30, c31, c32, c33, c34, c35, c36, c37, c38, c39, c40, c41, c42, c43, c44, c45, c46, c47, c48, c49, c50, c51, c52, v53, v54, v55, v56, v57, v58, v59, v60, v61, v62, v63, v64, v65, v66, v67, v68, v69, v70, v71, v72, v73, v74, v75, v76, v77, v78, v79, v80, v81, v82, v83, v84, v85, v86, v87, v88, v89, v90, v91, v92, v93, v94, v95, v96, v97, v98, c99, c100, c101, c102, c103, c104, c105, c106, c107, c108, c109, c110, c111, c112, c113, c114, c115, c116, c117, c118, c119, c120, c121, c122, c123, c124, c125, c126, c127, c128, c129, c130, c131, c132, c133, c134, c135, c136, c137, c138, c139, c140, c141, c142, c143, c144, c145, c146, c147, c148, c149, c150, c151, c152, c153, c154, c155, c156, c157, c158, c159, c160, c161, c162, c163, c164, c165, c166, c167, c168, c169, c170, c171, c172, c173, c174, c175, c176, c177, c178, c179, c180, c181, c182, c183, c184, c185, c186, c187, c188, c189, c190, c191, c192, c193, c194, c195, c196, c197, c198, c199, c200, c201, c202, c203, c204, c205, c206, c207, c208, c209, c210, c211, c212, c213, c214, c215, c216, c217, c218, c219, c220, c221, c222, c223, c224, c225, c226, c227, c228, c229, c230, c231, c232, c233, c234, c235, c236, c237, c238, c239, c240, c241, c242, c243, c244, c245, c246, c247, c248, c249, c250, c251, c252, c253, c254, c255, c256, c257, c258, c259, c260, c261], []⟩ w1) :
    Code.wp Try.prog pc13 (Q) ⟨#[.int .i64 (n : Nat), c1, c2, c3, c4, c5, c6, c7, .slice (some ⟨W.heap.size, 0, none⟩) n n, c9, .pointer (some ⟨W.heap.size + 2, 0, none⟩), .pointer (some ⟨W.heap.size + 6, 0, none⟩), .map (some (W.heap.size + 4)), .map (some (W.heap.size + 5)), .func (.func 19) #[] #[.pointer (some ⟨W.heap.size + 6, 0, none⟩), .pointer (some ⟨W.heap.size + 2, 0, none⟩)], c15, .pointer (some ⟨P, 0, none⟩), .pointer (some ⟨P + 1, 0, none⟩), c18, c19, c20, c21, c22, c23, c24, c25, c26, c27, c28, c29, c30, c31, c32, c33, c34, c35, c36, c37, c38, c39, c40, c41, c42, c43, c44, c45, c46, c47, c48, c49, c50, c51, c52, c53, c54, c55, c56, c57, c58, c59, c60, c61, c62, c63, c64, c65, c66, c67, c68, c69, c70, c71, c72, c73, c74, c75, c76, c77, c78, c79, c80, c81, c82, c83, c84, c85, c86, c87, c88, c89, c90, c91, c92, c93, c94, c95, c96, c97, c98, c99, c100, c101, c102, c103, c104, c105, c106, c107, c108, c109, c110, c111, c112, c113, c114, c115, c116, c117, c118, c119, c120, c121, c122, c123, c124, c125, c126, c127, c128, c129, c130, c131, c132, c133, c134, c135, c136, c137, c138, c139, c140, c141, c142, c143, c144, c145, c146, c147, c148, c149, c150, c151, c152, c153, c154, c155, c156, c157, c158, c159, c160, c161, c162, c163, c164, c165, c166, c167, c168, c169, c170, c171, c172, c173, c174, c175, c176, c177, c178, c179, c180, c181, c182, c183, c184, c185, c186, c187, c188, c189, c190, c191, c192, c193, c194, c195, c196, c197, c198, c199, c200, c201, c202, c203, c204, c205, c206, c207, c208, c209, c210, c211, c212, c213, c214, c215, c216, c217, c218, c219, c220, c221, c222, c223, c224, c225, c226, c227, c228, c229, c230, c231, c232, c233, c234, c235, c236, c237, c238, c239, c240, c241, c242, c243, c244, c245, c246, c247, c248, c249, c250, c251, c252, c253, c254, c255, c256, c257, c258, c259, c260, c261], []⟩ w := by
  have HK := Lib.hid hK
  clear hK
  have MM := Lib.hid hM
  have y0 := hM.o0
  have y1 := hM.o1
  have z0 := hM.a0
  have fz := hM.fz 0
  simp only at y0 y1 z0
  by_cases hb : ob < 1
  · have E := Lib.hid (show opE n s (oa, ob, oc, od) = 2 by unfold opE; rw [if_pos (.inl hb)])
    clear hM
    conv => arg 2; whnf
    go_wp2
    refine HK.out _ _ _ _ _ _ _ _ _ _ _ _ _ _ _ _ _ _ _ _ _ _ _ _ _ _ _ _ _ _ _ _ _ _ _ _ _ _ _ _ _ _ _ _ _ _  _ (by rw [E.out]; exact MM.out.put 0 _ (2, 0, 0) rfl)
  by_cases hb2 : 400 < ob
  · have E := Lib.hid (show opE n s (oa, ob, oc, od) = 2 by unfold opE; rw [if_pos (.inr hb2)])
    clear hM
    conv => arg 2; whnf
    go_wp2
    refine HK.out _ _ _ _ _ _ _ _ _ _ _ _ _ _ _ _ _ _ _ _ _ _ _ _ _ _ _ _ _ _ _ _ _ _ _ _ _ _ _ _ _ _ _ _ _ _  _ (by rw [E.out]; exact MM.out.put 0 _ (2, 0, 0) rfl)
  obtain ⟨b, rfl⟩ : ∃ b : Nat, ob = (b : Int) := ⟨ob.toNat, by omega⟩
  have hr : ¬ ((b : Int) < 1 ∨ 400 < (b : Int)) := by omega
  by_cases h1 : oa = 1
  · subst h1
    have LK := hM.st.fixedL (b := b) (by omega)
    cases hf : s.fixed b with
    | true =>
      have E := Lib.hid (show opE n s (1, (b : Int), oc, od) = 6 by unfold opE; rw [if_neg hr, if_neg (by simp), if_pos rfl, if_pos (by simpa using hf)])
      rw [hf] at LK
      clear hM hf hr
      conv => arg 2; whnf
      go_wp2
      refine HK.out _ _ _ _ _ _ _ _ _ _ _ _ _ _ _ _ _ _ _ _ _ _ _ _ _ _ _ _ _ _ _ _ _ _ _ _ _ _ _ _ _ _ _ _ _ _  _ (by rw [E.out]; exact MM.out.put 0 _ (6, 0, 0) rfl)
    | false =>
      have E := Lib.hid (show opE n s (1, (b : Int), oc, od) = 0 by unfold opE; rw [if_neg hr, if_neg (by simp), if_pos rfl, if_neg (by simp [hf])])
      rw [hf] at LK
      clear hM hf hr
      conv => arg 2; whnf
      go_wp2
      refine HK.out _ _ _ _ _ _ _ _ _ _ _ _ _ _ _ _ _ _ _ _ _ _ _ _ _ _ _ _ _ _ _ _ _ _ _ _ _ _ _ _ _ _ _ _ _ _  _ (by rw [E.out]; exact MM.out)
  by_cases h3 : oa = 2
  · subst h3
    have LK := hM.st.prL (b := b) (by omega)
    obtain ⟨A, c, e, _, _⟩ := (hM.st.pm.pr b).form
    have hl := hpl b
    have b10 := hM.st.b10
    generalize hq : (s.pr b).length = q at *
    rw [e] at LK
    have w1 : IntKind.i64.wrap (2 * (q : Int)) = ((2 * q : Nat) : Int) := by rw [show 2 * (q : Int) = ((2 * q : Nat) : Int) by omega]; exact IntWalk.i64_in _ (by omega)
    by_cases hs : 2 * q ≤ n
    · have E := Lib.hid (show opE n s (2, (b : Int), oc, od) = 8 by unfold opE; rw [if_neg hr, if_neg (by simp), if_neg (by simp), if_pos (by simpa [hq] using hs)])
      have i1 : ((2 * q : Nat) : Int) ≤ (n : Int) := by omega
      clear hM hr e hpl hq
      conv => arg 2; whnf
      go_wp2
      refine HK.out _ _ _ _ _ _ _ _ _ _ _ _ _ _ _ _ _ _ _ _ _ _ _ _ _ _ _ _ _ _ _ _ _ _ _ _ _ _ _ _ _ _ _ _ _ _  _ (by rw [E.out]; exact MM.out.put 0 _ (8, 0, 0) rfl)
    · have E := Lib.hid (show opE n s (2, (b : Int), oc, od) = 0 by unfold opE; rw [if_neg hr, if_neg (by simp), if_neg (by simp), if_neg (by simpa [hq] using hs)])
      have i1 : ¬ ((2 * q : Nat) : Int) ≤ (n : Int) := by omega
      clear hM hr e hpl hq
      conv => arg 2; whnf
      go_wp2
      refine HK.out _ _ _ _ _ _ _ _ _ _ _ _ _ _ _ _ _ _ _ _ _ _ _ _ _ _ _ _ _ _ _ _ _ _ _ _ _ _ _ _ _ _ _ _ _ _  _ (by rw [E.out]; exact MM.out)
  have E := Lib.hid (show opE n s (oa, (b : Int), oc, od) = 5 by unfold opE; rw [if_neg hr, if_pos ⟨h1, h3⟩])
  have j1 : (oa != 1) = true := by simp [h1]
  have j2 : (oa != 2) = true := by simp [h3]
  clear hM hr
  conv => arg 2; whnf
  go_wp2
  refine HK.out _ _ _ _ _ _ _ _ _ _ _ _ _ _ _ _ _ _ _ _ _ _ _ _ _ _ _ _ _ _ _ _ _ _ _ _ _ _ _ _ _ _ _ _ _ _  _ (by rw [E.out]; exact MM.out.put 0 _ (5, 0, 0) rfl)
end Go.Proofs.Ytpoielmbdofjlaa.Syn
