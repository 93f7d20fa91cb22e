import Derived.Test.YtpoielmbdofjlaaSyMid
import Derived.BigQuiet
import Derived.Test.YtpoielmbdofjlaaSyPcA
import Derived.Deep.Cut
import Derived.Deep.DeepCutAuto
import Derived.Maps.AppendAt
import Derived.Deep.RegionHeld3
namespace Go.Proofs.Ytpoielmbdofjlaa.Syn
set_option linter.unusedVariables false
set_option linter.unusedSimpArgs false
open Go.RowKit Mem Gt
open Jump (Gave equalZ_c)
theorem step_append_run {t : TypeId} {ops : Array Oper} {o : Oper} {a : Act} {w w' : World} {K : Act → World → Prop} {Q : Exit → Act → World → Prop} {F : Prop} {v u r : Value} (hgd : o.guard = none) (s x : Operand)
    (ho : o.op = .call { callee := .builtin .append, args := #[s, x], argTypes := #[t, t] }) (hs : a.eval s = v) (hx : a.eval x = u) (hrun : (Builtin.append_ #[t, t] o.type #[v, u]).run Try.prog w = .ok r w') (h : K (a.put o.dst r) w') :
    if Region.wanted o (yielded ops a.tmps) = true then Oper.wp Try.prog o a w K Q else F := by
  have hw : Region.wanted o (yielded ops a.tmps) = true := by simp [Region.wanted, hgd]
  rw [if_pos hw]
  unfold Oper.wp execOp
  simp only [ho, resolve, invoke, builtin, Sem.run_bind, Sem.run_pure, Result.andThen_ok, List.map_toArray, List.map_cons, List.map_nil, hs, hx, hrun]
  exact h
/-- What 'append(v, T{..})' does, run. -/
theorem run_append_1 {α : Type} {sz : Nat} {E : Enc α sz} {t e : TypeId} {bytes : Nat} (L : El t e sz bytes) (h0 : 0 < sz) (ty : TypeId) {w : World} {B : Nat} {v : Value} {l : List α} (y : α) {cs : Array Value} (hcs : cs.toList = E.enc y) (hg : Tab E w B e v l)
    (hl1 : l.length + 1 ≤ maxLen) (hl2 : (l.length + 1) * bytes ≤ 140737488355328) (hB : B ≤ w.heap.size) :
    ∃ v' w', (Builtin.append_ #[t, t] ty #[v, .slice (some ⟨w.heap.size, 0, none⟩) 1 1]).run Try.prog (w.alloc (.cells cs e)) = .ok v' w' ∧ Tab E w' B e v' (l ++ [y]) ∧ (w.alloc (.cells cs e)).grownBy w' v.ownBlock ∧ (v'.ownBlock = v.ownBlock ∨ v'.ownBlock = some (w.heap.size + 1)) := by
  obtain ⟨i, hi, z, hz0, hz1, hz2, hz3⟩ := L.hi
  obtain ⟨v', w', h1, h2, h3, _, h5⟩ := run_append_own_at (P := Try.prog) (w.alloc (.cells cs e)) B t ty e i z sz bytes L.ht hi hz0 hz1 hz2 hz3 h0 v l.length (flat E l) (World.ownsRow.alloc hg _) ⟨w.heap.size, 0, none⟩ 1 1 (E.enc y) (by rw [E.len, Nat.one_mul])
    (fun j u hj => by
      have kn := Known.made w e cs
      rw [← hcs] at hj
      have hj' : cs[j]? = some u := by simpa using hj
      rw [Addr.add_lit, Nat.zero_add, kn.cell j, hj']) (E.one y) (by omega) hl2 (by simp; omega)
  refine ⟨v', w', h1, ?_, h3, by simpa using h5⟩
  unfold Tab
  rw [List.length_append, flat_app, flat_one_el]
  exact h2
noncomputable def pc35 : Code := ((Try.f9.body.bind (firstAt 35)).getD .skip)
set_option maxRecDepth 1000000 in
set_option maxHeartbeats 16000000 in
theorem promise_c (W : World) (n P : Nat) (oa : Int) (b oc : Nat) (od : Int) (x : An) (s : S) (A9 : Option Addr) (q c9 j : Nat) (vo : Value) (outs : List An) (pv : Nat → Value) (w : World) (h1 : 1 ≤ b) (h4 : b ≤ 400) (hq : s.acc.length = q) (hq2 : q ≤ 1000000) (hl : (s.pr b).length ≤ 1000000) (hM : Mid W n P (oa, b, oc, od) x s (.slice A9 q c9) vo outs pv w) (Q : Exit → Act → World → Prop)
    (c1 c2 c3 c4 c5 c6 c7 c15 c18 c20 c21 c22 c23 c24 c25 c26 c27 c28 c29 c30 c31 c32 c33 c34 c35 c36 c37 c38 c39 c40 c41 c42 c43 c44 c45 c46 c47 c48 c49 c50 c51 c52 c53 c54 c55 c56 c57 c58 c59 c60 c61 c62 c63 c64 c65 c66 c67 c68 c69 c70 c71 c72 c73 c74 c75 c76 c77 c78 c79 c80 c81 c82 c83 c84 c85 c86 c87 c88 c89 c90 c91 c92 c93 c94 c95 c96 c97 c98 c99 c100 c101 c102 c103 c104 c105 c106 c107 c108 c109 c110 c111 c112 c113 c114 c115 c116 c117 c118 c119 c120 c121 c122 c123 c124 c125 c126 c127 c128 c129 c130 c131 c132 c133 c134 c135 c136 c137 c138 c139 c140 c141 c142 c143 c144 c145 c146 c147 c148 c149 c150 c151 c152 c153 c154 c155 c156 c157 c158 c159 c160 c161 c162 c163 c164 c165 c166 c167 c168 c169 c170 c171 c172 c173 c174 c175 c176 c177 c178 c179 c180 c181 c182 c183 c184 c185 c186 c187 c188 c189 c190 c191 c192 c193 c194 c195 c196 c197 c198 c199 c200 c201 c202 c203 c204 c205 c206 c207 c208 c209 c210 c211 c212 c213 c214 c215 c216 c217 c218 c219 c220 c221 c222 c223 c224 c225 c226 c227 c228 c229 c230 c231 c232 c233 c234 c235 c236 c237 c238 c239 c240 c241 c242 c243 c244 c245 c246 c247 c248 c249 c250 c251 c252 c253 c254 c255 c256 c257 c258 c259 c260 c261 : Value)
    (hK : ∀ (v20 v22 v195 v196 v197 v198 v199 v200 v201 v202 v203 v204 v205 v206 v207 v208 v209 v210 v211 v212 v213 v214 v215 v216 v217 v218 : Value) (pv1 : Nat → Value) (w1 : World), Mid W n P (oa, b, oc, od) x { s with pr := upd s.pr b (s.pr b ++ [(j, lastOf s.acc j)]) } (.slice A9 q c9) vo outs pv1 w1 → Q .normal ⟨#[.int .i64 (n : Nat), c1, c2, c3, c4, c5, c6, c7, .slice (some ⟨W.heap.size, 0, none⟩) n n, .slice A9 q c9, .pointer (some ⟨W.heap.size + 2, 0, none⟩), .pointer (some ⟨W.heap.size + 6, 0, none⟩), .map (some (W.heap.size + 4)), .map (some (W.heap.size + 5)), .func (.func 19) #[] #[.pointer (some ⟨W.heap.size + 6, 0, none⟩), .pointer (some ⟨W.heap.size + 2, 0, none⟩)], c15, .pointer (some ⟨P, 0, none⟩), .pointer (some ⟨P + 1, 0, none⟩), c18, .int .i64 (j : Nat), v20, c21, v22, c23, c24, c25, c26, c27, c28, c29, c30, c31, c32, c33, c34, c35, c36, c37, c38, c39, c40, c41, c42, c43, c44, c45, c46, c47, c48, c49, c50, c51, c52, c53, c54, c55, c56, c57, c58, c59, c60, c61, c62, c63, c64, c65, c66, c67, c68, c69, c70, c71, c72, c73, c74, c75, c76, c77, c78, c79, c80, c81, c82, c83, c84, c85, c86, c87, c88, c89, c90, c91, c92, c93, c94, c95, c96, c97, c98, c99, c100, c101, c102, c103, c104, c105, c106, c107, c108, c109, c110, c111, c112, c113, c114, c115, c116, c117, c118, c119, c120, c121, c122, c123, c124, c125, c126, c127, c128, c129, c130, c131, c132, c133, c134, c135, c136, c137, c138, c139, c140, c141, c142, c143, c144, c145, c146, c147, c148, c149, c150, c151, c152, c153, c154, c155, c156, c157, c158, c159, c160, c161, c162, c163, c164, c165, c166, c167, c168, c169, c170, c171, c172, c173, c174, c175, c176, c177, c178, c179, c180, c181, c182, c183, c184, c185, c186, c187, c188, c189, c190, c191, c192, c193, c194, v195, v196, v197, v198, v199, v200, v201, v202, v203, v204, v205, v206, v207, v208, v209, v210, v211, v212, v213, v214, v215, v216, v217, v218, c219, c220, c221, c222, c223, c224, c225, c226, c227, c228, c229, c230, c231, c232, c233, c234, c235, c236, c237, c238, c239, c240, c241, c242, c243, c244, c245, c246, c247, c248, c249, c250, c251, c252, c253, c254, c255, c256, c257, c258, c259, c260, c261], []⟩ w1) :
    Code.wp Try.prog pc35 (Q) ⟨#[.int .i64 (n : Nat), c1, c2, c3, c4, c5, c6, c7, .slice (some ⟨W.heap.size, 0, none⟩) n n, .slice A9 q c9, .pointer (some ⟨W.heap.size + 2, 0, none⟩), .pointer (some ⟨W.heap.size + 6, 0, none⟩), .map (some (W.heap.size + 4)), .map (some (W.heap.size + 5)), .func (.func 19) #[] #[.pointer (some ⟨W.heap.size + 6, 0, none⟩), .pointer (some ⟨W.heap.size + 2, 0, none⟩)], c15, .pointer (some ⟨P, 0, none⟩), .pointer (some ⟨P + 1, 0, none⟩), c18, .int .i64 (j : Nat), c20, c21, c22, c23, c24, c25, c26, c27, c28, c29, c30, c31, c32, c33, c34, c35, c36, c37, c38, c39, c40, c41, c42, c43, c44, c45, c46, c47, c48, c49, c50, c51, c52, c53, c54, c55, c56, c57, c58, c59, c60, c61, c62, c63, c64, c65, c66, c67, c68, c69, c70, c71, c72, c73, c74, c75, c76, c77, c78, c79, c80, c81, c82, c83, c84, c85, c86, c87, c88, c89, c90, c91, c92, c93, c94, c95, c96, c97, c98, c99, c100, c101, c102, c103, c104, c105, c106, c107, c108, c109, c110, c111, c112, c113, c114, c115, c116, c117, c118, c119, c120, c121, c122, c123, c124, c125, c126, c127, c128, c129, c130, c131, c132, c133, c134, c135, c136, c137, c138, c139, c140, c141, c142, c143, c144, c145, c146, c147, c148, c149, c150, c151, c152, c153, c154, c155, c156, c157, c158, c159, c160, c161, c162, c163, c164, c165, c166, c167, c168, c169, c170, c171, c172, c173, c174, c175, c176, c177, c178, c179, c180, c181, c182, c183, c184, c185, c186, c187, c188, c189, c190, c191, c192, c193, c194, c195, c196, c197, c198, c199, c200, c201, c202, c203, c204, c205, c206, c207, c208, c209, c210, c211, c212, c213, c214, c215, c216, c217, c218, c219, c220, c221, c222, c223, c224, c225, c226, c227, c228, c229, c230, c231, c232, c233, c234, c235, c236, c237, c238, c239, c240, c241, c242, c243, c244, c245, c246, c247, c248, c249, c250, c251, c252, c253, c254, c255, c256, c257, c258, c259, c260, c261], []⟩ w := by
  have HK := Lib.hid hK
  clear hK
  have MM := Lib.hid hM
  have HQ := Lib.hid hq
  have RA := Lib.hid hM.st.pm.acc.reads
  have K0 := Lib.hid (Known.made w tN #[.int .i64 (j : Nat), .int .i64 0, .int .i64 0])
  have B0 := Lib.hid (below_lit w (.cells #[.int .i64 (j : Nat), .int .i64 0, .int .i64 0] tN))
  have HL := Lib.hid hl
  clear hM hq hl
  conv => arg 2; whnf
  go_wp2
  go_loopw [199] (fun i wr => ∃ k : Nat, k ≤ q ∧ i = .int .i64 k ∧ Known wr w.heap.size tN #[.int .i64 (j : Nat), .int .i64 ((lastOf (s.acc.take k) j).1 : Nat), .int .i64 (lastOf (s.acc.take k) j).2] ∧ Below w.heap.size w wr) (fun i _ => q - (intOf i).toNat)
  case atStart => exact ⟨0, by omega, rfl, K0.out, B0.out⟩
  case round =>
    obtain ⟨k, hk, rfl, hK, hB⟩ := hrel
    clear K0 B0
    by_cases hlt : k < q
    · have kl : k < s.acc.length := by rw [HQ.out]; exact hlt
      obtain ⟨⟨x0, x1, x2⟩, hx⟩ : ∃ x, s.acc[k]? = some x := ⟨_, List.getElem?_eq_getElem kl⟩
      obtain ⟨b1, o1, rfl, hb1, y0, y1, y2⟩ := nv_at (RA.out.below hB) hx
      have SL := Lib.hid (last_step hx j)
      generalize hc : lastOf (s.acc.take k) j = cur at *
      obtain ⟨l0, l1⟩ := cur
      have i1 : (k : Int) < (q : Int) := by omega
      simp only at y0 y1 y2 hK ⊢
      obtain ⟨d0, d1, d2⟩ := box_nv (w := wr) (x0, x1, x2)
      simp only at d0 d1 d2
      have hA := hK.alloc (.cells #[.int .i64 (x0 : Nat), .int .i64 (x1 : Nat), .int .i64 x2] tN)
      have f0 := hA.free 0
      have f1 := hA.free 1
      have f2 := hA.free 2
      have KA := Lib.hid hA
      have BA := Lib.hid (hB.trans ((below_lit wr (.cells #[.int .i64 (x0 : Nat), .int .i64 (x1 : Nat), .int .i64 x2] tN)).mono hB.size))
      by_cases he : x0 = j
      · subst he
        have S2 := Lib.hid (show lastOf (s.acc.take (k + 1)) x0 = (x1, x2) by rw [SL.out]; unfold lstep; rw [if_pos rfl])
        have z0 := hA.cell 0
        have z1 := hA.cell 1
        have z2 := hA.cell 2
        clear hK hB hx hb1 hc kl hA
        go_wp2
        go_roundw
        case rel =>
          refine ⟨k + 1, by omega, by go_num, ?_, ?_⟩
          · rw [S2.out]
            first | exact KA.out.put 0 _ | exact ((KA.out.put 0 _).put 1 _).put 2 _
          · first | exact ((BA.out.setCell (Nat.le_refl _) _).setCell (Nat.le_refl _) _).setCell (Nat.le_refl _) _
        case measure => simp [intOf]; omega
      · have i2 : ((x0 : Int) == (j : Int)) = false := by simp; omega
        have S2 := Lib.hid (show lastOf (s.acc.take (k + 1)) j = (l0, l1) by rw [SL.out]; unfold lstep; rw [if_neg he])
        clear hK hB hx hb1 hc kl hA f0 f1 f2
        go_wp2
        go_roundw
        case rel => exact ⟨k + 1, by omega, by go_num, by rw [S2.out]; exact KA.out, BA.out⟩
        case measure => simp [intOf]; omega
    · obtain rfl : k = q := by omega
      have ET := Lib.hid (show lastOf (s.acc.take k) j = lastOf s.acc j by rw [List.take_of_length_le (by rw [HQ.out]; exact Nat.le_refl _)])
      rw [ET.out] at hK
      generalize hc : lastOf s.acc j = cur at *
      obtain ⟨l0, l1⟩ := cur
      simp only at hK
      have wb : (Lit.int .i64 (b : Int)).wf = true := wf_of (by unfold Fit; omega)
      have hMr := MM.out.later hB
      have hD : Mid W n P (oa, b, oc, od) x s (.slice A9 k c9) vo outs pv wr.drew := hMr.later (Mem.below_drew (Below.refl _ _))
      have LK0 := hD.st.prL h4
      have hU := hD.later (below_lit wr.drew (.cells #[.int .i64 (j : Nat), .int .i64 (l0 : Nat), .int .i64 l1] tN))
      have LK1 : (Instr.lookup 51 (.map (some (W.heap.size + 1))) (.int .i64 (b : Int)) false).run Try.prog (wr.alloc (.cells #[.int .i64 (j : Nat), .int .i64 (l0 : Nat), .int .i64 l1] tN)).drew = .ok (pv b) (wr.alloc (.cells #[.int .i64 (j : Nat), .int .i64 (l0 : Nat), .int .i64 l1] tN)).drew := hU.st.prL h4
      have hls := HL.out
      obtain ⟨v', U1, r1, T1, g1, f1⟩ := run_append_1 elNv (by decide) 50 (w := wr.drew) (E := nvE) (j, l0, l1) (cs := #[.int .i64 (j : Nat), .int .i64 (l0 : Nat), .int .i64 l1]) rfl (hD.st.pm.pr b) (by unfold maxLen; omega) (by omega) (by have := hD.st.size; omega)
      obtain ⟨ks, hk2, hm⟩ := hU.st.mp
      have nb : ∀ {g : Nat}, g < W.heap.size + 7 → some g ≠ (pv b).ownBlock := fun hg => low_ne (hU.st.pm.pr b) hg
      obtain ⟨U2, r2, p2, g2⟩ := (hm.kept g1 (nb (by omega))).upd Try.underlying51 hk2.len b wb v'
      have M2 := Lib.hid (hU.promise h1 h4 T1 g1 (f1.imp id (fun e => ⟨_, e, by simp⟩)) hk2 p2 g2)
      have h7 := hD.hi
      have c1 := cell_keep g1 hU.st.b10 (nb (by show W.heap.size + 2 < _; omega))
      have c2 := cell_keep g2 c1 (by simp)
      have d1 := cell_keep g1 hU.o1 (hU.fp b).1.symm
      have d2 := cell_keep g2 d1 (fun e => by injection e with e; have e : P = W.heap.size + 1 := e; omega)
      have hL : W.heap.size + 7 ≤ w.heap.size := MM.out.st.size
      have nl : some w.heap.size ≠ (pv b).ownBlock := fun e => by have := ((MM.out.st.pm.pr b).lt _ e.symm).2; omega
      have nm : some w.heap.size ≠ some (W.heap.size + 1) := fun e => by injection e with e; omega
      have kD : Known wr.drew w.heap.size tN #[.int .i64 (j : Nat), .int .i64 (l0 : Nat), .int .i64 l1] := hK
      have kU := kD.alloc (.cells #[.int .i64 (j : Nat), .int .i64 (l0 : Nat), .int .i64 l1] tN)
      have k1 := known_grown kU g1 nl
      have k2 := known_grown k1 g2 nm
      have S1 := Lib.hid (And.intro c1 (And.intro d1 (And.intro (k1.cell 0) (And.intro (k1.cell 1) (k1.cell 2)))))
      have S2 := Lib.hid (And.intro c2 (And.intro d2 (And.intro (k2.cell 0) (And.intro (k2.cell 1) (k2.cell 2)))))
      have SD := Lib.hid (And.intro hD.st.b10 (And.intro hD.o1 (And.intro (kD.cell 0) (And.intro (kD.cell 1) (kD.cell 2)))))
      have SU := Lib.hid (And.intro hU.st.b10 (And.intro hU.o1 (And.intro (kU.cell 0) (And.intro (kU.cell 1) (kU.cell 2)))))
      have R1 := Lib.hid r1
      clear hK hB wb hMr hD hU r1 T1 g1 f1 hk2 hm nb p2 g2 c1 c2 d1 d2 hls HL h7 hc ET hL nl nm kD kU k1 k2
      go_upto_region 42 with fail
      go_region_held3 (fun u => u.cell? ⟨W.heap.size + 2, 0, none⟩ = some (.map (some (W.heap.size + 1))) ∧ u.cell? ⟨P, 1, none⟩ = some (.int .i64 (b : Int)) ∧ u.cell? ⟨w.heap.size, 0, none⟩ = some (.int .i64 (j : Nat)) ∧ u.cell? ⟨w.heap.size, 1, none⟩ = some (.int .i64 (l0 : Nat)) ∧ u.cell? ⟨w.heap.size, 2, none⟩ = some (.int .i64 l1))
        (first | exact SD.out | exact SU.out | exact S1.out | exact S2.out | go_keep)
        (refine step_append_run rfl _ _ (by rfl) (by rfl) (by rfl) R1.out ?_)
      all_goals
        go_wp2
        refine HK.out _ _ _ _ _ _ _ _ _ _ _ _ _ _ _ _ _ _ _ _ _ _ _ _ _ _  _ _ M2.out
end Go.Proofs.Ytpoielmbdofjlaa.Syn
