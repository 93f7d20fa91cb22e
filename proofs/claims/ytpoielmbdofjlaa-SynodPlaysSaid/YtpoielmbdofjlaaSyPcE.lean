import Derived.Test.YtpoielmbdofjlaaSyMid
import Derived.BigQuiet
import Derived.Test.YtpoielmbdofjlaaSyPcD
import Derived.Test.YtpoielmbdofjlaaSyPcC
import Derived.Deep.Cut
import Derived.Deep.CutRange
import Derived.Laws.BitsLemmas
namespace Go.Proofs.Ytpoielmbdofjlaa.Syn
set_option linter.unusedVariables false
set_option linter.unusedSimpArgs false
open Go.RowKit Mem Gt
open Jump (Gave equalZ_c)
set_option maxRecDepth 1000000 in
set_option maxHeartbeats 16000000 in
theorem voters_p (W : World) (n P : Nat) (b oc : Nat) (od : Int) (s : S) (A9 : Option Addr) (q c9 m : Nat) (vo : Value) (outs : List An) (pv : Nat → Value) (w : World) (h1 : 1 ≤ b) (h4 : b ≤ 400) (h2 : n ≤ 16) (ho : oc < 65536) (hq : s.acc.length = q) (hq2 : q ≤ 1000000) (hl : ∀ c, (s.pr c).length ≤ m) (hm : m ≤ 900000) (hM : Mid W n P (1, b, oc, od) (0, 0, 0) s (.slice A9 q c9) vo outs pv w) (Q : Exit → Act → World → Prop)
    (c1 c2 c3 c4 c5 c6 c7 c15 c18 c19 c20 c21 c22 c23 c24 c25 c26 c27 c28 c29 c30 c31 c32 c33 c34 c35 c36 c37 c38 c39 c40 c41 c42 c43 c44 c45 c46 c47 c48 c49 c50 c51 c52 c53 c54 c55 c56 c57 c58 c59 c60 c61 c62 c63 c64 c65 c66 c67 c68 c69 c70 c71 c72 c73 c74 c75 c76 c77 c78 c79 c80 c81 c82 c83 c84 c85 c86 c87 c88 c89 c90 c91 c92 c93 c94 c95 c96 c97 c98 c99 c100 c101 c102 c103 c104 c105 c106 c107 c108 c109 c110 c111 c112 c113 c114 c115 c116 c117 c118 c119 c120 c121 c122 c123 c124 c125 c126 c127 c128 c129 c130 c131 c132 c133 c134 c135 c136 c137 c138 c139 c140 c141 c142 c143 c144 c145 c146 c147 c148 c149 c150 c151 c152 c153 c154 c155 c156 c157 c158 c159 c160 c161 c162 c163 c164 c165 c166 c167 c168 c169 c170 c171 c172 c173 c174 c175 c176 c177 c178 c179 c180 c181 c182 c183 c184 c185 c186 c187 c188 c189 c190 c191 c192 c193 c194 c195 c196 c197 c198 c199 c200 c201 c202 c203 c204 c205 c206 c207 c208 c209 c210 c211 c212 c213 c214 c215 c216 c217 c218 c219 c220 c221 c222 c223 c224 c225 c226 c227 c228 c229 c230 c231 c232 c233 c234 c235 c236 c237 c238 c239 c240 c241 c242 c243 c244 c245 c246 c247 c248 c249 c250 c251 c252 c253 c254 c255 c256 c257 c258 c259 c260 c261 : Value)
    (hK : ∀ (v19 v20 v22 v140 v141 v142 v143 v144 v145 v146 v147 v148 v149 v150 v151 v152 v153 v154 v155 v156 v157 v158 v159 v160 v161 v162 v163 v164 v165 v166 v167 v168 v169 v170 v171 v172 v173 v174 v175 v176 v177 v178 v179 v180 v181 v182 v183 v184 v185 v186 v187 v188 v189 v190 v191 v192 v193 v194 v195 v196 v197 v198 v199 v200 v201 v202 v203 v204 v205 v206 v207 v208 v209 v210 v211 v212 v213 v214 v215 v216 v217 v218 v219 : Value) (pv1 : Nat → Value) (x1 : S × Nat) (w1 : World), x1 = (List.range n).foldl (prep1 b oc) (s, 0) → x1.1.acc.length = q → (∀ c, (x1.1.pr c).length ≤ m + n) → x1.2 < 65536 → Mid W n P (1, b, oc, od) (0, x1.2, 0) x1.1 (.slice A9 q c9) vo outs pv1 w1 → Q .normal ⟨#[.int .i64 (n : Nat), c1, c2, c3, c4, c5, c6, c7, .slice (some ⟨W.heap.size, 0, none⟩) n n, .slice A9 q c9, .pointer (some ⟨W.heap.size + 2, 0, none⟩), .pointer (some ⟨W.heap.size + 6, 0, none⟩), .map (some (W.heap.size + 4)), .map (some (W.heap.size + 5)), .func (.func 19) #[] #[.pointer (some ⟨W.heap.size + 6, 0, none⟩), .pointer (some ⟨W.heap.size + 2, 0, none⟩)], c15, .pointer (some ⟨P, 0, none⟩), .pointer (some ⟨P + 1, 0, none⟩), c18, v19, v20, c21, v22, c23, c24, c25, c26, c27, c28, c29, c30, c31, c32, c33, c34, c35, c36, c37, c38, c39, c40, c41, c42, c43, c44, c45, c46, c47, c48, c49, c50, c51, c52, c53, c54, c55, c56, c57, c58, c59, c60, c61, c62, c63, c64, c65, c66, c67, c68, c69, c70, c71, c72, c73, c74, c75, c76, c77, c78, c79, c80, c81, c82, c83, c84, c85, c86, c87, c88, c89, c90, c91, c92, c93, c94, c95, c96, c97, c98, c99, c100, c101, c102, c103, c104, c105, c106, c107, c108, c109, c110, c111, c112, c113, c114, c115, c116, c117, c118, c119, c120, c121, c122, c123, c124, c125, c126, c127, c128, c129, c130, c131, c132, c133, c134, c135, c136, c137, c138, c139, v140, v141, v142, v143, v144, v145, v146, v147, v148, v149, v150, v151, v152, v153, v154, v155, v156, v157, v158, v159, v160, v161, v162, v163, v164, v165, v166, v167, v168, v169, v170, v171, v172, v173, v174, v175, v176, v177, v178, v179, v180, v181, v182, v183, v184, v185, v186, v187, v188, v189, v190, v191, v192, v193, v194, v195, v196, v197, v198, v199, v200, v201, v202, v203, v204, v205, v206, v207, v208, v209, v210, v211, v212, v213, v214, v215, v216, v217, v218, v219, c220, c221, c222, c223, c224, c225, c226, c227, c228, c229, c230, c231, c232, c233, c234, c235, c236, c237, c238, c239, c240, c241, c242, c243, c244, c245, c246, c247, c248, c249, c250, c251, c252, c253, c254, c255, c256, c257, c258, c259, c260, c261], []⟩ w1) :
    Code.wp Try.prog pc27 (Q) ⟨#[.int .i64 (n : Nat), c1, c2, c3, c4, c5, c6, c7, .slice (some ⟨W.heap.size, 0, none⟩) n n, .slice A9 q c9, .pointer (some ⟨W.heap.size + 2, 0, none⟩), .pointer (some ⟨W.heap.size + 6, 0, none⟩), .map (some (W.heap.size + 4)), .map (some (W.heap.size + 5)), .func (.func 19) #[] #[.pointer (some ⟨W.heap.size + 6, 0, none⟩), .pointer (some ⟨W.heap.size + 2, 0, none⟩)], c15, .pointer (some ⟨P, 0, none⟩), .pointer (some ⟨P + 1, 0, none⟩), c18, c19, c20, c21, c22, c23, c24, c25, c26, c27, c28, c29, c30, c31, c32, c33, c34, c35, c36, c37, c38, c39, c40, c41, c42, c43, c44, c45, c46, c47, c48, c49, c50, c51, c52, c53, c54, c55, c56, c57, c58, c59, c60, c61, c62, c63, c64, c65, c66, c67, c68, c69, c70, c71, c72, c73, c74, c75, c76, c77, c78, c79, c80, c81, c82, c83, c84, c85, c86, c87, c88, c89, c90, c91, c92, c93, c94, c95, c96, c97, c98, c99, c100, c101, c102, c103, c104, c105, c106, c107, c108, c109, c110, c111, c112, c113, c114, c115, c116, c117, c118, c119, c120, c121, c122, c123, c124, c125, c126, c127, c128, c129, c130, c131, c132, c133, c134, c135, c136, c137, c138, c139, c140, c141, c142, c143, c144, c145, c146, c147, c148, c149, c150, c151, c152, c153, c154, c155, c156, c157, c158, c159, c160, c161, c162, c163, c164, c165, c166, c167, c168, c169, c170, c171, c172, c173, c174, c175, c176, c177, c178, c179, c180, c181, c182, c183, c184, c185, c186, c187, c188, c189, c190, c191, c192, c193, c194, c195, c196, c197, c198, c199, c200, c201, c202, c203, c204, c205, c206, c207, c208, c209, c210, c211, c212, c213, c214, c215, c216, c217, c218, c219, c220, c221, c222, c223, c224, c225, c226, c227, c228, c229, c230, c231, c232, c233, c234, c235, c236, c237, c238, c239, c240, c241, c242, c243, c244, c245, c246, c247, c248, c249, c250, c251, c252, c253, c254, c255, c256, c257, c258, c259, c260, c261], []⟩ w := by
  have HK := Lib.hid hK
  clear hK
  have MM := Lib.hid hM
  have HQ := Lib.hid hq
  have HL := Lib.hid hl
  clear hM hq hl
  conv => arg 2; whnf
  go_wp2
  go_loopw [9, 141] (fun v9 i wr => ∃ (k : Nat) (pv1 : Nat → Value) (x1 : S × Nat), k ≤ n ∧ i = .int .i64 k ∧ v9 = .slice A9 q c9 ∧ x1 = (List.range k).foldl (prep1 b oc) (s, 0) ∧ x1.1.acc.length = q ∧ (∀ c, (x1.1.pr c).length ≤ m + k) ∧ x1.2 < 65536 ∧ Mid W n P (1, b, oc, od) (0, x1.2, 0) x1.1 (.slice A9 q c9) vo outs pv1 wr) (fun _ i _ => n - (intOf i).toNat)
  case atStart => exact ⟨0, pv, (s, 0), by omega, rfl, rfl, rfl, HQ.out, HL.out, (by show (0 : Nat) < 65536; decide), MM.out⟩
  case round =>
    obtain ⟨k, pv1, ⟨t, did⟩, hk, rfl, rfl, hx1, hq1, hpl, hdid, hM⟩ := hrel
    clear MM
    have FS := Lib.hid (fold_succ (prep1 b oc) (s, 0) k)
    rw [← hx1] at FS
    have HX1 := Lib.hid hx1
    have HQ1 := Lib.hid hq1
    have PL := Lib.hid hpl
    simp only at hdid hM
    have MM := Lib.hid hM
    clear hx1 hq1 hpl
    by_cases hlt : k < n
    · have i1 : (k : Int) < (n : Int) := by omega
      obtain ⟨p, hp⟩ : ∃ p, p = 2 ^ k := ⟨_, rfl⟩
      have p1 : p < 65536 := by rw [hp]; exact Nat.pow_lt_pow_right (a := 2) (m := k) (n := 16) (by decide) (by omega)
      have w1 : IntKind.u16.wrap (2 ^ k) = (p : Int) := by rw [show (2 : Int) ^ k = (p : Int) by rw [hp]; simp]; exact wrap_u16 _ (by omega) (by omega)
      obtain ⟨x, hx⟩ : ∃ x, x = oc &&& p := ⟨_, rfl⟩
      have a1 : Go.bits .and .u16 (oc : Int) (p : Int) = (x : Int) := by rw [hx]; exact and16 ho p1
      have BX : x = 0 ↔ oc.testBit k = false := by rw [hx, hp]; exact bit_and oc k
      obtain ⟨y0, y1⟩ := hM.st.prom k hlt
      have y2 := hM.o2
      have y3 := hM.o1
      have y4 := hM.o0
      obtain ⟨pk, hpk⟩ : ∃ pk, t.prom k = pk := ⟨_, rfl⟩
      rw [hpk] at y0
      simp only at y2 y3 y4
      have P1 := Lib.hid p1
      have HP := Lib.hid hp
      clear hp hx p1 hM
      cases hb : oc.testBit k with
      | false =>
        have x0 : ((x : Int) == 0) = true := by have := BX.2 hb; simp [this]
        have E := Lib.hid (show prep1 b oc (t, did) k = (t, did) by unfold prep1; rw [if_neg (by simp [hb])])
        clear BX hb hpk
        go_upto_region 30 with fail
        go_quiet (fail)
        go_wp2
        go_roundw
        case rel => exact ⟨k + 1, pv1, (t, did), by omega, by go_num, rfl, by rw [FS.out]; exact E.out.symm, HQ1.out, fun c => Nat.le_trans (PL.out c) (by omega), hdid, MM.out.drewN _⟩
        case measure => simp [intOf]; omega
      | true =>
        have x0 : ((x : Int) == 0) = false := by
          have : x ≠ 0 := fun e => by have := BX.1 e; rw [hb] at this; cases this
          simp [this]
        by_cases hgt : b < pk
        · have E := Lib.hid (show prep1 b oc (t, did) k = (t, did) by unfold prep1; rw [if_neg (by rintro ⟨_, h⟩; have h : t.prom k < b := h; omega)])
          have i2 : (b : Int) < (pk : Int) := by omega
          clear BX hb hpk
          go_upto_region 30 with fail
          go_quiet (fail)
          go_wp2
          go_roundw
          case rel => exact ⟨k + 1, pv1, (t, did), by omega, by go_num, rfl, by rw [FS.out]; exact E.out.symm, HQ1.out, fun c => Nat.le_trans (PL.out c) (by omega), hdid, MM.out.drewN _⟩
          case measure => simp [intOf]; omega
        · have i2 : ¬ (b : Int) < (pk : Int) := by omega
          by_cases heq : pk = b
          · have E := Lib.hid (show prep1 b oc (t, did) k = (t, did) by unfold prep1; rw [if_neg (by rintro ⟨_, h⟩; have h : t.prom k < b := h; omega)])
            have i3 : ((pk : Int) == (b : Int)) = true := by simp [heq]
            clear BX hb hpk heq
            go_upto_region 30 with fail
            go_quiet (fail)
            go_wp2
            go_roundw
            case rel => exact ⟨k + 1, pv1, (t, did), by omega, by go_num, rfl, by rw [FS.out]; exact E.out.symm, HQ1.out, fun c => Nat.le_trans (PL.out c) (by omega), hdid, MM.out.drewN _⟩
            case measure => simp [intOf]; omega
          · have E := Lib.hid (show prep1 b oc (t, did) k = ({ { t with prom := upd t.prom k b } with pr := upd t.pr b (t.pr b ++ [(k, lastOf t.acc k)]) }, did ||| 2 ^ k) by unfold prep1; rw [if_pos ⟨hb, by show t.prom k < b; omega⟩])
            have i3 : ((pk : Int) == (b : Int)) = false := by simp; omega
            clear BX hb hpk heq
            go_upto_region 30 with fail
            go_quiet (fail)
            have M1 := Lib.hid (show Mid W n P (1, b, oc, od) (0, did, 0) { t with prom := upd t.prom k b } (.slice A9 q c9) vo outs pv1 ((wr.drewN nq).setCell ⟨W.heap.size, k, none⟩ (.int .i64 (b : Nat))) from (MM.out.drewN nq).low (grown_set _ _ _ _) (by omega) ((MM.out.drewN nq).st.prom1 hlt))
            go_upto_region 31 with fail
            go_cut [0] from 142 to 219 (fun v wx => v = .int .i64 (n : Nat) ∧ Mid W n P (1, b, oc, od) (0, did, 0) { t with prom := upd t.prom k b } (.slice A9 q c9) vo outs pv1 wx)
            case first =>
              go_wp2
              go_meet
              exact ⟨rfl, M1.out⟩
            case rest =>
              obtain ⟨rfl, hM2⟩ := hcut
              have z1 := hM2.a1
              have fz := hM2.fz 1
              have M2 := Lib.hid (hM2.later (Mem.below_drew (Below.refl _ _)))
              have DP := Lib.hid (show did ||| p < 65536 from Nat.or_lt_two_pow (n := 16) hdid P1.out)
              have o1 : Go.bits .or .u16 (did : Int) (p : Int) = ((did ||| p : Nat) : Int) := or16 hdid P1.out
              clear hM2 y0 y1 y2 y3 y4 x0 a1 i2 i3 M1 MM
              obtain ⟨w2, rfl⟩ : ∃ w2 : World, w2 = wc := ⟨_, rfl⟩
              go_upto_region 32 with fail
              go_cut [0] from 142 to 219 (fun v wx => v = .int .i64 (n : Nat) ∧ Mid W n P (1, b, oc, od) (0, did ||| p, 0) { t with prom := upd t.prom k b } (.slice A9 q c9) vo outs pv1 wx)
              case first =>
                go_region
                all_goals
                  go_wp2
                  go_meet
                  exact ⟨rfl, M2.out.put 1 _ (0, did ||| p, 0) rfl⟩
              case rest =>
                obtain ⟨rfl, hM3⟩ := hcut
                have y4 := hM3.o0
                simp only at y4
                have M3 := Lib.hid hM3
                clear hM3 z1 fz o1 M2
                obtain ⟨w3, rfl⟩ : ∃ w3 : World, w3 = wc := ⟨_, rfl⟩
                go_upto_if 186 with fail
                go_cut [9] from 142 to 219 (fun v wx => v = .slice A9 q c9 ∧ wx = w3)
                case first =>
                  go_wp2
                  go_meet
                  exact ⟨rfl, rfl⟩
                case rest =>
                  obtain ⟨rfl, rfl⟩ := hcut
                  refine link (by assumption) ?_
                  refine promise_c W n P 1 b oc od (0, did ||| p, 0) { t with prom := upd t.prom k b } A9 q c9 k vo outs pv1 _ h1 h4 HQ1.out hq2 (Nat.le_trans (PL.out b) (by omega)) M3.out _ _ _ _ _ _ _ _ _ _ _ _ _ _ _ _ _ _ _ _ _ _ _ _ _ _ _ _ _ _ _ _ _ _ _ _ _ _ _ _ _ _ _ _ _ _ _ _ _ _ _ _ _ _ _ _ _ _ _ _ _ _ _ _ _ _ _ _ _ _ _ _ _ _ _ _ _ _ _ _ _ _ _ _ _ _ _ _ _ _ _ _ _ _ _ _ _ _ _ _ _ _ _ _ _ _ _ _ _ _ _ _ _ _ _ _ _ _ _ _ _ _ _ _ _ _ _ _ _ _ _ _ _ _ _ _ _ _ _ _ _ _ _ _ _ _ _ _ _ _ _ _ _ _ _ _ _ _ _ _ _ _ _ _ _ _ _ _ _ _ _ _ _ _ _ _ _ _ _ _ _ _ _ _ _ _ _ _ _ _ _ _ _ _ _ _ _ _ _ _ _ _ _ _ _ _ _ _ _ _ _ _ _ _ _ _ _ _ _ _ _ _ _ _ _ _ _ _ _ _ _ _ _ _ _ _ _ _ _ _ _ _ _ _ _ _ _ _ _ _ _ _ ?_
                  intro _ _ _ _ _ _ _ _ _ _ _ _ _ _ _ _ _ _ _ _ _ _ _ _ _ _ pv2 w4 hM4
                  have M4 := Lib.hid hM4
                  clear hM4
                  go_wp2
                  go_roundw
                  case rel =>
                    refine ⟨k + 1, pv2, ({ { t with prom := upd t.prom k b } with pr := upd t.pr b (t.pr b ++ [(k, lastOf t.acc k)]) }, did ||| p), by omega, by go_num, rfl, by rw [FS.out, E.out, HP.out], HQ1.out, fun c => ?_, DP.out, M4.out⟩
                    have := PL.out c
                    simp only at this ⊢
                    by_cases e : c = b
                    · subst e; rw [upd_same]; simp; omega
                    · rw [upd_other _ _ e]; omega
                  case measure => simp [intOf]; omega
    · obtain rfl : k = n := by omega
      clear hM
      go_wp2
      refine HK.out _ _ _ _ _ _ _ _ _ _ _ _ _ _ _ _ _ _ _ _ _ _ _ _ _ _ _ _ _ _ _ _ _ _ _ _ _ _ _ _ _ _ _ _ _ _ _ _ _ _ _ _ _ _ _ _ _ _ _ _ _ _ _ _ _ _ _ _ _ _ _ _ _ _ _ _ _ _ _ _ _ _ _  pv1 (t, did) _ HX1.out HQ1.out PL.out hdid MM.out
end Go.Proofs.Ytpoielmbdofjlaa.Syn
