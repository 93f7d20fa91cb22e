/-
  The document's own answer, NPlay, walked.
-/
import Derived.Test.YtpoielmbdofjlaaSyPcH
import Derived.Test.YtpoielmbdofjlaaSyPcI
import Derived.Deep.CutBlock
import Derived.Deep.DeepCutAuto
import Derived.Deep.Cut
import Derived.Deep.CutRange
import Derived.BigQuiet
namespace Go.Proofs.Ytpoielmbdofjlaa.Syn
set_option linter.unusedVariables false
set_option linter.unusedSimpArgs false
open Go.RowKit Mem Gt
open Jump (Gave equalZ_c)

theorem run_snoc (n : Nat) (l : List VO) (o : VO) (s : S) : run n s (l ++ [o]) = ((step n (run n s l).1 o).1, (run n s l).2 ++ [(step n (run n s l).1 o).2]) := by rw [run_app]; rfl
set_option maxRecDepth 100000 in
set_option maxHeartbeats 16000000 in
theorem nplay_ok (n : Nat) (A : Option Addr) (l : List VO) (no ca : Nat) (V : World) (h1 : 1 ≤ n) (h2 : n ≤ 16) (hno : l.length = no) (h4 : no ≤ 400) (hx : Reads V A (flat voE l)) (hf : FitOs l) (cs : List Int) (nc : Nat) (hcs : chosen n (run n S0 l).1 = cs) (hnc : cs.length = nc) :
    Calls Try.prog 9 #[.int .i64 n, .slice A no ca] V (PlayOut (run n S0 l).2 no cs nc 0 V) := by
  have HX := Lib.hid hx
  have HN := Lib.hid hno
  have HF := Lib.hid hf
  have HC := Lib.hid hcs
  have HNC := Lib.hid hnc
  have ST0 := Lib.hid (st_start n V)
  have hmm := @run_makeMap Try.prog
  have mz := fun w => makeZ n (by omega) w
  have mk := fun fn first cap w => (show (Instr.makeFunc fn first cap).run Try.prog w = .ok (.func fn first cap) w from rfl)
  have i1 : ¬ (n : Int) < 1 := by omega
  have i2 : ¬ (16 : Int) < (n : Int) := by omega
  have i3 : ¬ (400 : Int) < (no : Int) := by omega
  have ST1 := Lib.hid (show Rnd V n 0 0 S0 [] none 0 none 0 (fun _ => nilV) (mkW n V) from ⟨st_start n V, rfl, rfl, by omega, fun b => by simp [S0]⟩)
  have MW := Lib.hid (show mkW n V = _ from rfl)
  clear hx hno hf hcs hnc
  go_enter Try.func9, Try.ntmps9
  go_upto_region 9 with fail
  go_cut [7, 8, 9, 10, 11, 12, 13, 14, 46, 47, 48] (fun v7 v8 v9 v10 v11 v12 v13 v14 v46 v47 v48 wx => v7 = .slice none 0 0 ∧ v8 = .slice (some ⟨V.heap.size, 0, none⟩) n n ∧ v9 = .slice none 0 0 ∧ v10 = .pointer (some ⟨V.heap.size + 2, 0, none⟩) ∧ v11 = .pointer (some ⟨V.heap.size + 6, 0, none⟩) ∧ v12 = .map (some (V.heap.size + 4)) ∧ v13 = .map (some (V.heap.size + 5)) ∧
    v14 = .func (.func 19) #[] #[.pointer (some ⟨V.heap.size + 6, 0, none⟩), .pointer (some ⟨V.heap.size + 2, 0, none⟩)] ∧ v46 = .slice A no ca ∧ v47 = .int .i64 no ∧ v48 = .int .i64 0 ∧ Rnd V n 0 0 S0 [] none 0 none 0 (fun _ => nilV) wx)
  case first =>
    go_wp2_with fail
    go_meet
    exact ⟨rfl, rfl, rfl, rfl, rfl, rfl, rfl, rfl, rfl, rfl, rfl, ST1.out⟩
  case rest =>
    obtain ⟨rfl, rfl, rfl, rfl, rfl, rfl, rfl, rfl, rfl, rfl, rfl, hR0⟩ := hcut
    have R0 := Lib.hid hR0
    clear hR0 ST0 ST1 MW mz hmm mk i1 i2 i3
    go_wp2
    go_loopw [7, 9, 48] (fun v7 v9 i wr => ∃ (k q : Nat) (A7 A9 : Option Addr) (c7 c9 : Nat) (pv : Nat → Value), k ≤ no ∧ i = .int .i64 k ∧ v7 = .slice A7 k c7 ∧ v9 = .slice A9 q c9 ∧ Rnd V n k q (run n S0 (l.take k)).1 (run n S0 (l.take k)).2 A9 c9 A7 c7 pv wr) (fun _ _ i _ => no - (intOf i).toNat)
    case atStart => exact ⟨0, 0, none, none, 0, 0, _, by omega, rfl, rfl, rfl, R0.out⟩
    case round =>
      obtain ⟨k, q, A7, A9, c7, c9, pv, hk, rfl, rfl, rfl, hR⟩ := hrel
      clear R0
      by_cases hlt : k < no
      · have kl : k < l.length := by rw [HN.out]; exact hlt
        obtain ⟨⟨oa, ob, oc, od⟩, hx⟩ : ∃ x, l[k]? = some x := ⟨_, List.getElem?_eq_getElem kl⟩
        obtain ⟨fa, fb, fc, fd⟩ := HF.out _ (List.mem_of_getElem? hx)
        obtain ⟨b1, o1, rfl, hb1, y0, y1, y2, y3⟩ := vo_at (HX.out.below hR.st.below) hx
        have i1 : (k : Int) < (no : Int) := by omega
        have RR := Lib.hid hR
        simp only at y0 y1 y2 y3 fa fb fc fd
        clear kl hR hb1
        have ER := Lib.hid (show run n S0 (l.take (k + 1)) = ((step n (run n S0 (l.take k)).1 (oa, ob, oc, od)).1, (run n S0 (l.take k)).2 ++ [(step n (run n S0 (l.take k)).1 (oa, ob, oc, od)).2]) by
          rw [List.take_add_one, hx]
          exact run_snoc n (l.take k) (oa, ob, oc, od) S0)
        obtain ⟨st, hst⟩ : ∃ st, st = run n S0 (l.take k) := ⟨_, rfl⟩
        rw [← hst] at RR ER
        clear hst hx fa fb fd
        go_upto_if 49 with fail
        first | go_frame | skip
        go_cut [48] from 49 to 49 (fun v wx => v = .int .i64 (k : Nat) ∧ wx = wr)
        case first =>
          go_wp2
          go_meet
          exact ⟨rfl, rfl⟩
        case rest =>
        obtain ⟨rfl, rfl⟩ := hcut
        refine link (by assumption) ?_
        refine wp_seq_k ?_
        intro K1 hK1
        refine round_c V n k q no ca oa ob oc od st.1 st.2 A9 A7 c9 c7 pv _ b1 o1 h2 hlt h4 fc RR.out y0 y1 y2 y3 _ _ _ _ _ _ _ _ _ _ _ _ _ _ _ _ _ _ _ _ _ _ _ _ _ _ _ _ _ _ _ _ _ _ _ _ _ _ _ _ _ _ _ _ _ _ _ _ _ _ _ _ _ _ _ _ _ _ _ _ _ _ _ _ _ _ _ _ _ _ _ _ _ _ _ _ _ _ _ _ _ _ _ _ _ _ _ _ _ _ _ _ _ _ _ _ _ _ _ _ _ _ _ _ _ _ _ _ _ _ _ _ _ _ _ _ _ _ _ _ _ _ _ _ _ _ _ _ _ _ _ _ _ _ _ _ _ _ _ _ _ _ _ _ _ _ _ _ _ _ _ _ _ _ _ _ _ _ _ _ _ _ _ _ _ _ _ _ _ _ _ _ _ _ _ _ _ _ _ _ _ _ _ _ _ _ _ _ _ _ _ _ _ _ _ _ _ _ _ _ _ _ _ _ _ _ _ _ _ _ _ _ _ _ _ _ _ _ _ _ _ _ _ _ _ _ _ _ _ _ _ _ _ _ _ _ _ _ _ _ _ _ _ _ _ _ _ _ _ _ _ _ ?_
        intro v16 v17 v18 v19 v20 v22 v50 v51 v52 v53 v54 v55 v56 v57 v58 v59 v60 v61 v62 v63 v64 v65 v66 v67 v68 v69 v70 v71 v72 v73 v74 v75 v76 v77 v78 v79 v80 v81 v82 v83 v84 v85 v86 v87 v88 v89 v90 v91 v92 v93 v94 v95 v96 v97 v98 v99 v100 v101 v102 v103 v104 v105 v106 v107 v108 v109 v110 v111 v112 v113 v114 v115 v116 v117 v118 v119 v120 v121 v122 v123 v124 v125 v126 v127 v128 v129 v130 v131 v132 v133 v134 v135 v136 v137 v138 v139 v140 v141 v142 v143 v144 v145 v146 v147 v148 v149 v150 v151 v152 v153 v154 v155 v156 v157 v158 v159 v160 v161 v162 v163 v164 v165 v166 v167 v168 v169 v170 v171 v172 v173 v174 v175 v176 v177 v178 v179 v180 v181 v182 v183 v184 v185 v186 v187 v188 v189 v190 v191 v192 v193 v194 v195 v196 v197 v198 v199 v200 v201 v202 v203 v204 v205 v206 v207 v208 v209 v210 v211 v212 v213 v214 v215 v216 v217 v218 v219 v220 v221 v222 v223 v224 v225 v226 v227 v228 A8 c8 A1 q1 e1 pv1 w1 hR1
        refine hK1 _ _ ?_
        clear hK1 y0 y1 y2 y3 RR
        have R1 := Lib.hid hR1
        clear hR1
        go_wp2
        go_roundw
        case rel => exact ⟨k + 1, q1, A8, A1, c8, e1, pv1, by omega, by go_num, rfl, rfl, by rw [ER.out]; exact R1.out⟩
        case measure => simp [intOf]; omega
      · obtain rfl : k = no := by omega
        have TKL := Lib.hid (show l.take k = l from List.take_of_length_le (by rw [HN.out]; exact Nat.le_refl _))
        rw [TKL.out] at hR
        have RR := Lib.hid hR
        have II := Lib.hid (run_inv n l)
        clear hR
        go_upto_region 47 with fail
        first | go_frame | skip
        go_cut [23] from 49 to 49 (fun v wx => v = .slice none 0 0 ∧ wx = wr)
        case first =>
          go_wp2
          go_meet
          exact ⟨rfl, rfl⟩
        case rest =>
        obtain ⟨rfl, rfl⟩ := hcut
        refine link (by assumption) ?_
        refine tail_c V n q k (run n S0 l).1 (run n S0 l).2 A9 A7 c9 c7 pv _ h2 II.out RR.out.aq (by have := RR.out.bd; omega) (fun b => Nat.le_trans (RR.out.pb b) (by omega)) RR.out.st _ _ _ _ _ _ _ _ _ _ _ _ _ _ _ _ _ _ _ _ _ _ _ _ _ _ _ _ _ _ _ _ _ _ _ _ _ _ _ _ _ _ _ _ _ _ _ _ _ _ _ _ _ _ _ _ _ _ _ _ _ _ _ _ _ _ _ _ _ _ _ _ _ _ _ _ _ _ _ _ _ _ _ _ _ _ _ _ _ _ _ _ _ _ _ _ _ _ _ _ _ _ _ _ _ _ _ _ _ _ _ _ _ _ _ _ _ _ _ _ _ _ _ _ _ _ _ _ _ _ _ _ _ _ _ _ _ _ _ _ _ _ _ _ _ _ _ _ _ _ _ _ _ _ _ _ _ _ _ _ _ _ _ _ _ _ _ _ _ _ _ _ _ _ _ _ _ _ _ _ _ _ _ _ _ _ _ _ _ _ _ _ _ _ _ _ _ _ _ _ _ _ _ _ _ _ _ _ _ _ _ _ _ _ _ _ _ _ _ _ _ _ _ _ _ _ _ _ _ _ _ _ _ _ _ _ _ _ _ _ _ _ _ _ _ _ _ _ _ _ _ _ _ ?_
        intro v24 v25 v27 v230 v231 v232 v233 v234 v235 v236 v237 v238 v239 v240 v241 v242 v243 v244 v245 v246 v247 v248 v249 v250 v251 v252 v253 v254 v255 v256 v257 v258 v259 v260 v261 C m d w1 hm hr hb
        rw [HC.out] at hm hr
        have hmn : nc = m := by rw [← HNC.out]; exact hm
        subst hmn
        have hT := RR.out.st.out.later hb
        obtain ⟨A', c', e, hc', _⟩ := RR.out.st.out.form
        injection e with e1 e2 e3
        subst e3
        rw [← e2] at hc'
        have hrd := hT.reads
        have hbl := RR.out.st.below.trans (hb.mono RR.out.st.below.size)
        go_ret3
        exact ⟨_, _, _, _, rfl, hc', hrd, hr, hbl⟩
end Go.Proofs.Ytpoielmbdofjlaa.Syn
