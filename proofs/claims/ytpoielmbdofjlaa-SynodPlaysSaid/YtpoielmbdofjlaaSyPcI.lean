import Derived.Test.YtpoielmbdofjlaaSyMid
import Derived.BigQuiet
import Derived.Test.YtpoielmbdofjlaaSyPcF
import Derived.Deep.Cut
import Derived.Deep.CutRange
namespace Go.Proofs.Ytpoielmbdofjlaa.Syn
set_option linter.unusedVariables false
set_option linter.unusedSimpArgs false
open Go.RowKit Mem Gt
open Jump (Gave equalZ_c)
noncomputable def pcT48 : Code := ((Try.f9.body.bind (tailAt 48)).getD .skip)
def chS (n : Nat) (s : S) (j : Nat) : List Int := ((List.range j).filter (fun b => most n s (b + 1))).map (fun b => val s (b + 1))
theorem chS_all (n : Nat) (s : S) : chS n s 400 = chosen n s := rfl
theorem chS_step {n : Nat} {s : S} {j b : Nat} (h : j + 1 = b) : chS n s b = chS n s j ++ (if most n s b = true then [val s b] else []) := by
  subst h
  unfold chS
  have e : (([j] : List Nat).filter (fun b => most n s (b + 1))).map (fun b => val s (b + 1)) = (if most n s (j + 1) = true then [val s (j + 1)] else []) := by
    simp only [List.filter_cons, List.filter_nil]
    split <;> rfl
  rw [List.range_succ, List.filter_append, List.map_append, e]
theorem chS_len (n : Nat) (s : S) (j : Nat) : (chS n s j).length ≤ j := by
  unfold chS
  rw [List.length_map]
  have h := List.length_filter_le (fun b => most n s (b + 1)) (List.range j)
  rw [List.length_range] at h
  exact h
/-- The voters of the votes for ballot b, each once. -/
def WhoK (l : List Nv) (b : Nat) (ks : List Int) : Prop := ks.Nodup ∧ ∀ x : Int, x ∈ ks ↔ ∃ v ∈ l, v.2.1 = b ∧ x = (v.1 : Int)
theorem WhoK.nil (b : Nat) : WhoK [] b [] := ⟨List.nodup_nil, fun x => by simp⟩
theorem WhoK.skip {l : List Nv} {b : Nat} {ks : List Int} (h : WhoK l b ks) {v : Nv} (hv : v.2.1 ≠ b) : WhoK (l ++ [v]) b ks := ⟨h.1, fun x => by
  rw [h.2 x]
  constructor
  · rintro ⟨u, hu, h1, h2⟩; exact ⟨u, List.mem_append_left _ hu, h1, h2⟩
  · rintro ⟨u, hu, h1, h2⟩
    rcases List.mem_append.1 hu with hu | hu
    · exact ⟨u, hu, h1, h2⟩
    · simp at hu; subst hu; exact absurd h1 hv⟩
theorem WhoK.add {l : List Nv} {b : Nat} {ks : List Int} (h : WhoK l b ks) {v : Nv} (hv : v.2.1 = b) : WhoK (l ++ [v]) b (addK ks (v.1 : Int)) := by
  refine ⟨?_, fun x => ?_⟩
  · unfold addK
    split
    · exact h.1
    · rename_i hn
      exact List.nodup_append.2 ⟨h.1, by simp, fun a ha c hc e => by simp at hc; subst hc; exact hn (e ▸ ha)⟩
  · rw [mem_addK, h.2 x]
    constructor
    · rintro (rfl | ⟨u, hu, h1, h2⟩)
      · exact ⟨v, by simp, hv, rfl⟩
      · exact ⟨u, List.mem_append_left _ hu, h1, h2⟩
    · rintro ⟨u, hu, h1, h2⟩
      rcases List.mem_append.1 hu with hu | hu
      · exact .inr ⟨u, hu, h1, h2⟩
      · simp at hu; subst hu; exact .inl h2
theorem addK_len (ks : List Int) (x : Int) : (addK ks x).length ≤ ks.length + 1 := by
  unfold addK
  split
  · omega
  · simp
theorem WhoK.len {n : Nat} {s : S} {b : Nat} {ks : List Int} (h : WhoK s.acc b ks) (hI : Inv n s) : ks.length = (who n s b).length := by
  have hp : ks.Perm ((who n s b).map (fun k : Nat => (k : Int))) := by
    refine (List.perm_ext_iff_of_nodup h.1 (List.pairwise_map.2 ((who_dup n s b).imp (fun {a c} h e => h (by omega))))).2 fun x => ?_
    rw [h.2 x, List.mem_map]
    constructor
    · rintro ⟨⟨k, b', u⟩, hm, h1, h2⟩
      simp only at h1 h2
      subst h1
      exact ⟨k, mem_who.2 ⟨(hI.acc_ok k b' u hm).1, u, hm⟩, h2.symm⟩
    · rintro ⟨k, hk, rfl⟩
      obtain ⟨_, u, hu⟩ := mem_who.1 hk
      exact ⟨(k, b, u), hu, rfl, rfl⟩
  rw [hp.length_eq, List.length_map]
set_option maxRecDepth 1000000 in
set_option maxHeartbeats 16000000 in
theorem tail_c (W : World) (n q no : Nat) (s : S) (outs : List An) (A9 A7 : Option Addr) (c9 c7 : Nat) (pv : Nat → Value) (w : World) (h2 : n ≤ 16) (hI : Inv n s) (hq : s.acc.length = q) (hq2 : q ≤ 6400) (hpl : ∀ b, (s.pr b).length ≤ 6400) (hS : St W n s w (.slice A9 q c9) (.slice A7 no c7) outs pv) (Q : Exit → Act → World → Prop)
    (c1 c2 c3 c4 c5 c6 c15 c16 c17 c18 c19 c20 c21 c22 c24 c25 c26 c27 c28 c29 c30 c31 c32 c33 c34 c35 c36 c37 c38 c39 c40 c41 c42 c43 c44 c45 c46 c47 c48 c49 c50 c51 c52 c53 c54 c55 c56 c57 c58 c59 c60 c61 c62 c63 c64 c65 c66 c67 c68 c69 c70 c71 c72 c73 c74 c75 c76 c77 c78 c79 c80 c81 c82 c83 c84 c85 c86 c87 c88 c89 c90 c91 c92 c93 c94 c95 c96 c97 c98 c99 c100 c101 c102 c103 c104 c105 c106 c107 c108 c109 c110 c111 c112 c113 c114 c115 c116 c117 c118 c119 c120 c121 c122 c123 c124 c125 c126 c127 c128 c129 c130 c131 c132 c133 c134 c135 c136 c137 c138 c139 c140 c141 c142 c143 c144 c145 c146 c147 c148 c149 c150 c151 c152 c153 c154 c155 c156 c157 c158 c159 c160 c161 c162 c163 c164 c165 c166 c167 c168 c169 c170 c171 c172 c173 c174 c175 c176 c177 c178 c179 c180 c181 c182 c183 c184 c185 c186 c187 c188 c189 c190 c191 c192 c193 c194 c195 c196 c197 c198 c199 c200 c201 c202 c203 c204 c205 c206 c207 c208 c209 c210 c211 c212 c213 c214 c215 c216 c217 c218 c219 c220 c221 c222 c223 c224 c225 c226 c227 c228 c229 c230 c231 c232 c233 c234 c235 c236 c237 c238 c239 c240 c241 c242 c243 c244 c245 c246 c247 c248 c249 c250 c251 c252 c253 c254 c255 c256 c257 c258 c259 c260 c261 : Value)
    (hK : ∀ (v24 v25 v27 v230 v231 v232 v233 v234 v235 v236 v237 v238 v239 v240 v241 v242 v243 v244 v245 v246 v247 v248 v249 v250 v251 v252 v253 v254 v255 v256 v257 v258 v259 v260 v261 : Value) (C : Option Addr) (m d : Nat) (w1 : World), (chosen n s).length = m → Reads w1 C ((chosen n s).map (Value.int .i64)) → Below w.heap.size w w1 → Q .ret ⟨#[.int .i64 (n : Nat), c1, c2, c3, .slice A7 no c7, .slice C m d, .int .i64 0, .slice A7 no c7, .slice (some ⟨W.heap.size, 0, none⟩) n n, .slice A9 q c9, .pointer (some ⟨W.heap.size + 2, 0, none⟩), .pointer (some ⟨W.heap.size + 6, 0, none⟩), .map (some (W.heap.size + 4)), .map (some (W.heap.size + 5)), .func (.func 19) #[] #[.pointer (some ⟨W.heap.size + 6, 0, none⟩), .pointer (some ⟨W.heap.size + 2, 0, none⟩)], c15, c16, c17, c18, c19, c20, c21, c22, .slice C m d, v24, v25, c26, v27, c28, c29, c30, c31, c32, c33, c34, c35, c36, c37, c38, c39, c40, c41, c42, c43, c44, c45, c46, c47, c48, c49, c50, c51, c52, c53, c54, c55, c56, c57, c58, c59, c60, c61, c62, c63, c64, c65, c66, c67, c68, c69, c70, c71, c72, c73, c74, c75, c76, c77, c78, c79, c80, c81, c82, c83, c84, c85, c86, c87, c88, c89, c90, c91, c92, c93, c94, c95, c96, c97, c98, c99, c100, c101, c102, c103, c104, c105, c106, c107, c108, c109, c110, c111, c112, c113, c114, c115, c116, c117, c118, c119, c120, c121, c122, c123, c124, c125, c126, c127, c128, c129, c130, c131, c132, c133, c134, c135, c136, c137, c138, c139, c140, c141, c142, c143, c144, c145, c146, c147, c148, c149, c150, c151, c152, c153, c154, c155, c156, c157, c158, c159, c160, c161, c162, c163, c164, c165, c166, c167, c168, c169, c170, c171, c172, c173, c174, c175, c176, c177, c178, c179, c180, c181, c182, c183, c184, c185, c186, c187, c188, c189, c190, c191, c192, c193, c194, c195, c196, c197, c198, c199, c200, c201, c202, c203, c204, c205, c206, c207, c208, c209, c210, c211, c212, c213, c214, c215, c216, c217, c218, c219, c220, c221, c222, c223, c224, c225, c226, c227, c228, c229, v230, v231, v232, v233, v234, v235, v236, v237, v238, v239, v240, v241, v242, v243, v244, v245, v246, v247, v248, v249, v250, v251, v252, v253, v254, v255, v256, v257, v258, v259, v260, v261], []⟩ w1) :
    Code.wp Try.prog pcT48 Q ⟨#[.int .i64 (n : Nat), c1, c2, c3, c4, c5, c6, .slice A7 no c7, .slice (some ⟨W.heap.size, 0, none⟩) n n, .slice A9 q c9, .pointer (some ⟨W.heap.size + 2, 0, none⟩), .pointer (some ⟨W.heap.size + 6, 0, none⟩), .map (some (W.heap.size + 4)), .map (some (W.heap.size + 5)), .func (.func 19) #[] #[.pointer (some ⟨W.heap.size + 6, 0, none⟩), .pointer (some ⟨W.heap.size + 2, 0, none⟩)], c15, c16, c17, c18, c19, c20, c21, c22, .slice none 0 0, c24, c25, c26, c27, c28, c29, c30, c31, c32, c33, c34, c35, c36, c37, c38, c39, c40, c41, c42, c43, c44, c45, c46, c47, c48, c49, c50, c51, c52, c53, c54, c55, c56, c57, c58, c59, c60, c61, c62, c63, c64, c65, c66, c67, c68, c69, c70, c71, c72, c73, c74, c75, c76, c77, c78, c79, c80, c81, c82, c83, c84, c85, c86, c87, c88, c89, c90, c91, c92, c93, c94, c95, c96, c97, c98, c99, c100, c101, c102, c103, c104, c105, c106, c107, c108, c109, c110, c111, c112, c113, c114, c115, c116, c117, c118, c119, c120, c121, c122, c123, c124, c125, c126, c127, c128, c129, c130, c131, c132, c133, c134, c135, c136, c137, c138, c139, c140, c141, c142, c143, c144, c145, c146, c147, c148, c149, c150, c151, c152, c153, c154, c155, c156, c157, c158, c159, c160, c161, c162, c163, c164, c165, c166, c167, c168, c169, c170, c171, c172, c173, c174, c175, c176, c177, c178, c179, c180, c181, c182, c183, c184, c185, c186, c187, c188, c189, c190, c191, c192, c193, c194, c195, c196, c197, c198, c199, c200, c201, c202, c203, c204, c205, c206, c207, c208, c209, c210, c211, c212, c213, c214, c215, c216, c217, c218, c219, c220, c221, c222, c223, c224, c225, c226, c227, c228, c229, c230, c231, c232, c233, c234, c235, c236, c237, c238, c239, c240, c241, c242, c243, c244, c245, c246, c247, c248, c249, c250, c251, c252, c253, c254, c255, c256, c257, c258, c259, c260, c261], []⟩ w := by
  have HK := Lib.hid hK
  clear hK
  have SS := Lib.hid hS
  have II := Lib.hid hI
  have HQ := Lib.hid hq
  have PL := Lib.hid hpl
  have RA := Lib.hid hS.pm.acc.reads
  have hmm := @run_makeMap Try.prog
  clear hS hI hq hpl
  conv => arg 2; whnf
  go_wp2_with fail
  go_loopw [23, 24] (fun v i wr => ∃ (b j m : Nat) (C : Option Addr) (d : Nat), j + 1 = b ∧ j ≤ 400 ∧ i = .int .i64 b ∧ v = .slice C m d ∧ (chS n s j).length = m ∧ Tab intE wr w.heap.size 3 (.slice C m d) (chS n s j) ∧ Below w.heap.size w wr) (fun _ i _ => 401 - (intOf i).toNat)
  case atStart => exact ⟨1, 0, 0, none, 0, rfl, by omega, rfl, rfl, rfl, Tab.nil _ _ _, Below.refl _ _⟩
  case round =>
    obtain ⟨b, j, m, C, d, hjb, hj, rfl, rfl, hm, hT, hB⟩ := hrel
    obtain ⟨wo, rfl⟩ : ∃ wo : World, wo = wr := ⟨_, rfl⟩
    have TT := Lib.hid hT
    have BB := Lib.hid hB
    have HM := Lib.hid hm
    have hmj : m ≤ j := by rw [← hm]; exact chS_len n s j
    have HJ := Lib.hid hjb
    clear hT hB hm
    by_cases hlt : b ≤ 400
    · have i1 : (b : Int) ≤ 400 := by omega
      have G0 := Lib.hid (GMap.made wo (.bool false))
      have BA := Lib.hid (below_lit wo (.map #[] 0))
      obtain ⟨M, hM⟩ : ∃ M, M = wo.heap.size := ⟨_, rfl⟩
      rw [← hM] at G0
      have HMM := Lib.hid hM
      clear hM hjb
      go_upto_region 52 with fail
      rw [← HMM.out]
      go_wp2_with fail
      go_loopw [237] (fun i wi => ∃ (k : Nat) (f : Int → Value) (ks : List Int), k ≤ q ∧ i = .int .i64 k ∧ WhoK (s.acc.take k) b ks ∧ ks.length ≤ k ∧ GMap wi M (.bool false) f ks ∧ Below wo.heap.size wo wi) (fun i _ => q - (intOf i).toNat)
      case atStart => exact ⟨0, _, [], by omega, rfl, WhoK.nil b, by simp, G0.out, BA.out⟩
      case round =>
        obtain ⟨k, f, ks, hk, rfl, hW, hkl, hG, hB⟩ := hrel
        clear G0 BA hmm
        have GG := Lib.hid hG
        have WW := Lib.hid hW
        have BI := Lib.hid hB
        by_cases hlt2 : k < q
        · have kl : k < s.acc.length := by rw [HQ.out]; exact hlt2
          obtain ⟨⟨x0, x1, x2⟩, hx⟩ : ∃ x, s.acc[k]? = some x := ⟨_, List.getElem?_eq_getElem kl⟩
          have TK := Lib.hid (show s.acc.take (k + 1) = s.acc.take k ++ [(x0, x1, x2)] by rw [List.take_add_one, hx]; rfl)
          obtain ⟨b1, o1, rfl, hb1, y0, y1, y2⟩ := nv_at (RA.out.below (BB.out.trans (hB.mono BB.out.size))) hx
          obtain ⟨d0, d1, d2⟩ := box_nv (w := wr) (x0, x1, x2)
          simp only at y0 y1 y2 d0 d1 d2
          have i2 : (k : Int) < (q : Int) := by omega
          have B1 := Lib.hid (hB.trans ((below_lit wr (.cells #[.int .i64 (x0 : Nat), .int .i64 (x1 : Nat), .int .i64 x2] tN)).mono hB.size))
          have G1 := Lib.hid (hG.alloc (.cells #[.int .i64 (x0 : Nat), .int .i64 (x1 : Nat), .int .i64 x2] tN))
          have hx0 : x0 < n := (II.out.acc_ok x0 x1 x2 (List.mem_of_getElem? hx)).1
          clear kl hx hb1 hW hG hB
          by_cases he : x1 = b
          · have i3 : ((x1 : Int) == (b : Int)) = true := by simp [he]
            have KL := Lib.hid (show ks.length < 1000000 by omega)
            have WB := Lib.hid (show (Lit.int .i64 (x0 : Int)).wf = true from wf_of (by unfold Fit; omega))
            have W1 := Lib.hid (WW.out.add (v := (x0, x1, x2)) he)
            have LN := Lib.hid (addK_len ks (x0 : Int))
            clear he
            go_wp2_with (refine wpList_update_m Try.underlying53 rfl _ _ _ (by rfl) G1.out KL.out x0 WB.out rfl rfl _ rfl ?_; intro w2 m2 g2)
            go_roundw
            case rel => exact ⟨k + 1, _, _, by omega, by go_num, by rw [TK.out]; exact W1.out, by have := LN.out; omega, m2.out, B1.out.grown g2.out B1.out.size (fun r hr => by injection hr with hr; have := HMM.out; omega)⟩
            case measure => simp [intOf]; omega
          · have i3 : ((x1 : Int) == (b : Int)) = false := by simp; omega
            have W1 := Lib.hid (WW.out.skip (v := (x0, x1, x2)) he)
            clear he
            go_wp2_with fail
            go_roundw
            case rel => exact ⟨k + 1, f, ks, by omega, by go_num, by rw [TK.out]; exact W1.out, by omega, G1.out, B1.out⟩
            case measure => simp [intOf]; omega
        · obtain rfl : k = q := by omega
          have WL := Lib.hid (show ks.length = (who n s b).length from WhoK.len (by rw [← List.take_of_length_le (Nat.le_of_eq HQ.out)]; exact hW) II.out)
          have hBw : Below w.heap.size w wr := BB.out.trans (hB.mono BB.out.size)
          have hSi := SS.out.later (V' := wr) (by
            exact hBw)
          have vC := hSi.valueC (b := b) hlt (Nat.le_trans (PL.out b) (by omega))
          obtain ⟨vb, hvb⟩ : ∃ vb, vb = val s b := ⟨_, rfl⟩
          rw [← hvb] at vC
          have VC := Lib.hid vC
          obtain ⟨z, hz⟩ : ∃ z, z = ks.length := ⟨_, rfl⟩
          have LE := hG.len Try.underlying53 3 z hz.symm
          have ST := Lib.hid (chS_step (n := n) (s := s) HJ.out)
          have w1 : IntKind.i64.wrap (2 * (z : Int)) = ((2 * z : Nat) : Int) := by rw [show 2 * (z : Int) = ((2 * z : Nat) : Int) by omega]; exact IntWalk.i64_in _ (by omega)
          have TI := Lib.hid (TT.out.later hB)
          have BW := Lib.hid hBw
          have MO := Lib.hid (show most n s b = decide (n < 2 * z) by unfold most; rw [← WL.out, hz])
          have HVB := Lib.hid hvb
          have HJ2 := Lib.hid HJ.out
          clear hW hG hB hBw hSi vC hvb hz WL TT
          by_cases hg : n < 2 * z
          · have i3 : (n : Int) < ((2 * z : Nat) : Int) := by omega
            have E := Lib.hid (show chS n s b = chS n s j ++ [vb] by rw [ST.out, MO.out, if_pos (decide_eq_true hg), HVB.out])
            clear hg
            go_wp2_with (first
              | (go_at_call 19; refine VC.out.mono ?_; rintro e w4 ⟨rfl, hb4⟩; have TJ := Lib.hid (TI.out.later hb4); have BJ := Lib.hid (BW.out.trans (hb4.mono BW.out.size)); have SZ := Lib.hid (show w.heap.size ≤ w4.heap.size from BJ.out.size))
              | (refine wpList_append_g (E := intE) elInt rfl _ _ (by rfl) vb rfl (by decide) (by rfl) (by rfl) TJ.out HM.out (by unfold maxLen; omega) (by omega) SZ.out ?_; intro A2 c2 w5 T2 G2 O2))
            go_roundw
            case rel =>
              refine ⟨b + 1, b, m + 1, A2, c2, rfl, hlt, by go_num, rfl, by rw [E.out, List.length_append, HM.out]; rfl, by rw [E.out]; exact T2.out, ?_⟩
              exact (TJ.out.alloc _).below G2.out (BJ.out.alloc SZ.out _) (Nat.le_refl _) (Nat.le_trans SZ.out (by simp))
            case measure => simp [intOf]; omega
          · have i3 : ¬ (n : Int) < ((2 * z : Nat) : Int) := by omega
            have E := Lib.hid (show chS n s b = chS n s j by rw [ST.out, MO.out, if_neg (by simpa using hg), List.append_nil])
            clear hg
            go_wp2_with fail
            go_roundw
            case rel => exact ⟨b + 1, b, m, C, d, rfl, hlt, by go_num, rfl, by rw [E.out]; exact HM.out, by rw [E.out]; exact TI.out, BW.out⟩
            case measure => simp [intOf]; omega
    · obtain rfl : b = 401 := by omega
      obtain rfl : j = 400 := by have := HJ.out; omega
      have TJ := TT.out
      rw [chS_all] at TJ
      have HM2 := HM.out
      rw [chS_all] at HM2
      have TK := Lib.hid (show Reads wo C ((chosen n s).map (Value.int .i64)) by have := TJ.reads; rwa [flat_int] at this)
      have HM3 := Lib.hid HM2
      clear TJ HM2 hmm
      go_wp2
      refine HK.out _ _ _ _ _ _ _ _ _ _ _ _ _ _ _ _ _ _ _ _ _ _ _ _ _ _ _ _ _ _ _ _ _ _ _  C m d _ HM3.out TK.out BB.out
end Go.Proofs.Ytpoielmbdofjlaa.Syn
