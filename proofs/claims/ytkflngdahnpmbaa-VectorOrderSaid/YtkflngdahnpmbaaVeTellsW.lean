/-
  VectorTells, walked over what the laws take of the program.
-/
import Derived.Test.YtkflngdahnpmbaaVeTickW
import Derived.Test.YtkflngdahnpmbaaVeRef4
import Derived.Test.YtkflngdahnpmbaaGInts
import Derived.Deep.DeepCutAuto
import Derived.Deep.CutBlock
namespace Go.Proofs.Ytkflngdahnpmbaa.Ve
set_option linter.unusedVariables false
set_option linter.unusedSimpArgs false
open Go.RowKit Mem Gt
open Jump (Gave equalZ_c)

theorem lit2v (W : World) {u v : Value} {a b : Ve} (h1 : IsV W u a) (h2 : IsV W v b) : VRds (W.alloc (.cells #[u, v] 22)) (some ⟨W.heap.size, 0, none⟩) [a, b] := by
  refine ⟨[u, v], reads_lit W _ rfl, rfl, fun k x l hu hl => ?_⟩
  have hk : k < 2 := (List.getElem?_eq_some_iff.1 hl).1
  have hk : k = 0 ∨ k = 1 := by omega
  rcases hk with rfl | rfl
  · simp at hu hl; subst hu hl; exact h1.below (low_lit _ _)
  · simp at hu hl; subst hu hl; exact h2.below (low_lit _ _)
theorem lit1v (W : World) {u : Value} {a : Ve} (h1 : IsV W u a) : VRds (W.alloc (.cells #[u] 22)) (some ⟨W.heap.size, 0, none⟩) [a] := by
  refine ⟨[u], reads_lit W _ rfl, rfl, fun k x l hu hl => ?_⟩
  have hk : k < 1 := (List.getElem?_eq_some_iff.1 hl).1
  have hk : k = 0 := by omega
  subst hk
  simp at hu hl
  subst hu hl
  exact h1.below (low_lit _ _)
/-- What has been answered lies there. -/
def Hold (W w : World) (J T N : Option Addr) (jl tl : Ve) (nl : List Ve) : Prop := Below W.heap.size W w ∧ Reads w J (jl.map (Value.int .i64)) ∧ Reads w T (tl.map (Value.int .i64)) ∧ VRds w N nl
section
variable {W w w' : World} {J T N : Option Addr} {jl tl : Ve} {nl : List Ve}
theorem Hold.later (h : Hold W w J T N jl tl nl) (hb : Below w.heap.size w w') : Hold W w' J T N jl tl nl := ⟨h.1.trans (hb.mono h.1.size), h.2.1.below hb, h.2.2.1.below hb, h.2.2.2.below hb⟩
theorem Hold.lit (h : Hold W w J T N jl tl nl) {o : Obj} (hb : Below (w.alloc o).heap.size (w.alloc o) w') : Hold W w' J T N jl tl nl := h.later ((low_lit w o).trans (hb.mono (by simp)))
end
theorem joinv_at {a b : Ve} {k : Nat} {x y : Int} (hx : a[k]? = some x) (hy : b[k]? = some y) : (join a b)[k]? = some (max x y) := by
  unfold join
  rw [List.getElem?_zipWith, hx, hy]
theorem tick_cases (a : Ve) (who : Int) : (wrongE [a] ≠ 0 ∧ tickE a who = wrongE [a]) ∨ (wrongE [a] = 0 ∧ (who < 0 ∨ (a.length : Int) ≤ who) ∧ tickE a who = 3) ∨ (∃ k : Nat, who = (k : Int) ∧ k < a.length ∧ wrongE [a] = 0 ∧ a.getD k 0 = 1099511627776 ∧ tickE a who = 4) ∨ (∃ k : Nat, who = (k : Int) ∧ k < a.length ∧ wrongE [a] = 0 ∧ a.getD k 0 ≠ 1099511627776 ∧ tickE a who = 0) := by
  by_cases h1 : wrongE [a] = 0
  · by_cases h2 : who < 0 ∨ (a.length : Int) ≤ who
    · right; left
      exact ⟨h1, h2, by unfold tickE; rw [if_neg (by simp [h1]), if_pos h2]⟩
    · obtain ⟨k, rfl⟩ : ∃ k : Nat, who = (k : Int) := ⟨who.toNat, by omega⟩
      have hk : k < a.length := by omega
      by_cases h3 : a.getD k 0 = 1099511627776
      · right; right; left
        exact ⟨k, rfl, hk, h1, h3, by unfold tickE; rw [if_neg (by simp [h1]), if_neg h2, if_pos (by simpa using h3)]⟩
      · right; right; right
        exact ⟨k, rfl, hk, h1, h3, by unfold tickE; rw [if_neg (by simp [h1]), if_neg h2, if_neg (by simpa using h3)]⟩
  · left
    exact ⟨h1, by unfold tickE; rw [if_pos h1]⟩
set_option maxRecDepth 100000 in
set_option maxHeartbeats 32000000 in
theorem tells_w (hW : WrongSpec) (hC : CompareSpec) (hJ : JoinSpec) (hT : TickSpec) (hN : NewestSpec) (A B D : Option Addr) (a b : Ve) (ls : List Ve) (who : Int) (n m p ca cb cd : Nat) (W : World) (hn : a.length = n) (hm : b.length = m) (hp : ls.length = p)
    (ka : n ≤ ca ∧ ca ≤ 9223372036854775807) (kb : m ≤ cb ∧ cb ≤ 9223372036854775807) (kd : p ≤ cd ∧ cd ≤ 9223372036854775807) (h1 : n ≤ 17592186044416) (h2 : m ≤ 17592186044416) (h3 : p ≤ 5864062014805) (ra : Reads W A (a.map (Value.int .i64))) (rb : Reads W B (b.map (Value.int .i64))) (rd : VRds W D ls) (hw : (Lit.int .i64 who).wf = true) :
    Calls Try.prog 3 #[.slice A n ca, .slice B m cb, .int .i64 who, .slice D p cd] W (Law.Yes W) := by
  obtain ⟨w, hww⟩ : ∃ w, wrongE [a, b] = w := ⟨_, rfl⟩
  obtain ⟨v, hv⟩ : ∃ v, wrongE [a] = v := ⟨_, rfl⟩
  obtain ⟨u, hu⟩ : ∃ u, wrongE ls = u := ⟨_, rfl⟩
  obtain ⟨g, hg⟩ : ∃ g, tickE a who = g := ⟨_, rfl⟩
  obtain ⟨h, hh⟩ : ∃ h, newE ls = h := ⟨_, rfl⟩
  obtain ⟨c, hc⟩ : ∃ c, (if w = 0 then cmp a b else 0) = c := ⟨_, rfl⟩
  obtain ⟨jl, hjl⟩ : ∃ jl, (if w = 0 then join a b else []) = jl := ⟨_, rfl⟩
  obtain ⟨kj, hkj⟩ : ∃ kj, jl.length = kj := ⟨_, rfl⟩
  obtain ⟨tl, htl⟩ : ∃ tl, (if g = 0 then bump a who.toNat else []) = tl := ⟨_, rfl⟩
  obtain ⟨kt, hkt⟩ : ∃ kt, tl.length = kt := ⟨_, rfl⟩
  obtain ⟨nl, hnl⟩ : ∃ nl, (if h = 0 then newest ls else []) = nl := ⟨_, rfl⟩
  obtain ⟨kn, hkn⟩ : ∃ kn, nl.length = kn := ⟨_, rfl⟩
  have P1 := Lib.hid (hC A B a b n m ca cb W c w hn hm ka kb (by omega) (by omega) ra rb hww hc)
  have P2 := Lib.hid (fun V (hV : Below W.heap.size W V) => hJ A B a b n m ca cb V jl kj w hn hm ka kb (by omega) (by omega) (ra.below hV) (rb.below hV) hww hjl hkj)
  have P3 := Lib.hid (fun V (hV : Below W.heap.size W V) => hT A a n ca who V tl kt g hn ka (by omega) (ra.below hV) hw hg htl hkt)
  have P4 := Lib.hid (fun V (hV : Below W.heap.size W V) => hN D ls p cd V nl kn h hp kd (by omega) (rd.below hV) hh hnl hkn)
  have Q1 := Lib.hid (fun V (hV : Below W.heap.size W V) => pwrong_c (some ⟨V.heap.size, 0, none⟩) [a, b] 2 2 (V.alloc (.cells #[.slice A n ca, .slice B m cb] 22)) w rfl (by omega) (lit2v V (isv_of hn ka (by omega) (ra.below hV)) (isv_of hm kb (by omega) (rb.below hV))) hww)
  have Q2 := Lib.hid (fun V (hV : Below W.heap.size W V) => pwrong_c (some ⟨V.heap.size, 0, none⟩) [a] 1 1 (V.alloc (.cells #[.slice A n ca] 22)) v rfl (by omega) (lit1v V (isv_of hn ka (by omega) (ra.below hV))) hv)
  have Q3 := Lib.hid (fun V (hV : Below W.heap.size W V) => pwrong_c D ls p cd V u hp (by omega) (rd.below hV) hu)
  have R1 := Lib.hid (fun V (hV : Below W.heap.size W V) => hW (some ⟨V.heap.size, 0, none⟩) [a, b] 2 2 (V.alloc (.cells #[.slice A n ca, .slice B m cb] 22)) w rfl (by omega) (lit2v V (isv_of hn ka (by omega) (ra.below hV)) (isv_of hm kb (by omega) (rb.below hV))) hww)
  have R2 := Lib.hid (fun V (hV : Below W.heap.size W V) => hW D ls p cd V u hp (by omega) (rd.below hV) hu)
  have RA := Lib.hid ra
  have RB := Lib.hid rb
  have RD := Lib.hid rd
  have F0 := Lib.hid (show w ≠ 0 → c = 0 ∧ kj = 0 from fun e => ⟨by rw [← hc, if_neg e], by rw [← hkj, ← hjl, if_neg e]; rfl⟩)
  have F1 := Lib.hid (show w = 0 → n = m ∧ n = kj ∧ Fine n a ∧ Fine n b ∧ cmp a b = c ∧ jl = join a b from fun e => by
    obtain ⟨q, hq⟩ := wrongE_zero.1 (hww.trans e)
    have fa := hq a (by simp)
    have fb := hq b (by simp)
    have ej : jl = join a b := by rw [← hjl, if_pos e]
    obtain rfl : n = q := hn.symm.trans fa.1
    refine ⟨fb.1.symm.trans hm, ?_, fa, fb, by rw [← hc, if_pos e], ej⟩
    rw [← hkj, ej, join_len (fa.1.trans fb.1.symm)]
    exact fa.1.symm)
  have TC := Lib.hid (tick_cases a who)
  have HV := Lib.hid hv
  have HG := Lib.hid hg
  have HTL := Lib.hid htl
  have HKT := Lib.hid hkt
  have HN := Lib.hid hn
  have NC := Lib.hid (show (400 < p ∧ h = 2 ∧ kn = 0) ∨ (p ≤ 400 ∧ u ≠ 0 ∧ h = u ∧ kn = 0) ∨ (p ≤ 400 ∧ u = 0 ∧ h = 0 ∧ nl = newest ls ∧ ∃ q, ∀ x ∈ ls, x.length = q) from by
    by_cases e : 400 < p
    · have : newE ls = 2 := by unfold newE; rw [if_pos (by omega)]
      rw [hh] at this
      exact .inl ⟨e, this, by rw [← hkn, ← hnl, if_neg (by rw [this]; decide)]; rfl⟩
    · have : newE ls = u := by unfold newE; rw [if_neg (by omega), hu]
      rw [hh] at this
      by_cases e2 : u = 0
      · obtain ⟨q, hq⟩ := wrongE_zero.1 (hu.trans e2)
        exact .inr (.inr ⟨by omega, e2, by rw [this, e2], by rw [← hnl, if_pos (by rw [this, e2])], q, fun x hx => (hq x hx).1⟩)
      · exact .inr (.inl ⟨by omega, e2, this, by rw [← hkn, ← hnl, if_neg (by rw [this]; exact e2)]; rfl⟩))
  have HP := Lib.hid hp
  have HKN := Lib.hid hkn
  have HWW := Lib.hid hw
  clear hW hC hJ hT hN hww hv hu hg hh hc hjl hkj htl hkt hnl hkn ra rb rd hn hm hp hw
  have e1 : (w != w) = false := by simp
  have e2 : (u != u) = false := by simp
  go_enter Try.func3, Try.ntmps3
  go_wp2_with fail
  refine P1.out.mono ?_
  rintro x w1 ⟨rfl, hb⟩
  have B1 := Lib.hid hb
  have E := Lib.hid (P2.out w1 hb)
  clear hb P1 P2
  go_wp2_with fail
  refine E.out.mono ?_
  rintro x w2 ⟨J, cj, rfl, kcj, hr, hb⟩
  have B2 := Lib.hid (B1.out.trans (hb.mono B1.out.size))
  have RJ := Lib.hid hr
  clear hb hr E B1
  have E := Lib.hid (P3.out w2 B2.out)
  clear P3
  go_wp2_with fail
  refine E.out.mono ?_
  rintro x w3 ⟨T, ct, rfl, kct, hr, hb⟩
  have B3 := Lib.hid (B2.out.trans (hb.mono B2.out.size))
  have RJ3 := Lib.hid (RJ.out.below hb)
  have RT := Lib.hid hr
  clear hb hr E B2 RJ
  have E := Lib.hid (P4.out w3 B3.out)
  clear P4
  go_wp2_with fail
  refine E.out.mono ?_
  rintro x w4 ⟨N, cn, rfl, kcn, hr, hb⟩
  have H4 := Lib.hid (show Hold W w4 J T N jl tl nl from ⟨B3.out.trans (hb.mono B3.out.size), RJ3.out.below hb, RT.out.below hb, hr⟩)
  clear hb hr E B3 RJ3 RT
  have E := Lib.hid (Q1.out w4 H4.out.1)
  clear Q1
  go_wp2_with fail
  refine E.out.mono ?_
  rintro x w5 ⟨rfl, hb⟩
  have H5 := Lib.hid (H4.out.lit hb)
  clear hb E H4
  have E := Lib.hid (Q2.out w5 H5.out.1)
  clear Q2
  go_wp2_with fail
  refine E.out.mono ?_
  rintro x w6 ⟨rfl, hb⟩
  have H6 := Lib.hid (H5.out.lit hb)
  clear hb E H5
  have E := Lib.hid (Q3.out w6 H6.out.1)
  clear Q3
  go_wp2_with fail
  refine E.out.mono ?_
  rintro x w7 ⟨rfl, hb⟩
  have H7 := Lib.hid (H6.out.later hb)
  clear hb E H6
  have E := Lib.hid (R1.out w7 H7.out.1)
  clear R1
  go_wp2_with fail
  refine E.out.mono ?_
  rintro x w8 ⟨rfl, hb⟩
  have H8 := Lib.hid (H7.out.lit hb)
  clear hb E H7
  have E := Lib.hid (R2.out w8 H8.out.1)
  clear R2
  go_wp2_with fail
  refine E.out.mono ?_
  rintro x w9 ⟨rfl, hb⟩
  have H9 := Lib.hid (H8.out.later hb)
  clear hb E H8
  go_upto_if 77 with fail
  go_cut [8, 20] (fun s8 s20 wx => s8 = .bool false ∧ Below w9.heap.size w9 wx)
  case first => as_aux_lemma =>
    by_cases h0 : w = 0
    · obtain ⟨rfl, rfl, fa, fb, hc, hj⟩ := F1.out h0
      subst h0
      have PC := Lib.hid (pcompare_d A B a b n ca cb w9 c fa.1 fb.1 (by omega) (RA.out.below H9.out.1) (RB.out.below H9.out.1) hc)
      have FA := Lib.hid fa
      have FB := Lib.hid fb
      have HJ := Lib.hid hj
      have e3 : (c != c) = false := by simp
      have e4 : ((n : Int) != (n : Int)) = false := by simp
      clear F0 F1 TC NC fa fb hc hj
      go_wp2_with fail
      refine PC.out.mono ?_
      rintro x wa ⟨rfl, hd⟩
      have HA := Lib.hid (H9.out.later (hd.below _))
      have BA := Lib.hid (hd.below w9.heap.size)
      clear hd PC
      go_wp2_with fail
      go_loopw [8, 20, 99] (fun s8 k_ i wr => ∃ k : Nat, k ≤ n ∧ i = .int .i64 k ∧ s8 = .bool false ∧ Below wa.heap.size wa wr) (fun _ _ i _ => n - (Go.RowKit.intOf i).toNat)
      case atStart => exact ⟨0, by omega, rfl, rfl, Below.refl _ _⟩
      case round =>
        obtain ⟨k, hk, rfl, rfl, hB⟩ := hrel
        have BB := Lib.hid hB
        by_cases hlt : k < n
        · obtain ⟨x, hx⟩ : ∃ x, a[k]? = some x := ⟨_, List.getElem?_eq_getElem (by rw [FA.out.1]; exact hlt)⟩
          obtain ⟨y, hy⟩ : ∃ y, b[k]? = some y := ⟨_, List.getElem?_eq_getElem (by rw [FB.out.1]; exact hlt)⟩
          have hz := joinv_at hx hy
          rw [← HJ.out] at hz
          obtain ⟨z, hzz⟩ : ∃ z, max x y = z := ⟨_, rfl⟩
          rw [hzz] at hz
          obtain ⟨b1, o1, rfl, _, y1⟩ := int_at ((RA.out.below HA.out.1).below hB) hx
          obtain ⟨b2, o2, rfl, _, y2⟩ := int_at ((RB.out.below HA.out.1).below hB) hy
          obtain ⟨b3, o3, rfl, _, y3⟩ := int_at (HA.out.2.1.below hB) hz
          have i1 : (k : Int) < (n : Int) := by omega
          have zz : (z != z) = false := by simp
          clear hx hy hz hB
          go_upto_region 16 with fail
          go_quiet (fail)
          go_wp2
          go_roundw
          case rel => exact ⟨k + 1, by omega, by go_num, rfl, Mem.below_drewN BB.out _⟩
          case measure => simp [Go.RowKit.intOf]; omega
        · obtain rfl : k = n := by omega
          have B9 := Lib.hid (BA.out.trans (hB.mono BA.out.size))
          clear hB
          go_wp2_with fail
          go_meet
          exact ⟨rfl, B9.out⟩
    · obtain ⟨rfl, rfl⟩ := F0.out h0
      have e3 : (w != 0) = true := by simpa using h0
      clear F0 F1 TC NC h0
      go_wp2_with fail
      go_meet
      exact ⟨rfl, Below.refl _ _⟩
  case rest =>
    obtain ⟨rfl, hcb⟩ := hcut
    obtain ⟨wa, hwa⟩ : ∃ w : World, w = wc := ⟨_, rfl⟩
    rw [← hwa] at hcb ⊢
    have HA := Lib.hid (H9.out.later hcb)
    clear hcb hwa F0 F1 H9
    go_upto_block 2 with fail
    go_cut [8, 21, 133, 144, 160] (fun s8 s21 s133 s144 s160 wx => s8 = .bool false ∧ Below wa.heap.size wa wx)
    case first => as_aux_lemma =>
      have TC2 := TC.out
      rw [HV.out, HG.out, HN.out] at TC2
      clear NC
      rcases TC2 with ⟨h0, hgv⟩ | ⟨h0, ho, hg3⟩ | ⟨k, rfl, hk, h0, hm, hg4⟩ | ⟨k, rfl, hk, h0, hm, hg0⟩
      · subst hgv
        obtain rfl : 0 = kt := by rw [← HKT.out, ← HTL.out, if_neg h0]; rfl
        have e3 : (g != 0) = true := by simpa using h0
        have e4 : (g != g) = false := by simp
        clear h0 TC
        go_wp2_with fail
        go_meet
        exact ⟨rfl, Below.refl _ _⟩
      · subst hg3 h0
        obtain rfl : 0 = kt := by rw [← HKT.out, ← HTL.out]; rfl
        clear TC
        by_cases hlt : who < 0
        · have i1 : decide (who < 0) = true := decide_eq_true hlt
          clear ho
          go_wp2_with fail
          go_meet
          exact ⟨rfl, Below.refl _ _⟩
        · have i1 : decide (who < 0) = false := decide_eq_false hlt
          have i2 : decide ((n : Int) ≤ who) = true := decide_eq_true (by omega)
          have i3 : (n : Int) ≤ who := by omega
          clear ho
          go_wp2_with fail
          go_meet
          exact ⟨rfl, Below.refl _ _⟩
      · subst hg4 h0
        obtain rfl : 0 = kt := by rw [← HKT.out, ← HTL.out]; rfl
        obtain ⟨x, hx⟩ : ∃ x, a[k]? = some x := ⟨_, List.getElem?_eq_getElem (by rw [HN.out]; exact hk)⟩
        have hx1 : (x == 1099511627776) = true := by
          rw [List.getD_eq_getElem?_getD, hx] at hm
          simp at hm ⊢
          exact hm
        obtain ⟨b1, o1, rfl, _, y1⟩ := int_at (RA.out.below HA.out.1) hx
        have i1 : decide ((n : Int) ≤ (k : Int)) = false := decide_eq_false (by omega)
        have i2 : (k : Int) < (n : Int) := by omega
        have i3 : ¬ (n : Int) ≤ (k : Int) := by omega
        have i4 : ¬ n ≤ k := by omega
        clear TC hx hm
        go_wp2_with fail
        go_meet
        exact ⟨rfl, Below.refl _ _⟩
      · subst hg0 h0
        obtain ⟨x, hx⟩ : ∃ x, a[k]? = some x := ⟨_, List.getElem?_eq_getElem (by rw [HN.out]; exact hk)⟩
        have hgd : a.getD k 0 = x := by rw [List.getD_eq_getElem?_getD, hx]; rfl
        rw [hgd] at hm
        have hx1 : (x == 1099511627776) = false := by simpa using hm
        obtain ⟨q, hq⟩ := wrongE_zero.1 HV.out
        have hxb := (hq a (by simp)).2.2 x (List.mem_of_getElem? hx)
        have wx1 : IntKind.i64.wrap (x + 1) = x + 1 := IntWalk.i64_in _ (by omega)
        have ET : tl = a.set k (x + 1) := by rw [← HTL.out, if_pos rfl]; unfold bump; rw [Int.toNat_natCast, hgd]
        have HET := Lib.hid ET
        have HLT := Lib.hid (show (a.set k (x + 1)).length = n by rw [List.length_set]; exact HN.out)
        obtain rfl : n = kt := by rw [← HKT.out, ET, List.length_set]; exact HN.out.symm
        have CL := Lib.hid (clone_z A a n ca wa HN.out (by omega) (RA.out.below HA.out.1))
        obtain ⟨b1, o1, hA1, _, y1⟩ := int_at (RA.out.below HA.out.1) hx
        subst hA1
        have i1 : decide ((n : Int) ≤ (k : Int)) = false := decide_eq_false (by omega)
        have i2 : (k : Int) < (n : Int) := by omega
        have i3 : ¬ (n : Int) ≤ (k : Int) := by omega
        have i4 : ¬ n ≤ k := by omega
        have HKX := Lib.hid hx
        clear TC hx hm hgd hq hxb ET
        go_wp2_with fail
        refine CL.out.mono ?_
        rintro u2 wb ⟨A5, c5, rfl, hT, hb⟩
        obtain ⟨g5, x5, rfl, hg5, hg6, hx5, y5, fz5, hput⟩ := hT.put HN.out hk
        obtain rfl : x = x5 := by have := HKX.out; rw [hx5] at this; injection this with this; exact this.symm
        have HB := Lib.hid (HA.out.later hb)
        have SB := Lib.hid (show Below wa.heap.size wa (wb.setCell ⟨g5, k, none⟩ (.int .i64 (x + 1))) from hb.setCell (p := ⟨g5, k, none⟩) hg5 _)
        have EQ0 := equalZ_c T (some ⟨g5, 0, none⟩) (a.set k (x + 1)) (a.set k (x + 1)) n n ct c5 (wb.setCell ⟨g5, k, none⟩ (.int .i64 (x + 1))) HLT.out HLT.out (by omega) (by omega) (by rw [← HET.out]; exact HA.out.2.2.1.below SB.out) (hput (x + 1)).reads
        rw [decide_eq_true rfl] at EQ0
        have EQ := Lib.hid EQ0
        clear hb hT hput EQ0 hx5 CL hg5 hg6
        go_wp2_with fail
        refine EQ.out.mono ?_
        rintro u3 wd ⟨rfl, hb⟩
        have SD := Lib.hid (SB.out.trans (hb.mono SB.out.size))
        clear hb
        go_wp2_with fail
        go_meet
        exact ⟨rfl, SD.out⟩
    case rest =>
      obtain ⟨rfl, hcb⟩ := hcut
      obtain ⟨wd, hwd⟩ : ∃ w : World, w = wc := ⟨_, rfl⟩
      rw [← hwd] at hcb ⊢
      have HD := Lib.hid (HA.out.later hcb)
      clear hcb hwd HA TC HV HG HTL HKT
      rcases NC.out with ⟨h4, rfl, rfl⟩ | ⟨h4, hu0, rfl, rfl⟩ | ⟨h4, rfl, rfl, hnw, q, hq⟩
      · have i1 : (400 : Int) < (p : Int) := by omega
        clear NC
        go_wp2
        go_ret
        exact ⟨rfl, HD.out.1⟩
      · have i1 : ¬ (400 : Int) < (p : Int) := by omega
        have e3 : (h != 0) = true := by simpa using hu0
        have e4 : (h == h) = true := by simp
        clear NC hu0
        go_wp2
        go_ret
        exact ⟨rfl, HD.out.1⟩
      · have i1 : ¬ (400 : Int) < (p : Int) := by omega
        subst hnw
        have hk4 : kn ≤ 400 := by
          have h5 := newest_len (n := q) (l := ls) ls []
          have h6 := HKN.out
          have h7 := HP.out
          unfold newest at h6
          simp at h5
          omega
        have PN := Lib.hid (pnewest_c D ls p cd q wd kn HP.out h4 hq (RD.out.below HD.out.1) HKN.out)
        clear NC hq
        go_wp2_with fail
        refine PN.out.mono ?_
        rintro u2 we ⟨D5, c5, rfl, hc5, hr, hb⟩
        have HE := Lib.hid (HD.out.later hb)
        have SL0 := samelists_c N D5 (newest ls) (newest ls) kn kn cn c5 we HKN.out HKN.out (by omega) (by omega) HE.out.2.2.2 hr
        rw [decide_eq_true rfl] at SL0
        have SL := Lib.hid SL0
        clear hr hb SL0 PN
        go_wp2_with fail
        refine SL.out.mono ?_
        rintro u3 wf ⟨rfl, hd⟩
        have HF := Lib.hid (HE.out.later (hd.below _))
        clear hd
        go_wp2
        go_ret
        exact ⟨rfl, HF.out.1⟩
end Go.Proofs.Ytkflngdahnpmbaa.Ve
