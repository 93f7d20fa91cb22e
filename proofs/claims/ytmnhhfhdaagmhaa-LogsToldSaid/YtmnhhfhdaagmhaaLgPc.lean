/-
  Package logs, the program: Common, keys.
-/
import Derived.Test.YtmnhhfhdaagmhaaLgPb
import Derived.Test.YtmnhhfhdaagmhaaLgKeys
namespace Go.Proofs.Ytmnhhfhdaagmhaa.Lg
set_option linter.unusedVariables false
set_option linter.unusedSimpArgs false
open Go.RowKit Mem Gt
open Jump (Gave equalZ_c)

set_option maxRecDepth 100000 in
set_option maxHeartbeats 16000000 in
theorem common_bad (A B : Option Addr) (a b : List En) (n m ca cb : Nat) (V : World) (hn : a.length = n) (hm : b.length = m) (h1 : n ≤ 140737488355328) (h2 : m ≤ 140737488355328) (hx : Reads V A (flat enE a)) (hy : Reads V B (flat enE b)) (he : ¬ (okL a = true ∧ okL b = true)) :
    Calls Try.prog 15 #[.slice A n ca, .slice B m cb] V (Gave (.tuple #[.int .i64 0, .int .i64 1]) V) := by
  have CA := Lib.hid (right_c A a n ca V hn h1 hx)
  have CB := Lib.hid (fun W' (hb : Below V.heap.size V W') => right_c B b m cb W' hm h2 (hy.below hb))
  clear hx hy hn hm
  cases ha : okL a with
  | false =>
    rw [ha] at CA
    clear he ha
    go_enter Try.func15, Try.ntmps15
    go_wp2_with (refine CA.out.mono ?_; rintro e w2 ⟨rfl, hb2⟩)
    go_ret2
    exact ⟨rfl, hb2⟩
  | true =>
    have hb : okL b = false := by
      cases h : okL b with
      | false => rfl
      | true => exact absurd ⟨ha, h⟩ he
    rw [ha] at CA
    rw [hb] at CB
    clear he ha hb
    go_enter Try.func15, Try.ntmps15
    go_wp2_with fail
    refine CA.out.mono ?_
    rintro e w2 ⟨rfl, hb2⟩
    have C2 := Lib.hid (CB.out w2 hb2)
    have B2 := Lib.hid hb2
    clear hb2 CB CA
    go_wp2_with (refine C2.out.mono ?_; rintro e w3 ⟨rfl, hb3⟩)
    go_ret2
    exact ⟨rfl, B2.out.trans (hb3.mono B2.out.size)⟩
set_option maxRecDepth 100000 in
set_option maxHeartbeats 16000000 in
theorem common_ok (A B : Option Addr) (a b : List En) (n m ca cb : Nat) (V : World) (hn : a.length = n) (hm : b.length = m) (h1 : n ≤ 140737488355328) (h2 : m ≤ 140737488355328) (hx : Reads V A (flat enE a)) (hy : Reads V B (flat enE b)) (oa : okL a = true) (ob : okL b = true) :
    Calls Try.prog 15 #[.slice A n ca, .slice B m cb] V (Gave (.tuple #[.int .i64 (com a b : Nat), .int .i64 0]) V) := by
  have CA := Lib.hid (right_c A a n ca V hn h1 hx)
  have CB := Lib.hid (fun W' (hb : Below V.heap.size V W') => right_c B b m cb W' hm h2 (hy.below hb))
  rw [oa] at CA
  rw [ob] at CB
  have HX := Lib.hid hx
  have HY := Lib.hid hy
  have HN := Lib.hid hn
  have HM := Lib.hid hm
  obtain ⟨q, hq⟩ : ∃ q : Nat, q = min n m := ⟨_, rfl⟩
  have hmin : min (n : Int) (m : Int) = (q : Int) := by omega
  have q1 : q ≤ n := by omega
  have q2 : q ≤ m := by omega
  have CQ := Lib.hid (show com a b ≤ q by have := com_le a b; omega)
  clear hx hy hn hm hq oa ob
  go_enter Try.func15, Try.ntmps15
  go_wp2_with fail
  refine CA.out.mono ?_
  rintro e w2 ⟨rfl, hb2⟩
  have C2 := Lib.hid (CB.out w2 hb2)
  have B2 := Lib.hid hb2
  clear hb2 CB CA
  go_wp2_with fail
  refine C2.out.mono ?_
  rintro e w3 ⟨rfl, hb3⟩
  have B3 := Lib.hid (B2.out.trans (hb3.mono B2.out.size))
  clear hb3 C2 B2
  go_wp2_with fail
  go_loopw [6] (fun i wr => ∃ k : Nat, k ≤ q ∧ i = .int .i64 k ∧ k ≤ com a b ∧ Below V.heap.size V wr) (fun i _ => q - (intOf i).toNat)
  case atStart => exact ⟨0, by omega, rfl, by omega, B3.out⟩
  case round =>
    obtain ⟨k, hk, rfl, hc, hB⟩ := hrel
    have CC := Lib.hid hc
    have BB := Lib.hid hB
    by_cases hlt : k < q
    · have kx : k < a.length := by rw [HN.out]; omega
      have ky : k < b.length := by rw [HM.out]; omega
      obtain ⟨⟨u0, u1, u2⟩, ex⟩ : ∃ u, a[k]? = some u := ⟨_, List.getElem?_eq_getElem kx⟩
      obtain ⟨⟨v0, v1, v2⟩, ey⟩ : ∃ u, b[k]? = some u := ⟨_, List.getElem?_eq_getElem ky⟩
      obtain ⟨b1, o1, rfl, _, x0, x1, x2⟩ := en_at (HX.out.below hB) ex
      obtain ⟨b2, o2, rfl, _, y0, y1, y2⟩ := en_at (HY.out.below hB) ey
      have i1 : (k : Int) < (q : Int) := by omega
      have i2 : (k : Int) < (n : Int) := by omega
      have i3 : (k : Int) < (m : Int) := by omega
      have ne := fun w => eql_en u0 u1 u2 v0 v1 v2 w
      have gd := fun op x y w => guard_en op x y #[.int .i64 u0, .int .i64 u1, .int .i64 u2] #[.int .i64 v0, .int .i64 v1, .int .i64 v2] w
      have EX := Lib.hid ex
      have EY := Lib.hid ey
      clear kx ky ex ey hc hB
      by_cases e : (u0, u1, u2) = (v0, v1, v2)
      · have eb : ((u0 : Int) == v0 && (u1 : Int) == v1 && (u2 : Int) == v2) = true := by
          injection e with e1 e2; injection e2 with e2 e3; subst e1 e2 e3; simp
        have E := Lib.hid (com_same CC.out EX.out (by rw [e]; exact EY.out))
        rw [eb] at ne
        clear e eb
        go_upto_region 4 with fail
        go_quiet (fail)
        go_wp2
        go_roundw
        case rel => exact ⟨k + 1, by omega, by go_num, E.out, Mem.below_drewN BB.out _⟩
        case measure => simp [intOf]; omega
      · have eb : ((u0 : Int) == v0 && (u1 : Int) == v1 && (u2 : Int) == v2) = false := by
          cases h : ((u0 : Int) == v0 && (u1 : Int) == v1 && (u2 : Int) == v2) with
          | false => rfl
          | true =>
            simp only [Bool.and_eq_true, beq_iff_eq] at h
            exact absurd (by rw [h.1.1, h.1.2, h.2]) e
        have E := Lib.hid (com_stop CC.out EX.out EY.out e)
        rw [eb] at ne
        clear e eb
        go_upto_region 4 with fail
        go_quiet (fail)
        go_wp2
        rw [E.out]
        go_ret2
        exact ⟨rfl, Mem.below_drewN BB.out _⟩
    · obtain rfl : k = q := by omega
      have E := Lib.hid (show com a b = k from Nat.le_antisymm CQ.out CC.out)
      clear hc hB
      go_upto_region 4 with fail
      go_quiet (fail)
      go_wp2
      rw [E.out]
      go_ret2
      exact ⟨rfl, Mem.below_drewN BB.out _⟩
theorem KeysTo.more {a b : List En} {n : Nat} {js : List Int} (h : KeysTo a n js) (hn : a.length = n) : KeysTo (a ++ b) n js := by
  refine ⟨h.1, fun x => ?_, h.2.2⟩
  rw [h.2.1, List.take_of_length_le (Nat.le_of_eq hn), List.take_append_of_le_length (by omega), List.take_of_length_le (Nat.le_of_eq hn)]
set_option maxRecDepth 100000 in
set_option maxHeartbeats 16000000 in
theorem pkeys_c (A B : Option Addr) (a b : List En) (n m ca cb : Nat) (V : World) (hn : a.length = n) (hm : b.length = m) (h1 : n ≤ 400) (h2 : m ≤ 400) (hx : Reads V A (flat enE a)) (hy : Reads V B (flat enE b)) (fa : FitL a) (fb : FitL b) (ks : List Int) (nk : Nat) (hk : IsKeys ks (a ++ b)) (hnk : ks.length = nk) :
    Calls Try.prog 29 #[.slice A n ca, .slice B m cb] V (fun e W' => ∃ K d, e = .returned (.slice K nk d) ∧ nk ≤ d ∧ Reads W' K (ks.map (Value.int .i64)) ∧ Below V.heap.size V W') := by
  have HX := Lib.hid hx
  have HY := Lib.hid hy
  have HN := Lib.hid hn
  have HM := Lib.hid hm
  have FA := Lib.hid fa
  have FB := Lib.hid fb
  have HK := Lib.hid hk
  have HNK := Lib.hid hnk
  have hmm := @run_makeMap Try.prog
  have G0 := Lib.hid (GMap.made V (.bool false))
  have BA := Lib.hid (low_lit V (.map #[] 0))
  clear hx hy hn hm fa fb hk hnk
  go_enter Try.func29, Try.ntmps29
  go_wp2_with fail
  go_loopw [13] (fun i wr => ∃ (j : Nat) (f : Int → Value) (js : List Int), j ≤ n ∧ i = .int .i64 j ∧ KeysTo a j js ∧ GMap wr V.heap.size (.bool false) f js ∧ Below V.heap.size V wr) (fun i _ => n - (Go.RowKit.intOf i).toNat)
  case atStart => exact ⟨0, _, [], by omega, rfl, KeysTo.start a, G0.out, BA.out⟩
  case round =>
    obtain ⟨j, f, js, hj, rfl, hks, hG, hBw⟩ := hrel
    have KS := Lib.hid hks
    have GG := Lib.hid hG
    have BW := Lib.hid hBw
    clear hks hG G0 BA hmm
    by_cases hlt : j < n
    · have jl : j < a.length := by rw [HN.out]; exact hlt
      obtain ⟨⟨x0, x1, x2⟩, hx⟩ : ∃ x, a[j]? = some x := ⟨_, List.getElem?_eq_getElem jl⟩
      obtain ⟨f0, f1, f2⟩ := FA.out _ (List.mem_of_getElem? hx)
      obtain ⟨b1, o1, rfl, _, y0, y1, y2⟩ := en_at (HX.out.below hBw) hx
      obtain ⟨d0, d1, d2⟩ := box_en (w := wr) (x0, x1, x2)
      have KS2 := Lib.hid (KS.out.step hx)
      have G1 := Lib.hid (GG.out.alloc (.cells #[.int .i64 x0, .int .i64 x1, .int .i64 x2] tE))
      have B1 := Lib.hid (hBw.trans ((low_lit wr (.cells #[.int .i64 x0, .int .i64 x1, .int .i64 x2] tE)).mono hBw.size))
      simp only at y0 y1 y2 d0 d1 d2 f2 KS2
      have W2 := Lib.hid (wf_of f2)
      have KL := Lib.hid (show js.length < 1000000 by have := KS.out.2.2; omega)
      have i3 : (j : Int) < (n : Int) := by omega
      clear jl hx f0 f1 f2 hBw
      go_wp2_with (refine wpList_update_m Try.underlying41 rfl _ _ _ (by rfl) G1.out KL.out x2 W2.out rfl rfl _ rfl ?_; intro wz m2 g2)
      go_roundw
      case rel => exact ⟨j + 1, _, _, by omega, by go_num, KS2.out, m2.out, B1.out.grown g2.out B1.out.size (fun r hr => by injection hr with hr; omega)⟩
      case measure => simp [Go.RowKit.intOf]; omega
    · obtain rfl : j = n := by omega
      have KM := Lib.hid (KS.out.more (b := b) HN.out)
      clear hBw KS
      go_wp2_with fail
      go_loopw [23] (fun i wr => ∃ (p : Nat) (f : Int → Value) (js : List Int), p ≤ m ∧ i = .int .i64 p ∧ KeysTo (a ++ b) (j + p) js ∧ GMap wr V.heap.size (.bool false) f js ∧ Below V.heap.size V wr) (fun i _ => m - (Go.RowKit.intOf i).toNat)
      case atStart => exact ⟨0, f, js, by omega, rfl, KM.out, GG.out, BW.out⟩
      case round =>
        clear KM GG BW
        obtain ⟨p, f2, ps, hp, rfl, hks, hG, hBw⟩ := hrel
        have KS := Lib.hid hks
        have GG := Lib.hid hG
        have BW := Lib.hid hBw
        clear hks hG
        by_cases hlt2 : p < m
        · have pl : p < b.length := by rw [HM.out]; exact hlt2
          obtain ⟨⟨x0, x1, x2⟩, hx⟩ : ∃ x, b[p]? = some x := ⟨_, List.getElem?_eq_getElem pl⟩
          have hx2 : (a ++ b)[j + p]? = some (x0, x1, x2) := by rw [List.getElem?_append_right (by rw [HN.out]; omega), HN.out, Nat.add_sub_cancel_left]; exact hx
          obtain ⟨f0, f1, f2⟩ := FB.out _ (List.mem_of_getElem? hx)
          obtain ⟨b1, o1, rfl, _, y0, y1, y2⟩ := en_at (HY.out.below hBw) hx
          obtain ⟨d0, d1, d2⟩ := box_en (w := wr) (x0, x1, x2)
          have KS2 := Lib.hid (KS.out.step hx2)
          have G1 := Lib.hid (GG.out.alloc (.cells #[.int .i64 x0, .int .i64 x1, .int .i64 x2] tE))
          have B1 := Lib.hid (hBw.trans ((low_lit wr (.cells #[.int .i64 x0, .int .i64 x1, .int .i64 x2] tE)).mono hBw.size))
          simp only at y0 y1 y2 d0 d1 d2 f2 KS2
          have W2 := Lib.hid (wf_of f2)
          have KL := Lib.hid (show ps.length < 1000000 by have := KS.out.2.2; omega)
          have i3 : (p : Int) < (m : Int) := by omega
          clear pl hx hx2 f0 f1 f2 hBw
          go_wp2_with (refine wpList_update_m Try.underlying41 rfl _ _ _ (by rfl) G1.out KL.out x2 W2.out rfl rfl _ rfl ?_; intro wz m2 g2)
          go_roundw
          case rel => exact ⟨p + 1, _, _, by omega, by go_num, KS2.out, m2.out, B1.out.grown g2.out B1.out.size (fun r hr => by injection hr with hr; omega)⟩
          case measure => simp [Go.RowKit.intOf]; omega
        · obtain rfl : p = m := by omega
          have LEN : (a ++ b).length = j + p := by rw [List.length_append, HN.out, HM.out]
          have hmem : ∀ x, x ∈ ks ↔ x ∈ ps := fun x => by
            rw [HK.out.2, KS.out.2.1, List.take_of_length_le (Nat.le_of_eq LEN)]
          have hwf : ∀ x ∈ ps, (Lit.int .i64 x).wf = true := fun x hx => by
            have := (KS.out.2.1 x).1 hx
            rw [List.take_of_length_le (Nat.le_of_eq LEN)] at this
            obtain ⟨e, he, rfl⟩ := List.mem_map.1 this
            rcases List.mem_append.1 he with h | h
            · exact wf_of (FA.out e h).2.2
            · exact wf_of (FB.out e h).2.2
          have SC := Lib.hid (sorted_c GG.out KS.out.1 hwf ks HK.out.1 hmem nk HNK.out)
          have KC := Lib.hid (keys_c (some V.heap.size) wr)
          clear hBw hmem hwf LEN
          go_wp2_with fail
          refine KC.out.mono ?_
          rintro u wa ⟨rfl, hwa⟩
          rw [hwa]
          clear hwa
          go_wp2_with fail
          refine SC.out.mono ?_
          rintro u wb ⟨C, cc, rfl, hcc, hr, hb⟩
          have R := Lib.hid hr
          have BU := Lib.hid (BW.out.trans (hb.mono BW.out.size))
          have HCC := Lib.hid hcc
          clear hr hb SC KC hcc
          go_wp2
          go_ret
          exact ⟨C, cc, rfl, HCC.out, R.out, BU.out⟩
end Go.Proofs.Ytmnhhfhdaagmhaa.Lg
