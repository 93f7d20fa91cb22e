/-
  LogsMerge, walked over what the laws take of the program.
-/
import Derived.Test.YtmnhhfhdaagmhaaLgCommonW
import Derived.Test.YtmnhhfhdaagmhaaLgKeys
import Derived.Test.YtmnhhfhdaagmhaaLgCat
import Derived.Test.YtmnhhfhdaagmhaaLgRef3
import Derived.Test.YtmnhhfhdaagmhaaLgBestW
import Derived.Deep.RegionWith
import Derived.Deep.DeepCutAuto
namespace Go.Proofs.Ytmnhhfhdaagmhaa.Lg
set_option linter.unusedVariables false
set_option linter.unusedSimpArgs false
open Go.RowKit Mem Gt
open Jump (Gave equalZ_c)

theorem reads_drop {V : World} {A : Option Addr} {a : List En} (h : Reads V A (flat enE a)) (k : Nat) : Reads V (Option.map (fun x => x.add (k * 3)) A) (flat enE (a.drop k)) := fun i v hv => by
  obtain ⟨q, j, x, e, hx, hj⟩ := flat_from enE (by decide) hv
  rw [List.getElem?_drop] at hx
  obtain ⟨b, o, e', h2, h3⟩ := h _ _ (flat_at enE hx hj)
  refine ⟨b, o + k * 3, by rw [e']; simp [Addr.add_lit], h2, ?_⟩
  rw [e, show o + k * 3 + (q * 3 + j) = o + ((k + q) * 3 + j) by omega]
  exact h3
theorem reads_nil' {V : World} (A : Option Addr) : Reads V A (flat enE []) := fun i v hv => by simp [flat] at hv
set_option maxRecDepth 100000 in
set_option maxHeartbeats 16000000 in
/-- One of the logs is not valid. -/
theorem merge_bad (hC : CommonSpec) (hM : MergeSpec) (A B : Option Addr) (a b : List En) (n m ca cb : Nat) (W : World) (hn : a.length = n) (hm : b.length = m) (h1 : n ≤ ca) (h2 : m ≤ cb) (h3 : ca ≤ 140737488355328) (h4 : cb ≤ 140737488355328)
    (ha : Reads W A (flat enE a)) (hb : Reads W B (flat enE b)) (fa : FitL a) (fb : FitL b) (he : lgE a b = 1) : Calls Try.prog 4 #[.slice A n ca, .slice B m cb] W (Law.Yes W) := by
  have P1 := Lib.hid (hC A B a b n m ca cb W 0 1 hn hm (by omega) (by omega) ha hb he rfl)
  have M1 := Lib.hid (fun V (hV : Below W.heap.size W V) => hM A B a b n m ca cb V [] [] [] 0 0 0 1 hn hm h1 h2 (by omega) (by omega) (by omega) (by omega) (ha.below hV) (hb.below hV) fa fb he rfl rfl rfl rfl rfl rfl)
  have RA := Lib.hid (fun V (hV : Below W.heap.size W V) => oright_c A a n ca V hn (by omega) (ha.below hV))
  have RB := Lib.hid (fun V (hV : Below W.heap.size W V) => oright_c B b m cb V hm (by omega) (hb.below hV))
  have HE := Lib.hid he
  clear ha hb fa fb hn hm he
  go_enter Try.func4, Try.ntmps4
  go_wp2_with fail
  refine P1.out.mono ?_
  rintro u w1 ⟨rfl, hb⟩
  have B1 := Lib.hid hb
  have E1 := Lib.hid (M1.out w1 hb)
  clear hb P1 M1
  go_wp2_with fail
  refine E1.out.mono ?_
  rintro u w2 ⟨A1, c1, K1, d1, D1, q1, rfl, _, _, _, _, hb⟩
  have B2 := Lib.hid (B1.out.trans (hb.mono B1.out.size))
  have E2 := Lib.hid (RA.out w2 B2.out)
  clear hb E1 B1
  cases hv : okL a with
  | false =>
    have Q := E2.out
    rw [hv] at Q
    have E2' := Lib.hid Q
    clear Q E2 hv
    go_wp2_with fail
    refine E2'.out.mono ?_
    rintro u w3 ⟨rfl, hb⟩
    have B3 := Lib.hid (B2.out.trans (hb.mono B2.out.size))
    clear hb
    go_wp2
    go_ret
    exact ⟨rfl, B3.out⟩
  | true =>
    have hvb : okL b = false := by
      cases h : okL b with
      | false => rfl
      | true => have := HE.out; unfold lgE at this; rw [if_pos ⟨hv, h⟩] at this; cases this
    have Q := E2.out
    rw [hv] at Q
    have E2' := Lib.hid Q
    clear Q E2 hv
    go_wp2_with fail
    refine E2'.out.mono ?_
    rintro u w3 ⟨rfl, hb⟩
    have B3 := Lib.hid (B2.out.trans (hb.mono B2.out.size))
    have Q := RB.out w3 B3.out
    rw [hvb] at Q
    have E3 := Lib.hid Q
    clear hb Q hvb
    go_wp2_with fail
    refine E3.out.mono ?_
    rintro u w4 ⟨rfl, hb⟩
    have B4 := Lib.hid (B3.out.trans (hb.mono B3.out.size))
    clear hb
    go_wp2
    go_ret
    exact ⟨rfl, B4.out⟩
set_option maxRecDepth 100000 in
set_option maxHeartbeats 16000000 in
theorem merge_gg (hC : CommonSpec) (hM : MergeSpec) (A B : Option Addr) (a b : List En) (n m ca cb k : Nat) (W : World) (hn : a.length = n) (hm : b.length = m) (h1 : n ≤ ca) (h2 : m ≤ cb) (h3 : ca ≤ 140737488355328) (h4 : cb ≤ 140737488355328)
    (ha : Reads W A (flat enE a)) (hb : Reads W B (flat enE b)) (fa : FitL a) (fb : FitL b) (hk : com a b = k) (o1 : okL a = true) (o2 : okL b = true) (hA : ¬ ca = k) (hB : ¬ cb = k) : Calls Try.prog 4 #[.slice A n ca, .slice B m cb] W (Law.Yes W) := by
  have he : lgE a b = 0 := by unfold lgE; rw [if_pos ⟨o1, o2⟩]
  obtain ⟨ks, hks⟩ : ∃ ks, keysOf (rest2 a b) = ks := ⟨_, rfl⟩
  obtain ⟨wr, hwr⟩ : ∃ wr, a.drop k = wr := ⟨_, rfl⟩
  obtain ⟨nk, hnk⟩ : ∃ nk, ks.length = nk := ⟨_, rfl⟩
  obtain ⟨nw, hnw⟩ : ∃ nw, wr.length = nw := ⟨_, rfl⟩
  have kn : k ≤ n := by have := (com_le a b).1; omega
  have km : k ≤ m := by have := (com_le a b).2; omega
  have n4 : n ≤ 400 := by rw [← hn]; exact okL_len o1
  have m4 : m ≤ 400 := by rw [← hm]; exact okL_len o2
  have P1 := Lib.hid (hC A B a b n m ca cb W k 0 hn hm (by omega) (by omega) ha hb he (by rw [if_pos rfl]; exact hk))
  have M1 := Lib.hid (fun V (hV : Below W.heap.size W V) => hM A B a b n m ca cb V b wr ks m nk nw 0 hn hm h1 h2 (by omega) (by omega) (by omega) (by omega) (ha.below hV) (hb.below hV) fa fb he rfl hks (by rw [if_pos rfl, hk]; exact hwr) hm hnk hnw)
  have RA := Lib.hid (fun V (hV : Below W.heap.size W V) => show Calls Try.prog 13 #[.slice A n ca] V (Gave (.bool true) V) from by have := oright_c A a n ca V hn (by omega) (ha.below hV); rwa [o1] at this)
  have RB := Lib.hid (fun V (hV : Below W.heap.size W V) => show Calls Try.prog 13 #[.slice B m cb] V (Gave (.bool true) V) from by have := oright_c B b m cb V hm (by omega) (hb.below hV); rwa [o2] at this)
  have OC := Lib.hid (fun V (hV : Below W.heap.size W V) => show Calls Try.prog 17 #[.slice A n ca, .slice B m cb] V (Gave (.int .i64 (k : Nat)) V) from by have := ocommon_c A B a b n m ca cb V hn hm (by omega) (by omega) (ha.below hV) (hb.below hV); rwa [hk] at this)
  have HXA := Lib.hid ha
  have HXB := Lib.hid hb
  have HNA := Lib.hid hn
  have HNB := Lib.hid hm
  obtain ⟨wo, hwo⟩ : ∃ wo, b.drop k = wo := ⟨_, rfl⟩
  have HWR := Lib.hid hwr
  have HWO := Lib.hid hwo
  have HNW := Lib.hid hnw
  have HNK := Lib.hid hnk
  have NWN := Lib.hid (show nw = n - k by have e := congrArg List.length hwr; rw [List.length_drop] at e; omega)
  have HNO := Lib.hid (show wo.length = m - k by have e := congrArg List.length hwo; rw [List.length_drop] at e; omega)
  have HKS := Lib.hid (show IsKeys ks (wr ++ wo) by rw [← hks, ← hwr, ← hwo, ← hk]; exact isKeys_of _)
  have FW := Lib.hid (show FitL (wr ++ wo) from fun e he => by
    rw [← hwr, ← hwo] at he
    rcases List.mem_append.1 he with h | h
    · exact fa e (List.mem_of_mem_drop h)
    · exact fb e (List.mem_of_mem_drop h))
  have hAf : (ca = k) = False := by simp [hA]
  have hBf : (cb = k) = False := by simp [hB]
  have i1 : (k : Int) ≤ (n : Int) := by omega
  have i2 : (k : Int) ≤ (m : Int) := by omega
  have kk : ((k : Int) != (k : Int)) = false := by simp
  clear ha hb hn hm he o1 o2 hk hks hwr hnk hnw
  go_enter Try.func4, Try.ntmps4
  go_wp2_with fail
  refine P1.out.mono ?_
  rintro u w1 ⟨rfl, hb⟩
  have B1 := Lib.hid hb
  have E1 := Lib.hid (M1.out w1 hb)
  clear hb P1 M1
  go_wp2_with fail
  refine E1.out.mono ?_
  rintro u w2 ⟨A1, c1, K1, d1, D1, q1, rfl, _, hr, hrk, hrd, hb⟩
  have B2 := Lib.hid (B1.out.trans (hb.mono B1.out.size))
  have R2 := Lib.hid hr
  have K2 := Lib.hid hrk
  have D2 := Lib.hid hrd
  have E2 := Lib.hid (RA.out w2 B2.out)
  clear hb hr hrk hrd E1 B1 RA
  go_wp2_with fail
  refine E2.out.mono ?_
  rintro u w3 ⟨rfl, hb⟩
  have B3 := Lib.hid (B2.out.trans (hb.mono B2.out.size))
  have R3 := Lib.hid (R2.out.below hb)
  have K3 := Lib.hid (K2.out.below hb)
  have D3 := Lib.hid (D2.out.below hb)
  have E3 := Lib.hid (RB.out w3 B3.out)
  clear hb E2 B2 RB R2 K2 D2
  go_wp2_with fail
  refine E3.out.mono ?_
  rintro u w4 ⟨rfl, hb⟩
  have B4 := Lib.hid (B3.out.trans (hb.mono B3.out.size))
  have R4 := Lib.hid (R3.out.below hb)
  have K4 := Lib.hid (K3.out.below hb)
  have D4 := Lib.hid (D3.out.below hb)
  have E4 := Lib.hid (OC.out w4 B4.out)
  clear hb E3 B3 OC R3 K3 D3
  go_wp2_with fail
  refine E4.out.mono ?_
  rintro u w5 ⟨rfl, hb⟩
  have B5 := Lib.hid (B4.out.trans (hb.mono B4.out.size))
  have R5 := Lib.hid (R4.out.below hb)
  have K5 := Lib.hid (K4.out.below hb)
  have D5 := Lib.hid (D4.out.below hb)
  have EQ1 := Lib.hid (show Calls Try.prog 18 #[.slice A1 m c1, .slice B m cb] w5 (Gave (.bool true) w5) from by
    have := equalEn_c A1 B b b m m c1 cb w5 HNB.out HNB.out (by omega) R5.out (HXB.out.below B5.out)
    rwa [show eqEn b b = true by unfold eqEn; simp] at this)
  clear hb E4 B4 R4 K4 D4
  go_wp2_with fail
  refine EQ1.out.mono ?_
  rintro u w6 ⟨rfl, hb⟩
  have B6 := Lib.hid (B5.out.trans (hb.mono B5.out.size))
  have K6 := Lib.hid (K5.out.below hb)
  have D6 := Lib.hid (D5.out.below hb)
  clear hb EQ1 B5 R5 K5 D5
  have OW := Lib.hid (show Reads w6 (Option.map (fun x => x.add (k * 3)) A) (flat enE wr) from by
    rw [← HWR.out]
    exact reads_drop (HXA.out.below B6.out) k)
  have EQ2 := Lib.hid (show Calls Try.prog 18 #[.slice D1 nw q1, .slice (Option.map (fun x => x.add (k * 3)) A) (n - k) (ca - k)] w6 (Gave (.bool true) w6) from by
    have := equalEn_c D1 (Option.map (fun x => x.add (k * 3)) A) wr wr nw (n - k) q1 (ca - k) w6 HNW.out (HNW.out.trans NWN.out) (by have := NWN.out; omega) D6.out OW.out
    rwa [show eqEn wr wr = true by unfold eqEn; simp] at this)
  clear D6 OW
  go_wp2_with fail
  refine EQ2.out.mono ?_
  rintro u w7 ⟨rfl, hb⟩
  have B7 := Lib.hid (B6.out.trans (hb.mono B6.out.size))
  have K7 := Lib.hid (K6.out.below hb)
  have G0 := Lib.hid (GMap.made w7 (.bool false))
  have hmm := @run_makeMap Try.prog
  have CC := Lib.hid (fun (X : World) (g : Nat) (hX : Below w7.heap.size w7 X) (hg : g < X.heap.size) (h0 : X.cell? ⟨g, 0, none⟩ = some (.slice (Option.map (fun x => x.add (k * 3)) A) (n - k) (ca - k))) (h1 : X.cell? ⟨g, 1, none⟩ = some (.slice (Option.map (fun x => x.add (k * 3)) B) (m - k) (cb - k))) =>
    concat_t g (n - k) (m - k) ((n - k) + (m - k)) (ca - k) (cb - k) (Option.map (fun x => x.add (k * 3)) A) (Option.map (fun x => x.add (k * 3)) B) wr wo X (HNW.out.trans NWN.out) HNO.out rfl (by omega) (by omega) hg h0 h1 (by
      rw [← HWR.out]
      have hra := (HXA.out.below B7.out).below hX
      exact reads_drop hra k) (by
      rw [← HWO.out]
      have hrb := (HXB.out.below B7.out).below hX
      exact reads_drop hrb k))
  clear hb EQ2 B6 K6
  obtain ⟨es, hes⟩ : ∃ es, es = wr ++ wo := ⟨_, rfl⟩
  obtain ⟨q, hq⟩ : ∃ q, q = (n - k) + (m - k) := ⟨_, rfl⟩
  have q8 : q ≤ 800 := by omega
  have e8 : (w7.alloc (.map #[] 0)).heap.size = w7.heap.size + 1 := by simp
  have CX := Lib.hid (show Calls Try.prog 19 #[.slice (some ⟨w7.heap.size + 1, 0, none⟩) 2 2] (((w7.alloc (.map #[] 0)).alloc (.cells #[.slice (Option.map (fun x => x.add (k * 3)) A) (n - k) (ca - k), .slice (Option.map (fun x => x.add (k * 3)) B) (m - k) (cb - k)] 23)).drew) (NewEn es q (((w7.alloc (.map #[] 0)).alloc (.cells #[.slice (Option.map (fun x => x.add (k * 3)) A) (n - k) (ca - k), .slice (Option.map (fun x => x.add (k * 3)) B) (m - k) (cb - k)] 23)).drew)) from by
    have kn := Mem.Known.made (w7.alloc (.map #[] 0)) 23 #[.slice (Option.map (fun x => x.add (k * 3)) A) (n - k) (ca - k), .slice (Option.map (fun x => x.add (k * 3)) B) (m - k) (cb - k)]
    rw [e8] at kn
    rw [hes, hq]
    exact CC.out _ (w7.heap.size + 1) (Mem.below_drew ((low_lit w7 _).alloc (by rw [e8]; omega) _)) kn.lt (kn.cell 0) (kn.cell 1))
  have BX := Lib.hid (show Below w7.heap.size w7 (((w7.alloc (.map #[] 0)).alloc (.cells #[.slice (Option.map (fun x => x.add (k * 3)) A) (n - k) (ca - k), .slice (Option.map (fun x => x.add (k * 3)) B) (m - k) (cb - k)] 23)).drew) from Mem.below_drew ((low_lit w7 _).alloc (by rw [e8]; omega) _))
  have GX := Lib.hid (show GMap (((w7.alloc (.map #[] 0)).alloc (.cells #[.slice (Option.map (fun x => x.add (k * 3)) A) (n - k) (ca - k), .slice (Option.map (fun x => x.add (k * 3)) B) (m - k) (cb - k)] 23)).drew) w7.heap.size (.bool false) (fun _ => .bool false) [] from (G0.out.alloc _).drew)
  have SX := Lib.hid (show w7.heap.size < (((w7.alloc (.map #[] 0)).alloc (.cells #[.slice (Option.map (fun x => x.add (k * 3)) A) (n - k) (ca - k), .slice (Option.map (fun x => x.add (k * 3)) B) (m - k) (cb - k)] 23)).drew).heap.size by show w7.heap.size < ((w7.alloc (.map #[] 0)).alloc _).heap.size; simp; omega)
  have HES := Lib.hid hes
  have HQ := Lib.hid hq
  clear CC hes hq e8
  go_upto_region 9 with fail
  go_cut [95, 96, 97] (fun v l i wx => ∃ (A5 : Option Addr) (c5 S : Nat), v = .slice A5 q c5 ∧ l = .int .i64 q ∧ i = .int .i64 0 ∧ ETab wx S (.slice A5 q c5) es ∧ w7.heap.size < S ∧ GMap wx w7.heap.size (.bool false) (fun _ => .bool false) [] ∧ Below w7.heap.size w7 wx)
  case first =>
    go_region_with (go_at_call 19; refine CX.out.mono ?_; rintro u w9 ⟨A5, c5, rfl, hT, hb⟩; have T9 := Lib.hid hT; have B9 := Lib.hid (BX.out.trans (hb.mono BX.out.size)); have G9 := Lib.hid (GX.out.later hb); clear hT hb)
    all_goals
      go_wp2
      go_meet
      exact ⟨A5, c5, _, rfl, rfl, rfl, T9.out, SX.out, G9.out, B9.out⟩
  case rest =>
    obtain ⟨A5, c5, S, rfl, rfl, rfl, hT, hS, hG, hb⟩ := hcut
    obtain ⟨w9, rfl⟩ : ∃ w9 : World, w9 = wc := ⟨_, rfl⟩
    have T9 := Lib.hid hT
    have G9 := Lib.hid hG
    have B9 := Lib.hid hb
    have HS := Lib.hid hS
    have LEN := Lib.hid (show es.length = q by rw [HES.out, HQ.out, List.length_append, HNW.out, HNO.out, NWN.out])
    clear hT hG hb hS CX BX GX SX G0 hmm
    go_wp2
    go_loopw [97] (fun i wr => ∃ (j : Nat) (f : Int → Value) (js : List Int), j ≤ q ∧ i = .int .i64 j ∧ KeysTo es j js ∧ GMap wr w7.heap.size (.bool false) f js ∧ ETab wr S (.slice A5 q c5) es ∧ Below w7.heap.size w7 wr) (fun i _ => q - (Go.RowKit.intOf i).toNat)
    case atStart => exact ⟨0, _, [], by omega, rfl, KeysTo.start es, G9.out, T9.out, B9.out⟩
    case round =>
      obtain ⟨j, f, js, hj, rfl, hks, hG, hT, hBw⟩ := hrel
      have KS := Lib.hid hks
      have GG := Lib.hid hG
      have TT := Lib.hid hT
      have BW := Lib.hid hBw
      clear hks hG T9 G9 B9
      by_cases hlt : j < q
      · have jl : j < es.length := by rw [LEN.out]; exact hlt
        obtain ⟨⟨x0, x1, x2⟩, hx⟩ : ∃ x, es[j]? = some x := ⟨_, List.getElem?_eq_getElem jl⟩
        obtain ⟨f0, f1, f2⟩ := FW.out _ (by rw [← HES.out]; exact List.mem_of_getElem? hx)
        obtain ⟨b1, o1, rfl, _, y0, y1, y2⟩ := en_at (Tab.reads hT) hx
        obtain ⟨d0, d1, d2⟩ := box_en (w := wr) (x0, x1, x2)
        have KS2 := Lib.hid (KS.out.step hx)
        have G1 := Lib.hid (GG.out.alloc (.cells #[.int .i64 x0, .int .i64 x1, .int .i64 x2] tE))
        have T1 := Lib.hid (Tab.alloc hT (.cells #[.int .i64 x0, .int .i64 x1, .int .i64 x2] tE))
        have B1 := Lib.hid (hBw.trans ((low_lit wr (.cells #[.int .i64 x0, .int .i64 x1, .int .i64 x2] tE)).mono hBw.size))
        simp only at y0 y1 y2 d0 d1 d2 f2 KS2
        have W2 := Lib.hid (wf_of f2)
        have KL := Lib.hid (show js.length < 1000000 by have := KS.out.2.2; omega)
        have i3 : (j : Int) < (q : Int) := by omega
        have NE := Lib.hid (show (Value.slice (some ⟨b1, o1, none⟩) q c5).ownBlock = none ∨ (Value.slice (some ⟨b1, o1, none⟩) q c5).ownBlock ≠ some w7.heap.size from .inr (fun e => by have := (Tab.lt hT _ e).1; have := HS.out; omega))
        clear jl hx f0 f1 f2 hBw hT
        go_wp2_with (refine wpList_update_m Try.underlying41 rfl _ _ _ (by rfl) G1.out KL.out x2 W2.out rfl rfl _ rfl ?_; intro wz m2 g2)
        go_roundw
        case rel => exact ⟨j + 1, _, _, by omega, by go_num, KS2.out, m2.out, Tab.kept T1.out g2.out NE.out, B1.out.grown g2.out B1.out.size (fun r hr => by injection hr with hr; omega)⟩
        case measure => simp [Go.RowKit.intOf]; omega
      · obtain rfl : j = q := by omega
        have hmem : ∀ x, x ∈ ks ↔ x ∈ js := fun x => by
          rw [HKS.out.2, KS.out.2.1, ← HES.out, List.take_of_length_le (Nat.le_of_eq LEN.out)]
        have hwf : ∀ x ∈ js, (Lit.int .i64 x).wf = true := fun x hx => by
          have := (KS.out.2.1 x).1 hx
          rw [List.take_of_length_le (Nat.le_of_eq LEN.out)] at this
          obtain ⟨e, he, rfl⟩ := List.mem_map.1 this
          exact wf_of (FW.out e (by rw [← HES.out]; exact he)).2.2
        have SC := Lib.hid (sorted_c GG.out KS.out.1 hwf ks HKS.out.1 hmem nk HNK.out)
        have KC := Lib.hid (keys_c (some w7.heap.size) wr)
        have EZ := Lib.hid (fun (V : World) C cc (h : Below wr.heap.size wr V) (hr : Reads V C (ks.map (Value.int .i64))) => show Calls Try.prog 20 #[.slice K1 nk d1, .slice C nk cc] V (Gave (.bool true) V) from by
          have := equalZ_c K1 C ks ks nk nk d1 cc V HNK.out HNK.out (by have := KS.out.2.2; have hp := ((List.perm_ext_iff_of_nodup (HKS.out.1.imp (fun h e => by omega)) KS.out.1).2 hmem).length_eq; have := HNK.out; omega) (by have := KS.out.2.2; have hp := ((List.perm_ext_iff_of_nodup (HKS.out.1.imp (fun h e => by omega)) KS.out.1).2 hmem).length_eq; have := HNK.out; omega) ((K7.out.below BW.out).below h) hr
          rwa [decide_eq_true rfl] at this)
        have BV := Lib.hid (B7.out.trans (BW.out.mono B7.out.size))
        clear hT hBw hmem hwf
        go_wp2_with fail
        refine KC.out.mono ?_
        rintro u wa ⟨rfl, hwa⟩
        rw [hwa]
        clear hwa
        go_wp2_with fail
        refine SC.out.mono ?_
        rintro u wb ⟨C, cc, rfl, _, hr, hb⟩
        have EZ2 := Lib.hid (EZ.out wb C cc hb hr)
        have BU := Lib.hid (BV.out.trans (hb.mono BV.out.size))
        clear hr hb EZ SC KC
        go_wp2_with fail
        refine EZ2.out.mono ?_
        rintro u wd ⟨rfl, hb⟩
        have BY := Lib.hid (BU.out.trans (hb.mono BU.out.size))
        clear hb
        go_wp2
        go_ret
        exact ⟨rfl, BY.out⟩
set_option maxRecDepth 100000 in
set_option maxHeartbeats 16000000 in
theorem merge_ge (hC : CommonSpec) (hM : MergeSpec) (A B : Option Addr) (a b : List En) (n m ca cb k : Nat) (W : World) (hn : a.length = n) (hm : b.length = m) (h1 : n ≤ ca) (h2 : m ≤ cb) (h3 : ca ≤ 140737488355328) (h4 : cb ≤ 140737488355328)
    (ha : Reads W A (flat enE a)) (hb : Reads W B (flat enE b)) (fa : FitL a) (fb : FitL b) (hk : com a b = k) (o1 : okL a = true) (o2 : okL b = true) (hA : ¬ ca = k) (hB : cb = k) : Calls Try.prog 4 #[.slice A n ca, .slice B m cb] W (Law.Yes W) := by
  obtain rfl : k = cb := hB.symm
  have he : lgE a b = 0 := by unfold lgE; rw [if_pos ⟨o1, o2⟩]
  obtain ⟨ks, hks⟩ : ∃ ks, keysOf (rest2 a b) = ks := ⟨_, rfl⟩
  obtain ⟨wr, hwr⟩ : ∃ wr, a.drop k = wr := ⟨_, rfl⟩
  obtain ⟨nk, hnk⟩ : ∃ nk, ks.length = nk := ⟨_, rfl⟩
  obtain ⟨nw, hnw⟩ : ∃ nw, wr.length = nw := ⟨_, rfl⟩
  have kn : k ≤ n := by have := (com_le a b).1; omega
  have km : k ≤ m := by have := (com_le a b).2; omega
  have n4 : n ≤ 400 := by rw [← hn]; exact okL_len o1
  have m4 : m ≤ 400 := by rw [← hm]; exact okL_len o2
  have P1 := Lib.hid (hC A B a b n m ca k W k 0 hn hm (by omega) (by omega) ha hb he (by rw [if_pos rfl]; exact hk))
  have M1 := Lib.hid (fun V (hV : Below W.heap.size W V) => hM A B a b n m ca k V b wr ks m nk nw 0 hn hm h1 h2 (by omega) (by omega) (by omega) (by omega) (ha.below hV) (hb.below hV) fa fb he rfl hks (by rw [if_pos rfl, hk]; exact hwr) hm hnk hnw)
  have RA := Lib.hid (fun V (hV : Below W.heap.size W V) => show Calls Try.prog 13 #[.slice A n ca] V (Gave (.bool true) V) from by have := oright_c A a n ca V hn (by omega) (ha.below hV); rwa [o1] at this)
  have RB := Lib.hid (fun V (hV : Below W.heap.size W V) => show Calls Try.prog 13 #[.slice B m k] V (Gave (.bool true) V) from by have := oright_c B b m k V hm (by omega) (hb.below hV); rwa [o2] at this)
  have OC := Lib.hid (fun V (hV : Below W.heap.size W V) => show Calls Try.prog 17 #[.slice A n ca, .slice B m k] V (Gave (.int .i64 (k : Nat)) V) from by have := ocommon_c A B a b n m ca k V hn hm (by omega) (by omega) (ha.below hV) (hb.below hV); rwa [hk] at this)
  have HXA := Lib.hid ha
  have HXB := Lib.hid hb
  have HNA := Lib.hid hn
  have HNB := Lib.hid hm
  obtain ⟨wo, hwo⟩ : ∃ wo, b.drop k = wo := ⟨_, rfl⟩
  have HWR := Lib.hid hwr
  have HWO := Lib.hid hwo
  have HNW := Lib.hid hnw
  have HNK := Lib.hid hnk
  have NWN := Lib.hid (show nw = n - k by have e := congrArg List.length hwr; rw [List.length_drop] at e; omega)
  have HNO := Lib.hid (show wo.length = 0 by have e := congrArg List.length hwo; rw [List.length_drop] at e; omega)
  have HKS := Lib.hid (show IsKeys ks (wr ++ wo) by rw [← hks, ← hwr, ← hwo, ← hk]; exact isKeys_of _)
  have FW := Lib.hid (show FitL (wr ++ wo) from fun e he => by
    rw [← hwr, ← hwo] at he
    rcases List.mem_append.1 he with h | h
    · exact fa e (List.mem_of_mem_drop h)
    · exact fb e (List.mem_of_mem_drop h))
  have hAf : (ca = k) = False := by simp [hA]
  have i1 : (k : Int) ≤ (n : Int) := by omega
  have i2 : (k : Int) ≤ (m : Int) := by omega
  have kk : ((k : Int) != (k : Int)) = false := by simp
  clear ha hb hn hm he o1 o2 hk hks hwr hnk hnw
  go_enter Try.func4, Try.ntmps4
  go_wp2_with fail
  refine P1.out.mono ?_
  rintro u w1 ⟨rfl, hb⟩
  have B1 := Lib.hid hb
  have E1 := Lib.hid (M1.out w1 hb)
  clear hb P1 M1
  go_wp2_with fail
  refine E1.out.mono ?_
  rintro u w2 ⟨A1, c1, K1, d1, D1, q1, rfl, _, hr, hrk, hrd, hb⟩
  have B2 := Lib.hid (B1.out.trans (hb.mono B1.out.size))
  have R2 := Lib.hid hr
  have K2 := Lib.hid hrk
  have D2 := Lib.hid hrd
  have E2 := Lib.hid (RA.out w2 B2.out)
  clear hb hr hrk hrd E1 B1 RA
  go_wp2_with fail
  refine E2.out.mono ?_
  rintro u w3 ⟨rfl, hb⟩
  have B3 := Lib.hid (B2.out.trans (hb.mono B2.out.size))
  have R3 := Lib.hid (R2.out.below hb)
  have K3 := Lib.hid (K2.out.below hb)
  have D3 := Lib.hid (D2.out.below hb)
  have E3 := Lib.hid (RB.out w3 B3.out)
  clear hb E2 B2 RB R2 K2 D2
  go_wp2_with fail
  refine E3.out.mono ?_
  rintro u w4 ⟨rfl, hb⟩
  have B4 := Lib.hid (B3.out.trans (hb.mono B3.out.size))
  have R4 := Lib.hid (R3.out.below hb)
  have K4 := Lib.hid (K3.out.below hb)
  have D4 := Lib.hid (D3.out.below hb)
  have E4 := Lib.hid (OC.out w4 B4.out)
  clear hb E3 B3 OC R3 K3 D3
  go_wp2_with fail
  refine E4.out.mono ?_
  rintro u w5 ⟨rfl, hb⟩
  have B5 := Lib.hid (B4.out.trans (hb.mono B4.out.size))
  have R5 := Lib.hid (R4.out.below hb)
  have K5 := Lib.hid (K4.out.below hb)
  have D5 := Lib.hid (D4.out.below hb)
  have EQ1 := Lib.hid (show Calls Try.prog 18 #[.slice A1 m c1, .slice B m k] w5 (Gave (.bool true) w5) from by
    have := equalEn_c A1 B b b m m c1 k w5 HNB.out HNB.out (by omega) R5.out (HXB.out.below B5.out)
    rwa [show eqEn b b = true by unfold eqEn; simp] at this)
  clear hb E4 B4 R4 K4 D4
  go_wp2_with fail
  refine EQ1.out.mono ?_
  rintro u w6 ⟨rfl, hb⟩
  have B6 := Lib.hid (B5.out.trans (hb.mono B5.out.size))
  have K6 := Lib.hid (K5.out.below hb)
  have D6 := Lib.hid (D5.out.below hb)
  clear hb EQ1 B5 R5 K5 D5
  have OW := Lib.hid (show Reads w6 (Option.map (fun x => x.add (k * 3)) A) (flat enE wr) from by
    rw [← HWR.out]
    exact reads_drop (HXA.out.below B6.out) k)
  have EQ2 := Lib.hid (show Calls Try.prog 18 #[.slice D1 nw q1, .slice (Option.map (fun x => x.add (k * 3)) A) (n - k) (ca - k)] w6 (Gave (.bool true) w6) from by
    have := equalEn_c D1 (Option.map (fun x => x.add (k * 3)) A) wr wr nw (n - k) q1 (ca - k) w6 HNW.out (HNW.out.trans NWN.out) (by have := NWN.out; omega) D6.out OW.out
    rwa [show eqEn wr wr = true by unfold eqEn; simp] at this)
  clear D6 OW
  go_wp2_with fail
  refine EQ2.out.mono ?_
  rintro u w7 ⟨rfl, hb⟩
  have B7 := Lib.hid (B6.out.trans (hb.mono B6.out.size))
  have K7 := Lib.hid (K6.out.below hb)
  have G0 := Lib.hid (GMap.made w7 (.bool false))
  have hmm := @run_makeMap Try.prog
  have CC := Lib.hid (fun (X : World) (g : Nat) (hX : Below w7.heap.size w7 X) (hg : g < X.heap.size) (h0 : X.cell? ⟨g, 0, none⟩ = some (.slice (Option.map (fun x => x.add (k * 3)) A) (n - k) (ca - k))) (h1 : X.cell? ⟨g, 1, none⟩ = some (.slice (B) (0) (0))) =>
    concat_t g (n - k) (0) ((n - k) + (0)) (ca - k) (0) (Option.map (fun x => x.add (k * 3)) A) (B) wr wo X (HNW.out.trans NWN.out) HNO.out rfl (by omega) (by omega) hg h0 h1 (by
      rw [← HWR.out]
      have hra := (HXA.out.below B7.out).below hX
      exact reads_drop hra k) (by
      rw [← HWO.out]
      have hrb := (HXB.out.below B7.out).below hX
      exact (by rw [List.drop_eq_nil_of_le (by rw [HNB.out]; omega)]; exact reads_nil' _)))
  clear hb EQ2 B6 K6
  obtain ⟨es, hes⟩ : ∃ es, es = wr ++ wo := ⟨_, rfl⟩
  obtain ⟨q, hq⟩ : ∃ q, q = (n - k) + (0) := ⟨_, rfl⟩
  have q8 : q ≤ 800 := by omega
  have e8 : (w7.alloc (.map #[] 0)).heap.size = w7.heap.size + 1 := by simp
  have CX := Lib.hid (show Calls Try.prog 19 #[.slice (some ⟨w7.heap.size + 1, 0, none⟩) 2 2] (((w7.alloc (.map #[] 0)).alloc (.cells #[.slice (Option.map (fun x => x.add (k * 3)) A) (n - k) (ca - k), .slice (B) (0) (0)] 23)).drew) (NewEn es q (((w7.alloc (.map #[] 0)).alloc (.cells #[.slice (Option.map (fun x => x.add (k * 3)) A) (n - k) (ca - k), .slice (B) (0) (0)] 23)).drew)) from by
    have kn := Mem.Known.made (w7.alloc (.map #[] 0)) 23 #[.slice (Option.map (fun x => x.add (k * 3)) A) (n - k) (ca - k), .slice (B) (0) (0)]
    rw [e8] at kn
    rw [hes, hq]
    exact CC.out _ (w7.heap.size + 1) (Mem.below_drew ((low_lit w7 _).alloc (by rw [e8]; omega) _)) kn.lt (kn.cell 0) (kn.cell 1))
  have BX := Lib.hid (show Below w7.heap.size w7 (((w7.alloc (.map #[] 0)).alloc (.cells #[.slice (Option.map (fun x => x.add (k * 3)) A) (n - k) (ca - k), .slice (B) (0) (0)] 23)).drew) from Mem.below_drew ((low_lit w7 _).alloc (by rw [e8]; omega) _))
  have GX := Lib.hid (show GMap (((w7.alloc (.map #[] 0)).alloc (.cells #[.slice (Option.map (fun x => x.add (k * 3)) A) (n - k) (ca - k), .slice (B) (0) (0)] 23)).drew) w7.heap.size (.bool false) (fun _ => .bool false) [] from (G0.out.alloc _).drew)
  have SX := Lib.hid (show w7.heap.size < (((w7.alloc (.map #[] 0)).alloc (.cells #[.slice (Option.map (fun x => x.add (k * 3)) A) (n - k) (ca - k), .slice (B) (0) (0)] 23)).drew).heap.size by show w7.heap.size < ((w7.alloc (.map #[] 0)).alloc _).heap.size; simp; omega)
  have HES := Lib.hid hes
  have HQ := Lib.hid hq
  clear CC hes hq e8
  go_upto_region 9 with fail
  go_cut [95, 96, 97] (fun v l i wx => ∃ (A5 : Option Addr) (c5 S : Nat), v = .slice A5 q c5 ∧ l = .int .i64 q ∧ i = .int .i64 0 ∧ ETab wx S (.slice A5 q c5) es ∧ w7.heap.size < S ∧ GMap wx w7.heap.size (.bool false) (fun _ => .bool false) [] ∧ Below w7.heap.size w7 wx)
  case first =>
    go_region_with (go_at_call 19; refine CX.out.mono ?_; rintro u w9 ⟨A5, c5, rfl, hT, hb⟩; have T9 := Lib.hid hT; have B9 := Lib.hid (BX.out.trans (hb.mono BX.out.size)); have G9 := Lib.hid (GX.out.later hb); clear hT hb)
    all_goals
      go_wp2
      go_meet
      exact ⟨A5, c5, _, rfl, rfl, rfl, T9.out, SX.out, G9.out, B9.out⟩
  case rest =>
    obtain ⟨A5, c5, S, rfl, rfl, rfl, hT, hS, hG, hb⟩ := hcut
    obtain ⟨w9, rfl⟩ : ∃ w9 : World, w9 = wc := ⟨_, rfl⟩
    have T9 := Lib.hid hT
    have G9 := Lib.hid hG
    have B9 := Lib.hid hb
    have HS := Lib.hid hS
    have LEN := Lib.hid (show es.length = q by rw [HES.out, HQ.out, List.length_append, HNW.out, HNO.out, NWN.out])
    clear hT hG hb hS CX BX GX SX G0 hmm
    go_wp2
    go_loopw [97] (fun i wr => ∃ (j : Nat) (f : Int → Value) (js : List Int), j ≤ q ∧ i = .int .i64 j ∧ KeysTo es j js ∧ GMap wr w7.heap.size (.bool false) f js ∧ ETab wr S (.slice A5 q c5) es ∧ Below w7.heap.size w7 wr) (fun i _ => q - (Go.RowKit.intOf i).toNat)
    case atStart => exact ⟨0, _, [], by omega, rfl, KeysTo.start es, G9.out, T9.out, B9.out⟩
    case round =>
      obtain ⟨j, f, js, hj, rfl, hks, hG, hT, hBw⟩ := hrel
      have KS := Lib.hid hks
      have GG := Lib.hid hG
      have TT := Lib.hid hT
      have BW := Lib.hid hBw
      clear hks hG T9 G9 B9
      by_cases hlt : j < q
      · have jl : j < es.length := by rw [LEN.out]; exact hlt
        obtain ⟨⟨x0, x1, x2⟩, hx⟩ : ∃ x, es[j]? = some x := ⟨_, List.getElem?_eq_getElem jl⟩
        obtain ⟨f0, f1, f2⟩ := FW.out _ (by rw [← HES.out]; exact List.mem_of_getElem? hx)
        obtain ⟨b1, o1, rfl, _, y0, y1, y2⟩ := en_at (Tab.reads hT) hx
        obtain ⟨d0, d1, d2⟩ := box_en (w := wr) (x0, x1, x2)
        have KS2 := Lib.hid (KS.out.step hx)
        have G1 := Lib.hid (GG.out.alloc (.cells #[.int .i64 x0, .int .i64 x1, .int .i64 x2] tE))
        have T1 := Lib.hid (Tab.alloc hT (.cells #[.int .i64 x0, .int .i64 x1, .int .i64 x2] tE))
        have B1 := Lib.hid (hBw.trans ((low_lit wr (.cells #[.int .i64 x0, .int .i64 x1, .int .i64 x2] tE)).mono hBw.size))
        simp only at y0 y1 y2 d0 d1 d2 f2 KS2
        have W2 := Lib.hid (wf_of f2)
        have KL := Lib.hid (show js.length < 1000000 by have := KS.out.2.2; omega)
        have i3 : (j : Int) < (q : Int) := by omega
        have NE := Lib.hid (show (Value.slice (some ⟨b1, o1, none⟩) q c5).ownBlock = none ∨ (Value.slice (some ⟨b1, o1, none⟩) q c5).ownBlock ≠ some w7.heap.size from .inr (fun e => by have := (Tab.lt hT _ e).1; have := HS.out; omega))
        clear jl hx f0 f1 f2 hBw hT
        go_wp2_with (refine wpList_update_m Try.underlying41 rfl _ _ _ (by rfl) G1.out KL.out x2 W2.out rfl rfl _ rfl ?_; intro wz m2 g2)
        go_roundw
        case rel => exact ⟨j + 1, _, _, by omega, by go_num, KS2.out, m2.out, Tab.kept T1.out g2.out NE.out, B1.out.grown g2.out B1.out.size (fun r hr => by injection hr with hr; omega)⟩
        case measure => simp [Go.RowKit.intOf]; omega
      · obtain rfl : j = q := by omega
        have hmem : ∀ x, x ∈ ks ↔ x ∈ js := fun x => by
          rw [HKS.out.2, KS.out.2.1, ← HES.out, List.take_of_length_le (Nat.le_of_eq LEN.out)]
        have hwf : ∀ x ∈ js, (Lit.int .i64 x).wf = true := fun x hx => by
          have := (KS.out.2.1 x).1 hx
          rw [List.take_of_length_le (Nat.le_of_eq LEN.out)] at this
          obtain ⟨e, he, rfl⟩ := List.mem_map.1 this
          exact wf_of (FW.out e (by rw [← HES.out]; exact he)).2.2
        have SC := Lib.hid (sorted_c GG.out KS.out.1 hwf ks HKS.out.1 hmem nk HNK.out)
        have KC := Lib.hid (keys_c (some w7.heap.size) wr)
        have EZ := Lib.hid (fun (V : World) C cc (h : Below wr.heap.size wr V) (hr : Reads V C (ks.map (Value.int .i64))) => show Calls Try.prog 20 #[.slice K1 nk d1, .slice C nk cc] V (Gave (.bool true) V) from by
          have := equalZ_c K1 C ks ks nk nk d1 cc V HNK.out HNK.out (by have := KS.out.2.2; have hp := ((List.perm_ext_iff_of_nodup (HKS.out.1.imp (fun h e => by omega)) KS.out.1).2 hmem).length_eq; have := HNK.out; omega) (by have := KS.out.2.2; have hp := ((List.perm_ext_iff_of_nodup (HKS.out.1.imp (fun h e => by omega)) KS.out.1).2 hmem).length_eq; have := HNK.out; omega) ((K7.out.below BW.out).below h) hr
          rwa [decide_eq_true rfl] at this)
        have BV := Lib.hid (B7.out.trans (BW.out.mono B7.out.size))
        clear hT hBw hmem hwf
        go_wp2_with fail
        refine KC.out.mono ?_
        rintro u wa ⟨rfl, hwa⟩
        rw [hwa]
        clear hwa
        go_wp2_with fail
        refine SC.out.mono ?_
        rintro u wb ⟨C, cc, rfl, _, hr, hb⟩
        have EZ2 := Lib.hid (EZ.out wb C cc hb hr)
        have BU := Lib.hid (BV.out.trans (hb.mono BV.out.size))
        clear hr hb EZ SC KC
        go_wp2_with fail
        refine EZ2.out.mono ?_
        rintro u wd ⟨rfl, hb⟩
        have BY := Lib.hid (BU.out.trans (hb.mono BU.out.size))
        clear hb
        go_wp2
        go_ret
        exact ⟨rfl, BY.out⟩
set_option maxRecDepth 100000 in
set_option maxHeartbeats 16000000 in
theorem merge_eg (hC : CommonSpec) (hM : MergeSpec) (A B : Option Addr) (a b : List En) (n m ca cb k : Nat) (W : World) (hn : a.length = n) (hm : b.length = m) (h1 : n ≤ ca) (h2 : m ≤ cb) (h3 : ca ≤ 140737488355328) (h4 : cb ≤ 140737488355328)
    (ha : Reads W A (flat enE a)) (hb : Reads W B (flat enE b)) (fa : FitL a) (fb : FitL b) (hk : com a b = k) (o1 : okL a = true) (o2 : okL b = true) (hA : ca = k) (hB : ¬ cb = k) : Calls Try.prog 4 #[.slice A n ca, .slice B m cb] W (Law.Yes W) := by
  obtain rfl : k = ca := hA.symm
  have he : lgE a b = 0 := by unfold lgE; rw [if_pos ⟨o1, o2⟩]
  obtain ⟨ks, hks⟩ : ∃ ks, keysOf (rest2 a b) = ks := ⟨_, rfl⟩
  obtain ⟨wr, hwr⟩ : ∃ wr, a.drop k = wr := ⟨_, rfl⟩
  obtain ⟨nk, hnk⟩ : ∃ nk, ks.length = nk := ⟨_, rfl⟩
  obtain ⟨nw, hnw⟩ : ∃ nw, wr.length = nw := ⟨_, rfl⟩
  have kn : k ≤ n := by have := (com_le a b).1; omega
  have km : k ≤ m := by have := (com_le a b).2; omega
  have n4 : n ≤ 400 := by rw [← hn]; exact okL_len o1
  have m4 : m ≤ 400 := by rw [← hm]; exact okL_len o2
  have P1 := Lib.hid (hC A B a b n m k cb W k 0 hn hm (by omega) (by omega) ha hb he (by rw [if_pos rfl]; exact hk))
  have M1 := Lib.hid (fun V (hV : Below W.heap.size W V) => hM A B a b n m k cb V b wr ks m nk nw 0 hn hm h1 h2 (by omega) (by omega) (by omega) (by omega) (ha.below hV) (hb.below hV) fa fb he rfl hks (by rw [if_pos rfl, hk]; exact hwr) hm hnk hnw)
  have RA := Lib.hid (fun V (hV : Below W.heap.size W V) => show Calls Try.prog 13 #[.slice A n k] V (Gave (.bool true) V) from by have := oright_c A a n k V hn (by omega) (ha.below hV); rwa [o1] at this)
  have RB := Lib.hid (fun V (hV : Below W.heap.size W V) => show Calls Try.prog 13 #[.slice B m cb] V (Gave (.bool true) V) from by have := oright_c B b m cb V hm (by omega) (hb.below hV); rwa [o2] at this)
  have OC := Lib.hid (fun V (hV : Below W.heap.size W V) => show Calls Try.prog 17 #[.slice A n k, .slice B m cb] V (Gave (.int .i64 (k : Nat)) V) from by have := ocommon_c A B a b n m k cb V hn hm (by omega) (by omega) (ha.below hV) (hb.below hV); rwa [hk] at this)
  have HXA := Lib.hid ha
  have HXB := Lib.hid hb
  have HNA := Lib.hid hn
  have HNB := Lib.hid hm
  obtain ⟨wo, hwo⟩ : ∃ wo, b.drop k = wo := ⟨_, rfl⟩
  have HWR := Lib.hid hwr
  have HWO := Lib.hid hwo
  have HNW := Lib.hid hnw
  have HNK := Lib.hid hnk
  have NWN := Lib.hid (show nw = 0 by have e := congrArg List.length hwr; rw [List.length_drop] at e; omega)
  have HNO := Lib.hid (show wo.length = m - k by have e := congrArg List.length hwo; rw [List.length_drop] at e; omega)
  have HKS := Lib.hid (show IsKeys ks (wr ++ wo) by rw [← hks, ← hwr, ← hwo, ← hk]; exact isKeys_of _)
  have FW := Lib.hid (show FitL (wr ++ wo) from fun e he => by
    rw [← hwr, ← hwo] at he
    rcases List.mem_append.1 he with h | h
    · exact fa e (List.mem_of_mem_drop h)
    · exact fb e (List.mem_of_mem_drop h))
  have hBf : (cb = k) = False := by simp [hB]
  have i1 : (k : Int) ≤ (n : Int) := by omega
  have i2 : (k : Int) ≤ (m : Int) := by omega
  have kk : ((k : Int) != (k : Int)) = false := by simp
  clear ha hb hn hm he o1 o2 hk hks hwr hnk hnw
  go_enter Try.func4, Try.ntmps4
  go_wp2_with fail
  refine P1.out.mono ?_
  rintro u w1 ⟨rfl, hb⟩
  have B1 := Lib.hid hb
  have E1 := Lib.hid (M1.out w1 hb)
  clear hb P1 M1
  go_wp2_with fail
  refine E1.out.mono ?_
  rintro u w2 ⟨A1, c1, K1, d1, D1, q1, rfl, _, hr, hrk, hrd, hb⟩
  have B2 := Lib.hid (B1.out.trans (hb.mono B1.out.size))
  have R2 := Lib.hid hr
  have K2 := Lib.hid hrk
  have D2 := Lib.hid hrd
  have E2 := Lib.hid (RA.out w2 B2.out)
  clear hb hr hrk hrd E1 B1 RA
  go_wp2_with fail
  refine E2.out.mono ?_
  rintro u w3 ⟨rfl, hb⟩
  have B3 := Lib.hid (B2.out.trans (hb.mono B2.out.size))
  have R3 := Lib.hid (R2.out.below hb)
  have K3 := Lib.hid (K2.out.below hb)
  have D3 := Lib.hid (D2.out.below hb)
  have E3 := Lib.hid (RB.out w3 B3.out)
  clear hb E2 B2 RB R2 K2 D2
  go_wp2_with fail
  refine E3.out.mono ?_
  rintro u w4 ⟨rfl, hb⟩
  have B4 := Lib.hid (B3.out.trans (hb.mono B3.out.size))
  have R4 := Lib.hid (R3.out.below hb)
  have K4 := Lib.hid (K3.out.below hb)
  have D4 := Lib.hid (D3.out.below hb)
  have E4 := Lib.hid (OC.out w4 B4.out)
  clear hb E3 B3 OC R3 K3 D3
  go_wp2_with fail
  refine E4.out.mono ?_
  rintro u w5 ⟨rfl, hb⟩
  have B5 := Lib.hid (B4.out.trans (hb.mono B4.out.size))
  have R5 := Lib.hid (R4.out.below hb)
  have K5 := Lib.hid (K4.out.below hb)
  have D5 := Lib.hid (D4.out.below hb)
  have EQ1 := Lib.hid (show Calls Try.prog 18 #[.slice A1 m c1, .slice B m cb] w5 (Gave (.bool true) w5) from by
    have := equalEn_c A1 B b b m m c1 cb w5 HNB.out HNB.out (by omega) R5.out (HXB.out.below B5.out)
    rwa [show eqEn b b = true by unfold eqEn; simp] at this)
  clear hb E4 B4 R4 K4 D4
  go_wp2_with fail
  refine EQ1.out.mono ?_
  rintro u w6 ⟨rfl, hb⟩
  have B6 := Lib.hid (B5.out.trans (hb.mono B5.out.size))
  have K6 := Lib.hid (K5.out.below hb)
  have D6 := Lib.hid (D5.out.below hb)
  clear hb EQ1 B5 R5 K5 D5
  have OW := Lib.hid (show Reads w6 (A) (flat enE wr) from by
    rw [← HWR.out]
    exact (by rw [List.drop_eq_nil_of_le (by rw [HNA.out]; omega)]; exact reads_nil' _))
  have EQ2 := Lib.hid (show Calls Try.prog 18 #[.slice D1 nw q1, .slice (A) (0) (0)] w6 (Gave (.bool true) w6) from by
    have := equalEn_c D1 (A) wr wr nw (0) q1 (0) w6 HNW.out (HNW.out.trans NWN.out) (by have := NWN.out; omega) D6.out OW.out
    rwa [show eqEn wr wr = true by unfold eqEn; simp] at this)
  clear D6 OW
  go_wp2_with fail
  refine EQ2.out.mono ?_
  rintro u w7 ⟨rfl, hb⟩
  have B7 := Lib.hid (B6.out.trans (hb.mono B6.out.size))
  have K7 := Lib.hid (K6.out.below hb)
  have G0 := Lib.hid (GMap.made w7 (.bool false))
  have hmm := @run_makeMap Try.prog
  have CC := Lib.hid (fun (X : World) (g : Nat) (hX : Below w7.heap.size w7 X) (hg : g < X.heap.size) (h0 : X.cell? ⟨g, 0, none⟩ = some (.slice (A) (0) (0))) (h1 : X.cell? ⟨g, 1, none⟩ = some (.slice (Option.map (fun x => x.add (k * 3)) B) (m - k) (cb - k))) =>
    concat_t g (0) (m - k) ((0) + (m - k)) (0) (cb - k) (A) (Option.map (fun x => x.add (k * 3)) B) wr wo X (HNW.out.trans NWN.out) HNO.out rfl (by omega) (by omega) hg h0 h1 (by
      rw [← HWR.out]
      have hra := (HXA.out.below B7.out).below hX
      exact (by rw [List.drop_eq_nil_of_le (by rw [HNA.out]; omega)]; exact reads_nil' _)) (by
      rw [← HWO.out]
      have hrb := (HXB.out.below B7.out).below hX
      exact reads_drop hrb k))
  clear hb EQ2 B6 K6
  obtain ⟨es, hes⟩ : ∃ es, es = wr ++ wo := ⟨_, rfl⟩
  obtain ⟨q, hq⟩ : ∃ q, q = (0) + (m - k) := ⟨_, rfl⟩
  have q8 : q ≤ 800 := by omega
  have e8 : (w7.alloc (.map #[] 0)).heap.size = w7.heap.size + 1 := by simp
  have CX := Lib.hid (show Calls Try.prog 19 #[.slice (some ⟨w7.heap.size + 1, 0, none⟩) 2 2] (((w7.alloc (.map #[] 0)).alloc (.cells #[.slice (A) (0) (0), .slice (Option.map (fun x => x.add (k * 3)) B) (m - k) (cb - k)] 23)).drew) (NewEn es q (((w7.alloc (.map #[] 0)).alloc (.cells #[.slice (A) (0) (0), .slice (Option.map (fun x => x.add (k * 3)) B) (m - k) (cb - k)] 23)).drew)) from by
    have kn := Mem.Known.made (w7.alloc (.map #[] 0)) 23 #[.slice (A) (0) (0), .slice (Option.map (fun x => x.add (k * 3)) B) (m - k) (cb - k)]
    rw [e8] at kn
    rw [hes, hq]
    exact CC.out _ (w7.heap.size + 1) (Mem.below_drew ((low_lit w7 _).alloc (by rw [e8]; omega) _)) kn.lt (kn.cell 0) (kn.cell 1))
  have BX := Lib.hid (show Below w7.heap.size w7 (((w7.alloc (.map #[] 0)).alloc (.cells #[.slice (A) (0) (0), .slice (Option.map (fun x => x.add (k * 3)) B) (m - k) (cb - k)] 23)).drew) from Mem.below_drew ((low_lit w7 _).alloc (by rw [e8]; omega) _))
  have GX := Lib.hid (show GMap (((w7.alloc (.map #[] 0)).alloc (.cells #[.slice (A) (0) (0), .slice (Option.map (fun x => x.add (k * 3)) B) (m - k) (cb - k)] 23)).drew) w7.heap.size (.bool false) (fun _ => .bool false) [] from (G0.out.alloc _).drew)
  have SX := Lib.hid (show w7.heap.size < (((w7.alloc (.map #[] 0)).alloc (.cells #[.slice (A) (0) (0), .slice (Option.map (fun x => x.add (k * 3)) B) (m - k) (cb - k)] 23)).drew).heap.size by show w7.heap.size < ((w7.alloc (.map #[] 0)).alloc _).heap.size; simp; omega)
  have HES := Lib.hid hes
  have HQ := Lib.hid hq
  clear CC hes hq e8
  go_upto_region 9 with fail
  go_cut [95, 96, 97] (fun v l i wx => ∃ (A5 : Option Addr) (c5 S : Nat), v = .slice A5 q c5 ∧ l = .int .i64 q ∧ i = .int .i64 0 ∧ ETab wx S (.slice A5 q c5) es ∧ w7.heap.size < S ∧ GMap wx w7.heap.size (.bool false) (fun _ => .bool false) [] ∧ Below w7.heap.size w7 wx)
  case first =>
    go_region_with (go_at_call 19; refine CX.out.mono ?_; rintro u w9 ⟨A5, c5, rfl, hT, hb⟩; have T9 := Lib.hid hT; have B9 := Lib.hid (BX.out.trans (hb.mono BX.out.size)); have G9 := Lib.hid (GX.out.later hb); clear hT hb)
    all_goals
      go_wp2
      go_meet
      exact ⟨A5, c5, _, rfl, rfl, rfl, T9.out, SX.out, G9.out, B9.out⟩
  case rest =>
    obtain ⟨A5, c5, S, rfl, rfl, rfl, hT, hS, hG, hb⟩ := hcut
    obtain ⟨w9, rfl⟩ : ∃ w9 : World, w9 = wc := ⟨_, rfl⟩
    have T9 := Lib.hid hT
    have G9 := Lib.hid hG
    have B9 := Lib.hid hb
    have HS := Lib.hid hS
    have LEN := Lib.hid (show es.length = q by rw [HES.out, HQ.out, List.length_append, HNW.out, HNO.out, NWN.out])
    clear hT hG hb hS CX BX GX SX G0 hmm
    go_wp2
    go_loopw [97] (fun i wr => ∃ (j : Nat) (f : Int → Value) (js : List Int), j ≤ q ∧ i = .int .i64 j ∧ KeysTo es j js ∧ GMap wr w7.heap.size (.bool false) f js ∧ ETab wr S (.slice A5 q c5) es ∧ Below w7.heap.size w7 wr) (fun i _ => q - (Go.RowKit.intOf i).toNat)
    case atStart => exact ⟨0, _, [], by omega, rfl, KeysTo.start es, G9.out, T9.out, B9.out⟩
    case round =>
      obtain ⟨j, f, js, hj, rfl, hks, hG, hT, hBw⟩ := hrel
      have KS := Lib.hid hks
      have GG := Lib.hid hG
      have TT := Lib.hid hT
      have BW := Lib.hid hBw
      clear hks hG T9 G9 B9
      by_cases hlt : j < q
      · have jl : j < es.length := by rw [LEN.out]; exact hlt
        obtain ⟨⟨x0, x1, x2⟩, hx⟩ : ∃ x, es[j]? = some x := ⟨_, List.getElem?_eq_getElem jl⟩
        obtain ⟨f0, f1, f2⟩ := FW.out _ (by rw [← HES.out]; exact List.mem_of_getElem? hx)
        obtain ⟨b1, o1, rfl, _, y0, y1, y2⟩ := en_at (Tab.reads hT) hx
        obtain ⟨d0, d1, d2⟩ := box_en (w := wr) (x0, x1, x2)
        have KS2 := Lib.hid (KS.out.step hx)
        have G1 := Lib.hid (GG.out.alloc (.cells #[.int .i64 x0, .int .i64 x1, .int .i64 x2] tE))
        have T1 := Lib.hid (Tab.alloc hT (.cells #[.int .i64 x0, .int .i64 x1, .int .i64 x2] tE))
        have B1 := Lib.hid (hBw.trans ((low_lit wr (.cells #[.int .i64 x0, .int .i64 x1, .int .i64 x2] tE)).mono hBw.size))
        simp only at y0 y1 y2 d0 d1 d2 f2 KS2
        have W2 := Lib.hid (wf_of f2)
        have KL := Lib.hid (show js.length < 1000000 by have := KS.out.2.2; omega)
        have i3 : (j : Int) < (q : Int) := by omega
        have NE := Lib.hid (show (Value.slice (some ⟨b1, o1, none⟩) q c5).ownBlock = none ∨ (Value.slice (some ⟨b1, o1, none⟩) q c5).ownBlock ≠ some w7.heap.size from .inr (fun e => by have := (Tab.lt hT _ e).1; have := HS.out; omega))
        clear jl hx f0 f1 f2 hBw hT
        go_wp2_with (refine wpList_update_m Try.underlying41 rfl _ _ _ (by rfl) G1.out KL.out x2 W2.out rfl rfl _ rfl ?_; intro wz m2 g2)
        go_roundw
        case rel => exact ⟨j + 1, _, _, by omega, by go_num, KS2.out, m2.out, Tab.kept T1.out g2.out NE.out, B1.out.grown g2.out B1.out.size (fun r hr => by injection hr with hr; omega)⟩
        case measure => simp [Go.RowKit.intOf]; omega
      · obtain rfl : j = q := by omega
        have hmem : ∀ x, x ∈ ks ↔ x ∈ js := fun x => by
          rw [HKS.out.2, KS.out.2.1, ← HES.out, List.take_of_length_le (Nat.le_of_eq LEN.out)]
        have hwf : ∀ x ∈ js, (Lit.int .i64 x).wf = true := fun x hx => by
          have := (KS.out.2.1 x).1 hx
          rw [List.take_of_length_le (Nat.le_of_eq LEN.out)] at this
          obtain ⟨e, he, rfl⟩ := List.mem_map.1 this
          exact wf_of (FW.out e (by rw [← HES.out]; exact he)).2.2
        have SC := Lib.hid (sorted_c GG.out KS.out.1 hwf ks HKS.out.1 hmem nk HNK.out)
        have KC := Lib.hid (keys_c (some w7.heap.size) wr)
        have EZ := Lib.hid (fun (V : World) C cc (h : Below wr.heap.size wr V) (hr : Reads V C (ks.map (Value.int .i64))) => show Calls Try.prog 20 #[.slice K1 nk d1, .slice C nk cc] V (Gave (.bool true) V) from by
          have := equalZ_c K1 C ks ks nk nk d1 cc V HNK.out HNK.out (by have := KS.out.2.2; have hp := ((List.perm_ext_iff_of_nodup (HKS.out.1.imp (fun h e => by omega)) KS.out.1).2 hmem).length_eq; have := HNK.out; omega) (by have := KS.out.2.2; have hp := ((List.perm_ext_iff_of_nodup (HKS.out.1.imp (fun h e => by omega)) KS.out.1).2 hmem).length_eq; have := HNK.out; omega) ((K7.out.below BW.out).below h) hr
          rwa [decide_eq_true rfl] at this)
        have BV := Lib.hid (B7.out.trans (BW.out.mono B7.out.size))
        clear hT hBw hmem hwf
        go_wp2_with fail
        refine KC.out.mono ?_
        rintro u wa ⟨rfl, hwa⟩
        rw [hwa]
        clear hwa
        go_wp2_with fail
        refine SC.out.mono ?_
        rintro u wb ⟨C, cc, rfl, _, hr, hb⟩
        have EZ2 := Lib.hid (EZ.out wb C cc hb hr)
        have BU := Lib.hid (BV.out.trans (hb.mono BV.out.size))
        clear hr hb EZ SC KC
        go_wp2_with fail
        refine EZ2.out.mono ?_
        rintro u wd ⟨rfl, hb⟩
        have BY := Lib.hid (BU.out.trans (hb.mono BU.out.size))
        clear hb
        go_wp2
        go_ret
        exact ⟨rfl, BY.out⟩
set_option maxRecDepth 100000 in
set_option maxHeartbeats 16000000 in
theorem merge_ee (hC : CommonSpec) (hM : MergeSpec) (A B : Option Addr) (a b : List En) (n m ca cb k : Nat) (W : World) (hn : a.length = n) (hm : b.length = m) (h1 : n ≤ ca) (h2 : m ≤ cb) (h3 : ca ≤ 140737488355328) (h4 : cb ≤ 140737488355328)
    (ha : Reads W A (flat enE a)) (hb : Reads W B (flat enE b)) (fa : FitL a) (fb : FitL b) (hk : com a b = k) (o1 : okL a = true) (o2 : okL b = true) (hA : ca = k) (hB : cb = k) : Calls Try.prog 4 #[.slice A n ca, .slice B m cb] W (Law.Yes W) := by
  obtain rfl : k = cb := hB.symm
  obtain rfl : k = ca := hA.symm
  have he : lgE a b = 0 := by unfold lgE; rw [if_pos ⟨o1, o2⟩]
  obtain ⟨ks, hks⟩ : ∃ ks, keysOf (rest2 a b) = ks := ⟨_, rfl⟩
  obtain ⟨wr, hwr⟩ : ∃ wr, a.drop k = wr := ⟨_, rfl⟩
  obtain ⟨nk, hnk⟩ : ∃ nk, ks.length = nk := ⟨_, rfl⟩
  obtain ⟨nw, hnw⟩ : ∃ nw, wr.length = nw := ⟨_, rfl⟩
  have kn : k ≤ n := by have := (com_le a b).1; omega
  have km : k ≤ m := by have := (com_le a b).2; omega
  have n4 : n ≤ 400 := by rw [← hn]; exact okL_len o1
  have m4 : m ≤ 400 := by rw [← hm]; exact okL_len o2
  have P1 := Lib.hid (hC A B a b n m k k W k 0 hn hm (by omega) (by omega) ha hb he (by rw [if_pos rfl]; exact hk))
  have M1 := Lib.hid (fun V (hV : Below W.heap.size W V) => hM A B a b n m k k V b wr ks m nk nw 0 hn hm h1 h2 (by omega) (by omega) (by omega) (by omega) (ha.below hV) (hb.below hV) fa fb he rfl hks (by rw [if_pos rfl, hk]; exact hwr) hm hnk hnw)
  have RA := Lib.hid (fun V (hV : Below W.heap.size W V) => show Calls Try.prog 13 #[.slice A n k] V (Gave (.bool true) V) from by have := oright_c A a n k V hn (by omega) (ha.below hV); rwa [o1] at this)
  have RB := Lib.hid (fun V (hV : Below W.heap.size W V) => show Calls Try.prog 13 #[.slice B m k] V (Gave (.bool true) V) from by have := oright_c B b m k V hm (by omega) (hb.below hV); rwa [o2] at this)
  have OC := Lib.hid (fun V (hV : Below W.heap.size W V) => show Calls Try.prog 17 #[.slice A n k, .slice B m k] V (Gave (.int .i64 (k : Nat)) V) from by have := ocommon_c A B a b n m k k V hn hm (by omega) (by omega) (ha.below hV) (hb.below hV); rwa [hk] at this)
  have HXA := Lib.hid ha
  have HXB := Lib.hid hb
  have HNA := Lib.hid hn
  have HNB := Lib.hid hm
  obtain ⟨wo, hwo⟩ : ∃ wo, b.drop k = wo := ⟨_, rfl⟩
  have HWR := Lib.hid hwr
  have HWO := Lib.hid hwo
  have HNW := Lib.hid hnw
  have HNK := Lib.hid hnk
  have NWN := Lib.hid (show nw = 0 by have e := congrArg List.length hwr; rw [List.length_drop] at e; omega)
  have HNO := Lib.hid (show wo.length = 0 by have e := congrArg List.length hwo; rw [List.length_drop] at e; omega)
  have HKS := Lib.hid (show IsKeys ks (wr ++ wo) by rw [← hks, ← hwr, ← hwo, ← hk]; exact isKeys_of _)
  have FW := Lib.hid (show FitL (wr ++ wo) from fun e he => by
    rw [← hwr, ← hwo] at he
    rcases List.mem_append.1 he with h | h
    · exact fa e (List.mem_of_mem_drop h)
    · exact fb e (List.mem_of_mem_drop h))
  have i1 : (k : Int) ≤ (n : Int) := by omega
  have i2 : (k : Int) ≤ (m : Int) := by omega
  have kk : ((k : Int) != (k : Int)) = false := by simp
  clear ha hb hn hm he o1 o2 hk hks hwr hnk hnw
  go_enter Try.func4, Try.ntmps4
  go_wp2_with fail
  refine P1.out.mono ?_
  rintro u w1 ⟨rfl, hb⟩
  have B1 := Lib.hid hb
  have E1 := Lib.hid (M1.out w1 hb)
  clear hb P1 M1
  go_wp2_with fail
  refine E1.out.mono ?_
  rintro u w2 ⟨A1, c1, K1, d1, D1, q1, rfl, _, hr, hrk, hrd, hb⟩
  have B2 := Lib.hid (B1.out.trans (hb.mono B1.out.size))
  have R2 := Lib.hid hr
  have K2 := Lib.hid hrk
  have D2 := Lib.hid hrd
  have E2 := Lib.hid (RA.out w2 B2.out)
  clear hb hr hrk hrd E1 B1 RA
  go_wp2_with fail
  refine E2.out.mono ?_
  rintro u w3 ⟨rfl, hb⟩
  have B3 := Lib.hid (B2.out.trans (hb.mono B2.out.size))
  have R3 := Lib.hid (R2.out.below hb)
  have K3 := Lib.hid (K2.out.below hb)
  have D3 := Lib.hid (D2.out.below hb)
  have E3 := Lib.hid (RB.out w3 B3.out)
  clear hb E2 B2 RB R2 K2 D2
  go_wp2_with fail
  refine E3.out.mono ?_
  rintro u w4 ⟨rfl, hb⟩
  have B4 := Lib.hid (B3.out.trans (hb.mono B3.out.size))
  have R4 := Lib.hid (R3.out.below hb)
  have K4 := Lib.hid (K3.out.below hb)
  have D4 := Lib.hid (D3.out.below hb)
  have E4 := Lib.hid (OC.out w4 B4.out)
  clear hb E3 B3 OC R3 K3 D3
  go_wp2_with fail
  refine E4.out.mono ?_
  rintro u w5 ⟨rfl, hb⟩
  have B5 := Lib.hid (B4.out.trans (hb.mono B4.out.size))
  have R5 := Lib.hid (R4.out.below hb)
  have K5 := Lib.hid (K4.out.below hb)
  have D5 := Lib.hid (D4.out.below hb)
  have EQ1 := Lib.hid (show Calls Try.prog 18 #[.slice A1 m c1, .slice B m k] w5 (Gave (.bool true) w5) from by
    have := equalEn_c A1 B b b m m c1 k w5 HNB.out HNB.out (by omega) R5.out (HXB.out.below B5.out)
    rwa [show eqEn b b = true by unfold eqEn; simp] at this)
  clear hb E4 B4 R4 K4 D4
  go_wp2_with fail
  refine EQ1.out.mono ?_
  rintro u w6 ⟨rfl, hb⟩
  have B6 := Lib.hid (B5.out.trans (hb.mono B5.out.size))
  have K6 := Lib.hid (K5.out.below hb)
  have D6 := Lib.hid (D5.out.below hb)
  clear hb EQ1 B5 R5 K5 D5
  have OW := Lib.hid (show Reads w6 (A) (flat enE wr) from by
    rw [← HWR.out]
    exact (by rw [List.drop_eq_nil_of_le (by rw [HNA.out]; omega)]; exact reads_nil' _))
  have EQ2 := Lib.hid (show Calls Try.prog 18 #[.slice D1 nw q1, .slice (A) (0) (0)] w6 (Gave (.bool true) w6) from by
    have := equalEn_c D1 (A) wr wr nw (0) q1 (0) w6 HNW.out (HNW.out.trans NWN.out) (by have := NWN.out; omega) D6.out OW.out
    rwa [show eqEn wr wr = true by unfold eqEn; simp] at this)
  clear D6 OW
  go_wp2_with fail
  refine EQ2.out.mono ?_
  rintro u w7 ⟨rfl, hb⟩
  have B7 := Lib.hid (B6.out.trans (hb.mono B6.out.size))
  have K7 := Lib.hid (K6.out.below hb)
  have G0 := Lib.hid (GMap.made w7 (.bool false))
  have hmm := @run_makeMap Try.prog
  have CC := Lib.hid (fun (X : World) (g : Nat) (hX : Below w7.heap.size w7 X) (hg : g < X.heap.size) (h0 : X.cell? ⟨g, 0, none⟩ = some (.slice (A) (0) (0))) (h1 : X.cell? ⟨g, 1, none⟩ = some (.slice (B) (0) (0))) =>
    concat_t g (0) (0) ((0) + (0)) (0) (0) (A) (B) wr wo X (HNW.out.trans NWN.out) HNO.out rfl (by omega) (by omega) hg h0 h1 (by
      rw [← HWR.out]
      have hra := (HXA.out.below B7.out).below hX
      exact (by rw [List.drop_eq_nil_of_le (by rw [HNA.out]; omega)]; exact reads_nil' _)) (by
      rw [← HWO.out]
      have hrb := (HXB.out.below B7.out).below hX
      exact (by rw [List.drop_eq_nil_of_le (by rw [HNB.out]; omega)]; exact reads_nil' _)))
  clear hb EQ2 B6 K6
  obtain ⟨es, hes⟩ : ∃ es, es = wr ++ wo := ⟨_, rfl⟩
  obtain ⟨q, hq⟩ : ∃ q, q = (0) + (0) := ⟨_, rfl⟩
  have q8 : q ≤ 800 := by omega
  have e8 : (w7.alloc (.map #[] 0)).heap.size = w7.heap.size + 1 := by simp
  have CX := Lib.hid (show Calls Try.prog 19 #[.slice (some ⟨w7.heap.size + 1, 0, none⟩) 2 2] (((w7.alloc (.map #[] 0)).alloc (.cells #[.slice (A) (0) (0), .slice (B) (0) (0)] 23)).drew) (NewEn es q (((w7.alloc (.map #[] 0)).alloc (.cells #[.slice (A) (0) (0), .slice (B) (0) (0)] 23)).drew)) from by
    have kn := Mem.Known.made (w7.alloc (.map #[] 0)) 23 #[.slice (A) (0) (0), .slice (B) (0) (0)]
    rw [e8] at kn
    rw [hes, hq]
    exact CC.out _ (w7.heap.size + 1) (Mem.below_drew ((low_lit w7 _).alloc (by rw [e8]; omega) _)) kn.lt (kn.cell 0) (kn.cell 1))
  have BX := Lib.hid (show Below w7.heap.size w7 (((w7.alloc (.map #[] 0)).alloc (.cells #[.slice (A) (0) (0), .slice (B) (0) (0)] 23)).drew) from Mem.below_drew ((low_lit w7 _).alloc (by rw [e8]; omega) _))
  have GX := Lib.hid (show GMap (((w7.alloc (.map #[] 0)).alloc (.cells #[.slice (A) (0) (0), .slice (B) (0) (0)] 23)).drew) w7.heap.size (.bool false) (fun _ => .bool false) [] from (G0.out.alloc _).drew)
  have SX := Lib.hid (show w7.heap.size < (((w7.alloc (.map #[] 0)).alloc (.cells #[.slice (A) (0) (0), .slice (B) (0) (0)] 23)).drew).heap.size by show w7.heap.size < ((w7.alloc (.map #[] 0)).alloc _).heap.size; simp; omega)
  have HES := Lib.hid hes
  have HQ := Lib.hid hq
  clear CC hes hq e8
  go_upto_region 9 with fail
  go_cut [95, 96, 97] (fun v l i wx => ∃ (A5 : Option Addr) (c5 S : Nat), v = .slice A5 q c5 ∧ l = .int .i64 q ∧ i = .int .i64 0 ∧ ETab wx S (.slice A5 q c5) es ∧ w7.heap.size < S ∧ GMap wx w7.heap.size (.bool false) (fun _ => .bool false) [] ∧ Below w7.heap.size w7 wx)
  case first =>
    go_region_with (go_at_call 19; refine CX.out.mono ?_; rintro u w9 ⟨A5, c5, rfl, hT, hb⟩; have T9 := Lib.hid hT; have B9 := Lib.hid (BX.out.trans (hb.mono BX.out.size)); have G9 := Lib.hid (GX.out.later hb); clear hT hb)
    all_goals
      go_wp2
      go_meet
      exact ⟨A5, c5, _, rfl, rfl, rfl, T9.out, SX.out, G9.out, B9.out⟩
  case rest =>
    obtain ⟨A5, c5, S, rfl, rfl, rfl, hT, hS, hG, hb⟩ := hcut
    obtain ⟨w9, rfl⟩ : ∃ w9 : World, w9 = wc := ⟨_, rfl⟩
    have T9 := Lib.hid hT
    have G9 := Lib.hid hG
    have B9 := Lib.hid hb
    have HS := Lib.hid hS
    have LEN := Lib.hid (show es.length = q by rw [HES.out, HQ.out, List.length_append, HNW.out, HNO.out, NWN.out])
    clear hT hG hb hS CX BX GX SX G0 hmm
    go_wp2
    go_loopw [97] (fun i wr => ∃ (j : Nat) (f : Int → Value) (js : List Int), j ≤ q ∧ i = .int .i64 j ∧ KeysTo es j js ∧ GMap wr w7.heap.size (.bool false) f js ∧ ETab wr S (.slice A5 q c5) es ∧ Below w7.heap.size w7 wr) (fun i _ => q - (Go.RowKit.intOf i).toNat)
    case atStart => exact ⟨0, _, [], by omega, rfl, KeysTo.start es, G9.out, T9.out, B9.out⟩
    case round =>
      obtain ⟨j, f, js, hj, rfl, hks, hG, hT, hBw⟩ := hrel
      have KS := Lib.hid hks
      have GG := Lib.hid hG
      have TT := Lib.hid hT
      have BW := Lib.hid hBw
      clear hks hG T9 G9 B9
      by_cases hlt : j < q
      · have jl : j < es.length := by rw [LEN.out]; exact hlt
        obtain ⟨⟨x0, x1, x2⟩, hx⟩ : ∃ x, es[j]? = some x := ⟨_, List.getElem?_eq_getElem jl⟩
        obtain ⟨f0, f1, f2⟩ := FW.out _ (by rw [← HES.out]; exact List.mem_of_getElem? hx)
        obtain ⟨b1, o1, rfl, _, y0, y1, y2⟩ := en_at (Tab.reads hT) hx
        obtain ⟨d0, d1, d2⟩ := box_en (w := wr) (x0, x1, x2)
        have KS2 := Lib.hid (KS.out.step hx)
        have G1 := Lib.hid (GG.out.alloc (.cells #[.int .i64 x0, .int .i64 x1, .int .i64 x2] tE))
        have T1 := Lib.hid (Tab.alloc hT (.cells #[.int .i64 x0, .int .i64 x1, .int .i64 x2] tE))
        have B1 := Lib.hid (hBw.trans ((low_lit wr (.cells #[.int .i64 x0, .int .i64 x1, .int .i64 x2] tE)).mono hBw.size))
        simp only at y0 y1 y2 d0 d1 d2 f2 KS2
        have W2 := Lib.hid (wf_of f2)
        have KL := Lib.hid (show js.length < 1000000 by have := KS.out.2.2; omega)
        have i3 : (j : Int) < (q : Int) := by omega
        have NE := Lib.hid (show (Value.slice (some ⟨b1, o1, none⟩) q c5).ownBlock = none ∨ (Value.slice (some ⟨b1, o1, none⟩) q c5).ownBlock ≠ some w7.heap.size from .inr (fun e => by have := (Tab.lt hT _ e).1; have := HS.out; omega))
        clear jl hx f0 f1 f2 hBw hT
        go_wp2_with (refine wpList_update_m Try.underlying41 rfl _ _ _ (by rfl) G1.out KL.out x2 W2.out rfl rfl _ rfl ?_; intro wz m2 g2)
        go_roundw
        case rel => exact ⟨j + 1, _, _, by omega, by go_num, KS2.out, m2.out, Tab.kept T1.out g2.out NE.out, B1.out.grown g2.out B1.out.size (fun r hr => by injection hr with hr; omega)⟩
        case measure => simp [Go.RowKit.intOf]; omega
      · obtain rfl : j = q := by omega
        have hmem : ∀ x, x ∈ ks ↔ x ∈ js := fun x => by
          rw [HKS.out.2, KS.out.2.1, ← HES.out, List.take_of_length_le (Nat.le_of_eq LEN.out)]
        have hwf : ∀ x ∈ js, (Lit.int .i64 x).wf = true := fun x hx => by
          have := (KS.out.2.1 x).1 hx
          rw [List.take_of_length_le (Nat.le_of_eq LEN.out)] at this
          obtain ⟨e, he, rfl⟩ := List.mem_map.1 this
          exact wf_of (FW.out e (by rw [← HES.out]; exact he)).2.2
        have SC := Lib.hid (sorted_c GG.out KS.out.1 hwf ks HKS.out.1 hmem nk HNK.out)
        have KC := Lib.hid (keys_c (some w7.heap.size) wr)
        have EZ := Lib.hid (fun (V : World) C cc (h : Below wr.heap.size wr V) (hr : Reads V C (ks.map (Value.int .i64))) => show Calls Try.prog 20 #[.slice K1 nk d1, .slice C nk cc] V (Gave (.bool true) V) from by
          have := equalZ_c K1 C ks ks nk nk d1 cc V HNK.out HNK.out (by have := KS.out.2.2; have hp := ((List.perm_ext_iff_of_nodup (HKS.out.1.imp (fun h e => by omega)) KS.out.1).2 hmem).length_eq; have := HNK.out; omega) (by have := KS.out.2.2; have hp := ((List.perm_ext_iff_of_nodup (HKS.out.1.imp (fun h e => by omega)) KS.out.1).2 hmem).length_eq; have := HNK.out; omega) ((K7.out.below BW.out).below h) hr
          rwa [decide_eq_true rfl] at this)
        have BV := Lib.hid (B7.out.trans (BW.out.mono B7.out.size))
        clear hT hBw hmem hwf
        go_wp2_with fail
        refine KC.out.mono ?_
        rintro u wa ⟨rfl, hwa⟩
        rw [hwa]
        clear hwa
        go_wp2_with fail
        refine SC.out.mono ?_
        rintro u wb ⟨C, cc, rfl, _, hr, hb⟩
        have EZ2 := Lib.hid (EZ.out wb C cc hb hr)
        have BU := Lib.hid (BV.out.trans (hb.mono BV.out.size))
        clear hr hb EZ SC KC
        go_wp2_with fail
        refine EZ2.out.mono ?_
        rintro u wd ⟨rfl, hb⟩
        have BY := Lib.hid (BU.out.trans (hb.mono BU.out.size))
        clear hb
        go_wp2
        go_ret
        exact ⟨rfl, BY.out⟩
theorem merge_w (hC : CommonSpec) (hM : MergeSpec) (A B : Option Addr) (a b : List En) (n m ca cb : Nat) (W : World) (hn : a.length = n) (hm : b.length = m) (h1 : n ≤ ca) (h2 : m ≤ cb) (h3 : ca ≤ 140737488355328) (h4 : cb ≤ 140737488355328)
    (ha : Reads W A (flat enE a)) (hb : Reads W B (flat enE b)) (fa : FitL a) (fb : FitL b) : Calls Try.prog 4 #[.slice A n ca, .slice B m cb] W (Law.Yes W) := by
  rcases lgE_vals a b with ⟨_, o1, o2⟩ | he
  · by_cases hA : ca = com a b
    · by_cases hB : cb = com a b
      · exact merge_ee hC hM A B a b n m ca cb _ W hn hm h1 h2 h3 h4 ha hb fa fb rfl o1 o2 hA hB
      · exact merge_eg hC hM A B a b n m ca cb _ W hn hm h1 h2 h3 h4 ha hb fa fb rfl o1 o2 hA hB
    · by_cases hB : cb = com a b
      · exact merge_ge hC hM A B a b n m ca cb _ W hn hm h1 h2 h3 h4 ha hb fa fb rfl o1 o2 hA hB
      · exact merge_gg hC hM A B a b n m ca cb _ W hn hm h1 h2 h3 h4 ha hb fa fb rfl o1 o2 hA hB
  · exact merge_bad hC hM A B a b n m ca cb W hn hm h1 h2 h3 h4 ha hb fa fb he
end Go.Proofs.Ytmnhhfhdaagmhaa.Lg
