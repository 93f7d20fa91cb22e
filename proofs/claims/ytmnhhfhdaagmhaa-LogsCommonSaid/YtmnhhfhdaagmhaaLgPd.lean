/-
  Package logs, the program: slices.Clone of entries; Merge.
-/
import Derived.Test.YtmnhhfhdaagmhaaLgPc
import Derived.Test.YtmnhhfhdaagmhaaLgMergeW
import Derived.Test.YtmnhhfhdaagmhaaShCl
import Derived.Lib.SliceRun
import Derived.Deep.RegionWith
namespace Go.Proofs.Ytmnhhfhdaagmhaa.Lg
set_option linter.unusedVariables false
set_option linter.unusedSimpArgs false
open Go.RowKit Go.Maps Go.Sort Go.Shelf Mem Gt
open Jump (Gave equalZ_c)

set_option maxRecDepth 100000 in
set_option maxHeartbeats 1000000 in
theorem clone_zero_en (ad : Addr) (c : Nat) (W : World) :
    Calls Try.prog 28 #[.slice (some ad) 0 c] W (NewEn [] 0 W) := by
  have q22 : ∀ (w : World) (a : Option Addr) (n c n' c' : Nat), (binOp .eql 23 (.slice a n c) (.slice none n' c')).run Try.prog w = .ok (.bool a.isNone) w := fun w a n c n' c' => Go.Lib.run_eql_slice_nil w _ _ a n c n' c' Try.underlying23
  go_enter Try.func28, Try.ntmps28
  go_wp2
  go_ret
  exact ⟨some ⟨W.heap.size, 0, none⟩, 0, rfl, World.ownsRow_made W #[] 0 (Nat.le_refl _) (Nat.zero_le _) (by simp), (Below.refl _ W).alloc (Nat.le_refl _) _⟩
set_option maxRecDepth 100000 in
theorem clone_en (A : Option Addr) (l : List En) (n c : Nat) (W : World) (hn : l.length = n) (hbig : n ≤ 1099511627776) (hx : Reads W A (flat enE l)) :
    Calls Try.prog 28 #[.slice A n c] W (NewEn l n W) := by
  rcases Nat.eq_zero_or_pos n with h0 | h0
  · subst h0
    obtain rfl := List.eq_nil_of_length_eq_zero hn
    cases A with
    | none =>
      refine (AnyE.slices_Clone_nil Try.cloneEn 0 c W).mono ?_
      rintro e w ⟨rfl, rfl⟩
      exact ⟨none, 0, rfl, Tab.nil _ _ _, Below.refl _ _⟩
    | some a => exact clone_zero_en a c W
  · obtain ⟨i, hi, z, hz0, hz1, hz2, hz3⟩ := elEn.hi
    have kl : 0 < l.length := by omega
    obtain ⟨b, o, rfl, _, _⟩ := en_at hx (List.getElem?_eq_getElem kl)
    refine (AnyE.slices_Clone Try.cloneEn i z 3 24 hi hz0 hz1 hz2 hz3 (by omega) Try.sizeOf32 b o n c (flat enE l) W (by rw [flat_len, hn]) (by unfold maxLen; omega) (by omega) (fun j u hj => ?_) (flat_one enE l)).mono ?_
    · obtain ⟨b', o', e, _, h3⟩ := hx j u hj
      injection e with e
      injection e with e1 e2
      subst e1 e2
      exact h3
    · rintro e w ⟨v, rfl, hr, _, hb⟩
      have hT : Tab enE w W.heap.size tE v l := by unfold Tab; rw [hn]; exact hr
      obtain ⟨A', c', hv, hc, _⟩ := hT.form
      rw [hn] at hv
      subst hv
      exact ⟨A', c', rfl, hT, hb⟩
theorem results_tmp4 {fn : Func} {t u v x : Tmp} (h : fn.results = #[.tmp t, .tmp u, .tmp v, .tmp x]) (tmps : Array Value) (P : Program) (w : World) :
    (results fn tmps).run P w = .ok (.tuple #[tmps.getD t undef, tmps.getD u undef, tmps.getD v undef, tmps.getD x undef]) w := by
  simp [results, h]
theorem tab_new {W w : World} {n c : Nat} {A : Option Addr} {l : List En} (h : ETab w W.heap.size (.slice A n c) l) (hn : l.length = n) : n ≤ c ∧ c ≤ 9223372036854775807 ∧ ∀ a, A = some a → W.heap.size ≤ a.block := by
  have hl := Tab.lt h
  obtain ⟨A', c', e, h1, h2⟩ := Tab.form h
  injection e with e1 e2 e3
  subst e1 e3
  refine ⟨by omega, by unfold maxLen at h2; omega, fun a ha => ?_⟩
  subst ha
  exact (hl a.block rfl).1
set_option maxRecDepth 100000 in
set_option maxHeartbeats 16000000 in
theorem pmerge_bad (A B : Option Addr) (a b : List En) (n m ca cb : Nat) (V : World) (hn : a.length = n) (hm : b.length = m) (h1 : n ≤ 140737488355328) (h2 : m ≤ 140737488355328) (hx : Reads V A (flat enE a)) (hy : Reads V B (flat enE b)) (he : ¬ (okL a = true ∧ okL b = true)) :
    Calls Try.prog 16 #[.slice A n ca, .slice B m cb] V (MergeOut B [] 0 [] 0 [] 0 1 V) := by
  have C := Lib.hid (common_bad A B a b n m ca cb V hn hm h1 h2 hx hy he)
  clear hx hy hn hm he
  go_enter Try.func16, Try.ntmps16
  go_wp2_with (refine C.out.mono ?_; rintro e w2 ⟨rfl, hb2⟩)
  refine bodyPost_ret (results_tmp4 rfl _ _ _) rfl ?_
  exact ⟨none, 0, none, 0, none, 0, rfl, ⟨Nat.le_refl _, by omega, fun a h => by cases h⟩, reads_nil' none, fun i v hv => by simp at hv, reads_nil' none, hb2⟩
set_option maxRecDepth 100000 in
set_option maxHeartbeats 16000000 in
theorem pmerge_gg (A B : Option Addr) (a b : List En) (n m ca cb k : Nat) (V : World) (hn : a.length = n) (hm : b.length = m) (h1 : n ≤ ca) (h2 : m ≤ cb) (h3 : ca ≤ 9223372036854775807) (h4 : cb ≤ 9223372036854775807)
    (hx : Reads V A (flat enE a)) (hy : Reads V B (flat enE b)) (fa : FitL a) (fb : FitL b) (hk : com a b = k) (oa : okL a = true) (ob : okL b = true) (hA : ¬ ca = k) (hB : ¬ cb = k) (ks : List Int) (nk nw : Nat) (wr : List En) (hks : keysOf (rest2 a b) = ks) (hnk : ks.length = nk) (hwr : a.drop k = wr) (hnw : wr.length = nw) :
    Calls Try.prog 16 #[.slice A n ca, .slice B m cb] V (MergeOut B b m ks nk wr nw 0 V) := by
  have n4 : n ≤ 400 := by rw [← hn]; exact okL_len oa
  have m4 : m ≤ 400 := by rw [← hm]; exact okL_len ob
  have kn : k ≤ n := by have := (com_le a b).1; omega
  have km : k ≤ m := by have := (com_le a b).2; omega
  have C0 := common_ok A B a b n m ca cb V hn hm (by omega) (by omega) hx hy oa ob
  rw [hk] at C0
  have C := Lib.hid C0
  have hnn : nw = n - k := by rw [← hnw, ← hwr, List.length_drop, hn]
  have hAf : (ca = k) = False := by simp [hA]
  have RA : Reads V (Option.map (fun x => x.add (k * 3)) A) (flat enE wr) := by rw [← hwr]; exact reads_drop hx k
  have LA : wr.length = n - k := by rw [hnw, hnn]
  have hBf : (cb = k) = False := by simp [hB]
  have RB : Reads V (Option.map (fun x => x.add (k * 3)) B) (flat enE (b.drop k)) := reads_drop hy k
  have LB : (b.drop k).length = m - k := by rw [List.length_drop, hm]
  have HKS : IsKeys ks (wr ++ b.drop k) := by rw [← hks, ← hwr, ← hk]; exact isKeys_of _
  have FW : FitL wr := fun e h => fa e (by rw [← hwr] at h; exact List.mem_of_mem_drop h)
  have FB2 : FitL (b.drop k) := fun e h => fb e (List.mem_of_mem_drop h)
  have K1 := Lib.hid (fun X (h : Below V.heap.size V X) => clone_en B b m cb X hm (by omega) (hy.below h))
  have K2 := Lib.hid (fun X (h : Below V.heap.size V X) => pkeys_c (Option.map (fun x => x.add (k * 3)) A) (Option.map (fun x => x.add (k * 3)) B) wr (b.drop k) (n - k) (m - k) (ca - k) (cb - k) X LA LB (by omega) (by omega) (RA.below h) (RB.below h) FW FB2 ks nk HKS hnk)
  have K3 := Lib.hid (fun X (h : Below V.heap.size V X) => clone_en (Option.map (fun x => x.add (k * 3)) A) wr (n - k) (ca - k) X LA (by omega) (RA.below h))
  have NW := Lib.hid (show (n - k) = nw by omega)
  have HM := Lib.hid hm
  have HL := Lib.hid (show wr.length = nw from hnw)
  have i1 : (k : Int) ≤ (n : Int) := by omega
  have i2 : (k : Int) ≤ (m : Int) := by omega
  clear hx hy fa fb hk oa ob hks hnk hwr hnw hnn C0 RA LA RB LB HKS FW FB2 hn hm
  go_enter Try.func16, Try.ntmps16
  go_wp2_with fail
  refine C.out.mono ?_
  rintro e w1 ⟨rfl, hb1⟩
  have B1 := Lib.hid hb1
  clear hb1 C
  go_upto_region 4 with fail
  go_region_with (first
    | (go_at_call_of 28 (Value.slice B m cb); refine (K1.out _ (Mem.below_drew B1.out)).mono ?_; rintro u w2 ⟨A2, c2, rfl, hT, hb⟩; have B2 := Lib.hid ((Mem.below_drew B1.out).trans (hb.mono B1.out.size)); have T2 := Lib.hid (tab_new hT HM.out); have S2 := Lib.hid (show V.heap.size ≤ w1.drew.heap.size from B1.out.size); have R2 := Lib.hid (Tab.reads hT); clear hT hb)
    | (go_at_call 29; refine (K2.out _ B2.out).mono ?_; rintro u w3 ⟨K, d, rfl, hd, hr, hb⟩; have B3 := Lib.hid (B2.out.trans (hb.mono B2.out.size)); have R3 := Lib.hid (R2.out.below hb); have KR := Lib.hid hr; clear hr hb hd)
    | (go_at_call_of 28 (Value.slice (Option.map (fun x => x.add (k * 3)) A) (n - k) (ca - k)); refine (K3.out _ B3.out).mono ?_; rintro u w4 ⟨A4, c4, rfl, hT, hb⟩; have B4 := Lib.hid (B3.out.trans (hb.mono B3.out.size)); have R4 := Lib.hid (R3.out.below hb); have KR4 := Lib.hid (KR.out.below hb); have D4 := Lib.hid (Tab.reads hT); clear hT hb))
  all_goals
    go_wp2
    (try simp only [Exit.inBlock, Exit.then])
    refine bodyPost_ret (results_tmp4 rfl _ _ _) rfl ?_
    refine ⟨A2, c2, K, d, A4, c4, ?_, ⟨T2.out.1, T2.out.2.1, fun a h => .inl (Nat.le_trans S2.out (T2.out.2.2 a h))⟩, R4.out, KR4.out, D4.out, B4.out⟩
    rw [← NW.out]
    rfl
set_option maxRecDepth 100000 in
set_option maxHeartbeats 16000000 in
theorem pmerge_ge (A B : Option Addr) (a b : List En) (n m ca k : Nat) (V : World) (hn : a.length = n) (hm : b.length = m) (h1 : n ≤ ca) (h2 : m ≤ k) (h3 : ca ≤ 9223372036854775807) (h4 : k ≤ 9223372036854775807)
    (hx : Reads V A (flat enE a)) (hy : Reads V B (flat enE b)) (fa : FitL a) (fb : FitL b) (hk : com a b = k) (oa : okL a = true) (ob : okL b = true) (hA : ¬ ca = k) (ks : List Int) (nk nw : Nat) (wr : List En) (hks : keysOf (rest2 a b) = ks) (hnk : ks.length = nk) (hwr : a.drop k = wr) (hnw : wr.length = nw) :
    Calls Try.prog 16 #[.slice A n ca, .slice B m k] V (MergeOut B b m ks nk wr nw 0 V) := by
  have n4 : n ≤ 400 := by rw [← hn]; exact okL_len oa
  have m4 : m ≤ 400 := by rw [← hm]; exact okL_len ob
  have kn : k ≤ n := by have := (com_le a b).1; omega
  have km : k ≤ m := by have := (com_le a b).2; omega
  have C0 := common_ok A B a b n m ca k V hn hm (by omega) (by omega) hx hy oa ob
  rw [hk] at C0
  have C := Lib.hid C0
  have hnn : nw = n - k := by rw [← hnw, ← hwr, List.length_drop, hn]
  have hAf : (ca = k) = False := by simp [hA]
  have RA : Reads V (Option.map (fun x => x.add (k * 3)) A) (flat enE wr) := by rw [← hwr]; exact reads_drop hx k
  have LA : wr.length = n - k := by rw [hnw, hnn]
  have LB : (b.drop k).length = 0 := by rw [List.length_drop]; omega
  have RB : Reads V B (flat enE (b.drop k)) := by rw [List.eq_nil_of_length_eq_zero LB]; exact reads_nil' B
  have HKS : IsKeys ks (wr ++ b.drop k) := by rw [← hks, ← hwr, ← hk]; exact isKeys_of _
  have FW : FitL wr := fun e h => fa e (by rw [← hwr] at h; exact List.mem_of_mem_drop h)
  have FB2 : FitL (b.drop k) := fun e h => fb e (List.mem_of_mem_drop h)
  have K1 := Lib.hid (fun X (h : Below V.heap.size V X) => clone_en B b m k X hm (by omega) (hy.below h))
  have K2 := Lib.hid (fun X (h : Below V.heap.size V X) => pkeys_c (Option.map (fun x => x.add (k * 3)) A) B wr (b.drop k) (n - k) 0 (ca - k) 0 X LA LB (by omega) (by omega) (RA.below h) (RB.below h) FW FB2 ks nk HKS hnk)
  have K3 := Lib.hid (fun X (h : Below V.heap.size V X) => clone_en (Option.map (fun x => x.add (k * 3)) A) wr (n - k) (ca - k) X LA (by omega) (RA.below h))
  have NW := Lib.hid (show (n - k) = nw by omega)
  have HM := Lib.hid hm
  have HL := Lib.hid (show wr.length = nw from hnw)
  have i1 : (k : Int) ≤ (n : Int) := by omega
  have i2 : (k : Int) ≤ (m : Int) := by omega
  clear hx hy fa fb hk oa ob hks hnk hwr hnw hnn C0 RA LA RB LB HKS FW FB2 hn hm
  go_enter Try.func16, Try.ntmps16
  go_wp2_with fail
  refine C.out.mono ?_
  rintro e w1 ⟨rfl, hb1⟩
  have B1 := Lib.hid hb1
  clear hb1 C
  go_upto_region 4 with fail
  go_region_with (first
    | (go_at_call_of 28 (Value.slice B m k); refine (K1.out _ (Mem.below_drew B1.out)).mono ?_; rintro u w2 ⟨A2, c2, rfl, hT, hb⟩; have B2 := Lib.hid ((Mem.below_drew B1.out).trans (hb.mono B1.out.size)); have T2 := Lib.hid (tab_new hT HM.out); have S2 := Lib.hid (show V.heap.size ≤ w1.drew.heap.size from B1.out.size); have R2 := Lib.hid (Tab.reads hT); clear hT hb)
    | (go_at_call 29; refine (K2.out _ B2.out).mono ?_; rintro u w3 ⟨K, d, rfl, hd, hr, hb⟩; have B3 := Lib.hid (B2.out.trans (hb.mono B2.out.size)); have R3 := Lib.hid (R2.out.below hb); have KR := Lib.hid hr; clear hr hb hd)
    | (go_at_call_of 28 (Value.slice (Option.map (fun x => x.add (k * 3)) A) (n - k) (ca - k)); refine (K3.out _ B3.out).mono ?_; rintro u w4 ⟨A4, c4, rfl, hT, hb⟩; have B4 := Lib.hid (B3.out.trans (hb.mono B3.out.size)); have R4 := Lib.hid (R3.out.below hb); have KR4 := Lib.hid (KR.out.below hb); have D4 := Lib.hid (Tab.reads hT); clear hT hb))
  all_goals
    go_wp2
    (try simp only [Exit.inBlock, Exit.then])
    refine bodyPost_ret (results_tmp4 rfl _ _ _) rfl ?_
    refine ⟨A2, c2, K, d, A4, c4, ?_, ⟨T2.out.1, T2.out.2.1, fun a h => .inl (Nat.le_trans S2.out (T2.out.2.2 a h))⟩, R4.out, KR4.out, D4.out, B4.out⟩
    rw [← NW.out]
    rfl
set_option maxRecDepth 100000 in
set_option maxHeartbeats 16000000 in
theorem pmerge_eg (A B : Option Addr) (a b : List En) (n m cb k : Nat) (V : World) (hn : a.length = n) (hm : b.length = m) (h1 : n ≤ k) (h2 : m ≤ cb) (h3 : k ≤ 9223372036854775807) (h4 : cb ≤ 9223372036854775807)
    (hx : Reads V A (flat enE a)) (hy : Reads V B (flat enE b)) (fa : FitL a) (fb : FitL b) (hk : com a b = k) (oa : okL a = true) (ob : okL b = true) (hB : ¬ cb = k) (ks : List Int) (nk nw : Nat) (wr : List En) (hks : keysOf (rest2 a b) = ks) (hnk : ks.length = nk) (hwr : a.drop k = wr) (hnw : wr.length = nw) :
    Calls Try.prog 16 #[.slice A n k, .slice B m cb] V (MergeOut B b m ks nk wr nw 0 V) := by
  have n4 : n ≤ 400 := by rw [← hn]; exact okL_len oa
  have m4 : m ≤ 400 := by rw [← hm]; exact okL_len ob
  have kn : k ≤ n := by have := (com_le a b).1; omega
  have km : k ≤ m := by have := (com_le a b).2; omega
  have C0 := common_ok A B a b n m k cb V hn hm (by omega) (by omega) hx hy oa ob
  rw [hk] at C0
  have C := Lib.hid C0
  have hnn : nw = n - k := by rw [← hnw, ← hwr, List.length_drop, hn]
  have LA : wr.length = 0 := by omega
  have RA : Reads V A (flat enE wr) := by rw [List.eq_nil_of_length_eq_zero LA]; exact reads_nil' A
  have hBf : (cb = k) = False := by simp [hB]
  have RB : Reads V (Option.map (fun x => x.add (k * 3)) B) (flat enE (b.drop k)) := reads_drop hy k
  have LB : (b.drop k).length = m - k := by rw [List.length_drop, hm]
  have HKS : IsKeys ks (wr ++ b.drop k) := by rw [← hks, ← hwr, ← hk]; exact isKeys_of _
  have FW : FitL wr := fun e h => fa e (by rw [← hwr] at h; exact List.mem_of_mem_drop h)
  have FB2 : FitL (b.drop k) := fun e h => fb e (List.mem_of_mem_drop h)
  have K1 := Lib.hid (fun X (h : Below V.heap.size V X) => clone_en B b m cb X hm (by omega) (hy.below h))
  have K2 := Lib.hid (fun X (h : Below V.heap.size V X) => pkeys_c A (Option.map (fun x => x.add (k * 3)) B) wr (b.drop k) 0 (m - k) 0 (cb - k) X LA LB (by omega) (by omega) (RA.below h) (RB.below h) FW FB2 ks nk HKS hnk)
  have K3 := Lib.hid (fun X (h : Below V.heap.size V X) => clone_en A wr 0 0 X LA (by omega) (RA.below h))
  have NW := Lib.hid (show 0 = nw by omega)
  have HM := Lib.hid hm
  have HL := Lib.hid (show wr.length = nw from hnw)
  have i1 : (k : Int) ≤ (n : Int) := by omega
  have i2 : (k : Int) ≤ (m : Int) := by omega
  clear hx hy fa fb hk oa ob hks hnk hwr hnw hnn C0 RA LA RB LB HKS FW FB2 hn hm
  go_enter Try.func16, Try.ntmps16
  go_wp2_with fail
  refine C.out.mono ?_
  rintro e w1 ⟨rfl, hb1⟩
  have B1 := Lib.hid hb1
  clear hb1 C
  go_upto_region 4 with fail
  go_region_with (first
    | (go_at_call_of 28 (Value.slice B m cb); refine (K1.out _ (Mem.below_drew B1.out)).mono ?_; rintro u w2 ⟨A2, c2, rfl, hT, hb⟩; have B2 := Lib.hid ((Mem.below_drew B1.out).trans (hb.mono B1.out.size)); have T2 := Lib.hid (tab_new hT HM.out); have S2 := Lib.hid (show V.heap.size ≤ w1.drew.heap.size from B1.out.size); have R2 := Lib.hid (Tab.reads hT); clear hT hb)
    | (go_at_call 29; refine (K2.out _ B2.out).mono ?_; rintro u w3 ⟨K, d, rfl, hd, hr, hb⟩; have B3 := Lib.hid (B2.out.trans (hb.mono B2.out.size)); have R3 := Lib.hid (R2.out.below hb); have KR := Lib.hid hr; clear hr hb hd)
    | (go_at_call_of 28 (Value.slice A 0 0); refine (K3.out _ B3.out).mono ?_; rintro u w4 ⟨A4, c4, rfl, hT, hb⟩; have B4 := Lib.hid (B3.out.trans (hb.mono B3.out.size)); have R4 := Lib.hid (R3.out.below hb); have KR4 := Lib.hid (KR.out.below hb); have D4 := Lib.hid (Tab.reads hT); clear hT hb))
  all_goals
    go_wp2
    (try simp only [Exit.inBlock, Exit.then])
    refine bodyPost_ret (results_tmp4 rfl _ _ _) rfl ?_
    refine ⟨A2, c2, K, d, A4, c4, ?_, ⟨T2.out.1, T2.out.2.1, fun a h => .inl (Nat.le_trans S2.out (T2.out.2.2 a h))⟩, R4.out, KR4.out, D4.out, B4.out⟩
    rw [← NW.out]
    rfl
set_option maxRecDepth 100000 in
set_option maxHeartbeats 16000000 in
theorem pmerge_ee (A B : Option Addr) (a b : List En) (n m  k : Nat) (V : World) (hn : a.length = n) (hm : b.length = m) (h1 : n ≤ k) (h2 : m ≤ k) (h3 : k ≤ 9223372036854775807) (h4 : k ≤ 9223372036854775807)
    (hx : Reads V A (flat enE a)) (hy : Reads V B (flat enE b)) (fa : FitL a) (fb : FitL b) (hk : com a b = k) (oa : okL a = true) (ob : okL b = true) (ks : List Int) (nk nw : Nat) (wr : List En) (hks : keysOf (rest2 a b) = ks) (hnk : ks.length = nk) (hwr : a.drop k = wr) (hnw : wr.length = nw) :
    Calls Try.prog 16 #[.slice A n k, .slice B m k] V (MergeOut B b m ks nk wr nw 0 V) := by
  have n4 : n ≤ 400 := by rw [← hn]; exact okL_len oa
  have m4 : m ≤ 400 := by rw [← hm]; exact okL_len ob
  have kn : k ≤ n := by have := (com_le a b).1; omega
  have km : k ≤ m := by have := (com_le a b).2; omega
  have C0 := common_ok A B a b n m k k V hn hm (by omega) (by omega) hx hy oa ob
  rw [hk] at C0
  have C := Lib.hid C0
  have hnn : nw = n - k := by rw [← hnw, ← hwr, List.length_drop, hn]
  have LA : wr.length = 0 := by omega
  have RA : Reads V A (flat enE wr) := by rw [List.eq_nil_of_length_eq_zero LA]; exact reads_nil' A
  have LB : (b.drop k).length = 0 := by rw [List.length_drop]; omega
  have RB : Reads V B (flat enE (b.drop k)) := by rw [List.eq_nil_of_length_eq_zero LB]; exact reads_nil' B
  have HKS : IsKeys ks (wr ++ b.drop k) := by rw [← hks, ← hwr, ← hk]; exact isKeys_of _
  have FW : FitL wr := fun e h => fa e (by rw [← hwr] at h; exact List.mem_of_mem_drop h)
  have FB2 : FitL (b.drop k) := fun e h => fb e (List.mem_of_mem_drop h)
  have K1 := Lib.hid (fun X (h : Below V.heap.size V X) => clone_en B b m k X hm (by omega) (hy.below h))
  have K2 := Lib.hid (fun X (h : Below V.heap.size V X) => pkeys_c A B wr (b.drop k) 0 0 0 0 X LA LB (by omega) (by omega) (RA.below h) (RB.below h) FW FB2 ks nk HKS hnk)
  have K3 := Lib.hid (fun X (h : Below V.heap.size V X) => clone_en A wr 0 0 X LA (by omega) (RA.below h))
  have NW := Lib.hid (show 0 = nw by omega)
  have HM := Lib.hid hm
  have HL := Lib.hid (show wr.length = nw from hnw)
  have i1 : (k : Int) ≤ (n : Int) := by omega
  have i2 : (k : Int) ≤ (m : Int) := by omega
  clear hx hy fa fb hk oa ob hks hnk hwr hnw hnn C0 RA LA RB LB HKS FW FB2 hn hm
  go_enter Try.func16, Try.ntmps16
  go_wp2_with fail
  refine C.out.mono ?_
  rintro e w1 ⟨rfl, hb1⟩
  have B1 := Lib.hid hb1
  clear hb1 C
  go_upto_region 4 with fail
  go_region_with (first
    | (go_at_call_of 28 (Value.slice B m k); refine (K1.out _ (Mem.below_drew B1.out)).mono ?_; rintro u w2 ⟨A2, c2, rfl, hT, hb⟩; have B2 := Lib.hid ((Mem.below_drew B1.out).trans (hb.mono B1.out.size)); have T2 := Lib.hid (tab_new hT HM.out); have S2 := Lib.hid (show V.heap.size ≤ w1.drew.heap.size from B1.out.size); have R2 := Lib.hid (Tab.reads hT); clear hT hb)
    | (go_at_call 29; refine (K2.out _ B2.out).mono ?_; rintro u w3 ⟨K, d, rfl, hd, hr, hb⟩; have B3 := Lib.hid (B2.out.trans (hb.mono B2.out.size)); have R3 := Lib.hid (R2.out.below hb); have KR := Lib.hid hr; clear hr hb hd)
    | (go_at_call_of 28 (Value.slice A 0 0); refine (K3.out _ B3.out).mono ?_; rintro u w4 ⟨A4, c4, rfl, hT, hb⟩; have B4 := Lib.hid (B3.out.trans (hb.mono B3.out.size)); have R4 := Lib.hid (R3.out.below hb); have KR4 := Lib.hid (KR.out.below hb); have D4 := Lib.hid (Tab.reads hT); clear hT hb))
  all_goals
    go_wp2
    (try simp only [Exit.inBlock, Exit.then])
    refine bodyPost_ret (results_tmp4 rfl _ _ _) rfl ?_
    refine ⟨A2, c2, K, d, A4, c4, ?_, ⟨T2.out.1, T2.out.2.1, fun a h => .inl (Nat.le_trans S2.out (T2.out.2.2 a h))⟩, R4.out, KR4.out, D4.out, B4.out⟩
    rw [← NW.out]
    rfl
end Go.Proofs.Ytmnhhfhdaagmhaa.Lg
