/-
  The document's own answers of package logs: OBest.
-/
import Derived.Test.YtmnhhfhdaagmhaaLgRef2
namespace Go.Proofs.Ytmnhhfhdaagmhaa.Lg
set_option linter.unusedVariables false
set_option linter.unusedSimpArgs false
open Go.RowKit Mem Gt
open Jump (Gave equalZ_c)
open Go.Sort (grow)

theorem last_at {y : List En} {q : Nat} (h : y.length = q + 1) : ∃ u, y[q]? = some u ∧ y.getLast? = some u := by
  have hq : q < y.length := by omega
  exact ⟨y[q], List.getElem?_eq_getElem hq, by rw [List.getLast?_eq_getElem?, h]; exact List.getElem?_eq_getElem hq⟩
/-- As high as the first logs. -/
def topTo (t : En) (l : List (List En)) : Bool := l.all (fun y => match y.getLast? with | none => true | some u => !higher u t)
theorem topTo_snoc (t : En) (l : List (List En)) (y : List En) : topTo t (l ++ [y]) = (topTo t l && (match y.getLast? with | none => true | some u => !higher u t)) := by unfold topTo; simp
theorem isTop_to {l : List (List En)} {x : List En} {t : En} (h : x.getLast? = some t) : isTop l x = topTo t l := by unfold isTop topTo; simp only [h]; rfl
theorem best_is {ls : List (List En)} {k : Nat} {x : List En} (h16 : ls.length ≤ 16) (hok : ∀ x ∈ ls, okL x = true) (hx : ls[k]? = some x) (ht : isTop ls x = true) (hlt : ∀ (j : Nat) (y : List En), j < k → ls[j]? = some y → isTop ls y = false) : bestE ls = 0 ∧ bestK ls = k := by
  obtain ⟨t, h1, _⟩ := isTop_iff.1 ht
  have e : bestE ls = 0 := by
    unfold bestE
    rw [if_neg (by omega), if_neg, if_neg]
    · intro h
      have := List.all_eq_true.1 h x (List.mem_of_getElem? hx)
      rw [List.isEmpty_iff] at this
      rw [this] at h1; simp at h1
    · rw [List.all_eq_true.2 hok]; simp
  refine ⟨e, ?_⟩
  obtain ⟨y, hy, hty, hl, hmin⟩ := best_facts e
  rcases Nat.lt_trichotomy (bestK ls) k with h | h | h
  · have := hlt _ y h hy
    rw [this] at hty; cases hty
  · exact h
  · have := hmin k x h hx
    rw [this] at ht; cases ht
theorem best_no {ls : List (List En)} (h16 : ls.length ≤ 16) (hok : ∀ x ∈ ls, okL x = true) (hlt : ∀ (j : Nat) (y : List En), ls[j]? = some y → isTop ls y = false) : bestE ls = 3 ∧ bestK ls = 0 := by
  have ha : ls.all (fun x => x.isEmpty) = true := by
    cases h : ls.all (fun x => x.isEmpty) with
    | true => rfl
    | false =>
      obtain ⟨x, hx, ht⟩ := top_exists h
      obtain ⟨j, hj⟩ := List.getElem?_of_mem hx
      rw [hlt j x hj] at ht; cases ht
  have e : bestE ls = 3 := by
    unfold bestE
    rw [if_neg (by omega), if_neg, if_pos ha]
    rw [List.all_eq_true.2 hok]; simp
  exact ⟨e, by unfold bestK; rw [e, if_neg (by decide)]⟩
set_option maxRecDepth 100000 in
set_option maxHeartbeats 16000000 in
theorem obest_c (A : Option Addr) (ls : List (List En)) (n ca : Nat) (V : World) (hn : ls.length = n) (hbig : n ≤ 140737488355328) (hx : GRds enE V A ls) :
    Calls Try.prog 10 #[.slice A n ca] V (Gave (.tuple #[.int .i64 (bestK ls : Nat), .int .i64 (bestE ls)]) V) := by
  by_cases h16 : 16 < n
  · have e : bestE ls = 2 := by unfold bestE; rw [if_pos (by omega)]
    have e2 : bestK ls = 0 := by unfold bestK; rw [e, if_neg (by decide)]
    rw [e, e2]
    have i1 : (16 : Int) < (n : Int) := by omega
    clear hx hn e e2
    go_enter Try.func10, Try.ntmps10
    go_wp2
    go_ret2
    exact ⟨rfl, Below.refl _ _⟩
  · have i1 : ¬ (16 : Int) < (n : Int) := by omega
    have HX := Lib.hid hx
    have HN := Lib.hid hn
    have H16 := Lib.hid (show ls.length ≤ 16 by omega)
    have RC := Lib.hid (fun (A : Option Addr) (l : List En) (n ca : Nat) (V : World) (hn : l.length = n) (hb : n ≤ 140737488355328) (hx : Reads V A (flat enE l)) => oright_c A l n ca V hn hb hx)
    clear hx hn
    go_enter Try.func10, Try.ntmps10
    go_wp2_with fail
    go_loopw [16] (fun i wr => ∃ k : Nat, k ≤ n ∧ i = .int .i64 k ∧ (∀ x ∈ ls.take k, okL x = true) ∧ Below V.heap.size V wr) (fun i _ => n - (intOf i).toNat)
    case atStart => exact ⟨0, by omega, rfl, fun x hx => by simp at hx, Below.refl _ _⟩
    case round =>
      obtain ⟨k, hk, rfl, hok, hB⟩ := hrel
      have OK := Lib.hid hok
      have BB := Lib.hid hB
      clear hok
      by_cases hlt : k < n
      · have kl : k < ls.length := by rw [HN.out]; exact hlt
        obtain ⟨x, hx⟩ : ∃ x, ls[k]? = some x := ⟨_, List.getElem?_eq_getElem kl⟩
        obtain ⟨b1, o1, C, c, rfl, _, y0, hlc, hc, hrd⟩ := (HX.out.below hB).row hx
        obtain ⟨q, hq⟩ : ∃ q, x.length = q := ⟨_, rfl⟩
        rw [hq] at y0 hlc
        have j1 : (k : Int) < (n : Int) := by omega
        have CR := Lib.hid (RC.out C x q c wr hq (by omega) hrd)
        have HXX := Lib.hid hx
        clear kl hx hrd hq hB
        cases hv : okL x with
        | false =>
          rw [hv] at CR
          have E := Lib.hid (show bestE ls = 1 ∧ bestK ls = 0 by
            have e : bestE ls = 1 := by
              unfold bestE
              rw [if_neg (by have := H16.out; omega), if_pos]
              cases h : ls.all okL with
              | false => rfl
              | true => rw [List.all_eq_true.1 h x (List.mem_of_getElem? HXX.out)] at hv; cases hv
            exact ⟨e, by unfold bestK; rw [e, if_neg (by decide)]⟩)
          clear hv
          go_wp2_with (go_at_call 13; refine CR.out.mono ?_; rintro e w2 ⟨rfl, hb2⟩)
          rw [E.out.1, E.out.2]
          go_ret2
          exact ⟨rfl, BB.out.trans (hb2.mono BB.out.size)⟩
        | true =>
          rw [hv] at CR
          have OK2 := Lib.hid (show ∀ y ∈ ls.take (k + 1), okL y = true from fun y hy => by
            rw [List.take_add_one, HXX.out] at hy
            rcases List.mem_append.1 hy with hy | hy
            · exact OK.out y hy
            · simp at hy; subst hy; exact hv)
          clear hv
          go_wp2_with (go_at_call 13; refine CR.out.mono ?_; rintro e w2 ⟨rfl, hb2⟩)
          go_roundw
          case rel => exact ⟨k + 1, by omega, by go_num, OK2.out, BB.out.trans (hb2.mono BB.out.size)⟩
          case measure => simp [intOf]; omega
      · obtain rfl : k = n := by omega
        have OKA := Lib.hid (show ∀ x ∈ ls, okL x = true by have := OK.out; rwa [List.take_of_length_le (Nat.le_of_eq HN.out)] at this)
        clear hB
        go_wp2_with fail
        go_loopw [26] (fun i wr => ∃ j : Nat, j ≤ k ∧ i = .int .i64 j ∧ (∀ (p : Nat) (y : List En), p < j → ls[p]? = some y → isTop ls y = false) ∧ Below V.heap.size V wr) (fun i _ => k - (intOf i).toNat)
        case atStart => exact ⟨0, by omega, rfl, fun p y hp _ => by omega, BB.out⟩
        case round =>
          obtain ⟨j, hj, rfl, hno, hB⟩ := hrel
          obtain ⟨wo, rfl⟩ : ∃ wo : World, wo = wr := ⟨_, rfl⟩
          have NO := Lib.hid hno
          have B2 := Lib.hid hB
          clear hno
          by_cases hlt2 : j < k
          · have kl : j < ls.length := by rw [HN.out]; exact hlt2
            obtain ⟨x, hx⟩ : ∃ x, ls[j]? = some x := ⟨_, List.getElem?_eq_getElem kl⟩
            obtain ⟨b1, o1, C, c, rfl, _, y0, hlc, hc, hrd⟩ := (HX.out.below hB).row hx
            obtain ⟨q, hq⟩ : ∃ q, x.length = q := ⟨_, rfl⟩
            rw [hq] at y0 hlc
            have j1 : (j : Int) < (k : Int) := by omega
            have HXX := Lib.hid hx
            have RX := Lib.hid ((HX.out).row hx)
            by_cases hq0 : q = 0
            · subst hq0
              have NO2 := Lib.hid (show ∀ (p : Nat) (y : List En), p < j + 1 → ls[p]? = some y → isTop ls y = false from fun p y hp hy => by
                rcases Nat.lt_or_ge p j with h | h
                · exact NO.out p y h hy
                · obtain rfl : p = j := by omega
                  rw [hx] at hy; injection hy with hy
                  rw [← hy, List.eq_nil_of_length_eq_zero hq]; rfl)
              clear kl hx hrd hq hB RX hlc
              go_wp2_with fail
              go_roundw
              case rel => exact ⟨j + 1, by omega, by go_num, NO2.out, B2.out⟩
              case measure => simp [intOf]; omega
            · obtain ⟨r, hr⟩ : ∃ r, q = r + 1 := ⟨q - 1, by omega⟩
              obtain ⟨t, ht, htl⟩ := last_at (hq.trans hr)
              obtain ⟨b2, o2, hC, _, z0, z1, z2⟩ := en_at (hrd) ht
              have ZB := Lib.hid (show ∀ W', Below wo.heap.size wo W' → W'.cell? ⟨b2, o2 + r * 3, none⟩ = some (.int .i64 t.1) ∧ W'.cell? ⟨b2, o2 + r * 3 + 1, none⟩ = some (.int .i64 t.2.1) ∧ W'.cell? ⟨b2, o2 + r * 3 + 2, none⟩ = some (.int .i64 t.2.2) from fun W' hW' =>
                ⟨(hW'.cell (World.block_lt_of_cell? _ _ z0)).trans z0, (hW'.cell (World.block_lt_of_cell? _ _ z1)).trans z1, (hW'.cell (World.block_lt_of_cell? _ _ z2)).trans z2⟩)
              subst hC
              obtain ⟨t0, t1, t2⟩ := t
              have q0 : ((q : Int) == 0) = false := by simp; omega
              have wq : IntKind.i64.wrap ((q : Int) - 1) = (r : Int) := by rw [IntWalk.i64_in _ (by omega)]; omega
              have rq : (r : Int) < (q : Int) := by omega
              have TI := Lib.hid (isTop_to (l := ls) htl)
              have HQ := Lib.hid hr
              clear kl hx hrd hq hB RX ht htl z0 z1 z2 hr
              go_upto_region 14 with fail
              go_wp2_with fail
              go_loopw [8, 36] (fun f i wr => ∃ (p : Nat) (c : Bool), p ≤ k ∧ i = .int .i64 p ∧ f = .bool c ∧ c = topTo (t0, t1, t2) (ls.take p) ∧ Below wo.heap.size wo wr) (fun _ i _ => k - (intOf i).toNat)
              case atStart => exact ⟨0, true, by omega, rfl, rfl, rfl, Below.refl _ _⟩
              case round =>
                obtain ⟨p, f, hp, rfl, rfl, hf, hB⟩ := hrel
                have HF := Lib.hid hf
                have B3 := Lib.hid hB
                by_cases hlt3 : p < k
                · have kl : p < ls.length := by rw [HN.out]; exact hlt3
                  obtain ⟨y, hy⟩ : ∃ x, ls[p]? = some x := ⟨_, List.getElem?_eq_getElem kl⟩
                  obtain ⟨b3, o3, D, d, e3, _, u0, hld, hd, hrd⟩ := (HX.out.below (B2.out.trans (hB.mono B2.out.size))).row hy
                  injection e3 with e3
                  injection e3 with e4 e5
                  subst e4 e5
                  obtain ⟨m, hm⟩ : ∃ m, y.length = m := ⟨_, rfl⟩
                  rw [hm] at u0 hld
                  have TS := Lib.hid (show topTo (t0, t1, t2) (ls.take (p + 1)) = (f && (match y.getLast? with | none => true | some u => !higher u (t0, t1, t2))) by rw [List.take_add_one, hy]; show topTo _ (ls.take p ++ [y]) = _; rw [topTo_snoc, hf])
                  have j2 : (p : Int) < (k : Int) := by omega
                  cases f with
                  | false =>
                    have E := Lib.hid (show false = topTo (t0, t1, t2) (ls.take (p + 1)) by rw [TS.out]; rfl)
                    clear kl hy hrd hm hB hf
                    go_upto_region 17 with fail
                    go_quiet (fail)
                    go_wp2
                    go_roundw
                    case rel => exact ⟨p + 1, false, by omega, by go_num, rfl, E.out, Mem.below_drewN B3.out _⟩
                    case measure => simp [intOf]; omega
                  | true =>
                    by_cases hm0 : m = 0
                    · subst hm0
                      have E := Lib.hid (show true = topTo (t0, t1, t2) (ls.take (p + 1)) by rw [TS.out, List.eq_nil_of_length_eq_zero hm]; rfl)
                      clear kl hy hrd hm hB hf hld
                      go_upto_region 17 with fail
                      go_quiet (fail)
                      go_wp2
                      go_roundw
                      case rel => exact ⟨p + 1, true, by omega, by go_num, rfl, E.out, Mem.below_drewN B3.out _⟩
                      case measure => simp [intOf]; omega
                    · obtain ⟨s, hs⟩ : ∃ s, m = s + 1 := ⟨m - 1, by omega⟩
                      obtain ⟨u, hu, hul⟩ := last_at (hm.trans hs)
                      obtain ⟨b4, o4, hD, _, x0, x1, x2⟩ := en_at hrd hu
                      subst hD
                      obtain ⟨hh, hhe⟩ : ∃ hh, hh = higher u (t0, t1, t2) := ⟨_, rfl⟩
                      have E := Lib.hid (show (!hh) = topTo (t0, t1, t2) (ls.take (p + 1)) by rw [TS.out, hul, hhe]; rfl)
                      obtain ⟨u0', u1', u2'⟩ := u
                      have J := Lib.hid (show ∀ V, Calls Try.prog 27 #[.agg #[.int .i64 u0', .int .i64 u1', .int .i64 u2'], .agg #[.int .i64 t0, .int .i64 t1, .int .i64 t2]] V (Gave (.bool hh) V) from fun V => by rw [hhe]; exact ohigher_c (u0', u1', u2') (t0, t1, t2) V)
                      obtain ⟨z0, z1, z2⟩ := ZB.out wr hB
                      simp only at x0 x1 x2 z0 z1 z2
                      have m0 : ((m : Int) == 0) = false := by simp; omega
                      have wm : IntKind.i64.wrap ((m : Int) - 1) = (s : Int) := by rw [IntWalk.i64_in _ (by omega)]; omega
                      have sm : (s : Int) < (m : Int) := by omega
                      have cx0 : ∀ d os, (grow (redrawn wr d) os).cell? ⟨b4, o4 + s * 3, none⟩ = some (.int .i64 u0') := fun d os => cell_regrown x0 d os
                      have cx1 : ∀ d os, (grow (redrawn wr d) os).cell? ⟨b4, o4 + s * 3 + 1, none⟩ = some (.int .i64 u1') := fun d os => cell_regrown x1 d os
                      have cx2 : ∀ d os, (grow (redrawn wr d) os).cell? ⟨b4, o4 + s * 3 + 2, none⟩ = some (.int .i64 u2') := fun d os => cell_regrown x2 d os
                      have cz0 : ∀ d os, (grow (redrawn wr d) os).cell? ⟨b2, o2 + r * 3, none⟩ = some (.int .i64 t0) := fun d os => cell_regrown z0 d os
                      have cz1 : ∀ d os, (grow (redrawn wr d) os).cell? ⟨b2, o2 + r * 3 + 1, none⟩ = some (.int .i64 t1) := fun d os => cell_regrown z1 d os
                      have cz2 : ∀ d os, (grow (redrawn wr d) os).cell? ⟨b2, o2 + r * 3 + 2, none⟩ = some (.int .i64 t2) := fun d os => cell_regrown z2 d os
                      clear kl hy hrd hm hB hf hs hu hul hhe x0 x1 x2 z0 z1 z2
                      go_upto_region 17 with fail
                      refine wp_region_quiet_below (by kernel_rfl) (by kernel_rfl) ?_
                      repeat (quiet_step ((go_at_call 27; refine Calls.regrown_of (J.out _))))
                      refine wpQuiet_nil ?_
                      intro _ hw'
                      obtain ⟨⟨dd, os⟩, hw''⟩ := hw'
                      subst hw''
                      have br := Lib.hid (below_regrown wr dd os)
                      clear cx0 cx1 cx2 cz0 cz1 cz2
                      go_wp2
                      go_roundw
                      case rel => exact ⟨p + 1, !hh, by omega, by go_num, rfl, E.out, B3.out.trans (br.out.mono B3.out.size)⟩
                      case measure => simp [intOf]; omega
                · obtain rfl : p = k := by omega
                  have TF := Lib.hid (show isTop ls x = f by rw [TI.out, hf, List.take_of_length_le (Nat.le_of_eq HN.out)])
                  have B4 := Lib.hid (B2.out.trans (hB.mono B2.out.size))
                  clear hf hB
                  cases f with
                  | true =>
                    have E := Lib.hid (best_is H16.out OKA.out HXX.out TF.out NO.out)
                    go_wp2
                    rw [E.out.1, E.out.2]
                    go_ret2
                    exact ⟨rfl, B4.out⟩
                  | false =>
                    have NO2 := Lib.hid (show ∀ (p : Nat) (y : List En), p < j + 1 → ls[p]? = some y → isTop ls y = false from fun p y hp hy => by
                      rcases Nat.lt_or_ge p j with h | h
                      · exact NO.out p y h hy
                      · obtain rfl : p = j := by omega
                        have := HXX.out
                        rw [this] at hy; injection hy with hy
                        rw [← hy]; exact TF.out)
                    go_wp2
                    go_roundw
                    case rel => exact ⟨j + 1, by omega, by go_num, NO2.out, B4.out⟩
                    case measure => simp [intOf]; omega
          · obtain rfl : j = k := by omega
            have E := Lib.hid (best_no H16.out OKA.out (fun p y hy => NO.out p y (by have := (List.getElem?_eq_some_iff.1 hy).1; have := HN.out; omega) hy))
            clear hB
            go_wp2
            rw [E.out.1, E.out.2]
            go_ret2
            exact ⟨rfl, B2.out⟩
end Go.Proofs.Ytmnhhfhdaagmhaa.Lg
