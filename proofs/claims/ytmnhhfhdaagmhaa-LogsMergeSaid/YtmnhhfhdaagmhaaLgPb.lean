/-
  Package logs, the program: Best, State.
-/
import Derived.Test.YtmnhhfhdaagmhaaLgPa
import Derived.Test.YtmnhhfhdaagmhaaLgBestW
namespace Go.Proofs.Ytmnhhfhdaagmhaa.Lg
set_option linter.unusedVariables false
set_option linter.unusedSimpArgs false
open Go.RowKit Mem Gt
open Jump (Gave equalZ_c)

theorem okFrom_all {e n : Int} : ∀ {l : List En}, okFrom e n l = true → ∀ x ∈ l, e ≤ x.1 ∧ n < x.2.1
  | [], _, x, hx => by simp at hx
  | y :: l, h, x, hx => by
    simp only [okFrom, Bool.and_eq_true, decide_eq_true_eq] at h
    rcases List.mem_cons.1 hx with rfl | hx
    · exact h.1
    · have := okFrom_all h.2 x hx; omega
theorem last_pos {l : List En} (h : okL l = true) {u : En} (hu : l.getLast? = some u) : 0 ≤ u.1 ∧ 1 ≤ u.2.1 := by
  unfold okL at h
  rw [Bool.and_eq_true] at h
  have := okFrom_all h.2 u (List.mem_of_getLast? hu)
  omega
theorem higher_iff {a b : En} : higher a b = true ↔ b.1 < a.1 ∨ a.1 = b.1 ∧ b.2.1 < a.2.1 := by simp [higher]
theorem higher_not {a b : En} : higher a b = false ↔ ¬ (b.1 < a.1 ∨ a.1 = b.1 ∧ b.2.1 < a.2.1) := by rw [← higher_iff]; cases higher a b <;> simp
/-- The newest last entry nw of the first k logs, first met at b. -/
def Top (ls : List (List En)) (k b : Nat) (nw : En) : Prop :=
  (∀ (j : Nat) (y : List En) (u : En), j < k → ls[j]? = some y → y.getLast? = some u → higher u nw = false) ∧
  ((b = 0 ∧ nw = (0, 0, 0)) ∨ (0 ≤ nw.1 ∧ 1 ≤ nw.2.1 ∧ b < k ∧ ∃ y, ls[b]? = some y ∧ y.getLast? = some nw ∧ ∀ (j : Nat) (y : List En) (u : En), j < b → ls[j]? = some y → y.getLast? = some u → higher nw u = true))
section
variable {ls : List (List En)} {k b : Nat} {nw : En} {x : List En}
theorem Top.start (ls : List (List En)) : Top ls 0 0 (0, 0, 0) := ⟨fun j _ _ h => by omega, .inl ⟨rfl, rfl⟩⟩
theorem Top.nonneg (h : Top ls k b nw) : 0 ≤ nw.1 ∧ 0 ≤ nw.2.1 := by
  rcases h.2 with ⟨_, e⟩ | ⟨h1, h2, _⟩
  · rw [e]; exact ⟨Int.le_refl _, Int.le_refl _⟩
  · exact ⟨h1, by omega⟩
theorem last_none (hl : x.getLast? = none) : lastE x = (0, 0, 0) := by unfold lastE; rw [hl]; rfl
theorem last_some {u : En} (hl : x.getLast? = some u) : lastE x = u := by unfold lastE; rw [hl]; rfl
theorem Top.take (h : Top ls k b nw) (hx : ls[k]? = some x) (ho : okL x = true) (hh : higher (lastE x) nw = true) : Top ls (k + 1) k (lastE x) := by
  have hn := h.nonneg
  cases hl : x.getLast? with
  | none =>
    rw [last_none hl, higher_iff] at hh
    simp only at hh
    omega
  | some u =>
    rw [last_some hl] at hh ⊢
    have hp := last_pos ho hl
    have key : ∀ (j : Nat) (y : List En) (v : En), j < k → ls[j]? = some y → y.getLast? = some v → higher u v = true := fun j y v hj hy hv => by
      have := h.1 j y v hj hy hv
      rw [higher_not] at this
      rw [higher_iff] at hh ⊢
      omega
    refine ⟨fun j y v hj hy hv => ?_, .inr ⟨hp.1, hp.2, by omega, x, hx, hl, key⟩⟩
    rcases Nat.lt_or_ge j k with h1 | h1
    · exact higher_total (key j y v h1 hy hv)
    · obtain rfl : j = k := by omega
      rw [hx] at hy
      injection hy with hy
      subst hy
      rw [hl] at hv
      injection hv with hv
      subst hv
      exact higher_irrefl u
theorem Top.stay (h : Top ls k b nw) (hx : ls[k]? = some x) (hh : higher (lastE x) nw = false) : Top ls (k + 1) b nw := by
  refine ⟨fun j y v hj hy hv => ?_, ?_⟩
  · rcases Nat.lt_or_ge j k with h1 | h1
    · exact h.1 j y v h1 hy hv
    · obtain rfl : j = k := by omega
      rw [hx] at hy
      injection hy with hy
      subst hy
      rwa [last_some hv] at hh
  · rcases h.2 with h1 | ⟨h1, h2, h3, h4⟩
    · exact .inl h1
    · exact .inr ⟨h1, h2, by omega, h4⟩
theorem Top.none {n : Nat} (h : Top ls n b nw) (hn : ls.length = n) (h16 : ls.length ≤ 16) (hok : ∀ x ∈ ls, okL x = true) (h0 : nw.2.1 = 0) : bestE ls = 3 ∧ bestK ls = 0 := by
  rcases h.2 with ⟨_, e⟩ | ⟨_, h2, _⟩
  · subst e
    refine best_no h16 hok fun j y hy => ?_
    cases ht : isTop ls y with
    | false => rfl
    | true =>
      obtain ⟨u, hu, _⟩ := isTop_iff.1 ht
      have hj := (List.getElem?_eq_some_iff.1 hy).1
      have h1 := h.1 j y u (by omega) hy hu
      have h2 := last_pos (hok y (List.mem_of_getElem? hy)) hu
      rw [higher_not] at h1
      simp only at h1
      omega
  · omega
theorem Top.some {n : Nat} (h : Top ls n b nw) (hn : ls.length = n) (h16 : ls.length ≤ 16) (hok : ∀ x ∈ ls, okL x = true) (h0 : nw.2.1 ≠ 0) : bestE ls = 0 ∧ bestK ls = b := by
  rcases h.2 with ⟨_, e⟩ | ⟨_, _, h3, y, hy, hl, hm⟩
  · subst e; exact absurd rfl h0
  · refine best_is h16 hok hy (isTop_iff.2 ⟨nw, hl, fun z hz u hu => ?_⟩) fun j z hj hz => ?_
    · obtain ⟨j, hj⟩ := List.getElem?_of_mem hz
      exact h.1 j z u (by have := (List.getElem?_eq_some_iff.1 hj).1; omega) hj hu
    · cases ht : isTop ls z with
      | false => rfl
      | true =>
        obtain ⟨u, hu, h4⟩ := isTop_iff.1 ht
        have h1 := hm j z u hj hz hu
        have h2 := h4 y (List.mem_of_getElem? hy) nw hl
        rw [h1] at h2; cases h2
end
set_option maxRecDepth 100000 in
set_option maxHeartbeats 16000000 in
theorem best_c (A : Option Addr) (ls : List (List En)) (n ca : Nat) (V : World) (hn : ls.length = n) (hbig : n ≤ 140737488355328) (hx : GRds enE V A ls) :
    Calls Try.prog 9 #[.slice A n ca] V (Gave (.tuple #[.int .i64 (bestK ls : Nat), .int .i64 (bestE ls)]) V) := by
  by_cases h16 : 16 < n
  · have e : bestE ls = 2 := by unfold bestE; rw [if_pos (by omega)]
    have e2 : bestK ls = 0 := by unfold bestK; rw [e, if_neg (by decide)]
    rw [e, e2]
    have i1 : (16 : Int) < (n : Int) := by omega
    clear hx hn e e2
    go_enter Try.func9, Try.ntmps9
    go_wp2
    go_ret2
    exact ⟨rfl, Below.refl _ _⟩
  · have i1 : ¬ (16 : Int) < (n : Int) := by omega
    have HX := Lib.hid hx
    have HN := Lib.hid hn
    have H16 := Lib.hid (show ls.length ≤ 16 by omega)
    clear hx hn
    go_enter Try.func9, Try.ntmps9
    go_wp2_with fail
    go_loopw [4, 15] (fun b_ i wr => ∃ (k b : Nat) (n0 n1 n2 : Int), k ≤ n ∧ b_ = .int .i64 b ∧ i = .int .i64 k ∧ (∀ x ∈ ls.take k, okL x = true) ∧ Top ls k b (n0, n1, n2) ∧ Known wr V.heap.size tE #[.int .i64 n0, .int .i64 n1, .int .i64 n2] ∧ Below V.heap.size V wr) (fun _ i _ => n - (intOf i).toNat)
    case atStart => exact ⟨0, 0, 0, 0, 0, by omega, rfl, rfl, fun x hx => by simp at hx, Top.start ls, Known.made _ _ _, low_lit _ _⟩
    case round =>
      obtain ⟨k, b, n0, n1, n2, hk, rfl, rfl, hok, hT, hK, hB⟩ := hrel
      obtain ⟨wo, rfl⟩ : ∃ wo : World, wo = wr := ⟨_, rfl⟩
      have OK := Lib.hid hok
      have TT := Lib.hid hT
      have KN := Lib.hid hK
      have BB := Lib.hid hB
      clear hok hT hK i1
      by_cases hlt : k < n
      · have kl : k < ls.length := by rw [HN.out]; exact hlt
        obtain ⟨x, hx⟩ : ∃ x, ls[k]? = some x := ⟨_, List.getElem?_eq_getElem kl⟩
        obtain ⟨b1, o1, C, c, rfl, _, y0, hlc, hc, hrd⟩ := (HX.out.below hB).row hx
        obtain ⟨q, hq⟩ : ∃ q, x.length = q := ⟨_, rfl⟩
        rw [hq] at y0 hlc
        have j1 : (k : Int) < (n : Int) := by omega
        have CR := Lib.hid (right_c C x q c wo hq (by omega) hrd)
        have CL := Lib.hid (fun V hb => last_c C x q c V hq (by omega) (hrd.below hb))
        have HXX := Lib.hid hx
        clear kl hx hrd hq hB
        cases hv : okL x with
        | false =>
          rw [hv] at CR
          have E := Lib.hid (show bestE ls = 1 ∧ bestK ls = 0 by
            have e : bestE ls = 1 := by
              unfold bestE
              rw [if_neg (by have := H16.out; omega), if_pos]
              cases h : ls.all okL with
              | false => rfl
              | true => rw [List.all_eq_true.1 h x (List.mem_of_getElem? HXX.out)] at hv; cases hv
            exact ⟨e, by unfold bestK; rw [e, if_neg (by decide)]⟩)
          clear hv
          go_wp2_with (go_at_call 12; refine CR.out.mono ?_; rintro e w2 ⟨rfl, hb2⟩)
          rw [E.out.1, E.out.2]
          go_ret2
          exact ⟨rfl, BB.out.trans (hb2.mono BB.out.size)⟩
        | true =>
          rw [hv] at CR
          have OK2 := Lib.hid (show ∀ y ∈ ls.take (k + 1), okL y = true from fun y hy => by
            rw [List.take_add_one, HXX.out] at hy
            rcases List.mem_append.1 hy with hy | hy
            · exact OK.out y hy
            · simp at hy; subst hy; exact hv)
          have TA := Lib.hid (fun h => TT.out.take HXX.out hv h)
          have TS := Lib.hid (fun h => TT.out.stay HXX.out h)
          obtain ⟨v, hvv⟩ : ∃ v, lastE x = v := ⟨_, rfl⟩
          obtain ⟨v0, v1, v2⟩ := v
          rw [hvv] at TA TS CL
          unfold aggE at CL
          simp only at CL
          clear hv hvv
          go_wp2_with fail
          refine CR.out.mono ?_
          rintro e w2 ⟨rfl, hb2⟩
          have B2 := Lib.hid (BB.out.trans (hb2.mono BB.out.size))
          have K2 := Lib.hid (KN.out.later hb2)
          have C2 := Lib.hid (CL.out w2 hb2)
          clear hb2 CL CR
          go_wp2_with fail
          refine C2.out.mono ?_
          rintro e w3 ⟨rfl, hb3⟩
          have B3 := Lib.hid ((B2.out.trans (hb3.mono B2.out.size)).trans ((low_lit w3 (.cells #[.int .i64 v0, .int .i64 v1, .int .i64 v2] tE)).mono (Nat.le_trans B2.out.size hb3.size)))
          have K3 := (K2.out.later hb3).alloc (.cells #[.int .i64 v0, .int .i64 v1, .int .i64 v2] tE)
          have E3 := Known.made w3 tE #[.int .i64 v0, .int .i64 v1, .int .i64 v2]
          have HK3 := Lib.hid K3
          have HE3 := Lib.hid E3
          have c0 := K3.cell 0
          have c1 := K3.cell 1
          have c2 := K3.cell 2
          have d0 := E3.cell 0
          have d1 := E3.cell 1
          have d2 := E3.cell 2
          have LC := Lib.hid (later_c (v0, v1, v2) (n0, n1, n2) (w3.alloc (.cells #[.int .i64 v0, .int .i64 v1, .int .i64 v2] tE)))
          simp at c0 c1 c2 d0 d1 d2
          clear hb3 K3 E3 C2 B2 K2
          obtain ⟨g, hg⟩ : ∃ g, higher (v0, v1, v2) (n0, n1, n2) = g := ⟨_, rfl⟩
          rw [hg] at LC TA TS
          clear hg
          go_wp2_with fail
          refine LC.out.mono ?_
          rintro e w4 ⟨rfl, hb4⟩
          have B4 := Lib.hid (B3.out.trans (hb4.mono B3.out.size))
          have K4 := HK3.out.later hb4
          have E4 := HE3.out.later hb4
          have HK4 := Lib.hid K4
          clear hb4 c0 c1 c2 d0 d1 d2 LC B3 HK3 HE3
          cases g with
          | false =>
            have T2 := Lib.hid (TS.out rfl)
            clear TA TS K4 E4
            go_wp2
            go_roundw
            case rel => exact ⟨k + 1, b, n0, n1, n2, by omega, rfl, by go_num, OK2.out, T2.out, HK4.out, B4.out⟩
            case measure => simp [intOf]; omega
          | true =>
            have T2 := Lib.hid (TA.out rfl)
            have f0 := K4.free 0
            have f1 := K4.free 1
            have f2 := K4.free 2
            have c0 := K4.cell 0
            have c1 := K4.cell 1
            have c2 := K4.cell 2
            have d0 := E4.cell 0
            have d1 := E4.cell 1
            have d2 := E4.cell 2
            have KK := Lib.hid (fun q => (((Known.put (W := w4.drewN q) HK4.out 0 (.int .i64 v0)).put 1 (.int .i64 v1)).put 2 (.int .i64 v2)))
            have BK := Lib.hid (fun q => ((((Mem.below_drewN B4.out q).setCell (p := ⟨V.heap.size, 0, none⟩) (Nat.le_refl _) (.int .i64 v0)).setCell (p := ⟨V.heap.size, 1, none⟩) (Nat.le_refl _) (.int .i64 v1)).setCell (p := ⟨V.heap.size, 2, none⟩) (Nat.le_refl _) (.int .i64 v2)))
            simp at c0 c1 c2 d0 d1 d2
            clear TA TS K4 E4
            go_upto_region 11 with fail
            go_region
            all_goals
              go_wp2
              go_roundw
              case rel => exact ⟨k + 1, k, v0, v1, v2, by omega, rfl, by go_num, OK2.out, T2.out, KK.out _, BK.out _⟩
              case measure => simp [intOf]; omega
      · obtain rfl : k = n := by omega
        have OKA := Lib.hid (show ∀ x ∈ ls, okL x = true by have := OK.out; rwa [List.take_of_length_le (Nat.le_of_eq HN.out)] at this)
        have c1 := KN.out.cell 1
        simp at c1
        clear hB
        by_cases h0 : n1 = 0
        · have E := Lib.hid (TT.out.none HN.out H16.out OKA.out h0)
          have n1b : (n1 == 0) = true := by simpa using h0
          clear h0
          go_wp2
          rw [E.out.1, E.out.2]
          go_ret2
          exact ⟨rfl, BB.out⟩
        · have E := Lib.hid (TT.out.some HN.out H16.out OKA.out h0)
          have n1b : (n1 == 0) = false := by simpa using h0
          clear h0
          go_wp2
          rw [E.out.1, E.out.2]
          go_ret2
          exact ⟨rfl, BB.out⟩
set_option maxRecDepth 100000 in
set_option maxHeartbeats 16000000 in
theorem state_c : StateSpec := by
  intro A l n ca V hn hbig hx hf
  have CR := Lib.hid (right_c A l n ca V hn hbig hx)
  have HX := Lib.hid hx
  have HN := Lib.hid hn
  have HF := Lib.hid hf
  have hmm := @run_makeMap Try.prog
  cases hv : okL l with
  | false =>
    rw [hv] at CR
    clear hx hn hf hv
    go_enter Try.func11, Try.ntmps11
    go_wp2_with (refine CR.out.mono ?_; rintro e w2 ⟨rfl, hb2⟩)
    go_ret2
    exact ⟨fun _ => rfl, fun h => (by cases h), hb2⟩
  | true =>
    rw [hv] at CR
    have H4 := Lib.hid (show n ≤ 400 by rw [← hn]; exact okL_len hv)
    clear hx hn hf hv
    go_enter Try.func11, Try.ntmps11
    go_wp2_with fail
    refine CR.out.mono ?_
    rintro e w6 ⟨rfl, hb6⟩
    have B6 := Lib.hid hb6
    have G0 := Lib.hid (IMap.made w6)
    have BA := Lib.hid (low_lit w6 (.map #[] 0))
    clear hb6 CR
    go_wp2_with fail
    go_loopw [13] (fun i wr => ∃ (k : Nat) (ks : List Int), k ≤ n ∧ i = .int .i64 k ∧ KeysTo l k ks ∧ IMap wr w6.heap.size (lastN (l.take k)) ks ∧ Below w6.heap.size w6 wr) (fun i _ => n - (Go.RowKit.intOf i).toNat)
    case atStart => exact ⟨0, [], by omega, rfl, KeysTo.start l, G0.out.congr (fun x => rfl), BA.out⟩
    case round =>
      obtain ⟨k, ks, hk, rfl, hks, hG, hBw⟩ := hrel
      have KS := Lib.hid hks
      have GG := Lib.hid hG
      have BW := Lib.hid hBw
      clear hks hG G0 BA hmm
      by_cases hlt : k < n
      · have kl : k < l.length := by rw [HN.out]; exact hlt
        obtain ⟨⟨x0, x1, x2⟩, hx⟩ : ∃ x, l[k]? = some x := ⟨_, List.getElem?_eq_getElem kl⟩
        obtain ⟨f0, f1, f2⟩ := HF.out _ (List.mem_of_getElem? hx)
        obtain ⟨b1, o1, rfl, _, y0, y1, y2⟩ := en_at (HX.out.below (B6.out.trans (hBw.mono B6.out.size))) hx
        obtain ⟨d0, d1, d2⟩ := box_en (w := wr) (x0, x1, x2)
        have KS2 := Lib.hid (KS.out.step hx)
        have LT := Lib.hid (last_to hx)
        have G1 := Lib.hid (GG.out.alloc (.cells #[.int .i64 x0, .int .i64 x1, .int .i64 x2] tE))
        have B7 := Lib.hid (hBw.trans ((low_lit wr (.cells #[.int .i64 x0, .int .i64 x1, .int .i64 x2] tE)).mono hBw.size))
        simp only at y0 y1 y2 d0 d1 d2 f0 f1 f2 KS2 LT
        have W2 := Lib.hid (wf_of f2)
        have W1 := Lib.hid (wf_of f1)
        have KL := Lib.hid (show ks.length < 1000000 by have := KS.out.2.2; have := H4.out; omega)
        have i1 : (k : Int) < (n : Int) := by omega
        clear kl hx f0 f1 f2 hBw
        go_wp2_with (refine wpList_update_z Try.underlying27 rfl _ _ _ (by rfl) G1.out KL.out x2 W2.out rfl rfl x1 W1.out rfl ?_; intro w7 m7 g7)
        go_roundw
        case rel => exact ⟨k + 1, _, by omega, by go_num, KS2.out, m7.out.congr LT.out, B7.out.grown g7.out B7.out.size (fun r hr => by injection hr with hr; omega)⟩
        case measure => simp [Go.RowKit.intOf]; omega
      · obtain rfl : k = n := by omega
        have hG2 := Lib.hid (show IsState wr w6.heap.size l from ⟨ks, KS.out.1, by have := KS.out.2.1; rwa [List.take_of_length_le (Nat.le_of_eq HN.out)] at this, by have := GG.out; rwa [List.take_of_length_le (Nat.le_of_eq HN.out)] at this⟩)
        have B8 := Lib.hid (B6.out.trans (hBw.mono B6.out.size))
        clear hBw
        go_wp2
        go_ret2
        exact ⟨fun h => (by cases h), fun _ => ⟨_, rfl, hG2.out⟩, B8.out⟩
end Go.Proofs.Ytmnhhfhdaagmhaa.Lg
