/-
  CoderAlike: for every byte row and all integers rows, more and less, the law CoderAlike answers true (rows that are all alike have the same added, and with fewer added these are the first ones), and its arguments read afterwards as before. No condition.
-/
import Derived.Test.YtomhcjnhhdbhjaaCoderAlive
import Derived.Test.YtomhcjnhhdbhjaaCoderRt
import Derived.Test.YtomhcjnhhdbhjaaLaw
import Derived.Test.YtomhcjnhhdbhjaaInts
namespace Go.Proofs.Ytomhcjnhhdbhjaa.coderAlike
open Go.ChangeShapes Go.WideShapes Go.ChangeAt Go.RowKit
open Gf Mem Poly Cdr
set_option linter.unusedVariables false

def reps (n : Nat) (row : List UInt8) : List (List UInt8) := List.replicate n row
theorem reps_len (n : Nat) (row : List UInt8) : (reps n row).length = n := by simp [reps]
theorem reps_succ (n : Nat) (row : List UInt8) : reps (n + 1) row = reps n row ++ [row] := by unfold reps; rw [List.replicate_succ']
theorem reps_at {n j : Nat} {row q : List UInt8} (h : (reps n row)[j]? = some q) : q = row := by
  unfold reps at h; rw [List.getElem?_replicate] at h; split at h
  · injection h with h; exact h.symm
  · cases h
theorem reps_take {n l : Nat} {row : List UInt8} (h : l ≤ n) : (reps n row).take l = reps l row := by
  unfold reps; rw [List.take_replicate, Nat.min_eq_left h]
theorem reps_head {n : Nat} (h : 0 < n) (row : List UInt8) : (reps n row).headD [] = row := by
  obtain ⟨m, rfl⟩ : ∃ m, n = m + 1 := ⟨n - 1, by omega⟩
  rfl
theorem reps_even (n : Nat) (row : List UInt8) : evenB (reps n row) = true := by
  unfold evenB
  rw [List.all_eq_true]
  intro q hq
  obtain ⟨j, hj, rfl⟩ := List.mem_iff_getElem.1 hq
  have h1 := reps_at (List.getElem?_eq_getElem hj)
  rw [reps_len] at hj
  rw [h1, reps_head (by omega)]; exact beq_self_eq_true _
theorem reps_sane {n : Nat} {row : List UInt8} (hn : n ≤ 20) (hr : row.length ≤ 140737488351232) : Sane (reps n row) := ⟨by rw [reps_len]; omega, fun q hq => by
  obtain ⟨j, hj, rfl⟩ := List.mem_iff_getElem.1 hq
  rw [reps_at (List.getElem?_eq_getElem hj)]; exact hr⟩
theorem alike {n m : Nat} {row : List UInt8} {outs : List (List UInt8)} (h0 : 0 < n) (hn : n ≤ 256) (h : Adds (reps n row) m outs) : outs = reps m row := by
  apply List.ext_getElem (by rw [reps_len, h.1])
  intro j h1 h2
  obtain ⟨l1, f1⟩ := h.2 j _ (List.getElem?_eq_getElem h1)
  have hr := reps_at (List.getElem?_eq_getElem h2)
  rw [hr]
  rw [reps_head h0] at l1
  apply List.ext_getElem l1
  intro k k1 k2
  obtain ⟨p, hp, e⟩ := f1 k _ (List.getElem?_eq_getElem k1)
  have hc : Thru (idx (reps n row).length) (col (reps n row) k) (trim [co row k]) := by
    refine ⟨trim_trim _, Nat.le_trans (trim_len _) (by rw [idx_len, reps_len]; exact h0), fun i x y hx hy => ?_⟩
    unfold col at hy
    rw [List.getElem?_map] at hy
    cases hi : (reps n row)[i]? with
    | none => rw [hi] at hy; cases hy
    | some q =>
      rw [hi] at hy
      simp at hy
      rw [reps_at hi] at hy
      rw [ev_trim, ← hy]
      show co row k ^^^ mul x 0 = _
      rw [mul_zero, xor_zero']
  rw [e, thru_unique (idx_nodup (by rw [reps_len]; exact hn)) (by rw [idx_len, col_len]) hp hc, ev_trim]
  show co row k ^^^ mul _ 0 = _
  rw [mul_zero, xor_zero']
  exact co_of_some (List.getElem?_eq_getElem k2)
theorem alike_more {n m : Nat} {row : List UInt8} {outs : List (List UInt8)} {err : Int} (h0 : 0 < n) (hn : n ≤ 20) (hm : m ≤ 20) (h : MoreIs (reps n row) m outs err) : err = 0 ∧ outs = reps m row := by
  rcases h with ⟨h, _⟩ | ⟨_, h, _⟩ | ⟨_, _, h1, h2⟩
  · unfold badMore at h; rw [reps_len] at h; omega
  · rw [reps_even] at h; cases h
  · exact ⟨h1, alike h0 (by omega) (by rwa [Int.toNat_natCast] at h2)⟩

set_option maxRecDepth 100000 in
set_option maxHeartbeats 4000000 in
theorem early (hMore : MoreSpec) (hBack : BackSpec) (hWrong : WrongSpec) (v : Value) (n m l : Int) (W : World) (wn : (Lit.int .i64 n).wf = true) (wm : (Lit.int .i64 m).wf = true)
    (h : wrongIs n m = 2 ∨ (wrongIs n m = 0 ∧ (l < 0 ∨ m < l ∨ 20 < n ∨ 20 < m))) :
    Calls Try.prog 8 #[v, .int .i64 n, .int .i64 m, .int .i64 l] W (Law.Yes W) := by
  have h1 := alive_c hMore hBack W
  have h2 := fun V => hWrong n m V wn wm
  rcases h with hw | ⟨hw, h⟩
  · rw [hw] at h2
    have H1 := Lib.hid h1
    have H2 := Lib.hid h2
    clear h1 h2 hw hMore hBack hWrong
    go_enter Try.func8, Try.ntmps8
    go_wp2_with fail
    refine H1.out.mono ?_
    rintro e w1 ⟨rfl, hb1⟩
    go_wp2_with fail
    refine (H2.out w1).mono ?_
    rintro e w' ⟨rfl, rfl⟩
    go_wp2_with fail
    go_ret
    exact ⟨rfl, hb1⟩
  · rw [hw] at h2
    have H1 := Lib.hid h1
    have H2 := Lib.hid h2
    clear h1 h2 hw hMore hBack hWrong
    by_cases k1 : l < 0
    · clear h
      go_enter Try.func8, Try.ntmps8
      go_wp2_with fail
      refine H1.out.mono ?_
      rintro e w1 ⟨rfl, hb1⟩
      go_wp2_with fail
      refine (H2.out w1).mono ?_
      rintro e w' ⟨rfl, rfl⟩
      go_wp2_with fail
      go_ret
      exact ⟨rfl, hb1⟩
    · by_cases k2 : m < l
      · clear h
        go_enter Try.func8, Try.ntmps8
        go_wp2_with fail
        refine H1.out.mono ?_
        rintro e w1 ⟨rfl, hb1⟩
        go_wp2_with fail
        refine (H2.out w1).mono ?_
        rintro e w' ⟨rfl, rfl⟩
        go_wp2_with fail
        go_ret
        exact ⟨rfl, hb1⟩
      · by_cases k3 : 20 < n
        · clear h
          go_enter Try.func8, Try.ntmps8
          go_wp2_with fail
          refine H1.out.mono ?_
          rintro e w1 ⟨rfl, hb1⟩
          go_wp2_with fail
          refine (H2.out w1).mono ?_
          rintro e w' ⟨rfl, rfl⟩
          go_wp2_with fail
          go_ret
          exact ⟨rfl, hb1⟩
        · have k4 : 20 < m := by omega
          clear h
          go_enter Try.func8, Try.ntmps8
          go_wp2_with fail
          refine H1.out.mono ?_
          rintro e w1 ⟨rfl, hb1⟩
          go_wp2_with fail
          refine (H2.out w1).mono ?_
          rintro e w' ⟨rfl, rfl⟩
          go_wp2_with fail
          go_ret
          exact ⟨rfl, hb1⟩

set_option maxRecDepth 100000 in
set_option maxHeartbeats 4000000 in
theorem main (hMore : MoreSpec) (hBack : BackSpec) (hWrong : WrongSpec) (A : Option Addr) (row : List UInt8) (ca n m l : Nat) (W : World) (hn : 1 ≤ n) (hn2 : n ≤ 20) (hm : m ≤ 20) (hl : l ≤ m) (hr : row.length ≤ 140737488351232) (hrc : row.length ≤ ca) (hA : Reads W A (row.map byt)) :
    Calls Try.prog 8 #[.slice A row.length ca, .int .i64 n, .int .i64 m, .int .i64 l] W (Law.Yes W) := by
  have wfn : ∀ k : Nat, k ≤ 20 → (Lit.int .i64 (k : Int)).wf = true := fun k hk => by
    simp [Lit.wf, IntKind.min, IntKind.max, IntKind.bits, IntKind.signed]; omega
  have h1 := alive_c hMore hBack W
  have h2 := fun V => hWrong n m V (wfn n hn2) (wfn m hm)
  rw [show wrongIs n m = 0 by unfold wrongIs; rw [if_neg (by omega)]] at h2
  have h3 := fun A' c V (h : Rds V A' (reps n row)) => hMore A' (reps n row) c m V (reps_sane hn2 hr) (wfn m hm) h
  have h4 := fun A' c V (h : Rds V A' (reps n row)) => hMore A' (reps n row) c l V (reps_sane hn2 hr) (wfn l (by omega)) h
  rw [reps_len] at h3 h4
  have hlm : ∀ (k : Nat) outs err, k ≤ 20 → MoreIs (reps n row) (k : Int) outs err → err = 0 ∧ outs = reps k row := fun k outs err hk h => alike_more (by omega) hn2 hk h
  have hro : ∀ V (hb : Below W.heap.size W V) (g : Option Nat), (∀ k, g = some k → W.heap.size ≤ k) → RowOff V g (.slice A row.length ca) row := fun V hb g hg =>
    ⟨A, ca, rfl, hrc, by omega, hA.below hb, fun hne a ha => by
      have := reads_lt hA hne a ha
      exact ⟨fun e => by have := hg _ e.symm; omega, Nat.lt_of_lt_of_le this hb.size⟩⟩
  have H1 := Lib.hid h1
  have H2 := Lib.hid h2
  have H3 := Lib.hid h3
  have H4 := Lib.hid h4
  have HLM := Lib.hid hlm
  have HRO := Lib.hid hro
  have HA := Lib.hid hA
  have i1 : (n : Int) ≤ 20 := by omega
  have i2 : (m : Int) ≤ 20 := by omega
  have i3 : (l : Int) ≤ (m : Int) := by omega
  have i4 : (0 : Int) ≤ (l : Int) := by omega
  clear h1 h2 h3 h4 hlm hro hA hMore hBack hWrong wfn
  go_enter Try.func8, Try.ntmps8
  go_wp2_with fail
  refine H1.out.mono ?_
  rintro e w1 ⟨rfl, hb1⟩
  have B1 := Lib.hid hb1
  clear hb1
  go_wp2_with fail
  refine (H2.out w1).mono ?_
  rintro e w' ⟨rfl, rfl⟩
  go_wp2
  have d1 : decide (m < l) = false := by rw [decide_eq_false_iff_not]; omega
  have d2 : decide ((l : Int) < 0) = false := by rw [decide_eq_false_iff_not]; omega
  have d3 : decide ((20 : Int) < (n : Int)) = false := by rw [decide_eq_false_iff_not]; omega
  have d4 : decide ((20 : Int) < (m : Int)) = false := by rw [decide_eq_false_iff_not]; omega
  simp only [d1, d2, d3, d4, Bool.or_false]
  clear d1 d2 d3 d4
  go_loopw [9, 40] (fun s i wr => ∃ (k : Nat) (A2 : Option Addr) (c2 : Nat), k ≤ n ∧ i = .int .i64 k ∧ s = .slice A2 k c2 ∧ Table wr W.heap.size s (reps k row) ∧ Below W.heap.size W wr) (fun _ i _ => n - (intOf i).toNat)
  case atStart => exact ⟨0, none, 0, by omega, rfl, rfl, Table.nil _ _, B1.out⟩
  case round =>
    obtain ⟨k, A2, c2, hk, rfl, rfl, hT, hB⟩ := hrel
    have HT := Lib.hid hT
    have HB := Lib.hid hB
    clear hT hB
    by_cases hlt : k < n
    · have HO := Lib.hid (HRO.out wr HB.out (Value.ownBlock (.slice A2 k c2)) (fun g hg => (HT.out.lt g hg).1))
      go_wp2_with (at_builtin; refine wpList_append_row rfl (.tmp 42) (.tmp 44) rfl rfl rfl HT.out HO.out ?c3 HB.out.size HB.out (Nat.le_refl _) ?_)
      case c3 => rw [reps_len]; omega
      intro v' w5 hT5 hB5
      obtain ⟨A5, c5, hv, _, _⟩ := hT5.out.form
      rw [← reps_succ, reps_len] at hv
      subst hv
      have HT5 := Lib.hid (show Table w5 W.heap.size (.slice A5 (k + 1) c5) (reps (k + 1) row) by have := hT5.out; rwa [← reps_succ] at this)
      have HB5 := Lib.hid hB5
      clear hT5 hB5
      go_wp2
      go_roundw
      case rel => exact ⟨k + 1, A5, c5, by omega, by go_num, rfl, HT5.out, HB5.out⟩
      case measure => simp [intOf]; omega
    · obtain rfl : k = n := by omega
      have R2 := Lib.hid HT.out.rds
      go_wp2_with fail
      refine (H3.out A2 c2 wr R2.out).mono ?_
      rintro e w3 ⟨A3, c3, o3, e3, rfl, hc3, hR3, hB3, hP3⟩
      obtain ⟨rfl, rfl⟩ := HLM.out m _ _ hm hP3
      rw [reps_len] at hc3
      have R23 := Lib.hid (R2.out.below hB3)
      have R3 := Lib.hid hR3
      have B3 := Lib.hid (HB.out.trans (hB3.mono HB.out.size))
      clear hR3 hB3 hP3
      go_wp2_with fail
      refine (H4.out A2 c2 w3 R23.out).mono ?_
      rintro e w4 ⟨A4, c4, o4, e4, rfl, hc4, hR4, hB4, hP4⟩
      obtain ⟨rfl, rfl⟩ := HLM.out l _ _ (by omega) hP4
      rw [reps_len] at hc4
      have R34 := Lib.hid (R3.out.below hB4)
      have R4 := Lib.hid hR4
      have B4 := Lib.hid (B3.out.trans (hB4.mono B3.out.size))
      clear hR4 hB4 hP4
      rw [reps_len, reps_len]
      have HX := Lib.hid (show (∀ V, Drawn w4 V → Calls Try.prog 12 #[.slice A3 l c3, .slice A4 l c4] V (BoolDrawn true V)) from fun V hd => by
        have h := same_c A3 A4 (reps l row) (reps l row) c3 c4 (by rw [reps_len]; omega) (by rw [reps_len]; omega) V (by have h := (R34.out.drawn hd).take l; rwa [reps_take hl] at h) (R4.out.drawn hd)
        rw [reps_len, beq_self_eq_true] at h
        exact h)
      go_wp2
      go_loopw [79] (fun i wr => ∃ j : Nat, j ≤ m ∧ i = .int .i64 j ∧ Drawn w4 wr) (fun i _ => m - (intOf i).toNat)
      case atStart => exact ⟨0, by omega, rfl, Drawn.refl _⟩
      case round =>
        obtain ⟨j, hj, rfl, hd⟩ := hrel
        have HD := Lib.hid hd
        clear hd
        by_cases hlt2 : j < m
        · obtain ⟨b, o, C, c, r, rfl, er, cr, lr, lc, rr⟩ := (R34.out.drawn HD.out).row (k := j) (by rw [reps_len]; exact hlt2)
          have hrr := reps_at er
          subst hrr
          have EQ := Lib.hid (equal_same C A r r c ca wr rr (HA.out.below (B4.out.trans ((HD.out.below _).mono B4.out.size))) rfl)
          clear er rr
          go_wp2_with fail
          refine EQ.out.mono ?_
          rintro e w5 ⟨rfl, rfl⟩
          go_wp2
          go_roundw
          case rel => exact ⟨j + 1, by omega, by go_num, HD.out⟩
          case measure => simp [intOf]; omega
        · obtain rfl : j = m := by omega
          go_wp2_with fail
          refine (HX.out wr HD.out).mono ?_
          rintro e w5 ⟨rfl, hd5⟩
          have D5 := Lib.hid hd5
          clear hd5
          go_wp2
          go_ret
          exact ⟨rfl, B4.out.trans (((HD.out.trans D5.out).below _).mono B4.out.size)⟩

theorem words (hMore : MoreSpec) (hBack : BackSpec) (hWrong : WrongSpec) (A : Option Addr) (row : List UInt8) (ca : Nat) (n m l : Int) (W : World) (wn : (Lit.int .i64 n).wf = true) (wm : (Lit.int .i64 m).wf = true) (hr : row.length ≤ 140737488351232) (hrc : row.length ≤ ca) (hA : Reads W A (row.map byt)) :
    Calls Try.prog 8 #[.slice A row.length ca, .int .i64 n, .int .i64 m, .int .i64 l] W (Law.Yes W) := by
  have hw : wrongIs n m = 2 ∨ (wrongIs n m = 0 ∧ 1 ≤ n ∧ 0 ≤ m) := by
    unfold wrongIs; split
    · exact .inl rfl
    · exact .inr ⟨rfl, by omega, by omega⟩
  rcases hw with hw | ⟨hw, h1, h2⟩
  · exact early hMore hBack hWrong _ n m l W wn wm (.inl hw)
  · by_cases h : l < 0 ∨ m < l ∨ 20 < n ∨ 20 < m
    · exact early hMore hBack hWrong _ n m l W wn wm (.inr ⟨hw, h⟩)
    · obtain ⟨n', rfl⟩ : ∃ k : Nat, n = k := ⟨n.toNat, by omega⟩
      obtain ⟨m', rfl⟩ : ∃ k : Nat, m = k := ⟨m.toNat, by omega⟩
      obtain ⟨l', rfl⟩ : ∃ k : Nat, l = k := ⟨l.toNat, by omega⟩
      exact main hMore hBack hWrong A row ca n' m' l' W (by omega) (by omega) (by omega) (by omega) hr hrc hA
theorem walk {H : Type} {enc : TypeId × Value → H} {base : Nat} {W : World} {v0 : Value} {d0 : DataW H} {p0 : List MemPlace}
    (o0 : Value.okWide Try.prog W .any base 33 v0) (h0 : DataW.Trod enc Try.prog W 0 (fun _ => true) true 33 v0 d0 p0) (a1 : Int) (w1 : (Lit.int .i64 a1).wf = true) (a2 : Int) (w2 : (Lit.int .i64 a2).wf = true) (a3 : Int) (w3 : (Lit.int .i64 a3).wf = true)
    (hz : (DataW.weightsEach Try.prog [33, 3, 3, 3] [d0, .lit (.int .i64 a1), .lit (.int .i64 a2), .lit (.int .i64 a3)]).all (· ≤ reachBytes) = true) :
    Calls Try.prog 8 #[v0, .int .i64 a1, .int .i64 a2, .int .i64 a3] W (Law.Yes W) := by
  obtain ⟨A0, c0, l0, rfl, z0, r0, k0, _⟩ := open_bytesZ Try.underlying33 Try.underlying5 (by kernel_rfl) (by kernel_rfl) o0 h0 hz (j := 0) rfl rfl
  exact words more_c back_c wrong_c A0 l0 c0 a1 a2 a3 W w1 w2 z0 k0 r0
theorem own : ownKnob Try.prog.godebug = none := by kernel_rfl
theorem laid : laidOutB Try.prog = true := by kernel_rfl
theorem pars : ∀ t ∈ Try.f8.params.toList, Try.prog.readableRec t = true ∧ t < Try.prog.types.size := by
  have h : Try.f8.params.toList.all (fun t => Try.prog.readableRec t && decide (t < Try.prog.types.size)) = true := by kernel_rfl
  intro t ht; have := List.all_eq_true.1 h t ht; simpa using this
theorem calls (H : Type) (enc : TypeId × Value → H) (W : World) (base : Nat) (args : Array Value) (ds : List (DataW H)) (before : List MemPlace)
    (hval : ∀ (j : Nat) t v, Try.f8.params[j]? = some t → args[j]? = some v → Value.okWide Try.prog W .any base t v)
    (hA : DataW.TrodAll enc Try.prog W 0 (fun _ => true) true Try.f8.params.toList args.toList ds before) (hz : (DataW.weightsEach Try.prog Try.f8.params.toList ds).all (· ≤ reachBytes) = true) :
    Calls Try.prog 8 args W (Law.Yes W) := by
  rw [Try.params8] at hA hval hz
  obtain ⟨v0, vs0, d0, ds0, p0, q0, hargs, rfl, rfl, h0, r0⟩ := trodAll_cons hA
  obtain ⟨v1, vs1, d1, ds1, p1, q1, rfl, rfl, rfl, h1, r1⟩ := trodAll_cons r0
  obtain ⟨v2, vs2, d2, ds2, p2, q2, rfl, rfl, rfl, h2, r2⟩ := trodAll_cons r1
  obtain ⟨v3, vs3, d3, ds3, p3, q3, rfl, rfl, rfl, h3, r3⟩ := trodAll_cons r2
  obtain ⟨rfl, rfl, rfl⟩ := trodAll_nil r3
  obtain rfl : args = #[v0, v1, v2, v3] := by cases args; simp_all
  obtain ⟨a1, rfl, rfl, rfl, w1⟩ := open_int Try.underlying3 (hval 1 3 v1 rfl rfl) h1
  obtain ⟨a2, rfl, rfl, rfl, w2⟩ := open_int Try.underlying3 (hval 2 3 v2 rfl rfl) h2
  obtain ⟨a3, rfl, rfl, rfl, w3⟩ := open_int Try.underlying3 (hval 3 3 v3 rfl rfl) h3
  exact walk (W := W) (hval 0 33 v0 rfl rfl) h0 a1 w1 a2 w2 a3 w3 hz
theorem fnOf (H : Type) : ∀ ds : List (DataW H), ds.length = Try.f8.params.toList.length → Rows.coderAlikeSpec.fn H ds = { results := [.lit (.bool true)], args := ds } := by
  intro ds h
  have h : ds.length = 4 := h
  obtain _ | ⟨x0, ds⟩ := ds
  · simp at h
  obtain _ | ⟨x1, ds⟩ := ds
  · simp at h
  obtain _ | ⟨x2, ds⟩ := ds
  · simp at h
  obtain _ | ⟨x3, ds⟩ := ds
  · simp at h
  obtain rfl : ds = [] := List.eq_nil_of_length_eq_zero (by simpa using h)
  rfl
set_option maxRecDepth 100000 in
theorem lifted (os : Os) (started : os.Started) (H : Type) (enc : TypeId × Value → H) :
    ReturnsInHanded {} Try.checked os 8 .any (Rows.coderAlikeSpec.pre6 enc Try.prog Try.f8 Rows.coderAlikeRow.domain false) (Rows.coderAlikeSpec.post enc Try.prog Try.f8 false true false false) := by
  refine returnsInHanded_of_change_sized (C := Try.checked) own started (by kernel_rfl) Try.func8
    (ChangeSpec.witness6 (enc := enc) (C := Try.checked) false ⟨#[], #[.slice none 0 0, .int .i64 0, .int .i64 0, .int .i64 0], []⟩ 8 (by kernel_rfl) (by kernel_rfl) (by kernel_rfl) (by kernel_rfl)) ?_
  intro W base args ds gs before hval hW _ hz _
  obtain ⟨p, q, hA, hV, rfl, hfz, hnd⟩ := id hW
  obtain ⟨rfl, rfl⟩ := trodVars_none hV
  simp only [List.append_nil] at hz
  have hz2 : (DataW.weightsEach Try.prog Try.f8.params.toList ds).all (· ≤ reachBytes) = true := hz
  exact Law.ending (C := Try.checked) (s := Rows.coderAlikeSpec) laid pars rfl Try.underlying4 rfl (fnOf H) hW (calls H enc W base args ds p hval hA hz2)
theorem over : Rows.coderAlikeRow.holds Try.pinned (OpenSpec.ofChange Rows.coderAlikeSpec) :=
  OpenClaim.holds_of_wide 8 Try.f8 rfl rfl rfl rfl rfl rfl rfl ⟨rfl, rfl, rfl, rfl, rfl⟩ rfl rfl rfl rfl rfl (by kernel_rfl) Try.func8 (by kernel_rfl)
    (of_decide_eq_true (by kernel_rfl)) (by unfold Func.isWrapper; first | (rw [if_pos (by decide +kernel)]; kernel_rfl) | (rw [if_neg (by decide +kernel)]; exact ⟨rfl, rfl⟩))
    (fun os started H enc _ => lifted os started H enc)
theorem proved : Rows.CoderAlikeSaid := over
end Go.Proofs.Ytomhcjnhhdbhjaa.coderAlike
