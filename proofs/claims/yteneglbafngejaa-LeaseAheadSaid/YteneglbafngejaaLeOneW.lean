/-
  The law LeaseOne over what it takes of the program.
-/
import Derived.Test.YteneglbafngejaaLeEq
import Derived.Test.YteneglbafngejaaLaw
namespace Go.Proofs.Yteneglbafngejaa.Le
set_option linter.unusedVariables false
set_option linter.unusedSimpArgs false
open Go.RowKit Mem Gt

theorem playE_vals (m long off : Int) (n : Nat) : playE m long off n = 0 ∨ playE m long off n = 2 := by
  unfold playE; split
  · exact .inr rfl
  · exact .inl rfl
theorem playL_no {m long off : Int} {l : List LO} {n : Nat} (hn : l.length = n) (h : playE m long off n = 2) : playL m long off l = [] := by
  unfold playL; rw [hn, if_neg (by rw [h]; decide)]
theorem playL_yes {m long off : Int} {l : List LO} {n : Nat} (hn : l.length = n) (h : playE m long off n = 0) : playL m long off l = answers m long off L0 l := by
  unfold playL; rw [hn, if_pos h]
theorem playL_len {m long off : Int} {l : List LO} {n : Nat} (hn : l.length = n) (h : playE m long off n = 0) : (playL m long off l).length = n := by
  rw [playL_yes hn h, answers_len]; exact hn
theorem asks_succ (k : Nat) : asks (k + 1) = asks k ++ [((5 : Int), (k : Int), (0 : Int))] := by unfold asks; rw [List.range_succ, List.map_append]; rfl
theorem asks_len (k : Nat) : (asks k).length = k := by unfold asks; simp
theorem mays_take {al : List LA} {n j : Nat} {x : LA} (h : al[n + j]? = some x) : mays ((al.drop n).take (j + 1)) = mays ((al.drop n).take j) + (if x.2 = true then 1 else 0) := by
  rw [List.take_add_one, List.getElem?_drop, h]; exact mays_snoc _ _
theorem mays_le (l : List LA) : mays l ≤ l.length := List.length_filter_le _ _
theorem fit_asks {l : List LO} (hf : FitOs l) {N : Nat} (hN : N ≤ 400) : FitOs (l ++ asks N) := fun o ho => by
  rcases List.mem_append.1 ho with h | h
  · exact hf o h
  · unfold asks at h
    obtain ⟨k, hk, rfl⟩ := List.mem_map.1 h
    have := List.mem_range.1 hk
    unfold FitO Fit
    simp only
    omega
set_option maxRecDepth 100000 in
set_option maxHeartbeats 16000000 in
theorem one_w (hP : PlaySpec) (m long off : Int) (A : Option Addr) (l : List LO) (n ca : Nat) (W : World) (hm : Fit m) (hlo : Fit long) (hof : Fit off) (hn : l.length = n) (hbig : n ≤ 5864062014805) (hx : Reads W A (flat loE l)) (hf : FitOs l) :
    Calls Try.prog 4 #[.int .i64 m, .int .i64 long, .int .i64 off, .slice A n ca] W (Law.Yes W) := by
  have AL := Lib.hid (fun V => alive_c hP V)
  by_cases h1 : m < 1
  · clear hx hf hn hm hlo hof
    go_enter Try.func4, Try.ntmps4
    go_wp2_with fail
    refine (AL.out _).mono ?_
    rintro e w1 ⟨rfl, hb⟩
    have B1 := Lib.hid hb
    clear hb
    go_wp2
    go_ret
    exact ⟨rfl, B1.out⟩
  by_cases h2 : 6 < m
  · clear hx hf hn hm hlo hof
    go_enter Try.func4, Try.ntmps4
    go_wp2_with fail
    refine (AL.out _).mono ?_
    rintro e w1 ⟨rfl, hb⟩
    have B1 := Lib.hid hb
    clear hb
    go_wp2
    go_ret
    exact ⟨rfl, B1.out⟩
  obtain ⟨N, rfl⟩ : ∃ N : Nat, m = (N : Int) := ⟨m.toNat, by omega⟩
  have wn : IntKind.i64.wrap ((n : Int) + (N : Int)) = (n : Int) + (N : Int) := IntWalk.i64_in _ (by omega)
  by_cases h3 : 400 < (n : Int) + (N : Int)
  · clear hx hf hn hm hlo hof
    go_enter Try.func4, Try.ntmps4
    go_wp2_with fail
    refine (AL.out _).mono ?_
    rintro e w1 ⟨rfl, hb⟩
    have B1 := Lib.hid hb
    clear hb
    go_wp2
    go_ret
    exact ⟨rfl, B1.out⟩
  have NN := Lib.hid (show 1 ≤ N ∧ N ≤ 6 ∧ n + N ≤ 400 by omega)
  have CL := Lib.hid (fun V (h : Below W.heap.size W V) => clone_lo A l n ca V hn (by omega) (hx.below h))
  obtain ⟨k, hk⟩ : ∃ k, playE (N : Int) long off (n + N) = k := ⟨_, rfl⟩
  have LN := Lib.hid (show (l ++ asks N).length = n + N by rw [List.length_append, asks_len, hn])
  obtain ⟨al, hal⟩ : ∃ al, playL (N : Int) long off (l ++ asks N) = al := ⟨_, rfl⟩
  obtain ⟨na, hna⟩ : ∃ na, al.length = na := ⟨_, rfl⟩
  have P1 := Lib.hid (fun B c V (h : Reads V B (flat loE (l ++ asks N))) => hP (N : Int) long off B _ (n + N) c V al na k hm hlo hof LN.out (by omega) h (fit_asks hf (by omega)) hk hal hna)
  have HN := Lib.hid hn
  have HAL := Lib.hid hal
  have HNA := Lib.hid hna
  have HK := Lib.hid hk
  clear hx hf hn hm hlo hof hal hna hbig
  go_enter Try.func4, Try.ntmps4
  go_wp2_with fail
  refine (AL.out _).mono ?_
  rintro e w1 ⟨rfl, hb⟩
  have B1 := Lib.hid hb
  clear hb
  go_wp2_with fail
  refine (CL.out w1 B1.out).mono ?_
  rintro e w2 ⟨A2, c2, rfl, hT, hb⟩
  have B2 := Lib.hid (B1.out.trans (hb.mono B1.out.size))
  have T2 := Lib.hid (hT.down (B' := W.heap.size) B1.out.size)
  clear hT hb
  go_wp2_with fail
  go_loopw [9, 34] (fun s i wr => ∃ (j : Nat) (B : Option Addr) (c : Nat), j ≤ N ∧ i = .int .i64 j ∧ s = .slice B (n + j) c ∧ Tab loE wr W.heap.size 34 (.slice B (n + j) c) (l ++ asks j) ∧ Below W.heap.size W wr) (fun _ i _ => N - (Go.RowKit.intOf i).toNat)
  case atStart => exact ⟨0, A2, c2, by omega, rfl, rfl, by simpa [asks] using T2.out, B2.out⟩
  case round =>
    obtain ⟨j, B, c, hj, rfl, rfl, hT, hB⟩ := hrel
    have HT := Lib.hid hT
    have HB := Lib.hid hB
    clear hT hB
    by_cases hlt : j < N
    · have j1 : (j : Int) < (N : Int) := by omega
      have LJ := Lib.hid (show (l ++ asks j).length = n + j by rw [List.length_append, asks_len, HN.out])
      have AS := Lib.hid (asks_succ j)
      have HT2 := Lib.hid (HT.out.alloc (.cells #[.int .i64 5, .int .i64 (j : Int), .int .i64 0] 34))
      have HB2 := Lib.hid (HB.out.alloc HB.out.size (.cells #[.int .i64 5, .int .i64 (j : Int), .int .i64 0] 34))
      go_wp2_with (at_builtin; refine wpList_append_g elLO rfl (.tmp 37) (.tmp 40) (by rfl) (y := ((5 : Int), (j : Int), (0 : Int))) rfl (by decide) (v := .slice B (n + j) c) rfl rfl HT.out LJ.out (by unfold maxLen; have := NN.out; omega) (by have := NN.out; omega) HB.out.size ?_; intro A4 c4 w4 Z4 G4 O4; have B4 := Lib.hid (HT2.out.below G4.out HB2.out (Nat.le_refl _) HB2.out.size))
      go_roundw
      case rel => exact ⟨j + 1, A4, c4, by omega, by go_num, rfl, by rw [AS.out, ← List.append_assoc]; exact Z4.out, B4.out⟩
      case measure => simp [Go.RowKit.intOf]; omega
    · obtain rfl : j = N := by omega
      have j1 : ¬ (j : Int) < (j : Int) := by omega
      clear hlt
      go_wp2_with fail
      refine (P1.out B c wr HT.out.reads).mono ?_
      rintro e w5 ⟨A5, c5, rfl, hc5, hr5, hb5⟩
      have B5 := Lib.hid (HB.out.trans (hb5.mono HB.out.size))
      have R5 := Lib.hid hr5
      clear hr5 hb5
      rcases playE_vals (j : Int) long off (n + j) with h0 | h0
      · obtain rfl : 0 = k := h0.symm.trans HK.out
        obtain rfl : n + j = na := by rw [← HNA.out, ← HAL.out]; exact (playL_len LN.out h0).symm
        have ON := Lib.hid (show mays (al.drop n) ≤ 1 by
          have h := lease_one (nodes := (j : Int)) (long := long) (off := off) (l := l) (n := j) rfl (by rw [LN.out]; exact h0)
          rw [HAL.out, HN.out] at h
          exact h)
        have DL := Lib.hid (show (al.drop n).length = j by rw [List.length_drop, HNA.out]; omega)
        have q1 : (((n + j : Nat) : Int) != ((n + j : Nat) : Int)) = false := by simp
        obtain ⟨x0, hx0⟩ : ∃ x, al[n]? = some x := ⟨_, List.getElem?_eq_getElem (by rw [HNA.out]; have := NN.out; omega)⟩
        obtain ⟨bb, o, rfl, _, _, _⟩ := la_at R5.out hx0
        have c5n : (c5 = n) = False := by simp; have := NN.out; omega
        have c5i : (n : Int) ≤ (c5 : Int) := by omega
        have c5j : ((n + j : Nat) : Int) ≤ (c5 : Int) := by omega
        have nj : (n : Int) ≤ ((n + j : Nat) : Int) := by omega
        have njj : n + j - n = j := by omega
        clear hx0 h0
        go_wp2_with fail
        go_loopw [13, 72] (fun q i wr => ∃ t : Nat, t ≤ j ∧ i = .int .i64 t ∧ q = .int .i64 ((mays ((al.drop n).take t) : Nat) : Int) ∧ Below w5.heap.size w5 wr) (fun _ i _ => j - (Go.RowKit.intOf i).toNat)
        case atStart => exact ⟨0, by omega, rfl, by simp [mays], Below.refl _ _⟩
        case round =>
          obtain ⟨t, ht, rfl, rfl, hB⟩ := hrel
          have HB5 := Lib.hid hB
          by_cases hlt : t < j
          · obtain ⟨⟨x0, x1⟩, hx⟩ : ∃ x, al[n + t]? = some x := ⟨_, List.getElem?_eq_getElem (by rw [HNA.out]; omega)⟩
            obtain ⟨b', o', e', _, y0, y1⟩ := la_at (R5.out.below hB) hx
            injection e' with e'
            injection e' with e1 e2
            subst e1 e2
            simp only at y0 y1
            rw [show o + (n + t) * 2 = o + n * 2 + t * 2 by omega] at y0 y1
            have MT := Lib.hid (mays_take hx)
            have MB := Lib.hid (show mays ((al.drop n).take t) ≤ 400 by have h1 := mays_le ((al.drop n).take t); rw [List.length_take] at h1; have := NN.out; omega)
            obtain ⟨q, hq⟩ : ∃ q, mays ((al.drop n).take t) = q := ⟨_, rfl⟩
            rw [hq] at MT MB ⊢
            have wq : IntKind.i64.wrap ((q : Int) + 1) = ((q + 1 : Nat) : Int) := by rw [IntWalk.i64_in _ (by have := MB.out; omega)]; simp
            have t1 : (t : Int) < (j : Int) := by omega
            have HB6 := Lib.hid (HB5.out.alloc HB5.out.size (.cells #[.int .i64 x0, .bool x1] 29))
            clear hx hB hq
            cases x1 with
            | true =>
              go_wp2
              go_roundw
              case rel => exact ⟨t + 1, by omega, by go_num, by rw [MT.out]; rfl, HB6.out⟩
              case measure => simp [Go.RowKit.intOf]; omega
            | false =>
              go_wp2
              go_roundw
              case rel => exact ⟨t + 1, by omega, by go_num, by rw [MT.out]; rfl, HB6.out⟩
              case measure => simp [Go.RowKit.intOf]; omega
          · obtain rfl : t = j := by omega
            have MM : mays ((al.drop n).take t) ≤ 1 := by rw [List.take_of_length_le (Nat.le_of_eq DL.out)]; exact ON.out
            obtain ⟨q, hq⟩ : ∃ q, mays ((al.drop n).take t) = q := ⟨_, rfl⟩
            rw [hq] at MM ⊢
            have q2 : (q : Int) ≤ 1 := by omega
            clear hB hq
            go_wp2
            go_ret
            exact ⟨rfl, B5.out.trans (HB5.out.mono B5.out.size)⟩
      · obtain rfl : 2 = k := h0.symm.trans HK.out
        obtain rfl : [] = al := (playL_no LN.out h0).symm.trans HAL.out
        obtain rfl : 0 = na := HNA.out
        clear h0
        go_wp2
        go_ret
        exact ⟨rfl, B5.out⟩
end Go.Proofs.Yteneglbafngejaa.Le
