/-
  The laws QuorumMeets, QuorumDual, QuorumOdd and QuorumLive over what they take of the program.
-/
import Derived.Test.YteggbepibfpjcaaQrAlive
import Derived.Test.YteggbepibfpjcaaLaw
namespace Go.Proofs.Yteggbepibfpjcaa.Qr
set_option linter.unusedVariables false
set_option linter.unusedSimpArgs false
open Go.RowKit Mem

/-! ### QuorumMeets -/
set_option maxRecDepth 100000 in
set_option maxHeartbeats 8000000 in
theorem meets_w (hMaj : MajSpec) (hGrid : GridSpec) (hDual : DualSpec) (hMeet : MeetSpec) (m r c : Int) (W : World) :
    Calls Try.prog 5 #[.int .i64 m, .int .i64 r, .int .i64 c] W (Law.Yes W) := by
  have AL := Lib.hid (fun V => alive_c hMaj hGrid hDual hMeet V)
  obtain ⟨l1, hl1⟩ : ∃ l1, majL m = l1 := ⟨_, rfl⟩
  obtain ⟨n1, hn1⟩ : ∃ n1, l1.length = n1 := ⟨_, rfl⟩
  obtain ⟨k1, hk1⟩ : ∃ k1, majE m = k1 := ⟨_, rfl⟩
  obtain ⟨l2, hl2⟩ : ∃ l2, gridL r c = l2 := ⟨_, rfl⟩
  obtain ⟨n2, hn2⟩ : ∃ n2, l2.length = n2 := ⟨_, rfl⟩
  obtain ⟨k2, hk2⟩ : ∃ k2, gridE r c = k2 := ⟨_, rfl⟩
  have P1 := Lib.hid (fun V => hMaj m V l1 n1 k1 hk1 hl1 hn1)
  have P2 := Lib.hid (fun V => hGrid r c V l2 n2 k2 hk2 hl2 hn2)
  have b1 : n1 ≤ 252 := by rw [← hn1, ← hl1]; exact majL_len m
  have b2 : n2 ≤ 16 := by rw [← hn2, ← hl2]; exact gridL_len r c
  have M1 := Lib.hid (fun V A c1 h => hMeet A l1 n1 c1 A l1 n1 c1 V true 0 hn1 (by omega) h (hl1 ▸ majL_fits m) hn1 (by omega) h (hl1 ▸ majL_fits m) (by rw [← hl1]; exact (majL_meet m).1) (by rw [← hl1]; exact (majL_meet m).2))
  have M2 := Lib.hid (fun V A c1 h => hMeet A l2 n2 c1 A l2 n2 c1 V true 0 hn2 (by omega) h (hl2 ▸ gridL_fits r c) hn2 (by omega) h (hl2 ▸ gridL_fits r c) (by rw [← hl2]; exact (gridL_meet r c).1) (by rw [← hl2]; exact (gridL_meet r c).2))
  have V1 : k1 = 0 ∨ k1 = 2 := by rw [← hk1]; rcases majE_vals m with h | h <;> simp [h]
  have V2 : k2 = 0 ∨ k2 = 2 := by rw [← hk2]; rcases gridE_vals r c with h | h <;> simp [h]
  clear hl1 hn1 hk1 hl2 hn2 hk2
  rcases V1 with rfl | rfl
  all_goals
    rcases V2 with rfl | rfl
    all_goals
      go_enter Try.func5, Try.ntmps5
      go_wp2_with fail
      refine (AL.out _).mono ?_
      rintro e w1 ⟨rfl, hb⟩
      have B1 := Lib.hid hb
      clear hb
      go_wp2_with fail
      refine (P1.out _).mono ?_
      rintro e w2 ⟨A2, c2, rfl, hr, hb⟩
      have R2 := Lib.hid hr
      have B2 := Lib.hid (B1.out.trans (hb.mono B1.out.size))
      clear hr hb
      go_wp2_with fail
      refine (P2.out _).mono ?_
      rintro e w3 ⟨A3, c3, rfl, hr, hb⟩
      have R2b := Lib.hid (R2.out.below hb)
      have R3 := Lib.hid hr
      have B3 := Lib.hid (B2.out.trans (hb.mono B2.out.size))
      clear hr hb R2
      go_wp2_with fail
      refine (M1.out _ _ _ R2b.out).mono ?_
      rintro e w4 ⟨rfl, hb⟩
      have R3b := Lib.hid (R3.out.below hb)
      have B4 := Lib.hid (B3.out.trans (hb.mono B3.out.size))
      clear hb R3 R2b
      go_wp2_with fail
      refine (M2.out _ _ _ R3b.out).mono ?_
      rintro e w5 ⟨rfl, hb⟩
      have B5 := Lib.hid (B4.out.trans (hb.mono B4.out.size))
      clear hb R3b
      go_wp2
      go_ret
      exact ⟨rfl, B5.out⟩

/-! ### QuorumLive -/
set_option maxRecDepth 100000 in
set_option maxHeartbeats 8000000 in
theorem live_w (hMaj : MajSpec) (hGrid : GridSpec) (hDual : DualSpec) (hMeet : MeetSpec) (hLive : LiveSpec) (A : Option Addr) (l : List Nat) (n ca d : Nat) (W : World) (hn : l.length = n) (hbig : n ≤ 70368744177664) (hx : Reads W A (l.map w16)) (hf : Fits l) (hd : d < 65536) :
    Calls Try.prog 8 #[.slice A n ca, .int .u16 d] W (Law.Yes W) := by
  have AL := Lib.hid (fun V => alive_c hMaj hGrid hDual hMeet V)
  have HX := Lib.hid hx
  obtain ⟨v, hv⟩ : ∃ v, liveB l d = v := ⟨_, rfl⟩
  obtain ⟨x, hx'⟩ : ∃ x, meetB l [d] = x := ⟨_, rfl⟩
  have fd : Fits [d] := fun s hs => by simp at hs; omega
  rcases live_or_meet l d with ⟨e1, e2, e3⟩ | ⟨e1, e2⟩
  · rw [hv, hx'] at e3
    have P1 := Lib.hid (fun V h => hLive A l n ca d V v 0 hn hbig h hf hd e1 hv)
    have P2 := Lib.hid (fun V B cb h h2 => hMeet A l n ca B [d] 1 cb V x 0 hn hbig h hf rfl (by decide) h2 fd e2 hx')
    have HD := Lib.hid (fun w => row1 w d)
    clear hn hx hf hd hv hx' fd e1 e2
    subst e3
    cases x
    all_goals
      go_enter Try.func8, Try.ntmps8
      go_wp2_with fail
      refine (AL.out _).mono ?_
      rintro e w1 ⟨rfl, hb⟩
      have B1 := Lib.hid hb
      clear hb
      go_wp2_with fail
      refine (P1.out _ (HX.out.below B1.out)).mono ?_
      rintro e w2 ⟨rfl, hb⟩
      have B2 := Lib.hid (B1.out.trans (hb.mono B1.out.size))
      have C2 := Lib.hid (B2.out.alloc B2.out.size (.cells #[.int .u16 d] 23))
      clear hb
      go_wp2_with fail
      refine (P2.out _ _ 1 (HX.out.below C2.out) (HD.out w2)).mono ?_
      rintro e w3 ⟨rfl, hb⟩
      have B3 := Lib.hid (C2.out.trans (hb.mono C2.out.size))
      clear hb
      go_wp2
      go_ret
      exact ⟨rfl, B3.out⟩
  · have P1 := Lib.hid (fun V h => hLive A l n ca d V v 2 hn hbig h hf hd e1 hv)
    have P2 := Lib.hid (fun V B cb h h2 => hMeet A l n ca B [d] 1 cb V x 2 hn hbig h hf rfl (by decide) h2 fd e2 hx')
    have HD := Lib.hid (fun w => row1 w d)
    clear hn hx hf hd hv hx' fd e1 e2
    go_enter Try.func8, Try.ntmps8
    go_wp2_with fail
    refine (AL.out _).mono ?_
    rintro e w1 ⟨rfl, hb⟩
    have B1 := Lib.hid hb
    clear hb
    go_wp2_with fail
    refine (P1.out _ (HX.out.below B1.out)).mono ?_
    rintro e w2 ⟨rfl, hb⟩
    have B2 := Lib.hid (B1.out.trans (hb.mono B1.out.size))
    have C2 := Lib.hid (B2.out.alloc B2.out.size (.cells #[.int .u16 d] 23))
    clear hb
    go_wp2_with fail
    refine (P2.out _ _ 1 (HX.out.below C2.out) (HD.out w2)).mono ?_
    rintro e w3 ⟨rfl, hb⟩
    have B3 := Lib.hid (C2.out.trans (hb.mono C2.out.size))
    clear hb
    go_wp2
    go_ret
    exact ⟨rfl, B3.out⟩

/-! ### QuorumDual -/
theorem dual_len (m : Int) (l : List Nat) : (dualL m l).length ≤ 65536 := by
  unfold dualL
  split
  · exact rise_len _ _
  · simp
set_option maxRecDepth 100000 in
set_option maxHeartbeats 8000000 in
/-- The law says nothing. -/
theorem dual_out (hMaj : MajSpec) (hGrid : GridSpec) (hDual : DualSpec) (hMeet : MeetSpec) (hLeast : LeastSpec) (m : Int) (A : Option Addr) (l : List Nat) (n ca : Nat) (W : World) (hn : l.length = n) (hbig : n ≤ 70368744177664) (hx : Reads W A (l.map w16)) (hf : Fits l)
    (h : leastE l ≠ 0 ∨ dualE m l ≠ 0 ∨ 400 < (dualL m l).length) :
    Calls Try.prog 6 #[.int .i64 m, .slice A n ca] W (Law.Yes W) := by
  have AL := Lib.hid (fun V => alive_c hMaj hGrid hDual hMeet V)
  have HX := Lib.hid hx
  obtain ⟨l1, hl1⟩ : ∃ l1, leastL l = l1 := ⟨_, rfl⟩
  obtain ⟨n1, hn1⟩ : ∃ n1, l1.length = n1 := ⟨_, rfl⟩
  obtain ⟨k1, hk1⟩ : ∃ k1, leastE l = k1 := ⟨_, rfl⟩
  obtain ⟨l2, hl2⟩ : ∃ l2, dualL m l = l2 := ⟨_, rfl⟩
  obtain ⟨n2, hn2⟩ : ∃ n2, l2.length = n2 := ⟨_, rfl⟩
  obtain ⟨k2, hk2⟩ : ∃ k2, dualE m l = k2 := ⟨_, rfl⟩
  have P1 := Lib.hid (fun V h => hLeast A l n ca V l1 n1 k1 hn hbig h hf hk1 hl1 hn1)
  have P2 := Lib.hid (fun V h => hDual m A l n ca V l2 n2 k2 hn hbig h hf hk2 hl2 hn2)
  rw [hk1, hk2, hl2, hn2] at h
  clear hn hx hf hl1 hn1 hk1 hl2 hn2 hk2
  have hc : (k1 ≠ 0) ∨ (k1 = 0 ∧ k2 ≠ 0) ∨ (k1 = 0 ∧ k2 = 0 ∧ 400 < n2) := by omega
  rcases hc with h1 | ⟨rfl, h2⟩ | ⟨rfl, rfl, h3⟩
  · have q1 : (k1 != 0) = true := by simpa using h1
    clear h h1
    go_enter Try.func6, Try.ntmps6
    go_wp2_with fail
    refine (AL.out _).mono ?_
    rintro e w1 ⟨rfl, hb⟩
    have B1 := Lib.hid hb
    clear hb
    go_wp2_with fail
    refine (P1.out _ (HX.out.below B1.out)).mono ?_
    rintro e w2 ⟨A2, c2, rfl, hr, hb⟩
    have B2 := Lib.hid (B1.out.trans (hb.mono B1.out.size))
    clear hr hb
    go_wp2_with fail
    refine (P2.out _ (HX.out.below B2.out)).mono ?_
    rintro e w3 ⟨A3, c3, rfl, hr, hb⟩
    have B3 := Lib.hid (B2.out.trans (hb.mono B2.out.size))
    clear hr hb
    go_wp2
    go_ret
    exact ⟨rfl, B3.out⟩
  · have q1 : (k2 != 0) = true := by simpa using h2
    clear h h2
    go_enter Try.func6, Try.ntmps6
    go_wp2_with fail
    refine (AL.out _).mono ?_
    rintro e w1 ⟨rfl, hb⟩
    have B1 := Lib.hid hb
    clear hb
    go_wp2_with fail
    refine (P1.out _ (HX.out.below B1.out)).mono ?_
    rintro e w2 ⟨A2, c2, rfl, hr, hb⟩
    have B2 := Lib.hid (B1.out.trans (hb.mono B1.out.size))
    clear hr hb
    go_wp2_with fail
    refine (P2.out _ (HX.out.below B2.out)).mono ?_
    rintro e w3 ⟨A3, c3, rfl, hr, hb⟩
    have B3 := Lib.hid (B2.out.trans (hb.mono B2.out.size))
    clear hr hb
    go_wp2
    go_ret
    exact ⟨rfl, B3.out⟩
  · have q1 : (400 : Int) < (n2 : Int) := by omega
    have q2 : decide (400 < n2) = true := decide_eq_true h3
    clear h h3
    go_enter Try.func6, Try.ntmps6
    go_wp2_with fail
    refine (AL.out _).mono ?_
    rintro e w1 ⟨rfl, hb⟩
    have B1 := Lib.hid hb
    clear hb
    go_wp2_with fail
    refine (P1.out _ (HX.out.below B1.out)).mono ?_
    rintro e w2 ⟨A2, c2, rfl, hr, hb⟩
    have B2 := Lib.hid (B1.out.trans (hb.mono B1.out.size))
    clear hr hb
    go_wp2_with fail
    refine (P2.out _ (HX.out.below B2.out)).mono ?_
    rintro e w3 ⟨A3, c3, rfl, hr, hb⟩
    have B3 := Lib.hid (B2.out.trans (hb.mono B2.out.size))
    clear hr hb
    go_wp2
    go_ret
    exact ⟨rfl, B3.out⟩
set_option maxRecDepth 100000 in
set_option maxHeartbeats 8000000 in
theorem dual_in (hMaj : MajSpec) (hGrid : GridSpec) (hDual : DualSpec) (hMeet : MeetSpec) (hLeast : LeastSpec) (m : Int) (A : Option Addr) (l : List Nat) (n ca : Nat) (W : World) (hn : l.length = n) (hbig : n ≤ 70368744177664) (hx : Reads W A (l.map w16)) (hf : Fits l)
    (h1 : leastE l = 0) (h2 : dualE m l = 0) (h3 : (dualL m l).length ≤ 400) :
    Calls Try.prog 6 #[.int .i64 m, .slice A n ca] W (Law.Yes W) := by
  have AL := Lib.hid (fun V => alive_c hMaj hGrid hDual hMeet V)
  have HX := Lib.hid hx
  obtain ⟨d1, d2, d3, d4⟩ := dualL_dual h2 h3
  have e1 : leastL l = least l := if_pos h1
  obtain ⟨l1, hl1⟩ : ∃ l1, least l = l1 := ⟨_, rfl⟩
  obtain ⟨n1, hn1⟩ : ∃ n1, l1.length = n1 := ⟨_, rfl⟩
  obtain ⟨l2, hl2⟩ : ∃ l2, dualL m l = l2 := ⟨_, rfl⟩
  obtain ⟨n2, hn2⟩ : ∃ n2, l2.length = n2 := ⟨_, rfl⟩
  have f2 : Fits l2 := hl2 ▸ dualL_fits m l
  have P1 := Lib.hid (fun V h => hLeast A l n ca V l1 n1 0 hn hbig h hf h1 (e1.trans hl1) hn1)
  have P2 := Lib.hid (fun V h => hDual m A l n ca V l2 n2 0 hn hbig h hf h2 hl2 hn2)
  rw [hl2] at d1 d2 d3 d4 h3
  rw [hl1] at d2
  rw [hn2] at h3
  have P3 := Lib.hid (fun V A' c' h => hDual m A' l2 n2 c' V l1 n1 0 hn2 (by omega) h f2 d1 d2 hn1)
  have P4 := Lib.hid (fun V A' c' h h' => hMeet A' l2 n2 c' A l n ca V true 0 hn2 (by omega) h f2 hn hbig h' hf d3 d4)
  have N1 := Lib.hid hn1
  have b1 : n1 ≤ 65536 := by rw [← hn1, ← hl1]; exact rise_len _ _
  have q1 : ¬ (400 : Int) < (n2 : Int) := by omega
  have q2 : decide (400 < n2) = false := decide_eq_false (by omega)
  clear hn hx hf hl1 hn1 hl2 hn2 f2 d1 d2 d3 d4 h1 h2 h3 e1
  go_enter Try.func6, Try.ntmps6
  go_wp2_with fail
  refine (AL.out _).mono ?_
  rintro e w1 ⟨rfl, hb⟩
  have B1 := Lib.hid hb
  clear hb
  go_wp2_with fail
  refine (P1.out _ (HX.out.below B1.out)).mono ?_
  rintro e w2 ⟨A2, c2, rfl, hr, hb⟩
  have R2 := Lib.hid hr
  have B2 := Lib.hid (B1.out.trans (hb.mono B1.out.size))
  clear hr hb
  go_wp2_with fail
  refine (P2.out _ (HX.out.below B2.out)).mono ?_
  rintro e w3 ⟨A3, c3, rfl, hr, hb⟩
  have R3 := Lib.hid hr
  have R2b := Lib.hid (R2.out.below hb)
  have B3 := Lib.hid (B2.out.trans (hb.mono B2.out.size))
  clear hr hb R2
  go_wp2_with fail
  refine (P3.out _ _ _ R3.out).mono ?_
  rintro e w4 ⟨A4, c4, rfl, hr, hb⟩
  have R4 := Lib.hid hr
  have R3b := Lib.hid (R3.out.below hb)
  have R2c := Lib.hid (R2b.out.below hb)
  have B4 := Lib.hid (B3.out.trans (hb.mono B3.out.size))
  clear hr hb R2b R3
  go_wp2_with fail
  refine (P4.out _ _ _ R3b.out (HX.out.below B4.out)).mono ?_
  rintro e w5 ⟨rfl, hb⟩
  have R4b := Lib.hid (R4.out.below hb)
  have R2d := Lib.hid (R2c.out.below hb)
  have B5 := Lib.hid (B4.out.trans (hb.mono B4.out.size))
  clear hb R2c R4 R3b
  go_wp2_with fail
  refine (equal_u _ _ l1 n1 _ _ _ N1.out (by omega) R4b.out R2d.out).mono ?_
  rintro e w6 ⟨rfl, hb⟩
  have B6 := Lib.hid (B5.out.trans (hb.mono B5.out.size))
  clear hb
  go_wp2
  go_ret
  exact ⟨rfl, B6.out⟩
theorem dual_w (hMaj : MajSpec) (hGrid : GridSpec) (hDual : DualSpec) (hMeet : MeetSpec) (hLeast : LeastSpec) (m : Int) (A : Option Addr) (l : List Nat) (n ca : Nat) (W : World) (hn : l.length = n) (hbig : n ≤ 70368744177664) (hx : Reads W A (l.map w16)) (hf : Fits l) :
    Calls Try.prog 6 #[.int .i64 m, .slice A n ca] W (Law.Yes W) := by
  by_cases h1 : leastE l = 0
  · by_cases h2 : dualE m l = 0
    · by_cases h3 : 400 < (dualL m l).length
      · exact dual_out hMaj hGrid hDual hMeet hLeast m A l n ca W hn hbig hx hf (.inr (.inr h3))
      · exact dual_in hMaj hGrid hDual hMeet hLeast m A l n ca W hn hbig hx hf h1 h2 (by omega)
    · exact dual_out hMaj hGrid hDual hMeet hLeast m A l n ca W hn hbig hx hf (.inr (.inl h2))
  · exact dual_out hMaj hGrid hDual hMeet hLeast m A l n ca W hn hbig hx hf (.inl h1)

/-! ### QuorumOdd -/
set_option maxRecDepth 100000 in
set_option maxHeartbeats 8000000 in
theorem odd_w (hMaj : MajSpec) (hGrid : GridSpec) (hDual : DualSpec) (hMeet : MeetSpec) (m : Int) (W : World) :
    Calls Try.prog 7 #[.int .i64 m] W (Law.Yes W) := by
  have AL := Lib.hid (fun V => alive_c hMaj hGrid hDual hMeet V)
  obtain ⟨l1, hl1⟩ : ∃ l1, majL m = l1 := ⟨_, rfl⟩
  obtain ⟨n1, hn1⟩ : ∃ n1, l1.length = n1 := ⟨_, rfl⟩
  have b1 : n1 ≤ 252 := by rw [← hn1, ← hl1]; exact majL_len m
  rcases majE_vals m with ⟨hk, h1, h10⟩ | hk
  · have P1 := Lib.hid (fun V => hMaj m V l1 n1 0 hk hl1 hn1)
    obtain ⟨j, rfl⟩ : ∃ j : Nat, m = j := ⟨m.toNat, by omega⟩
    have tm : (j : Int).tmod 2 = ((j % 2 : Nat) : Int) := by rw [Int.tmod_eq_emod_of_nonneg (by omega), Int.natCast_emod]; rfl
    have tm2 : (j : Int) % 2 = ((j % 2 : Nat) : Int) := by rw [Int.natCast_emod]; rfl
    rcases Nat.mod_two_eq_zero_or_one j with h0 | h0
    · rw [h0] at tm tm2
      have tm2n := h0
      clear hl1 hn1 hk h1 h10 h0
      go_enter Try.func7, Try.ntmps7
      go_wp2_with fail
      refine (AL.out _).mono ?_
      rintro e w1 ⟨rfl, hb⟩
      have B1 := Lib.hid hb
      clear hb
      go_wp2_with fail
      refine (P1.out _).mono ?_
      rintro e w2 ⟨A2, c2, rfl, hr, hb⟩
      have B2 := Lib.hid (B1.out.trans (hb.mono B1.out.size))
      clear hr hb
      go_wp2
      go_ret
      exact ⟨rfl, B2.out⟩
    · obtain ⟨d1, d2⟩ := dualL_maj hk (show ((j : Int).toNat) % 2 = 1 by simpa using h0)
      rw [hl1] at d1 d2
      have f1 : Fits l1 := hl1 ▸ majL_fits j
      have P2 := Lib.hid (fun V A c h => hDual j A l1 n1 c V l1 n1 0 hn1 (by omega) h f1 d1 d2 hn1)
      have N1 := Lib.hid hn1
      rw [h0] at tm tm2
      have tm2n := h0
      clear hl1 hn1 hk h1 h10 h0 d1 d2 f1
      go_enter Try.func7, Try.ntmps7
      go_wp2_with fail
      refine (AL.out _).mono ?_
      rintro e w1 ⟨rfl, hb⟩
      have B1 := Lib.hid hb
      clear hb
      go_wp2_with fail
      refine (P1.out _).mono ?_
      rintro e w2 ⟨A2, c2, rfl, hr, hb⟩
      have R2 := Lib.hid hr
      have B2 := Lib.hid (B1.out.trans (hb.mono B1.out.size))
      clear hr hb
      go_wp2_with fail
      refine (P2.out _ _ _ R2.out).mono ?_
      rintro e w3 ⟨A3, c3, rfl, hr, hb⟩
      have R3 := Lib.hid hr
      have R2b := Lib.hid (R2.out.below hb)
      have B3 := Lib.hid (B2.out.trans (hb.mono B2.out.size))
      clear hr hb R2
      go_wp2_with fail
      refine (equal_u _ _ l1 n1 _ _ _ N1.out (by omega) R2b.out R3.out).mono ?_
      rintro e w4 ⟨rfl, hb⟩
      have B4 := Lib.hid (B3.out.trans (hb.mono B3.out.size))
      clear hb
      go_wp2
      go_ret
      exact ⟨rfl, B4.out⟩
  · have e1 : majL m = [] := by unfold majL; rw [if_neg (by rw [hk]; decide)]
    have P1 := Lib.hid (fun V => hMaj m V [] 0 2 hk e1 rfl)
    clear hl1 hn1 hk e1
    go_enter Try.func7, Try.ntmps7
    go_wp2_with fail
    refine (AL.out _).mono ?_
    rintro e w1 ⟨rfl, hb⟩
    have B1 := Lib.hid hb
    clear hb
    go_wp2_with fail
    refine (P1.out _).mono ?_
    rintro e w2 ⟨A2, c2, rfl, hr, hb⟩
    have B2 := Lib.hid (B1.out.trans (hb.mono B1.out.size))
    clear hr hb
    go_wp2
    go_ret
    exact ⟨rfl, B2.out⟩
end Go.Proofs.Yteggbepibfpjcaa.Qr
