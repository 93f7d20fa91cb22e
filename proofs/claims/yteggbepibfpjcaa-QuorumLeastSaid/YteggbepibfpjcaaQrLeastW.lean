/-
  The law QuorumLeast over what it takes of the program.
-/
import Derived.Test.YteggbepibfpjcaaQrSpec
import Derived.Test.YteggbepibfpjcaaQrRef3
import Derived.Test.YteggbepibfpjcaaLaw
namespace Go.Proofs.Yteggbepibfpjcaa.Qr
set_option linter.unusedVariables false
set_option linter.unusedSimpArgs false
open Go.RowKit Mem

set_option maxRecDepth 100000 in
set_option maxHeartbeats 8000000 in
theorem least_many (hLeast : LeastSpec) (hDual : DualSpec) (m : Int) (A : Option Addr) (l : List Nat) (n ca : Nat) (W : World) (hn : l.length = n) (hbig : n ≤ 70368744177664) (hx : Reads W A (l.map w16)) (hf : Fits l) (h : 400 < n) :
    Calls Try.prog 4 #[.int .i64 m, .slice A n ca] W (Law.Yes W) := by
  have HX := Lib.hid hx
  have e1 : leastE l = 2 := by unfold leastE; rw [if_pos (by omega)]
  have e2 : dualE m l = 2 := by unfold dualE; rw [if_pos (by omega)]
  have P1 := Lib.hid (fun V h => hLeast A l n ca V [] 0 2 hn hbig h hf e1 (by unfold leastL; rw [if_neg (by rw [e1]; decide)]) rfl)
  have P2 := Lib.hid (fun V h => hDual m A l n ca V [] 0 2 hn hbig h hf e2 (by unfold dualL; rw [if_neg (by rw [e2]; decide)]) rfl)
  have i1 : (400 : Int) < (n : Int) := by omega
  have i2 : decide (400 < n) = true := decide_eq_true h
  clear hn hx hf e1 e2 h
  go_enter Try.func4, Try.ntmps4
  go_wp2_with fail
  refine (P1.out _ HX.out).mono ?_
  rintro e w1 ⟨A1, c1, rfl, hr, hb⟩
  have B1 := Lib.hid hb
  clear hr hb
  go_wp2_with fail
  refine (P2.out _ (HX.out.below B1.out)).mono ?_
  rintro e w2 ⟨A2, c2, rfl, hr, hb⟩
  have B2 := Lib.hid (B1.out.trans (hb.mono B1.out.size))
  clear hr hb
  go_wp2
  go_ret
  exact ⟨rfl, B2.out⟩
set_option maxRecDepth 100000 in
set_option maxHeartbeats 8000000 in
theorem least_range (hLeast : LeastSpec) (hDual : DualSpec) (m : Int) (A : Option Addr) (l : List Nat) (n ca : Nat) (W : World) (hn : l.length = n) (hx : Reads W A (l.map w16)) (hf : Fits l) (h : n ≤ 400) (hm : m < 1 ∨ 10 < m) :
    Calls Try.prog 4 #[.int .i64 m, .slice A n ca] W (Law.Yes W) := by
  have HX := Lib.hid hx
  have e1 : leastE l = 0 := by unfold leastE; rw [if_neg (by omega)]
  have e2 : dualE m l = 2 := by unfold dualE; rw [if_pos (by omega)]
  obtain ⟨l1, hl1⟩ : ∃ l1, least l = l1 := ⟨_, rfl⟩
  obtain ⟨n1, hn1⟩ : ∃ n1, l1.length = n1 := ⟨_, rfl⟩
  have b1 : n1 ≤ 65536 := by rw [← hn1, ← hl1]; exact rise_len _ _
  have P1 := Lib.hid (fun V h => hLeast A l n ca V l1 n1 0 hn (by omega) h hf e1 (by unfold leastL; rw [if_pos e1]; exact hl1) hn1)
  have P2 := Lib.hid (fun V h => hDual m A l n ca V [] 0 2 hn (by omega) h hf e2 (by unfold dualL; rw [if_neg (by rw [e2]; decide)]) rfl)
  have P3 := Lib.hid (fun V h => mleast_c A l n ca V hn (by omega) h hf l1 n1 hl1 hn1)
  have N1 := Lib.hid hn1
  have i1 : ¬ (400 : Int) < (n : Int) := by omega
  have i2 : decide (400 < n) = false := decide_eq_false (by omega)
  clear hn hx hf e1 e2 h hl1 hn1
  have hc : (m < 1) ∨ (¬ m < 1 ∧ 10 < m) := by omega
  rcases hc with h1 | ⟨h0, h1⟩
  · have q1 : decide (m < 1) = true := decide_eq_true h1
    clear hm
    go_enter Try.func4, Try.ntmps4
    go_wp2_with fail
    refine (P1.out _ HX.out).mono ?_
    rintro e w1 ⟨A1, c1, rfl, hr, hb⟩
    have R1 := Lib.hid hr
    have B1 := Lib.hid hb
    clear hr hb
    go_wp2_with fail
    refine (P2.out _ (HX.out.below B1.out)).mono ?_
    rintro e w2 ⟨A2, c2, rfl, hr, hb⟩
    have R1b := Lib.hid (R1.out.below hb)
    have B2 := Lib.hid (B1.out.trans (hb.mono B1.out.size))
    clear hr hb R1
    go_wp2_with fail
    refine (P3.out _ (HX.out.below B2.out)).mono ?_
    rintro e w3 ⟨A3, c3, rfl, hr, hb⟩
    have R1c := Lib.hid (R1b.out.below hb)
    have R3 := Lib.hid hr
    have B3 := Lib.hid (B2.out.trans (hb.mono B2.out.size))
    clear hr hb R1b
    go_wp2_with fail
    refine (equal_u _ _ l1 n1 _ _ _ N1.out (by omega) R1c.out R3.out).mono ?_
    rintro e w4 ⟨rfl, hb⟩
    have B4 := Lib.hid (B3.out.trans (hb.mono B3.out.size))
    clear hb
    go_wp2
    go_ret
    exact ⟨rfl, B4.out⟩
  · have q1 : decide (m < 1) = false := decide_eq_false h0
    have q2 : decide (10 < m) = true := decide_eq_true h1
    clear hm
    go_enter Try.func4, Try.ntmps4
    go_wp2_with fail
    refine (P1.out _ HX.out).mono ?_
    rintro e w1 ⟨A1, c1, rfl, hr, hb⟩
    have R1 := Lib.hid hr
    have B1 := Lib.hid hb
    clear hr hb
    go_wp2_with fail
    refine (P2.out _ (HX.out.below B1.out)).mono ?_
    rintro e w2 ⟨A2, c2, rfl, hr, hb⟩
    have R1b := Lib.hid (R1.out.below hb)
    have B2 := Lib.hid (B1.out.trans (hb.mono B1.out.size))
    clear hr hb R1
    go_wp2_with fail
    refine (P3.out _ (HX.out.below B2.out)).mono ?_
    rintro e w3 ⟨A3, c3, rfl, hr, hb⟩
    have R1c := Lib.hid (R1b.out.below hb)
    have R3 := Lib.hid hr
    have B3 := Lib.hid (B2.out.trans (hb.mono B2.out.size))
    clear hr hb R1b
    go_wp2_with fail
    refine (equal_u _ _ l1 n1 _ _ _ N1.out (by omega) R1c.out R3.out).mono ?_
    rintro e w4 ⟨rfl, hb⟩
    have B4 := Lib.hid (B3.out.trans (hb.mono B3.out.size))
    clear hb
    go_wp2
    go_ret
    exact ⟨rfl, B4.out⟩
set_option maxRecDepth 100000 in
set_option maxHeartbeats 8000000 in
theorem least_core (hLeast : LeastSpec) (hDual : DualSpec) (m : Nat) (A : Option Addr) (l : List Nat) (n ca : Nat) (W : World) (hn : l.length = n) (hx : Reads W A (l.map w16)) (hf : Fits l) (h : n ≤ 400) (h1 : 1 ≤ m) (h10 : m ≤ 10) :
    Calls Try.prog 4 #[.int .i64 m, .slice A n ca] W (Law.Yes W) := by
  have HX := Lib.hid hx
  have e1 : leastE l = 0 := by unfold leastE; rw [if_neg (by omega)]
  obtain ⟨l1, hl1⟩ : ∃ l1, least l = l1 := ⟨_, rfl⟩
  obtain ⟨n1, hn1⟩ : ∃ n1, l1.length = n1 := ⟨_, rfl⟩
  have b1 : n1 ≤ 65536 := by rw [← hn1, ← hl1]; exact rise_len _ _
  obtain ⟨l2, hl2⟩ : ∃ l2, dualL m l = l2 := ⟨_, rfl⟩
  obtain ⟨n2, hn2⟩ : ∃ n2, l2.length = n2 := ⟨_, rfl⟩
  obtain ⟨k2, hk2⟩ : ∃ k2, dualE m l = k2 := ⟨_, rfl⟩
  have b2 : n2 ≤ 65536 := by rw [← hn2, ← hl2]; unfold dualL; split
                             · exact rise_len _ _
                             · simp
  have P1 := Lib.hid (fun V h => hLeast A l n ca V l1 n1 0 hn (by omega) h hf e1 (by unfold leastL; rw [if_pos e1]; exact hl1) hn1)
  have P2 := Lib.hid (fun V h => hDual m A l n ca V l2 n2 k2 hn (by omega) h hf hk2 hl2 hn2)
  have P3 := Lib.hid (fun V h => mleast_c A l n ca V hn (by omega) h hf l1 n1 hl1 hn1)
  obtain ⟨p, hp⟩ : ∃ p, p = 2 ^ m := ⟨_, rfl⟩
  have p4 : p ≤ 1024 := by rw [hp]; show 2 ^ m ≤ 2 ^ 10; exact Nat.pow_le_pow_right (by decide) (by omega)
  have w1 : IntKind.u16.wrap (2 ^ m) = (p : Int) := by rw [show (2 : Int) ^ m = (p : Int) by rw [hp]; simp]; exact wrap16 (by omega)
  have D1 := Lib.hid (show (∃ s ∈ l, p ≤ s) → k2 = 1 ∧ n2 = 0 from fun hs => by
    have e : dualE m l = 1 := by unfold dualE; rw [if_neg (by omega), if_pos (by rw [hp] at hs; exact hs)]
    exact ⟨hk2 ▸ e, by rw [← hn2, ← hl2]; unfold dualL; rw [if_neg (by rw [e]; decide)]; rfl⟩)
  have D0 := Lib.hid (show (∀ s ∈ l, s < p) → k2 = 0 ∧ ∀ V, Reads V A (l.map w16) → Calls Try.prog 23 #[.int .i64 m, .slice A n ca] V (SetsOut l2 n2 V) from fun hs => by
    have e : dualE m l = 0 := dualE_of (by omega) (by omega) (by omega) (by rw [hp] at hs; exact hs)
    refine ⟨hk2 ▸ e, fun V hV => mdual_c m A l n ca V (by omega) hn (by omega) hV hf l2 n2 ?_ hn2⟩
    rw [← hl2]
    unfold dualL
    rw [if_pos e]; rfl)
  have N1 := Lib.hid hn1
  have N2 := Lib.hid hn2
  have HN := Lib.hid hn
  have i1 : ¬ (400 : Int) < (n : Int) := by omega
  have i2 : decide (400 < n) = false := decide_eq_false (by omega)
  have q1 : decide ((m : Int) < 1) = false := decide_eq_false (by omega)
  have q1n : decide (m < 1) = false := decide_eq_false (by omega)
  have q1m : decide (m = 0) = false := decide_eq_false (by omega)
  have q2 : decide ((10 : Int) < (m : Int)) = false := decide_eq_false (by omega)
  have q2n : decide (10 < m) = false := decide_eq_false (by omega)
  clear hn hx hf e1 hl1 hn1 hl2 hn2 hk2 hp
  go_enter Try.func4, Try.ntmps4
  go_wp2_with fail
  refine (P1.out _ HX.out).mono ?_
  rintro e w1' ⟨A1, c1, rfl, hr, hb⟩
  have R1 := Lib.hid hr
  have B1 := Lib.hid hb
  clear hr hb
  go_wp2_with fail
  refine (P2.out _ (HX.out.below B1.out)).mono ?_
  rintro e w2 ⟨A2, c2, rfl, hr, hb⟩
  have R1b := Lib.hid (R1.out.below hb)
  have R2 := Lib.hid hr
  have B2 := Lib.hid (B1.out.trans (hb.mono B1.out.size))
  clear hr hb R1
  go_wp2_with fail
  refine (P3.out _ (HX.out.below B2.out)).mono ?_
  rintro e w3 ⟨A3, c3, rfl, hr, hb⟩
  have R1c := Lib.hid (R1b.out.below hb)
  have R2b := Lib.hid (R2.out.below hb)
  have R3 := Lib.hid hr
  have B3 := Lib.hid (B2.out.trans (hb.mono B2.out.size))
  clear hr hb R1b R2
  go_wp2_with fail
  refine (equal_u _ _ l1 n1 _ _ _ N1.out (by omega) R1c.out R3.out).mono ?_
  rintro e w4 ⟨rfl, hb⟩
  have B4 := Lib.hid (B3.out.trans (hb.mono B3.out.size))
  have R2c := Lib.hid (R2b.out.below hb)
  clear hb R2b R3 R1c
  go_wp2
  go_loopw [64] (fun i wr => ∃ k : Nat, k ≤ n ∧ i = .int .i64 k ∧ (∀ s ∈ l.take k, s < p) ∧ wr = w4) (fun i _ => n - (intOf i).toNat)
  case atStart => exact ⟨0, by omega, rfl, fun s hs => by simp at hs, rfl⟩
  case round =>
    obtain ⟨k, hk, rfl, hS, hw⟩ := hrel
    subst hw
    by_cases hlt : k < n
    · have kl : k < l.length := by rw [HN.out]; exact hlt
      obtain ⟨x, hx⟩ : ∃ x, l[k]? = some x := ⟨_, List.getElem?_eq_getElem kl⟩
      obtain ⟨b, o, rfl, _, y1⟩ := Reads.at16 (HX.out.below B4.out) hx
      have i3 : (k : Int) < (n : Int) := by omega
      by_cases hp : p ≤ x
      · obtain ⟨rfl, rfl⟩ := D1.out ⟨x, List.mem_of_getElem? hx, hp⟩
        have q3 : (p : Int) ≤ (x : Int) := by omega
        clear kl hx hS
        go_wp2
        go_ret
        exact ⟨rfl, B4.out⟩
      · have q3 : ¬ (p : Int) ≤ (x : Int) := by omega
        have HS := Lib.hid (show ∀ s ∈ l.take (k + 1), s < p from fun s hs => by
          rw [List.take_add_one, hx] at hs
          rcases List.mem_append.1 hs with hs | hs
          · exact hS s hs
          · simp at hs; omega)
        clear kl hx hS hp
        go_wp2
        go_roundw
        case rel => exact ⟨k + 1, by omega, by go_num, HS.out, by trivial⟩
        case measure => simp [intOf]; omega
    · obtain rfl : k = n := by omega
      obtain ⟨rfl, hD⟩ := D0.out (by rw [List.take_of_length_le (by rw [HN.out]; omega)] at hS; exact hS)
      have MD := Lib.hid hD
      clear hS hD
      go_wp2_with fail
      refine (MD.out _ (HX.out.below B4.out)).mono ?_
      rintro e w5 ⟨A5, c5, rfl, hr, hb⟩
      have R2d := Lib.hid (R2c.out.below hb)
      have R5 := Lib.hid hr
      have B5 := Lib.hid (B4.out.trans (hb.mono B4.out.size))
      clear hr hb
      go_wp2_with fail
      refine (equal_u _ _ l2 n2 _ _ _ N2.out (by omega) R2d.out R5.out).mono ?_
      rintro e w6 ⟨rfl, hb⟩
      have B6 := Lib.hid (B5.out.trans (hb.mono B5.out.size))
      clear hb
      go_wp2
      go_ret
      exact ⟨rfl, B6.out⟩
theorem least_w (hLeast : LeastSpec) (hDual : DualSpec) (m : Int) (A : Option Addr) (l : List Nat) (n ca : Nat) (W : World) (hn : l.length = n) (hbig : n ≤ 70368744177664) (hx : Reads W A (l.map w16)) (hf : Fits l) :
    Calls Try.prog 4 #[.int .i64 m, .slice A n ca] W (Law.Yes W) := by
  by_cases h : 400 < n
  · exact least_many hLeast hDual m A l n ca W hn hbig hx hf h
  · by_cases hm : m < 1 ∨ 10 < m
    · exact least_range hLeast hDual m A l n ca W hn hx hf (by omega) hm
    · obtain ⟨j, rfl⟩ : ∃ j : Nat, m = j := ⟨m.toNat, by omega⟩
      exact least_core hLeast hDual j A l n ca W hn hx hf (by omega) (by omega) (by omega)
end Go.Proofs.Yteggbepibfpjcaa.Qr
