/-
  The law LeaseAhead over what it takes of the program.
-/
import Derived.Test.YteneglbafngejaaLeOneW
namespace Go.Proofs.Yteneglbafngejaa.Le
set_option linter.unusedVariables false
set_option linter.unusedSimpArgs false
open Go.RowKit Mem Gt

theorem playE_le {m long off : Int} {n j : Nat} (h : playE m long off n = 0) (hj : j ≤ n) : playE m long off j = 0 := by
  obtain ⟨h1, h2, h3, h4⟩ := playE_zero h
  unfold playE
  rw [if_neg (by omega)]
theorem answers_pre {m long off : Int} (l : List LO) (j : Nat) : answers m long off L0 (l.take j) = (answers m long off L0 l).take j := by
  by_cases hj : j ≤ l.length
  · have h := answers_app (nodes := m) (long := long) (off := off) L0 (l.take j) (l.drop j)
    rw [List.take_append_drop] at h
    have e : (answers m long off L0 (l.take j)).length = j := by rw [answers_len, List.length_take]; omega
    rw [h, List.take_append_of_le_length (Nat.le_of_eq e.symm)]
    exact (List.take_of_length_le (Nat.le_of_eq e)).symm
  · rw [List.take_of_length_le (show l.length ≤ j by omega)]
    exact (List.take_of_length_le (by rw [answers_len]; omega)).symm
theorem fit_take {l : List LO} (hf : FitOs l) (j : Nat) : FitOs (l.take j) := fun o ho => hf o (List.mem_of_mem_take ho)
set_option maxRecDepth 100000 in
set_option maxHeartbeats 16000000 in
theorem ahead_w (hP : PlaySpec) (m long off : Int) (A : Option Addr) (l : List LO) (n ca : Nat) (q : Int) (W : World) (hm : Fit m) (hlo : Fit long) (hof : Fit off) (hn : l.length = n) (hbig : n ≤ 5864062014805) (hca : n ≤ ca ∧ ca ≤ 5864062014805) (hx : Reads W A (flat loE l)) (hf : FitOs l) :
    Calls Try.prog 7 #[.int .i64 m, .int .i64 long, .int .i64 off, .slice A n ca, .int .i64 q] W (Law.Yes W) := by
  have AL := Lib.hid (fun V => alive_c hP V)
  by_cases h1 : q < 0
  · clear hx hf hn hm hlo hof
    go_enter Try.func7, Try.ntmps7
    go_wp2_with fail
    refine (AL.out _).mono ?_
    rintro e w1 ⟨rfl, hb⟩
    have B1 := Lib.hid hb
    clear hb
    go_wp2
    go_ret
    exact ⟨rfl, B1.out⟩
  obtain ⟨j, rfl⟩ : ∃ j : Nat, q = (j : Int) := ⟨q.toNat, by omega⟩
  by_cases h2 : n < j
  · have i1 : (n : Int) < (j : Int) := by omega
    clear hx hf hn hm hlo hof
    go_enter Try.func7, Try.ntmps7
    go_wp2_with fail
    refine (AL.out _).mono ?_
    rintro e w1 ⟨rfl, hb⟩
    have B1 := Lib.hid hb
    clear hb
    go_wp2
    go_ret
    exact ⟨rfl, B1.out⟩
  have hjn : j ≤ n := by omega
  have i1 : ¬ (n : Int) < (j : Int) := by omega
  have i2 : (j : Int) ≤ (n : Int) := by omega
  have i3 : (j : Int) ≤ (ca : Int) := by omega
  obtain ⟨k, hk⟩ : ∃ k, playE m long off n = k := ⟨_, rfl⟩
  obtain ⟨al, hal⟩ : ∃ al, playL m long off l = al := ⟨_, rfl⟩
  obtain ⟨na, hna⟩ : ∃ na, al.length = na := ⟨_, rfl⟩
  obtain ⟨k2, hk2⟩ : ∃ k, playE m long off j = k := ⟨_, rfl⟩
  have LT : (l.take j).length = j := by rw [List.length_take]; omega
  obtain ⟨bl, hbl⟩ : ∃ al, playL m long off (l.take j) = al := ⟨_, rfl⟩
  obtain ⟨nb, hnb⟩ : ∃ na, bl.length = na := ⟨_, rfl⟩
  have P1 := Lib.hid (fun V (hb : Below W.heap.size W V) => hP m long off A l n ca V al na k hm hlo hof hn (by omega) (hx.below hb) hf hk hal hna)
  have P2 := Lib.hid (fun c V (hb : Below W.heap.size W V) => hP m long off A (l.take j) j c V bl nb k2 hm hlo hof LT (by omega) (rds_take loE (by decide) (hx.below hb) j) (fit_take hf j) hk2 hbl hnb)
  have P0 := Lib.hid (fun c V (h0 : j = 0) => hP m long off none (l.take j) j c V bl nb k2 hm hlo hof LT (by omega) (by subst h0; rw [List.take_zero]; exact Reads.nil) (fit_take hf j) hk2 hbl hnb)
  have HN := Lib.hid hn
  have HAL := Lib.hid hal
  have HNA := Lib.hid hna
  have HBL := Lib.hid hbl
  have HNB := Lib.hid hnb
  have HK := Lib.hid hk
  have HK2 := Lib.hid hk2
  have HLT := Lib.hid LT
  have HX := Lib.hid hx
  clear hx hf hn hm hlo hof hal hna hbl hnb LT hk hk2
  go_enter Try.func7, Try.ntmps7
  go_wp2_with fail
  refine (AL.out _).mono ?_
  rintro e w1 ⟨rfl, hb⟩
  have B1 := Lib.hid hb
  clear hb
  go_wp2_with fail
  refine (P1.out w1 B1.out).mono ?_
  rintro e w2 ⟨A2, c2, rfl, hc2, hr2, hb⟩
  have B2 := Lib.hid (B1.out.trans (hb.mono B1.out.size))
  have R2 := Lib.hid hr2
  clear hb hr2
  go_wp2_with fail
  refine (P2.out ca w2 B2.out).mono ?_
  rintro e w3 ⟨A3, c3, rfl, hc3, hr3, hb⟩
  have B3 := Lib.hid (B2.out.trans (hb.mono B2.out.size))
  have R3 := Lib.hid hr3
  have R2b := Lib.hid (R2.out.below hb)
  clear hb hr3
  rcases playE_vals m long off n with h0 | h0
  · obtain rfl : 0 = k := h0.symm.trans HK.out
    obtain rfl : 0 = k2 := (playE_le h0 hjn).symm.trans HK2.out
    obtain rfl : n = na := by rw [← HNA.out, ← HAL.out]; exact (playL_len HN.out h0).symm
    obtain rfl : j = nb := by rw [← HNB.out, ← HBL.out]; exact (playL_len HLT.out (playE_le h0 hjn)).symm
    have TA := Lib.hid (show al.take j = bl by rw [← HAL.out, ← HBL.out, playL_yes HN.out h0, playL_yes HLT.out (playE_le h0 hjn)]; exact (answers_pre l j).symm)
    have EQ := Lib.hid (equalLa_c A2 A3 (al.take j) bl j j c2 c3 w3 (by rw [TA.out]; exact HNB.out) HNB.out (by omega) (rds_take laE (by decide) R2b.out j) R3.out)
    have E := Lib.hid (show eqLa (al.take j) bl = true from decide_eq_true TA.out)
    rw [E.out] at EQ
    have q1 : ((n : Int) == (n : Int)) = true := by simp
    have i4 : (j : Int) ≤ (c2 : Int) := by omega
    clear h0
    go_wp2_with fail
    refine EQ.out.mono ?_
    rintro e w4 ⟨rfl, hb⟩
    have B4 := Lib.hid (B3.out.trans (hb.mono B3.out.size))
    clear hb
    go_wp2
    go_ret
    exact ⟨rfl, B4.out⟩
  · obtain rfl : 2 = k := h0.symm.trans HK.out
    clear h0
    go_wp2
    go_ret
    exact ⟨rfl, B3.out⟩
end Go.Proofs.Yteneglbafngejaa.Le
