/-
  The law LeasePlays over what it takes of the program.
-/
import Derived.Test.YteneglbafngejaaLeRef
import Derived.Test.YteneglbafngejaaLeOneW
namespace Go.Proofs.Yteneglbafngejaa.Le
set_option linter.unusedVariables false
set_option linter.unusedSimpArgs false
open Go.RowKit Mem Gt

theorem rplay_c (m long off : Int) (A : Option Addr) (l : List LO) (n ca : Nat) (V : World) (al : List LA) (na : Nat) (k : Int) (hn : l.length = n) (hbig : n ≤ 5864062014806) (hx : Reads V A (flat loE l)) (hf : FitOs l) (hk : playE m long off n = k) (hal : playL m long off l = al) (hna : al.length = na) :
    Calls Try.prog 9 #[.int .i64 m, .int .i64 long, .int .i64 off, .slice A n ca] V (PlayOut al na k V) := by
  rcases playE_vals m long off n with h0 | h0
  · obtain rfl : 0 = k := h0.symm.trans hk
    have e : al = answers m long off L0 l := by rw [← hal, playL_yes hn h0]
    obtain rfl : n = na := by rw [← hna, e, answers_len, hn]
    subst e
    exact rplay_ok m long off A l n ca V hn h0 hx hf
  · obtain rfl : 2 = k := h0.symm.trans hk
    obtain rfl : [] = al := (playL_no hn h0).symm.trans hal
    obtain rfl : 0 = na := hna
    refine rplay_bad m long off A n ca V ?_ hbig
    unfold playE at h0
    split at h0
    · assumption
    · cases h0
set_option maxRecDepth 100000 in
set_option maxHeartbeats 8000000 in
theorem plays_w (hP : PlaySpec) (m long off : Int) (A : Option Addr) (l : List LO) (n ca : Nat) (W : World) (hm : Fit m) (hlo : Fit long) (hof : Fit off) (hn : l.length = n) (hbig : n ≤ 5864062014805) (hx : Reads W A (flat loE l)) (hf : FitOs l) :
    Calls Try.prog 3 #[.int .i64 m, .int .i64 long, .int .i64 off, .slice A n ca] W (Law.Yes W) := by
  obtain ⟨k, hk⟩ : ∃ k, playE m long off n = k := ⟨_, rfl⟩
  obtain ⟨al, hal⟩ : ∃ al, playL m long off l = al := ⟨_, rfl⟩
  obtain ⟨na, hna⟩ : ∃ na, al.length = na := ⟨_, rfl⟩
  have NB := Lib.hid (show na ≤ 9223372036854775807 by
    rcases playE_vals m long off n with h0 | h0
    · rw [← hna, ← hal, playL_len hn h0]; omega
    · rw [← hna, ← hal, playL_no hn h0]; simp)
  have P1 := Lib.hid (hP m long off A l n ca W al na k hm hlo hof hn (by omega) hx hf hk hal hna)
  have P2 := Lib.hid (fun V (hb : Below W.heap.size W V) => rplay_c m long off A l n ca V al na k hn (by omega) (hx.below hb) hf hk hal hna)
  have HNA := Lib.hid hna
  have q1 : (k == k) = true := by simp
  clear hx hf hn hm hlo hof hk hal hna hbig
  go_enter Try.func3, Try.ntmps3
  go_wp2_with fail
  refine P1.out.mono ?_
  rintro e w1 ⟨A1, c1, rfl, _, hr1, hb⟩
  have B1 := Lib.hid hb
  have R1 := Lib.hid hr1
  clear hb hr1
  go_wp2_with fail
  refine (P2.out w1 B1.out).mono ?_
  rintro e w2 ⟨A2, c2, rfl, _, hr2, hb⟩
  have B2 := Lib.hid (B1.out.trans (hb.mono B1.out.size))
  have EQ := Lib.hid (equalLa_c A1 A2 al al na na c1 c2 w2 HNA.out HNA.out NB.out (R1.out.below hb) hr2)
  clear hb hr2
  go_wp2_with fail
  refine EQ.out.mono ?_
  rintro e w3 ⟨rfl, hb⟩
  have B3 := Lib.hid (B2.out.trans (hb.mono B2.out.size))
  have E := Lib.hid (show eqLa al al = true from decide_eq_true rfl)
  rw [E.out]
  clear hb
  go_wp2
  go_ret
  exact ⟨rfl, B3.out⟩
end Go.Proofs.Yteneglbafngejaa.Le
