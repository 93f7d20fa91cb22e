/-
  The law LocksPlay over what it takes of the program and of the document's own answer.
-/
import Derived.Test.YtdkgclgccicbeaaLkEq
import Derived.Test.YtdkgclgccicbeaaLaw
namespace Go.Proofs.Ytdkgclgccicbeaa.Lk
set_option linter.unusedVariables false
set_option linter.unusedSimpArgs false
open Go.RowKit Mem Gt

/-- What the laws take of the document's own answer. -/
def RPlaySpec : Prop := ∀ (A : Option Addr) (l : List LO) (n ca : Nat) (V : World) (es : List Int) (ls : List Lc) (kl : Nat), l.length = n → n ≤ 4194304 → Reads V A (flat loE l) → FitOs l →
  errs l = es → locks l = ls → ls.length = kl → Calls Try.prog 9 #[.slice A n ca] V (PlayOut es n ls kl V)
theorem keys_len : ∀ ops : List LO, (keys ops).length ≤ ops.length
  | [] => by simp [keys]
  | o :: r => by
    have h : ∀ (k : Int) (l : List Int), (ins k l).length ≤ l.length + 1 := fun k l => by
      induction l with
      | nil => simp [ins]
      | cons x l ih =>
        unfold ins
        by_cases h1 : k < x
        · rw [if_pos h1]; simp
        · rw [if_neg h1]
          by_cases h2 : k = x
          · rw [if_pos h2]; simp
          · rw [if_neg h2]; simp; omega
    show (ins o.2.2 (keys r)).length ≤ _
    have := h o.2.2 (keys r)
    have := keys_len r
    simp; omega
theorem locks_len (ops : List LO) : (locks ops).length ≤ ops.length := by
  unfold locks
  rw [List.length_map]
  exact Nat.le_trans (List.length_filter_le _ _) (keys_len ops)
set_option maxRecDepth 100000 in
set_option maxHeartbeats 4000000 in
theorem plays_w (hP : PlaySpec) (hR : RPlaySpec) (A : Option Addr) (l : List LO) (n ca : Nat) (W : World) (hn : l.length = n) (hbig : n ≤ 1048576) (hx : Reads W A (flat loE l)) (hf : FitOs l) :
    Calls Try.prog 3 #[.slice A n ca] W (Law.Yes W) := by
  obtain ⟨es, hes⟩ : ∃ es, errs l = es := ⟨_, rfl⟩
  obtain ⟨ls, hls⟩ : ∃ ls, locks l = ls := ⟨_, rfl⟩
  obtain ⟨kl, hkl⟩ : ∃ kl, ls.length = kl := ⟨_, rfl⟩
  have NE := Lib.hid (show es.length = n by rw [← hes, errs_len, hn])
  have NL := Lib.hid (show kl ≤ 1048576 by have := locks_len l; rw [hls, hkl] at this; omega)
  have P1 := Lib.hid (hP A l n ca W es ls kl hn (by omega) hx hf hes hls hkl)
  have P2 := Lib.hid (fun V (hb : Below W.heap.size W V) => hR A l n ca V es ls kl hn (by omega) (hx.below hb) hf hes hls hkl)
  have HKL := Lib.hid hkl
  have HB := Lib.hid hbig
  clear hx hf hn hes hls hkl hbig
  go_enter Try.func3, Try.ntmps3
  go_wp2_with fail
  refine P1.out.mono ?_
  rintro e w1 ⟨A1, c1, B1, d1, rfl, _, _, hr1, hl1, hb⟩
  have LB1 := Lib.hid hb
  have R1 := Lib.hid hr1
  have L1 := Lib.hid hl1.rds
  clear hb hr1 hl1
  go_wp2_with fail
  refine (P2.out w1 LB1.out).mono ?_
  rintro e w2 ⟨A2, c2, B2, d2, rfl, _, _, hr2, hl2, hb⟩
  have LB2 := Lib.hid (LB1.out.trans (hb.mono LB1.out.size))
  have EQ := Lib.hid (equalEr_c A1 A2 es es n n c1 c2 w2 NE.out NE.out (by have := HB.out; omega) (R1.out.below hb) hr2)
  have SL := Lib.hid (fun V (h : Below w2.heap.size w2 V) => samelocks_c B1 B2 ls ls kl kl d1 d2 V HKL.out HKL.out (by have := NL.out; omega) ((L1.out.below hb).below h) (hl2.rds.below h) true ⟨fun _ => rfl, fun _ => rfl⟩)
  clear hb hr2 hl2
  go_wp2_with fail
  refine EQ.out.mono ?_
  rintro e w3 ⟨rfl, hb⟩
  have B3 := Lib.hid (LB2.out.trans (hb.mono LB2.out.size))
  have E := Lib.hid (show eqI es es = true from decide_eq_true rfl)
  have SL3 := Lib.hid (SL.out w3 hb)
  rw [E.out]
  clear hb
  go_wp2_with fail
  refine SL3.out.mono ?_
  rintro e w4 ⟨rfl, hb⟩
  have B4 := Lib.hid (B3.out.trans (hb.mono B3.out.size))
  clear hb
  go_wp2
  go_ret
  exact ⟨rfl, B4.out⟩
end Go.Proofs.Ytdkgclgccicbeaa.Lk
