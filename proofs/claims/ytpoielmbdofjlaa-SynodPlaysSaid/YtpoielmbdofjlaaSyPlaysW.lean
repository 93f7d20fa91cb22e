/-
  SynodPlays: synod.Play against the document's own answer.
-/
import Derived.Test.YtpoielmbdofjlaaSyNP
import Derived.Test.YtpoielmbdofjlaaSyAlive
import Derived.Test.YtpoielmbdofjlaaLaw
namespace Go.Proofs.Ytpoielmbdofjlaa.Syn
set_option linter.unusedVariables false
set_option linter.unusedSimpArgs false
open Go.RowKit Mem Gt
open Jump (Gave equalZ_c)

set_option maxRecDepth 100000 in
set_option maxHeartbeats 8000000 in
theorem nplay_bad (m : Int) (A : Option Addr) (n ca : Nat) (V : World) (h : m < 1 ∨ 16 < m ∨ 400 < n) (hn : n ≤ 4398046511106) :
    Calls Try.prog 9 #[.int .i64 m, .slice A n ca] V (PlayOut [] 0 [] 0 2 V) := by
  have fin : PlayOut [] 0 [] 0 2 V (.returned (.tuple #[.slice none 0 0, .slice none 0 0, .int .i64 2])) V := ⟨none, 0, none, 0, rfl, Nat.le_refl _, Reads.nil, Reads.nil, Below.refl _ _⟩
  by_cases h1 : m < 1
  · go_enter Try.func9, Try.ntmps9
    go_wp2_with fail
    go_ret3
    exact fin
  · by_cases h2 : 16 < m
    · go_enter Try.func9, Try.ntmps9
      go_wp2_with fail
      go_ret3
      exact fin
    · have h3 : (400 : Int) < (n : Int) := by omega
      go_enter Try.func9, Try.ntmps9
      go_wp2_with fail
      go_ret3
      exact fin
/-- The document's own answer says the same. -/
theorem nplay_c (m : Int) (A : Option Addr) (l : List VO) (n ca : Nat) (V : World) (al : List An) (na : Nat) (cs : List Int) (nc : Nat) (k : Int) (hm : Fit m) (hl : l.length = n) (hn : n ≤ 4398046511106) (hx : Reads V A (flat voE l)) (hf : FitOs l)
    (hk : playE m n = k) (hal : playA m l = al) (hna : al.length = na) (hcs : playC m l = cs) (hnc : cs.length = nc) : Calls Try.prog 9 #[.int .i64 m, .slice A n ca] V (PlayOut al na cs nc k V) := by
  rcases playE_vals m n with ⟨e, h1, h2, h3⟩ | e
  · obtain ⟨q, rfl⟩ : ∃ q : Nat, m = (q : Int) := ⟨m.toNat, by omega⟩
    have e0 : k = 0 := hk.symm.trans e
    subst e0
    unfold playA at hal
    unfold playC at hcs
    rw [hl, e, if_pos rfl, Int.toNat_natCast] at hal hcs
    have hna' : na = n := by rw [← hna, ← hal, run_len, hl]
    subst hna'
    have := nplay_ok q A l na ca V (by omega) (by omega) hl (by omega) hx hf cs nc hcs hnc
    rw [hal] at this
    exact this
  · have e2 : k = 2 := hk.symm.trans e
    subst e2
    unfold playA at hal
    unfold playC at hcs
    rw [hl, e, if_neg (by decide)] at hal hcs
    subst hal hcs
    subst hna hnc
    refine nplay_bad m A n ca V ?_ hn
    unfold playE at e
    by_cases h : m < 1 ∨ 16 < m ∨ 400 < n
    · exact h
    · rw [if_neg h] at e; cases e
theorem playA_len (m : Int) (l : List VO) : (playA m l).length ≤ l.length := by
  unfold playA
  split
  · rw [run_len]; exact Nat.le_refl _
  · simp
theorem eqAn_refl (al : List An) : eqAn al al = true := by
  unfold eqAn
  simp
set_option maxRecDepth 100000 in
set_option maxHeartbeats 8000000 in
theorem plays_w (hP : PlaySpec) (m : Int) (A : Option Addr) (l : List VO) (n ca : Nat) (W : World) (hm : Fit m) (hn : l.length = n) (hbig : n ≤ 4398046511104) (hx : Reads W A (flat voE l)) (hf : FitOs l) :
    Calls Try.prog 3 #[.int .i64 m, .slice A n ca] W (Law.Yes W) := by
  obtain ⟨k, hk⟩ : ∃ k, playE m n = k := ⟨_, rfl⟩
  obtain ⟨al, hal⟩ : ∃ al, playA m l = al := ⟨_, rfl⟩
  obtain ⟨na, hna⟩ : ∃ na, al.length = na := ⟨_, rfl⟩
  obtain ⟨cs, hcs⟩ : ∃ cs, playC m l = cs := ⟨_, rfl⟩
  obtain ⟨nc, hnc⟩ : ∃ nc, cs.length = nc := ⟨_, rfl⟩
  have N4 : nc ≤ 400 := by rw [← hnc, ← hcs]; exact playC_len m l
  have N5 : na ≤ 4398046511104 := by rw [← hna, ← hal]; exact Nat.le_trans (playA_len m l) (by omega)
  have P1 := Lib.hid (hP m A l n ca W al na cs nc k hm hn (by omega) hx hf hk hal hna hcs hnc)
  have P2 := Lib.hid (fun V (h : Reads V A (flat voE l)) => nplay_c m A l n ca V al na cs nc k hm hn (by omega) h hf hk hal hna hcs hnc)
  have HX := Lib.hid hx
  have HA := Lib.hid hna
  have HC := Lib.hid hnc
  have hkk : (k == k) = true := by simp
  clear hx hf hn hm hk hal hna hcs hnc
  go_enter Try.func3, Try.ntmps3
  go_wp2_with fail
  refine P1.out.mono ?_
  rintro e w1 ⟨A1, c1, C1, d1, rfl, _, ha1, hc1, hb1⟩
  have R1 := Lib.hid ha1
  have Q1 := Lib.hid hc1
  have B1 := Lib.hid hb1
  have P3 := Lib.hid (P2.out w1 (HX.out.below hb1))
  clear ha1 hc1 hb1 P1 P2
  go_wp2_with fail
  refine P3.out.mono ?_
  rintro e w2 ⟨A2, c2, C2, d2, rfl, _, ha2, hc2, hb2⟩
  have EA := Lib.hid (show Calls Try.prog 10 #[.slice A1 na c1, .slice A2 na c2] w2 (Gave (.bool true) w2) by
    have := equalAn_c A1 A2 al al na na c1 c2 w2 HA.out HA.out (by omega) (R1.out.below hb2) ha2
    rwa [eqAn_refl] at this)
  have EZ := Lib.hid (fun (V : World) (h : Below w2.heap.size w2 V) => show Calls Try.prog 11 #[.slice C1 nc d1, .slice C2 nc d2] V (Gave (.bool true) V) from by
    have := equalZ_c C1 C2 cs cs nc nc d1 d2 V HC.out HC.out (by omega) (by omega) ((Q1.out.below hb2).below h) (hc2.below h)
    rwa [decide_eq_true rfl] at this)
  have B2 := Lib.hid (B1.out.trans (hb2.mono B1.out.size))
  clear ha2 hc2 hb2 P3
  go_wp2_with fail
  refine EA.out.mono ?_
  rintro e w3 ⟨rfl, hb3⟩
  have B3 := Lib.hid (B2.out.trans (hb3.mono B2.out.size))
  have EZ3 := Lib.hid (EZ.out w3 hb3)
  clear hb3 EZ
  go_wp2_with fail
  refine EZ3.out.mono ?_
  rintro e w4 ⟨rfl, hb4⟩
  have B4 := Lib.hid (B3.out.trans (hb4.mono B3.out.size))
  clear hb4
  go_wp2
  go_ret
  exact ⟨rfl, B4.out⟩
end Go.Proofs.Ytpoielmbdofjlaa.Syn
