/-
  Package locks: perform of the board.
-/
import Derived.Test.YtdkgclgccicbeaaLkPh
import Derived.Deep.RegionWith
namespace Go.Proofs.Ytdkgclgccicbeaa.LkP
set_option linter.unusedVariables false
set_option linter.unusedSimpArgs false
open Go.RowKit Mem Gt
open Lk hiding ints

theorem isin' (n lo hi : Int) (b : Bool) (V : World) (hb : decide (lo ≤ n ∧ n ≤ hi) = b) :
    Calls Try.prog 26 #[.int .i64 n, .int .i64 lo, .int .i64 hi] V (fun e W' => e = .returned (.bool b) ∧ V = W') := (isin_c n lo hi b V hb).mono fun _ _ ⟨h1, h2⟩ => ⟨h1, h2.symm⟩
theorem zeroP (w : World) : (zeroValue 58).run Try.prog w = .ok (.pointer none) w := by kernel_rfl
def BOut (N M : Nat) (p : Int → Sk) (c : Nat) (o : LO) (V : World) (e : Ending) (V' : World) : Prop := e = .returned (.int .i64 (performB p o).1) ∧ ∃ L' g', Bo N M L' g' (performB p o).2 (c + 1) V' ∧ MvB N M V V'
set_option maxRecDepth 100000 in
set_option maxHeartbeats 16000000 in
theorem performB_c (N M : Nat) (L : Lab) (g : Int → Nat) (p : Int → Sk) (c : Nat) (o : LO) (V : World) (h : Bo N M L g p c V) (hf : FitO o) (hc : c < 4194304) (hs : ∀ x, (p x).2.1.length + (p x).2.2.length ≤ 4194303) (hd : ∀ x, (p x).2.1.Nodup ∧ (nodes (p x).2.2).Nodup) :
    Calls Try.prog 21 #[.map (some M), .agg #[.int .i64 o.1, .int .i64 o.2.1, .int .i64 o.2.2]] V (BOut N M p c o V) := by
  obtain ⟨x0, x1, x2⟩ := o
  simp only
  obtain ⟨P, hP⟩ : ∃ P, P = V.heap.size := ⟨_, rfl⟩
  have b0 := low_lit V (.cells #[.int .i64 x0, .int .i64 x1, .int .i64 x2] 36)
  have p0 : Known (V.alloc (.cells #[.int .i64 x0, .int .i64 x1, .int .i64 x2] 36)) P tL #[.int .i64 x0, .int .i64 x1, .int .i64 x2] := by rw [hP]; exact Known.made _ _ _
  obtain ⟨w0, hw0⟩ : ∃ w, w = V.alloc (.cells #[.int .i64 x0, .int .i64 x1, .int .i64 x2] 36) := ⟨_, rfl⟩
  rw [← hw0] at b0 p0
  have LP := Lib.hid (h.hi P (by omega))
  have PV := Lib.hid (show V.heap.size ≤ P by omega)
  have B0 := Lib.hid (h.later b0)
  have MB := Lib.hid ((MvB.refl N M V).later h.nv b0)
  have P0 := Lib.hid p0
  have HW := Lib.hid hw0
  have HPP := Lib.hid hP
  have HC := Lib.hid hc
  have HS := Lib.hid (hs x2)
  have HD := Lib.hid (hd x2)
  have FX := Lib.hid (show Fit x2 from hf.2.2)
  clear h hf hc hs hd b0 p0 hw0 hP
  have y0 : w0.cell? ⟨P, 0, none⟩ = some (.int .i64 x0) := P0.out.cell 0
  have y1 : w0.cell? ⟨P, 1, none⟩ = some (.int .i64 x1) := P0.out.cell 1
  have y2 : w0.cell? ⟨P, 2, none⟩ = some (.int .i64 x2) := P0.out.cell 2
  by_cases hk : x0 < 1 ∨ 3 < x0
  · have EE := Lib.hid (show performB p (x0, x1, x2) = (5, p) by unfold performB; rw [if_pos hk])
    have IK := Lib.hid (fun W => isin' x0 1 3 false W (decide_eq_false (by omega)))
    clear hk
    go_enter Try.func21, Try.ntmps21
    go_upto_region 1 with fail
    rw [← HPP.out, ← HW.out]
    go_wp2_with (go_at_call_of 26 (Value.int .i64 x0); refine (IK.out _).mono ?_; rintro e w1 ⟨rfl, rfl⟩)
    go_ret
    refine ⟨?_, L, g, ?_⟩
    · rw [EE.out]; rfl
    · rw [EE.out]; exact ⟨B0.out.more (by omega), MB.out⟩
  have IK := Lib.hid (fun W => isin' x0 1 3 true W (decide_eq_true (by omega)))
  by_cases hn : x1 < 0 ∨ 15 < x1
  · have EE := Lib.hid (show performB p (x0, x1, x2) = (2, p) by unfold performB; rw [if_neg hk, if_pos hn])
    have IN := Lib.hid (fun W => isin' x1 0 15 false W (decide_eq_false (by omega)))
    clear hk hn
    go_enter Try.func21, Try.ntmps21
    go_upto_region 1 with fail
    rw [← HPP.out, ← HW.out]
    go_wp2_with (first
      | (go_at_call_of 26 (Value.int .i64 x0); refine (IK.out _).mono ?_; rintro e w1 ⟨rfl, rfl⟩)
      | (go_at_call_of 26 (Value.int .i64 x1); refine (IN.out _).mono ?_; rintro e w1 ⟨rfl, rfl⟩))
    go_ret
    refine ⟨?_, L, g, ?_⟩
    · rw [EE.out]; rfl
    · rw [EE.out]; exact ⟨B0.out.more (by omega), MB.out⟩
  have IN := Lib.hid (fun W => isin' x1 0 15 true W (decide_eq_true (by omega)))
  have EE := Lib.hid (show performB p (x0, x1, x2) = ((performK (p x2) (x0, x1, x2)).1, updK p x2 (clean (performK (p x2) (x0, x1, x2)).2)) by unfold performB; rw [if_neg hk, if_neg hn])
  clear hk hn
  obtain ⟨u, hu⟩ : ∃ u, ptrK g p x2 = .pointer u := by unfold ptrK; split <;> exact ⟨_, rfl⟩
  obtain ⟨ks, _, _, _, _, hmp⟩ := B0.out.mp
  have MP := Lib.hid hmp
  have HU := Lib.hid hu
  have WF := Lib.hid (wf_of FX.out)
  clear hmp hu
  go_enter Try.func21, Try.ntmps21
  go_upto_region 1 with fail
  rw [← HPP.out, ← HW.out]
  go_upto_if 20 with (first
    | (go_at_call_of 26 (Value.int .i64 x0); refine (IK.out _).mono ?_; rintro e w1 ⟨rfl, rfl⟩)
    | (go_at_call_of 26 (Value.int .i64 x1); refine (IN.out _).mono ?_; rintro e w1 ⟨rfl, rfl⟩)
    | (refine wpList_lookup_n und_b (zeroP _) rfl _ _ (by rfl) MP.out x2 WF.out rfl rfl _ HU.out ?_))
  go_cut [5] (fun v wx => ∃ (G : Nat) (L1 : Lab), v = .pointer (some ⟨G, 0, none⟩) ∧ Mid N M L1 g p c x2 G (p x2) wx ∧ L1 P = none ∧ Known wx P tL #[.int .i64 x0, .int .i64 x1, .int .i64 x2] ∧ MvB N M V wx)
  case first => as_aux_lemma =>
    by_cases hk : (p x2).2.1 = []
    · obtain ⟨L1, hm, hl⟩ := B0.out.fresh hk
      have e1 : u = none := by have e := HU.out.symm; unfold ptrK at e; rw [if_pos hk] at e; injection e
      have MM := Lib.hid hm
      have L1P := Lib.hid (show L1 P = none by rw [hl P (by have := P0.out.lt; omega)]; exact LP.out)
      have P1 := Lib.hid (P0.out.later (low_lit w0 (.cells #[.bool false, .slice none 0 0, .slice none 0 0] tK)))
      have MB1 := Lib.hid (MB.out.later B0.out.nv (low_lit w0 (.cells #[.bool false, .slice none 0 0, .slice none 0 0] tK)))
      subst e1
      clear hk hm hl
      go_wp2_with fail
      go_meet
      exact ⟨_, L1, rfl, MM.out, L1P.out, P1.out, MB1.out⟩
    · have e1 : u = some ⟨g x2, 0, none⟩ := by have e := HU.out.symm; unfold ptrK at e; rw [if_neg hk] at e; injection e
      have MM := Lib.hid (B0.out.there hk)
      subst e1
      clear hk
      go_wp2_with fail
      go_meet
      exact ⟨_, L, rfl, MM.out, LP.out, P0.out, MB.out⟩
  case rest =>
    obtain ⟨G, L1, rfl, hm, hl, hp, hmb⟩ := hcut
    obtain ⟨w1, rfl⟩ : ∃ w1 : World, w1 = wc := ⟨_, rfl⟩
    clear y0 y1 y2 B0 MB P0 HW HPP IK IN MP HU LP
    have PK := Lib.hid (performK_c N L1 x2 G (p x2) (x0, x1, x2) w1 hm.me HS.out HD.out.1 HD.out.2 hm.hi)
    simp only at PK
    obtain ⟨s', hs'⟩ : ∃ s', s' = (performK (p x2) (x0, x1, x2)).2 := ⟨_, rfl⟩
    obtain ⟨er, her⟩ : ∃ er, er = (performK (p x2) (x0, x1, x2)).1 := ⟨_, rfl⟩
    rw [← hs', ← her] at PK EE
    have z0 : w1.cell? ⟨P, 0, none⟩ = some (.int .i64 x0) := hp.cell 0
    have z1 : w1.cell? ⟨P, 1, none⟩ = some (.int .i64 x1) := hp.cell 1
    have z2 : w1.cell? ⟨P, 2, none⟩ = some (.int .i64 x2) := hp.cell 2
    have M1 := Lib.hid hm
    have L1P := Lib.hid hl
    have P1 := Lib.hid hp
    have MB1 := Lib.hid hmb
    clear hm hl hp hmb hs' her
    go_wp2_with fail
    refine PK.out.mono ?_
    rintro e w6 ⟨rfl, L6, hk6, m6⟩
    have M6 := Lib.hid (M1.out.moved hk6 m6)
    have P6 := Lib.hid (m6.known P1.out (fun j => by rw [L1P.out]; simp))
    have MB6 := Lib.hid (MB1.out.moved M1.out.nv M1.out.low m6)
    have q2 : w6.cell? ⟨P, 2, none⟩ = some (.int .i64 x2) := P6.out.cell 2
    obtain ⟨hv, wv, r6⟩ := hk6
    obtain ⟨nh, hnh⟩ : ∃ n, s'.2.1.length = n := ⟨_, rfl⟩
    obtain ⟨H, ch, rfl, -, -, -⟩ := slice_form r6.ht hnh
    have q1 : w6.cell? ⟨G, 1, none⟩ = some (.slice H nh ch) := r6.bx.cell 1
    obtain ⟨ks, k1, k2, k3, k4, hmp⟩ := M6.out.mp
    have KS := Lib.hid (And.intro k1 (And.intro k2 (And.intro k3 k4)))
    have MP := Lib.hid hmp
    clear z0 z1 z2 m6 r6 k1 k2 k3 k4 hmp M1 P1 MB1 L1P PK
    rcases Nat.eq_zero_or_pos nh with h0 | h0
    · have S0 := Lib.hid (show s'.2.1 = [] from List.eq_nil_of_length_eq_zero (by omega))
      subst h0
      clear hnh
      go_wp2_with (refine wpList_delete_n und_b rfl _ _ (by rfl) MP.out KS.out.1 x2 WF.out rfl rfl ?_; intro V2 N2 G2)
      go_ret
      refine ⟨by rw [EE.out]; rfl, L6, g, ?_, MB6.out.map M6.out.nv G2.out⟩
      rw [EE.out]
      exact M6.out.drop KS.out.1 KS.out.2.1 KS.out.2.2.1 KS.out.2.2.2 S0.out N2.out G2.out
    · have S0 := Lib.hid (show s'.2.1 ≠ [] from fun e => by rw [e] at hnh; simp at hnh; omega)
      have i1 : (0 : Int) < (nh : Int) := by omega
      clear hnh h0
      go_wp2_with (refine wpList_update_n und_b rfl _ _ _ (by rfl) MP.out (by have := KS.out.2.1; have := HC.out; omega) x2 WF.out rfl rfl _ (by rfl) ?_; intro V2 N2 G2)
      go_ret
      refine ⟨by rw [EE.out]; rfl, L6, (fun x => if x = x2 then G else g x), ?_, MB6.out.map M6.out.nv G2.out⟩
      rw [EE.out]
      exact M6.out.keep KS.out.1 KS.out.2.1 KS.out.2.2.1 KS.out.2.2.2 FX.out S0.out N2.out G2.out
end Go.Proofs.Ytdkgclgccicbeaa.LkP
