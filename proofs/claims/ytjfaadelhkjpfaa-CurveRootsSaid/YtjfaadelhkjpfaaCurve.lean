/-
  Package curve: lagrange, Through; the four specs hold.
-/
import Derived.Test.YtjfaadelhkjpfaaCurveC
namespace Go.Proofs.Ytjfaadelhkjpfaa.Poly
set_option linter.unusedVariables false
open Go.RowKit Gf Mem
attribute [local go_sem] xor8_nat

theorem own_zero (W : World) (t : TypeId) (n : Nat) : OwnT (W.alloc (.cells (Array.replicate n (.int .u8 0)) t)) W.heap.size t (List.replicate n 0) := by
  have h := Known.made W t (Array.replicate n (.int .u8 0))
  unfold OwnT
  rw [List.map_replicate]
  simpa [byt] using h
theorem own256 (W : World) (t : TypeId) : OwnT (W.alloc (.cells (Array.replicate 256 (.int .u8 0)) t)) W.heap.size t (List.replicate 256 0) := own_zero W t 256
theorem quiet_at {P : Program} {f : FuncId} {args : Array Value} {w : World} {n : Nat} {v : Value}
    (h : Calls P f args (w.drewN n) fun e w' => e = .returned v ∧ Drawn (w.drewN n) w') : Calls P f args (w.drewN n) fun e w'' => e = .returned v ∧ ∃ m, w'' = w.drewN m :=
  h.mono fun _ _ ⟨he, q, hq⟩ => ⟨he, n + q, by rw [hq, World.drewN_drewN]⟩
def Lagr (xs ys : List UInt8) (W : World) (e : Ending) (W' : World) : Prop :=
  ∃ (A : Option Addr) (cap : Nat) (r : List UInt8), e = .returned (.slice A r.length cap) ∧ Reads W' A (r.map byt) ∧ Below W.heap.size W W' ∧ Thru xs ys r
set_option maxRecDepth 100000 in
set_option maxHeartbeats 4000000 in
theorem lagrange_c (A B : Option Addr) (xs ys : List UInt8) (ca cb : Nat) (hl : xs.length = ys.length) (hd : xs.Nodup) (W : World) (hx : Reads W A (xs.map byt)) (hy : Reads W B (ys.map byt)) :
    Calls Try.prog 28 #[.slice A xs.length ca, .slice B xs.length cb] W (Lagr xs ys W) := by
  have h256 := nodup_256 hd
  have HX := Lib.hid hx
  have HY := Lib.hid hy
  have HD := Lib.hid hd
  have HL := Lib.hid hl
  have hvan := fun V (h : Below W.heap.size W V) => van_c A xs ca h256 V (hx.below h)
  have HVAN := Lib.hid hvan
  have hz : ∀ w : World, (zeroValue 40).run Try.prog w = .ok (.agg (Array.replicate 256 (.int .u8 0))) w := fun _ => by kernel_rfl
  clear hx hy hd hl hvan
  generalize hN : xs.length = n at *
  have HN := Lib.hid hN
  clear hN
  go_enter Try.func28, Try.ntmps28
  go_wp2_with fail
  clear hz
  refine (HVAN.out _ ((Below.refl _ _).alloc (Nat.le_refl _) _)).mono ?_
  rintro e w1 ⟨C, cc, all, rfl, hcc, hV, hR, hB, hF⟩
  rw [HN.out] at hV
  have HV := Lib.hid hV
  have HB1 := Lib.hid (((Below.refl _ _).alloc (Nat.le_refl _) _).trans (hB.mono (by simp)) : Below W.heap.size W w1)
  have HO1 := Lib.hid ((own256 W 40).later hB)
  have HF := Lib.hid (fun a ha => (by have := hF a ha; simp at this; omega) : ∀ a, C = some a → a.block ≠ W.heap.size)
  have HR := Lib.hid hR
  have hal : all.length = n + 1 := hV.1
  have HAL := Lib.hid hal
  clear hcc hV hB hF hR hal
  go_wp2
  go_loopw [16] (fun i wr => ∃ (k : Nat) (l : List UInt8), k ≤ n ∧ i = .int .i64 k ∧ Lag xs ys k l ∧ OwnT wr W.heap.size 40 l ∧ Below W.heap.size W wr ∧ Reads wr C (all.map byt)) (fun i _ => n - (intOf i).toNat)
  case atStart => exact ⟨0, _, by omega, rfl, lag_start xs ys, HO1.out, HB1.out, HR.out⟩
  case round =>
    obtain ⟨k, l, hk, rfl, hLg, hO, hB, hR⟩ := hrel
    have HLG := Lib.hid hLg
    have HO := Lib.hid hO
    have HB := Lib.hid hB
    have HR2 := Lib.hid hR
    have HLL := Lib.hid hLg.1
    clear hLg hO hB hR
    by_cases hlt : k < n
    · obtain ⟨b, o, x, rfl, ex, cx⟩ := (HX.out.below HB.out).bytes (k := k) (by rw [HN.out]; exact hlt)
      have EX := Lib.hid ex
      clear ex
      go_wp2_with fail
      refine (without_c C all cc x (by rw [HAL.out]; omega) (by rw [HAL.out]; omega) _ HR2.out).mono ?_
      rintro e w2 ⟨D, cd, rfl, hcd, hR3, hB3, hF3⟩
      have hB4 := HB.out.trans (hB3.mono HB.out.size)
      obtain ⟨b2, o2, y, rfl, ey, cy⟩ := (HY.out.below hB4).bytes (k := k) (by rw [← HL.out]; exact hlt)
      have EY := Lib.hid ey
      have hql : (quo all x).length = n := by rw [len_quo, HAL.out]; omega
      have HV2 := HV.out
      have hne := without_own (xs := xs) (all := all) (by rw [HN.out]; exact HV2) HD.out EX.out
      have hne0 : 0 < (ev (quo all x) x).toNat := by
        rcases Nat.eq_zero_or_pos (ev (quo all x) x).toNat with h | h
        · exact absurd (UInt8.toNat_inj.1 h) hne
        · exact h
      have NEXT := Lib.hid (lag_next HLG.out (by rw [HN.out]; exact HV2) HD.out EX.out EY.out)
      have HO2 := Lib.hid (HO.out.later hB3)
      have HR3 := Lib.hid hR3
      have HB4 := Lib.hid hB4
      have HF4 := Lib.hid (fun a ha => (by have h1 := hF3 a ha; have h2 := HO.out.lt; omega) : ∀ a, D = some a → a.block ≠ W.heap.size)
      have HR5 := Lib.hid (HR2.out.below hB3)
      have HQL := Lib.hid hql
      have i1 : (k : Int) < (n : Int) := by omega
      have hat := fun q => quiet_at (at_c D (quo all x) cd x (w2.drewN q) (by rw [HQL.out]; omega) (HR3.out.drawn ⟨q, rfl⟩))
      have HAT := Lib.hid hat
      clear hat hcd hR3 hB3 hF3 hB4 ey hql HV2 hne
      go_wp2
      go_quiet ((first | (go_at_call 9; exact HAT.out _) | (go_at_call 34; exact quiet_l (div_c _ _ hne0 _))))
      have hadd := fun q => addm_c W.heap.size 0 40 l (quo all x) 256 256 D cd (mul y (inv (ev (quo all x) x))) (w2.drewN q) (HO2.out.drawn ⟨q, rfl⟩) (HR3.out.drawn ⟨q, rfl⟩) HF4.out (by rw [HQL.out]; exact h256) (by rw [HQL.out, HLL.out]; omega) (by omega)
      have HADD := Lib.hid hadd
      clear hadd
      go_wp2_with fail
      refine (HADD.out _).mono ?_
      rintro e w4 ⟨rfl, hO4, hG4⟩
      have HO4 := Lib.hid hO4
      have HB5 := Lib.hid ((below_drewN HB4.out _).grown hG4 HB4.out.size (fun a ha => by injection ha with ha; omega))
      have HR6 := Lib.hid ((HR5.out.drawn ⟨_, rfl⟩).grown hG4 (fun a ha e => HF.out a ha (by injection e)))
      clear hO4 hG4
      go_wp2
      go_roundw
      case rel => exact ⟨k + 1, _, by omega, by go_num, NEXT.out, HO4.out, HB5.out, HR6.out⟩
      case measure => simp [intOf]; omega
    · obtain rfl : k = n := by omega
      have hth := lag_end (by rw [HN.out]; exact HLG.out)
      have HTH := Lib.hid hth
      clear hth
      go_wp2_with fail
      refine (trimmed_n (some ⟨W.heap.size, 0, none⟩) l 256 256 HLL.out (by omega) (by omega) _ HO.out.reads).mono ?_
      rintro e w' ⟨rfl, rfl⟩
      have hlt2 : (trim l).length ≤ 256 := by have := trim_len l; rw [HLL.out] at this; exact this
      go_wp2_with fail
      refine (clone_c (some ⟨W.heap.size, 0, none⟩) (trim l) 256 wr (by omega) (trim_reads HO.out.reads)).mono ?_
      rintro e w5 ⟨A5, c5, rfl, _, hM, hB5⟩
      have HM := Lib.hid hM
      have HB5 := Lib.hid (HB.out.trans (hB5.mono HB.out.size))
      clear hM hB5
      go_wp2
      go_ret
      exact ⟨A5, c5, trim l, rfl, HM.out.reads, HB5.out, HTH.out⟩

set_option maxHeartbeats 2000000 in
theorem thru_c : ThruSpec := by
  intro A B xs ys ca cb W lx ly hx hy
  have htw := twice_c A xs ca (by omega) W hx
  have hla := fun (h1 : xs.length = ys.length) (h2 : xs.Nodup) V (h : Below W.heap.size W V) => lagrange_c A B xs ys ca cb h1 h2 V (hx.below h) (hy.below h)
  have HTW := Lib.hid htw
  have HLA := Lib.hid hla
  clear htw hla hx hy
  generalize hN : xs.length = n at *
  generalize hM : ys.length = m at *
  have HN := Lib.hid hN
  have HM := Lib.hid hM
  clear hN hM
  go_enter Try.func16, Try.ntmps16
  by_cases hnm : n = m
  · subst hnm
    go_wp2_with fail
    refine HTW.out.mono ?_
    rintro e w1 ⟨hcase, hB⟩
    have HB := Lib.hid hB
    clear hB
    rcases hcase with ⟨hd, rfl⟩ | ⟨hd, rfl⟩
    · have HD := Lib.hid hd
      clear hd
      go_wp2_with fail
      refine (HLA.out (by first | trivial | rfl) HD.out w1 HB.out).mono ?_
      rintro e w2 ⟨A2, c2, r, rfl, hR, hB2, hT⟩
      have HR := Lib.hid hR
      have HB2 := Lib.hid (HB.out.trans (hB2.mono HB.out.size))
      have HT := Lib.hid hT
      clear hR hB2 hT
      go_wp2
      go_ret2
      exact ⟨A2, c2, r, 0, rfl, HR.out, HB2.out, .inr (.inr ⟨by rw [HN.out, HM.out], HD.out, rfl, HT.out⟩)⟩
    · have HD := Lib.hid hd
      clear hd
      go_wp2
      go_ret2
      exact ⟨none, 0, [], 6, rfl, Reads.nil, HB.out, .inr (.inl ⟨by rw [HN.out, HM.out], HD.out, rfl, rfl⟩)⟩
  · have b1 : ((n : Int) != (m : Int)) = true := by simp; omega
    have HNM := Lib.hid hnm
    clear hnm
    go_wp2
    go_ret2
    exact ⟨none, 0, [], 1, rfl, Reads.nil, Below.refl _ _, .inl ⟨by rw [HN.out, HM.out]; exact HNM.out, rfl, rfl⟩⟩
end Go.Proofs.Ytjfaadelhkjpfaa.Poly
