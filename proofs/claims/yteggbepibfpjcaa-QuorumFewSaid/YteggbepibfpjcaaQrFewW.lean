/-
  The law QuorumFew over what it takes of the program.
-/
import Derived.Test.YteggbepibfpjcaaQrKeepW
import Derived.Test.YteggbepibfpjcaaQrOnes
namespace Go.Proofs.Yteggbepibfpjcaa.Qr
set_option linter.unusedVariables false
set_option linter.unusedSimpArgs false
open Go.RowKit Mem
open Go.Lib

theorem low_bits {d m p : Nat} (hd : d < 65536) (hm : m ≤ 16) (hp : p = 2 ^ m) : bits .and .u16 (d : Int) ((p : Int) - 1) = ((d % p : Nat) : Int) := by
  have h := bits_mask .u16 16 (by decide) wraps_u16 m hm (d : Int) (by omega) (by omega)
  have e : (2 : Int) ^ m = (p : Int) := by rw [hp]; simp
  rw [e] at h
  rw [h]
  exact (Int.natCast_emod d p).symm
set_option maxRecDepth 100000 in
set_option maxHeartbeats 8000000 in
theorem few_w (hMaj : MajSpec) (hGrid : GridSpec) (hDual : DualSpec) (hMeet : MeetSpec) (hLive : LiveSpec) (m : Int) (d : Nat) (W : World) (hd : d < 65536) :
    Calls Try.prog 9 #[.int .i64 m, .int .u16 d] W (Law.Yes W) := by
  have AL := Lib.hid (fun V => alive_c hMaj hGrid hDual hMeet V)
  rcases majE_vals m with ⟨hk, h1, h10⟩ | hk
  · obtain ⟨l1, hl1⟩ : ∃ l1, majL m = l1 := ⟨_, rfl⟩
    obtain ⟨n1, hn1⟩ : ∃ n1, l1.length = n1 := ⟨_, rfl⟩
    have b1 : n1 ≤ 252 := by rw [← hn1, ← hl1]; exact majL_len m
    have P1 := Lib.hid (fun V => hMaj m V l1 n1 0 hk hl1 hn1)
    obtain ⟨j, rfl⟩ : ∃ j : Nat, m = j := ⟨m.toNat, by omega⟩
    obtain ⟨p, hp⟩ : ∃ p, p = 2 ^ j := ⟨_, rfl⟩
    have p4 : p ≤ 1024 := by rw [hp]; show 2 ^ j ≤ 2 ^ 10; exact Nat.pow_le_pow_right (by decide) (by omega)
    have p0 : 0 < p := by rw [hp]; exact Nat.two_pow_pos j
    obtain ⟨dm, hdm⟩ : ∃ dm, dm = d % p := ⟨_, rfl⟩
    have d1 : dm < p := by rw [hdm]; exact Nat.mod_lt _ p0
    obtain ⟨c, hc⟩ : ∃ c, c = popAux 16 dm := ⟨_, rfl⟩
    have c16 : c ≤ 16 := by rw [hc]; exact pc_le 16 dm
    obtain ⟨v, hv⟩ : ∃ v, decide (2 * c < j) = v := ⟨_, rfl⟩
    have hcj : popAux (j : Int).toNat dm = c := by rw [hc]; exact (pc_fuel j 16 dm (by rw [← hp]; exact d1) (by omega)).symm
    have hlv := liveB_maj (d := dm) hk (by show dm < 2 ^ j; rw [← hp]; exact d1)
    rw [hcj, hl1] at hlv
    have hlv2 : liveB l1 dm = v := by rw [hlv.2]; exact hv
    have P2 := Lib.hid (fun V A ca h => hLive A l1 n1 ca dm V v 0 hn1 (by omega) h (hl1 ▸ majL_fits j) (by omega) hlv.1 hlv2)
    have P3 := Lib.hid (fun V => show Calls Try.prog 25 #[.int .u16 dm] V (Gave (.int .i64 (c : Nat)) V) by rw [hc]; exact ones16_c dm V (by omega))
    have w1 : IntKind.u16.wrap (2 ^ j) = (p : Int) := by rw [show (2 : Int) ^ j = (p : Int) by rw [hp]; simp]; exact wrap16 (by omega)
    have w2 : IntKind.u16.wrap ((p : Int) - 1) = (p : Int) - 1 := wraps_u16 _ (by omega) (by omega)
    have a1 : bits .and .u16 (d : Int) ((p : Int) - 1) = (dm : Int) := by rw [hdm]; exact low_bits hd (by omega) hp
    obtain ⟨e2, he2⟩ : ∃ e2, e2 = 2 * c := ⟨_, rfl⟩
    have w3 : IntKind.i64.wrap (2 * (c : Int)) = (e2 : Int) := by rw [show (2 : Int) * (c : Int) = (e2 : Int) by omega]; exact IntWalk.i64_in _ (by omega)
    have q1 : decide (e2 < j) = v := by rw [he2]; exact hv
    have j10 : j ≤ 10 := by omega
    clear hd hk h1 h10 hl1 hn1 hp hdm hc hv hcj hlv hlv2 he2
    cases v
    all_goals
      go_enter Try.func9, Try.ntmps9
      go_wp2_with fail
      refine (AL.out _).mono ?_
      rintro e w1' ⟨rfl, hb⟩
      have B1 := Lib.hid hb
      clear hb
      go_wp2_with fail
      refine (P1.out _).mono ?_
      rintro e w2' ⟨A2, c2, rfl, hr, hb⟩
      have R2 := Lib.hid hr
      have B2 := Lib.hid (B1.out.trans (hb.mono B1.out.size))
      clear hr hb
      go_wp2_with fail
      refine (P2.out _ _ _ R2.out).mono ?_
      rintro e w3' ⟨rfl, hb⟩
      have B3 := Lib.hid (B2.out.trans (hb.mono B2.out.size))
      clear hb
      go_wp2_with fail
      refine (P3.out _).mono ?_
      rintro e w4' ⟨rfl, hb⟩
      have B4 := Lib.hid (B3.out.trans (hb.mono B3.out.size))
      clear hb
      go_wp2
      go_ret
      exact ⟨rfl, B4.out⟩
  · have e1 : majL m = [] := by unfold majL; rw [if_neg (by rw [hk]; decide)]
    have P1 := Lib.hid (fun V => hMaj m V [] 0 2 hk e1 rfl)
    clear hk e1 hd
    go_enter Try.func9, Try.ntmps9
    go_wp2_with fail
    refine (AL.out _).mono ?_
    rintro e w1 ⟨rfl, hb⟩
    have B1 := Lib.hid hb
    clear hb
    go_wp2_with fail
    refine (P1.out _).mono ?_
    rintro e w2 ⟨A2, c2, rfl, hr, hb⟩
    have B2 := Lib.hid (B1.out.trans (hb.mono B1.out.size))
    clear hr hb
    go_wp2
    go_ret
    exact ⟨rfl, B2.out⟩
end Go.Proofs.Yteggbepibfpjcaa.Qr
