/-
  LogsAgain, walked over what the laws take of the program.
-/
import Derived.Test.YtmnhhfhdaagmhaaLgCommonW
namespace Go.Proofs.Ytmnhhfhdaagmhaa.Lg
set_option linter.unusedVariables false
set_option linter.unusedSimpArgs false
open Go.RowKit Mem Gt
open Jump (Gave equalZ_c)

theorem lg_self {b : List En} (h : okL b = true) : lgE b b = 0 := by unfold lgE; rw [if_pos ⟨h, h⟩]
theorem keysOf_nil : keysOf [] = [] := rfl
set_option maxRecDepth 100000 in
set_option maxHeartbeats 8000000 in
theorem again_w (hB : BestSpec) (hM : MergeSpec) (A B : Option Addr) (a b : List En) (n m ca cb : Nat) (W : World) (hn : a.length = n) (hm : b.length = m) (h1 : n ≤ ca) (h2 : m ≤ cb) (h3 : ca ≤ 140737488355328) (h4 : cb ≤ 140737488355328)
    (ha : Reads W A (flat enE a)) (hb : Reads W B (flat enE b)) (fa : FitL a) (fb : FitL b) : Calls Try.prog 6 #[.slice A n ca, .slice B m cb] W (Law.Yes W) := by
  have AL := Lib.hid (alive_c hB hM W)
  rcases lgE_vals a b with ⟨he, o1, o2⟩ | he
  · obtain ⟨ks, hks⟩ : ∃ ks, keysOf (rest2 a b) = ks := ⟨_, rfl⟩
    obtain ⟨wr, hwr⟩ : ∃ wr, a.drop (com a b) = wr := ⟨_, rfl⟩
    obtain ⟨nk, hnk⟩ : ∃ nk, ks.length = nk := ⟨_, rfl⟩
    obtain ⟨nw, hnw⟩ : ∃ nw, wr.length = nw := ⟨_, rfl⟩
    have M1 := Lib.hid (fun V (hV : Below W.heap.size W V) => hM A B a b n m ca cb V b wr ks m nk nw 0 hn hm h1 h2 (by omega) (by omega) (by omega) (by omega) (ha.below hV) (hb.below hV) fa fb he rfl hks hwr hm hnk hnw)
    have M2 := Lib.hid (fun V X c (h5 : m ≤ c) (h6 : c ≤ 9223372036854775807) (hV : Below W.heap.size W V) (hX : Reads V X (flat enE b)) => hM X B b b m m c cb V b [] [] m 0 0 0 hm hm h5 h2 (by omega) (by omega) h6 (by omega) hX (hb.below hV) fb fb (lg_self o2) rfl (by rw [if_pos rfl, rest_self]; rfl) (by rw [if_pos rfl, com_self]; simp) hm rfl rfl)
    obtain ⟨j, hj⟩ : ∃ j, j = m / 2 := ⟨_, rfl⟩
    have hjm : j ≤ m := by omega
    have hjl : (b.take j).length = j := by rw [List.length_take]; omega
    obtain ⟨k3, hk3⟩ : ∃ k3, keysOf (rest2 (b.take j) b) = k3 := ⟨_, rfl⟩
    obtain ⟨n3, hn3⟩ : ∃ n3, k3.length = n3 := ⟨_, rfl⟩
    have M3 := Lib.hid (fun V c (h5 : j ≤ c) (h6 : c ≤ 9223372036854775807) (hV : Below W.heap.size W V) => hM B B (b.take j) b j m c cb V b [] k3 m n3 0 0 hjl hm h5 h2 (by omega) (by omega) h6 (by omega) ((rds_take enE (by decide) hb j).below hV) (hb.below hV) (fun e h => fb e (List.mem_of_mem_take h)) fb (by unfold lgE; rw [if_pos ⟨okL_take j o2, o2⟩]) rfl hk3 (by rw [if_pos rfl]; exact rest_prefix b (by omega)) hm hn3 rfl)
    have jd : Int.tdiv (m : Int) 2 = (j : Int) := by rw [Int.tdiv_eq_ediv_of_nonneg (by omega)]; omega
    have wj : IntKind.i64.wrap (j : Int) = (j : Int) := IntWalk.i64_in _ (by omega)
    have j1 : (j : Int) ≤ (cb : Int) := by omega
    have HM := Lib.hid hm
    clear ha hb fa fb hn hm he o1 o2 hks hwr hnk hnw hj hjl hk3 hn3
    go_enter Try.func6, Try.ntmps6
    go_wp2_with fail
    refine AL.out.mono ?_
    rintro u w1 ⟨rfl, hb⟩
    have B1 := Lib.hid hb
    have E1 := Lib.hid (M1.out w1 hb)
    clear hb AL M1
    go_wp2_with fail
    refine E1.out.mono ?_
    rintro u w2 ⟨A1, c1, K1, d1, D1, q1, rfl, ⟨hc1, hc2, _⟩, hr, _, _, hb⟩
    have B2 := Lib.hid (B1.out.trans (hb.mono B1.out.size))
    have R1 := Lib.hid hr
    have E2 := Lib.hid (M2.out w2 A1 c1 hc1 hc2 B2.out hr)
    clear hb hr E1 B1 M2
    go_wp2_with fail
    refine E2.out.mono ?_
    rintro u w3 ⟨A2, c2, K2, d2, D2, q2, rfl, _, hr, _, _, hb⟩
    have B3 := Lib.hid (B2.out.trans (hb.mono B2.out.size))
    have EQ := Lib.hid (fun (V : World) (h : Below w3.heap.size w3 V) => show Calls Try.prog 18 #[.slice A1 m c1, .slice A2 m c2] V (Gave (.bool true) V) from by
      have := equalEn_c A1 A2 b b m m c1 c2 V HM.out HM.out (by omega) ((R1.out.below hb).below h) (hr.below h)
      rwa [show eqEn b b = true by unfold eqEn; simp] at this)
    have E3 := Lib.hid (M3.out w3 cb (by omega) (by omega) B3.out)
    clear hb hr E2 B2 M3
    go_wp2_with fail
    refine E3.out.mono ?_
    rintro u w4 ⟨A3, c3, K3, d3, D3, q3, rfl, _, _, _, _, hb⟩
    have B4 := Lib.hid (B3.out.trans (hb.mono B3.out.size))
    have E4 := Lib.hid (EQ.out w4 hb)
    clear hb E3 B3 EQ
    go_wp2_with fail
    refine E4.out.mono ?_
    rintro u w5 ⟨rfl, hb⟩
    have B5 := Lib.hid (B4.out.trans (hb.mono B4.out.size))
    clear hb
    go_wp2
    go_ret
    exact ⟨rfl, B5.out⟩
  · have M1 := Lib.hid (fun V (hV : Below W.heap.size W V) => hM A B a b n m ca cb V [] [] [] 0 0 0 1 hn hm h1 h2 (by omega) (by omega) (by omega) (by omega) (ha.below hV) (hb.below hV) fa fb he rfl rfl rfl rfl rfl rfl)
    clear ha hb fa fb hn hm he
    go_enter Try.func6, Try.ntmps6
    go_wp2_with fail
    refine AL.out.mono ?_
    rintro u w1 ⟨rfl, hb⟩
    have B1 := Lib.hid hb
    have E1 := Lib.hid (M1.out w1 hb)
    clear hb AL M1
    go_wp2_with fail
    refine E1.out.mono ?_
    rintro u w2 ⟨A1, c1, K1, d1, D1, q1, rfl, _, _, _, _, hb⟩
    have B2 := Lib.hid (B1.out.trans (hb.mono B1.out.size))
    clear hb
    go_wp2
    go_ret
    exact ⟨rfl, B2.out⟩
end Go.Proofs.Ytmnhhfhdaagmhaa.Lg
