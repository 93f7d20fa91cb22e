/-
  LogsCommon, walked over what the laws take of the program.
-/
import Derived.Test.YtmnhhfhdaagmhaaLgAlive
namespace Go.Proofs.Ytmnhhfhdaagmhaa.Lg
set_option linter.unusedVariables false
set_option linter.unusedSimpArgs false
open Go.RowKit Mem Gt
open Jump (Gave equalZ_c)

theorem lgE_comm (a b : List En) : lgE a b = lgE b a := by
  unfold lgE
  by_cases h : okL a = true ∧ okL b = true
  · rw [if_pos h, if_pos ⟨h.2, h.1⟩]
  · rw [if_neg h, if_neg (fun h' => h ⟨h'.2, h'.1⟩)]
theorem lgE_vals (a b : List En) : lgE a b = 0 ∧ okL a = true ∧ okL b = true ∨ lgE a b = 1 := by
  unfold lgE
  by_cases h : okL a = true ∧ okL b = true
  · rw [if_pos h]; exact .inl ⟨rfl, h⟩
  · rw [if_neg h]; exact .inr rfl
set_option maxRecDepth 100000 in
set_option maxHeartbeats 8000000 in
theorem common_core (hB : BestSpec) (hM : MergeSpec) (A B C : Option Addr) (n m p ca cb cc : Nat) (x z v : Nat) (e g h : Int) (W : World)
    (C1 : ∀ V, Below W.heap.size W V → Calls Try.prog 15 #[.slice A n ca, .slice B m cb] V (Gave (.tuple #[.int .i64 x, .int .i64 e]) V))
    (C2 : ∀ V, Below W.heap.size W V → Calls Try.prog 15 #[.slice B m cb, .slice A n ca] V (Gave (.tuple #[.int .i64 x, .int .i64 e]) V))
    (C3 : ∀ V, Below W.heap.size W V → Calls Try.prog 15 #[.slice B m cb, .slice C p cc] V (Gave (.tuple #[.int .i64 z, .int .i64 g]) V))
    (C4 : ∀ V, Below W.heap.size W V → Calls Try.prog 15 #[.slice A n ca, .slice C p cc] V (Gave (.tuple #[.int .i64 v, .int .i64 h]) V))
    (hc : e = 1 ∨ e = 0 ∧ g = 1 ∨ e = 0 ∧ g = 0 ∧ h = 0) (h1 : e = 0 → g = 0 → min x z ≤ v) (h2 : x ≤ n ∧ x ≤ m) :
    Calls Try.prog 8 #[.slice A n ca, .slice B m cb, .slice C p cc] W (Law.Yes W) := by
  have AL := Lib.hid (alive_c hB hM W)
  have D1 := Lib.hid C1
  have D2 := Lib.hid C2
  have D3 := Lib.hid C3
  have D4 := Lib.hid C4
  obtain ⟨q, hq⟩ : ∃ q : Nat, min x z = q := ⟨_, rfl⟩
  obtain ⟨r, hr⟩ : ∃ r : Nat, min n m = r := ⟨_, rfl⟩
  have mq : min (x : Int) (z : Int) = (q : Int) := by omega
  have mr : min (n : Int) (m : Int) = (r : Int) := by omega
  have xr : (x : Int) ≤ (r : Int) := by omega
  have HV := Lib.hid h1
  have HQ := Lib.hid hq
  have ee : (e == e) = true := by simp
  have xx : ((x : Int) == (x : Int)) = true := by simp
  clear C1 C2 C3 C4 hq hr h1 h2
  go_enter Try.func8, Try.ntmps8
  go_wp2_with fail
  refine AL.out.mono ?_
  rintro u w1 ⟨rfl, hb⟩
  have B1 := Lib.hid hb
  have E1 := Lib.hid (D1.out w1 hb)
  clear hb AL D1
  go_wp2_with fail
  refine E1.out.mono ?_
  rintro u w2 ⟨rfl, hb⟩
  have B2 := Lib.hid (B1.out.trans (hb.mono B1.out.size))
  have E2 := Lib.hid (D2.out w2 B2.out)
  clear hb E1 D2 B1
  go_wp2_with fail
  refine E2.out.mono ?_
  rintro u w3 ⟨rfl, hb⟩
  have B3 := Lib.hid (B2.out.trans (hb.mono B2.out.size))
  have E3 := Lib.hid (D3.out w3 B3.out)
  clear hb E2 D3 B2
  go_wp2_with fail
  refine E3.out.mono ?_
  rintro u w4 ⟨rfl, hb⟩
  have B4 := Lib.hid (B3.out.trans (hb.mono B3.out.size))
  have E4 := Lib.hid (D4.out w4 B4.out)
  clear hb E3 D4 B3
  go_wp2_with fail
  refine E4.out.mono ?_
  rintro u w5 ⟨rfl, hb⟩
  have B5 := Lib.hid (B4.out.trans (hb.mono B4.out.size))
  clear hb E4 B4
  rcases hc with rfl | ⟨rfl, rfl⟩ | ⟨rfl, rfl, rfl⟩
  · go_wp2
    go_ret
    exact ⟨rfl, B5.out⟩
  · go_wp2
    go_ret
    exact ⟨rfl, B5.out⟩
  · have qv : (q : Int) ≤ (v : Int) := by have := HV.out rfl rfl; have := HQ.out; omega
    go_wp2
    go_ret
    exact ⟨rfl, B5.out⟩
theorem common_w (hB : BestSpec) (hC : CommonSpec) (hM : MergeSpec) (A B C : Option Addr) (a b c : List En) (n m p ca cb cc : Nat) (W : World) (hn : a.length = n) (hm : b.length = m) (hp : c.length = p) (h1 : n ≤ 140737488355328) (h2 : m ≤ 140737488355328) (h3 : p ≤ 140737488355328)
    (ha : Reads W A (flat enE a)) (hb : Reads W B (flat enE b)) (hc : Reads W C (flat enE c)) : Calls Try.prog 8 #[.slice A n ca, .slice B m cb, .slice C p cc] W (Law.Yes W) := by
  refine common_core hB hM A B C n m p ca cb cc (if lgE a b = 0 then com a b else 0) (if lgE b c = 0 then com b c else 0) (if lgE a c = 0 then com a c else 0) (lgE a b) (lgE b c) (lgE a c) W
    (fun V hV => hC A B a b n m ca cb V _ _ hn hm h1 h2 (ha.below hV) (hb.below hV) rfl rfl)
    (fun V hV => hC B A b a m n cb ca V _ _ hm hn h2 h1 (hb.below hV) (ha.below hV) (lgE_comm b a) (by rw [com_comm b a]))
    (fun V hV => hC B C b c m p cb cc V _ _ hm hp h2 h3 (hb.below hV) (hc.below hV) rfl rfl)
    (fun V hV => hC A C a c n p ca cc V _ _ hn hp h1 h3 (ha.below hV) (hc.below hV) rfl rfl) ?_ ?_ ?_
  · rcases lgE_vals a b with ⟨e1, o1, o2⟩ | e1
    · rcases lgE_vals b c with ⟨e2, o3, o4⟩ | e2
      · exact .inr (.inr ⟨e1, e2, by unfold lgE; rw [if_pos ⟨o1, o4⟩]⟩)
      · exact .inr (.inl ⟨e1, e2⟩)
    · exact .inl e1
  · intro e1 e2
    rcases lgE_vals a b with ⟨_, o1, o2⟩ | e3
    · rcases lgE_vals b c with ⟨_, o3, o4⟩ | e4
      · have e5 : lgE a c = 0 := by unfold lgE; rw [if_pos ⟨o1, o4⟩]
        rw [e1, e2, e5, if_pos rfl, if_pos rfl, if_pos rfl]
        exact com_three a b c
      · rw [e2] at e4; cases e4
    · rw [e1] at e3; cases e3
  · have := com_le a b
    split
    · omega
    · omega
end Go.Proofs.Ytmnhhfhdaagmhaa.Lg
