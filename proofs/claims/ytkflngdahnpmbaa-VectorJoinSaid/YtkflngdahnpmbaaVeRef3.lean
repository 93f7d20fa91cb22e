/-
  The document's own answers of package vector: SameLists.
-/
import Derived.Test.YtkflngdahnpmbaaVeRef2
namespace Go.Proofs.Ytkflngdahnpmbaa.Ve
set_option linter.unusedVariables false
set_option linter.unusedSimpArgs false
open Go.RowKit Mem Gt
open Jump (Gave equalZ_c)

set_option maxRecDepth 100000 in
set_option maxHeartbeats 4000000 in
theorem samelists_c (A B : Option Addr) (a b : List Ve) (n m ca cb : Nat) (V : World) (hn : a.length = n) (hm : b.length = m) (hbig : n ≤ 140737488355328) (hbig2 : m ≤ 140737488355328) (hx : VRds V A a) (hy : VRds V B b) :
    Calls Try.prog 17 #[.slice A n ca, .slice B m cb] V (GaveD (.bool (decide (a = b))) V) := by
  by_cases hnm : n = m
  · subst hnm
    have HX := Lib.hid hx
    have HY := Lib.hid hy
    have HN := Lib.hid hn
    have HM := Lib.hid hm
    clear hx hy hn hm hbig2
    go_enter Try.func17, Try.ntmps17
    go_wp2_with fail
    go_loopw [13] (fun i wr => ∃ k : Nat, k ≤ n ∧ i = .int .i64 k ∧ a.take k = b.take k ∧ Drawn V wr) (fun i _ => n - (intOf i).toNat)
    case atStart => exact ⟨0, by omega, rfl, rfl, Drawn.refl _⟩
    case round =>
      obtain ⟨k, hk, rfl, hu, hB⟩ := hrel
      have HU := Lib.hid hu
      have BB := Lib.hid hB
      clear hu
      by_cases hlt : k < n
      · have kl : k < a.length := by rw [HN.out]; exact hlt
        have km : k < b.length := by rw [HM.out]; exact hlt
        obtain ⟨x, hx⟩ : ∃ x, a[k]? = some x := ⟨_, List.getElem?_eq_getElem kl⟩
        obtain ⟨y, hy⟩ : ∃ y, b[k]? = some y := ⟨_, List.getElem?_eq_getElem km⟩
        obtain ⟨b1, o1, C1, c1, rfl, _, y1, hl1, hs1, hr1⟩ := (HX.out.below (hB.below _)).row hx
        obtain ⟨b2, o2, C2, c2, rfl, _, y2, hl2, hs2, hr2⟩ := (HY.out.below (hB.below _)).row hy
        obtain ⟨p, hp⟩ : ∃ p, x.length = p := ⟨_, rfl⟩
        obtain ⟨q, hq⟩ : ∃ q, y.length = q := ⟨_, rfl⟩
        rw [hp] at y1 hl1 hs1
        rw [hq] at y2 hl2 hs2
        have j1 : (k : Int) < (n : Int) := by omega
        have KX := Lib.hid hx
        have KY := Lib.hid hy
        have NE := Lib.hid (show x ≠ y → decide (a = b) = false from fun h => decide_eq_false fun e => h (by subst e; have := KX.out.symm.trans KY.out; injection this))
        have EQ := Lib.hid (show x = y → a.take (k + 1) = b.take (k + 1) from fun h => by rw [List.take_add_one, List.take_add_one, KX.out, KY.out, HU.out, h])
        by_cases hpq : p = q
        · subst hpq
          have OL := Lib.hid (cmp_one (hp.trans hq.symm))
          obtain ⟨c, hc⟩ : ∃ c, cmp x y = c := ⟨_, rfl⟩
          have PC := Lib.hid (fun (i : Nat) => pcompare_d C1 C2 x y p c1 c2 (wr.drewN i) c hp hq (by omega) hr1 hr2 hc)
          rw [hc] at OL
          clear kl km hx hy hB hr1 hr2 hp hq hl1 hl2 hs1 hs2 hc
          by_cases h1 : c = 1
          · have U2 := Lib.hid (EQ.out (OL.out.1 h1))
            subst h1
            clear EQ NE OL
            go_wp2_with fail
            go_quiet ((go_at_call 14; exact quiet_drawn (PC.out _)))
            go_wp2
            go_roundw
            case rel => exact ⟨k + 1, by omega, by go_num, U2.out, BB.out.more _⟩
            case measure => simp [intOf]; omega
          · have U2 := Lib.hid (NE.out (fun h => h1 (OL.out.2 h)))
            clear EQ NE OL
            go_wp2_with fail
            go_quiet ((go_at_call 14; exact quiet_drawn (PC.out _)))
            go_wp2
            rw [U2.out]
            go_ret
            exact ⟨rfl, BB.out.more _⟩
        · have j2 : ¬ (p : Int) = (q : Int) := by omega
          have U2 := Lib.hid (NE.out (fun h => hpq (by rw [← hp, ← hq, h])))
          clear kl km hx hy hB hr1 hr2 hp hq hl1 hl2 hs1 hs2 EQ NE
          go_wp2_with fail
          go_quiet (fail)
          go_wp2
          rw [U2.out]
          go_ret
          exact ⟨rfl, BB.out.more _⟩
      · obtain rfl : k = n := by omega
        have E := Lib.hid (show decide (a = b) = true by have := HU.out; rw [List.take_of_length_le (Nat.le_of_eq HN.out), List.take_of_length_le (Nat.le_of_eq HM.out)] at this; exact decide_eq_true this)
        clear hB
        go_wp2
        rw [E.out]
        go_ret
        exact ⟨rfl, BB.out⟩
  · have E : decide (a = b) = false := decide_eq_false fun e => hnm (by rw [← hn, ← hm, e])
    rw [E]
    have j1 : ¬ (n : Int) = (m : Int) := by omega
    clear hx hy hn hm E
    go_enter Try.func17, Try.ntmps17
    go_wp2
    go_ret
    exact ⟨rfl, Drawn.refl _⟩
end Go.Proofs.Ytkflngdahnpmbaa.Ve
