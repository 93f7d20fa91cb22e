/-
  The document's own answers of package vector: PUnder, PCompare, PWrong.
-/
import Derived.Test.YtkflngdahnpmbaaVeMem
import Derived.Deep.Cut
import Derived.Deep.DeepCutAuto
namespace Go.Proofs.Ytkflngdahnpmbaa.Ve
set_option linter.unusedVariables false
set_option linter.unusedSimpArgs false
open Go.RowKit Mem Gt
open Jump (Gave equalZ_c)

def GaveD (v : Value) (W : World) (e : Ending) (W' : World) : Prop := e = .returned v ∧ Drawn W W'
theorem quiet_drawn {P : Program} {f : FuncId} {args : Array Value} {w : World} {n : Nat} {v : Value} (h : Calls P f args (w.drewN n) (GaveD v (w.drewN n))) :
    Calls P f args (w.drewN n) fun e w'' => e = .returned v ∧ ∃ m, w'' = w.drewN m :=
  h.mono fun _ _ ⟨he, q, hq⟩ => ⟨he, n + q, by rw [hq, World.drewN_drewN]⟩
theorem under_take {a b : Ve} {k : Nat} {x y : Int} (hl : a.length = b.length) (hx : a[k]? = some x) (hy : b[k]? = some y) (h : under (a.take k) (b.take k) = true) (hxy : x ≤ y) : under (a.take (k + 1)) (b.take (k + 1)) = true := by
  refine (under_iff (by rw [List.length_take, List.length_take, hl])).2 fun j u v hu hv => ?_
  rw [List.getElem?_take] at hu hv
  split at hu
  · rename_i hj
    rw [if_pos hj] at hv
    rcases Nat.lt_or_ge j k with hk | hk
    · exact (under_iff (by rw [List.length_take, List.length_take, hl])).1 h j u v (by rw [List.getElem?_take, if_pos hk]; exact hu) (by rw [List.getElem?_take, if_pos hk]; exact hv)
    · obtain rfl : j = k := by omega
      rw [hx] at hu; rw [hy] at hv
      injection hu with hu; injection hv with hv
      omega
  · cases hu
theorem under_no {a b : Ve} {k : Nat} {x y : Int} (hl : a.length = b.length) (hx : a[k]? = some x) (hy : b[k]? = some y) (hxy : ¬ x ≤ y) : under a b = false := by
  cases h : under a b with
  | false => rfl
  | true => exact absurd ((under_iff hl).1 h k x y hx hy) hxy
set_option maxRecDepth 100000 in
set_option maxHeartbeats 8000000 in
theorem punder_d (A B : Option Addr) (a b : Ve) (n ca cb : Nat) (V : World) (hn : a.length = n) (hm : b.length = n) (hbig : n ≤ 140737488355328) (hx : Reads V A (a.map (Value.int .i64))) (hy : Reads V B (b.map (Value.int .i64))) :
    Calls Try.prog 26 #[.slice A n ca, .slice B n cb] V (GaveD (.bool (under a b)) V) := by
  have HX := Lib.hid hx
  have HY := Lib.hid hy
  have HN := Lib.hid hn
  have HM := Lib.hid hm
  clear hx hy hn hm
  go_enter Try.func26, Try.ntmps26
  go_wp2_with fail
  go_loopw [8] (fun i wr => ∃ k : Nat, k ≤ n ∧ i = .int .i64 k ∧ under (a.take k) (b.take k) = true ∧ Drawn V wr) (fun i _ => n - (intOf i).toNat)
  case atStart => exact ⟨0, by omega, rfl, by simp [under], Drawn.refl _⟩
  case round =>
    obtain ⟨k, hk, rfl, hu, hB⟩ := hrel
    have HU := Lib.hid hu
    have BB := Lib.hid hB
    clear hu
    by_cases hlt : k < n
    · have kl : k < a.length := by rw [HN.out]; exact hlt
      have km : k < b.length := by rw [HM.out]; exact hlt
      obtain ⟨x, hx⟩ : ∃ x, a[k]? = some x := ⟨_, List.getElem?_eq_getElem kl⟩
      obtain ⟨y, hy⟩ : ∃ y, b[k]? = some y := ⟨_, List.getElem?_eq_getElem km⟩
      obtain ⟨b1, o1, rfl, _, c1⟩ := int_at (HX.out.drawn hB) hx
      obtain ⟨b2, o2, rfl, _, c2⟩ := int_at (HY.out.drawn hB) hy
      have KX := Lib.hid hx
      have KY := Lib.hid hy
      have j1 : (k : Int) < (n : Int) := by omega
      clear kl km hx hy hB
      by_cases hxy : x ≤ y
      · have j2 : ¬ y < x := by omega
        have U2 := Lib.hid (under_take (by rw [HN.out, HM.out]) KX.out KY.out HU.out hxy)
        clear hxy
        go_wp2_with fail
        go_quiet (fail)
        go_wp2
        go_roundw
        case rel => exact ⟨k + 1, by omega, by go_num, U2.out, BB.out.more _⟩
        case measure => simp [intOf]; omega
      · have j2 : y < x := by omega
        have U2 := Lib.hid (under_no (by rw [HN.out, HM.out]) KX.out KY.out hxy)
        clear hxy
        rw [U2.out]
        go_wp2_with fail
        go_quiet (fail)
        go_wp2
        go_ret
        exact ⟨rfl, BB.out.more _⟩
    · obtain rfl : k = n := by omega
      have E := Lib.hid (show under a b = true by have := HU.out; rwa [List.take_of_length_le (Nat.le_of_eq HN.out), List.take_of_length_le (Nat.le_of_eq HM.out)] at this)
      clear hB
      go_wp2
      rw [E.out]
      go_ret
      exact ⟨rfl, BB.out⟩
set_option maxRecDepth 100000 in
set_option maxHeartbeats 8000000 in
theorem pcompare_d (A B : Option Addr) (a b : Ve) (n ca cb : Nat) (V : World) (c : Int) (hn : a.length = n) (hm : b.length = n) (hbig : n ≤ 140737488355328) (hx : Reads V A (a.map (Value.int .i64))) (hy : Reads V B (b.map (Value.int .i64))) (hc : cmp a b = c) :
    Calls Try.prog 14 #[.slice A n ca, .slice B n cb] V (GaveD (.int .i64 c) V) := by
  have C1 := Lib.hid (punder_d A B a b n ca cb V hn hm hbig hx hy)
  have C2 := Lib.hid (fun (w : World) (hb : Drawn V w) => punder_d B A b a n cb ca w hm hn hbig (hy.drawn hb) (hx.drawn hb))
  have HC := Lib.hid hc.symm
  unfold cmp at HC
  clear hx hy hn hm hc
  cases h1 : under a b <;> cases h2 : under b a <;> rw [h1] at C1 <;> rw [h2] at C2 <;> rw [h1, h2] at HC <;> clear h1 h2
  all_goals
    simp at HC
    rw [HC.out]
    clear HC
    go_enter Try.func14, Try.ntmps14
    go_wp2_with fail
    refine C1.out.mono ?_
    rintro e w1 ⟨rfl, hb1⟩
    go_wp2_with fail
    refine (C2.out w1 hb1).mono ?_
    rintro e w2 ⟨rfl, hb2⟩
    go_wp2
    go_ret
    exact ⟨rfl, hb1.trans hb2⟩
end Go.Proofs.Ytkflngdahnpmbaa.Ve
