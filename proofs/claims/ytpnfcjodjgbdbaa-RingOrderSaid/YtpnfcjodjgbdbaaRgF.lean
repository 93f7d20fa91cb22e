/-
  Contracts of package ring: Without, and what is wrong with the arguments of Make.
-/
import Derived.Test.YtpnfcjodjgbdbaaRgE
namespace Go.Proofs.Ytpnfcjodjgbdbaa.Ring
set_option linter.unusedVariables false
set_option linter.unusedSimpArgs false
open Go.RowKit Mem

theorem without_bad (A : Option Addr) (ts : List Tk) (n ca : Nat) (id : Int) (W : World) (hn : ts.length = n) (hbig : n ≤ maxLen) (hx : TRds W A ts) (h : ¬ Right ts) :
    Calls Try.prog 11 #[.slice A n ca, .int .i64 id] W (Gave (.tuple #[.slice none 0 0, .int .i64 1]) W) := by
  have H := Lib.hid (right_no A ts n ca W hn hbig hx h)
  clear hn hx h
  go_enter Try.func11, Try.ntmps11
  go_wp2_with (go_at_call 13; refine H.out.mono ?_; rintro e w' ⟨rfl, hb⟩; have HB := Lib.hid hb; clear hb)
  go_ret2
  exact ⟨rfl, HB.out⟩
/-- Tokens and no error. -/
def TksOut (l : List Tk) (W : World) (e : Ending) (W' : World) : Prop :=
  ∃ A c, e = .returned (.tuple #[.slice A l.length c, .int .i64 0]) ∧ TTab W' W.heap.size (.slice A l.length c) l ∧ Below W.heap.size W W'
def rest (id : Int) (ts : List Tk) : List Tk := ts.filter (fun t => t.2 != id)
def RestAt (W : World) (id : Int) (ts : List Tk) (k m : Nat) (A : Option Addr) (c : Nat) (wr : World) : Prop :=
  (rest id (ts.take k)).length = m ∧ TTab wr W.heap.size (.slice A m c) (rest id (ts.take k)) ∧ Below W.heap.size W wr
theorem rest_yes {id : Int} {ts : List Tk} {k : Nat} {t : Tk} (h : ts[k]? = some t) (hi : t.2 ≠ id) : rest id (ts.take (k + 1)) = rest id (ts.take k) ++ [t] := by
  unfold rest
  rw [List.take_add_one, h, List.filter_append]
  simp [hi]
theorem rest_no {id : Int} {ts : List Tk} {k : Nat} {t : Tk} (h : ts[k]? = some t) (hi : t.2 = id) : rest id (ts.take (k + 1)) = rest id (ts.take k) := by
  unfold rest
  rw [List.take_add_one, h, List.filter_append]
  simp [hi]
theorem boxT (w : World) (a b : Value) : (w.alloc (.cells #[a, b] 31)).cell? ⟨w.heap.size, 0, none⟩ = some a ∧ (w.alloc (.cells #[a, b] 31)).cell? ⟨w.heap.size, 1, none⟩ = some b :=
  ⟨(Known.made w _ #[a, b]).cell 0, (Known.made w _ #[a, b]).cell 1⟩
set_option maxRecDepth 100000 in
set_option maxHeartbeats 4000000 in
theorem without_ok (A : Option Addr) (ts : List Tk) (n ca : Nat) (id : Int) (W : World) (hn : ts.length = n) (hx : TRds W A ts) (h : Right ts) :
    Calls Try.prog 11 #[.slice A n ca, .int .i64 id] W (TksOut (rest id ts) W) := by
  have H := Lib.hid (right_yes A ts n ca W hn hx h)
  have h4 : n ≤ 400 := by rw [← hn]; exact h.1
  have HX := Lib.hid hx
  have HN := Lib.hid hn
  clear hn hx h
  go_enter Try.func11, Try.ntmps11
  go_wp2_with (go_at_call 13; refine H.out.mono ?_; rintro e w1 ⟨rfl, hb⟩; have HC := Lib.hid hb; clear hb)
  clear H
  go_loopw [6, 14] (fun s6 i wr => ∃ (k m : Nat) (A2 : Option Addr) (c2 : Nat), k ≤ n ∧ m ≤ k ∧ i = .int .i64 k ∧ s6 = .slice A2 m c2 ∧ RestAt W id ts k m A2 c2 wr) (fun _ i _ => n - (intOf i).toNat)
  case atStart => exact ⟨0, 0, none, 0, by omega, by omega, rfl, rfl, rfl, TTab.nil _ _, HC.out⟩
  case round =>
    obtain ⟨k, m, A2, c2, hk, hmk, rfl, rfl, hm, hT, hB⟩ := hrel
    have HM := Lib.hid hm
    have HT := Lib.hid hT
    have HB := Lib.hid hB
    by_cases hlt : k < n
    · have k1 : k < ts.length := by rw [HN.out]; exact hlt
      obtain ⟨b, o, rfl, _, x0, x1⟩ := (HX.out.below hB).tk k1
      have EX := Lib.hid (show ts[k]? = some ts[k] from List.getElem?_eq_getElem k1)
      generalize hu : ts[k] = u at *
      obtain ⟨u0, u1⟩ := u
      have i1 : (k : Int) < (n : Int) := by omega
      obtain ⟨d0, d1⟩ := boxT wr (.int .u64 u0.toNat) (.int .i64 u1)
      have HA := Lib.hid (show TTab (wr.alloc (.cells #[.int .u64 u0.toNat, .int .i64 u1] 31)) W.heap.size (.slice A2 m c2) (rest id (ts.take k)) from hT.alloc _)
      have HBA := Lib.hid (show Below W.heap.size W (wr.alloc (.cells #[.int .u64 u0.toNat, .int .i64 u1] 31)) from hB.alloc hB.size _)
      clear hu hm hT hB k1
      by_cases e : u1 = id
      · have RN := Lib.hid (rest_no EX.out e)
        have n1 : (u1 != id) = false := by simp [e]
        have n2 : (u1 == id) = true := by simp [e]
        clear e
        go_wp2
        go_roundw
        case rel => exact ⟨k + 1, m, A2, c2, by omega, by omega, by go_num, rfl, by rw [RN.out]; exact HM.out, by rw [RN.out]; exact HA.out, HBA.out⟩
        case measure => simp [intOf]; omega
      · have RN := Lib.hid (rest_yes EX.out e)
        have n1 : (u1 != id) = true := by simp [e]
        have n2 : (u1 == id) = false := by simp [e]
        clear e
        go_wp2_with (refine wpList_append_tk rfl _ _ (by rfl) (u0, u1) rfl rfl rfl rfl (by simp) HA.out HM.out (by omega) (by simp; exact Nat.le_succ_of_le HB.out.size) HBA.out (Nat.le_refl _) ?_; intro A3 c3 w3 Z3 G3 B3)
        go_roundw
        case rel => exact ⟨k + 1, m + 1, A3, c3, by omega, by omega, by go_num, rfl, by rw [RN.out, List.length_append, HM.out]; rfl, by rw [RN.out]; exact Z3.out, B3.out⟩
        case measure => simp [intOf]; omega
    · obtain rfl : k = n := by omega
      have E := Lib.hid (show rest id (ts.take k) = rest id ts by rw [List.take_of_length_le (by rw [HN.out]; omega)])
      clear hm hT hB
      go_wp2
      go_ret2
      have h1 := HM.out
      have h2 := HT.out
      rw [E.out] at h1 h2
      exact ⟨A2, c2, by rw [h1]; rfl, by rw [h1]; exact h2, HB.out⟩

/-! ### wrongNodes -/
theorem size_no {n : Nat} {each : Int} (h : ¬ BadSize n each) : n ≤ 16 ∧ 1 ≤ each ∧ each ≤ 20 := by unfold BadSize at h; omega
theorem reads_take {W : World} {A : Option Addr} {l : List Int} (h : Reads W A (l.map (Value.int .i64))) (k : Nat) : Reads W A ((l.take k).map (Value.int .i64)) := by
  rw [List.map_take]; exact h.take k
theorem reads_z {W : World} {A : Option Addr} {l : List Int} (h : Reads W A (l.map (Value.int .i64))) {k : Nat} (hk : k < l.length) : ∃ b o, A = some ⟨b, o, none⟩ ∧ b < W.heap.size ∧ W.cell? ⟨b, o + k, none⟩ = some (.int .i64 l[k]) :=
  h k (.int .i64 l[k]) (by rw [List.getElem?_map, List.getElem?_eq_getElem hk]; rfl)
theorem scan_range {ids : List Int} {k : Nat} {x : Int} (hx : ids[k]? = some x) (h : x < 0 ∨ 1099511627776 < x) : scan (ids.take k) (ids.drop k) = 2 := by rw [scan_step hx, if_pos h]
theorem scan_held {ids : List Int} {k : Nat} {x : Int} (hx : ids[k]? = some x) (h : ¬ (x < 0 ∨ 1099511627776 < x)) (h2 : x ∈ ids.take k) : scan (ids.take k) (ids.drop k) = 6 := by rw [scan_step hx, if_neg h, if_pos h2]
theorem scan_next {ids : List Int} {k : Nat} {x : Int} (hx : ids[k]? = some x) (h : ¬ (x < 0 ∨ 1099511627776 < x)) (h2 : x ∉ ids.take k) : scan (ids.take k) (ids.drop k) = scan (ids.take (k + 1)) (ids.drop (k + 1)) := by rw [scan_step hx, if_neg h, if_neg h2]
theorem wrong_size (A : Option Addr) (n ca : Nat) (each : Int) (W : World) (hbig : n ≤ maxLen) (h : BadSize n each) :
    Calls Try.prog 27 #[.slice A n ca, .int .i64 each] W fun e w' => e = .returned (.int .i64 2) ∧ W = w' := by
  unfold BadSize at h
  unfold maxLen at hbig
  by_cases h1 : 16 < n
  · have i1 : (16 : Int) < (n : Int) := by omega
    clear h
    go_enter Try.func27, Try.ntmps27
    go_wp2
    go_ret
    exact ⟨rfl, rfl⟩
  by_cases h2 : each < 1
  · have i1 : decide ((16 : Int) < (n : Int)) = false := by rw [decide_eq_false_iff_not]; omega
    clear h
    go_enter Try.func27, Try.ntmps27
    go_wp2
    go_ret
    exact ⟨rfl, rfl⟩
  · have h3 : 20 < each := by omega
    have i1 : decide ((16 : Int) < (n : Int)) = false := by rw [decide_eq_false_iff_not]; omega
    have i2 : decide (each < 1) = false := by rw [decide_eq_false_iff_not]; omega
    clear h
    go_enter Try.func27, Try.ntmps27
    go_wp2
    go_ret
    exact ⟨rfl, rfl⟩
set_option maxRecDepth 100000 in
set_option maxHeartbeats 4000000 in
theorem wrong_scan (A : Option Addr) (ids : List Int) (n ca : Nat) (each : Int) (W : World) (hn : ids.length = n) (hca : n ≤ ca) (hx : Reads W A (ids.map (Value.int .i64))) (h : ¬ BadSize n each) :
    Calls Try.prog 27 #[.slice A n ca, .int .i64 each] W fun e w' => e = .returned (.int .i64 (scan [] ids)) ∧ W = w' := by
  obtain ⟨h1, h2, h3⟩ := size_no h
  have i1 : decide ((16 : Int) < (n : Int)) = false := by rw [decide_eq_false_iff_not]; omega
  have i2 : decide (each < 1) = false := by rw [decide_eq_false_iff_not]; omega
  have i3 : decide (20 < each) = false := by rw [decide_eq_false_iff_not]; omega
  have HX := Lib.hid hx
  have HN := Lib.hid hn
  clear hx hn h
  go_enter Try.func27, Try.ntmps27
  go_wp2
  clear i1 i2 i3
  go_loop [20] (fun i => ∃ k : Nat, k ≤ n ∧ i = .int .i64 k ∧ scan [] ids = scan (ids.take k) (ids.drop k)) (fun i => n - (intOf i).toNat)
  case atStart => exact ⟨0, by omega, rfl, rfl⟩
  case round =>
    obtain ⟨k, hk, rfl, hs⟩ := hrel
    have HS := Lib.hid hs
    clear hs
    by_cases hlt : k < n
    · have k1 : k < ids.length := by rw [HN.out]; exact hlt
      obtain ⟨b, o, rfl, _, x0⟩ := reads_z HX.out k1
      have EX := Lib.hid (show ids[k]? = some ids[k] from List.getElem?_eq_getElem k1)
      generalize hu : ids[k] = u at *
      have i1 : (k : Int) < (n : Int) := by omega
      clear hu k1
      by_cases hr : u < 0 ∨ 1099511627776 < u
      · have E := Lib.hid (scan_range EX.out hr)
        by_cases h0 : u < 0
        · clear hr
          go_wp2
          go_ret
          exact ⟨by rw [HS.out, E.out]; rfl, rfl⟩
        · have h4 : 1099511627776 < u := by omega
          clear hr
          go_wp2
          go_ret
          exact ⟨by rw [HS.out, E.out]; rfl, rfl⟩
      · have j1 : ¬ u < 0 := by omega
        have j2 : ¬ 1099511627776 < u := by omega
        by_cases hin : u ∈ ids.take k
        · have E := Lib.hid (scan_held EX.out hr hin)
          have HC := Lib.hid (contains_c (some ⟨b, o, none⟩) (ids.take k) k ca u W (by rw [List.length_take, HN.out]; omega) (by omega) (reads_take HX.out k) true (decide_eq_true hin))
          clear hr hin
          go_wp2_with (go_at_call 35; refine HC.out.mono ?_; rintro e w' ⟨rfl, rfl⟩)
          go_ret
          exact ⟨by rw [HS.out, E.out]; rfl, rfl⟩
        · have E := Lib.hid (scan_next EX.out hr hin)
          have HC := Lib.hid (contains_c (some ⟨b, o, none⟩) (ids.take k) k ca u W (by rw [List.length_take, HN.out]; omega) (by omega) (reads_take HX.out k) false (decide_eq_false hin))
          clear hr hin
          go_wp2_with (go_at_call 35; refine HC.out.mono ?_; rintro e w' ⟨rfl, rfl⟩)
          go_round
          case rel => exact ⟨k + 1, by omega, by go_num, by rw [HS.out, E.out]⟩
          case measure => simp [intOf]; omega
    · obtain rfl : k = n := by omega
      have E := Lib.hid (show scan (ids.take k) (ids.drop k) = 0 by rw [List.drop_of_length_le (by rw [HN.out]; omega)]; rfl)
      go_wp2
      go_ret
      exact ⟨by rw [HS.out, E.out]; rfl, rfl⟩
theorem wrong_c (A : Option Addr) (ids : List Int) (n ca : Nat) (each : Int) (W : World) (hn : ids.length = n) (hca : n ≤ ca) (hbig : n ≤ maxLen) (hx : Reads W A (ids.map (Value.int .i64))) :
    Calls Try.prog 27 #[.slice A n ca, .int .i64 each] W fun e w' => e = .returned (.int .i64 (makeE ids each)) ∧ W = w' := by
  by_cases h : BadSize n each
  · have := wrong_size A n ca each W hbig h
    rwa [show makeE ids each = 2 by unfold makeE; rw [hn, if_pos h]]
  · have := wrong_scan A ids n ca each W hn hca hx h
    rwa [show makeE ids each = scan [] ids by unfold makeE; rw [hn, if_neg h]]
end Go.Proofs.Ytpnfcjodjgbdbaa.Ring
