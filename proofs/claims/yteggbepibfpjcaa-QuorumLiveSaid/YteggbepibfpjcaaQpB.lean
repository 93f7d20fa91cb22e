/-
  Package quorum, the program: between, Majorities, minimal, Least.
-/
import Derived.Test.YteggbepibfpjcaaQpA
import Derived.Test.YteggbepibfpjcaaQsJ
import Derived.Test.YteggbepibfpjcaaShQr
namespace Go.Proofs.Yteggbepibfpjcaa.Qr
set_option linter.unusedVariables false
set_option linter.unusedSimpArgs false
open Go.RowKit Mem
open Go.Lib

theorem between_c (n m : Int) (W : World) (r : Bool) (hr : (decide (1 ≤ n) && decide (n ≤ m)) = r) : Calls Try.prog 26 #[.int .i64 n, .int .i64 m] W (fun e W' => e = .returned (.bool r) ∧ W' = W) := by
  by_cases h1 : 1 ≤ n
  · have q1 : decide (1 ≤ n) = true := decide_eq_true h1
    by_cases h2 : n ≤ m
    · have q2 : decide (n ≤ m) = true := decide_eq_true h2
      obtain rfl : r = true := by rw [← hr, q1, q2]; rfl
      clear hr
      go_enter Try.func26, Try.ntmps26
      go_wp2
      go_ret
      exact ⟨by simp [q1, q2], rfl⟩
    · have q2 : decide (n ≤ m) = false := decide_eq_false h2
      obtain rfl : r = false := by rw [← hr, q1, q2]; rfl
      clear hr
      go_enter Try.func26, Try.ntmps26
      go_wp2
      go_ret
      exact ⟨by simp [q1, q2], rfl⟩
  · have q1 : decide (1 ≤ n) = false := decide_eq_false h1
    obtain rfl : r = false := by rw [← hr, q1]; rfl
    clear hr
    go_enter Try.func26, Try.ntmps26
    go_wp2
    go_ret
    exact ⟨by simp [q1], rfl⟩

/-! ### Majorities -/
def isMaj' (m s : Nat) : Bool := popAux 16 s == m / 2 + 1
theorem maj_rise' {m : Nat} (h : m ≤ 16) : rise (2 ^ m) (isMaj' m) = maj m :=
  rise_congr (fun s hs => by unfold isMaj'; rw [pc_fuel m 16 s hs h])
theorem undrewM {B : Nat} {W V : World} (h : Below B W.drew V) : Below B W V := ⟨h.os, h.tape, h.output, h.size, h.block⟩
set_option maxRecDepth 100000 in
set_option maxHeartbeats 4000000 in
theorem isMaj_c (bx m s : Nat) (V : World) (h10 : m ≤ 10) (hs : s < 65536) (hb : V.cell? ⟨bx, 0, none⟩ = some (.int .i64 m)) :
    Calls Try.prog 27 #[.int .u16 s, .pointer (some ⟨bx, 0, none⟩)] V (Gave (.bool (isMaj' m s)) V) := by
  obtain ⟨c, hc⟩ : ∃ c, c = popAux 16 s := ⟨_, rfl⟩
  have OC := Lib.hid (fun V => show Calls Try.prog 25 #[.int .u16 s] V (Gave (.int .i64 (c : Nat)) V) by rw [hc]; exact ones16_c s V hs)
  obtain ⟨v, hv⟩ : ∃ v, isMaj' m s = v := ⟨_, rfl⟩
  obtain ⟨q, hq⟩ : ∃ q, q = m / 2 := ⟨_, rfl⟩
  have hv2 : (c == q + 1) = v := by rw [← hv, hc, hq]; rfl
  have t1 : (m : Int).tdiv 2 = (q : Int) := by rw [Int.tdiv_eq_ediv_of_nonneg (by omega), hq]; omega
  have t2 : (m : Int) / 2 = (q : Int) := by omega
  have w2 : IntKind.i64.wrap (q : Int) = (q : Int) := IntWalk.i64_in _ (by omega)
  have w3 : IntKind.i64.wrap ((q : Int) + 1) = (q : Int) + 1 := IntWalk.i64_in _ (by omega)
  have e1 : ((c : Int) == (q : Int) + 1) = v := by rw [← hv2, Bool.eq_iff_iff]; simp; omega
  rw [hv]
  have SK := Lib.hid (show ∀ w, Below V.heap.size V w → w.cell? ⟨bx, 0, none⟩ = some (.int .i64 m) from fun w h => (h.cell (World.block_lt_of_cell? _ _ hb)).trans hb)
  clear hc hv hv2 hq hs
  go_enter Try.func27, Try.ntmps27
  go_wp2
  go_region_held3 (fun w' => w'.cell? ⟨bx, 0, none⟩ = some (.int .i64 m)) (first | exact SK.out _ (below_drew (Below.refl _ _)) | exact SK.out _ K2.out | go_keep)
    ((go_at_call 25; refine (OC.out V.drew).mono ?_; rintro e w2 ⟨rfl, hb2⟩; have K2 := Lib.hid (show Below V.heap.size V w2 from undrewM hb2); clear hb2))
  go_wp2
  go_ret
  exact ⟨by simp [e1], K2.out⟩
set_option maxRecDepth 100000 in
theorem majSpec : MajSpec := by
  intro m W l n k hk hl hn
  have mk := fun fn first cap w => (show (Instr.makeFunc fn first cap).run Try.prog w = .ok (.func fn first cap) w from rfl)
  rcases majE_vals m with ⟨h0, h1, h10⟩ | h2
  · obtain rfl : k = 0 := by rw [← hk, h0]
    obtain ⟨j, rfl⟩ : ∃ j : Nat, m = j := ⟨m.toNat, by omega⟩
    have hl2 : rise (2 ^ j) (isMaj' j) = l := by rw [maj_rise' (by omega), ← hl, majL, if_pos h0]; rfl
    have BC := Lib.hid (fun V => between_c (j : Int) 10 V true (by simp; omega))
    have CC := Lib.hid (chosen_j W.heap.size j (isMaj' j) l n (W.alloc (.cells #[.int .i64 (j : Int)] 3)) (by omega) hl2 hn (fun V s hs hb => isMaj_c W.heap.size j s V (by omega) hs (box_at hb)))
    clear hk h0 h1 h10 hl hn hl2
    go_enter Try.func10, Try.ntmps10
    go_wp2_with (first | (go_at_call 26; refine (BC.out _).mono ?_; rintro e w1 ⟨rfl, rfl⟩) | (go_at_call 28; refine CC.out.mono ?_; rintro e w2 ⟨A, c, rfl, _, hr, hb⟩; have R2 := Lib.hid hr; have B2 := Lib.hid (below_box' hb); clear hr hb))
    go_ret2
    exact ⟨A, c, rfl, R2.out, B2.out⟩
  · obtain rfl : k = 2 := by rw [← hk, h2]
    obtain rfl : l = [] := by rw [← hl, majL, if_neg (by rw [h2]; decide)]
    obtain rfl : n = 0 := hn.symm
    have BC := Lib.hid (fun V => between_c m 10 V false (by
      unfold majE at h2
      split at h2
      · rename_i h
        rw [Bool.eq_false_iff, ne_eq, Bool.and_eq_true, decide_eq_true_eq, decide_eq_true_eq]; omega
      · cases h2))
    clear hk h2 hl hn
    go_enter Try.func10, Try.ntmps10
    go_wp2_with (go_at_call 26; refine (BC.out _).mono ?_; rintro e w1 ⟨rfl, rfl⟩)
    go_ret2
    exact ⟨none, 0, rfl, Reads.nil, (Below.refl _ _).alloc (Nat.le_refl _) _⟩

/-! ### minimal -/
theorem hit_any (l : List Nat) (x : Nat) : hit l x = l.any (fun o => decide (o &&& x = o)) := rfl
set_option maxRecDepth 100000 in
theorem within_c (bx s x : Nat) (V : World) (hs : s < 65536) (hx : x < 65536) (hb : V.cell? ⟨bx, 0, none⟩ = some (.int .u16 x)) :
    Calls Try.prog 46 #[.int .u16 s, .pointer (some ⟨bx, 0, none⟩)] V (Gave (.bool (decide (s &&& x = s))) V) := by
  obtain ⟨y, hy⟩ : ∃ y, y = s &&& (65535 - x) := ⟨_, rfl⟩
  have a1 : bits .andNot .u16 (s : Int) (x : Int) = (y : Int) := by rw [hy]; exact u16_andNot_nat s x hs hx
  obtain ⟨r, hr⟩ : ∃ r, decide (s &&& x = s) = r := ⟨_, rfl⟩
  have e1 : ((y : Int) == 0) = r := by
    rw [← hr, hy, Bool.eq_iff_iff, decide_eq_true_iff, ← andnot_zero hs hx]; simp
  rw [hr]
  clear hy hr hs hx
  go_enter Try.func46, Try.ntmps46
  go_wp2
  go_ret
  exact ⟨by simp [e1], Below.refl _ _⟩
theorem take_snoc {l : List Nat} {k x : Nat} (h : l[k]? = some x) : l.take (k + 1) = l.take k ++ [x] := by rw [List.take_add_one, h]; rfl
theorem below_take {l : List Nat} {k x : Nat} (hs : l.Pairwise (· ≤ ·)) (h : l[k]? = some x) : ∀ y ∈ l.take k, y ≤ x := fun y hy => by
  obtain ⟨i, hi, e⟩ := List.mem_iff_getElem.1 hy
  have hk : k < l.length := (List.getElem?_eq_some_iff.1 h).1
  have hik : i < k := by rw [List.length_take] at hi; omega
  rw [List.getElem_take] at e
  have hx : l[k] = x := (List.getElem?_eq_some_iff.1 h).2
  rw [← e, ← hx]
  exact List.pairwise_iff_getElem.1 hs i k (by omega) hk hik
theorem least_fits (l : List Nat) : Fits (least l) := rise_lt _ _ (Nat.le_refl _)
set_option maxRecDepth 100000 in
set_option maxHeartbeats 8000000 in
theorem minimal_c (A : Option Addr) (l : List Nat) (n ca : Nat) (W : World) (hn : l.length = n) (hbig : n ≤ 1000000) (hx : Reads W A (l.map w16)) (hf : Fits l) (hs : l.Pairwise (· ≤ ·)) (l0 : List Nat) (n0 : Nat) (hl0 : least l = l0) (hn0 : l0.length = n0) :
    Calls Try.prog 37 #[.slice A n ca] W (fun e W' => ∃ A c, e = .returned (.slice A n0 c) ∧ Reads W' A (l0.map w16) ∧ Below W.heap.size W W') := by
  have HX := Lib.hid hx
  have HN := Lib.hid hn
  have HF := Lib.hid hf
  have HS := Lib.hid hs
  have HL := Lib.hid hl0
  have HM := Lib.hid hn0
  have mk := fun fn first cap w => (show (Instr.makeFunc fn first cap).run Try.prog w = .ok (.func fn first cap) w from rfl)
  clear hx hn hf hs hl0 hn0
  go_enter Try.func37, Try.ntmps37
  go_wp2
  go_loopw [3, 9] (fun v i wr => ∃ (k m : Nat) (A : Option Addr) (c : Nat), k ≤ n ∧ m ≤ k ∧ i = .int .i64 k ∧ v = .slice A m c ∧ (least (l.take k)).length = m ∧ UTab wr W.heap.size (.slice A m c) (least (l.take k)) ∧ Below W.heap.size W wr) (fun _ i _ => n - (intOf i).toNat)
  case atStart => exact ⟨0, 0, none, 0, by omega, by omega, rfl, rfl, by rw [List.take_zero, least_nil]; rfl, by rw [List.take_zero, least_nil]; exact UTab.nil _ _, Below.refl _ _⟩
  case round =>
    obtain ⟨k, m, A2, c2, hk, hmk, rfl, rfl, hl, hT, hB⟩ := hrel
    have DL := Lib.hid hl
    have ZT := Lib.hid hT
    have BB := Lib.hid hB
    clear hl hT
    by_cases hlt : k < n
    · have kl : k < l.length := by rw [HN.out]; exact hlt
      obtain ⟨x, hx⟩ : ∃ x, l[k]? = some x := ⟨_, List.getElem?_eq_getElem kl⟩
      have xf := HF.out x (List.mem_of_getElem? hx)
      obtain ⟨b1, o1, rfl, hb1, y1⟩ := Reads.at16 (HX.out.below hB) hx
      have FT : ∀ y ∈ l.take k, y < 65536 := fun y hy => HF.out y (List.mem_of_mem_take hy)
      have BT := below_take HS.out hx
      have i1 : (k : Int) < (n : Int) := by omega
      have KL := Lib.hid hlt
      have MK := Lib.hid hmk
      have B1 : Below wr.heap.size wr (wr.alloc (.cells #[.int .u16 (x : Int)] 23)) := (Below.refl _ _).alloc (Nat.le_refl _) _
      have BW := Lib.hid (show Below W.heap.size W (wr.alloc (.cells #[.int .u16 (x : Int)] 23)) from hB.alloc hB.size _)
      have T1 := Lib.hid (ZT.out.later (B1.mono (Nat.le_refl _)))
      cases hh : hit (least (l.take k)) x with
      | true =>
        have EQ := Lib.hid (show least (l.take (k + 1)) = least (l.take k) by rw [take_snoc hx]; exact least_hit BT FT xf hh)
        have CC := Lib.hid (contains_w wr.heap.size (fun o => decide (o &&& x = o)) A2 (least (l.take k)) m c2 (wr.alloc (.cells #[.int .u16 (x : Int)] 23)) DL.out (by omega) T1.out.reads (least_fits _) true hh (fun V s hs hb => within_c wr.heap.size s x V hs xf (box_at hb)))
        clear hh kl hx hB hb1 FT BT B1
        go_wp2_with fail
        refine CC.out.mono ?_
        rintro e w2 ⟨rfl, hb⟩
        have B2 := Lib.hid (BW.out.trans (hb.mono BW.out.size))
        have Z2 := Lib.hid (T1.out.later hb)
        clear hb
        go_wp2
        go_roundw
        case rel => exact ⟨k + 1, m, A2, c2, by have := KL.out; omega, by have := MK.out; omega, by go_num, rfl, by rw [EQ.out]; exact DL.out, by rw [EQ.out]; exact Z2.out, B2.out⟩
        case measure => have := KL.out; simp [intOf] <;> omega
      | false =>
        have EQ := Lib.hid (show least (l.take (k + 1)) = least (l.take k) ++ [x] by rw [take_snoc hx]; exact least_miss BT FT xf hh)
        have CC := Lib.hid (contains_w wr.heap.size (fun o => decide (o &&& x = o)) A2 (least (l.take k)) m c2 (wr.alloc (.cells #[.int .u16 (x : Int)] 23)) DL.out (by omega) T1.out.reads (least_fits _) false hh (fun V s hs hb => within_c wr.heap.size s x V hs xf (box_at hb)))
        clear hh kl hx hB hb1 FT BT B1
        go_wp2_with fail
        refine CC.out.mono ?_
        rintro e w2 ⟨rfl, hb⟩
        have xb := box_at hb
        have B2 := Lib.hid (BW.out.trans (hb.mono BW.out.size))
        have Z2 := Lib.hid (T1.out.later hb)
        have MB := Lib.hid (show (m + 1) * 2 ≤ 140737488355328 by omega)
        clear hb
        go_wp2_with (refine wpList_append_u rfl _ _ (by rfl) (y := (x : Int)) x rfl (B := W.heap.size) (v := .slice A2 m c2) (l := least (l.take k)) (n := m) rfl rfl Z2.out DL.out MB.out B2.out.size B2.out (Nat.le_refl _) ?_; intro A3 c3 w3 Z3 G3 B3)
        go_roundw
        case rel => exact ⟨k + 1, m + 1, A3, c3, by have := KL.out; omega, by have := MK.out; omega, by go_num, rfl, by rw [EQ.out, List.length_append, DL.out]; rfl, by rw [EQ.out]; exact Z3.out, B3.out⟩
        case measure => have := KL.out; simp [intOf] <;> omega
    · obtain rfl : k = n := by omega
      have EL := Lib.hid (show least (l.take k) = l0 by rw [List.take_of_length_le (by rw [HN.out]; exact Nat.le_refl _)]; exact HL.out)
      obtain rfl : m = n0 := by rw [← HM.out, ← EL.out]; exact DL.out.symm
      clear hB
      go_wp2
      go_ret
      exact ⟨A2, c2, rfl, EL.out ▸ ZT.out.reads, BB.out⟩
end Go.Proofs.Yteggbepibfpjcaa.Qr
