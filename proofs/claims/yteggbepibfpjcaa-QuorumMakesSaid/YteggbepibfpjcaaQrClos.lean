/-
  The closures that QuorumMakes hands to MSorted.
-/
import Derived.Test.YteggbepibfpjcaaQrRef3
import Derived.Test.YteggbepibfpjcaaQrSpec
import Derived.Deep.RegionHeld3
import Derived.Deep.DeepCutAuto
namespace Go.Proofs.Yteggbepibfpjcaa.Qr
set_option linter.unusedVariables false
set_option linter.unusedSimpArgs false
open Go.RowKit Mem
open Go.Lib

theorem filter_map_len {α β : Type} (f : α → β) (p : β → Bool) (l : List α) : ((l.map f).filter p).length = (l.filter (fun x => p (f x))).length := by
  induction l with
  | nil => rfl
  | cons a l ih =>
    rw [List.map_cons, List.filter_cons, List.filter_cons]
    cases p (f a) <;> simp [ih]
theorem has_pc : ∀ (f x : Nat), ((List.range f).filter (fun k => x.testBit k)).length = popAux f x
  | 0, _ => rfl
  | f + 1, x => by
    rw [List.range_succ_eq_map, List.filter_cons, popAux, ← has_pc f (x / 2)]
    have e : ((List.map Nat.succ (List.range f)).filter (fun k => x.testBit k)).length = ((List.range f).filter (fun k => (x / 2).testBit k)).length := by
      rw [filter_map_len]
      congr 1
      refine List.filter_congr (fun k _ => ?_)
      rw [Nat.succ_eq_add_one, Nat.testBit_succ]
    have h0 : x.testBit 0 = decide (x % 2 = 1) := Nat.testBit_zero x
    have h2 := Nat.mod_two_eq_zero_or_one x
    rcases h2 with h | h
    · rw [if_neg (by rw [h0]; simp [h]), e]; omega
    · rw [if_pos (by rw [h0]; simp [h]), List.length_cons, e]; omega
theorem has_16 (x : Nat) : (has x).length = popAux 16 x := has_pc 16 x
/-- What the first closure answers. -/
def isMaj (m s : Nat) : Bool := decide (s < 2 ^ m) && (popAux 16 s == m / 2 + 1)
theorem maj_rise {m : Nat} (h : m ≤ 16) : rise 65536 (isMaj m) = maj m := by
  rw [rise_more (two_pow_16 h) (fun s h1 _ => by unfold isMaj; simp; omega)]
  exact rise_congr (fun s hs => by unfold isMaj; rw [pc_fuel m 16 s hs h]; simp [hs])
theorem undrewQ {B : Nat} {W V : World} (h : Below B W.drew V) : Below B W V := ⟨h.os, h.tape, h.output, h.size, h.block⟩
set_option maxRecDepth 100000 in
set_option maxHeartbeats 8000000 in
theorem clos1_c (bx m s : Nat) (V : World) (h1 : 1 ≤ m) (h10 : m ≤ 10) (hs : s < 65536) (hb : V.cell? ⟨bx, 0, none⟩ = some (.int .i64 m)) :
    Calls Try.prog 16 #[.int .u16 s, .pointer (some ⟨bx, 0, none⟩)] V (Gave (.bool (isMaj m s)) V) := by
  obtain ⟨p, hp⟩ : ∃ p, p = 2 ^ m := ⟨_, rfl⟩
  have p4 : p ≤ 1024 := by rw [hp]; show 2 ^ m ≤ 2 ^ 10; exact Nat.pow_le_pow_right (by decide) (by omega)
  have w1 : IntKind.u16.wrap (2 ^ m) = (p : Int) := by rw [show (2 : Int) ^ m = (p : Int) by rw [hp]; simp]; exact wrap16 (by omega)
  obtain ⟨n, hn⟩ : ∃ n, (has s).length = n := ⟨_, rfl⟩
  have HA := Lib.hid (fun V => mhas_n s n V hs hn)
  obtain ⟨v, hv⟩ : ∃ v, isMaj m s = v := ⟨_, rfl⟩
  obtain ⟨q, hq⟩ : ∃ q, q = m / 2 := ⟨_, rfl⟩
  have hv2 : (decide (s < p) && (n == q + 1)) = v := by rw [← hv, ← hn, has_16, hp, hq]; rfl
  have t1 : (m : Int).tdiv 2 = (q : Int) := by rw [Int.tdiv_eq_ediv_of_nonneg (by omega), hq]; omega
  have t2 : (m : Int) / 2 = (q : Int) := by omega
  have w2 : IntKind.i64.wrap (q : Int) = (q : Int) := IntWalk.i64_in _ (by omega)
  have w3 : IntKind.i64.wrap ((q : Int) + 1) = (q : Int) + 1 := IntWalk.i64_in _ (by omega)
  rw [hv]
  have SK := Lib.hid (show ∀ w, Below V.heap.size V w → w.cell? ⟨bx, 0, none⟩ = some (.int .i64 m) from fun w h => (h.cell (World.block_lt_of_cell? _ _ hb)).trans hb)
  by_cases hlt : s < p
  · have g1 : decide ((s : Int) < (p : Int)) = true := decide_eq_true (by omega)
    have g1n : decide (s < p) = true := decide_eq_true hlt
    have i1 : (s : Int) < (p : Int) := by omega
    by_cases he : n = q + 1
    · obtain rfl : v = true := by rw [← hv2, g1n, he]; simp
      have e1 : ((n : Int) == (q : Int) + 1) = true := by simp; omega
      clear hv hv2 hn hp hq he hs
      go_enter Try.func16, Try.ntmps16
      go_wp2
      go_region_held3 (fun w' => w'.cell? ⟨bx, 0, none⟩ = some (.int .i64 m)) (first | exact SK.out _ (below_drew (Below.refl _ _)) | exact SK.out _ K2.out | go_keep)
        ((go_at_call 17; refine (HA.out V.drew).mono ?_; rintro e w2 ⟨A2, c2, rfl, hr, hb2⟩; have K2 := Lib.hid (show Below V.heap.size V w2 from undrewQ hb2); clear hr hb2))
      go_wp2
      go_ret
      exact ⟨rfl, K2.out⟩
    · obtain rfl : v = false := by rw [← hv2, g1n]; simpa using he
      have e1 : ((n : Int) == (q : Int) + 1) = false := by simp; omega
      clear hv hv2 hn hp hq he hs
      go_enter Try.func16, Try.ntmps16
      go_wp2
      go_region_held3 (fun w' => w'.cell? ⟨bx, 0, none⟩ = some (.int .i64 m)) (first | exact SK.out _ (below_drew (Below.refl _ _)) | exact SK.out _ K2.out | go_keep)
        ((go_at_call 17; refine (HA.out V.drew).mono ?_; rintro e w2 ⟨A2, c2, rfl, hr, hb2⟩; have K2 := Lib.hid (show Below V.heap.size V w2 from undrewQ hb2); clear hr hb2))
      go_wp2
      go_ret
      exact ⟨rfl, K2.out⟩
  · have g1 : decide ((s : Int) < (p : Int)) = false := decide_eq_false (by omega)
    have g1n : decide (s < p) = false := decide_eq_false hlt
    obtain rfl : v = false := by rw [← hv2, g1n]; rfl
    clear hv hv2 hn hp hq hs HA hlt
    go_enter Try.func16, Try.ntmps16
    go_wp2
    go_quiet (fail)
    go_wp2
    go_ret
    exact ⟨rfl, below_drewN (Below.refl _ _) _⟩
set_option maxRecDepth 100000 in
theorem clos2_c (bx b : Nat) (f : Nat → Bool) (N s : Nat) (V : World) (hs : s < 65536) (h1 : V.cell? ⟨bx, 0, none⟩ = some (.map (some b))) (h2 : BMap V b f N) :
    Calls Try.prog 18 #[.int .u16 s, .pointer (some ⟨bx, 0, none⟩)] V (Gave (.bool (f s)) V) := by
  have HB := Lib.hid h2
  obtain ⟨r, hr⟩ : ∃ r, f s = r := ⟨_, rfl⟩
  rw [hr]
  have HR := Lib.hid hr
  clear h2 hr
  go_enter Try.func18, Try.ntmps18
  go_wp2_with (refine wpList_lookup_b rfl _ _ (by rfl) HB.out s hs rfl rfl r HR.out ?_)
  go_ret
  exact ⟨rfl, Below.refl _ _⟩
end Go.Proofs.Yteggbepibfpjcaa.Qr
