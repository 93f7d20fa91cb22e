/-
  The contract of (*Int).Uint64: the lowest 64 bits.
-/
import Derived.Test.YtahhgeecikljdaaBigSet
namespace Go.Proofs.Ytahhgeecikljdaa.Big
set_option linter.unusedVariables false
open Go.RowKit

/-- The digits of a number from place k on, of its two lowest. -/
def low (ds : List UInt32) (k : Nat) : Nat := val ((ds.take 2).drop k)

theorem Num.facts {w : World} {p n : Nat} (h : Num w p n) : ∃ (A : Option Addr) (cap : Nat), w.cell? ⟨p, 0, none⟩ = some (.bool false) ∧ w.cell? ⟨p, 1, none⟩ = some (.slice A (digs n).length cap) ∧ (digs n).length ≤ cap ∧ Dig w A (digs n) := by
  obtain ⟨A, cap, h1, h2, h3⟩ := h
  exact ⟨A, cap, Blk.cell h1 0, Blk.cell h1 1, h3, h2⟩
theorem Dig.at_ {w : World} {A : Option Addr} {ds : List UInt32} (h : Dig w A ds) {k : Nat} (hk : k < ds.length) :
    ∃ g cs u, A = some ⟨g, 0, none⟩ ∧ Blk w g 71 cs ∧ ds[k]? = some u ∧ w.cell? ⟨g, k, none⟩ = some (.int .u32 u.toNat) := by
  rcases h with h0 | ⟨g, cs, h1, h2, h3⟩
  · subst h0; simp at hk
  · have hu : ds[k]? = some ds[k] := List.getElem?_eq_getElem hk
    exact ⟨g, cs, _, h1, h2, hu, by rw [Blk.cell h2, h3 _ _ hu]⟩


def join (a b : UInt32) : Nat := a.toNat + 4294967296 * b.toNat
theorem join_lt (a b : UInt32) : join a b < 18446744073709551616 := by
  unfold join; have := a.toNat_lt; have := b.toNat_lt; omega
theorem or_join (a b : UInt32) : bits .or .u64 ((b.toNat : Int) * 4294967296) (a.toNat : Int) = ((join a b : Nat) : Int) := by
  have ha := a.toNat_lt
  have hb := b.toNat_lt
  rw [show ((b.toNat : Int) * 4294967296) = ((b.toNat * 4294967296 : Nat) : Int) by omega, u64_or_nat _ _ (by omega) (by omega)]
  congr 1
  unfold join
  rw [show b.toNat * 4294967296 = 2 ^ 32 * b.toNat by omega, ← Nat.two_pow_add_eq_or_of_lt (by omega)]
  omega
theorem or_zero (a : UInt32) : bits .or .u64 0 (a.toNat : Int) = (a.toNat : Int) := by
  have ha := a.toNat_lt
  rw [show (0 : Int) = ((0 : Nat) : Int) from rfl, u64_or_nat _ _ (by omega) (by omega), Nat.zero_or]

attribute [local go_sem] or_zero or_join

set_option maxHeartbeats 1000000 in
theorem word0 (p cap : Nat) (A : Option Addr) (W : World) (c1 : W.cell? ⟨p, 1, none⟩ = some (.slice A 0 cap)) :
    Calls Try.prog 36 #[.pointer (some ⟨p, 0, none⟩)] W fun e w' => e = .returned (.int .u64 0) ∧ W = w' := by
  go_enter Try.func36, Try.ntmps36
  go_wp2
  go_loop [3, 4] (fun x i => i = .int .i64 (-1) ∧ x = .int .u64 0) (fun _ i => (intOf i + 1).toNat)
  case atStart => exact ⟨rfl, rfl⟩
  case round =>
    obtain ⟨rfl, rfl⟩ := hrel
    go_wp2
    go_ret
    exact ⟨rfl, rfl⟩

set_option maxHeartbeats 1000000 in
theorem word1 (p cap g : Nat) (a : UInt32) (W : World) (c1 : W.cell? ⟨p, 1, none⟩ = some (.slice (some ⟨g, 0, none⟩) 1 cap)) (d0 : W.cell? ⟨g, 0, none⟩ = some (.int .u32 a.toNat)) :
    Calls Try.prog 36 #[.pointer (some ⟨p, 0, none⟩)] W fun e w' => e = .returned (.int .u64 a.toNat) ∧ W = w' := by
  have ha : (a.toNat : Int) < 4294967296 := by have := a.toNat_lt; omega
  go_enter Try.func36, Try.ntmps36
  go_wp2
  go_loop [3, 4] (fun x i => (i = .int .i64 0 ∧ x = .int .u64 0) ∨ (i = .int .i64 (-1) ∧ x = .int .u64 a.toNat)) (fun _ i => (intOf i + 1).toNat)
  case atStart => exact .inl ⟨rfl, rfl⟩
  case round =>
    rcases hrel with ⟨rfl, rfl⟩ | ⟨rfl, rfl⟩
    · go_wp2
      go_round
      case rel => exact .inr ⟨by go_num, rfl⟩
      case measure => simp [intOf]
    · go_wp2
      go_ret
      exact ⟨rfl, rfl⟩

set_option maxHeartbeats 1000000 in
theorem word2 (p L cap g : Nat) (hL : 2 ≤ L) (a b : UInt32) (W : World) (c1 : W.cell? ⟨p, 1, none⟩ = some (.slice (some ⟨g, 0, none⟩) L cap)) (d0 : W.cell? ⟨g, 0, none⟩ = some (.int .u32 a.toNat)) (d1 : W.cell? ⟨g, 1, none⟩ = some (.int .u32 b.toNat)) :
    Calls Try.prog 36 #[.pointer (some ⟨p, 0, none⟩)] W fun e w' => e = .returned (.int .u64 (join a b)) ∧ W = w' := by
  have ha : (a.toNat : Int) < 4294967296 := by have := a.toNat_lt; omega
  have hb : (b.toNat : Int) < 4294967296 := by have := b.toNat_lt; omega
  rcases (by omega : L = 2 ∨ 2 < L) with rfl | hL
  all_goals
    go_enter Try.func36, Try.ntmps36
    go_wp2
    go_loop [3, 4] (fun x i => (i = .int .i64 1 ∧ x = .int .u64 0) ∨ (i = .int .i64 0 ∧ x = .int .u64 b.toNat) ∨ (i = .int .i64 (-1) ∧ x = .int .u64 (join a b))) (fun _ i => (intOf i + 1).toNat)
    case atStart => exact .inl ⟨rfl, rfl⟩
    case round =>
      rcases hrel with ⟨rfl, rfl⟩ | ⟨rfl, rfl⟩ | ⟨rfl, rfl⟩
      · go_wp2
        go_round
        case rel => exact .inr (.inl ⟨by go_num, rfl⟩)
        case measure => simp [intOf]
      · go_wp2
        go_round
        case rel => exact .inr (.inr ⟨by go_num, rfl⟩)
        case measure => simp [intOf]
      · go_wp2
        go_ret
        exact ⟨rfl, rfl⟩

theorem uint64_c (p n : Nat) (W : World) (hp : Num W p n) :
    Calls Try.prog 36 #[.pointer (some ⟨p, 0, none⟩)] W fun e w' => e = .returned (.int .u64 (n % 18446744073709551616 : Nat)) ∧ W = w' := by
  obtain ⟨A, cap, c0, c1, hcap, hd⟩ := hp.facts
  have hv := val_digs n
  rcases hds : digs n with _ | ⟨a, _ | ⟨b, r⟩⟩
  · rw [hds] at c1 hv
    have : n = 0 := hv.symm
    subst this
    exact word0 p cap A W c1
  · rw [hds] at c1 hd hv
    obtain ⟨g, cs, u, rfl, _, hu, d0⟩ := hd.at_ (k := 0) (by simp)
    obtain rfl : a = u := by injection hu
    have ha := a.toNat_lt
    have hn' : n % 18446744073709551616 = a.toNat := by rw [← hv]; simp only [val]; omega
    rw [hn']
    exact word1 p cap g a W c1 d0
  · rw [hds] at c1 hd hv
    obtain ⟨g, cs, u, rfl, hb1, hu, d0⟩ := hd.at_ (k := 0) (by simp)
    obtain rfl : a = u := by injection hu
    obtain ⟨g', cs', u', hg, _, hu', d1⟩ := hd.at_ (k := 1) (by simp)
    obtain rfl : b = u' := by simpa using hu'
    obtain rfl : g = g' := by injection hg with hg; injection hg
    have hn' : n % 18446744073709551616 = join a b := by
      have := join_lt a b
      rw [← hv]; simp only [val]; unfold join at *; omega
    rw [hn']
    exact word2 p _ cap g (by simp) a b W c1 d0 d1
end Go.Proofs.Ytahhgeecikljdaa.Big
