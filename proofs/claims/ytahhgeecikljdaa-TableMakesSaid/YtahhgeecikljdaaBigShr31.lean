/-
  The contract of shiftRight by 31 places.
-/
import Derived.Test.YtahhgeecikljdaaBigShl
namespace Go.Proofs.Ytahhgeecikljdaa.Big
set_option linter.unusedVariables false
open Go.RowKit

def half31 (d : UInt32) : UInt32 := d >>> 31
def topb1 (e : UInt32) : UInt32 := e <<< 1
theorem half31_nat (d : UInt32) : (half31 d).toNat = d.toNat / 2147483648 := by
  unfold half31
  rw [UInt32.toNat_shiftRight, show (31 : UInt32).toNat % 32 = 31 by decide, Nat.shiftRight_eq_div_pow]
theorem topb1_nat (e : UInt32) : (topb1 e).toNat = e.toNat * 2 % 4294967296 := by
  unfold topb1
  rw [UInt32.toNat_shiftLeft, show (1 : UInt32).toNat % 32 = 1 by decide, Nat.shiftLeft_eq]
theorem halved31 (d : UInt32) : (d.toNat : Int) / 2147483648 = ((half31 d).toNat : Int) := by rw [half31_nat]; omega
theorem topped1 (e : UInt32) : (e.toNat : Int) * 2 % 4294967296 = ((topb1 e).toNat : Int) := by rw [topb1_nat]; omega
theorem or31_nat (d e : UInt32) : (or32 (half31 d) (topb1 e)).toNat = d.toNat / 2147483648 + e.toNat * 2 % 4294967296 := by
  unfold or32
  rw [UInt32.toNat_or, half31_nat, topb1_nat]
  have hd := d.toNat_lt
  rw [show e.toNat * 2 % 4294967296 = 2 ^ 1 * (e.toNat % 2147483648) by omega, Nat.or_comm, ← Nat.two_pow_add_eq_or_of_lt (by omega)]
  omega
def sr31 : List UInt32 → List UInt32
  | [] => []
  | [d] => [half31 d]
  | d :: e :: r => or32 (half31 d) (topb1 e) :: sr31 (e :: r)
theorem sr31_len : ∀ l : List UInt32, (sr31 l).length = l.length
  | [] => rfl
  | [_] => rfl
  | d :: e :: r => by rw [sr31, List.length_cons, sr31_len (e :: r)]; rfl
theorem sr31_val : ∀ l : List UInt32, val (sr31 l) = val l / 2147483648
  | [] => rfl
  | [d] => by simp only [sr31, val, half31_nat]; omega
  | d :: e :: r => by
    rw [sr31, val, sr31_val (e :: r), or31_nat]
    simp only [val]
    omega
theorem sr31_last : ∀ (l : List UInt32) (k : Nat) (d : UInt32), l[k]? = some d → k + 1 = l.length → (sr31 l)[k]? = some (half31 d)
  | [], k, d, h, hk => by simp at hk
  | [a], k, d, h, hk => by
    obtain rfl : k = 0 := by simp at hk; omega
    injection h with h; subst h; rfl
  | a :: e :: r, k, d, h, hk => by
    cases k with
    | zero => simp at hk
    | succ k => simpa [sr31] using sr31_last (e :: r) k d (by simpa using h) (by simpa using hk)
theorem sr31_mid : ∀ (l : List UInt32) (k : Nat) (d e : UInt32), l[k]? = some d → l[k + 1]? = some e → (sr31 l)[k]? = some (or32 (half31 d) (topb1 e))
  | [], k, d, e, h, _ => by simp at h
  | [a], k, d, e, _, h => by simp at h
  | a :: b :: r, k, d, e, h, h2 => by
    cases k with
    | zero => simp at h h2; subst h h2; rfl
    | succ k => simpa [sr31] using sr31_mid (b :: r) k d e (by simpa using h) (by simpa using h2)
attribute [local go_sem] halved31 topped1 ored
def RoundAt31 (W : World) (l : List UInt32) (k : Nat) (wr : World) : Prop := Below W.heap.size W wr ∧ W.heap.size < wr.heap.size ∧ Blk wr W.heap.size 71 (rowOf (fill (sr31 l) k))

set_option maxHeartbeats 2000000 in
theorem shiftRight31_c (g cap : Nat) (l : List UInt32) (x : UInt32) (W : World) (hl : 1 ≤ l.length) (hx : ∀ (j : Nat) (u : UInt32), l[j]? = some u → W.cell? ⟨g, j, none⟩ = some (.int .u32 u.toNat))
    (hg : g < W.heap.size) (hcap : l.length ≤ cap) (hM : l.length ≤ 35184372088832) :
    Calls Try.prog 49 #[.slice (some ⟨g, 0, none⟩) l.length cap, .int .i64 31] W (Sliced (sr31 l) W) := by
  have hmk := make_c l.length hM
  have hc1 : ¬ cap = 0 := by omega
  have hb1 : decide (l.length ≤ 0) = false := decide_eq_false (by omega)
  have hb2 : decide ((l.length : Int) ≤ 0) = false := decide_eq_false (by omega)
  have hb3 : decide (l = []) = false := decide_eq_false (by intro h; subst h; simp at hl)
  go_enter Try.func49, Try.ntmps49
  go_wp2
  go_loopw [22] (fun i wr => ∃ k : Nat, k ≤ l.length ∧ i = .int .i64 k ∧ RoundAt31 W l k wr) (fun i _ => l.length - (intOf i).toNat)
  case atStart => exact ⟨0, Nat.zero_le _, rfl, (Below.refl _ _).alloc (Nat.le_refl _) _, by simp, by rw [fill_zero, sr31_len]; exact Blk.new _ _ _⟩
  case round =>
    obtain ⟨k, hk, rfl, hR⟩ := hrel
    by_cases hlt : k < l.length
    · obtain ⟨hb, hsz, hB⟩ := hR
      have hd : l[k]? = some l[k] := List.getElem?_eq_getElem hlt
      obtain ⟨d, hde⟩ : ∃ d, l[k] = d := ⟨_, rfl⟩
      rw [hde] at hd
      have hcx : wr.cell? ⟨g, k, none⟩ = some (.int .u32 d.toNat) := (hb.cell (p := ⟨g, k, none⟩) hg).trans (hx k d hd)
      have hco : wr.cell? ⟨W.heap.size, k, none⟩ = some (.int .u32 0) := hB.at_ (fill_at (by rw [sr31_len]; exact hlt))
      have hfo : wr.frozen? ⟨W.heap.size, k, none⟩ = false := hB.frozen k
      have HD := Lib.hid hd
      clear hd hde
      by_cases hn : k + 1 < l.length
      · have he : l[k + 1]? = some l[k + 1] := List.getElem?_eq_getElem hn
        obtain ⟨e, hee⟩ : ∃ e, l[k + 1] = e := ⟨_, rfl⟩
        rw [hee] at he
        have hc2 : (wr.setCell ⟨W.heap.size, k, none⟩ (.int .u32 (half31 d).toNat)).cell? ⟨g, k + 1, none⟩ = some (.int .u32 e.toNat) := by
          rw [World.cell?_setCell_other _ _ _ _ (by intro h; injection h with h _; omega)]
          exact (hb.cell (p := ⟨g, k + 1, none⟩) hg).trans (hx (k + 1) e he)
        have HE := Lib.hid he
        clear he hee
        go_wp2
        go_region
        all_goals go_wp2
        all_goals go_roundw
        case rel =>
          refine ⟨k + 1, by omega, by go_num, ((hb.setCell (by simp) _).setCell (by simp) _).drew, by simpa [World.setCell] using hsz, ?_⟩
          rw [← fill_set2 (v := half31 d) (sr31_mid l k d e HD.out HE.out)]
          exact (hB.put_ k _).put_ k _
        case measure => simp [intOf]; omega
      · have hke : k + 1 = l.length := by omega
        have HK := Lib.hid hke
        clear hke
        go_wp2
        go_roundw
        case rel => exact ⟨k + 1, by omega, by go_num, hb.setCell (by simp) _, by simpa [World.setCell] using hsz, by rw [← fill_set (sr31_last l k d HD.out HK.out)]; exact hB.put_ k _⟩
        case measure => simp [intOf]; omega
    · have hke : k = l.length := by omega
      subst hke
      have HR := Lib.hid hR
      clear hR
      go_wp2
      go_ret
      have hB := HR.out.2.2
      rw [← sr31_len l, fill_all] at hB
      exact ⟨W.heap.size, by rw [sr31_len]; rfl, Nat.le_refl _, HR.out.1, hB⟩

end Go.Proofs.Ytahhgeecikljdaa.Big
