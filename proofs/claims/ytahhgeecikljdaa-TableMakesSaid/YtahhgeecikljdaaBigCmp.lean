/-
  The contract of (*Int).CmpAbs.
-/
import Derived.Test.YtahhgeecikljdaaBigSet
import Derived.Test.YtahhgeecikljdaaBigXor
import Derived.Deep.QuietTactic
import Derived.BigQuiet
namespace Go.Proofs.Ytahhgeecikljdaa.Big
set_option linter.unusedVariables false
open Go.RowKit

def cmpInt (n m : Nat) : Int := if n < m then -1 else if n = m then 0 else 1
theorem cmp_lt {n m : Nat} (h : n < m) : cmpInt n m = -1 := by simp [cmpInt, h]
theorem cmp_gt {n m : Nat} (h : m < n) : cmpInt n m = 1 := by unfold cmpInt; rw [if_neg (by omega), if_neg (by omega)]
theorem cmp_eq {n m : Nat} (h : n = m) : cmpInt n m = 0 := by unfold cmpInt; rw [if_neg (by omega), if_pos h]
theorem lt_of_len {n m : Nat} (h : (digs n).length < (digs m).length) : n < m := by
  rcases Nat.lt_or_ge n m with h1 | h1
  · exact h1
  · have := digs_mono h1; omega
theorem val_lt_at {a b : List UInt32} {k : Nat} {x y : UInt32} (hl : a.length = b.length) (hd : a.drop (k + 1) = b.drop (k + 1)) (hx : a[k]? = some x) (hy : b[k]? = some y) (h : x.toNat < y.toNat) : val a < val b := by
  have hka : k < a.length := (List.getElem?_eq_some_iff.1 hx).1
  have hkb : k < b.length := (List.getElem?_eq_some_iff.1 hy).1
  have ea : val a = val (a.take k) + 4294967296 ^ k * (x.toNat + 4294967296 * val (a.drop (k + 1))) := by
    conv => lhs; rw [← List.take_append_drop k a, val_append]
    rw [List.drop_eq_getElem_cons hka, (List.getElem?_eq_some_iff.1 hx).2, val, List.length_take, Nat.min_eq_left (by omega)]
  have eb : val b = val (b.take k) + 4294967296 ^ k * (y.toNat + 4294967296 * val (b.drop (k + 1))) := by
    conv => lhs; rw [← List.take_append_drop k b, val_append]
    rw [List.drop_eq_getElem_cons hkb, (List.getElem?_eq_some_iff.1 hy).2, val, List.length_take, Nat.min_eq_left (by omega)]
  have h1 := val_lt (a.take k)
  rw [List.length_take, Nat.min_eq_left (by omega)] at h1
  rw [ea, eb, hd]
  have h2 : 4294967296 ^ k * (x.toNat + 1 + 4294967296 * val (b.drop (k + 1))) ≤ 4294967296 ^ k * (y.toNat + 4294967296 * val (b.drop (k + 1))) := Nat.mul_le_mul_left _ (by omega)
  have h3 : 4294967296 ^ k * (x.toNat + 1 + 4294967296 * val (b.drop (k + 1))) = 4294967296 ^ k * (x.toNat + 4294967296 * val (b.drop (k + 1))) + 4294967296 ^ k := by grind
  omega

theorem drewN2 (W : World) (a b : Nat) : (W.drewN a).drewN b = W.drewN (a + b) := World.drewN_drewN ..
theorem drewN3 (W : World) (a b c : Nat) : ((W.drewN a).drewN b).drewN c = W.drewN (a + (b + c)) := by rw [drewN2, drewN2]
def Cmps (n m : Nat) (W : World) (e : Ending) (W' : World) : Prop := e = .returned (.int .i64 (cmpInt n m)) ∧ ∃ k, W' = W.drewN k

set_option maxHeartbeats 2000000 in
theorem cmp_c (p q n m : Nat) (W : World) (hp : Num W p n) (hq : Num W q m) (hn : (digs n).length ≤ 35184372088832) (hm : (digs m).length ≤ 35184372088832) :
    Calls Try.prog 57 #[.pointer (some ⟨p, 0, none⟩), .pointer (some ⟨q, 0, none⟩)] W (Cmps n m W) := by
  obtain ⟨A, cap, c0, c1, hcap, hd⟩ := hp.facts
  obtain ⟨B, capB, e0, e1, hcapB, he⟩ := hq.facts
  have ean := val_digs n
  have eam := val_digs m
  have hlen := @lt_of_len n m
  have hlen' := @lt_of_len m n
  have EN := Lib.hid ean
  have EM := Lib.hid eam
  have L1 := Lib.hid hlen
  have L2 := Lib.hid hlen'
  clear ean eam hp hq hlen hlen'
  generalize digs n = a at *
  generalize digs m = b at *
  by_cases hab : a.length = b.length
  · rw [hab] at c1 hcap hn
    have HAB := Lib.hid hab
    clear hab
    go_enter Try.func57, Try.ntmps57
    go_wp2
    go_quiet (fail)
    go_wp2
    go_loopw [5] (fun i wr => ∃ j : Nat, j ≤ b.length ∧ i = .int .i64 ((j : Int) - 1) ∧ a.drop j = b.drop j ∧ ∃ k, wr = W.drewN k) (fun i _ => (intOf i + 1).toNat)
    case atStart => exact ⟨b.length, Nat.le_refl _, rfl, by rw [List.drop_of_length_le (by rw [HAB.out]; exact Nat.le_refl _), List.drop_of_length_le (Nat.le_refl _)], _, rfl⟩
    case round =>
      obtain ⟨j, hj, rfl, hdr, nq', rfl⟩ := hrel
      have HDR := Lib.hid hdr
      clear hdr
      by_cases hj0 : 0 < j
      · obtain ⟨j', rfl⟩ : ∃ j', j = j' + 1 := ⟨j - 1, by omega⟩
        obtain ⟨g, cs, x, rfl, hbk, hx, hcx⟩ := hd.at_ (k := j') (by rw [HAB.out]; omega)
        obtain ⟨g2, cs2, y, rfl, hbk2, hy, hcy⟩ := he.at_ (k := j') (by omega)
        have HX := Lib.hid hx
        have HY := Lib.hid hy
        clear hx hy
        have hji : ((j' + 1 : Nat) : Int) - 1 = (j' : Int) := by omega
        rw [hji]
        clear hji
        rcases Nat.lt_trichotomy x.toNat y.toNat with hxy | hxy | hxy
        · have b1 : ((x.toNat : Int) == (y.toNat : Int)) = false := by rw [beq_eq_false_iff_ne]; omega
          have b2 : ((x.toNat : Int) != (y.toNat : Int)) = true := by rw [bne, b1]; rfl
          have b3 : decide (x.toNat < y.toNat) = true := by simp; omega
          have hfin : cmpInt n m = -1 := cmp_lt (by rw [← EN.out, ← EM.out]; exact val_lt_at HAB.out HDR.out HX.out HY.out hxy)
          have HF := Lib.hid hfin
          clear hfin
          go_wp2
          go_quiet (fail)
          go_wp2
          go_quiet (fail)
          go_wp2
          go_ret
          exact ⟨by rw [HF.out]; rfl, _, drewN3 _ _ _ _⟩
        · obtain rfl : x = y := UInt32.toNat_inj.1 hxy
          go_wp2
          go_quiet (fail)
          go_wp2
          go_roundw
          case rel => exact ⟨j', by omega, by go_num, by rw [List.drop_eq_getElem_cons (l := a) (i := j') (by rw [HAB.out]; omega), List.drop_eq_getElem_cons (l := b) (i := j') (by omega), (List.getElem?_eq_some_iff.1 HX.out).2, (List.getElem?_eq_some_iff.1 HY.out).2, HDR.out], _, rfl⟩
          case measure => simp [intOf]
        · have b1 : ((x.toNat : Int) == (y.toNat : Int)) = false := by rw [beq_eq_false_iff_ne]; omega
          have b2 : ((x.toNat : Int) != (y.toNat : Int)) = true := by rw [bne, b1]; rfl
          have b3 : decide (x.toNat < y.toNat) = false := by simp; omega
          have hfin : cmpInt n m = 1 := cmp_gt (by rw [← EN.out, ← EM.out]; exact val_lt_at HAB.out.symm HDR.out.symm HY.out HX.out hxy)
          have HF := Lib.hid hfin
          clear hfin
          go_wp2
          go_quiet (fail)
          go_wp2
          go_quiet (fail)
          go_wp2
          go_ret
          exact ⟨by rw [HF.out]; rfl, _, drewN3 _ _ _ _⟩
      · have hj1 : j = 0 := by omega
        subst hj1
        have hfin : cmpInt n m = 0 := cmp_eq (by rw [← EN.out, ← EM.out]; have h := HDR.out; rw [List.drop_zero, List.drop_zero] at h; rw [h])
        have HF := Lib.hid hfin
        clear hfin
        go_wp2
        go_ret
        exact ⟨by rw [HF.out]; rfl, _, rfl⟩
  · have b1 : ((a.length : Int) == (b.length : Int)) = false := by rw [beq_eq_false_iff_ne]; omega
    have b2 : ((a.length : Int) != (b.length : Int)) = true := by rw [bne, b1]; rfl
    rcases Nat.lt_or_ge a.length b.length with hlt | hge
    · have b3 : decide (a.length < b.length) = true := by simp; omega
      have HF := Lib.hid (cmp_lt (L1.out hlt))
      go_enter Try.func57, Try.ntmps57
      go_wp2
      go_quiet (fail)
      go_wp2
      go_quiet (fail)
      go_wp2
      go_ret
      exact ⟨by rw [HF.out]; rfl, _, drewN2 _ _ _⟩
    · have b3 : decide (a.length < b.length) = false := by simp; omega
      have HF := Lib.hid (cmp_gt (L2.out (by omega)))
      go_enter Try.func57, Try.ntmps57
      go_wp2
      go_quiet (fail)
      go_wp2
      go_quiet (fail)
      go_wp2
      go_ret
      exact ⟨by rw [HF.out]; rfl, _, drewN2 _ _ _⟩
end Go.Proofs.Ytahhgeecikljdaa.Big
