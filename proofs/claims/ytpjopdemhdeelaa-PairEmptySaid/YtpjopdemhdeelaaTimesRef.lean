/-
  The reference's CTimes.
-/
import Derived.Test.YtpjopdemhdeelaaCurveRef
namespace Go.Proofs.Ytpjopdemhdeelaa.Poly
set_option linter.unusedVariables false
open Go.RowKit Gf Mem
attribute [local go_sem] xor8_nat

theorem co_set {l : List UInt8} {k : Nat} (h : k < l.length) (v : UInt8) (j : Nat) : co (l.set k v) j = if j = k then v else co l j := by
  unfold co
  by_cases e : j = k
  · subst e; rw [List.getElem?_set_self h, if_pos rfl]; rfl
  · rw [List.getElem?_set_ne (Ne.symm e), if_neg e]
theorem co_replicate (n k : Nat) : co (List.replicate n 0) k = 0 := by
  unfold co; rw [List.getElem?_replicate]; split <;> rfl

/-- What out holds when its first k places are done, and i terms of place k. -/
def Conv (p q : List UInt8) (k i : Nat) (l : List UInt8) : Prop :=
  l.length = p.length + q.length ∧ (∀ j, j < k → co l j = conv p q j (j + 1)) ∧ co l k = conv p q k i ∧ ∀ j, k < j → co l j = 0
theorem conv_start (p q : List UInt8) : Conv p q 0 0 (List.replicate (p.length + q.length) 0) :=
  ⟨by simp, fun j h => absurd h (by omega), co_replicate _ _, fun j _ => co_replicate _ _⟩
theorem conv_turn {p q l : List UInt8} {k : Nat} (h : Conv p q k (k + 1) l) : Conv p q (k + 1) 0 l :=
  ⟨h.1, fun j hj => by
    by_cases e : j = k
    · subst e; exact h.2.2.1
    · exact h.2.1 j (by omega), h.2.2.2 _ (by omega), fun j hj => h.2.2.2 j (by omega)⟩
theorem conv_skip {p q l : List UInt8} {k i : Nat} (h : Conv p q k i l) (h0 : ¬ (i < p.length ∧ k - i < q.length)) : Conv p q k (i + 1) l :=
  ⟨h.1, h.2.1, by
    rw [h.2.2.1, conv]
    by_cases hi : i < p.length
    · rw [co_of_le (p := q) (k := k - i) (by have := h0; omega), mul_zero, xor_zero']
    · rw [co_of_le (p := p) (k := i) (by omega), zero_mul, xor_zero'], h.2.2.2⟩
theorem conv_step {p q l : List UInt8} {k i : Nat} {x y z : UInt8} (h : Conv p q k i l) (hk : l[k]? = some z) (hx : p[i]? = some x) (hy : q[k - i]? = some y) : Conv p q k (i + 1) (l.set k (xor8 z (mul x y))) := by
  have hkl := (List.getElem?_eq_some_iff.1 hk).1
  refine ⟨by rw [List.length_set]; exact h.1, fun j hj => ?_, ?_, fun j hj => ?_⟩
  · rw [co_set hkl, if_neg (by omega)]; exact h.2.1 j hj
  · rw [co_set hkl, if_pos rfl, conv, ← h.2.2.1, co_of_some hk, co_of_some hx, co_of_some hy]; rfl
  · rw [co_set hkl, if_neg (by omega)]; exact h.2.2.2 j hj
theorem conv_end {p q l : List UInt8} (h : Conv p q (p.length + q.length) 0 l) : trim l = trim (pmul p q) := by
  refine trim_ext fun k => ?_
  by_cases hk : k < p.length + q.length
  · rw [h.2.1 k hk, co_pmul]
  · rw [co_of_le (by rw [h.1]; omega), co_of_le (by have := len_pmul p q; omega)]

theorem trim_take (p : List UInt8) : trim p = p.take (trim p).length := by
  apply ext_co
  · rw [List.length_take]; have := trim_len p; omega
  · intro k hk; rw [co_trim, co_take, if_pos hk]
theorem trim_reads {W : World} {A : Option Addr} {p : List UInt8} (h : Reads W A (p.map byt)) : Reads W A ((trim p).map byt) := by rw [trim_take]; exact h.takeB _
def TimesAt (W : World) (p q : List UInt8) (k i : Nat) (V : World) : Prop := ∃ l, Conv p q k i l ∧ Own V W.heap.size l ∧ Below W.heap.size W V
theorem times_start (W : World) (p q : List UInt8) : TimesAt W p q 0 0 (W.alloc (.cells (Array.replicate (p.length + q.length) (byt 0)) 5)) :=
  ⟨_, conv_start p q, Own.made W _, (Below.refl _ _).alloc (Nat.le_refl _) _⟩

def CallIs (v : UInt8) (W : World) (e : Ending) (W' : World) : Prop := e = .returned (.int .u8 (v.toNat : Int)) ∧ W' = W
theorem bMul_r (a b : UInt8) (W : World) : Calls Try.prog 31 #[.int .u8 a.toNat, .int .u8 b.toNat] W fun e W' => e = .returned (.int .u8 (mul a b).toNat) ∧ W' = W :=
  (bMul_c a b W).mono fun _ _ h => ⟨h.1, h.2.symm⟩

end Go.Proofs.Ytpjopdemhdeelaa.Poly
