/-
  The reference's CThrough: the polynomial through the points.
-/
import Derived.Test.YtpjopdemhdeelaaTimesRef
namespace Go.Proofs.Ytpjopdemhdeelaa.Poly
set_option linter.unusedVariables false
open Go.RowKit Gf Mem
attribute [local go_sem] xor8_nat

theorem nodup_lt : ∀ (n : Nat) (l : List Nat), l.Nodup → (∀ x ∈ l, x < n) → l.length ≤ n
  | 0, l, _, h => by
    cases l with
    | nil => simp
    | cons x l => exact absurd (h x (by simp)) (by omega)
  | n + 1, l, hd, h => by
    by_cases hn : n ∈ l
    · have h1 := nodup_lt n (l.erase n) (hd.erase _) (fun x hx => by
        obtain ⟨h2, h3⟩ := (List.Nodup.mem_erase_iff hd).1 hx
        have := h x h3; omega)
      rw [List.length_erase_of_mem hn] at h1
      omega
    · have h1 := nodup_lt n l hd (fun x hx => by
        have h2 := h x hx
        have h3 : x ≠ n := fun e => hn (e ▸ hx)
        omega)
      omega
theorem nodup_256 {l : List UInt8} (h : l.Nodup) : l.length ≤ 256 := by
  have := nodup_lt 256 (l.map UInt8.toNat) (List.Pairwise.map _ (fun a b hne e => hne (UInt8.toNat_inj.1 e)) h) (fun x hx => by
    obtain ⟨y, _, rfl⟩ := List.mem_map.1 hx; exact y.toNat_lt)
  simpa using this
theorem nodup_ne {l : List UInt8} (h : l.Nodup) {i k : Nat} {x y : UInt8} (hi : l[i]? = some y) (hk : l[k]? = some x) (hne : i ≠ k) : x ≠ y := fun e => by
  subst e
  obtain ⟨h1, h2⟩ := List.getElem?_eq_some_iff.1 hi
  obtain ⟨h3, h4⟩ := List.getElem?_eq_some_iff.1 hk
  have hp := List.pairwise_iff_getElem.1 h
  rcases Nat.lt_or_gt_of_ne hne with hlt | hlt
  · exact hp i k h1 h3 hlt (h2.trans h4.symm)
  · exact hp k i h3 h1 hlt (h4.trans h2.symm)

def cnt (k m : Nat) : Nat := if k < m then m - 1 else m
/-- One: 'y' at point k, nought at the other points below m. -/
def One (xs : List UInt8) (k m : Nat) (x y : UInt8) (one : List UInt8) : Prop :=
  ev one x = y ∧ (∀ (i : Nat) (z : UInt8), i < m → i ≠ k → xs[i]? = some z → ev one z = 0) ∧ one.length ≤ 1 + cnt k m
theorem one_start (xs : List UInt8) (k : Nat) (x y : UInt8) : One xs k 0 x y [y] :=
  ⟨by show y ^^^ mul x 0 = y; rw [mul_zero, xor_zero'], fun i z h => absurd h (by omega), by simp [cnt]⟩
theorem one_same {xs : List UInt8} {k : Nat} {x y : UInt8} {one : List UInt8} (h : One xs k k x y one) : One xs k (k + 1) x y one :=
  ⟨h.1, fun i z h1 h2 => h.2.1 i z (by omega) h2, by have := h.2.2; simp [cnt] at this ⊢; exact this⟩
theorem one_next {xs : List UInt8} {k m : Nat} {x y z : UInt8} {one : List UInt8} (h : One xs k m x y one) (hd : xs.Nodup) (hm : m ≠ k) (hx : xs[k]? = some x) (hz : xs[m]? = some z) :
    One xs k (m + 1) x y (trim (pmul one [mul z (inv (xor8 x z)), inv (xor8 x z)])) := by
  have hne : xor8 x z ≠ 0 := xor_ne (nodup_ne hd hz hx hm)
  have e : ∀ v, ev [mul z (inv (xor8 x z)), inv (xor8 x z)] v = mul (z ^^^ v) (inv (xor8 x z)) := fun v => by
    show mul z (inv (xor8 x z)) ^^^ mul v (inv (xor8 x z) ^^^ mul v 0) = _
    rw [mul_zero, xor_zero', Gf.add_mul]
  refine ⟨?_, fun i v h1 h2 h3 => ?_, ?_⟩
  · rw [ev_trim, ev_pmul, h.1, e, UInt8.xor_comm z x]
    show mul y (mul (xor8 x z) (inv (xor8 x z))) = y
    rw [mul_inv hne, mul_one]
  · rw [ev_trim, ev_pmul]
    by_cases hi : i = m
    · subst hi
      rw [hz] at h3; injection h3 with h3; subst h3
      rw [e, xor_self', zero_mul, mul_zero]
    · rw [h.2.1 i v (by omega) h2 h3, zero_mul]
  · have h1 := trim_len (pmul one [mul z (inv (xor8 x z)), inv (xor8 x z)])
    have h2 := len_pmul' one (q := [mul z (inv (xor8 x z)), inv (xor8 x z)]) (by simp)
    have h3 := h.2.2
    simp only [List.length_cons, List.length_nil] at h2
    unfold cnt at *
    split at h3 <;> split <;> omega

/-- Thr: the polynomial through the first k points that is nought at the others. -/
def Thr (xs ys : List UInt8) (k : Nat) (l : List UInt8) : Prop := l.length = xs.length ∧ ∀ (j : Nat) (x y : UInt8), xs[j]? = some x → ys[j]? = some y → ev l x = if j < k then y else 0
theorem thr_start (xs ys : List UInt8) : Thr xs ys 0 (List.replicate xs.length 0) :=
  ⟨by simp, fun j x y _ _ => by rw [if_neg (by omega)]; exact ev_zero_of (co_replicate _) x⟩
theorem thr_next {xs ys l one : List UInt8} {k : Nat} {x y : UInt8} (h : Thr xs ys k l) (h1 : One xs k xs.length x y one) (hx : xs[k]? = some x) (hy : ys[k]? = some y) : Thr xs ys (k + 1) (padd l one) := by
  have hk := (List.getElem?_eq_some_iff.1 hx).1
  refine ⟨?_, fun j v w hv hw => ?_⟩
  · have h2 := h1.2.2
    unfold cnt at h2; rw [if_pos hk] at h2
    rw [len_padd, h.1]; omega
  · rw [ev_padd, h.2 j v w hv hw]
    by_cases e : j = k
    · subst e
      rw [hx] at hv; injection hv with hv; subst hv
      rw [hy] at hw; injection hw with hw; subst hw
      rw [h1.1, if_neg (by omega), if_pos (by omega), zero_xor']
    · rw [h1.2.1 j v (List.getElem?_eq_some_iff.1 hv).1 e hv, xor_zero']
      by_cases e2 : j < k
      · rw [if_pos e2, if_pos (by omega)]
      · rw [if_neg e2, if_neg (by omega)]
theorem thr_end {xs ys l : List UInt8} (h : Thr xs ys xs.length l) : Thru xs ys (trim l) :=
  ⟨trim_trim l, by rw [← h.1]; exact trim_len l, fun i x y hx hy => by
    rw [ev_trim, h.2 i x y hx hy, if_pos (List.getElem?_eq_some_iff.1 hx).1]⟩
/-- The first m coefficients of one added in. -/
def part (l one : List UInt8) (m : Nat) : List UInt8 := padd l (one.take m)
theorem part_zero (l one : List UInt8) : part l one 0 = l := by unfold part; rw [List.take_zero, padd_nil]
theorem part_all (l one : List UInt8) : part l one one.length = padd l one := by unfold part; rw [List.take_of_length_le (Nat.le_refl _)]
theorem part_len {l one : List UInt8} (h : one.length ≤ l.length) (m : Nat) : (part l one m).length = l.length := by
  unfold part; rw [len_padd, List.length_take]; omega
theorem part_at {l one : List UInt8} (h : one.length ≤ l.length) {m : Nat} (hm : m < one.length) : (part l one m)[m]? = some (co l m) := by
  rw [getElem?_of_co (by rw [part_len h]; omega)]
  unfold part; rw [co_padd, co_take, if_neg (by omega), xor_zero']
theorem part_next {l one : List UInt8} (h : one.length ≤ l.length) {m : Nat} {c : UInt8} (hc : one[m]? = some c) : (part l one m).set m (xor8 (co l m) c) = part l one (m + 1) := by
  have hm := (List.getElem?_eq_some_iff.1 hc).1
  apply ext_co
  · rw [List.length_set, part_len h, part_len h]
  · intro k _
    rw [co_set (by rw [part_len h]; omega)]
    unfold part
    rw [co_padd, co_padd, co_take, co_take]
    by_cases e : k = m
    · subst e; rw [if_pos rfl, if_pos (by omega), co_of_some hc]; rfl
    · rw [if_neg e]
      by_cases e2 : k < m
      · rw [if_pos e2, if_pos (by omega)]
      · rw [if_neg e2, if_neg (by omega)]

def ThAt (W : World) (xs ys : List UInt8) (k : Nat) (V : World) : Prop := ∃ l, Thr xs ys k l ∧ Own V W.heap.size l ∧ Below W.heap.size W V
theorem th_start (W : World) (xs ys : List UInt8) : ThAt W xs ys 0 (W.alloc (.cells (Array.replicate xs.length (byt 0)) 5)) :=
  ⟨_, thr_start xs ys, Own.made W _, (Below.refl _ _).alloc (Nat.le_refl _) _⟩
/-- The slice s holds one, in a block behind out's. -/
def OneAt (W : World) (xs l : List UInt8) (k m : Nat) (x y : UInt8) (s : Value) (V : World) : Prop :=
  ∃ (A : Option Addr) (cap : Nat) (one : List UInt8), s = .slice A one.length cap ∧ One xs k m x y one ∧ Reads V A (one.map byt) ∧ (∀ a, A = some a → W.heap.size < a.block) ∧ Own V W.heap.size l ∧ Below W.heap.size W V
def ThruGives (xs ys : List UInt8) (W : World) (e : Ending) (W' : World) : Prop := ∃ r, Thru xs ys r ∧ Gives r W e W'

end Go.Proofs.Ytpjopdemhdeelaa.Poly
