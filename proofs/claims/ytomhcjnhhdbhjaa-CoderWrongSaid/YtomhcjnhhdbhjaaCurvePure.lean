/-
  Polynomials: a multiple added in at a place; products row by row; the product of all X + x; what is left when X + x is divided out.
-/
import Derived.Test.YtomhcjnhhdbhjaaThruRef
namespace Go.Proofs.Ytomhcjnhhdbhjaa.Poly
set_option linter.unusedVariables false
open Gf

def shift (off : Nat) (p : List UInt8) : List UInt8 := List.replicate off 0 ++ p
theorem co_shift (off : Nat) (p : List UInt8) (k : Nat) : co (shift off p) k = if k < off then 0 else co p (k - off) := by
  unfold shift co
  by_cases h : k < off
  · rw [List.getElem?_append_left (by simpa using h), List.getElem?_replicate, if_pos h, if_pos h]; rfl
  · rw [List.getElem?_append_right (by simp; omega), if_neg h, List.length_replicate]
/-- f times q added to l at place off. -/
def addm (l : List UInt8) (off : Nat) (q : List UInt8) (f : UInt8) : List UInt8 := padd l (shift off (pscale f q))
theorem co_addm (l : List UInt8) (off : Nat) (q : List UInt8) (f : UInt8) (k : Nat) : co (addm l off q f) k = co l k ^^^ (if k < off then 0 else mul f (co q (k - off))) := by
  unfold addm; rw [co_padd, co_shift, co_pscale]
theorem len_addm {l : List UInt8} {off : Nat} {q : List UInt8} (h : off + q.length ≤ l.length) (f : UInt8) : (addm l off q f).length = l.length := by
  unfold addm shift pscale; rw [len_padd]; simp; omega
theorem addm_zero {l : List UInt8} {off : Nat} {q : List UInt8} (h : off + q.length ≤ l.length) : addm l off q 0 = l :=
  ext_co (len_addm h 0) fun k _ => by
    rw [co_addm]; split
    · rw [xor_zero']
    · rw [zero_mul, xor_zero']
theorem addm_nil (l : List UInt8) (off : Nat) (f : UInt8) (h : off ≤ l.length) : addm l off [] f = l :=
  ext_co (len_addm (by simpa using h) f) fun k _ => by
    rw [co_addm, co_nil, mul_zero]; split <;> rw [xor_zero']
theorem ev_shift0 (p : List UInt8) : shift 0 p = p := rfl
theorem ev_addm0 (l q : List UInt8) (f x : UInt8) : ev (addm l 0 q f) x = ev l x ^^^ mul f (ev q x) := by
  unfold addm; rw [ev_shift0, ev_padd, ev_pscale]
theorem addm_at {l q : List UInt8} {off k : Nat} (f : UInt8) (h : off + q.length ≤ l.length) (hk : k < q.length) : (addm l off (q.take k) f)[off + k]? = some (co l (off + k)) := by
  have hl : off + (q.take k).length ≤ l.length := by rw [List.length_take]; omega
  rw [getElem?_of_co (by rw [len_addm hl]; omega), co_addm, if_neg (by omega), co_take, if_neg (by omega), mul_zero, xor_zero']
theorem addm_next {l q : List UInt8} {off k : Nat} {c : UInt8} (f : UInt8) (h : off + q.length ≤ l.length) (hc : q[k]? = some c) :
    (addm l off (q.take k) f).set (off + k) (xor8 (co l (off + k)) (mul c f)) = addm l off (q.take (k + 1)) f := by
  have hk := (List.getElem?_eq_some_iff.1 hc).1
  have h1 : off + (q.take k).length ≤ l.length := by rw [List.length_take]; omega
  have h2 : off + (q.take (k + 1)).length ≤ l.length := by rw [List.length_take]; omega
  apply ext_co
  · rw [List.length_set, len_addm h1, len_addm h2]
  · intro j _
    rw [co_set (by rw [len_addm h1]; omega), co_addm, co_addm, co_take, co_take]
    by_cases e : j = off + k
    · subst e
      rw [if_pos rfl, if_neg (by omega), if_pos (by omega), show off + k - off = k by omega, co_of_some hc, mul_comm c f]; rfl
    · rw [if_neg e]
      by_cases e1 : j < off
      · rw [if_pos e1, if_pos e1]
      · rw [if_neg e1, if_neg e1]
        by_cases e2 : j - off < k
        · rw [if_pos e2, if_pos (by omega)]
        · rw [if_neg e2, if_neg (by omega)]

/-! ### Products row by row -/
theorem co_pmul_snoc (a q : List UInt8) (c : UInt8) (k : Nat) : co (pmul (a ++ [c]) q) k = co (pmul a q) k ^^^ (if k < a.length then 0 else mul c (co q (k - a.length))) := by
  induction a generalizing k with
  | nil =>
    show co (padd (pscale c q) [0]) k = co [] k ^^^ _
    rw [co_padd, co_pscale, co_nil, zero_xor', if_neg (by simp)]
    cases k with
    | zero => rw [co_cons_zero, xor_zero']; rfl
    | succ k => rw [co_cons_succ, co_nil, xor_zero']; rfl
  | cons d a ih =>
    show co (padd (pscale d q) (0 :: pmul (a ++ [c]) q)) k = co (padd (pscale d q) (0 :: pmul a q)) k ^^^ _
    rw [co_padd, co_padd, UInt8.xor_assoc]
    congr 1
    cases k with
    | zero => rw [co_cons_zero, co_cons_zero, if_pos (by simp)]; rfl
    | succ k =>
      rw [co_cons_succ, co_cons_succ, ih, List.length_cons]
      by_cases h : k < a.length
      · rw [if_pos h, if_pos (by omega)]
      · rw [if_neg h, if_neg (by omega), show k + 1 - (a.length + 1) = k - a.length by omega]
/-- l holds the product's first k rows. -/
def Rows (p q : List UInt8) (k : Nat) (l : List UInt8) : Prop := l.length = p.length + q.length - 1 ∧ ∀ j, co l j = co (pmul (p.take k) q) j
theorem rows_start (p q : List UInt8) : Rows p q 0 (List.replicate (p.length + q.length - 1) 0) :=
  ⟨by simp, fun j => by rw [co_replicate, List.take_zero]; exact (co_nil j).symm⟩
theorem rows_next {p q l : List UInt8} {k : Nat} {c : UInt8} (h : Rows p q k l) (hc : p[k]? = some c) (hq : 0 < q.length) : Rows p q (k + 1) (addm l k q c) := by
  have hk := (List.getElem?_eq_some_iff.1 hc).1
  refine ⟨by rw [len_addm (by rw [h.1]; omega)]; exact h.1, fun j => ?_⟩
  rw [co_addm, h.2, take_next hc, co_pmul_snoc, take_len (Nat.le_of_lt hk)]
theorem conv_ext {p q p' q' : List UInt8} (hp : ∀ k, co p k = co p' k) (hq : ∀ k, co q k = co q' k) (k m : Nat) : conv p q k m = conv p' q' k m := by
  induction m with
  | zero => rfl
  | succ m ih => rw [conv, conv, ih, hp, hq]
theorem pmul_trim (p q : List UInt8) (k : Nat) : co (pmul (trim p) (trim q)) k = co (pmul p q) k := by
  rw [co_pmul, co_pmul, conv_ext (co_trim p) (co_trim q)]
theorem top_pmul (p q : List UInt8) (hp : 0 < p.length) (hq : 0 < q.length) : co (pmul p q) (p.length + q.length - 2) = mul (co p (p.length - 1)) (co q (q.length - 1)) := by
  induction p with
  | nil => simp at hp
  | cons c p ih =>
    rw [pmul, co_padd, co_pscale]
    cases p with
    | nil =>
      rw [show ([c] : List UInt8).length + q.length - 2 = q.length - 1 by simp; omega, show ([c] : List UInt8).length - 1 = 0 from rfl, co_cons_zero]
      show mul c (co q (q.length - 1)) ^^^ co [0] (q.length - 1) = _
      have : co [0] (q.length - 1) = 0 := by
        rcases q.length - 1 with _ | k
        · rfl
        · rw [co_cons_succ, co_nil]
      rw [this, xor_zero']
    | cons d p =>
      have h := ih (by simp)
      rw [co_of_le (p := q) (by simp; omega), mul_zero, zero_xor']
      rw [show (c :: d :: p).length + q.length - 2 = ((d :: p).length + q.length - 2) + 1 by simp; omega, co_cons_succ, h,
        show (c :: d :: p).length - 1 = ((d :: p).length - 1) + 1 by simp, co_cons_succ]
theorem mul_ne {a b : UInt8} (ha : a ≠ 0) (hb : b ≠ 0) : mul a b ≠ 0 := fun h => by rcases no_zero h with h | h <;> contradiction
theorem last_of_trim {p : List UInt8} (h : trim p = p) (h0 : 0 < p.length) : co p (p.length - 1) ≠ 0 := by
  have := trim_last (p := p) (by rw [h]; intro e; rw [e] at h0; simp at h0)
  rwa [h] at this
theorem rows_end {p q l : List UInt8} (h : Rows (trim p) (trim q) (trim p).length l) (hp : 0 < (trim p).length) (hq : 0 < (trim q).length) : l = trim (pmul p q) := by
  have hco : ∀ j, co l j = co (pmul p q) j := fun j => by rw [h.2, List.take_of_length_le (Nat.le_refl _), pmul_trim]
  have e : trim l = l := trim_id fun _ => by
    rw [h.1, show (trim p).length + (trim q).length - 1 - 1 = (trim p).length + (trim q).length - 2 by omega, h.2, List.take_of_length_le (Nat.le_refl _), top_pmul _ _ hp hq]
    exact mul_ne (last_of_trim (trim_trim p) hp) (last_of_trim (trim_trim q) hq)
  rw [← e]; exact trim_ext hco
theorem pmul_none {p q : List UInt8} (h : trim p = [] ∨ trim q = []) : trim (pmul p q) = [] := by
  have e : trim (pmul p q) = trim (pmul (trim p) (trim q)) := (trim_ext (pmul_trim p q)).symm
  rw [e]
  rcases h with h | h
  · rw [h]; rfl
  · rw [h]
    refine trim_zero fun k => ?_
    rw [co_pmul]
    have : ∀ m, conv (trim p) [] k m = 0 := fun m => by
      induction m with
      | zero => rfl
      | succ m ih => rw [conv, ih, co_nil, mul_zero, xor_zero']
    exact this _

/-! ### The product of all X + x -/
/-- r is nought at the first k of the xs, and has k + 1 coefficients. -/
def Van (xs : List UInt8) (k : Nat) (r : List UInt8) : Prop := r.length = k + 1 ∧ co r k ≠ 0 ∧ ∀ x ∈ xs.take k, ev r x = 0
theorem van_start (xs : List UInt8) : Van xs 0 [1] := ⟨rfl, by decide, fun x h => by simp at h⟩
theorem van_next {xs r : List UInt8} {k : Nat} {x : UInt8} (h : Van xs k r) (hx : xs[k]? = some x) : Van xs (k + 1) (trim (pmul r [x, 1])) := by
  have htop := top_pmul r [x, 1] (by rw [h.1]; omega) (by simp)
  rw [h.1] at htop
  have e1 : co [x, 1] (([x, 1] : List UInt8).length - 1) = 1 := rfl
  rw [e1, mul_one, show k + 1 + ([x, 1] : List UInt8).length - 2 = k + 1 by simp, show k + 1 - 1 = k by omega] at htop
  have hne : co (pmul r [x, 1]) (k + 1) ≠ 0 := by rw [htop]; exact h.2.1
  have hle := len_pmul' r (q := [x, 1]) (by simp)
  rw [h.1] at hle
  have hle2 : (pmul r [x, 1]).length ≤ k + 2 := by simpa using hle
  have hge : k + 2 ≤ (trim (pmul r [x, 1])).length := by
    rcases Nat.lt_or_ge (trim (pmul r [x, 1])).length (k + 2) with h1 | h1
    · exact absurd (by rw [← co_trim, co_of_le (by omega)]) hne
    · exact h1
  have hlt := trim_len (pmul r [x, 1])
  refine ⟨by omega, by rw [co_trim]; exact hne, fun v hv => ?_⟩
  rw [ev_trim, ev_pmul]
  rw [take_next hx, List.mem_append] at hv
  rcases hv with hv | hv
  · rw [h.2.2 v hv, zero_mul]
  · have : v = x := by simpa using hv
    subst this
    have : ev [v, 1] v = 0 := by
      show v ^^^ mul v (1 ^^^ mul v 0) = 0
      rw [mul_zero, xor_zero', mul_one, xor_self']
    rw [this, mul_zero]

/-! ### What is left when X + x is divided out -/
theorem co_quo (p : List UInt8) (x : UInt8) (k : Nat) : co (quo p x) k = ev (p.drop (k + 1)) x := by
  induction p generalizing k with
  | nil => rw [quo, co_nil]; simp [ev]
  | cons c p ih => cases p with
    | nil => rw [quo, co_nil]; simp [ev]
    | cons d p =>
      rw [quo]
      cases k with
      | zero => rw [co_cons_zero]; rfl
      | succ k => rw [co_cons_succ, ih]; rfl
/-- The quotient from place k on, noughts ahead. -/
def quoFrom (p : List UInt8) (x : UInt8) (k : Nat) : List UInt8 := List.replicate k 0 ++ (quo p x).drop k
theorem quoFrom_len {p : List UInt8} {x : UInt8} {k : Nat} (h : k ≤ p.length - 1) : (quoFrom p x k).length = p.length - 1 := by
  unfold quoFrom; rw [List.length_append, List.length_replicate, List.length_drop, len_quo]; omega
theorem quoFrom_top (p : List UInt8) (x : UInt8) : quoFrom p x (p.length - 1) = List.replicate (p.length - 1) 0 := by
  unfold quoFrom; rw [List.drop_of_length_le (by rw [len_quo]; omega), List.append_nil]
theorem quoFrom_zero (p : List UInt8) (x : UInt8) : quoFrom p x 0 = quo p x := rfl
theorem co_quoFrom (p : List UInt8) (x : UInt8) (k j : Nat) : co (quoFrom p x k) j = if j < k then 0 else ev (p.drop (j + 1)) x := by
  unfold quoFrom
  show co (shift k ((quo p x).drop k)) j = _
  rw [co_shift]
  split
  · rfl
  · rw [← co_quo]; unfold co; rw [List.getElem?_drop, show k + (j - k) = j by omega]
theorem quoFrom_at {p : List UInt8} {x : UInt8} {k : Nat} (h : k + 1 ≤ p.length - 1) : (quoFrom p x (k + 1))[k]? = some 0 := by
  rw [getElem?_of_co (by rw [quoFrom_len h]; omega), co_quoFrom, if_pos (by omega)]
theorem quoFrom_next {p : List UInt8} {x : UInt8} {k : Nat} (h : k + 1 ≤ p.length - 1) : (quoFrom p x (k + 1)).set k (ev (p.drop (k + 1)) x) = quoFrom p x k := by
  apply ext_co
  · rw [List.length_set, quoFrom_len h, quoFrom_len (by omega)]
  · intro j _
    rw [co_set (by rw [quoFrom_len h]; omega), co_quoFrom, co_quoFrom]
    by_cases e : j = k
    · subst e; rw [if_pos rfl, if_neg (by omega)]
    · rw [if_neg e]
      by_cases e2 : j < k
      · rw [if_pos (by omega), if_pos e2]
      · rw [if_neg (by omega), if_neg e2]

/-! ### Lagrange -/
/-- What is left of the product when one factor is taken out: nought at the others, not at its own. -/
theorem without_other {xs all : List UInt8} {i j : Nat} {x y : UInt8} (h : Van xs xs.length all) (hd : xs.Nodup) (hx : xs[i]? = some x) (hy : xs[j]? = some y) (hne : i ≠ j) : ev (quo all x) y = 0 := by
  have hm : ∀ {k : Nat} {z : UInt8}, xs[k]? = some z → ev all z = 0 := fun hz => h.2.2 _ (by rw [List.take_of_length_le (Nat.le_refl _)]; exact List.mem_of_getElem? hz)
  have e := ev_quo all x y
  rw [hm hx, hm hy, xor_self'] at e
  rcases no_zero e.symm with h1 | h1
  · exact absurd (xor_eq_zero h1) (nodup_ne hd hx hy hne)
  · exact h1
theorem without_own {xs all : List UInt8} {i : Nat} {x : UInt8} (h : Van xs xs.length all) (hd : xs.Nodup) (hx : xs[i]? = some x) : ev (quo all x) x ≠ 0 := fun h0 => by
  have hm : ∀ {k : Nat} {z : UInt8}, xs[k]? = some z → ev all z = 0 := fun hz => h.2.2 _ (by rw [List.take_of_length_le (Nat.le_refl _)]; exact List.mem_of_getElem? hz)
  have hz := all_zero (rs := xs) (p := quo all x) hd (fun y hy => by
    obtain ⟨j, hj, rfl⟩ := List.mem_iff_getElem.1 hy
    by_cases e : i = j
    · subst e
      rw [List.getElem?_eq_getElem hj] at hx; injection hx with hx; rw [hx]; exact h0
    · exact without_other h hd hx (List.getElem?_eq_getElem hj) e) (by rw [len_quo, h.1]; omega)
  exact h.2.1 (quo_zero hz (hm hx) _)
/-- l goes through the first k points, and is nought at the others; it has no more coefficients than points. -/
def Lag (xs ys : List UInt8) (k : Nat) (l : List UInt8) : Prop := l.length = 256 ∧ (∀ j, xs.length ≤ j → co l j = 0) ∧ ∀ (j : Nat) (x y : UInt8), xs[j]? = some x → ys[j]? = some y → ev l x = if j < k then y else 0
theorem lag_start (xs ys : List UInt8) : Lag xs ys 0 (List.replicate 256 0) :=
  ⟨List.length_replicate, fun j _ => co_replicate _ _, fun j x y _ _ => by rw [if_neg (by omega)]; exact ev_zero_of (co_replicate _) x⟩
theorem lag_next {xs ys all l : List UInt8} {k : Nat} {x y : UInt8} (h : Lag xs ys k l) (hv : Van xs xs.length all) (hd : xs.Nodup) (hx : xs[k]? = some x) (hy : ys[k]? = some y) :
    Lag xs ys (k + 1) (addm l 0 (quo all x) (mul y (inv (ev (quo all x) x)))) := by
  have h256 := nodup_256 hd
  have hlen : (quo all x).length = xs.length := by rw [len_quo, hv.1]; omega
  refine ⟨by rw [len_addm (by rw [hlen, h.1]; omega)]; exact h.1, fun j hj => ?_, fun j v w hv2 hw => ?_⟩
  · rw [co_addm, h.2.1 j hj, if_neg (by omega), co_of_le (p := quo all x) (by omega), mul_zero]; rfl
  · rw [ev_addm0, h.2.2 j v w hv2 hw]
    by_cases e : j = k
    · subst e
      rw [hx] at hv2; injection hv2 with hv2; subst hv2
      rw [hy] at hw; injection hw with hw; subst hw
      rw [if_neg (by omega), if_pos (by omega), zero_xor', mul_assoc, mul_comm (inv _), mul_inv (without_own hv hd hx), mul_one]
    · rw [without_other hv hd hx hv2 (Ne.symm e), mul_zero, xor_zero']
      by_cases e2 : j < k
      · rw [if_pos e2, if_pos (by omega)]
      · rw [if_neg e2, if_neg (by omega)]
theorem lag_end {xs ys l : List UInt8} (h : Lag xs ys xs.length l) : Thru xs ys (trim l) :=
  ⟨trim_trim l, trim_le h.2.1, fun i x y hx hy => by
    rw [ev_trim, h.2.2 i x y hx hy, if_pos (List.getElem?_eq_some_iff.1 hx).1]⟩
end Go.Proofs.Ytomhcjnhhdbhjaa.Poly
