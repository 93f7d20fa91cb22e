/-
  Polynomials over the field of 256 elements: values, sums, products, noughts at the end, roots, and that so many points leave just one.
-/
import Derived.Test.YtpjopdemhdeelaaGfPure
namespace Go.Proofs.Ytpjopdemhdeelaa.Poly
set_option linter.unusedVariables false
open Gf

theorem xor_self' (a : UInt8) : a ^^^ a = 0 := UInt8.xor_self
theorem xor_zero' (a : UInt8) : a ^^^ 0 = a := by simp
theorem zero_xor' (a : UInt8) : 0 ^^^ a = a := by simp
theorem xor_eq_zero {a b : UInt8} (h : a ^^^ b = 0) : a = b := by
  have h1 : (a ^^^ b) ^^^ b = 0 ^^^ b := by rw [h]
  rwa [UInt8.xor_assoc, xor_self', xor_zero', zero_xor'] at h1
theorem xor_ne {a b : UInt8} (h : a ≠ b) : a ^^^ b ≠ 0 := fun e => h (xor_eq_zero e)

/-- The coefficient at place k, 0 behind the end. -/
def co (p : List UInt8) (k : Nat) : UInt8 := (p[k]?).getD 0
theorem co_nil (k : Nat) : co [] k = 0 := by simp [co]
theorem co_cons_zero (c : UInt8) (p : List UInt8) : co (c :: p) 0 = c := by simp [co]
theorem co_cons_succ (c : UInt8) (p : List UInt8) (k : Nat) : co (c :: p) (k + 1) = co p k := by simp [co]
theorem co_of_le {p : List UInt8} {k : Nat} (h : p.length ≤ k) : co p k = 0 := by simp [co, List.getElem?_eq_none h]
theorem co_of_some {p : List UInt8} {k : Nat} {x : UInt8} (h : p[k]? = some x) : co p k = x := by simp [co, h]
theorem getElem?_of_co {p : List UInt8} {k : Nat} (h : k < p.length) : p[k]? = some (co p k) := by simp [co, List.getElem?_eq_getElem h]
theorem ext_co {p q : List UInt8} (hl : p.length = q.length) (h : ∀ k, k < p.length → co p k = co q k) : p = q := by
  apply List.ext_getElem? 
  intro k
  by_cases hk : k < p.length
  · rw [getElem?_of_co hk, getElem?_of_co (by omega), h k hk]
  · rw [List.getElem?_eq_none (by omega), List.getElem?_eq_none (by omega)]
theorem co_take (p : List UInt8) (n k : Nat) : co (p.take n) k = if k < n then co p k else 0 := by
  unfold co; rw [List.getElem?_take]; split <;> simp

/-- The value at x. -/
def ev : List UInt8 → UInt8 → UInt8
  | [], _ => 0
  | c :: p, x => c ^^^ mul x (ev p x)
theorem ev_nil (x : UInt8) : ev [] x = 0 := rfl
theorem ev_zero_of {p : List UInt8} (h : ∀ k, co p k = 0) (x : UInt8) : ev p x = 0 := by
  induction p with
  | nil => rfl
  | cons c p ih =>
    rw [ev, ih (fun k => by have := h (k + 1); rwa [co_cons_succ] at this), mul_zero]
    have := h 0; rw [co_cons_zero] at this; rw [this]; rfl
theorem ev_ext {p q : List UInt8} (h : ∀ k, co p k = co q k) (x : UInt8) : ev p x = ev q x := by
  induction p generalizing q with
  | nil => rw [ev_nil, ev_zero_of (fun k => by rw [← h k, co_nil])]
  | cons c p ih =>
    cases q with
    | nil => rw [ev_nil]; exact ev_zero_of (fun k => by rw [h k, co_nil]) x
    | cons d q =>
      have h0 := h 0
      rw [co_cons_zero, co_cons_zero] at h0
      rw [ev, ev, h0, ih (q := q) (fun k => by have := h (k + 1); rwa [co_cons_succ, co_cons_succ] at this)]
theorem ev_snoc (l : List UInt8) (c x : UInt8) : ev (l ++ [c]) x = ev l x ^^^ mul c (pow x l.length) := by
  induction l with
  | nil => show c ^^^ mul x 0 = 0 ^^^ mul c 1; rw [mul_zero, mul_one, xor_zero', zero_xor']
  | cons d l ih =>
    rw [List.cons_append, ev, ih, ev, mul_add, List.length_cons, pow, UInt8.xor_assoc]
    congr 2
    rw [← mul_assoc, mul_comm x c, mul_assoc, mul_comm x]

/-- Without noughts at the end. -/
def trim : List UInt8 → List UInt8
  | [] => []
  | c :: p => if trim p = [] then (if c = 0 then [] else [c]) else c :: trim p
theorem co_trim (p : List UInt8) (k : Nat) : co (trim p) k = co p k := by
  induction p generalizing k with
  | nil => rfl
  | cons c p ih =>
    rw [trim]
    split
    · next h =>
      have h0 : ∀ k, co p k = 0 := fun k => by rw [← ih k, h, co_nil]
      split
      · next hc => cases k with
        | zero => rw [co_nil, co_cons_zero, hc]
        | succ k => rw [co_nil, co_cons_succ, h0]
      · cases k with
        | zero => rw [co_cons_zero, co_cons_zero]
        | succ k => rw [co_cons_succ, co_cons_succ, co_nil, h0]
    · cases k with
      | zero => rw [co_cons_zero, co_cons_zero]
      | succ k => rw [co_cons_succ, co_cons_succ, ih]
theorem trim_zero {p : List UInt8} (h : ∀ k, co p k = 0) : trim p = [] := by
  induction p with
  | nil => rfl
  | cons c p ih =>
    have h0 := h 0; rw [co_cons_zero] at h0
    rw [trim, if_pos (ih fun k => by have := h (k + 1); rwa [co_cons_succ] at this), if_pos h0]
theorem trim_ext {p q : List UInt8} (h : ∀ k, co p k = co q k) : trim p = trim q := by
  induction p generalizing q with
  | nil => rw [trim_zero (p := q) (fun k => by rw [← h k, co_nil])]; rfl
  | cons c p ih =>
    cases q with
    | nil => rw [trim_zero (p := c :: p) (fun k => by rw [h k, co_nil])]; rfl
    | cons d q =>
      have h0 := h 0
      rw [co_cons_zero, co_cons_zero] at h0
      rw [trim, trim, h0, ih (q := q) (fun k => by have := h (k + 1); rwa [co_cons_succ, co_cons_succ] at this)]
theorem trim_trim (p : List UInt8) : trim (trim p) = trim p := trim_ext (co_trim p)
theorem ev_trim (p : List UInt8) (x : UInt8) : ev (trim p) x = ev p x := ev_ext (co_trim p) x
theorem trim_len (p : List UInt8) : (trim p).length ≤ p.length := by
  induction p with
  | nil => exact Nat.le_refl _
  | cons c p ih =>
    rw [trim]; split
    · split <;> simp
    · simp; exact ih
theorem trim_last {p : List UInt8} (h : trim p ≠ []) : co p ((trim p).length - 1) ≠ 0 := by
  induction p with
  | nil => exact absurd rfl h
  | cons c p ih =>
    rw [trim] at h ⊢
    by_cases h1 : trim p = []
    · rw [if_pos h1] at h ⊢
      by_cases h2 : c = 0
      · rw [if_pos h2] at h; exact absurd rfl h
      · rw [if_neg h2, co_of_some (x := c) (by simp)]; exact h2
    · rw [if_neg h1] at h ⊢
      have hp : 0 < (trim p).length := List.length_pos_iff.2 h1
      rw [List.length_cons, show (trim p).length + 1 - 1 = ((trim p).length - 1) + 1 by omega, co_cons_succ]
      exact ih h1
theorem trim_le {p : List UInt8} {n : Nat} (h : ∀ k, n ≤ k → co p k = 0) : (trim p).length ≤ n := by
  by_cases h0 : trim p = []
  · rw [h0]; simp
  · rcases Nat.lt_or_ge n (trim p).length with h1 | h1
    · exact absurd (h _ (by omega)) (trim_last h0)
    · exact h1
theorem trim_id {p : List UInt8} (h : 0 < p.length → co p (p.length - 1) ≠ 0) : trim p = p := by
  have hl := trim_len p
  apply ext_co
  · by_cases h0 : 0 < p.length
    · rcases Nat.lt_or_ge (trim p).length p.length with h1 | h1
      · exact absurd (by rw [← co_trim, co_of_le (by omega)]) (h h0)
      · omega
    · omega
  · intro k _; exact co_trim p k
theorem take_trim {p : List UInt8} {n : Nat} (h : n ≤ p.length) (h1 : ∀ k, n ≤ k → co p k = 0) (h2 : 0 < n → co p (n - 1) ≠ 0) : p.take n = trim p := by
  have e : trim (p.take n) = trim p := trim_ext fun k => by
    rw [co_take]; split
    · rfl
    · rw [h1 k (by omega)]
  rw [← e, trim_id]
  intro h0
  have hl : (p.take n).length = n := by rw [List.length_take]; omega
  rw [hl] at h0 ⊢
  rw [co_take, if_pos (by omega)]
  exact h2 h0

/-! ### Sums -/
def padd : List UInt8 → List UInt8 → List UInt8
  | [], q => q
  | c :: p, [] => c :: p
  | c :: p, d :: q => (c ^^^ d) :: padd p q
theorem co_padd (p q : List UInt8) (k : Nat) : co (padd p q) k = co p k ^^^ co q k := by
  induction p generalizing q k with
  | nil => rw [padd, co_nil, zero_xor']
  | cons c p ih =>
    cases q with
    | nil => rw [padd, co_nil, xor_zero']; 
    | cons d q => cases k with
      | zero => rw [padd, co_cons_zero, co_cons_zero, co_cons_zero]
      | succ k => rw [padd, co_cons_succ, co_cons_succ, co_cons_succ, ih]
theorem len_padd (p q : List UInt8) : (padd p q).length = max p.length q.length := by
  induction p generalizing q with
  | nil => simp [padd]
  | cons c p ih => cases q with
    | nil => simp [padd]
    | cons d q => rw [padd, List.length_cons, ih, List.length_cons, List.length_cons]; omega
theorem ev_padd (p q : List UInt8) (x : UInt8) : ev (padd p q) x = ev p x ^^^ ev q x := by
  induction p generalizing q with
  | nil => rw [padd, ev_nil, zero_xor']
  | cons c p ih => cases q with
    | nil => rw [padd, ev_nil, xor_zero']
    | cons d q => rw [padd, ev, ih, ev, ev, mul_add, xor_swap]
theorem padd_nil (p : List UInt8) : padd p [] = p := by cases p <;> rfl
theorem padd_comm (p q : List UInt8) : padd p q = padd q p :=
  ext_co (by rw [len_padd, len_padd]; omega) fun k _ => by rw [co_padd, co_padd, UInt8.xor_comm]

/-! ### Products -/
def pscale (c : UInt8) (p : List UInt8) : List UInt8 := p.map (mul c)
theorem co_pscale (c : UInt8) (p : List UInt8) (k : Nat) : co (pscale c p) k = mul c (co p k) := by
  unfold pscale co; rw [List.getElem?_map]; cases p[k]? <;> simp [mul_zero]
theorem ev_pscale (c : UInt8) (p : List UInt8) (x : UInt8) : ev (pscale c p) x = mul c (ev p x) := by
  induction p with
  | nil => show 0 = mul c 0; rw [mul_zero]
  | cons d p ih =>
    show mul c d ^^^ mul x (ev (pscale c p) x) = mul c (d ^^^ mul x (ev p x))
    rw [ih, mul_add, ← mul_assoc, mul_comm x c, mul_assoc]
def pmul : List UInt8 → List UInt8 → List UInt8
  | [], _ => []
  | c :: p, q => padd (pscale c q) (0 :: pmul p q)
theorem ev_pmul (p q : List UInt8) (x : UInt8) : ev (pmul p q) x = mul (ev p x) (ev q x) := by
  induction p with
  | nil => rw [pmul, ev_nil, zero_mul]
  | cons c p ih => rw [pmul, ev_padd, ev_pscale, ev, ih, zero_xor', ev, Gf.add_mul, mul_assoc]
theorem len_pmul (p q : List UInt8) : (pmul p q).length ≤ p.length + q.length := by
  induction p with
  | nil => simp [pmul]
  | cons c p ih => rw [pmul, len_padd]; simp only [pscale, List.length_map, List.length_cons]; omega
theorem len_pmul' (p : List UInt8) {q : List UInt8} (h : 0 < q.length) : (pmul p q).length ≤ p.length + q.length - 1 := by
  induction p with
  | nil => simp [pmul]
  | cons c p ih => rw [pmul, len_padd]; simp only [pscale, List.length_map, List.length_cons]; omega
/-- The first m terms of the product's coefficient at k. -/
def conv (p q : List UInt8) (k : Nat) : Nat → UInt8
  | 0 => 0
  | m + 1 => conv p q k m ^^^ mul (co p m) (co q (k - m))
theorem conv_cons (c : UInt8) (p q : List UInt8) (k m : Nat) : conv (c :: p) q k (m + 1) = mul c (co q k) ^^^ conv p q (k - 1) m := by
  induction m with
  | zero => show 0 ^^^ mul (co (c :: p) 0) (co q (k - 0)) = mul c (co q k) ^^^ 0; rw [co_cons_zero, Nat.sub_zero, zero_xor', xor_zero']
  | succ m ih =>
    rw [conv, ih, conv, co_cons_succ, UInt8.xor_assoc, show k - (m + 1) = k - 1 - m by omega]
theorem co_pmul (p q : List UInt8) (k : Nat) : co (pmul p q) k = conv p q k (k + 1) := by
  induction p generalizing k with
  | nil =>
    rw [pmul, co_nil]
    have : ∀ m, conv [] q k m = 0 := fun m => by
      induction m with
      | zero => rfl
      | succ m ih => rw [conv, ih, co_nil, zero_mul, xor_zero']
    rw [this]
  | cons c p ih =>
    rw [pmul, co_padd, co_pscale, conv_cons]
    cases k with
    | zero => rw [co_cons_zero]; rfl
    | succ k => rw [co_cons_succ, ih]; rfl

/-! ### Roots -/
/-- What is left when X - r is divided out. -/
def quo : List UInt8 → UInt8 → List UInt8
  | [], _ => []
  | [_], _ => []
  | _ :: d :: p, r => ev (d :: p) r :: quo (d :: p) r
theorem len_quo (p : List UInt8) (r : UInt8) : (quo p r).length = p.length - 1 := by
  induction p with
  | nil => rfl
  | cons c p ih => cases p with
    | nil => rfl
    | cons d p => rw [quo, List.length_cons, ih]; simp
theorem ev_quo (p : List UInt8) (r x : UInt8) : ev p x ^^^ ev p r = mul (x ^^^ r) (ev (quo p r) x) := by
  induction p with
  | nil => show 0 ^^^ 0 = mul _ 0; rw [mul_zero]; rfl
  | cons c p ih => cases p with
    | nil =>
      show (c ^^^ mul x 0) ^^^ (c ^^^ mul r 0) = mul (x ^^^ r) 0
      rw [mul_zero, mul_zero, mul_zero, xor_self']
    | cons d p =>
      have hq : quo (c :: d :: p) r = ev (d :: p) r :: quo (d :: p) r := rfl
      rw [hq]
      generalize d :: p = q at *
      have e : ev (c :: q) x ^^^ ev (c :: q) r = mul x (ev q x) ^^^ mul r (ev q r) := by
        show (c ^^^ mul x (ev q x)) ^^^ (c ^^^ mul r (ev q r)) = _
        rw [xor_swap, xor_self', zero_xor']
      have e2 : ev q x = mul (x ^^^ r) (ev (quo q r) x) ^^^ ev q r := by
        rw [← ih, UInt8.xor_assoc, xor_self', xor_zero']
      rw [e]
      show _ = mul (x ^^^ r) (ev q r ^^^ mul x (ev (quo q r) x))
      rw [mul_add, e2, mul_add, ← mul_assoc x, mul_comm x (x ^^^ r), mul_assoc, UInt8.xor_assoc, ← Gf.add_mul, UInt8.xor_comm]
theorem quo_zero {p : List UInt8} {r : UInt8} (h : ∀ k, co (quo p r) k = 0) (hr : ev p r = 0) : ∀ k, co p k = 0 := by
  induction p with
  | nil => exact co_nil
  | cons c p ih => cases p with
    | nil =>
      intro k
      have hc : c = 0 := by have : c ^^^ mul r 0 = 0 := hr; rwa [mul_zero, xor_zero'] at this
      cases k with
      | zero => rw [co_cons_zero, hc]
      | succ k => rw [co_cons_succ, co_nil]
    | cons d p =>
      have h0 := h 0
      rw [quo, co_cons_zero] at h0
      have h1 := ih (fun k => by have := h (k + 1); rwa [quo, co_cons_succ] at this) h0
      intro k
      cases k with
      | zero =>
        rw [co_cons_zero]
        rw [ev, h0, mul_zero, xor_zero'] at hr
        exact hr
      | succ k => rw [co_cons_succ, h1]
/-- As many roots as coefficients: it is nought. -/
theorem all_zero {rs p : List UInt8} (hd : rs.Nodup) (hr : ∀ r ∈ rs, ev p r = 0) (hl : p.length ≤ rs.length) : ∀ k, co p k = 0 := by
  induction rs generalizing p with
  | nil => 
    have : p = [] := List.eq_nil_of_length_eq_zero (by simpa using hl)
    subst this; exact co_nil
  | cons r rs ih =>
    obtain ⟨hn, hd'⟩ := List.nodup_cons.1 hd
    have h0 := hr r (by simp)
    refine quo_zero (r := r) (ih hd' (fun s hs => ?_) (by rw [len_quo]; simp at hl; omega)) h0
    have h1 := hr s (by simp [hs])
    have h2 := ev_quo p r s
    rw [h1, h0, xor_self'] at h2
    rcases no_zero h2.symm with h3 | h3
    · exact absurd (xor_eq_zero h3 ▸ hs) hn
    · exact h3
theorem roots_lt {rs p : List UInt8} (hd : rs.Nodup) (hr : ∀ r ∈ rs, ev p r = 0) (hp : trim p ≠ []) : rs.length < (trim p).length := by
  rcases Nat.lt_or_ge rs.length (trim p).length with h | h
  · exact h
  · have := all_zero hd (p := trim p) (fun r hr' => by rw [ev_trim]; exact hr r hr') h
    exact absurd (by rw [← trim_trim]; exact trim_zero this) hp

/-- r is the polynomial through the points. -/
def Thru (xs ys r : List UInt8) : Prop := trim r = r ∧ r.length ≤ xs.length ∧ ∀ (i : Nat) (x y : UInt8), xs[i]? = some x → ys[i]? = some y → ev r x = y
theorem thru_unique {xs ys r s : List UInt8} (hd : xs.Nodup) (hl : xs.length = ys.length) (h1 : Thru xs ys r) (h2 : Thru xs ys s) : r = s := by
  obtain ⟨a1, a2, a3⟩ := h1
  obtain ⟨b1, b2, b3⟩ := h2
  have h := all_zero (rs := xs) (p := padd r s) hd (fun x hx => by
    obtain ⟨i, hi, rfl⟩ := List.mem_iff_getElem.1 hx
    rw [ev_padd, a3 i _ _ (List.getElem?_eq_getElem hi) (List.getElem?_eq_getElem (by omega)), b3 i _ _ (List.getElem?_eq_getElem hi) (List.getElem?_eq_getElem (by omega)), xor_self']) (by rw [len_padd]; omega)
  rw [← a1, ← b1]
  refine trim_ext fun k => xor_eq_zero ?_
  rw [← co_padd, h]
end Go.Proofs.Ytpjopdemhdeelaa.Poly
