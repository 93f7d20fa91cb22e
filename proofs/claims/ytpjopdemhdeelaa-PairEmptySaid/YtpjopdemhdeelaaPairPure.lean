/-
  Double parity, pure: both sums are values of a polynomial whose terms are the bytes at a place.
-/
import Derived.Test.YtpjopdemhdeelaaFillRef
namespace Go.Proofs.Ytpjopdemhdeelaa.Pair
set_option linter.unusedVariables false
open Gf Mem Poly Cdr

/-- The rows' length. -/
def wide (rows : List (List UInt8)) : Nat := (rows.headD []).length
/-- The sum with weights 1, x, x^2 .. at place i. -/
def sumAt (x : UInt8) (rows : List (List UInt8)) (i : Nat) : UInt8 := ev (col rows i) x
def par (x : UInt8) (rows : List (List UInt8)) : List UInt8 := (List.range (wide rows)).map (sumAt x rows)
theorem par_len (x : UInt8) (rows : List (List UInt8)) : (par x rows).length = wide rows := by simp [par]
theorem par_at {x : UInt8} {rows : List (List UInt8)} {i : Nat} (h : i < wide rows) : (par x rows)[i]? = some (sumAt x rows i) := by
  unfold par; rw [List.getElem?_map, List.getElem?_range h]; rfl
theorem co_par {x : UInt8} {rows : List (List UInt8)} {i : Nat} (h : i < wide rows) : co (par x rows) i = sumAt x rows i := co_of_some (par_at h)
/-- The first k places. -/
def parTo (x : UInt8) (rows : List (List UInt8)) (k : Nat) : List UInt8 := (List.range k).map (sumAt x rows)
theorem parTo_len (x : UInt8) (rows : List (List UInt8)) (k : Nat) : (parTo x rows k).length = k := by simp [parTo]
theorem parTo_succ (x : UInt8) (rows : List (List UInt8)) (k : Nat) : parTo x rows (k + 1) = parTo x rows k ++ [sumAt x rows k] := by
  unfold parTo; rw [List.range_succ, List.map_append]; rfl
theorem parTo_all (x : UInt8) (rows : List (List UInt8)) : parTo x rows (wide rows) = par x rows := rfl

/-- The sum over the rows from number k on. -/
def sumFrom (x : UInt8) (rows : List (List UInt8)) (i k : Nat) : UInt8 := ev ((col rows i).drop k) x
theorem sumFrom_zero (x : UInt8) (rows : List (List UInt8)) (i : Nat) : sumFrom x rows i 0 = sumAt x rows i := rfl
theorem sumFrom_all (x : UInt8) (rows : List (List UInt8)) (i : Nat) : sumFrom x rows i rows.length = 0 := ev_dropped (by rw [col_len]; exact Nat.le_refl _) x
theorem col_at {rows : List (List UInt8)} {i k : Nat} {r : List UInt8} {c : UInt8} (hr : rows[k]? = some r) (hc : r[i]? = some c) : (col rows i)[k]? = some c := by
  unfold col; rw [List.getElem?_map, hr]; show some (co r i) = _; rw [co_of_some hc]
theorem sumFrom_next {x : UInt8} {rows : List (List UInt8)} {i k : Nat} {r : List UInt8} {c : UInt8} (hr : rows[k]? = some r) (hc : r[i]? = some c) : sumFrom x rows i k = xor8 (mul (sumFrom x rows i (k + 1)) x) c :=
  ev_drop x (col_at hr hc)
theorem sumFrom_one {rows : List (List UInt8)} {i k : Nat} {r : List UInt8} {c : UInt8} (hr : rows[k]? = some r) (hc : r[i]? = some c) : sumFrom 1 rows i k = xor8 (sumFrom 1 rows i (k + 1)) c := by
  rw [sumFrom_next hr hc, mul_one]

/-! ### One row is another one -/
theorem ev_set {l : List UInt8} {a : Nat} (h : a < l.length) (v x : UInt8) : ev (l.set a v) x = ev l x ^^^ mul (pow x a) (v ^^^ co l a) := by
  induction l generalizing a with
  | nil => simp at h
  | cons c l ih =>
    cases a with
    | zero =>
      show v ^^^ mul x (ev l x) = (c ^^^ mul x (ev l x)) ^^^ mul (pow x 0) (v ^^^ co (c :: l) 0)
      rw [co_cons_zero, show pow x 0 = 1 from rfl, one_mul]
      generalize mul x (ev l x) = t
      rw [UInt8.xor_comm c t, UInt8.xor_assoc, UInt8.xor_comm v c, ← UInt8.xor_assoc c c, xor_self', zero_xor', UInt8.xor_comm]
    | succ a =>
      show c ^^^ mul x (ev (l.set a v) x) = (c ^^^ mul x (ev l x)) ^^^ mul (pow x (a + 1)) (v ^^^ co (c :: l) (a + 1))
      rw [ih (by simpa using h), mul_add, co_cons_succ, UInt8.xor_assoc, ← mul_assoc, show mul x (pow x a) = pow x (a + 1) by rw [pow, mul_comm]]
theorem col_set (rows : List (List UInt8)) (a : Nat) (r : List UInt8) (i : Nat) : col (rows.set a r) i = (col rows i).set a (co r i) := by
  unfold col; rw [List.map_set]
theorem co_col {rows : List (List UInt8)} {a : Nat} {d : List UInt8} (h : rows[a]? = some d) (i : Nat) : co (col rows i) a = co d i := by
  unfold col co; rw [List.getElem?_map, h]; rfl
theorem sum_set {rows : List (List UInt8)} {a : Nat} {d : List UInt8} (h : rows[a]? = some d) (r : List UInt8) (x : UInt8) (i : Nat) : sumAt x (rows.set a r) i = sumAt x rows i ^^^ mul (pow x a) (co r i ^^^ co d i) := by
  unfold sumAt
  rw [col_set, ev_set (by rw [col_len]; exact (List.getElem?_eq_some_iff.1 h).1), co_col h]
theorem pow_one (n : Nat) : pow 1 n = 1 := by
  induction n with
  | zero => rfl
  | succ n ih => rw [pow, ih, one_mul]
theorem sum_set1 {rows : List (List UInt8)} {a : Nat} {d : List UInt8} (h : rows[a]? = some d) (r : List UInt8) (i : Nat) : sumAt 1 (rows.set a r) i = sumAt 1 rows i ^^^ (co r i ^^^ co d i) := by
  rw [sum_set h, pow_one, one_mul]
theorem wide_set {rows : List (List UInt8)} {a : Nat} {r : List UInt8} (hr : r.length = wide rows) : wide (rows.set a r) = wide rows := by
  cases rows with
  | nil => rfl
  | cons q l => cases a with
    | zero => exact hr
    | succ a => rfl
theorem even_set {rows : List (List UInt8)} {a : Nat} {r : List UInt8} (he : evenB rows = true) (hr : r.length = wide rows) : evenB (rows.set a r) = true := by
  refine List.all_eq_true.2 fun q hq => ?_
  have hw : ((rows.set a r).headD []).length = wide rows := wide_set hr
  rw [hw]
  rcases List.mem_or_eq_of_mem_set hq with h | rfl
  · have := List.all_eq_true.1 he q h
    exact this
  · simpa using hr
theorem even_len {rows : List (List UInt8)} (he : evenB rows = true) {k : Nat} {r : List UInt8} (hr : rows[k]? = some r) : r.length = wide rows := evenB_len he hr
/-- Rows of the rows' length are told by their bytes. -/
theorem row_ext {p q : List UInt8} {n : Nat} (hp : p.length = n) (hq : q.length = n) (h : ∀ i, i < n → co p i = co q i) : p = q := ext_co (by omega) fun i hi => h i (by omega)
theorem par_eq {x : UInt8} {rows : List (List UInt8)} {p : List UInt8} (hl : p.length = wide rows) (h : ∀ i, i < wide rows → co p i = sumAt x rows i) : p = par x rows :=
  row_ext hl (par_len x rows) fun i hi => by rw [h i hi, co_par hi]
theorem par_sum {x : UInt8} {rows : List (List UInt8)} {p : List UInt8} (h : par x rows = p) {i : Nat} (hi : i < wide rows) : sumAt x rows i = co p i := by rw [← h, co_par hi]

theorem xor_cancel {a b c : UInt8} (h : a ^^^ b = a ^^^ c) : b = c := by
  have h1 : a ^^^ (a ^^^ b) = a ^^^ (a ^^^ c) := by rw [h]
  rwa [← UInt8.xor_assoc, ← UInt8.xor_assoc, xor_self', zero_xor', zero_xor'] at h1
theorem xor_zero_of {a b : UInt8} (h : a ^^^ b = a) : b = 0 := xor_cancel (h.trans (xor_zero' a).symm)

/-- One that is lost is told by the first sum. -/
theorem one_unique {rows : List (List UInt8)} {a : Nat} {d o : List UInt8} (h : rows[a]? = some d) (hd : d.length = wide rows) (ho : o.length = wide rows) (he : par 1 (rows.set a o) = par 1 rows) : o = d := by
  refine row_ext ho hd fun i hi => ?_
  have e : sumAt 1 (rows.set a o) i = sumAt 1 rows i := by
    rw [← co_par (rows := rows.set a o) (by rw [wide_set ho]; exact hi), he, co_par hi]
  rw [sum_set1 h] at e
  exact xor_eq_zero (xor_zero_of e)
theorem pow2_ne {a b : Nat} (ha : a < 255) (hb : b < 255) (h : a ≠ b) : pow 2 a ^^^ pow 2 b ≠ 0 := fun e => h (pow2_inj ha hb (xor_eq_zero e))
/-- Two that are lost are told by both. -/
theorem two_unique {rows : List (List UInt8)} {a b : Nat} {d c u v : List UInt8} (hab : a ≠ b) (ha : rows[a]? = some d) (hb : rows[b]? = some c) (hn : rows.length ≤ 255)
    (hd : d.length = wide rows) (hc : c.length = wide rows) (hu : u.length = wide rows) (hv : v.length = wide rows)
    (h1 : par 1 ((rows.set a u).set b v) = par 1 rows) (h2 : par 2 ((rows.set a u).set b v) = par 2 rows) : u = d ∧ v = c := by
  have hb' : (rows.set a u)[b]? = some c := by rw [List.getElem?_set_ne hab, hb]
  have hw : wide ((rows.set a u).set b v) = wide rows := by rw [wide_set (by rw [wide_set hu]; exact hv), wide_set hu]
  have ha2 := (List.getElem?_eq_some_iff.1 ha).1
  have hb2 := (List.getElem?_eq_some_iff.1 hb).1
  have key : ∀ i, i < wide rows → co u i = co d i ∧ co v i = co c i := fun i hi => by
    have e : ∀ x, par x ((rows.set a u).set b v) = par x rows → mul (pow x a) (co u i ^^^ co d i) ^^^ mul (pow x b) (co v i ^^^ co c i) = 0 := fun x hx => by
      have h3 : sumAt x ((rows.set a u).set b v) i = sumAt x rows i := by
        rw [← co_par (rows := (rows.set a u).set b v) (by rw [hw]; exact hi), hx, co_par hi]
      rw [sum_set hb', sum_set ha, UInt8.xor_assoc] at h3
      exact xor_zero_of h3
    have e1 := e 1 h1
    have e2 := e 2 h2
    rw [pow_one, pow_one, one_mul, one_mul] at e1
    have e3 := xor_eq_zero e1
    rw [← e3, ← Gf.add_mul] at e2
    have e4 : co u i ^^^ co d i = 0 := by
      rcases no_zero e2 with h | h
      · exact absurd h (pow2_ne (by omega) (by omega) hab)
      · exact h
    exact ⟨xor_eq_zero e4, xor_eq_zero (by rw [← e3]; exact e4)⟩
  exact ⟨row_ext hu hd fun i hi => (key i hi).1, row_ext hv hc fun i hi => (key i hi).2⟩

/-! ### What is wrong with the rows -/
def wrongE (rows : List (List UInt8)) : Int := if rows.length = 0 ∨ 255 < rows.length then 2 else if evenB rows then 0 else 1
theorem wrongE_ok {rows : List (List UInt8)} (h : wrongE rows = 0) : 0 < rows.length ∧ rows.length ≤ 255 ∧ evenB rows = true := by
  unfold wrongE at h
  split at h
  · cases h
  · split at h
    · exact ⟨by omega, by omega, by assumption⟩
    · cases h
theorem wrongE_of {rows : List (List UInt8)} (h0 : 0 < rows.length) (h1 : rows.length ≤ 255) (h2 : evenB rows = true) : wrongE rows = 0 := by
  unfold wrongE; rw [if_neg (by omega), if_pos h2]
theorem wrongE_set {rows : List (List UInt8)} {a : Nat} {r : List UInt8} (h : wrongE rows = 0) (hr : r.length = wide rows) : wrongE (rows.set a r) = 0 := by
  obtain ⟨h0, h1, h2⟩ := wrongE_ok h
  exact wrongE_of (by simpa using h0) (by simpa using h1) (even_set h2 hr)

/-! ### Who is wrong -/
def Finds (n : Nat) (dx dy : UInt8) (k err : Int) : Prop :=
  (dx = 0 ∧ dy = 0 ∧ err = 3 ∧ k = 0) ∨ (dx ≠ 0 ∧ dy = 0 ∧ err = 0 ∧ k = -1) ∨ (dx = 0 ∧ dy ≠ 0 ∧ err = 0 ∧ k = -2) ∨
  (dx ≠ 0 ∧ dy ≠ 0 ∧ ∃ i : Nat, i < n ∧ mul (pow 2 i) dx = dy ∧ err = 0 ∧ k = i) ∨ (dx ≠ 0 ∧ dy ≠ 0 ∧ (∀ i, i < n → mul (pow 2 i) dx ≠ dy) ∧ err = 7 ∧ k = 0)
theorem finds_one {n : Nat} {dx : UInt8} {i j : Nat} (hn : n ≤ 255) (hi : i < n) (hj : j < n) (h0 : dx ≠ 0) (h : mul (pow 2 i) dx = mul (pow 2 j) dx) : i = j := by
  have e : mul (pow 2 i ^^^ pow 2 j) dx = 0 := by rw [Gf.add_mul, h, xor_self']
  rcases no_zero e with h1 | h1
  · exact pow2_inj (by omega) (by omega) (xor_eq_zero h1)
  · exact absurd h1 h0
theorem pow2_nz (i : Nat) : pow 2 i ≠ 0 := fun h => by
  have h1 : pow 2 (i % 255) = 0 := by rw [pow_mod (by decide)]; exact h
  have h2 := pow_add 2 (i % 255) (255 - i % 255)
  rw [show i % 255 + (255 - i % 255) = 255 by omega, pow_255 (by decide), h1, zero_mul] at h2
  exact absurd h2 (by decide)
theorem sum_snoc0 (x : UInt8) (rows : List (List UInt8)) (n i : Nat) : sumAt x (rows ++ [List.replicate n 0]) i = sumAt x rows i := by
  unfold sumAt col
  rw [List.map_append, List.map_singleton, co_replicate, ev_snoc, zero_mul, xor_zero']
end Go.Proofs.Ytpjopdemhdeelaa.Pair
