/-
  The reference's DFill: what stands at a number, byte by byte.
-/
import Derived.Test.YtpjopdemhdeelaaCoderRef
namespace Go.Proofs.Ytpjopdemhdeelaa.Cdr
set_option linter.unusedVariables false
open Go.RowKit Gf Mem Poly

/-- The bytes of all rows at place k. -/
def col (rows : List (List UInt8)) (k : Nat) : List UInt8 := rows.map fun r => co r k
theorem col_len (rows : List (List UInt8)) (k : Nat) : (col rows k).length = rows.length := by simp [col]
theorem col_next {rows : List (List UInt8)} {k i : Nat} {r : List UInt8} {x : UInt8} (hr : rows[i]? = some r) (hx : r[k]? = some x) : (col rows k).take (i + 1) = (col rows k).take i ++ [x] := by
  refine Poly.take_next ?_
  unfold col; rw [List.getElem?_map, hr]; show some (co r k) = _; rw [co_of_some hx]
def colTo (rows : List (List UInt8)) (k j : Nat) : List UInt8 := (col rows k).take j
theorem colTo_len {rows : List (List UInt8)} {k j : Nat} (h : j ≤ rows.length) : (colTo rows k j).length = j := Poly.take_len (by rw [col_len]; exact h)
theorem colTo_next {rows : List (List UInt8)} {k i : Nat} {r : List UInt8} {x : UInt8} (hr : rows[i]? = some r) (hx : r[k]? = some x) : colTo rows k (i + 1) = colTo rows k i ++ [x] := col_next hr hx
theorem colTo_all (rows : List (List UInt8)) (k : Nat) : colTo rows k rows.length = col rows k := List.take_of_length_le (by rw [col_len]; exact Nat.le_refl _)
/-- out holds, place by place, the values at 'at' of the polynomials through the columns. -/
def Fill (xs : List UInt8) (rows : List (List UInt8)) (v : UInt8) (out : List UInt8) : Prop := ∀ (k : Nat) (y : UInt8), out[k]? = some y → ∃ p, Thru xs (col rows k) p ∧ y = ev p v
theorem fill_nil (xs : List UInt8) (rows : List (List UInt8)) (v : UInt8) : Fill xs rows v [] := fun k y h => by simp at h
theorem fill_snoc {xs : List UInt8} {rows : List (List UInt8)} {v : UInt8} {out p : List UInt8} (h : Fill xs rows v out) (hp : Thru xs (col rows out.length) p) : Fill xs rows v (out ++ [ev p v]) := fun k y hy => by
  by_cases hk : k < out.length
  · rw [List.getElem?_append_left hk] at hy; exact h k y hy
  · rw [List.getElem?_append_right (by omega)] at hy
    have h0 : k - out.length = 0 := by
      rcases Nat.eq_zero_or_pos (k - out.length) with h3 | h3
      · exact h3
      · rw [List.getElem?_eq_none (by simp; omega)] at hy; cases hy
    rw [h0] at hy
    simp at hy
    obtain rfl : k = out.length := by omega
    exact ⟨p, hp, hy.symm⟩
theorem fill_unique {xs : List UInt8} {rows : List (List UInt8)} {v : UInt8} {out out' : List UInt8} (hd : xs.Nodup) (hl : xs.length = rows.length) (h : Fill xs rows v out) (h' : Fill xs rows v out') (hlen : out.length = out'.length) : out = out' := by
  apply List.ext_getElem hlen
  intro k h1 h2
  obtain ⟨p, hp, e⟩ := h k _ (List.getElem?_eq_getElem h1)
  obtain ⟨q, hq, e'⟩ := h' k _ (List.getElem?_eq_getElem h2)
  rw [e, e', thru_unique hd (by rw [col_len, hl]) hp hq]

end Go.Proofs.Ytpjopdemhdeelaa.Cdr
