/-
  Of rows that are sums what is added is the sum: the polynomials' part.
-/
import Derived.Test.YtomhcjnhhdbhjaaRsPure
namespace Go.Proofs.Ytomhcjnhhdbhjaa.Cdr
set_option linter.unusedVariables false
open Go.RowKit Gf Mem Poly

def xr (p q : List UInt8) : List UInt8 := List.zipWith (· ^^^ ·) p q
theorem xr_len {p q : List UInt8} (h : p.length ≤ q.length) : (xr p q).length = p.length := by unfold xr; rw [List.length_zipWith]; omega
theorem xr_at {p q : List UInt8} {k : Nat} {x y : UInt8} (hx : p[k]? = some x) (hy : q[k]? = some y) : (xr p q)[k]? = some (x ^^^ y) := by
  unfold xr; rw [List.getElem?_zipWith, hx, hy]
theorem co_xr {p q : List UInt8} (h : p.length = q.length) (k : Nat) : co (xr p q) k = co p k ^^^ co q k := by
  by_cases hk : k < p.length
  · exact co_of_some (xr_at (getElem?_of_co hk) (getElem?_of_co (by omega)))
  · rw [co_of_le (by rw [xr_len (by omega)]; omega), co_of_le (by omega), co_of_le (by omega)]; rfl
def xrows (a b : List (List UInt8)) : List (List UInt8) := List.zipWith xr a b
theorem xrows_len {a b : List (List UInt8)} (h : a.length ≤ b.length) : (xrows a b).length = a.length := by unfold xrows; rw [List.length_zipWith]; omega
theorem xrows_at {a b : List (List UInt8)} {i : Nat} {p q : List UInt8} (hp : a[i]? = some p) (hq : b[i]? = some q) : (xrows a b)[i]? = some (xr p q) := by
  unfold xrows; rw [List.getElem?_zipWith, hp, hq]
theorem xrows_of {a b : List (List UInt8)} {i : Nat} {r : List UInt8} (h : (xrows a b)[i]? = some r) : ∃ p q, a[i]? = some p ∧ b[i]? = some q ∧ r = xr p q := by
  unfold xrows at h; rw [List.getElem?_zipWith] at h
  cases hp : a[i]? with
  | none => rw [hp] at h; cases h
  | some p =>
    cases hq : b[i]? with
    | none => rw [hp, hq] at h; cases h
    | some q => rw [hp, hq] at h; injection h with h; exact ⟨p, q, rfl, rfl, h.symm⟩
/-- Two tables of the same shape. -/
structure Shaped (a b : List (List UInt8)) : Prop where
  pos : 0 < a.length
  len : a.length = b.length
  ea : evenB a = true
  eb : evenB b = true
  head : (a.headD []).length = (b.headD []).length
theorem Shaped.row {a b : List (List UInt8)} (h : Shaped a b) {i : Nat} {p q : List UInt8} (hp : a[i]? = some p) (hq : b[i]? = some q) : p.length = (a.headD []).length ∧ q.length = p.length := by
  have h1 := evenB_len h.ea hp
  have h2 := evenB_len h.eb hq
  exact ⟨h1, by rw [h1, h2, h.head]⟩
theorem head_at {a : List (List UInt8)} (h : 0 < a.length) : a[0]? = some (a.headD []) := by
  cases a with
  | nil => simp at h
  | cons r l => rfl
theorem Shaped.head_sum {a b : List (List UInt8)} (h : Shaped a b) : ((xrows a b).headD []).length = (a.headD []).length := by
  have h1 := head_at h.pos
  have h2 := head_at (a := b) (by have := h.pos; have := h.len; omega)
  have h3 := xrows_at h1 h2
  have h4 := head_at (a := xrows a b) (by rw [xrows_len (by have := h.len; omega)]; exact h.pos)
  rw [h3] at h4
  injection h4 with h4
  rw [← h4, xr_len (by have := h.head; omega)]
theorem Shaped.even_sum {a b : List (List UInt8)} (h : Shaped a b) : evenB (xrows a b) = true := by
  unfold evenB
  rw [List.all_eq_true]
  intro r hr
  obtain ⟨i, hi⟩ := List.mem_iff_getElem?.1 hr
  obtain ⟨p, q, hp, hq, rfl⟩ := xrows_of hi
  obtain ⟨l1, l2⟩ := h.row hp hq
  rw [h.head_sum, xr_len (by omega), l1]
  exact beq_self_eq_true _
theorem adds_sum {a b x y z : List (List UInt8)} {m : Nat} (h : Shaped a b) (hn : a.length ≤ 256) (hx : Adds a m x) (hy : Adds b m y) (hz : Adds (xrows a b) m z) : z = xrows x y := by
  have hlen : (xrows a b).length = a.length := xrows_len (by have := h.len; omega)
  apply List.ext_getElem (by rw [hz.1, xrows_len (by rw [hx.1, hy.1]; exact Nat.le_refl _), hx.1])
  intro j h1 h2
  have ez := List.getElem?_eq_getElem h1
  obtain ⟨p, q, hp, hq, e⟩ := xrows_of (List.getElem?_eq_getElem h2)
  rw [e]
  obtain ⟨lp, fp⟩ := hx.2 j p hp
  obtain ⟨lq, fq⟩ := hy.2 j q hq
  obtain ⟨lz, fz⟩ := hz.2 j _ ez
  rw [h.head_sum] at lz
  have lpq : p.length = q.length := by rw [lp, lq, h.head]
  apply ext_co (by rw [xr_len (by omega), lz, lp])
  intro k hk
  rw [co_xr lpq]
  obtain ⟨P, hP, e1⟩ := fp k (co p k) (getElem?_of_co (by omega))
  obtain ⟨Q, hQ, e2⟩ := fq k (co q k) (getElem?_of_co (by omega))
  obtain ⟨R, hR, e3⟩ := fz k (co z[j] k) (getElem?_of_co hk)
  rw [← h.len] at hQ e2
  rw [hlen] at hR e3
  have hS : Thru (idx a.length) (col (xrows a b) k) (trim (padd P Q)) := by
    refine ⟨trim_trim _, Nat.le_trans (trim_len _) (by rw [len_padd]; exact Nat.max_le.2 ⟨hP.2.1, hQ.2.1⟩), fun i u v hu hv => ?_⟩
    unfold col at hv
    rw [List.getElem?_map] at hv
    cases hi : (xrows a b)[i]? with
    | none => rw [hi] at hv; cases hv
    | some r =>
      rw [hi] at hv
      obtain ⟨p', q', hp', hq', rfl⟩ := xrows_of hi
      simp at hv
      rw [ev_trim, ev_padd, hP.2.2 i u _ hu (col_at hp' k), hQ.2.2 i u _ hu (col_at hq' k), ← hv, co_xr (by have := (h.row hp' hq').2; omega)]
  rw [e1, e2, e3, thru_unique (idx_nodup hn) (by rw [idx_len, col_len, hlen]) hR hS, ev_trim, ev_padd]
theorem more_sum {a b x y z : List (List UInt8)} {m : Int} {err : Int} (h : Shaped a b) (hb : ¬ badMore a.length m) (hx : Adds a m.toNat x) (hy : Adds b m.toNat y) (hz : MoreIs (xrows a b) m z err) : err = 0 ∧ z = xrows x y := by
  have hlen : (xrows a b).length = a.length := xrows_len (by have := h.len; omega)
  rcases hz with ⟨h1, _⟩ | ⟨_, h1, _⟩ | ⟨_, _, h1, h2⟩
  · rw [hlen] at h1; exact absurd h1 hb
  · rw [h.even_sum] at h1; cases h1
  · exact ⟨h1, adds_sum h (by unfold badMore at hb; omega) hx hy h2⟩
end Go.Proofs.Ytomhcjnhhdbhjaa.Cdr
