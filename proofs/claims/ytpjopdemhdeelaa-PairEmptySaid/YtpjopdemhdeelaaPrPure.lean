/-
  Package pair, pure: rows that are lost count as rows of zeros; both sums step by step; two equations for two rows.
-/
import Derived.Test.YtpjopdemhdeelaaPairSpec
namespace Go.Proofs.Ytpjopdemhdeelaa.Pair
set_option linter.unusedVariables false
open Gf Mem Poly Cdr

/-- The rows, those at the numbers in ls zeros. -/
def lose (ls : List Int) (rows : List (List UInt8)) : List (List UInt8) := rows.mapIdx fun i r => if ls.contains (i : Int) then List.replicate r.length 0 else r
theorem lose_len (ls : List Int) (rows : List (List UInt8)) : (lose ls rows).length = rows.length := by simp [lose]
theorem lose_at {ls : List Int} {rows : List (List UInt8)} {i : Nat} {r : List UInt8} (h : rows[i]? = some r) : (lose ls rows)[i]? = some (if ls.contains (i : Int) then List.replicate r.length 0 else r) := by
  unfold lose; rw [List.getElem?_mapIdx, h]; rfl
theorem lose_in {ls : List Int} {rows : List (List UInt8)} {i : Nat} {r : List UInt8} (h : rows[i]? = some r) (hc : ls.contains (i : Int) = true) : (lose ls rows)[i]? = some (List.replicate r.length 0) := by
  rw [lose_at h, hc]; rfl
theorem lose_out {ls : List Int} {rows : List (List UInt8)} {i : Nat} {r : List UInt8} (h : rows[i]? = some r) (hc : ls.contains (i : Int) = false) : (lose ls rows)[i]? = some r := by
  rw [lose_at h, hc]; rfl
theorem lose_nil (rows : List (List UInt8)) : lose [] rows = rows := by
  apply List.ext_getElem?
  intro i
  cases h : rows[i]? with
  | none => rw [List.getElem?_eq_none (by rw [lose_len]; exact List.getElem?_eq_none_iff.1 h)]
  | some r => exact lose_out h rfl
theorem zeros_len (n : Nat) : (List.replicate n (0 : UInt8)).length = n := List.length_replicate
theorem lose_one (rows : List (List UInt8)) (a : Nat) {n : Nat} (he : ∀ (k : Nat) (r : List UInt8), rows[k]? = some r → r.length = n) : lose [(a : Int)] rows = rows.set a (List.replicate n 0) := by
  apply List.ext_getElem?
  intro i
  rw [List.getElem?_set]
  cases h : rows[i]? with
  | none =>
    have h1 := List.getElem?_eq_none_iff.1 h
    rw [List.getElem?_eq_none (by rw [lose_len]; exact h1)]
    split
    · rename_i e; subst e; rw [if_neg (by omega)]
    · rfl
  | some r =>
    have h1 := (List.getElem?_eq_some_iff.1 h).1
    rw [lose_at h, he i r h]
    by_cases e : a = i
    · subst e; rw [if_pos rfl, if_pos h1, if_pos (by simp)]
    · rw [if_neg e, if_neg (by simp; omega)]
theorem lose_two (rows : List (List UInt8)) (a b : Nat) {n : Nat} (he : ∀ (k : Nat) (r : List UInt8), rows[k]? = some r → r.length = n) : lose [(a : Int), (b : Int)] rows = (rows.set a (List.replicate n 0)).set b (List.replicate n 0) := by
  apply List.ext_getElem?
  intro i
  rw [List.getElem?_set, List.getElem?_set, List.length_set]
  cases h : rows[i]? with
  | none =>
    have h1 := List.getElem?_eq_none_iff.1 h
    rw [List.getElem?_eq_none (by rw [lose_len]; exact h1)]
    split
    · rename_i e; subst e; rw [if_neg (by omega)]
    · split
      · rename_i e; subst e; rw [if_neg (by omega)]
      · rfl
  | some r =>
    have h1 := (List.getElem?_eq_some_iff.1 h).1
    rw [lose_at h, he i r h]
    by_cases e : b = i
    · subst e; rw [if_pos rfl, if_pos h1, if_pos (by simp)]
    · rw [if_neg e]
      by_cases e2 : a = i
      · subst e2; rw [if_pos rfl, if_pos h1, if_pos (by simp)]
      · rw [if_neg e2, if_neg (by simp; omega)]
theorem lose_even {ls : List Int} {rows : List (List UInt8)} {n : Nat} (he : ∀ (k : Nat) (r : List UInt8), rows[k]? = some r → r.length = n) : ∀ (k : Nat) (r : List UInt8), (lose ls rows)[k]? = some r → r.length = n := fun k r h => by
  cases h0 : rows[k]? with
  | none => rw [List.getElem?_eq_none (by rw [lose_len]; exact List.getElem?_eq_none_iff.1 h0)] at h; cases h
  | some q =>
    rw [lose_at h0] at h; injection h with h; subst h
    split
    · rw [List.length_replicate]; exact he k q h0
    · exact he k q h0
theorem wide_of {rows : List (List UInt8)} {n : Nat} (h0 : 0 < rows.length) (he : ∀ (k : Nat) (r : List UInt8), rows[k]? = some r → r.length = n) : wide rows = n := by
  cases rows with
  | nil => simp at h0
  | cons r l => exact he 0 r rfl
theorem lose_wide (ls : List Int) (rows : List (List UInt8)) : wide (lose ls rows) = wide rows := by
  cases rows with
  | nil => rfl
  | cons r l =>
    unfold wide lose
    rw [List.mapIdx_cons]
    show (if ls.contains ((0 : Nat) : Int) = true then List.replicate r.length 0 else r).length = r.length
    split
    · exact List.length_replicate
    · rfl

/-! ### Adding a row -/
/-- The first k places of q added to l. -/
def plusTo (l q : List UInt8) (k : Nat) : List UInt8 := (List.range l.length).map fun i => if i < k then co l i ^^^ co q i else co l i
def plus (l q : List UInt8) : List UInt8 := plusTo l q l.length
theorem plusTo_len (l q : List UInt8) (k : Nat) : (plusTo l q k).length = l.length := by simp [plusTo]
theorem plus_len (l q : List UInt8) : (plus l q).length = l.length := plusTo_len l q _
theorem plusTo_get {l q : List UInt8} {k i : Nat} (h : i < l.length) : (plusTo l q k)[i]? = some (if i < k then co l i ^^^ co q i else co l i) := by
  unfold plusTo; rw [List.getElem?_map, List.getElem?_range h]; rfl
theorem plusTo_zero (l q : List UInt8) : plusTo l q 0 = l := ext_co (plusTo_len _ _ _) fun i hi => by
  rw [plusTo_len] at hi; exact co_of_some ((plusTo_get hi).trans (by rw [if_neg (by omega)]))
theorem plusTo_at {l q : List UInt8} {k : Nat} (h : k < l.length) : (plusTo l q k)[k]? = some (co l k) := by rw [plusTo_get h, if_neg (by omega)]
theorem plusTo_next {l q : List UInt8} {k : Nat} {c : UInt8} (hk : k < l.length) (hq : q[k]? = some c) : (plusTo l q k).set k (xor8 (co l k) c) = plusTo l q (k + 1) := by
  apply List.ext_getElem?
  intro i
  rw [List.getElem?_set, plusTo_len]
  rcases Nat.lt_or_ge i l.length with h | h
  · rw [plusTo_get h, plusTo_get h]
    by_cases e : k = i
    · subst e; rw [if_pos rfl, if_pos h, if_pos (by omega), co_of_some hq]; rfl
    · rw [if_neg e]
      by_cases h2 : i < k
      · rw [if_pos h2, if_pos (by omega)]
      · rw [if_neg h2, if_neg (by omega)]
  · rw [if_neg (by omega), List.getElem?_eq_none (by rw [plusTo_len]; exact h), List.getElem?_eq_none (by rw [plusTo_len]; exact h)]
theorem plusTo_end {l q : List UInt8} (h : q.length = l.length) : plusTo l q q.length = plus l q := by rw [h]; rfl
theorem co_plus {l q : List UInt8} {i : Nat} (h : i < l.length) : co (plus l q) i = co l i ^^^ co q i := co_of_some ((plusTo_get h).trans (by rw [if_pos h]))
theorem plus_zeros (l : List UInt8) (n : Nat) : plus l (List.replicate n 0) = l := ext_co (plus_len _ _) fun i hi => by
  rw [plus_len] at hi
  rw [co_plus hi, show co (List.replicate n 0) i = 0 by unfold co; rw [List.getElem?_replicate]; split <;> rfl, xor_zero']

/-! ### The plain sum, from the first row on -/
def sumUp (rows : List (List UInt8)) (L k : Nat) : List UInt8 := (List.range L).map fun i => sumAt 1 (rows.take k) i
theorem sumUp_len (rows : List (List UInt8)) (L k : Nat) : (sumUp rows L k).length = L := by simp [sumUp]
theorem sumUp_get {rows : List (List UInt8)} {L k i : Nat} (h : i < L) : (sumUp rows L k)[i]? = some (sumAt 1 (rows.take k) i) := by
  unfold sumUp; rw [List.getElem?_map, List.getElem?_range h]; rfl
theorem sumUp_zero (rows : List (List UInt8)) (L : Nat) : sumUp rows L 0 = List.replicate L 0 := ext_co (by rw [sumUp_len, List.length_replicate]) fun i hi => by
  rw [sumUp_len] at hi
  rw [co_of_some (sumUp_get hi), co_of_some (x := 0) (by rw [List.getElem?_replicate, if_pos hi])]; rfl
theorem sumUp_next {rows : List (List UInt8)} {L k : Nat} {r : List UInt8} (h : rows[k]? = some r) : sumUp rows L (k + 1) = plus (sumUp rows L k) r := ext_co (by rw [plus_len, sumUp_len, sumUp_len]) fun i hi => by
  rw [sumUp_len] at hi
  rw [co_plus (by rw [sumUp_len]; exact hi), co_of_some (sumUp_get hi), co_of_some (sumUp_get hi)]
  unfold sumAt
  rw [List.take_add_one, h, show col (rows.take k ++ (some r).toList) i = col (rows.take k) i ++ [co r i] by unfold col; rw [List.map_append]; rfl, ev_snoc, pow_one, mul_one]
theorem sumUp_all (rows : List (List UInt8)) : sumUp rows (wide rows) rows.length = par 1 rows := by unfold sumUp par; rw [List.take_length]

/-! ### The weighted sum, from the last row on -/
def sumDown (rows : List (List UInt8)) (L k : Nat) : List UInt8 := (List.range L).map fun i => sumFrom 2 rows i k
theorem sumDown_len (rows : List (List UInt8)) (L k : Nat) : (sumDown rows L k).length = L := by simp [sumDown]
theorem sumDown_get {rows : List (List UInt8)} {L k i : Nat} (h : i < L) : (sumDown rows L k)[i]? = some (sumFrom 2 rows i k) := by
  unfold sumDown; rw [List.getElem?_map, List.getElem?_range h]; rfl
theorem sumDown_top (rows : List (List UInt8)) (L : Nat) : sumDown rows L rows.length = List.replicate L 0 := ext_co (by rw [sumDown_len, List.length_replicate]) fun i hi => by
  rw [sumDown_len] at hi
  rw [co_of_some (sumDown_get hi), co_of_some (x := 0) (by rw [List.getElem?_replicate, if_pos hi]), sumFrom_all]
theorem sumDown_all (rows : List (List UInt8)) : sumDown rows (wide rows) 0 = par 2 rows := rfl
/-- The first k places doubled. -/
def dblTo (l : List UInt8) (k : Nat) : List UInt8 := (List.range l.length).map fun i => if i < k then mul (co l i) 2 else co l i
def dbl (l : List UInt8) : List UInt8 := dblTo l l.length
theorem dblTo_len (l : List UInt8) (k : Nat) : (dblTo l k).length = l.length := by simp [dblTo]
theorem dbl_len (l : List UInt8) : (dbl l).length = l.length := dblTo_len l _
theorem dblTo_get {l : List UInt8} {k i : Nat} (h : i < l.length) : (dblTo l k)[i]? = some (if i < k then mul (co l i) 2 else co l i) := by
  unfold dblTo; rw [List.getElem?_map, List.getElem?_range h]; rfl
theorem dblTo_zero (l : List UInt8) : dblTo l 0 = l := ext_co (dblTo_len _ _) fun i hi => by
  rw [dblTo_len] at hi; exact co_of_some ((dblTo_get hi).trans (by rw [if_neg (by omega)]))
theorem dblTo_at {l : List UInt8} {k : Nat} (h : k < l.length) : (dblTo l k)[k]? = some (co l k) := by rw [dblTo_get h, if_neg (by omega)]
theorem dblTo_next {l : List UInt8} {k : Nat} (hk : k < l.length) : (dblTo l k).set k (mul (co l k) 2) = dblTo l (k + 1) := by
  apply List.ext_getElem?
  intro i
  rw [List.getElem?_set, dblTo_len]
  rcases Nat.lt_or_ge i l.length with h | h
  · rw [dblTo_get h, dblTo_get h]
    by_cases e : k = i
    · subst e; rw [if_pos rfl, if_pos h, if_pos (by omega)]
    · rw [if_neg e]
      by_cases h2 : i < k
      · rw [if_pos h2, if_pos (by omega)]
      · rw [if_neg h2, if_neg (by omega)]
  · rw [if_neg (by omega), List.getElem?_eq_none (by rw [dblTo_len]; exact h), List.getElem?_eq_none (by rw [dblTo_len]; exact h)]
theorem co_dbl {l : List UInt8} {i : Nat} (h : i < l.length) : co (dbl l) i = mul (co l i) 2 := co_of_some ((dblTo_get h).trans (by rw [if_pos h]))
theorem sumDown_next {rows : List (List UInt8)} {L k : Nat} {r : List UInt8} (h : rows[k]? = some r) (hr : r.length = L) : sumDown rows L k = plus (dbl (sumDown rows L (k + 1))) r := ext_co (by rw [plus_len, dbl_len, sumDown_len, sumDown_len]) fun i hi => by
  rw [sumDown_len] at hi
  rw [co_plus (by rw [dbl_len, sumDown_len]; exact hi), co_dbl (by rw [sumDown_len]; exact hi), co_of_some (sumDown_get hi), co_of_some (sumDown_get hi), sumFrom_next h (getElem?_of_co (by omega))]
  rfl

/-! ### One lost, two lost -/
theorem co_zeros (n i : Nat) : co (List.replicate n 0) i = 0 := by unfold co; rw [List.getElem?_replicate]; split <;> rfl
/-- What One makes. -/
theorem one_made {rows : List (List UInt8)} {a : Nat} {p : List UInt8} (ha : a < rows.length) (hp : p.length = wide rows) :
    par 1 (rows.set a (plus (par 1 (rows.set a (List.replicate (wide rows) 0))) p)) = p := by
  have hz : (List.replicate (wide rows) (0 : UInt8)).length = wide rows := List.length_replicate
  have hw := wide_set (rows := rows) (a := a) hz
  have hl : (plus (par 1 (rows.set a (List.replicate (wide rows) 0))) p).length = wide rows := by rw [plus_len, par_len, hw]
  have hw2 := wide_set (rows := rows) (a := a) hl
  obtain ⟨d, hd⟩ : ∃ d, rows[a]? = some d := ⟨rows[a], List.getElem?_eq_getElem ha⟩
  refine row_ext (by rw [par_len, hw2]) hp fun i hi => ?_
  rw [co_par (by rw [hw2]; exact hi), sum_set1 hd, co_plus (by rw [par_len, hw]; exact hi), co_par (by rw [hw]; exact hi), sum_set1 hd, co_zeros, zero_xor']
  generalize sumAt 1 rows i = s
  generalize co d i = x
  generalize co p i = y
  rw [UInt8.xor_comm s x, UInt8.xor_assoc x s y, UInt8.xor_comm x (s ^^^ y), UInt8.xor_assoc (s ^^^ y) x x, xor_self', xor_zero', ← UInt8.xor_assoc, xor_self', zero_xor']

/-- The rows x and y of both equations, place by place. -/
def solve (u v : UInt8) (s t : UInt8) : UInt8 := mul (t ^^^ mul s v) (inv (u ^^^ v))
def apX (u v : UInt8) (P Q : List UInt8) (k : Nat) : List UInt8 := (List.range P.length).map fun i => if i < k then solve u v (co P i) (co Q i) else 0
def apY (u v : UInt8) (P Q : List UInt8) (k : Nat) : List UInt8 := (List.range P.length).map fun i => if i < k then co P i ^^^ solve u v (co P i) (co Q i) else 0
theorem map_range_set {f g : Nat → UInt8} {n k : Nat} {v : UInt8} (hv : g k = v) (h : ∀ i, i ≠ k → g i = f i) : ((List.range n).map f).set k v = (List.range n).map g := by
  apply List.ext_getElem?
  intro i
  rw [List.getElem?_set, List.length_map, List.length_range]
  rcases Nat.lt_or_ge i n with hi | hi
  · rw [List.getElem?_map, List.getElem?_map, List.getElem?_range hi]
    by_cases e : k = i
    · subst e; rw [if_pos rfl, if_pos hi, ← hv]; rfl
    · rw [if_neg e]; show some (f i) = some (g i); rw [h i (Ne.symm e)]
  · rw [List.getElem?_eq_none (l := (List.range n).map f) (by simpa using hi), List.getElem?_eq_none (l := (List.range n).map g) (by simpa using hi)]
    split
    · rw [if_neg (by omega)]
    · rfl
theorem map_range_zero {f : Nat → UInt8} {n : Nat} (h : ∀ i, f i = 0) : (List.range n).map f = List.replicate n 0 := ext_co (by simp) fun i hi => by
  rw [co_zeros]
  have : i < n := by simpa using hi
  exact co_of_some (by rw [List.getElem?_map, List.getElem?_range this]; show some (f i) = _; rw [h])
section
variable {u v : UInt8} {P Q : List UInt8} {k : Nat}
theorem apX_len : (apX u v P Q k).length = P.length := by simp [apX]
theorem apY_len : (apY u v P Q k).length = P.length := by simp [apY]
theorem apX_zero : apX u v P Q 0 = List.replicate P.length 0 := map_range_zero fun i => by rw [if_neg (by omega)]
theorem apY_zero : apY u v P Q 0 = List.replicate P.length 0 := map_range_zero fun i => by rw [if_neg (by omega)]
theorem apX_at (h : k < P.length) : (apX u v P Q k)[k]? = some 0 := by unfold apX; rw [List.getElem?_map, List.getElem?_range h]; show some (if k < k then _ else _) = _; rw [if_neg (by omega)]
theorem apY_at (h : k < P.length) : (apY u v P Q k)[k]? = some 0 := by unfold apY; rw [List.getElem?_map, List.getElem?_range h]; show some (if k < k then _ else _) = _; rw [if_neg (by omega)]
theorem apX_next {c d : UInt8} (hc : P[k]? = some c) (hd : Q[k]? = some d) : (apX u v P Q k).set k (solve u v c d) = apX u v P Q (k + 1) :=
  map_range_set (by rw [if_pos (by omega), co_of_some hc, co_of_some hd]) fun i hi => by
    by_cases h : i < k
    · rw [if_pos (by omega), if_pos h]
    · rw [if_neg (by omega), if_neg h]
theorem apY_next {c d : UInt8} (hc : P[k]? = some c) (hd : Q[k]? = some d) : (apY u v P Q k).set k (xor8 c (solve u v c d)) = apY u v P Q (k + 1) :=
  map_range_set (by rw [if_pos (by omega), co_of_some hc, co_of_some hd]; rfl) fun i hi => by
    by_cases h : i < k
    · rw [if_pos (by omega), if_pos h]
    · rw [if_neg (by omega), if_neg h]
theorem co_apX {i : Nat} (h : i < P.length) : co (apX u v P Q P.length) i = solve u v (co P i) (co Q i) := co_of_some (by unfold apX; rw [List.getElem?_map, List.getElem?_range h]; show some (if i < P.length then _ else _) = _; rw [if_pos h])
theorem co_apY {i : Nat} (h : i < P.length) : co (apY u v P Q P.length) i = co P i ^^^ solve u v (co P i) (co Q i) := co_of_some (by unfold apY; rw [List.getElem?_map, List.getElem?_range h]; show some (if i < P.length then _ else _) = _; rw [if_pos h])
end
/-- x + y = s and u x + v y = t. -/
theorem solved {u v s t : UInt8} (h : u ≠ v) : mul u (solve u v s t) ^^^ mul v (s ^^^ solve u v s t) = t := by
  have hx : mul (u ^^^ v) (solve u v s t) = t ^^^ mul s v := by
    unfold solve
    rw [mul_comm (t ^^^ mul s v), ← mul_assoc, mul_inv (xor_ne h), one_mul]
  rw [mul_add]
  have h2 : mul u (solve u v s t) ^^^ (mul v s ^^^ mul v (solve u v s t)) = mul (u ^^^ v) (solve u v s t) ^^^ mul v s := by
    rw [Gf.add_mul]
    generalize mul u (solve u v s t) = a
    generalize mul v (solve u v s t) = b
    generalize mul v s = c
    rw [UInt8.xor_comm c b, ← UInt8.xor_assoc]
  rw [h2, hx, mul_comm s v, UInt8.xor_assoc, xor_self', xor_zero']
/-- What Two makes. -/
theorem two_made {rows : List (List UInt8)} {a b : Nat} {p q : List UInt8} (hab : a ≠ b) (ha : a < rows.length) (hb : b < rows.length) (hn : rows.length ≤ 255) (hp : p.length = wide rows) (hq : q.length = wide rows)
    {z : List UInt8} (hz : z = List.replicate (wide rows) 0) {P Q x y : List UInt8} (hP : P = plus (par 1 ((rows.set a z).set b z)) p) (hQ : Q = plus (par 2 ((rows.set a z).set b z)) q)
    (hx : x = apX (pow 2 a) (pow 2 b) P Q P.length) (hy : y = apY (pow 2 a) (pow 2 b) P Q P.length) :
    x.length = wide rows ∧ y.length = wide rows ∧ par 1 ((rows.set a x).set b y) = p ∧ par 2 ((rows.set a x).set b y) = q := by
  have hzl : z.length = wide rows := by rw [hz]; exact List.length_replicate
  have hw : ∀ s t : List UInt8, s.length = wide rows → t.length = wide rows → wide ((rows.set a s).set b t) = wide rows := fun s t hs ht => by rw [wide_set (by rw [wide_set hs]; exact ht), wide_set hs]
  have hPl : P.length = wide rows := by rw [hP, plus_len, par_len, hw z z hzl hzl]
  have hQl : Q.length = wide rows := by rw [hQ, plus_len, par_len, hw z z hzl hzl]
  have hxl : x.length = wide rows := by rw [hx, apX_len, hPl]
  have hyl : y.length = wide rows := by rw [hy, apY_len, hPl]
  obtain ⟨d, hd⟩ : ∃ d, rows[a]? = some d := ⟨rows[a], List.getElem?_eq_getElem ha⟩
  obtain ⟨e, he⟩ : ∃ e, rows[b]? = some e := ⟨rows[b], List.getElem?_eq_getElem hb⟩
  have hset : ∀ (s t : List UInt8) (c : UInt8) (i : Nat), sumAt c ((rows.set a s).set b t) i = sumAt c rows i ^^^ mul (pow c a) (co s i ^^^ co d i) ^^^ mul (pow c b) (co t i ^^^ co e i) := fun s t c i => by
    rw [sum_set (by rw [List.getElem?_set_ne hab, he]), sum_set hd]
  have huv : pow 2 a ≠ pow 2 b := fun h => hab (pow2_inj (by omega) (by omega) h)
  have hsolve := fun i (hi : i < wide rows) => solved (s := co P i) (t := co Q i) huv
  refine ⟨hxl, hyl, ?_, ?_⟩
  · refine row_ext (by rw [par_len, hw x y hxl hyl]) hp fun i hi => ?_
    have hPi : co P i = sumAt 1 ((rows.set a z).set b z) i ^^^ co p i := by
      rw [hP, co_plus (by rw [par_len, hw z z hzl hzl]; exact hi), co_par (by rw [hw z z hzl hzl]; exact hi)]
    have hxy : co x i ^^^ co y i = co P i := by
      rw [hx, hy, co_apX (by omega), co_apY (by omega), UInt8.xor_comm (co P i), ← UInt8.xor_assoc, xor_self', zero_xor']
    rw [co_par (by rw [hw x y hxl hyl]; exact hi), hset]
    rw [hset, hz, co_zeros] at hPi
    rw [pow_one, pow_one, one_mul, one_mul, zero_xor', zero_xor'] at hPi
    rw [pow_one, pow_one, one_mul, one_mul]
    have : sumAt 1 rows i ^^^ (co x i ^^^ co d i) ^^^ (co y i ^^^ co e i) = (sumAt 1 rows i ^^^ co d i ^^^ co e i) ^^^ (co x i ^^^ co y i) := by
      generalize sumAt 1 rows i = s; generalize co x i = x1; generalize co y i = y1; generalize co d i = d1; generalize co e i = e1
      rw [UInt8.xor_comm x1 d1, UInt8.xor_comm y1 e1]
      simp only [← UInt8.xor_assoc]
      rw [UInt8.xor_assoc (s ^^^ d1) x1 e1, UInt8.xor_comm x1 e1, ← UInt8.xor_assoc]
    rw [this, hxy, hPi, ← UInt8.xor_assoc, xor_self', zero_xor']
  · refine row_ext (by rw [par_len, hw x y hxl hyl]) hq fun i hi => ?_
    have hQi : co Q i = sumAt 2 ((rows.set a z).set b z) i ^^^ co q i := by
      rw [hQ, co_plus (by rw [par_len, hw z z hzl hzl]; exact hi), co_par (by rw [hw z z hzl hzl]; exact hi)]
    have hs : mul (pow 2 a) (co x i) ^^^ mul (pow 2 b) (co y i) = co Q i := by
      rw [hx, hy, co_apX (by omega), co_apY (by omega)]; exact hsolve i hi
    rw [co_par (by rw [hw x y hxl hyl]; exact hi), hset]
    rw [hset, hz, co_zeros, zero_xor', zero_xor'] at hQi
    rw [mul_add, mul_add]
    have : sumAt 2 rows i ^^^ (mul (pow 2 a) (co x i) ^^^ mul (pow 2 a) (co d i)) ^^^ (mul (pow 2 b) (co y i) ^^^ mul (pow 2 b) (co e i)) = (sumAt 2 rows i ^^^ mul (pow 2 a) (co d i) ^^^ mul (pow 2 b) (co e i)) ^^^ (mul (pow 2 a) (co x i) ^^^ mul (pow 2 b) (co y i)) := by
      generalize sumAt 2 rows i = s; generalize mul (pow 2 a) (co x i) = x1; generalize mul (pow 2 b) (co y i) = y1; generalize mul (pow 2 a) (co d i) = d1; generalize mul (pow 2 b) (co e i) = e1
      rw [UInt8.xor_comm x1 d1, UInt8.xor_comm y1 e1]
      simp only [← UInt8.xor_assoc]
      rw [UInt8.xor_assoc (s ^^^ d1) x1 e1, UInt8.xor_comm x1 e1, ← UInt8.xor_assoc]
    rw [this, hs, hQi, ← UInt8.xor_assoc, xor_self', zero_xor']

/-! ### Who -/
/-- The rows' bytes at one place. -/
def colRows (rows : List (List UInt8)) (i : Nat) : List (List UInt8) := rows.map fun r => [co r i]
theorem colRows_len (rows : List (List UInt8)) (i : Nat) : (colRows rows i).length = rows.length := by simp [colRows]
theorem colRows_at {rows : List (List UInt8)} {i k : Nat} {r : List UInt8} (h : rows[k]? = some r) : (colRows rows i)[k]? = some [co r i] := by unfold colRows; rw [List.getElem?_map, h]; rfl
theorem colRows_even {rows : List (List UInt8)} {i : Nat} : ∀ (k : Nat) (r : List UInt8), (colRows rows i)[k]? = some r → r.length = 1 := fun k r h => by
  unfold colRows at h; rw [List.getElem?_map] at h
  cases h0 : rows[k]? with
  | none => rw [h0] at h; cases h
  | some q => rw [h0] at h; injection h with h; rw [← h]; rfl
theorem sum_colRows (x : UInt8) (rows : List (List UInt8)) (i : Nat) : sumAt x (colRows rows i) 0 = sumAt x rows i := by
  unfold sumAt; congr 1; unfold col colRows; rw [List.map_map]; rfl
theorem par_colRows {x : UInt8} {rows : List (List UInt8)} {i : Nat} (h0 : 0 < rows.length) : par x (colRows rows i) = [sumAt x rows i] := by
  have hw : wide (colRows rows i) = 1 := wide_of (by rw [colRows_len]; exact h0) colRows_even
  unfold par; rw [hw]
  show [sumAt x (colRows rows i) 0] = _
  rw [sum_colRows]
/-- Whose number the logarithm tells. -/
theorem who_made {n : Nat} {dx dy : UInt8} (hn : n ≤ 255) (hx : dx ≠ 0) (hy : dy ≠ 0) :
    (log (mul dy (inv dx)) < n → Finds n dx dy (log (mul dy (inv dx)) : Nat) 0) ∧ (¬ log (mul dy (inv dx)) < n → Finds n dx dy 0 7) := by
  have hinv : mul dx (inv dx) = 1 := mul_inv hx
  have hi0 : inv dx ≠ 0 := fun e => by rw [e, mul_zero] at hinv; exact absurd hinv (by decide)
  have hw : mul dy (inv dx) ≠ 0 := mul_ne_zero hy hi0
  obtain ⟨hl, hp⟩ := log_spec hw
  have key : ∀ i, mul (pow 2 i) dx = dy ↔ pow 2 i = mul dy (inv dx) := fun i => by
    constructor
    · intro h; rw [← h, mul_assoc, hinv, mul_one]
    · intro h; rw [h, mul_assoc, mul_comm (inv dx), hinv, mul_one]
  constructor
  · intro h
    exact .inr (.inr (.inr (.inl ⟨hx, hy, _, h, (key _).2 hp, rfl, rfl⟩)))
  · intro h
    refine .inr (.inr (.inr (.inr ⟨hx, hy, fun i hi e => ?_, rfl, rfl⟩)))
    have h1 := (key i).1 e
    rw [← hp] at h1
    have := pow2_inj (by omega) hl h1
    omega
end Go.Proofs.Ytpjopdemhdeelaa.Pair
