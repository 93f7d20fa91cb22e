/-
  The multiples of the pieces that make a row (Lagrange's weights), pure.
-/
import Derived.Test.YtomhcjnhhdbhjaaRsPure
import Derived.Test.YtomhcjnhhdbhjaaWrongPure
import Derived.Test.YtomhcjnhhdbhjaaCurvePure
namespace Go.Proofs.Ytomhcjnhhdbhjaa.Cdr
set_option linter.unusedVariables false
open Go.RowKit Gf Mem Poly

/-- The product of the differences to v. -/
def prodr : List UInt8 → UInt8 → UInt8
  | [], _ => 1
  | x :: l, v => mul (v ^^^ x) (prodr l v)
theorem prodr_append (a b : List UInt8) (v : UInt8) : prodr (a ++ b) v = mul (prodr a v) (prodr b v) := by
  induction a with
  | nil => rw [List.nil_append, prodr, one_mul]
  | cons x a ih => rw [List.cons_append, prodr, prodr, ih, mul_assoc]
theorem prodr_snoc (l : List UInt8) (x v : UInt8) : prodr (l ++ [x]) v = mul (prodr l v) (v ^^^ x) := by rw [prodr_append, prodr, prodr, mul_one]
theorem prodr_zero {l : List UInt8} {v : UInt8} (h : v ∈ l) : prodr l v = 0 := by
  induction l with
  | nil => simp at h
  | cons x l ih =>
    rw [prodr]
    rcases List.mem_cons.1 h with rfl | h
    · rw [xor_self', zero_mul]
    · rw [ih h, mul_zero]
theorem prodr_ne {l : List UInt8} {v : UInt8} (h : v ∉ l) : prodr l v ≠ 0 := by
  induction l with
  | nil => rw [prodr]; decide
  | cons x l ih =>
    rw [prodr]
    exact mul_ne_zero (xor_ne fun e => h (by rw [e]; simp)) (ih fun h2 => h (by simp [h2]))
def plin : List UInt8 → List UInt8
  | [] => [1]
  | x :: l => pmul (plin l) [x, 1]
theorem plin_len (l : List UInt8) : (plin l).length ≤ l.length + 1 := by
  induction l with
  | nil => simp [plin]
  | cons x l ih =>
    have := len_pmul' (plin l) (q := [x, 1]) (by simp)
    simp only [List.length_cons, List.length_nil] at this ⊢
    rw [plin]; omega
theorem ev_plin (l : List UInt8) (v : UInt8) : ev (plin l) v = prodr l v := by
  induction l with
  | nil => rw [plin, prodr, ev, ev, mul_zero, xor_zero']
  | cons x l ih =>
    have e : ev [x, 1] v = v ^^^ x := by rw [ev, ev, ev, mul_zero, xor_zero', mul_one, UInt8.xor_comm]
    rw [plin, prodr, ev_pmul, ih, e, mul_comm]
/-- The inverse of the product of the differences between number i and the others. -/
def sc (xs : List UInt8) (i : Nat) : UInt8 := if i < xs.length then inv (mul (prodr (xs.take i) (co xs i)) (prodr (xs.drop (i + 1)) (co xs i))) else 0
def wtA (xs : List UInt8) (v : UInt8) (i : Nat) : UInt8 := mul (sc xs i) (prodr (xs.take i) v)
/-- By what piece i is multiplied in the row v. -/
def wt (xs : List UInt8) (v : UInt8) (i : Nat) : UInt8 := mul (wtA xs v i) (prodr (xs.drop (i + 1)) v)
theorem sc_out {xs : List UInt8} {i : Nat} (h : xs.length ≤ i) : sc xs i = 0 := by rw [sc, if_neg (by omega)]
theorem wtA_out {xs : List UInt8} {v : UInt8} {i : Nat} (h : xs.length ≤ i) : wtA xs v i = 0 := by rw [wtA, sc_out h, zero_mul]
theorem wt_out {xs : List UInt8} {v : UInt8} {i : Nat} (h : xs.length ≤ i) : wt xs v i = 0 := by rw [wt, wtA_out h, zero_mul]
theorem at_co {xs : List UInt8} {i : Nat} (h : i < xs.length) : xs[i] = co xs i := (co_of_some (List.getElem?_eq_getElem h)).symm
theorem nd_lt {xs : List UInt8} (hd : xs.Nodup) {i j : Nat} (h : i < j) (hj : j < xs.length) : co xs i ≠ co xs j := by
  rw [← at_co (by omega : i < xs.length), ← at_co hj]
  exact (List.pairwise_iff_getElem.1 hd) i j (by omega) hj h
theorem not_front {xs : List UInt8} (hd : xs.Nodup) {i : Nat} (h : i < xs.length) : co xs i ∉ xs.take i := fun hm => by
  obtain ⟨k, hk, e⟩ := List.mem_iff_getElem.1 hm
  rw [List.length_take] at hk
  rw [List.getElem_take, at_co (by omega)] at e
  exact nd_lt hd (by omega : k < i) h e
theorem not_behind {xs : List UInt8} (hd : xs.Nodup) {i : Nat} (h : i < xs.length) : co xs i ∉ xs.drop (i + 1) := fun hm => by
  obtain ⟨k, hk, e⟩ := List.mem_iff_getElem.1 hm
  rw [List.length_drop] at hk
  rw [List.getElem_drop, at_co (by omega)] at e
  exact nd_lt hd (by omega : i < i + 1 + k) (by omega) e.symm
theorem in_front {xs : List UInt8} {i k : Nat} (h : k < i) (hi : k < xs.length) : co xs k ∈ xs.take i := by
  refine List.mem_iff_getElem.2 ⟨k, by rw [List.length_take]; omega, ?_⟩
  rw [List.getElem_take, at_co hi]
theorem in_behind {xs : List UInt8} {i k : Nat} (h : i < k) (hk : k < xs.length) : co xs k ∈ xs.drop (i + 1) := by
  refine List.mem_iff_getElem.2 ⟨k - (i + 1), by rw [List.length_drop]; omega, ?_⟩
  rw [List.getElem_drop, at_co (by omega)]
  congr 1; omega
theorem diffs_ne {xs : List UInt8} (hd : xs.Nodup) {i : Nat} (h : i < xs.length) : mul (prodr (xs.take i) (co xs i)) (prodr (xs.drop (i + 1)) (co xs i)) ≠ 0 :=
  mul_ne_zero (prodr_ne (not_front hd h)) (prodr_ne (not_behind hd h))
theorem wt_own {xs : List UInt8} (hd : xs.Nodup) {i : Nat} (h : i < xs.length) : wt xs (co xs i) i = 1 := by
  rw [wt, wtA, sc, if_pos h, mul_assoc, mul_comm (inv _), mul_inv (diffs_ne hd h)]
theorem wt_other {xs : List UInt8} {i k : Nat} (h : i ≠ k) (hk : k < xs.length) : wt xs (co xs k) i = 0 := by
  rw [wt, wtA]
  rcases Nat.lt_or_ge k i with hlt | hge
  · rw [prodr_zero (in_front hlt hk), mul_zero, zero_mul]
  · rw [prodr_zero (in_behind (by omega) hk), mul_zero]
/-- The first k multiples, added. -/
def msum (xs : List UInt8) (f : Nat → UInt8) (v : UInt8) : Nat → UInt8
  | 0 => 0
  | k + 1 => msum xs f v k ^^^ mul (wt xs v k) (f k)
theorem msum_poly (xs : List UInt8) (f : Nat → UInt8) : ∀ k, k ≤ xs.length → ∃ p, p.length ≤ xs.length ∧ ∀ v, ev p v = msum xs f v k
  | 0, _ => ⟨[], by simp, fun v => rfl⟩
  | k + 1, h => by
    obtain ⟨p, hp, he⟩ := msum_poly xs f k (by omega)
    refine ⟨padd p (pscale (mul (sc xs k) (f k)) (plin (xs.take k ++ xs.drop (k + 1)))), ?_, fun v => ?_⟩
    · have h1 := plin_len (xs.take k ++ xs.drop (k + 1))
      rw [List.length_append, List.length_take, List.length_drop] at h1
      rw [len_padd]
      unfold pscale
      rw [List.length_map]
      omega
    · rw [ev_padd, he, ev_pscale, ev_plin, prodr_append, msum, wt, wtA]
      congr 1
      rw [mul_comm (sc xs k) (f k), mul_assoc (f k), mul_comm (f k), mul_assoc (sc xs k), mul_assoc (sc xs k), ← mul_assoc (sc xs k) _ (f k)]
theorem msum_at {xs : List UInt8} (hd : xs.Nodup) (f : Nat → UInt8) {j : Nat} (hj : j < xs.length) : ∀ k, msum xs f (co xs j) k = if j < k then f j else 0
  | 0 => rfl
  | k + 1 => by
    rw [msum, msum_at hd f hj k]
    by_cases e : k = j
    · subst e
      rw [wt_own hd hj, one_mul, if_neg (by omega), if_pos (by omega), zero_xor']
    · rw [wt_other e hj, zero_mul, xor_zero']
      by_cases h2 : j < k
      · rw [if_pos h2, if_pos (by omega)]
      · rw [if_neg h2, if_neg (by omega)]
theorem msum_thru {xs ys : List UInt8} (hd : xs.Nodup) (hl : xs.length = ys.length) : ∃ p, Thru xs ys p ∧ ∀ v, ev p v = msum xs (co ys) v xs.length := by
  obtain ⟨p, hp, he⟩ := msum_poly xs (co ys) xs.length (Nat.le_refl _)
  refine ⟨trim p, ⟨trim_trim p, Nat.le_trans (trim_len p) hp, fun i x y hx hy => ?_⟩, fun v => by rw [ev_trim, he]⟩
  have hi := (List.getElem?_eq_some_iff.1 hx).1
  rw [ev_trim, he, ← co_of_some hx, msum_at hd _ hi, if_pos hi, co_of_some hy]
theorem msum_fill {xs : List UInt8} {rows : List (List UInt8)} {v : UInt8} {out : List UInt8} (hd : xs.Nodup) (hl : xs.length = rows.length) (h : ∀ k, k < out.length → co out k = msum xs (co (col rows k)) v xs.length) : Fill xs rows v out := fun k y hy => by
  obtain ⟨p, hp, he⟩ := msum_thru hd (ys := col rows k) (by rw [col_len]; exact hl)
  exact ⟨p, hp, by rw [he, ← h k (List.getElem?_eq_some_iff.1 hy).1, co_of_some hy]⟩
theorem co_col {rows : List (List UInt8)} {i : Nat} {r : List UInt8} (h : rows[i]? = some r) (k : Nat) : co (col rows k) i = co r k := co_of_some (col_at h k)

/-- A hundred bytes: the first k of A, the others of B. -/
def two (k : Nat) (A B : Nat → UInt8) : List UInt8 := (List.range 100).map fun i => if i < k then A i else B i
theorem two_len (k : Nat) (A B : Nat → UInt8) : (two k A B).length = 100 := by simp [two]
theorem two_at {k i : Nat} (A B : Nat → UInt8) (h : i < 100) : (two k A B)[i]? = some (if i < k then A i else B i) := by
  unfold two; rw [List.getElem?_map, List.getElem?_range h]; rfl
theorem two_here {k : Nat} (A B : Nat → UInt8) (h : k < 100) : (two k A B)[k]? = some (B k) := by rw [two_at A B h, if_neg (by omega)]
theorem two_below {k : Nat} (A B : Nat → UInt8) (h : k < 100) : (two (k + 1) A B)[k]? = some (A k) := by rw [two_at A B h, if_pos (by omega)]
theorem two_up {k : Nat} (A B : Nat → UInt8) (h : k < 100) : (two k A B).set k (A k) = two (k + 1) A B := by
  apply List.ext_getElem?
  intro i
  rw [List.getElem?_set]
  by_cases hi : i < 100
  · rw [two_at A B hi, two_at A B hi, two_len]
    by_cases e : k = i
    · subst e; rw [if_pos rfl, if_pos h, if_pos (by omega)]
    · rw [if_neg e]
      by_cases h2 : i < k
      · rw [if_pos h2, if_pos (by omega)]
      · rw [if_neg h2, if_neg (by omega)]
  · rw [if_neg (by omega), List.getElem?_eq_none (by rw [two_len]; omega), List.getElem?_eq_none (by rw [two_len]; omega)]
theorem two_down {k : Nat} (A B : Nat → UInt8) (h : k < 100) : (two (k + 1) A B).set k (B k) = two k A B := by
  apply List.ext_getElem?
  intro i
  rw [List.getElem?_set]
  by_cases hi : i < 100
  · rw [two_at A B hi, two_at A B hi, two_len]
    by_cases e : k = i
    · subst e; rw [if_pos rfl, if_pos h, if_neg (by omega)]
    · rw [if_neg e]
      by_cases h2 : i < k
      · rw [if_pos (by omega), if_pos h2]
      · rw [if_neg (by omega), if_neg h2]
  · rw [if_neg (by omega), List.getElem?_eq_none (by rw [two_len]; omega), List.getElem?_eq_none (by rw [two_len]; omega)]
theorem two_ext {k m : Nat} {A B C D : Nat → UInt8} (h : ∀ i, i < 100 → (if i < k then A i else B i) = (if i < m then C i else D i)) : two k A B = two m C D := by
  unfold two
  exact List.map_congr_left fun i hi => h i (List.mem_range.1 hi)
def tab (A : Nat → UInt8) : List UInt8 := (List.range 100).map A
theorem tab_two (A B : Nat → UInt8) : two 0 B A = tab A := by unfold two tab; exact List.map_congr_left fun i _ => if_neg (by omega)
theorem tab_len (A : Nat → UInt8) : (tab A).length = 100 := by simp [tab]
theorem tab_at (A : Nat → UInt8) {i : Nat} (h : i < 100) : (tab A)[i]? = some (A i) := by unfold tab; rw [List.getElem?_map, List.getElem?_range h]; rfl
theorem sc_all (xs : List UInt8) : two xs.length (sc xs) (fun _ => 0) = tab (sc xs) := by
  rw [← tab_two (sc xs) (sc xs)]
  refine two_ext fun i hi => ?_
  by_cases h : i < xs.length
  · rw [if_pos h, if_neg (by omega)]
  · rw [if_neg h, if_neg (by omega), sc_out (by omega)]
theorem wtA_all (xs : List UInt8) (v : UInt8) : two xs.length (wtA xs v) (sc xs) = two xs.length (wtA xs v) (wt xs v) := by
  refine two_ext fun i hi => ?_
  by_cases h : i < xs.length
  · rw [if_pos h, if_pos h]
  · rw [if_neg h, if_neg h, sc_out (by omega), wt_out (by omega)]
theorem take_co {xs : List UInt8} {k : Nat} (h : k < xs.length) (v : UInt8) : mul (prodr (xs.take k) v) (v ^^^ co xs k) = prodr (xs.take (k + 1)) v := by
  rw [Poly.take_next (getElem?_of_co h), prodr_snoc]
theorem drop_co {xs : List UInt8} {k : Nat} (h : k < xs.length) (v : UInt8) : mul (prodr (xs.drop (k + 1)) v) (v ^^^ co xs k) = prodr (xs.drop k) v := by
  rw [List.drop_eq_getElem_cons h, at_co h, prodr, mul_comm]
/-- The product of the differences to number i of the first j others. -/
def dp (xs : List UInt8) (i j : Nat) : UInt8 := if j ≤ i then prodr (xs.take j) (co xs i) else mul (prodr (xs.take i) (co xs i)) (prodr ((xs.take j).drop (i + 1)) (co xs i))
theorem dp_zero (xs : List UInt8) (i : Nat) : dp xs i 0 = 1 := by rw [dp, if_pos (by omega)]; rfl
theorem dp_same {xs : List UInt8} {i : Nat} (h : i < xs.length) : dp xs i (i + 1) = dp xs i i := by
  rw [dp, dp, if_neg (by omega), if_pos (Nat.le_refl _), List.drop_eq_nil_of_le (by rw [List.length_take]; omega), prodr, mul_one]
theorem dp_next {xs : List UInt8} {i j : Nat} (h : j < xs.length) (hne : j ≠ i) : mul (dp xs i j) (co xs i ^^^ co xs j) = dp xs i (j + 1) := by
  unfold dp
  rcases Nat.lt_or_ge j i with hlt | hge
  · rw [if_pos (by omega), if_pos (by omega), take_co h]
  · rw [if_neg (by omega), if_neg (by omega), mul_assoc, Poly.take_next (getElem?_of_co h), List.drop_append_of_le_length (by rw [List.length_take]; omega), prodr_snoc]
theorem dp_all {xs : List UInt8} {i : Nat} (h : i < xs.length) : inv (dp xs i xs.length) = sc xs i := by
  rw [dp, sc, if_neg (by omega), if_pos h, List.take_of_length_le (Nat.le_refl _)]
theorem dp_ne {xs : List UInt8} (hd : xs.Nodup) {i : Nat} (h : i < xs.length) : dp xs i xs.length ≠ 0 := by
  rw [dp, if_neg (by omega), List.take_of_length_le (Nat.le_refl _)]
  exact diffs_ne hd h

/-- The products of f: the first n of 256 bytes. -/
def prods (f : UInt8) (n : Nat) : List UInt8 := (List.range 256).map fun i => if i < n then mul f (UInt8.ofNat i) else 0
theorem prods_len (f : UInt8) (n : Nat) : (prods f n).length = 256 := by simp [prods]
theorem prods_at (f : UInt8) (n : Nat) {i : Nat} (h : i < 256) : (prods f n)[i]? = some (if i < n then mul f (UInt8.ofNat i) else 0) := by
  unfold prods; rw [List.getElem?_map, List.getElem?_range h]; rfl
theorem prods_next (f : UInt8) {n : Nat} (h : n < 256) : (prods f n).set n (mul f (UInt8.ofNat n)) = prods f (n + 1) := by
  apply List.ext_getElem?
  intro i
  rw [List.getElem?_set]
  by_cases hi : i < 256
  · rw [prods_at f _ hi, prods_at f _ hi, prods_len]
    by_cases e : n = i
    · subst e; rw [if_pos rfl, if_pos h, if_pos (by omega)]
    · rw [if_neg e]
      by_cases h2 : i < n
      · rw [if_pos h2, if_pos (by omega)]
      · rw [if_neg h2, if_neg (by omega)]
  · rw [if_neg (by omega), List.getElem?_eq_none (by rw [prods_len]; omega), List.getElem?_eq_none (by rw [prods_len]; omega)]
theorem prods_one (f : UInt8) : prods f 1 = List.replicate 256 0 := by
  apply List.ext_getElem?
  intro i
  by_cases hi : i < 256
  · rw [prods_at f _ hi, List.getElem?_replicate, if_pos hi]
    by_cases h : i < 1
    · rw [if_pos h, show i = 0 by omega, show UInt8.ofNat 0 = 0 from rfl, mul_zero]
    · rw [if_neg h]
  · rw [List.getElem?_eq_none (by rw [prods_len]; omega), List.getElem?_eq_none (by rw [List.length_replicate]; omega)]
theorem split_bit : ∀ j : Nat, j < 8 → ∀ i : Nat, i < 2 ^ j → UInt8.ofNat (2 ^ j + i) = UInt8.ofNat i ^^^ UInt8.ofNat (2 ^ j) := by decide +kernel
theorem prods_bit (f : UInt8) {j i : Nat} (hj : j < 8) (hi : i < 2 ^ j) : mul f (UInt8.ofNat i) ^^^ mul f (UInt8.ofNat (2 ^ j)) = mul f (UInt8.ofNat (2 ^ j + i)) := by
  rw [split_bit j hj i hi, mul_add]

/-- What a scan without a fault tells. -/
theorem scan_none {lim : Int} : ∀ {ps : List Pc} {S : List Int}, scan lim S ps = none → (∀ p ∈ ps, 0 ≤ p.1 ∧ p.1 ≤ lim - 1 ∧ p.1 ∉ S) ∧ (ps.map (·.1)).Nodup
  | [], _, _ => ⟨fun p h => by simp at h, List.nodup_nil⟩
  | p :: ps, S, h => by
    rw [scan] at h
    by_cases h1 : p.1 < 0 ∨ lim - 1 < p.1
    · rw [if_pos h1] at h; cases h
    · rw [if_neg h1] at h
      by_cases h2 : p.1 ∈ S
      · rw [if_pos h2] at h; cases h
      · rw [if_neg h2] at h
        obtain ⟨a, b⟩ := scan_none h
        refine ⟨fun q hq => ?_, ?_⟩
        · rcases List.mem_cons.1 hq with rfl | hq
          · exact ⟨by omega, by omega, h2⟩
          · obtain ⟨a1, a2, a3⟩ := a q hq
            exact ⟨a1, a2, fun hm => a3 (by simp [hm])⟩
        · rw [List.map_cons]
          refine List.nodup_cons.2 ⟨fun hm => ?_, b⟩
          obtain ⟨q, hq, e⟩ := List.mem_map.1 hm
          exact (a q hq).2.2 (by rw [e]; simp)
theorem nums8_nodup {ps : List Pc} (hd : (ps.map (·.1)).Nodup) (h : ∀ p ∈ ps, 0 ≤ p.1 ∧ p.1 < 256) : (nums8 ps).Nodup := by
  have e : nums8 ps = (ps.map (·.1)).map fun x => UInt8.ofNat x.toNat := by unfold nums8; rw [List.map_map]; rfl
  rw [e]
  refine List.pairwise_map.2 (List.Pairwise.imp_of_mem ?_ hd)
  intro x y hx hy hne he
  have h4 := congrArg UInt8.toNat he
  rw [UInt8.toNat_ofNat', UInt8.toNat_ofNat'] at h4
  obtain ⟨u, hu, rfl⟩ := List.mem_map.1 hx
  obtain ⟨v, hv, rfl⟩ := List.mem_map.1 hy
  have := h u hu
  have := h v hv
  exact hne (by omega)
theorem nums8_len (ps : List Pc) : (nums8 ps).length = ps.length := by simp [nums8]
theorem nums8_at {ps : List Pc} {i : Nat} {p : Pc} (h : ps[i]? = some p) : (nums8 ps)[i]? = some (UInt8.ofNat p.1.toNat) := by unfold nums8; rw [List.getElem?_map, h]; rfl
theorem datas_at {ps : List Pc} {i : Nat} {p : Pc} (h : ps[i]? = some p) : (datas ps)[i]? = some p.2 := by unfold datas; rw [List.getElem?_map, h]; rfl
/-- All rows, numbered as they are, are what the first pieces tell. -/
theorem code_fill {r m : Nat} {ps : List Pc} {outs adds : List (List UInt8)} (hnd : (nums8 (ps.take r)).Nodup) (h0 : 0 < r) (hn : r + m ≤ 256) (hl : r ≤ ps.length) (hb : Backs r ps outs) (ha : Adds outs m adds)
    {a : Nat} {q : List UInt8} (hq : (outs ++ adds)[a]? = some q) : q.length = ((datas ps).headD []).length ∧ Fill (nums8 (ps.take r)) (datas (ps.take r)) (UInt8.ofNat a) q := by
  have hhead : (outs.headD []).length = ((datas ps).headD []).length := by
    have h1 : outs[0]? = some (outs[0]'(by rw [hb.1]; exact h0)) := List.getElem?_eq_getElem _
    rw [head_of h1]; exact (hb.2 0 _ h1).1
  have hev : evenB outs = true := by
    unfold evenB
    rw [List.all_eq_true]
    intro o ho
    obtain ⟨j, hj, e⟩ := List.mem_iff_getElem.1 ho
    rw [(hb.2 j o (by rw [List.getElem?_eq_getElem hj, e])).1, hhead]; exact beq_self_eq_true _
  have hlen : q.length = ((datas ps).headD []).length := by
    by_cases h : a < outs.length
    · rw [List.getElem?_append_left h] at hq; exact (hb.2 a q hq).1
    · rw [List.getElem?_append_right (by omega)] at hq
      rw [(ha.2 _ q hq).1, hhead]
  refine ⟨hlen, fun k y hy => ?_⟩
  have hk := (List.getElem?_eq_some_iff.1 hy).1
  obtain ⟨p, hp, hall⟩ := code_poly (m := m) (by rw [hb.1]; exact hn) hev ha k (by rw [hhead, ← hlen]; exact hk)
  obtain ⟨p', hp', he'⟩ := msum_thru hnd (ys := col (datas (ps.take r)) k) (by rw [col_len, nums8_len]; simp [datas])
  have hlp : (nums8 (ps.take r)).length = r := by rw [nums8_len, Poly.take_len hl]
  have hsame : Thru (idx outs.length) (col outs k) p' := by
    refine ⟨hp'.1, by rw [idx_len, hb.1]; have := hp'.2.1; rwa [hlp] at this, fun i x z hx hz => ?_⟩
    have hi : i < outs.length := by have := (List.getElem?_eq_some_iff.1 hx).1; rwa [idx_len] at this
    rw [idx_at hi] at hx
    injection hx with hx
    subst hx
    have ho : outs[i]? = some outs[i] := List.getElem?_eq_getElem hi
    obtain ⟨l1, f1⟩ := hb.2 i _ ho
    rw [col_at ho] at hz
    injection hz with hz
    obtain ⟨p2, hp2, e2⟩ := f1 k (co outs[i] k) (getElem?_of_co (by rw [l1, ← hlen]; exact hk))
    rw [← hz, e2, thru_unique hnd (by rw [col_len, nums8_len]; simp [datas]) hp2 hp']
  have e : p = p' := thru_unique (idx_nodup (by rw [hb.1]; omega)) (by rw [idx_len, col_len]) hp hsame
  subst e
  exact ⟨p, hp', by rw [← hall a q hq, co_of_some hy]⟩
/-- The pieces that the rows were made of are right. -/
theorem first_right {r m : Nat} {ps : List Pc} {outs adds : List (List UInt8)} (hnd : (nums8 (ps.take r)).Nodup) (h0 : 0 < r) (hn : r + m ≤ 256) (hl : r ≤ ps.length) (he : evenB (datas ps) = true) (hb : Backs r ps outs) (ha : Adds outs m adds)
    (hin : ∀ p ∈ ps, 0 ≤ p.1 ∧ p.1.toNat < r + m) {p : Pc} (hp : p ∈ ps.take r) : (outs ++ adds)[p.1.toNat]? = some p.2 := by
  obtain ⟨a1, a2⟩ := hin p (List.mem_of_mem_take hp)
  have hq : (outs ++ adds)[p.1.toNat]? = some ((outs ++ adds)[p.1.toNat]'(by rw [List.length_append, hb.1, ha.1]; exact a2)) := List.getElem?_eq_getElem _
  obtain ⟨h1, h2⟩ := code_fill hnd h0 hn hl hb ha hq
  rw [hq]
  congr 1
  obtain ⟨i, hi, e⟩ := List.mem_iff_getElem.1 hp
  have hpi : (ps.take r)[i]? = some p := by rw [List.getElem?_eq_getElem hi, e]
  have hlen2 : p.2.length = ((datas ps).headD []).length := by
    obtain ⟨j, hj, ej⟩ := List.mem_iff_getElem.1 (List.mem_of_mem_take hp)
    exact evenB_len he (datas_at (by rw [List.getElem?_eq_getElem hj, ej]))
  refine fill_unique hnd (by rw [nums8_len]; simp [datas]) h2 (v := UInt8.ofNat p.1.toNat) (fun k y hy => ?_) (h1.trans hlen2.symm)
  obtain ⟨p', hp', he'⟩ := msum_thru hnd (ys := col (datas (ps.take r)) k) (by rw [col_len, nums8_len]; simp [datas])
  exact ⟨p', hp', by rw [hp'.2.2 i _ _ (nums8_at hpi) (col_at (datas_at hpi) k), co_of_some hy]⟩
theorem right_rest {r : Nat} {ps : List Pc} {all : List (List UInt8)} (h : ∀ p ∈ ps.take r, all[p.1.toNat]? = some p.2) : allRight all ps = allRight all (ps.drop r) := by
  unfold allRight
  rw [Bool.eq_iff_iff, List.all_eq_true, List.all_eq_true]
  constructor
  · exact fun h2 p hp => h2 p (List.mem_of_mem_drop hp)
  · intro h2 p hp
    rw [← List.take_append_drop r ps] at hp
    rcases List.mem_append.1 hp with hp | hp
    · simpa using h p hp
    · exact h2 p hp
end Go.Proofs.Ytomhcjnhhdbhjaa.Cdr
