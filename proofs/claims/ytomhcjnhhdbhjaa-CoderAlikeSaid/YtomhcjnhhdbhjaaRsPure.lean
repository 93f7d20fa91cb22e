/-
  Reed and Solomon: there is a polynomial through any points, and any so many rows tell the others.
-/
import Derived.Test.YtomhcjnhhdbhjaaCoderSpec
namespace Go.Proofs.Ytomhcjnhhdbhjaa.Cdr
set_option linter.unusedVariables false
open Go.RowKit Gf Mem Poly

theorem one_exists {xs : List UInt8} (hd : xs.Nodup) {k : Nat} {x y : UInt8} (hx : xs[k]? = some x) : ∀ m, m ≤ xs.length → ∃ one, One xs k m x y one
  | 0, _ => ⟨[y], one_start xs k x y⟩
  | m + 1, h => by
    obtain ⟨one, h1⟩ := one_exists hd (y := y) hx m (by omega)
    by_cases e : m = k
    · subst e; exact ⟨one, one_same h1⟩
    · exact ⟨_, one_next h1 hd e hx (List.getElem?_eq_getElem (by omega))⟩
theorem thr_exists {xs ys : List UInt8} (hd : xs.Nodup) (hl : xs.length = ys.length) : ∀ k, k ≤ xs.length → ∃ l, Thr xs ys k l
  | 0, _ => ⟨_, thr_start xs ys⟩
  | k + 1, h => by
    obtain ⟨l, h1⟩ := thr_exists hd hl k (by omega)
    have hx : xs[k]? = some xs[k] := List.getElem?_eq_getElem (by omega)
    have hy : ys[k]? = some ys[k] := List.getElem?_eq_getElem (by omega)
    obtain ⟨one, h2⟩ := one_exists hd (y := ys[k]) hx xs.length (Nat.le_refl _)
    exact ⟨_, thr_next h1 h2 hx hy⟩
theorem thru_exists {xs ys : List UInt8} (hd : xs.Nodup) (hl : xs.length = ys.length) : ∃ r, Thru xs ys r := by
  obtain ⟨l, h⟩ := thr_exists hd hl xs.length (Nat.le_refl _)
  exact ⟨_, thr_end h⟩

theorem idx_at {n i : Nat} (h : i < n) : (idx n)[i]? = some (UInt8.ofNat i) := by
  unfold idx; rw [List.getElem?_map, List.getElem?_range h]; rfl
theorem col_at {rows : List (List UInt8)} {i : Nat} {r : List UInt8} (h : rows[i]? = some r) (k : Nat) : (col rows k)[i]? = some (co r k) := by
  unfold col; rw [List.getElem?_map, h]; rfl

/-- The polynomial of place k has all the code's rows as its values. -/
theorem code_poly {rows adds : List (List UInt8)} {m : Nat} (hn : rows.length + m ≤ 256) (he : evenB rows = true) (h : Adds rows m adds) (k : Nat) (hk : k < (rows.headD []).length) :
    ∃ p, Thru (idx rows.length) (col rows k) p ∧ ∀ (a : Nat) (q : List UInt8), (rows ++ adds)[a]? = some q → co q k = ev p (UInt8.ofNat a) := by
  have hd := idx_nodup (n := rows.length) (by omega)
  have hl : (idx rows.length).length = (col rows k).length := by rw [idx_len, col_len]
  obtain ⟨p, hp⟩ := thru_exists hd hl
  refine ⟨p, hp, fun a q hq => ?_⟩
  by_cases ha : a < rows.length
  · rw [List.getElem?_append_left ha] at hq
    exact (hp.2.2 a _ _ (idx_at ha) (col_at hq k)).symm
  · rw [List.getElem?_append_right (by omega)] at hq
    obtain ⟨h1, h2⟩ := h.2 _ q hq
    have hkq : k < q.length := by rw [h1]; exact hk
    obtain ⟨p', hp', e⟩ := h2 k (co q k) (getElem?_of_co hkq)
    rw [e, thru_unique hd hl hp' hp, show rows.length + (a - rows.length) = a by omega]

/-- The pieces are rows of the code, with their numbers, no number twice. -/
def Coded (all : List (List UInt8)) (ps : List Pc) : Prop := (ps.map (·.1)).Nodup ∧ ∀ p ∈ ps, 0 ≤ p.1 ∧ all[p.1.toNat]? = some p.2
theorem coded_scan {all : List (List UInt8)} {ps : List Pc} {lim : Int} (h : Coded all ps) (hl : (all.length : Int) ≤ lim) : scan lim [] ps = none := by
  have key : ∀ (S : List Int) (qs : List Pc), (qs.map (·.1)).Nodup → (∀ p ∈ qs, p.1 ∉ S ∧ 0 ≤ p.1 ∧ p.1 ≤ lim - 1) → scan lim S qs = none := by
    intro S qs
    induction qs generalizing S with
    | nil => intro _ _; rfl
    | cons p qs ih =>
      intro hd hs
      rw [List.map_cons] at hd
      obtain ⟨h1, h2⟩ := List.nodup_cons.1 hd
      obtain ⟨a1, a2, a3⟩ := hs p (by simp)
      rw [scan, if_neg (by omega), if_neg a1]
      refine ih _ h2 fun q hq => ⟨fun hm => ?_, (hs q (by simp [hq])).2⟩
      rcases List.mem_cons.1 hm with e | hm
      · exact h1 (List.mem_map.2 ⟨q, hq, e⟩)
      · exact (hs q (by simp [hq])).1 hm
  refine key [] ps h.1 fun p hp => ⟨by simp, (h.2 p hp).1, ?_⟩
  have := (List.getElem?_eq_some_iff.1 (h.2 p hp).2).1
  omega
theorem coded_even {rows adds : List (List UInt8)} {m : Nat} (he : evenB rows = true) (h : Adds rows m adds) {ps : List Pc} (hc : Coded (rows ++ adds) ps) : evenB (datas ps) = true ∧ (ps ≠ [] → ((datas ps).headD []).length = (rows.headD []).length) := by
  have hlen : ∀ p ∈ ps, p.2.length = (rows.headD []).length := fun p hp => by
    have hq := (hc.2 p hp).2
    by_cases ha : p.1.toNat < rows.length
    · rw [List.getElem?_append_left ha] at hq; exact evenB_len he hq
    · rw [List.getElem?_append_right (by omega)] at hq; exact (h.2 _ _ hq).1
  have hhead : ps ≠ [] → ((datas ps).headD []).length = (rows.headD []).length := fun hne => by
    cases ps with
    | nil => exact absurd rfl hne
    | cons p ps => exact hlen p (by simp)
  refine ⟨?_, hhead⟩
  unfold evenB
  rw [List.all_eq_true]
  intro q hq
  obtain ⟨p, hp, rfl⟩ := List.mem_map.1 hq
  rw [hlen p hp, hhead (List.ne_nil_of_mem hp)]
  exact beq_self_eq_true _

/-- Any so many rows tell all rows. -/
theorem rs_back {rows adds outs : List (List UInt8)} {m : Nat} {ps : List Pc} (h0 : 0 < rows.length) (hn : rows.length + m ≤ 256) (he : evenB rows = true) (ha : Adds rows m adds) (hc : Coded (rows ++ adds) ps) (hl : rows.length ≤ ps.length)
    (hb : Backs rows.length ps outs) : outs = rows := by
  have hne : ps ≠ [] := fun e => by have h9 : ps.length = 0 := by rw [e]; rfl
                                    omega
  have hL := (coded_even he ha hc).2 hne
  have hsc := coded_scan hc (lim := (rows.length : Int) + m) (by rw [List.length_append, ha.1]; omega)
  apply List.ext_getElem hb.1
  intro j h1 h2
  obtain ⟨l1, f1⟩ := hb.2 j _ (List.getElem?_eq_getElem h1)
  have hrj : rows[j]? = some rows[j] := List.getElem?_eq_getElem h2
  have hlj := evenB_len he hrj
  apply List.ext_getElem (by rw [l1, hL, hlj])
  intro k k1 k2
  obtain ⟨p, hp, hall⟩ := code_poly hn he ha k (by rw [← hlj]; exact k2)
  obtain ⟨q, hq, e⟩ := f1 k _ (List.getElem?_eq_getElem k1)
  have hnd : (nums8 (ps.take rows.length)).Nodup := by
    have e : nums8 (ps.take rows.length) = ((ps.take rows.length).map (·.1)).map fun x => UInt8.ofNat x.toNat := by unfold nums8; rw [List.map_map]; rfl
    rw [e]
    refine List.pairwise_map.2 (List.Pairwise.imp_of_mem ?_ (by rw [List.map_take]; exact hc.1.sublist (List.take_sublist _ _)))
    intro x y hx hy hne he
    have h4 := congrArg UInt8.toNat he
    rw [UInt8.toNat_ofNat', UInt8.toNat_ofNat'] at h4
    obtain ⟨u, hu, rfl⟩ := List.mem_map.1 hx
    obtain ⟨v, hv, rfl⟩ := List.mem_map.1 hy
    obtain ⟨u1, u2⟩ := hc.2 u (List.mem_of_mem_take hu)
    obtain ⟨v1, v2⟩ := hc.2 v (List.mem_of_mem_take hv)
    have u3 := (List.getElem?_eq_some_iff.1 u2).1
    have v3 := (List.getElem?_eq_some_iff.1 v2).1
    rw [List.length_append, ha.1] at u3 v3
    exact hne (by omega)
  have hlen1 : (nums8 (ps.take rows.length)).length = rows.length := by unfold nums8; rw [List.length_map, Poly.take_len hl]
  have hp' : Thru (nums8 (ps.take rows.length)) (col (datas (ps.take rows.length)) k) p := by
    refine ⟨hp.1, by rw [hlen1]; have := hp.2.1; rwa [idx_len] at this, fun i x y hx hy => ?_⟩
    unfold nums8 at hx
    unfold col datas at hy
    rw [List.getElem?_map] at hx
    rw [List.getElem?_map, List.getElem?_map] at hy
    cases hpi : (ps.take rows.length)[i]? with
    | none => rw [hpi] at hx; cases hx
    | some u =>
      rw [hpi] at hx hy
      simp at hx hy
      subst hx hy
      obtain ⟨_, u2⟩ := hc.2 u (List.mem_of_mem_take (List.mem_of_getElem? hpi))
      exact (hall _ _ u2).symm
  have hqp : q = p := thru_unique hnd (by rw [hlen1, col_len]; unfold datas; rw [List.length_map, Poly.take_len hl]) hq hp'
  rw [e, hqp, ← hall j rows[j] (by rw [List.getElem?_append_left h2]; exact hrj)]
  exact co_of_some (List.getElem?_eq_getElem k2)
theorem coded_right {rows adds : List (List UInt8)} {ps : List Pc} (hc : Coded (rows ++ adds) ps) : allRight (rows ++ adds) ps = true := by
  unfold allRight
  rw [List.all_eq_true]
  intro p hp
  simpa using (hc.2 p hp).2
end Go.Proofs.Ytomhcjnhhdbhjaa.Cdr
