/-
  One piece that is spoilt is seen: the polynomials' part.
-/
import Derived.Test.YtomhcjnhhdbhjaaRsPure
namespace Go.Proofs.Ytomhcjnhhdbhjaa.Cdr
set_option linter.unusedVariables false
open Go.RowKit Gf Mem Poly

theorem fill_exists {xs : List UInt8} {rows : List (List UInt8)} (hd : xs.Nodup) (hl : xs.length = rows.length) (v : UInt8) : ∀ L : Nat, ∃ out, out.length = L ∧ Fill xs rows v out
  | 0 => ⟨[], rfl, fill_nil _ _ _⟩
  | L + 1 => by
    obtain ⟨out, h1, h2⟩ := fill_exists hd hl v L
    obtain ⟨p, hp⟩ := thru_exists (ys := col rows out.length) hd (by rw [col_len, hl])
    exact ⟨_, by rw [List.length_append, h1]; rfl, fill_snoc h2 hp⟩
theorem adds_exists {rows : List (List UInt8)} (hn : rows.length ≤ 256) : ∀ m : Nat, ∃ adds, Adds rows m adds
  | 0 => ⟨[], adds_nil _⟩
  | m + 1 => by
    obtain ⟨adds, h⟩ := adds_exists hn m
    obtain ⟨out, h1, h2⟩ := fill_exists (idx_nodup hn) (idx_len _) (UInt8.ofNat (rows.length + m)) (rows.headD []).length
    exact ⟨_, adds_snoc h h1 h2⟩
/-- Row k with its number. -/
def numbered (l : List (List UInt8)) : List Pc := l.zipIdx.map fun p => ((p.2 : Int), p.1)
theorem numbered_len (l : List (List UInt8)) : (numbered l).length = l.length := by simp [numbered]
theorem numbered_at (l : List (List UInt8)) (k : Nat) : (numbered l)[k]? = (l[k]?).map fun r => ((k : Int), r) := by
  unfold numbered; rw [List.getElem?_map, List.getElem?_zipIdx]
  cases l[k]? with
  | none => rfl
  | some r => simp
theorem numbered_mem {l : List (List UInt8)} {p : Pc} (h : p ∈ numbered l) : 0 ≤ p.1 ∧ l[p.1.toNat]? = some p.2 := by
  obtain ⟨k, hk⟩ := List.mem_iff_getElem?.1 h
  rw [numbered_at] at hk
  cases e : l[k]? with
  | none => rw [e] at hk; cases hk
  | some r => rw [e] at hk; injection hk with hk; subst hk; exact ⟨by simp, by simpa using e⟩
theorem numbered_nodup (l : List (List UInt8)) : ((numbered l).map (·.1)).Nodup := by
  have e : (numbered l).map (·.1) = (List.range l.length).map (fun k : Nat => (k : Int)) := by
    apply List.ext_getElem?
    intro k
    rw [List.getElem?_map, List.getElem?_map, numbered_at]
    by_cases hk : k < l.length
    · rw [List.getElem?_range hk, List.getElem?_eq_getElem hk]; rfl
    · rw [List.getElem?_eq_none (by omega), List.getElem?_eq_none (by simp; omega)]; rfl
  rw [e]
  refine List.pairwise_map.2 (List.Pairwise.imp_of_mem ?_ List.nodup_range)
  intro a b _ _ hne e
  exact hne (by omega)
theorem numbered_coded (l : List (List UInt8)) : Coded l (numbered l) := ⟨numbered_nodup l, fun p hp => numbered_mem hp⟩
theorem numbered_datas (l : List (List UInt8)) : datas (numbered l) = l := by
  apply List.ext_getElem?
  intro k
  unfold datas
  rw [List.getElem?_map, numbered_at]
  cases l[k]? <;> rfl
/-- The code's rows with one byte turned. -/
def spoil (l : List (List UInt8)) (who at_ : Nat) (by_ : UInt8) : List (List UInt8) := l.modify who fun r => r.modify at_ (· ^^^ by_)
theorem spoil_len (l : List (List UInt8)) (who at_ : Nat) (by_ : UInt8) : (spoil l who at_ by_).length = l.length := by simp [spoil]
theorem spoil_off {l : List (List UInt8)} {who at_ k : Nat} {by_ : UInt8} (h : k ≠ who) : (spoil l who at_ by_)[k]? = l[k]? := by
  unfold spoil; rw [List.getElem?_modify]; cases l[k]? with
  | none => rfl
  | some r => simp [show ¬ who = k by omega]
theorem spoil_on {l : List (List UInt8)} {who at_ : Nat} {by_ : UInt8} {r : List UInt8} (h : l[who]? = some r) : (spoil l who at_ by_)[who]? = some (r.modify at_ (· ^^^ by_)) := by
  unfold spoil; rw [List.getElem?_modify, h]; simp
theorem spoil_row {l : List (List UInt8)} {who at_ k : Nat} {by_ : UInt8} {q : List UInt8} (h : (spoil l who at_ by_)[k]? = some q) : ∃ r, l[k]? = some r ∧ q.length = r.length := by
  by_cases hk : k = who
  · subst hk
    have hlt := (List.getElem?_eq_some_iff.1 h).1
    rw [spoil_len] at hlt
    rw [spoil_on (List.getElem?_eq_getElem hlt)] at h
    injection h with h
    exact ⟨_, List.getElem?_eq_getElem hlt, by rw [← h]; simp⟩
  · rw [spoil_off hk] at h
    exact ⟨q, h, rfl⟩
/-- The spoilt code is no code. -/
theorem spoilt_seen {rows adds outs adds' : List (List UInt8)} {m who at_ : Nat} {by_ : UInt8} (h0 : 0 < rows.length) (hm : 1 ≤ m) (hn : rows.length + m ≤ 256) (he : evenB rows = true) (ha : Adds rows m adds) (hw : who < rows.length + m) (hat : at_ < (rows.headD []).length) (hb : by_ ≠ 0)
    (hb' : Backs rows.length (numbered (spoil (rows ++ adds) who at_ by_)) outs) (ha' : Adds outs m adds') : allRight (outs ++ adds') (numbered (spoil (rows ++ adds) who at_ by_)) = false := by
  rw [Bool.eq_false_iff]
  intro hall
  have hlen : (rows ++ adds).length = rows.length + m := by rw [List.length_append, ha.1]
  have key : ∀ (k : Nat) (q : List UInt8), (spoil (rows ++ adds) who at_ by_)[k]? = some q → (outs ++ adds')[k]? = some q := fun k q hk => by
    unfold allRight at hall
    rw [List.all_eq_true] at hall
    have := hall ((k : Int), q) (List.mem_of_getElem? (by rw [numbered_at, hk]; rfl : (numbered _)[k]? = some ((k : Int), q)))
    simpa using this
  have hrow : ∀ (k : Nat) (q : List UInt8), (rows ++ adds)[k]? = some q → q.length = (rows.headD []).length := fun k q hq => by
    by_cases hk : k < rows.length
    · rw [List.getElem?_append_left hk] at hq; exact evenB_len he hq
    · rw [List.getElem?_append_right (by omega)] at hq; exact (ha.2 _ _ hq).1
  have hol : outs.length = rows.length := hb'.1
  have hor : ∀ (k : Nat) (q : List UInt8), outs[k]? = some q → q.length = (rows.headD []).length := fun k q hq => by
    have hk := (List.getElem?_eq_some_iff.1 hq).1
    have h1 : (spoil (rows ++ adds) who at_ by_)[k]? = some ((spoil (rows ++ adds) who at_ by_)[k]'(by rw [spoil_len, hlen]; omega)) := List.getElem?_eq_getElem _
    have h2 := key k _ h1
    rw [List.getElem?_append_left hk, hq] at h2
    injection h2 with h2
    obtain ⟨r, h3, h4⟩ := spoil_row h1
    rw [h2, h4]; exact hrow k r h3
  have hoh : (outs.headD []).length = (rows.headD []).length := by
    have : outs[0]? = some (outs.headD []) := by
      cases outs with
      | nil => simp at hol; omega
      | cons q l => rfl
    exact hor 0 _ this
  have hoe : evenB outs = true := by
    unfold evenB
    rw [List.all_eq_true]
    intro q hq
    obtain ⟨k, hk⟩ := List.mem_iff_getElem?.1 hq
    rw [hor k q hk, hoh]
    exact beq_self_eq_true _
  obtain ⟨p, hp, hpe⟩ := code_poly hn he ha at_ hat
  obtain ⟨p', hp', hpe'⟩ := code_poly (by rw [hol]; exact hn) hoe ha' at_ (by rw [hoh]; exact hat)
  have hz := all_zero (rs := (idx (rows.length + m)).eraseIdx who) (p := padd p p') ?_ ?_ ?_
  · obtain ⟨r, hr⟩ : ∃ r, (rows ++ adds)[who]? = some r := ⟨_, List.getElem?_eq_getElem (by rw [hlen]; exact hw)⟩
    have e1 := hpe who r hr
    have e2 := hpe' who _ (key who _ (spoil_on hr))
    have e3 := ev_zero_of hz (UInt8.ofNat who)
    rw [ev_padd, ← e1, ← e2] at e3
    have h4 : at_ < r.length := by rw [hrow who r hr]; exact hat
    have e4 := xor_eq_zero e3
    rw [co_of_some (getElem?_of_co h4), co_of_some (p := r.modify at_ (· ^^^ by_)) (x := co r at_ ^^^ by_) (by rw [List.getElem?_modify, getElem?_of_co h4]; simp)] at e4
    have e5 : co r at_ ^^^ (co r at_ ^^^ by_) = 0 := by rw [← e4]; exact xor_self' _
    rw [← UInt8.xor_assoc, xor_self', zero_xor'] at e5
    exact hb e5
  · exact (idx_nodup (by omega)).sublist (List.eraseIdx_sublist _ _)
  · intro x hx
    obtain ⟨k, hne, hx⟩ := List.mem_eraseIdx_iff_getElem?.1 hx
    have hk := (List.getElem?_eq_some_iff.1 hx).1
    rw [idx_len] at hk
    rw [idx_at hk] at hx
    injection hx with hx
    subst hx
    obtain ⟨r, hr⟩ : ∃ r, (rows ++ adds)[k]? = some r := ⟨_, List.getElem?_eq_getElem (by rw [hlen]; exact hk)⟩
    rw [ev_padd, ← hpe k r hr, ← hpe' k r (key k r (by rw [spoil_off hne]; exact hr))]
    exact xor_self' _
  · rw [len_padd, List.length_eraseIdx, idx_len, if_pos hw]
    have h1 := hp.2.1
    have h2 := hp'.2.1
    rw [idx_len] at h1 h2
    exact Nat.max_le.2 ⟨by omega, by omega⟩
theorem coded_back {rows adds outs : List (List UInt8)} {m : Nat} {ps : List Pc} {err : Int} (h0 : 0 < rows.length) (hr : rows.length ≤ 100) (hm : m ≤ 100) (he : evenB rows = true) (ha : Adds rows m adds) (hc : Coded (rows ++ adds) ps) (hl : rows.length ≤ ps.length)
    (h : BackIs (rows.length : Int) (m : Int) ps outs err) : err = 0 ∧ outs = rows := by
  have hs := coded_scan hc (lim := (rows.length : Int) + (m : Int)) (by rw [List.length_append, ha.1]; omega)
  have hev := (coded_even he ha hc).1
  rcases h with ⟨h, _⟩ | ⟨_, h, _⟩ | ⟨_, _, ⟨h, _⟩ | ⟨_, h, _⟩ | ⟨_, _, h1, h2⟩⟩
  · unfold badRange at h; omega
  · rw [hs] at h; cases h
  · omega
  · rw [hev] at h; cases h
  · rw [Int.toNat_natCast] at h2
    exact ⟨h1, rs_back h0 (by omega) he ha hc hl h2⟩
theorem coded_good {rows adds : List (List UInt8)} {m : Nat} {ps : List Pc} {b : Bool} {err : Int} (h0 : 0 < rows.length) (hr : rows.length ≤ 100) (hm : m ≤ 100) (he : evenB rows = true) (ha : Adds rows m adds) (hc : Coded (rows ++ adds) ps) (hl : rows.length ≤ ps.length)
    (h : RightIs (rows.length : Int) (m : Int) ps b err) : err = 0 ∧ b = true := by
  obtain ⟨outs, hB, h1, h2⟩ := h
  obtain ⟨e1, e2⟩ := coded_back h0 hr hm he ha hc hl hB
  subst e1 e2
  exact ⟨rfl, (h2 rfl adds (by rw [Int.toNat_natCast]; exact ha)).trans (coded_right hc)⟩
theorem spoil_even {rows adds : List (List UInt8)} {m who at_ : Nat} {by_ : UInt8} (he : evenB rows = true) (ha : Adds rows m adds) : evenB (spoil (rows ++ adds) who at_ by_) = true := by
  have hrow : ∀ (k : Nat) (q : List UInt8), (spoil (rows ++ adds) who at_ by_)[k]? = some q → q.length = (rows.headD []).length := fun k q hq => by
    obtain ⟨r, hr, e⟩ := spoil_row hq
    rw [e]
    by_cases hk : k < rows.length
    · rw [List.getElem?_append_left hk] at hr; exact evenB_len he hr
    · rw [List.getElem?_append_right (by omega)] at hr; exact (ha.2 _ _ hr).1
  unfold evenB
  rw [List.all_eq_true]
  intro q hq
  obtain ⟨k, hk⟩ := List.mem_iff_getElem?.1 hq
  have h1 := hrow k q hk
  have h2 : ((spoil (rows ++ adds) who at_ by_).headD []).length = (rows.headD []).length := by
    have h3 : (spoil (rows ++ adds) who at_ by_)[0]? = some ((spoil (rows ++ adds) who at_ by_).headD []) := by
      cases hsp : spoil (rows ++ adds) who at_ by_ with
      | nil => rw [hsp] at hq; cases hq
      | cons r l => rfl
    exact hrow 0 _ h3
  rw [h1, h2]
  exact beq_self_eq_true _
theorem spoilt_right {rows adds : List (List UInt8)} {m who at_ : Nat} {by_ : UInt8} {b : Bool} {err : Int} (h0 : 0 < rows.length) (hr : rows.length ≤ 100) (hm1 : 1 ≤ m) (hm : m ≤ 100) (he : evenB rows = true) (ha : Adds rows m adds) (hw : who < rows.length + m) (hat : at_ < (rows.headD []).length) (hb : by_ ≠ 0)
    (h : RightIs (rows.length : Int) (m : Int) (numbered (spoil (rows ++ adds) who at_ by_)) b err) : err = 0 ∧ b = false := by
  have hlen : (rows ++ adds).length = rows.length + m := by rw [List.length_append, ha.1]
  obtain ⟨outs, hB, h1, h2⟩ := h
  have hs := coded_scan (numbered_coded (spoil (rows ++ adds) who at_ by_)) (lim := (rows.length : Int) + (m : Int)) (by rw [spoil_len, hlen]; omega)
  have hev : evenB (datas (numbered (spoil (rows ++ adds) who at_ by_))) = true := by rw [numbered_datas]; exact spoil_even he ha
  rcases hB with ⟨h, _⟩ | ⟨_, h, _⟩ | ⟨_, _, ⟨h, _⟩ | ⟨_, h, _⟩ | ⟨_, _, e1, e2⟩⟩
  · unfold badRange at h; omega
  · rw [hs] at h; cases h
  · rw [numbered_len, spoil_len, hlen] at h; omega
  · rw [hev] at h; cases h
  · rw [Int.toNat_natCast] at e2
    obtain ⟨adds', ha'⟩ := adds_exists (rows := outs) (by have := e2.1; omega) m
    exact ⟨e1, (h2 e1 adds' (by rw [Int.toNat_natCast]; exact ha')).trans (spoilt_seen h0 hm1 (by omega) he ha hw hat hb e2 ha')⟩
end Go.Proofs.Ytomhcjnhhdbhjaa.Cdr
