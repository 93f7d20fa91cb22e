/-
  Hosts and their devices, pure: weights, what is wrong, where copies of a key are placed; what becomes of it when a host goes, comes, or changes a device.
-/
import Derived.Test.YtcbecpgllebepaaSwWrong
namespace Go.Proofs.Ytcbecpgllebepaa.Crush
set_option linter.unusedVariables false
set_option linter.unusedSimpArgs false
open Straw

/-- A host: its id, its devices. -/
abbrev Ht := Int × List It
def sumW (d : List It) : Int := (d.map (·.2)).sum
def hw (d : List It) : Int := if 100 < sumW d then 100 else sumW d
def wts (hs : List Ht) : List It := hs.map (fun h => (h.1, hw h.2))
theorem wts_len (hs : List Ht) : (wts hs).length = hs.length := by simp [wts]
/-- What is wrong with devices, host by host. -/
def devE : List Ht → Int
  | [] => 0
  | h :: hs => if wrongE h.2 = 0 then devE hs else wrongE h.2
def krE (hs : List Ht) : Int := if devE hs = 0 then wrongE (wts hs) else devE hs
def Good (hs : List Ht) : Prop := (∀ h ∈ hs, Valid h.2) ∧ Valid (wts hs)
theorem devE_zero {hs : List Ht} : devE hs = 0 ↔ ∀ h ∈ hs, Valid h.2 := by
  induction hs with
  | nil => simp [devE]
  | cons h hs ih =>
    rw [devE]
    by_cases e : wrongE h.2 = 0
    · rw [if_pos e, ih, List.forall_mem_cons]
      simp [wrongE_zero.1 e]
    · rw [if_neg e, List.forall_mem_cons]
      constructor
      · intro h'; exact absurd h' e
      · intro h'; exact absurd (wrongE_zero.2 h'.1) e
theorem devE_vals (hs : List Ht) : devE hs = 0 ∨ devE hs = 2 ∨ devE hs = 6 := by
  induction hs with
  | nil => exact .inl rfl
  | cons h hs ih =>
    rw [devE]
    split
    · exact ih
    · exact wrongE_vals _
theorem devE_step {hs : List Ht} {k : Nat} {h : Ht} (hk : hs[k]? = some h) : devE (hs.drop k) = if wrongE h.2 = 0 then devE (hs.drop (k + 1)) else wrongE h.2 := by
  obtain ⟨h1, rfl⟩ := List.getElem?_eq_some_iff.1 hk
  rw [List.drop_eq_getElem_cons h1, devE]
theorem krE_zero {hs : List Ht} : krE hs = 0 ↔ Good hs := by
  unfold krE Good
  rw [← devE_zero, ← wrongE_zero]
  by_cases e : devE hs = 0
  · rw [if_pos e]; simp [e]
  · rw [if_neg e]
    constructor
    · intro h; exact absurd h e
    · intro h; exact absurd h.1 e
theorem krE_vals (hs : List Ht) : krE hs = 0 ∨ krE hs = 2 ∨ krE hs = 6 := by
  unfold krE; split
  · exact wrongE_vals _
  · exact devE_vals _
theorem sum_nonneg {d : List It} (h : ∀ a ∈ d, 0 ≤ a.2) : 0 ≤ sumW d := by
  induction d with
  | nil => simp [sumW]
  | cons a d ih =>
    have h1 := h a (by simp)
    have h2 := ih (fun b hb => h b (by simp [hb]))
    unfold sumW at *
    simp only [List.map_cons, List.sum_cons]
    omega
theorem sum_le {d : List It} (h : ∀ a ∈ d, a.2 ≤ 100) : sumW d ≤ 100 * d.length := by
  induction d with
  | nil => simp [sumW]
  | cons a d ih =>
    have h1 := h a (by simp)
    have h2 := ih (fun b hb => h b (by simp [hb]))
    unfold sumW at *
    simp only [List.map_cons, List.sum_cons, List.length_cons]
    omega
theorem sum_take {d : List It} {k : Nat} {a : It} (h : d[k]? = some a) : sumW (d.take (k + 1)) = sumW (d.take k) + a.2 := by
  unfold sumW
  rw [List.take_add_one, h, List.map_append, List.sum_append]
  simp
theorem some_pos {d : List It} (h : ∀ a ∈ d, 0 ≤ a.2) (hs : 0 < sumW d) : ∃ a ∈ d, 0 < a.2 := by
  induction d with
  | nil => simp [sumW] at hs
  | cons a d ih =>
    by_cases ha : 0 < a.2
    · exact ⟨a, by simp, ha⟩
    · have h1 := h a (by simp)
      obtain ⟨b, hb, h2⟩ := ih (fun b hb => h b (by simp [hb])) (by unfold sumW at *; simp only [List.map_cons, List.sum_cons] at hs; omega)
      exact ⟨b, by simp [hb], h2⟩
theorem hw_pos {d : List It} (h : 0 < hw d) : 0 < sumW d := by unfold hw at h; split at h <;> omega

/-! ### Where a key's copies are -/
def sub (key : UInt64) (id : Int) : UInt64 := Mix.two key (word id)
/-- The device of a host that the key chooses. -/
def dev (key : UInt64) (id : Int) (d : List It) : Int := ((ids (sub key id) d).head?).getD 0
def spot (key : UInt64) (hs : List Ht) (id : Int) : It := (id, match hs.find? (fun h => h.1 == id) with | some h => dev key id h.2 | none => 0)
def plE (key : UInt64) (hs : List Ht) (many : Int) : Int :=
  if krE hs ≠ 0 then krE hs else if many < 0 ∨ 16 < many then 2 else if ((ids key (wts hs)).length : Int) < many then 8 else 0
def plL (key : UInt64) (hs : List Ht) (many : Int) : List It := if plE key hs many = 0 then ((ids key (wts hs)).take many.toNat).map (spot key hs) else []
theorem plE_zero {key : UInt64} {hs : List Ht} {many : Int} : plE key hs many = 0 ↔ Good hs ∧ (0 ≤ many ∧ many ≤ 16) ∧ many ≤ ((ids key (wts hs)).length : Int) := by
  unfold plE
  rw [← krE_zero]
  by_cases h : krE hs = 0
  · rw [if_neg (by simpa using h)]
    by_cases h2 : many < 0 ∨ 16 < many
    · rw [if_pos h2]
      constructor <;> intro h <;> omega
    · rw [if_neg h2]
      by_cases h3 : ((ids key (wts hs)).length : Int) < many
      · rw [if_pos h3]
        constructor <;> intro h <;> omega
      · rw [if_neg h3]
        simp only [h, true_and, true_iff]
        exact ⟨by omega, by omega⟩
  · rw [if_pos h]
    constructor
    · intro h'; exact absurd h' h
    · intro h'; exact absurd h'.1 h
theorem plE_vals (key : UInt64) (hs : List Ht) (many : Int) : plE key hs many = 0 ∨ plE key hs many = 2 ∨ plE key hs many = 6 ∨ plE key hs many = 8 := by
  unfold plE
  have := krE_vals hs
  split
  · rcases this with h | h | h
    · exact absurd h (by assumption)
    · simp [h]
    · simp [h]
  · split
    · simp
    · split <;> simp
section
variable {key : UInt64} {hs : List Ht}
theorem good_once (h : Good hs) : (hs.map (·.1)).Nodup := by
  have := h.2.2.2
  unfold Once wts at this
  rwa [List.map_map] at this
theorem good_len (h : Good hs) : hs.length ≤ 16 := by have := h.2.1; rwa [wts_len] at this
/-- The one host of an id. -/
theorem find_host (h : Good hs) {x : Ht} (hx : x ∈ hs) : hs.find? (fun h => h.1 == x.1) = some x := by
  have ho := good_once h
  clear h
  induction hs with
  | nil => simp at hx
  | cons y hs ih =>
    obtain ⟨h1, h2⟩ := List.nodup_cons.1 (show (y.1 :: hs.map (·.1)).Nodup from ho)
    rcases List.mem_cons.1 hx with rfl | hx
    · simp
    · have hne : (y.1 == x.1) = false := by
        rw [beq_eq_false_iff_ne]
        intro e; exact h1 (List.mem_map.2 ⟨x, hx, e.symm⟩)
      rw [List.find?_cons, hne]
      exact ih hx h2
theorem spot_host (h : Good hs) {x : Ht} (hx : x ∈ hs) : spot key hs x.1 = (x.1, dev key x.1 x.2) := by
  unfold spot; rw [find_host h hx]
theorem ids_host (h : Good hs) {id : Int} (hi : id ∈ ids key (wts hs)) : ∃ x ∈ hs, x.1 = id ∧ 0 < hw x.2 := by
  obtain ⟨a, ha, h1, h2⟩ := ids_mem.1 hi
  obtain ⟨x, hx, rfl⟩ := List.mem_map.1 ha
  exact ⟨x, hx, h2, h1⟩
/-- On a host that weighs anything there is a device that does. -/
theorem dev_mem (h : Good hs) {x : Ht} (hx : x ∈ hs) (hw0 : 0 < hw x.2) : ∃ rest, ids (sub key x.1) x.2 = dev key x.1 x.2 :: rest := by
  have hv := h.1 x hx
  obtain ⟨a, ha, hp⟩ := some_pos (fun a ha => (hv.2.1 a ha).2.1) (hw_pos hw0)
  have hm : a.1 ∈ ids (sub key x.1) x.2 := ids_mem.2 ⟨a, ha, hp, rfl⟩
  unfold dev
  cases e : ids (sub key x.1) x.2 with
  | nil => rw [e] at hm; simp at hm
  | cons y ys => exact ⟨ys, rfl⟩
theorem plL_ok {many : Nat} (h : plE key hs many = 0) : plL key hs many = ((ids key (wts hs)).take many).map (spot key hs) := by
  unfold plL; rw [if_pos h, Int.toNat_natCast]
theorem plL_len {many : Nat} (h : plE key hs many = 0) : (plL key hs many).length = many := by
  rw [plL_ok h, List.length_map, List.length_take]
  have := (plE_zero.1 h).2.2
  omega
theorem plL_fst {many : Nat} (h : plE key hs many = 0) : (plL key hs many).map (·.1) = (ids key (wts hs)).take many := by
  rw [plL_ok h, List.map_map]
  have : ((fun x : It => x.1) ∘ spot key hs) = id := by funext i; rfl
  rw [this, List.map_id]
theorem plL_once {many : Nat} (h : plE key hs many = 0) : Once (plL key hs many) := by
  unfold Once
  rw [plL_fst h]
  exact (ids_nodup (plE_zero.1 h).1.2.2.2).sublist (List.take_sublist _ _)
theorem plL_mem {many : Nat} (h : plE key hs many = 0) {s : It} (hs' : s ∈ plL key hs many) : ∃ x ∈ hs, x.1 = s.1 ∧ s.2 = dev key x.1 x.2 ∧ ∃ d ∈ x.2, d.1 = s.2 ∧ 0 < d.2 := by
  rw [plL_ok h] at hs'
  obtain ⟨i, hi, rfl⟩ := List.mem_map.1 hs'
  have hg := (plE_zero.1 h).1
  obtain ⟨x, hx, rfl, hp⟩ := ids_host hg (List.mem_of_mem_take hi)
  have e := spot_host (key := key) hg hx
  obtain ⟨rest, hr⟩ := dev_mem (key := key) hg hx hp
  have hm : dev key x.1 x.2 ∈ ids (sub key x.1) x.2 := by rw [hr]; simp
  obtain ⟨d, hd, h1, h2⟩ := ids_mem.1 hm
  exact ⟨x, hx, rfl, by rw [e], d, hd, by rw [e]; exact h2, h1⟩

/-! ### A host goes -/
theorem wts_filter (id : Int) : wts (hs.filter (fun h => h.1 != id)) = (wts hs).filter (fun a => a.1 != id) := by
  unfold wts
  rw [List.filter_map]
  rfl
theorem erase_filter (h : Good hs) {k : Nat} {x : Ht} (hk : hs[k]? = some x) : hs.take k ++ hs.drop (k + 1) = hs.filter (fun h => h.1 != x.1) := by
  obtain ⟨h1, e⟩ := List.getElem?_eq_some_iff.1 hk
  have es : hs = hs.take k ++ x :: hs.drop (k + 1) := by rw [← e, ← List.drop_eq_getElem_cons h1, List.take_append_drop]
  have ho := good_once h
  rw [es, List.map_append, List.map_cons] at ho
  obtain ⟨n1, n2, n3⟩ := List.nodup_append.1 ho
  obtain ⟨n4, n5⟩ := List.nodup_cons.1 n2
  conv => rhs; rw [es]
  rw [List.filter_append, List.filter_cons]
  have f1 : (hs.take k).filter (fun h => h.1 != x.1) = hs.take k := List.filter_eq_self.2 (fun y hy => by
    have := n3 y.1 (List.mem_map.2 ⟨y, hy, rfl⟩) x.1 (by simp)
    simpa using this)
  have f2 : (hs.drop (k + 1)).filter (fun h => h.1 != x.1) = hs.drop (k + 1) := List.filter_eq_self.2 (fun y hy => by
    have : y.1 ≠ x.1 := fun e => n4 (List.mem_map.2 ⟨y, hy, e⟩)
    simpa using this)
  rw [f1, f2]; simp
theorem good_filter (h : Good hs) (p : Ht → Bool) (id : Int) (hp : p = fun h => h.1 != id) : Good (hs.filter p) := by
  subst hp
  refine ⟨fun x hx => h.1 x ((List.mem_filter.1 hx).1), ?_⟩
  rw [wts_filter]
  obtain ⟨v1, v2, v3⟩ := h.2
  exact ⟨Nat.le_trans (List.length_filter_le _ _) v1, fun a ha => v2 a ((List.mem_filter.1 ha).1), v3.filter _⟩
theorem find_filter {id i : Int} (hne : i ≠ id) : (hs.filter (fun h => h.1 != id)).find? (fun h => h.1 == i) = hs.find? (fun h => h.1 == i) := by
  rw [List.find?_filter]
  congr 1
  funext h
  by_cases e : h.1 = i
  · simp [e, hne]
  · simp [e]
theorem spot_filter {id i : Int} (hne : i ≠ id) : spot key (hs.filter (fun h => h.1 != id)) i = spot key hs i := by
  unfold spot; rw [find_filter hne]
theorem take_filter {l : List Int} (p : Int → Bool) (n : Nat) : (l.filter p).take ((l.take n).filter p).length = (l.take n).filter p := by
  conv => lhs; rw [← List.take_append_drop n l]
  rw [List.filter_append, List.take_append_drop, List.take_left' rfl]
/-- The copies of the host that went are gone, all others are where they were. -/
theorem gone {many : Nat} (h : plE key hs many = 0) {id : Int} {left : List It} (hl : left = (plL key hs many).filter (fun s => s.1 != id)) :
    plE key (hs.filter (fun h => h.1 != id)) left.length = 0 ∧ plL key (hs.filter (fun h => h.1 != id)) left.length = left := by
  obtain ⟨hg, hm, hlen⟩ := plE_zero.1 h
  have hf : (plL key hs many).filter (fun s => s.1 != id) = (((ids key (wts hs)).take many).filter (fun x => x != id)).map (spot key hs) := by
    rw [plL_ok h, List.filter_map]; rfl
  have hi : ids key (wts (hs.filter (fun h => h.1 != id))) = (ids key (wts hs)).filter (fun x => x != id) := by
    rw [wts_filter, ids_without hg.2.2.2]
  have hll : left.length = (((ids key (wts hs)).take many).filter (fun x => x != id)).length := by rw [hl, hf, List.length_map]
  have hle : left.length ≤ many := by
    rw [hll]; exact Nat.le_trans (List.length_filter_le _ _) (List.length_take_le _ _)
  have h0 : plE key (hs.filter (fun h => h.1 != id)) left.length = 0 := by
    refine plE_zero.2 ⟨good_filter hg _ id rfl, by omega, ?_⟩
    rw [hi, hll]
    have := List.Sublist.length_le ((List.take_sublist many (ids key (wts hs))).filter (fun x => x != id))
    omega
  refine ⟨h0, ?_⟩
  rw [plL_ok h0, hi, hll, take_filter, hl, hf]
  refine List.map_congr_left fun i hi => ?_
  exact spot_filter (by simpa using (List.mem_filter.1 hi).2)
end
end Go.Proofs.Ytcbecpgllebepaa.Crush
