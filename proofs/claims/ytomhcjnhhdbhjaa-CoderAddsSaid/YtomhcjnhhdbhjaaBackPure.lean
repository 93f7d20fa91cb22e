/-
  What the reference's DBack returns, as a proposition on pieces.
-/
import Derived.Test.YtomhcjnhhdbhjaaMoreRef
import Derived.Test.YtomhcjnhhdbhjaaPcs
namespace Go.Proofs.Ytomhcjnhhdbhjaa.Cdr
set_option linter.unusedVariables false
open Go.RowKit Gf Mem Poly

/-- The first fault of a number: 2: it is none of the rows' numbers, 6: it was there already. -/
def scan (lim : Int) : List Int → List Pc → Option Int
  | _, [] => none
  | S, p :: ps => if p.1 < 0 ∨ lim - 1 < p.1 then some 2 else if p.1 ∈ S then some 6 else scan lim (p.1 :: S) ps
def datas (ps : List Pc) : List (List UInt8) := ps.map (·.2)
def nums8 (ps : List Pc) : List UInt8 := ps.map fun p => UInt8.ofNat p.1.toNat
def badRange (r m : Int) : Prop := r < 1 ∨ 100 < r ∨ m < 0 ∨ 100 < m
/-- outs are the data rows that the pieces tell. -/
def Backs (r : Nat) (ps : List Pc) (outs : List (List UInt8)) : Prop :=
  outs.length = r ∧ ∀ (j : Nat) (out : List UInt8), outs[j]? = some out → out.length = ((datas ps).headD []).length ∧ Fill (nums8 (ps.take r)) (datas (ps.take r)) (UInt8.ofNat j) out
/-- What the rows are, or why there are none. -/
def BackIs (r m : Int) (ps : List Pc) (outs : List (List UInt8)) (err : Int) : Prop :=
  (badRange r m ∧ err = 2 ∧ outs = []) ∨ (¬ badRange r m ∧ scan (r + m) [] ps = some err ∧ outs = []) ∨ (¬ badRange r m ∧ scan (r + m) [] ps = none ∧
    (((ps.length : Int) < r ∧ err = 8 ∧ outs = []) ∨ (r ≤ (ps.length : Int) ∧ evenB (datas ps) = false ∧ err = 1 ∧ outs = []) ∨ (r ≤ (ps.length : Int) ∧ evenB (datas ps) = true ∧ err = 0 ∧ Backs r.toNat ps outs)))

/-- Where the scan stands behind k pieces without a fault. -/
def Scanned (lim : Int) (ps : List Pc) (k : Nat) (S : List Int) : Prop := scan lim [] ps = scan lim S (ps.drop k) ∧ S = ((ps.take k).map (·.1)).reverse ∧ S.Nodup ∧ ∀ x ∈ S, 0 ≤ x ∧ x ≤ lim - 1
theorem scanned_zero (lim : Int) (ps : List Pc) : Scanned lim ps 0 [] := ⟨rfl, rfl, List.nodup_nil, fun x h => by simp at h⟩
theorem scanned_next {lim : Int} {ps : List Pc} {k : Nat} {S : List Int} {p : Pc} (h : Scanned lim ps k S) (hp : ps[k]? = some p) (h1 : 0 ≤ p.1) (h2 : p.1 ≤ lim - 1) (h3 : p.1 ∉ S) : Scanned lim ps (k + 1) (p.1 :: S) := by
  obtain ⟨a, b, c, d⟩ := h
  have hk := (List.getElem?_eq_some_iff.1 hp).1
  refine ⟨?_, ?_, List.nodup_cons.2 ⟨h3, c⟩, fun x hx => ?_⟩
  · rw [a, List.drop_eq_getElem_cons hk, (List.getElem?_eq_some_iff.1 hp).2, scan, if_neg (by omega), if_neg h3]
  · rw [Poly.take_next hp, List.map_append, List.reverse_append, b]; rfl
  · rcases List.mem_cons.1 hx with rfl | hx
    · exact ⟨h1, h2⟩
    · exact d x hx
theorem scanned_range {lim : Int} {ps : List Pc} {k : Nat} {S : List Int} {p : Pc} (h : Scanned lim ps k S) (hp : ps[k]? = some p) (h1 : p.1 < 0 ∨ lim - 1 < p.1) : scan lim [] ps = some 2 := by
  have hk := (List.getElem?_eq_some_iff.1 hp).1
  rw [h.1, List.drop_eq_getElem_cons hk, (List.getElem?_eq_some_iff.1 hp).2, scan, if_pos h1]
theorem scanned_held {lim : Int} {ps : List Pc} {k : Nat} {S : List Int} {p : Pc} (h : Scanned lim ps k S) (hp : ps[k]? = some p) (h1 : 0 ≤ p.1) (h2 : p.1 ≤ lim - 1) (h3 : p.1 ∈ S) : scan lim [] ps = some 6 := by
  have hk := (List.getElem?_eq_some_iff.1 hp).1
  rw [h.1, List.drop_eq_getElem_cons hk, (List.getElem?_eq_some_iff.1 hp).2, scan, if_neg (by omega), if_pos h3]
theorem scanned_all {lim : Int} {ps : List Pc} {S : List Int} (h : Scanned lim ps ps.length S) : scan lim [] ps = none := by
  rw [h.1, List.drop_length]; rfl
/-- The numbers as bytes differ. -/
theorem scanned_nodup {lim : Int} {ps : List Pc} {k : Nat} {S : List Int} (h : Scanned lim ps k S) (hl : lim ≤ 256) : (nums8 (ps.take k)).Nodup := by
  obtain ⟨_, b, c, d⟩ := h
  have c' : ((ps.take k).map (·.1)).Nodup := by
    have : ((ps.take k).map (·.1)) = S.reverse := by rw [b, List.reverse_reverse]
    rw [this]
    unfold List.Nodup
    rw [List.pairwise_reverse]
    exact c.imp fun hne e => hne e.symm
  have d' : ∀ x ∈ (ps.take k).map (·.1), 0 ≤ x ∧ x ≤ lim - 1 := fun x hx => d x (by rw [b]; exact List.mem_reverse.2 hx)
  have e : nums8 (ps.take k) = ((ps.take k).map (·.1)).map fun x => UInt8.ofNat x.toNat := by unfold nums8; rw [List.map_map]; rfl
  rw [e]
  refine List.pairwise_map.2 (List.Pairwise.imp_of_mem ?_ c')
  intro x y hx hy hne he
  have h1 := congrArg UInt8.toNat he
  rw [UInt8.toNat_ofNat', UInt8.toNat_ofNat'] at h1
  have := d' x hx
  have := d' y hy
  exact hne (by omega)
theorem backs_nil (ps : List Pc) : Backs 0 ps [] := ⟨rfl, fun j out h => by simp at h⟩
theorem back_unique {r m : Int} {ps : List Pc} {outs outs' : List (List UInt8)} {err err' : Int} (h : BackIs r m ps outs err) (h' : BackIs r m ps outs' err') (hd : scan (r + m) [] ps = none → ¬ badRange r m → r ≤ (ps.length : Int) → (nums8 (ps.take r.toNat)).Nodup) : err = err' ∧ outs = outs' := by
  rcases h with ⟨a1, a2, a3⟩ | ⟨a1, a2, a3⟩ | ⟨a1, a2, a3⟩ <;> rcases h' with ⟨b1, b2, b3⟩ | ⟨b1, b2, b3⟩ | ⟨b1, b2, b3⟩
  · exact ⟨a2.trans b2.symm, a3.trans b3.symm⟩
  · exact absurd a1 b1
  · exact absurd a1 b1
  · exact absurd b1 a1
  · rw [a2] at b2; injection b2 with b2; exact ⟨b2, a3.trans b3.symm⟩
  · rw [a2] at b2; cases b2
  · exact absurd b1 a1
  · rw [a2] at b2; cases b2
  · rcases a3 with ⟨c1, c2, c3⟩ | ⟨c1, c2, c3, c4⟩ | ⟨c1, c2, c3, c4⟩ <;> rcases b3 with ⟨d1, d2, d3⟩ | ⟨d1, d2, d3, d4⟩ | ⟨d1, d2, d3, d4⟩
    · exact ⟨c2.trans d2.symm, c3.trans d3.symm⟩
    · omega
    · omega
    · omega
    · exact ⟨c3.trans d3.symm, c4.trans d4.symm⟩
    · rw [c2] at d2; cases d2
    · omega
    · rw [c2] at d2; cases d2
    · refine ⟨c3.trans d3.symm, List.ext_getElem (c4.1.trans d4.1.symm) fun j h1 h2 => ?_⟩
      obtain ⟨l1, f1⟩ := c4.2 j _ (List.getElem?_eq_getElem h1)
      obtain ⟨l2, f2⟩ := d4.2 j _ (List.getElem?_eq_getElem h2)
      exact fill_unique (hd a2 a1 c1) (by simp [nums8, datas]) f1 f2 (l1.trans l2.symm)
end Go.Proofs.Ytomhcjnhhdbhjaa.Cdr
