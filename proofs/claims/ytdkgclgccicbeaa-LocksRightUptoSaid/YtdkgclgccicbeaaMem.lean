/-
  Slices that are only read: a slice's address leads to the cells of a list; worlds that only drew.
-/
import Derived.Test.YtdkgclgccicbeaaRows
import Derived.Test.YtdkgclgccicbeaaWords
import Derived.WalkKit
import Derived.WalkLawsBesides
import Derived.WalkSpells
import Derived.ProofKit
import Derived.OpenShut
import Derived.ChangeSlices
import Derived.SizedLaws
import Derived.Outline
import Derived.Lib.Hide
import Derived.Below
import Derived.Deep.Draws
import Derived.Deep.Slices
import Derived.Deep.QuietTactic
import Derived.BigQuiet
namespace Go.Proofs.Ytdkgclgccicbeaa.Mem
set_option linter.unusedVariables false
open Go.RowKit Go.ChangeShapes Go.WideShapes

/-- World V is world W, some answers of the tape later. -/
def Drawn (W V : World) : Prop := ∃ q, V = W.drewN q
section
variable {W V U : World}
theorem Drawn.refl (W : World) : Drawn W W := ⟨0, rfl⟩
theorem Drawn.more (h : Drawn W V) (q : Nat) : Drawn W (V.drewN q) := by
  obtain ⟨p, rfl⟩ := h; exact ⟨p + q, World.drewN_drewN ..⟩
theorem Drawn.trans (h : Drawn W V) (k : Drawn V U) : Drawn W U := by
  obtain ⟨q, rfl⟩ := k; exact h.more q
theorem below_drewN {B : Nat} (h : Below B W V) (n : Nat) : Below B W (V.drewN n) := ⟨h.os, h.tape, h.output, h.size, h.block⟩
theorem Drawn.below (h : Drawn W V) (B : Nat) : Below B W V := by
  obtain ⟨q, rfl⟩ := h; exact below_drewN (Below.refl _ _) q
end

/-- A slice's address A leads to the cells xs, all of them old. -/
def Reads (W : World) (A : Option Addr) (xs : List Value) : Prop :=
  ∀ (k : Nat) (v : Value), xs[k]? = some v → ∃ b o, A = some ⟨b, o, none⟩ ∧ b < W.heap.size ∧ W.cell? ⟨b, o + k, none⟩ = some v
def byt (x : UInt8) : Value := .int .u8 x.toNat
section
variable {W V : World} {A : Option Addr} {xs : List Value}
theorem Reads.nil : Reads W A [] := fun k v h => by simp at h
theorem Reads.keep (h : Reads W A xs) (hk : ∀ p : Addr, p.block < W.heap.size → V.cell? p = W.cell? p) (hs : W.heap.size ≤ V.heap.size) : Reads V A xs := fun k v hv => by
  obtain ⟨b, o, h1, h2, h3⟩ := h k v hv
  exact ⟨b, o, h1, by omega, (hk _ h2).trans h3⟩
theorem Reads.drawn (h : Reads W A xs) (hd : Drawn W V) : Reads V A xs := by
  obtain ⟨q, rfl⟩ := hd; exact h
theorem Reads.below (h : Reads W A xs) (hb : Below W.heap.size W V) : Reads V A xs := h.keep (fun p hp => hb.cell hp) hb.size
theorem Reads.bytes {l : List UInt8} (h : Reads W A (l.map byt)) {k : Nat} (hk : k < l.length) : ∃ b o x, A = some ⟨b, o, none⟩ ∧ l[k]? = some x ∧ W.cell? ⟨b, o + k, none⟩ = some (.int .u8 (x.toNat : Int)) := by
  obtain ⟨b, o, h1, h2, h3⟩ := h k (byt l[k]) (by rw [List.getElem?_map, List.getElem?_eq_getElem hk]; rfl)
  exact ⟨b, o, l[k], h1, List.getElem?_eq_getElem hk, h3⟩
end

section
variable {H : Type} {enc : TypeId × Value → H} {P : Program}
theorem open_bytes {t e : TypeId} (ht : P.underlying t = some (.slice e)) (he : P.underlying e = some (.int .u8)) (hc : P.cellsOf e = 1)
    {W : World} {base : Nat} {v : Value} {d : DataW H} {p : List MemPlace} (hval : Value.okWide P W .any base t v) (h : DataW.Trod enc P W 0 (fun _ => true) true t v d p) :
    ∃ (A : Option Addr) (cap : Nat) (l : List UInt8), v = .slice A l.length cap ∧ l.length ≤ maxLen ∧ Reads W A (l.map byt) ∧ l.length ≤ cap ∧ cap ≤ maxLen ∧ (d = .nil ∧ l = [] ∧ cap = 0 ∨ ∃ el sp, d = .slice el sp ∧ el.length + sp.length = cap) := by
  obtain ⟨a1, len, cap, rfl⟩ := okWide_slice ht hval
  obtain ⟨fuel, hf⟩ := h
  rcases open_ints ht he hc hf with ⟨hcs, hx⟩ | ⟨a, len', cap', zs, hcs, _, hl, hm, hz, hx, hcell, hwz⟩
  · simp [Value.cells] at hcs
    obtain ⟨rfl, rfl, rfl⟩ := hcs
    simp only [Prod.mk.injEq] at hx
    obtain ⟨rfl, rfl⟩ := hx
    exact ⟨none, 0, [], rfl, Nat.zero_le _, Reads.nil, Nat.zero_le _, Nat.zero_le _, .inl ⟨rfl, rfl, rfl⟩⟩
  · simp [Value.cells] at hcs
    obtain ⟨rfl, rfl, rfl⟩ := hcs
    simp only [if_true] at hz
    simp only [Prod.mk.injEq] at hx
    obtain ⟨rfl, rfl⟩ := hx
    have hlen : ((zs.take len).map fun n => UInt8.ofNat n.toNat).length = len := by simp; omega
    refine ⟨some a, cap, (zs.take len).map fun n => UInt8.ofNat n.toNat, by rw [hlen], by rw [hlen]; omega, ?_, by rw [hlen]; omega, hm, .inr ⟨_, _, rfl, by simp [lits]; omega⟩⟩
    intro k v hv
    rw [List.map_map, List.getElem?_map] at hv
    have hk : k < len := by
      rcases Nat.lt_or_ge k len with h | h
      · exact h
      · rw [List.getElem?_eq_none (by simp; omega)] at hv; cases hv
    rw [List.getElem?_take_of_lt hk, List.getElem?_eq_getElem (by omega)] at hv
    obtain ⟨ab, ao, spot⟩ := a
    have hspot : spot = none := by simpa [Addr.add] using World.cell?_spot (hcell 0 (by omega))
    subst hspot
    have hcj := hcell k (by omega)
    rw [Addr.add_lit] at hcj
    have e : zs.getD k 0 = zs[k]'(by omega) := by simp [List.getD, List.getElem?_eq_getElem (show k < zs.length by omega)]
    have hb := range_u8 hwz k
    rw [List.getD_eq_getElem?_getD] at e hcj
    rw [e] at hb hcj
    refine ⟨ab, ao, rfl, World.block_lt_of_cell? _ _ hcj, ?_⟩
    rw [hcj, ← hv]
    show some (Value.int .u8 zs[k]) = some (Value.int .u8 ((UInt8.ofNat (zs[k]).toNat).toNat : Int))
    congr 2
    simp only [UInt8.toNat_ofNat']
    omega
/-- .. within the form's reach. -/
theorem open_bytesZ {t e : TypeId} (ht : P.underlying t = some (.slice e)) (he : P.underlying e = some (.int .u8)) (hc : P.cellsOf e = 1) (h8 : P.bytesOf e = 1)
    {W : World} {base : Nat} {v : Value} {d : DataW H} {p : List MemPlace} (hval : Value.okWide P W .any base t v) (h : DataW.Trod enc P W 0 (fun _ => true) true t v d p)
    {ts : List TypeId} {ds : List (DataW H)} (hz : (DataW.weightsEach P ts ds).all (· ≤ reachBytes) = true) {j : Nat} (htj : ts[j]? = some t) (hdj : ds[j]? = some d) :
    ∃ (A : Option Addr) (cap : Nat) (l : List UInt8), v = .slice A l.length cap ∧ l.length ≤ 140737488351232 ∧ Reads W A (l.map byt) ∧ l.length ≤ cap ∧ cap ≤ 140737488351232 := by
  obtain ⟨A, cap, l, h1, h2, h3, h4, h5, h6⟩ := open_bytes ht he hc hval h
  rcases h6 with ⟨hd, hl, hc0⟩ | ⟨el, sp, hd, hs⟩
  · subst hl hc0; exact ⟨A, 0, [], h1, by simp, h3, by simp, by omega⟩
  · subst hd
    have := sized_slice hz htj hdj ht
    rw [h8, Nat.mul_one, hs] at this
    have h7 : cap ≤ 140737488351232 := this
    exact ⟨A, cap, l, h1, by omega, h3, h4, h7⟩
end
end Go.Proofs.Ytdkgclgccicbeaa.Mem
