/-
  bytes.Clone: a slice of the call's own that may be written to.
-/
import Derived.Test.YtpjopdemhdeelaaBytesFns
import Derived.Test.YtpjopdemhdeelaaSl
namespace Go.Proofs.Ytpjopdemhdeelaa.Mem
set_option linter.unusedVariables false
open Go.RowKit

/-- A slice of the call's own (block B or later) that holds r. -/
def Mine (W : World) (B : Nat) (A : Option Addr) (r : List UInt8) : Prop := r = [] ∨ ∃ g cs, A = some ⟨g, 0, none⟩ ∧ B ≤ g ∧ Known W g 5 cs ∧ r.length ≤ cs.size ∧ ∀ (k : Nat) (x : UInt8), r[k]? = some x → cs[k]? = some (byt x)
section
variable {W V : World} {B : Nat} {A : Option Addr} {r : List UInt8}
theorem Mine.at_ (h : Mine W B A r) {k : Nat} (hk : k < r.length) : ∃ g x, A = some ⟨g, 0, none⟩ ∧ B ≤ g ∧ g < W.heap.size ∧ r[k]? = some x ∧ W.cell? ⟨g, k, none⟩ = some (.int .u8 (x.toNat : Int)) ∧ W.frozen? ⟨g, k, none⟩ = false := by
  rcases h with rfl | ⟨g, cs, h1, h2, h3, h4, h5⟩
  · simp at hk
  · have e := List.getElem?_eq_getElem hk
    exact ⟨g, r[k], h1, h2, h3.lt, e, (h3.cell k).trans (h5 k _ e), h3.free k⟩
theorem Mine.put (h : Mine W B A r) {g k : Nat} (hA : A = some ⟨g, 0, none⟩) (x : UInt8) : Mine (W.setCell ⟨g, k, none⟩ (.int .u8 (x.toNat : Int))) B A (r.set k x) := by
  rcases h with rfl | ⟨g', cs, h1, h2, h3, h4, h5⟩
  · exact .inl (by simp)
  · rw [hA] at h1; injection h1 with h1; injection h1 with h1; subst h1
    refine .inr ⟨g, _, hA, h2, h3.put k _, by simpa using h4, fun j y hy => ?_⟩
    rw [List.getElem?_set] at hy
    rw [Array.getElem?_setIfInBounds]
    split at hy
    · rename_i e
      subst e
      split at hy
      · injection hy with hy; subst hy; rw [if_pos rfl, if_pos (by omega)]; rfl
      · cases hy
    · rename_i e
      rw [if_neg e]; exact h5 j y hy
theorem Mine.later (h : Mine W B A r) (hb : Below W.heap.size W V) : Mine V B A r := by
  rcases h with rfl | ⟨g, cs, h1, h2, h3, h4, h5⟩
  · exact .inl rfl
  · exact .inr ⟨g, cs, h1, h2, h3.later hb, h4, h5⟩
theorem Mine.drew (h : Mine W B A r) : Mine W.drew B A r := h
theorem Mine.drawn (h : Mine W B A r) (hd : Drawn W V) : Mine V B A r := h.later (hd.below _)
theorem Mine.reads (h : Mine W B A r) : Reads W A (r.map byt) := by
  rcases h with rfl | ⟨g, cs, h1, h2, h3, h4, h5⟩
  · exact Reads.nil
  · intro k v hv
    rw [List.getElem?_map] at hv
    cases e : r[k]? with
    | none => rw [e] at hv; cases hv
    | some x =>
      rw [e] at hv; injection hv with hv; subst hv
      exact ⟨g, 0, h1, h3.lt, by rw [Nat.zero_add]; exact (h3.cell k).trans (h5 k x e)⟩
end
theorem clone_c (A : Option Addr) (r : List UInt8) (c : Nat) (W : World) (hl : r.length ≤ 140737488351232) (hA : Reads W A (r.map byt)) :
    Calls Try.prog 18 #[.slice A r.length c] W fun e W' => ∃ (A' : Option Addr) (c' : Nat), e = .returned (.slice A' r.length c') ∧ r.length ≤ c' ∧ Mine W' W.heap.size A' r ∧ Below W.heap.size W W' := by
  cases A with
  | none =>
    have hr : r = [] := by
      cases r with
      | nil => rfl
      | cons x r => obtain ⟨b, o, h, _⟩ := hA 0 (byt x) rfl; cases h
    subst hr
    refine (Try.bytes_Clone_nil 0 c W).mono ?_
    rintro e W' ⟨rfl, rfl⟩
    exact ⟨none, 0, rfl, by simp, .inl rfl, Below.refl _ _⟩
  | some a =>
    have hc : ∀ i, i < r.length → W.cell? (a.add i) = some (.int .u8 ((nums r).getD i 0)) := fun i hi => by
      obtain ⟨b, o, x, ha, _, _⟩ := hA.bytes hi
      injection ha with ha
      subst ha
      rw [show (Addr.mk b o none).add i = ⟨b, o + i, none⟩ by unfold Addr.add; split; · simp_all
                                                              · rfl]
      exact hA.cells i hi
    refine (Try.bytes_Clone_at a r.length c (nums r) W (nums_len r) (by omega) hc).mono ?_
    rintro e W' ⟨v', rfl, hG, _, hb⟩
    have hx : (nums r).map (Value.int .u8) = r.map byt := by unfold nums; rw [List.map_map]; rfl
    rw [hx] at hG
    rcases hG.2 with ⟨rfl, hn⟩ | ⟨g, cap, cur, rfl, h1, h2, h3, h4, h5, h6⟩
    · have hr : r = [] := List.eq_nil_of_length_eq_zero hn
      subst hr
      exact ⟨none, 0, rfl, by simp, .inl rfl, hb⟩
    · refine ⟨_, cap, rfl, h3, .inr ⟨g, cur, rfl, h1, h2, by omega, fun k x hk => ?_⟩, hb⟩
      have h7 := congrArg (fun l : List Value => l[k]?) h6
      have hlt := (List.getElem?_eq_some_iff.1 hk).1
      simp only [List.getElem?_take, List.getElem?_map, hk] at h7
      rw [if_pos (by omega)] at h7
      simpa using h7
end Go.Proofs.Ytpjopdemhdeelaa.Mem
