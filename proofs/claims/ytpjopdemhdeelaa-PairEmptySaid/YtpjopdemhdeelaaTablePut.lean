/-
  A row of a table of the call's own is written over.
-/
import Derived.Test.YtpjopdemhdeelaaRowsApp
namespace Go.Proofs.Ytpjopdemhdeelaa.Mem
set_option linter.unusedVariables false
open Go.RowKit

theorem rowOff_set {w : World} {g i : Nat} {u x : Value} {r : List UInt8} (h : RowOff w (some g) u r) : RowOff (w.setCell ⟨g, i, none⟩ x) (some g) u r := by
  obtain ⟨C, c, h1, h2, h3, h4, h5⟩ := h
  by_cases hr : r = []
  · subst hr; exact ⟨C, c, h1, h2, h3, Reads.nil, fun hne => absurd rfl hne⟩
  · exact ⟨C, c, h1, h2, h3, h4.off (p := ⟨g, i, none⟩) (fun a ha e => (h5 hr a ha).1 (by rw [e])) x, fun _ a ha => ⟨(h5 hr a ha).1, by rw [show (w.setCell ⟨g, i, none⟩ x).heap.size = w.heap.size by simp]; exact (h5 hr a ha).2⟩⟩
theorem Grows.head {W : World} {B : Nat} {e : TypeId} {A : Option Addr} {n cap : Nat} {xs : List Value} (h : Grows W B e (.slice A n cap) xs) (h0 : 0 < xs.length) : ∃ g, A = some ⟨g, 0, none⟩ ∧ n = xs.length := by
  rcases h.2 with ⟨_, hn⟩ | ⟨g, c, cur, hv, _⟩
  · omega
  · injection hv with h1 h2 h3; exact ⟨g, h1, h2⟩
/-- What a store of row r at number k needs, and what comes of it. -/
theorem Table.put {W : World} {B : Nat} {A : Option Addr} {n cap k : Nat} {rows : List (List UInt8)} {u : Value} {r : List UInt8} (h : Table W B (.slice A n cap) rows) (hk : k < rows.length) (hu : RowOff W (Value.ownBlock (.slice A n cap)) u r) :
    ∃ g u0, A = some ⟨g, 0, none⟩ ∧ B ≤ g ∧ W.cell? ⟨g, k, none⟩ = some u0 ∧ W.frozen? ⟨g, k, none⟩ = false ∧ Table (W.setCell ⟨g, k, none⟩ u) B (.slice A n cap) (rows.set k r) := by
  obtain ⟨us, h1, h2, h3⟩ := h
  obtain ⟨g, rfl, hn⟩ := h1.head (by omega)
  have hown : Value.ownBlock (.slice (some ⟨g, 0, none⟩) n cap) = some g := rfl
  have hx : us[k]? = some us[k] := List.getElem?_eq_getElem (by omega)
  have h1' : W.ownsRow B 23 1 (.slice (some ⟨g, 0, none⟩) n cap) n us := by rw [hn]; rw [hn] at h1; exact h1
  refine ⟨g, us[k], rfl, (h1.lt g hown).1, ?_, ?_, us.set k u, ?_, by rw [List.length_set, List.length_set, h2], fun j v q hv hq => ?_⟩
  · exact (h1'.cellAt k (by omega)).trans hx
  · exact h1'.frozenAt k
  · unfold Grows
    rw [List.length_set, ← hn]
    exact (h1'.stored k u).1
  · rw [List.getElem?_set] at hv hq
    rw [hown]
    by_cases e : k = j
    · subst e
      rw [if_pos rfl, if_pos (by omega)] at hv
      rw [if_pos rfl, if_pos hk] at hq
      injection hv with hv; injection hq with hq
      subst hv hq
      exact rowOff_set hu
    · rw [if_neg e] at hv hq
      exact rowOff_set (h3 j v q hv hq)
end Go.Proofs.Ytpjopdemhdeelaa.Mem
