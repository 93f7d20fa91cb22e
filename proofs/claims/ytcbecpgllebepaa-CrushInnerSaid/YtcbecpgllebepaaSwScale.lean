/-
  StrawScale over what the laws take of the program.
-/
import Derived.Test.YtcbecpgllebepaaSwSpec
import Derived.Test.YtcbecpgllebepaaSwEqZ
namespace Go.Proofs.Ytcbecpgllebepaa.Straw
set_option linter.unusedVariables false
set_option linter.unusedSimpArgs false
open Go.RowKit Mem

theorem scan_scale {c : Nat} (hc : 1 ≤ c) {l : List It} (hw : ∀ a ∈ l, 0 ≤ a.2) (had : List Int) : scanW had (l.map (scale c)) = 2 ∨ scanW had l = scanW had (l.map (scale c)) := by
  induction l generalizing had with
  | nil => exact .inr rfl
  | cons a l ih =>
    have ha := hw a (by simp)
    have hmul : a.2 ≤ a.2 * (c : Int) := by
      have := Int.mul_le_mul_of_nonneg_left (show (1 : Int) ≤ c by omega) ha
      omega
    show scanW had (scale c a :: l.map (scale c)) = 2 ∨ scanW had (a :: l) = scanW had (scale c a :: l.map (scale c))
    rw [scanW, scanW]
    by_cases h1 : BadIt (scale c a)
    · rw [if_pos h1]; exact .inl rfl
    · rw [if_neg h1]
      have h2 : ¬ BadIt a := fun h => h1 (by unfold BadIt at *; show a.1 < 0 ∨ 1099511627776 < a.1 ∨ a.2 * (c : Int) < 0 ∨ 100 < a.2 * (c : Int); omega)
      rw [if_neg h2]
      show (if a.1 ∈ had then (6 : Int) else _) = 2 ∨ _ = (if a.1 ∈ had then (6 : Int) else _)
      by_cases h3 : a.1 ∈ had
      · rw [if_pos h3, if_pos h3]; exact .inr rfl
      · rw [if_neg h3, if_neg h3]
        exact ih (fun b hb => hw b (List.mem_cons_of_mem _ hb)) _
theorem some_scale {key : UInt64} {c : Nat} (hc : 1 ≤ c) {l : List It} (hw : ∀ a ∈ l, 0 ≤ a.2) (many : Int) :
    someE key (l.map (scale c)) many = 2 ∨ (someE key l many = someE key (l.map (scale c)) many ∧ someL key l many = someL key (l.map (scale c)) many) := by
  have hwr : wrongE (l.map (scale c)) = 2 ∨ wrongE l = wrongE (l.map (scale c)) := by
    unfold wrongE
    rw [List.length_map]
    split
    · exact .inl rfl
    · exact scan_scale hc hw []
  rcases hwr with h | h
  · left
    unfold someE; rw [h]; rfl
  · by_cases h0 : wrongE l = 0
    · have hv := wrongE_zero.1 h0
      have hi := ids_scale (key := key) hc hv.2.2
      have hE : someE key l many = someE key (l.map (scale c)) many := by unfold someE; rw [← h, hi]
      exact .inr ⟨hE, by unfold someL; rw [← hE, hi]⟩
    · have hE : someE key l many = someE key (l.map (scale c)) many := by unfold someE; rw [← h, if_pos h0, if_pos h0]
      refine .inr ⟨hE, ?_⟩
      have hne : someE key l many ≠ 0 := fun e => h0 (wrongE_zero.2 (someE_zero.1 e).1)
      unfold someL
      rw [← hE, if_neg hne, if_neg hne]
/-- Scaled up to k. -/
def part (l : List It) (c k : Nat) : List It := (l.take k).map (scale c) ++ l.drop k
theorem part_len (l : List It) (c k : Nat) (h : k ≤ l.length) : (part l c k).length = l.length := by unfold part; simp; omega
theorem part_at {l : List It} {c k : Nat} {a : It} (h : l[k]? = some a) : (part l c k)[k]? = some a ∧ (part l c k).set k (scale c a) = part l c (k + 1) := by
  obtain ⟨h1, rfl⟩ := List.getElem?_eq_some_iff.1 h
  have hl : ((l.take k).map (scale c)).length = k := by simp; omega
  unfold part
  refine ⟨?_, ?_⟩
  · rw [List.getElem?_append_right (by omega), hl, Nat.sub_self, List.getElem?_drop, Nat.add_zero]; exact h
  · rw [List.set_append_right _ _ (by omega), hl, Nat.sub_self, List.drop_eq_getElem_cons h1, List.set_cons_zero, List.take_succ_eq_append_getElem h1, List.map_append]
    simp
theorem part_end (l : List It) (c : Nat) : part l c l.length = l.map (scale c) := by unfold part; simp
theorem flat_setW (es : List It) (k : Nat) (e : It) (x : Int) (hk : es[k]? = some e) : (flat es).set (k * 2 + 1) (.int .i64 x) = flat (es.set k (e.1, x)) := by
  induction es generalizing k with
  | nil => simp at hk
  | cons y es ih =>
    cases k with
    | zero => simp at hk; subst hk; rfl
    | succ k =>
      have h2 := ih k (by simpa using hk)
      rw [show (k + 1) * 2 + 1 = k * 2 + 1 + 2 by omega]
      simp only [flat, List.set_cons_succ, ← h2]
theorem WTab.putW {W : World} {B g n cap k : Nat} {es : List It} {e : It} (h : WTab W B (.slice (some ⟨g, 0, none⟩) n cap) es) (hn : n = es.length) (hk : es[k]? = some e) (x : Int) :
    WTab (W.setCell ⟨g, k * 2 + 1, none⟩ (.int .i64 x)) B (.slice (some ⟨g, 0, none⟩) n cap) (es.set k (e.1, x)) := by
  subst hn
  unfold WTab at h ⊢
  have h1 := (World.ownsRow.stored h (k * 2 + 1) (.int .i64 x)).1
  rw [flat_setW es k e x hk] at h1
  rw [List.length_set]
  exact h1
theorem WTab.cap {W : World} {B n c : Nat} {A : Option Addr} {es : List It} (h : WTab W B (.slice A n c) es) : n ≤ c := by
  obtain ⟨A', cap, e, h1, _⟩ := h.form
  simp only [Value.slice.injEq] at e
  omega
theorem scale_fits {l : List It} {c : Nat} (hf : Fits l) (hw : ∀ a ∈ l, 0 ≤ a.2 ∧ a.2 ≤ 100) (hc : c ≤ 9) : Fits (l.map (scale c)) := fun a ha => by
  obtain ⟨b, hb, rfl⟩ := List.mem_map.1 ha
  refine ⟨(hf b hb).1, ?_⟩
  obtain ⟨h1, h2⟩ := hw b hb
  have h3 : 0 ≤ b.2 * (c : Int) := Int.mul_nonneg h1 (by omega)
  have h4 : b.2 * (c : Int) ≤ 100 * 9 := Int.mul_le_mul h2 (by omega) (by omega) (by omega)
  show (Lit.int .i64 (b.2 * (c : Int))).wf = true
  simp [Lit.wf, IntKind.min, IntKind.max, IntKind.bits, IntKind.signed]; omega
end Go.Proofs.Ytcbecpgllebepaa.Straw
