/-
  Slices of numbers that are not below 0, made by append and written to.
-/
import Derived.Test.YteggbepibfpjcaaSl
namespace Go.Proofs.Yteggbepibfpjcaa.Stripe
set_option linter.unusedVariables false
open Go.RowKit Mem

theorem infoI : (Try.prog.info? 3).map (fun i => (i.zero, i.size, i.bytes)) = some (some (.int .i64 0), 1, 8) := by kernel_rfl
theorem elemI : Elem 33 3 8 := by
  obtain ⟨i, hi, hz0, hz1, hz2⟩ := info_parts infoI
  exact ⟨Try.underlying33, i, _, hi, hz0, hz1, hz2, rfl⟩
def nat64 (n : Nat) : Value := .int .i64 (n : Int)
def ITab (W : World) (B : Nat) (v : Value) (l : List Nat) : Prop := Grows W B 3 v (l.map nat64)
section
variable {W V : World} {B : Nat} {v : Value} {l : List Nat}
theorem ITab.nil (W : World) (B : Nat) : ITab W B (.slice none 0 0) [] := Grows.nil W B _
theorem ITab.form (h : ITab W B v l) : ∃ A cap, v = .slice A l.length cap ∧ l.length ≤ cap ∧ cap ≤ maxLen := by
  have := Grows.form h; simpa using this
theorem ITab.later (h : ITab W B v l) (hb : Below W.heap.size W V) : ITab V B v l := Grows.later h hb
theorem ITab.lt (h : ITab W B v l) : ∀ k, v.ownBlock = some k → B ≤ k ∧ k < W.heap.size := Grows.lt h
theorem ITab.down {B' : Nat} (h : ITab W B v l) (hb : B' ≤ B) : ITab W B' v l := by
  refine ⟨h.1, ?_⟩
  rcases h.2 with h1 | ⟨g, cap, cur, h1, h2, h3⟩
  · exact .inl h1
  · exact .inr ⟨g, cap, cur, h1, Nat.le_trans hb h2, h3⟩
theorem ITab.reads {A : Option Addr} {n cap : Nat} (h : ITab W B (.slice A n cap) l) : Reads W A (l.map nat64) := Grows.reads h
theorem ITab.put {A : Option Addr} {n cap k : Nat} (h : ITab W B (.slice A n cap) l) (hn : l.length = n) (hk : k < n) : ∃ g x, A = some ⟨g, 0, none⟩ ∧ B ≤ g ∧ g < W.heap.size ∧ l[k]? = some x ∧ W.cell? ⟨g, k, none⟩ = some (.int .i64 (x : Int)) ∧ W.frozen? ⟨g, k, none⟩ = false ∧
    ∀ y : Nat, ITab (W.setCell ⟨g, k, none⟩ (.int .i64 (y : Int))) B (.slice A n cap) (l.set k y) := by
  subst hn
  have e := List.getElem?_eq_getElem hk
  rcases h.2 with ⟨_, h0⟩ | ⟨g, c, cur, hv, _, hg, _⟩
  · simp at h0; subst h0; simp at hk
  · injection hv with hA
    subst hA
    have hown : Value.ownBlock (.slice (some ⟨g, 0, none⟩) l.length cap) = some g := rfl
    have h' : W.ownsRow B 3 1 (.slice (some ⟨g, 0, none⟩) l.length cap) l.length (l.map nat64) := by
      have h3 := h; unfold ITab Grows at h3; rw [List.length_map] at h3; exact h3
    refine ⟨g, l[k], rfl, (h.lt g hown).1, (h.lt g hown).2, e, ?_, h'.frozenAt k, fun y => ?_⟩
    · rw [h'.cellAt k (by omega), List.getElem?_map, e]; rfl
    · have := (h'.stored k (.int .i64 (y : Int))).1
      unfold ITab Grows
      rw [List.length_map, List.length_set, List.map_set]
      exact this
end
/-- 'append(v, x)'. -/
theorem wpList_append_int {ops : Array Oper} {rest : List Oper} {o : Oper} {a : Act} {Q : Exit → Act → World → Prop} (hgd : o.guard = none) (s x : Operand)
    (ho : o.op = .call { callee := .builtin .append, args := #[s, x], argTypes := #[33, 33] }) {w : World} {y : Int} (m : Nat) (hy : y = m) {B : Nat} {v : Value} {l : List Nat} {n : Nat} (hs : a.eval s = v)
    (hx : a.eval x = .slice (some ⟨w.heap.size, 0, none⟩) 1 1) (hg : ITab w B v l) (hn : l.length = n) (hl2 : (n + 1) * 8 ≤ 140737488355328) (hB : B ≤ w.heap.size) {B0 : Nat} {w0 : World} (hb : Below B0 w0 w) (hB0 : B0 ≤ B)
    (h : ∀ A c w', Hid (ITab w' B (.slice A (n + 1) c) (l ++ [m])) → Hid ((w.alloc (.cells #[.int .i64 y] 3)).grownBy w' v.ownBlock) → Hid (Below B0 w0 w') → wpList Try.prog ops Q rest (a.put o.dst (.slice A (n + 1) c)) w') :
    wpList Try.prog ops Q (o :: rest) a (w.alloc (.cells #[.int .i64 y] 3)) := by
  subst hn hy
  refine wpList_append_one elemI hgd s x ho rfl hs hx hg (by simp; unfold maxLen; omega) (by simpa using hl2) hB ?_
  intro v' w' h1 h2
  have hT : ITab w' B v' (l ++ [m]) := by unfold ITab; rw [List.map_append]; exact h1
  obtain ⟨A, c, hv, _, _⟩ := hT.form
  rw [List.length_append] at hv
  have hv : v' = .slice A (l.length + 1) c := hv
  subst hv
  exact h A c w' hT h2 ((Grows.alloc hg _).below h2 (hb.alloc (Nat.le_trans hB0 hB) _) hB0 (by simp; omega))
end Go.Proofs.Yteggbepibfpjcaa.Stripe
