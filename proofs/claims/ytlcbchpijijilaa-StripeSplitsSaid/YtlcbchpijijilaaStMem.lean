/-
  Slices of extents (three numbers each): read, made by append, written to.
-/
import Derived.Test.YtlcbchpijijilaaStPure
import Derived.Test.YtlcbchpijijilaaSl
namespace Go.Proofs.Ytlcbchpijijilaa.Stripe
set_option linter.unusedVariables false
open Go.RowKit Mem

def flat : List Ex → List Value
  | [] => []
  | e :: es => .int .i64 e.1 :: .int .i64 e.2.1 :: .int .i64 e.2.2 :: flat es
theorem flat_len (es : List Ex) : (flat es).length = es.length * 3 := by
  induction es with
  | nil => rfl
  | cons e es ih => simp [flat, ih]; omega
theorem flat_app (a b : List Ex) : flat (a ++ b) = flat a ++ flat b := by
  induction a with
  | nil => rfl
  | cons e a ih => simp [flat, ih]
theorem flat_at {es : List Ex} {k : Nat} {e : Ex} (h : es[k]? = some e) : (flat es)[k * 3]? = some (.int .i64 e.1) ∧ (flat es)[k * 3 + 1]? = some (.int .i64 e.2.1) ∧ (flat es)[k * 3 + 2]? = some (.int .i64 e.2.2) := by
  induction es generalizing k with
  | nil => simp at h
  | cons x es ih =>
    cases k with
    | zero => simp at h; subst h; exact ⟨rfl, rfl, rfl⟩
    | succ k =>
      have h2 := ih (k := k) (by simpa using h)
      rw [show (k + 1) * 3 = k * 3 + 3 by omega]
      exact h2
theorem flat_one (es : List Ex) : ∀ v ∈ flat es, v.oneCell' = true := by
  induction es with
  | nil => intro v h; cases h
  | cons e es ih =>
    intro v h
    simp only [flat, List.mem_cons] at h
    rcases h with rfl | rfl | rfl | h
    · rfl
    · rfl
    · rfl
    · exact ih v h
theorem flat_last (xs : List Ex) (a : Ex) (n : Nat) : (flat (xs ++ [a])).set (xs.length * 3 + 2) (.int .i64 n) = flat (xs ++ [(a.1, a.2.1, n)]) := by
  rw [flat_app, flat_app, List.set_append_right _ _ (by rw [flat_len]; omega), flat_len, show xs.length * 3 + 2 - xs.length * 3 = 2 by omega]
  rfl

/-- A slice's address leads to the extents. -/
def ERds (W : World) (A : Option Addr) (es : List Ex) : Prop :=
  ∀ (k : Nat) (e : Ex), es[k]? = some e → ∃ b o, A = some ⟨b, o, none⟩ ∧ b < W.heap.size ∧ W.cell? ⟨b, o + k * 3, none⟩ = some (.int .i64 e.1) ∧ W.cell? ⟨b, o + k * 3 + 1, none⟩ = some (.int .i64 e.2.1) ∧ W.cell? ⟨b, o + k * 3 + 2, none⟩ = some (.int .i64 e.2.2)
section
variable {W V : World} {A : Option Addr} {es : List Ex}
theorem ERds.nil : ERds W A [] := fun k e h => by simp at h
theorem ERds.below (h : ERds W A es) (hb : Below W.heap.size W V) : ERds V A es := fun k e hk => by
  obtain ⟨b, o, h1, h2, h3, h4, h5⟩ := h k e hk
  exact ⟨b, o, h1, Nat.lt_of_lt_of_le h2 hb.size, (hb.cell (p := ⟨b, _, none⟩) h2).trans h3, (hb.cell (p := ⟨b, _, none⟩) h2).trans h4, (hb.cell (p := ⟨b, _, none⟩) h2).trans h5⟩
theorem ERds.ext (h : ERds W A es) {k : Nat} (hk : k < es.length) : ∃ b o, A = some ⟨b, o, none⟩ ∧ b < W.heap.size ∧ W.cell? ⟨b, o + k * 3, none⟩ = some (.int .i64 es[k].1) ∧ W.cell? ⟨b, o + k * 3 + 1, none⟩ = some (.int .i64 es[k].2.1) ∧ W.cell? ⟨b, o + k * 3 + 2, none⟩ = some (.int .i64 es[k].2.2) :=
  h k _ (List.getElem?_eq_getElem hk)
theorem ERds.reads (h : ERds W A es) : Reads W A (flat es) := fun k v hv => by
  have hk : k / 3 < es.length := by
    have := (List.getElem?_eq_some_iff.1 hv).1
    rw [flat_len] at this; omega
  have e := List.getElem?_eq_getElem hk
  obtain ⟨b, o, h1, h2, h3, h4, h5⟩ := h _ _ e
  obtain ⟨f1, f2, f3⟩ := flat_at e
  refine ⟨b, o, h1, h2, ?_⟩
  have hm : k % 3 = 0 ∨ k % 3 = 1 ∨ k % 3 = 2 := by omega
  rcases hm with hm | hm | hm
  · rw [show k = k / 3 * 3 by omega] at hv ⊢
    rw [f1] at hv; rw [← hv]; exact h3
  · rw [show k = k / 3 * 3 + 1 by omega] at hv ⊢
    rw [f2] at hv; rw [← hv, ← Nat.add_assoc]; exact h4
  · rw [show k = k / 3 * 3 + 2 by omega] at hv ⊢
    rw [f3] at hv; rw [← hv, ← Nat.add_assoc]; exact h5
end

/-- v is a slice of the call's own (block B or later) of the extents. -/
def ETab (W : World) (B : Nat) (v : Value) (es : List Ex) : Prop := W.ownsRow B 43 3 v es.length (flat es)
section
variable {W V : World} {B : Nat} {v : Value} {es : List Ex}
theorem ETab.nil (W : World) (B : Nat) : ETab W B (.slice none 0 0) [] := World.ownsRow_nil W B _ 3
theorem ETab.form (h : ETab W B v es) : ∃ A cap, v = .slice A es.length cap ∧ es.length ≤ cap ∧ cap ≤ maxLen := by
  rcases h.2 with ⟨rfl, hn⟩ | ⟨g, cap, cur, rfl, _, _, h1, h2, _⟩
  · exact ⟨none, 0, by rw [hn], by omega, by simp [maxLen]⟩
  · exact ⟨_, cap, rfl, h1, h2⟩
theorem ETab.lt (h : ETab W B v es) : ∀ k, v.ownBlock = some k → B ≤ k ∧ k < W.heap.size := World.ownsRow.lt h
theorem ETab.later (h : ETab W B v es) (hb : Below W.heap.size W V) : ETab V B v es :=
  World.ownsRow.kept (row := none) h ⟨hb.os, hb.tape, hb.output, hb.size, fun k hk _ => hb.block k hk⟩ (by cases hv : v.ownBlock <;> simp)
theorem ETab.alloc (h : ETab W B v es) (o : Obj) : ETab (W.alloc o) B v es := World.ownsRow.alloc h o
theorem ETab.drew (h : ETab W B v es) : ETab W.drew B v es := h
theorem ETab.down {B' : Nat} (h : ETab W B v es) (hb : B' ≤ B) : ETab W B' v es := by
  refine ⟨h.1, ?_⟩
  rcases h.2 with h1 | ⟨g, cap, cur, h1, h2, h3⟩
  · exact .inl h1
  · exact .inr ⟨g, cap, cur, h1, Nat.le_trans hb h2, h3⟩
theorem ETab.head {A : Option Addr} {n cap : Nat} (h : ETab W B (.slice A n cap) es) (h0 : 0 < es.length) : ∃ g, A = some ⟨g, 0, none⟩ ∧ n = es.length ∧ B ≤ g ∧ g < W.heap.size := by
  have hf := h.form
  obtain ⟨A', c', e, _, _⟩ := hf
  injection e with e1 e2 e3
  rcases h.2 with ⟨e, hn⟩ | ⟨g, cap', cur, e, hb, hg, _⟩
  · omega
  · injection e with e4
    subst e4
    exact ⟨g, rfl, e2, hb, (Array.getElem?_eq_some_iff.1 hg).1⟩
theorem ETab.rds {A : Option Addr} {n cap : Nat} (h : ETab W B (.slice A n cap) es) : ERds W A es := fun k e hk => by
  have hlt := (List.getElem?_eq_some_iff.1 hk).1
  obtain ⟨g, rfl, hn, _, hg⟩ := h.head (by omega)
  subst hn
  obtain ⟨f1, f2, f3⟩ := flat_at hk
  have hc := fun j hj => World.ownsRow.cellAt h j hj
  refine ⟨g, 0, rfl, hg, ?_, ?_, ?_⟩
  · rw [Nat.zero_add, hc _ (by omega), f1]
  · rw [Nat.zero_add, hc _ (by omega), f2]
  · rw [Nat.zero_add, hc _ (by omega), f3]
theorem ETab.free {g n cap : Nat} (h : ETab W B (.slice (some ⟨g, 0, none⟩) n cap) es) (hn : n = es.length) (j : Nat) : W.frozen? ⟨g, j, none⟩ = false := by
  subst hn; exact World.ownsRow.frozenAt h j
theorem ETab.off (h : ETab W B v es) {p : Addr} (hp : ∀ g, v.ownBlock = some g → g ≠ p.block) (u : Value) : ETab (W.setCell p u) B v es :=
  World.ownsRow.kept (row := some p.block) h ⟨rfl, rfl, rfl, by simp [World.setCell], fun b hb hr => Below.heap_setCell W p u b (fun e => hr (congrArg some e))⟩ (by
    cases hv : v.ownBlock with
    | none => exact .inl rfl
    | some g => exact .inr (fun e => hp g hv (by injection e)))
theorem ERds.tail {W : World} {b o : Nat} {e : Ex} {es : List Ex} (h : ERds W (some ⟨b, o, none⟩) (e :: es)) : ERds W (some ⟨b, o + 3, none⟩) es := fun k x hk => by
  obtain ⟨b', o', e1, h1, h2, h3, h4⟩ := h (k + 1) x (by simpa using hk)
  injection e1 with e1
  injection e1 with e2 e3
  subst e2 e3
  rw [show o + (k + 1) * 3 = o + 3 + k * 3 by omega] at h2 h3 h4
  exact ⟨b, o + 3, rfl, h1, h2, h3, h4⟩
/-- The last extent's length written over. -/
theorem ETab.grow {g n cap : Nat} {xs : List Ex} {a : Ex} (h : ETab W B (.slice (some ⟨g, 0, none⟩) n cap) (xs ++ [a])) (hn : n = xs.length + 1) (m : Nat) :
    ETab (W.setCell ⟨g, xs.length * 3 + 2, none⟩ (.int .i64 m)) B (.slice (some ⟨g, 0, none⟩) n cap) (xs ++ [(a.1, a.2.1, m)]) := by
  subst hn
  have hl : (xs ++ [a]).length = xs.length + 1 := by simp
  unfold ETab at h ⊢
  rw [hl] at h
  have := (World.ownsRow.stored h (xs.length * 3 + 2) (.int .i64 m)).1
  rw [flat_last] at this
  rw [show (xs ++ [(a.1, a.2.1, m)]).length = xs.length + 1 by simp]
  exact this
end
theorem infoEx : (Try.prog.info? 43).map (fun i => (i.zero.map (fun z => z.cells.size), i.size, i.bytes)) = some (some 3, 3, 24) := by kernel_rfl
theorem info_ex : ∃ i, Try.prog.info? 43 = some i ∧ ∃ z, i.zero = some z ∧ i.size = 3 ∧ i.bytes = 24 ∧ z.cells.size = 3 := by
  have h0 := infoEx
  cases hi : Try.prog.info? 43 with
  | none => rw [hi] at h0; cases h0
  | some i =>
    rw [hi] at h0
    simp only [Option.map_some, Option.some.injEq, Prod.mk.injEq] at h0
    cases hz : i.zero with
    | none => rw [hz] at h0; cases h0.1
    | some z =>
      rw [hz] at h0
      simp only [Option.map_some, Option.some.injEq] at h0
      exact ⟨i, rfl, z, hz, h0.2.1, h0.2.2, h0.1⟩
/-- 'append(v, api.Extent{..})'. -/
theorem wpList_append_ex {ops : Array Oper} {rest : List Oper} {o : Oper} {a : Act} {Q : Exit → Act → World → Prop} (hgd : o.guard = none) (s x : Operand)
    (ho : o.op = .call { callee := .builtin .append, args := #[s, x], argTypes := #[34, 34] }) {w : World} {e1 e2 e3 : Nat} {B : Nat} {v : Value} {es : List Ex} {n : Nat} (hs : a.eval s = v)
    (hx : a.eval x = .slice (some ⟨w.heap.size, 0, none⟩) 1 1) (hg : ETab w B v es) (hn : es.length = n) (hl2 : (n + 1) * 24 ≤ 140737488355328) (hB : B ≤ w.heap.size) {B0 : Nat} {w0 : World} (hb : Below B0 w0 w) (hB0 : B0 ≤ B)
    (h : ∀ A c w', Hid (ETab w' B (.slice A (n + 1) c) (es ++ [(e1, e2, e3)])) → Hid (Below B0 w0 w') → wpList Try.prog ops Q rest (a.put o.dst (.slice A (n + 1) c)) w') :
    wpList Try.prog ops Q (o :: rest) a (w.alloc (.cells #[.int .i64 e1, .int .i64 e2, .int .i64 e3] 43)) := by
  subst hn
  obtain ⟨i, hi, z, hz0, hz1, hz2, hz3⟩ := info_ex
  refine wpList_append_own_at (w := w.alloc (.cells #[.int .i64 e1, .int .i64 e2, .int .i64 e3] 43)) hgd s x 34 ho B 43 i z 3 24 Try.underlying34 hi hz0 hz1 hz2 hz3 (by decide) v es.length (flat es) hs (World.ownsRow.alloc hg _) ⟨w.heap.size, 0, none⟩ 1 1 [.int .i64 e1, .int .i64 e2, .int .i64 e3] hx rfl ?_ ?_ (by unfold maxLen; omega) hl2 (by simp; omega) ?_
  · intro j u' hj
    have kn := Known.made w 43 #[.int .i64 e1, .int .i64 e2, .int .i64 e3]
    rcases j with _ | _ | _ | j
    · simp at hj; subst hj
      rw [show (⟨w.heap.size, 0, none⟩ : Addr).add 0 = ⟨w.heap.size, 0, none⟩ from rfl, kn.cell 0]; rfl
    · simp at hj; subst hj
      rw [show (⟨w.heap.size, 0, none⟩ : Addr).add 1 = ⟨w.heap.size, 1, none⟩ from rfl, kn.cell 1]; rfl
    · simp at hj; subst hj
      rw [show (⟨w.heap.size, 0, none⟩ : Addr).add 2 = ⟨w.heap.size, 2, none⟩ from rfl, kn.cell 2]; rfl
    · simp at hj
  · intro u' hu'
    simp at hu'
    rcases hu' with rfl | rfl | rfl <;> rfl
  · intro v' w' k1 g2 _ g3
    have hT : ETab w' B v' (es ++ [(e1, e2, e3)]) := by
      unfold ETab
      rw [List.length_append, flat_app]
      exact k1
    obtain ⟨A, c, hv, _, _⟩ := hT.form
    rw [List.length_append] at hv
    have hv : v' = .slice A (es.length + 1) c := hv
    subst hv
    exact h A c w' hT ((hb.alloc (Nat.le_trans hB0 hB) _).grown g2 (by simp; omega) fun k hk => Nat.le_trans hB0 (hg.lt k hk).1)
/-- 'append(v, api.Extent{..})'. -/
theorem wpList_append_ex1 {ops : Array Oper} {rest : List Oper} {o : Oper} {a : Act} {Q : Exit → Act → World → Prop} (hgd : o.guard = none) (s x : Operand)
    (ho : o.op = .call { callee := .builtin .append, args := #[s, x], argTypes := #[34, 34] }) {w : World} {e1 e2 : Nat} {B : Nat} {v : Value} {es : List Ex} {n : Nat} (hs : a.eval s = v)
    (hx : a.eval x = .slice (some ⟨w.heap.size, 0, none⟩) 1 1) (hg : ETab w B v es) (hn : es.length = n) (hl2 : (n + 1) * 24 ≤ 140737488355328) (hB : B ≤ w.heap.size) {B0 : Nat} {w0 : World} (hb : Below B0 w0 w) (hB0 : B0 ≤ B)
    (h : ∀ A c w', Hid (ETab w' B (.slice A (n + 1) c) (es ++ [(e1, e2, 1)])) → Hid (Below B0 w0 w') → wpList Try.prog ops Q rest (a.put o.dst (.slice A (n + 1) c)) w') :
    wpList Try.prog ops Q (o :: rest) a (w.alloc (.cells #[.int .i64 e1, .int .i64 e2, .int .i64 1] 43)) :=
  wpList_append_ex (e3 := 1) hgd s x ho hs hx hg hn hl2 hB hb hB0 h
end Go.Proofs.Ytlcbchpijijilaa.Stripe
