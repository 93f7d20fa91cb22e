/-
  'append(v, rows...)' onto a table of rows that a call makes.
-/
import Derived.Test.YtpjopdemhdeelaaTable
namespace Go.Proofs.Ytpjopdemhdeelaa.Mem
set_option linter.unusedVariables false
open Go.RowKit

theorem run_append_none_any (w : World) (base : Nat) (t ty e : TypeId) (i : TypeInfo) (size c : Nat) (ht : Try.prog.underlying t = some (.slice e)) (hi : Try.prog.info? e = some i)
    (v : Value) (n : Nat) (xs : List Value) (hown : w.ownsRow base e size v n xs) :
    (Builtin.append_ #[t, t] ty #[v, .slice none 0 c]).run Try.prog w = .ok v w := by
  rcases hown.2 with ⟨rfl, rfl⟩ | ⟨g, cap, cur, rfl, _, _, hnc, _⟩
  · simp [Builtin.append_, run_underlying ht, sizeOf, typeInfo, hi, Builtin.lenOf, Builtin.firstCells]
  · simp [Builtin.append_, run_underlying ht, sizeOf, typeInfo, hi, Builtin.lenOf, Builtin.firstCells, hnc, storeCells]

theorem wpList_append_many {t e : TypeId} {bytes : Nat} (E : Elem t e bytes) {ops : Array Oper} {rest : List Oper} {o : Oper} {a : Act} {Q : Exit → Act → World → Prop} (hgd : o.guard = none) (s x : Operand)
    (ho : o.op = .call { callee := .builtin .append, args := #[s, x], argTypes := #[t, t] }) {w : World} {B : Nat} {v : Value} {xs us : List Value} (hs : a.eval s = v) {A : Option Addr} {m c : Nat}
    (hx : a.eval x = .slice A m c) (hm : us.length = m) (hu : ∀ u ∈ us, u.oneCell' = true) (hr : Reads w A us) (hg : Grows w B e v xs) (hl : xs.length + m ≤ maxLen) (hl2 : (xs.length + m) * bytes ≤ 140737488355328) (hB : B ≤ w.heap.size)
    (h : ∀ v' w', Grows w' B e v' (xs ++ us) → w.grownBy w' v.ownBlock → (v'.ownBlock = v.ownBlock ∨ v'.ownBlock = some w.heap.size) → wpList Try.prog ops Q rest (a.put o.dst v') w') :
    wpList Try.prog ops Q (o :: rest) a w := by
  obtain ⟨i, z, hi, hz0, hz1, hz2, hz3⟩ := E.hi
  cases A with
  | none =>
    have hus : us = [] := by
      cases us with
      | nil => rfl
      | cons u us => obtain ⟨b, o', h1, _⟩ := hr 0 u rfl; cases h1
    subst hus
    obtain rfl : m = 0 := hm.symm
    refine wpList_plain hgd fun K hK => ?_
    have hrun := run_append_none_any w B t o.type e i 1 c E.ht hi v xs.length xs hg
    unfold Oper.wp
    simp [execOp, ho, resolve, invoke, builtin, hs, hx, hrun, Result.andThen]
    exact hK _ _ (h v w (by simpa using hg) (World.grownBy.refl w _) (.inl rfl))
  | some ad =>
    refine wpList_append_own_at (w := w) hgd s x t ho B e i z 1 bytes E.ht hi hz0 hz1 hz2 hz3 (by decide) v xs.length xs hs hg ad m c us hx (by omega) ?_ hu hl hl2 hB ?_
    · intro j u hj
      obtain ⟨b, o', h1, _, h3⟩ := hr j u hj
      injection h1 with h1
      subst h1
      rw [Addr.add_lit]; exact h3
    · intro v' w' h1 h2 _ h4
      refine h v' w' ?_ h2 h4
      unfold Grows
      rw [List.length_append, hm]
      exact h1

/-- The rows sows lay readable in a world before the table was begun. -/
theorem wpList_append_rows {ops : Array Oper} {rest : List Oper} {o : Oper} {a : Act} {Q : Exit → Act → World → Prop} (hgd : o.guard = none) (s x : Operand)
    (ho : o.op = .call { callee := .builtin .append, args := #[s, x], argTypes := #[22, 22] }) {w w0 : World} {B : Nat} {v : Value} {rows sows : List (List UInt8)} (hs : a.eval s = v) {A : Option Addr} {m c : Nat}
    (hx : a.eval x = .slice A m c) (hm : sows.length = m) (hg : Table w B v rows) (hR : Rds w0 A sows) (hb : Below w0.heap.size w0 w) (hB0 : w0.heap.size ≤ B) (hl2 : (rows.length + m) * 24 ≤ 140737488355328) (hB : B ≤ w.heap.size)
    (h : ∀ A' c' w', Hid (Table w' B (.slice A' (rows.length + m) c') (rows ++ sows)) → Hid (Below w0.heap.size w0 w') → wpList Try.prog ops Q rest (a.put o.dst (.slice A' (rows.length + m) c')) w') :
    wpList Try.prog ops Q (o :: rest) a w := by
  obtain ⟨us, h1, h2, h3⟩ := hg
  obtain ⟨vs, k1, k2, k3⟩ := hR
  have hvs : ∀ u ∈ vs, u.oneCell' = true := fun u hu => by
    obtain ⟨j, hj, rfl⟩ := List.mem_iff_getElem.1 hu
    obtain ⟨C, c', e, _⟩ := k3 j _ _ (List.getElem?_eq_getElem hj) (List.getElem?_eq_getElem (by omega))
    rw [e]; rfl
  refine wpList_append_many elemS8 hgd s x ho hs hx (k2.trans hm) hvs (k1.below hb) h1 (by rw [h2]; unfold maxLen; omega) (by rw [h2]; exact hl2) hB ?_
  intro v' w' g1 g2 g3
  have hlen : (us ++ vs).length = rows.length + m := by rw [List.length_append, h2, k2, hm]
  obtain ⟨A', c', hv', _, _⟩ := g1.form
  rw [hlen] at hv'
  subst hv'
  refine h A' c' w' ?_ (h1.below g2 hb hB0 (Nat.le_trans hB0 hB))
  have own' : ∀ b, b < w0.heap.size → some b ≠ Value.ownBlock (.slice A' (rows.length + m) c') := fun b hb' e => by
    have := (g1.lt b e.symm).1; omega
  have keepOld : ∀ (u : Value) (r : List UInt8), RowOff w v.ownBlock u r → RowOff w' (Value.ownBlock (.slice A' (rows.length + m) c')) u r := by
    rintro u r ⟨C, cc, q1, q2, q3, q4, q5⟩
    by_cases hr : r = []
    · subst hr; exact ⟨C, cc, q1, q2, q3, Reads.nil, fun hne => absurd rfl hne⟩
    · refine ⟨C, cc, q1, q2, q3, q4.grown g2 (fun a ha => (q5 hr a ha).1), fun _ a ha => ⟨?_, Nat.lt_of_lt_of_le (q5 hr a ha).2 g2.size⟩⟩
      rcases g3 with g3 | g3
      · rw [g3]; exact (q5 hr a ha).1
      · rw [g3]; intro e; injection e with e; have := (q5 hr a ha).2; omega
  have hb' : Below w0.heap.size w0 w' := h1.below g2 hb hB0 (Nat.le_trans hB0 hB)
  have keepNew : ∀ (u : Value) (r : List UInt8), IsRow w0 u r → RowOff w' (Value.ownBlock (.slice A' (rows.length + m) c')) u r := by
    rintro u r ⟨C, cc, q1, q2, q3, q4⟩
    refine ⟨C, cc, q1, q2, q3, q4.below hb', fun hr a ha => ?_⟩
    have hlt := reads_lt q4 hr a ha
    exact ⟨own' _ hlt, Nat.lt_of_lt_of_le hlt hb'.size⟩
  refine ⟨us ++ vs, g1, by rw [List.length_append, List.length_append, h2, k2], fun k u r hu hr => ?_⟩
  by_cases hk : k < us.length
  · rw [List.getElem?_append_left hk] at hu
    rw [List.getElem?_append_left (by rw [← h2]; exact hk)] at hr
    exact keepOld _ _ (h3 k u r hu hr)
  · rw [List.getElem?_append_right (by omega)] at hu
    rw [List.getElem?_append_right (by rw [← h2]; omega), ← h2] at hr
    exact keepNew _ _ (k3 _ u r hu hr)
/-- '[][]byte{}'. -/
theorem Table.empty (W : World) : Table (W.alloc (.cells #[] 23)) W.heap.size (.slice (some ⟨W.heap.size, 0, none⟩) 0 0) [] :=
  ⟨[], World.ownsRow_made W #[] 0 (Nat.le_refl _) (by simp) (by simp), rfl, fun k u r h => by simp at h⟩
end Go.Proofs.Ytpjopdemhdeelaa.Mem
