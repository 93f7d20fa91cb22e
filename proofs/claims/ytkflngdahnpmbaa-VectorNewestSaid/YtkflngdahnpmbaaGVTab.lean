/-
  A slice of vectors that a call makes, one by one, each in a block apart.
-/
import Derived.Test.YtkflngdahnpmbaaGVecs
import Derived.Test.YtkflngdahnpmbaaSl
namespace Go.Proofs.Ytkflngdahnpmbaa.Gt
set_option linter.unusedVariables false
open Go.RowKit Mem

theorem infoVV : (Try.prog.info? 22).map (fun i => (i.zero, i.size, i.bytes)) = some (some (.slice none 0 0), 1, 24) := by kernel_rfl
theorem elemVV : Elem 23 22 24 := by
  obtain ⟨i, hi, hz0, hz1, hz2⟩ := info_parts infoVV
  exact ⟨Try.underlying23, i, _, hi, hz0, hz1, hz2, rfl⟩
/-- 'append(v, x)', and where the row lies behind it. -/
theorem wpList_append_at {t e : TypeId} {bytes : Nat} (E : Elem t e bytes) {ops : Array Oper} {rest : List Oper} {o : Oper} {a : Act} {Q : Exit → Act → World → Prop} (hgd : o.guard = none) (s x : Operand)
    (ho : o.op = .call { callee := .builtin .append, args := #[s, x], argTypes := #[t, t] }) {w : World} {u : Value} (hu : u.oneCell' = true) {B : Nat} {v : Value} {xs : List Value} (hs : a.eval s = v)
    (hx : a.eval x = .slice (some ⟨w.heap.size, 0, none⟩) 1 1) (hg : Grows w B e v xs) (hl : xs.length + 1 ≤ maxLen) (hl2 : (xs.length + 1) * bytes ≤ 140737488355328) (hB : B ≤ w.heap.size)
    (h : ∀ v' w', Grows w' B e v' (xs ++ [u]) → (w.alloc (.cells #[u] e)).grownBy w' v.ownBlock → (v'.ownBlock = v.ownBlock ∨ v'.ownBlock = some (w.heap.size + 1)) → wpList Try.prog ops Q rest (a.put o.dst v') w') :
    wpList Try.prog ops Q (o :: rest) a (w.alloc (.cells #[u] e)) := by
  obtain ⟨i, z, hi, hz0, hz1, hz2, hz3⟩ := E.hi
  refine wpList_append_own_at (w := w.alloc (.cells #[u] e)) hgd s x t ho B e i z 1 bytes E.ht hi hz0 hz1 hz2 hz3 (by decide) v xs.length xs hs (hg.alloc _) ⟨w.heap.size, 0, none⟩ 1 1 [u] hx rfl ?_ ?_ hl hl2 (by simp; omega) ?_
  · intro j u' hj
    cases j with
    | zero =>
      simp at hj; subst hj
      rw [show (⟨w.heap.size, 0, none⟩ : Addr).add 0 = ⟨w.heap.size, 0, none⟩ from rfl, (Known.made w e #[u]).cell 0]
      rfl
    | succ j => simp at hj
  · intro u' hu'; simp at hu'; subst hu'; exact hu
  · intro v' w' h1 h2 _ h4
    refine h v' w' ?_ h2 (by simpa using h4)
    unfold Grows
    rw [List.length_append]
    exact h1

/-- The cell u is the row r, and does not lie in block g. -/
def VecOff (W : World) (g : Option Nat) (u : Value) (r : List Int) : Prop := ∃ (C : Option Addr) (c : Nat), u = .slice C r.length c ∧ (r.length ≤ c ∧ c ≤ 9223372036854775807) ∧ r.length ≤ 140737488355328 ∧ Reads W C (r.map (Value.int .i64)) ∧ (r ≠ [] → ∀ a, C = some a → some a.block ≠ g ∧ a.block < W.heap.size)
def VTable (W : World) (B : Nat) (v : Value) (rows : List (List Int)) : Prop :=
  ∃ us, Grows W B 22 v us ∧ us.length = rows.length ∧ ∀ (k : Nat) (u : Value) (r : List Int), us[k]? = some u → rows[k]? = some r → VecOff W v.ownBlock u r
section
variable {W V : World} {B : Nat} {v : Value} {rows : List (List Int)}
theorem VecOff.later {g : Option Nat} {u : Value} {r : List Int} (h : VecOff W g u r) (hb : Below W.heap.size W V) : VecOff V g u r := by
  obtain ⟨C, c, h1, h2, h3, h4, h5⟩ := h
  exact ⟨C, c, h1, h2, h3, h4.below hb, fun hr a ha => ⟨(h5 hr a ha).1, Nat.lt_of_lt_of_le (h5 hr a ha).2 hb.size⟩⟩
theorem VecOff.isV {g : Option Nat} {u : Value} {r : List Int} (h : VecOff W g u r) : IsV W u r := by
  obtain ⟨C, c, h1, h2, h3, h4, _⟩ := h; exact ⟨C, c, h1, h2, h3, h4⟩
theorem VTable.nil (W : World) (B : Nat) : VTable W B (.slice none 0 0) [] := ⟨[], Grows.nil _ _ _, rfl, fun k u r h => by simp at h⟩
theorem VTable.form (h : VTable W B v rows) : ∃ A cap, v = .slice A rows.length cap ∧ rows.length ≤ cap ∧ cap ≤ maxLen := by
  obtain ⟨us, h1, h2, _⟩ := h
  rw [← h2]; exact h1.form
theorem VTable.rds {A : Option Addr} {n cap : Nat} (h : VTable W B (.slice A n cap) rows) : VRds W A rows := by
  obtain ⟨us, h1, h2, h3⟩ := h
  exact ⟨us, h1.reads, h2, fun k u r hu hr => (h3 k u r hu hr).isV⟩
theorem VTable.later (h : VTable W B v rows) (hb : Below W.heap.size W V) : VTable V B v rows := by
  obtain ⟨us, h1, h2, h3⟩ := h
  exact ⟨us, h1.later hb, h2, fun k u r hu hr => (h3 k u r hu hr).later hb⟩
theorem VTable.from_ {A : Option Addr} {n cap : Nat} (h : VTable W B (.slice A n cap) rows) : ∀ a, A = some a → B ≤ a.block := by
  obtain ⟨us, h1, _⟩ := h; exact h1.from_
theorem VTable.lt (h : VTable W B v rows) : ∀ k, v.ownBlock = some k → B ≤ k ∧ k < W.heap.size := by
  obtain ⟨us, h1, _⟩ := h; exact h1.lt
theorem reads_lt {A : Option Addr} {r : List Int} (h : Reads W A (r.map (Value.int .i64))) (hr : r ≠ []) : ∀ a, A = some a → a.block < W.heap.size := fun a ha => by
  have hp : 0 < r.length := List.length_pos_iff.2 hr
  obtain ⟨b, o, h1, h2, _⟩ := h 0 (.int .i64 r[0]) (by rw [List.getElem?_map, List.getElem?_eq_getElem hp]; rfl)
  rw [h1] at ha; injection ha with ha; subst ha; exact h2
/-- A row that was made behind the table's own block. -/
theorem VTable.row_new (h : VTable W B v rows) (hb : Below W.heap.size W V) {C : Option Addr} {c : Nat} {r : List Int} (hr : Reads V C (r.map (Value.int .i64))) (hl : r.length ≤ c ∧ c ≤ 9223372036854775807) (hc : r.length ≤ 140737488355328) (hn : ∀ a, C = some a → W.heap.size ≤ a.block) : VecOff V v.ownBlock (.slice C r.length c) r :=
  ⟨C, c, rfl, hl, hc, hr, fun hne a ha => ⟨fun e => by have := (h.lt _ e.symm).2; have := hn a ha; omega, reads_lt hr hne a ha⟩⟩
end
/-- 'append(v, row)'. -/
theorem wpList_append_vec {ops : Array Oper} {rest : List Oper} {o : Oper} {a : Act} {Q : Exit → Act → World → Prop} (hgd : o.guard = none) (s x : Operand)
    (ho : o.op = .call { callee := .builtin .append, args := #[s, x], argTypes := #[23, 23] }) {w : World} {u : Value} {r : List Int} {B : Nat} {v : Value} {rows : List (List Int)} (hs : a.eval s = v)
    (hx : a.eval x = .slice (some ⟨w.heap.size, 0, none⟩) 1 1) (hg : VTable w B v rows) (hu : VecOff w v.ownBlock u r) (hl2 : (rows.length + 1) * 24 ≤ 140737488355328) (hB : B ≤ w.heap.size) {B0 : Nat} {w0 : World} (hb : Below B0 w0 w) (hB0 : B0 ≤ B)
    (h : ∀ v' w', Hid (VTable w' B v' (rows ++ [r])) → Below B0 w0 w' → wpList Try.prog ops Q rest (a.put o.dst v') w') :
    wpList Try.prog ops Q (o :: rest) a (w.alloc (.cells #[u] 22)) := by
  obtain ⟨us, h1, h2, h3⟩ := hg
  have hu1 : u.oneCell' = true := by obtain ⟨C, c, rfl, _⟩ := hu; rfl
  refine wpList_append_at elemVV hgd s x ho hu1 hs hx h1 (by rw [h2]; unfold maxLen; omega) (by rw [h2]; exact hl2) hB ?_
  intro v' w' g1 g2 g3
  refine h v' w' ?_ ((h1.alloc _).below g2 (hb.alloc (Nat.le_trans hB0 hB) _) hB0 (by simp; omega))
  have keep : ∀ (u : Value) (r : List Int), VecOff w v.ownBlock u r → VecOff w' v'.ownBlock u r := by
    rintro u r ⟨C, c, k1, k2, k3, k4, k5⟩
    have hlt : w.heap.size < w'.heap.size := by have := g2.size; simp at this; omega
    by_cases hr : r = []
    · subst hr
      exact ⟨C, c, k1, k2, k3, Reads.nil, fun hne => absurd rfl hne⟩
    · refine ⟨C, c, k1, k2, k3, (k4.alloc _).grown g2 (fun a ha => (k5 hr a ha).1), fun _ a ha => ⟨?_, Nat.lt_trans (k5 hr a ha).2 hlt⟩⟩
      rcases g3 with g3 | g3
      · rw [g3]; exact (k5 hr a ha).1
      · rw [g3]; intro e; injection e with e; have := (k5 hr a ha).2; omega
  refine ⟨us ++ [u], g1, by simp [h2], fun k u' r' hu' hr' => ?_⟩
  by_cases hk : k < us.length
  · rw [List.getElem?_append_left hk] at hu'
    rw [List.getElem?_append_left (by rw [← h2]; exact hk)] at hr'
    exact keep _ _ (h3 k u' r' hu' hr')
  · rw [List.getElem?_append_right (by omega)] at hu'
    rw [List.getElem?_append_right (by rw [← h2]; omega), ← h2] at hr'
    have h0 : k - us.length = 0 := by
      rcases Nat.eq_zero_or_pos (k - us.length) with h4 | h4
      · exact h4
      · rw [List.getElem?_eq_none (by simp; omega)] at hu'; cases hu'
    rw [h0] at hu' hr'
    simp at hu' hr'
    subst hu' hr'
    exact keep _ _ hu
/-- 'append(v, row)' as a step of a region that draws. -/
theorem step_append_row {ops : Array Oper} {o : Oper} {a : Act} {K : Act → World → Prop} {Q : Exit → Act → World → Prop} {F : Prop} (hgd : o.guard = none) (s x : Operand)
    (ho : o.op = .call { callee := .builtin .append, args := #[s, x], argTypes := #[23, 23] }) {w : World} {u : Value} {r : List Int} {B : Nat} (v : Value) {rows : List (List Int)} (hs : a.eval s = v)
    (hx : a.eval x = .slice (some ⟨w.heap.size, 0, none⟩) 1 1) (hg : VTable w B v rows) (hu : VecOff w v.ownBlock u r) (hl2 : (rows.length + 1) * 24 ≤ 140737488355328) (hB : B ≤ w.heap.size) {B0 : Nat} {w0 : World} (hb : Below B0 w0 w) (hB0 : B0 ≤ B)
    (h : ∀ A c w', Hid (VTable w' B (.slice A (rows.length + 1) c) (rows ++ [r])) → Hid (Below B0 w0 w') → K (a.put o.dst (.slice A (rows.length + 1) c)) w') :
    if Region.wanted o (yielded ops a.tmps) = true then Oper.wp Try.prog o a (w.alloc (.cells #[u] 22)) K Q else F := by
  obtain ⟨us, h1, h2, h3⟩ := hg
  have hu1 : u.oneCell' = true := by obtain ⟨C, c, rfl, _⟩ := hu; rfl
  obtain ⟨i, z, hi, hz0, hz1, hz2, hz3⟩ := elemVV.hi
  refine step_append_lies (w.alloc (.cells #[u] 22)) hgd s x 23 ho B 22 i z 1 24 elemVV.ht hi hz0 hz1 hz2 hz3 (by decide) v us.length us hs (h1.alloc _) ⟨w.heap.size, 0, none⟩ 1 1 [u] hx rfl ?_ ?_ (by omega) (by rw [h2]; unfold maxLen; omega) (by rw [h2]; exact hl2) (by simp; omega) (w.heap.size + 1) (by simp) ?_
  · intro j u' hj
    cases j with
    | zero =>
      simp at hj; subst hj
      rw [show (⟨w.heap.size, 0, none⟩ : Addr).add 0 = ⟨w.heap.size, 0, none⟩ from rfl, (Known.made w 22 #[u]).cell 0]
      rfl
    | succ j => simp at hj
  · intro u' hu'; simp at hu'; subst hu'; exact hu1
  · intro g cap w' g1 g2 g3 _
    rw [h2] at g1 ⊢
    refine h _ cap w' ?_ ((h1.alloc _).below g2 (hb.alloc (Nat.le_trans hB0 hB) _) hB0 (by simp; omega))
    have keep : ∀ (u : Value) (r : List Int), VecOff w v.ownBlock u r → VecOff w' (some g) u r := by
      rintro u r ⟨C, c, k1, k2, k3, k4, k5⟩
      have hlt : w.heap.size < w'.heap.size := by have := g2.size; simp at this; omega
      by_cases hr : r = []
      · subst hr
        exact ⟨C, c, k1, k2, k3, Reads.nil, fun hne => absurd rfl hne⟩
      · refine ⟨C, c, k1, k2, k3, (k4.alloc _).grown g2 (fun a ha => (k5 hr a ha).1), fun _ a ha => ⟨?_, Nat.lt_trans (k5 hr a ha).2 hlt⟩⟩
        rcases g3 with g3 | g3
        · rw [← g3]; exact (k5 hr a ha).1
        · rw [g3]; intro e; injection e with e; have := (k5 hr a ha).2; omega
    refine ⟨us ++ [u], ?_, by simp [h2], fun k u' r' hu' hr' => ?_⟩
    · unfold Grows
      rw [List.length_append, h2]
      exact g1
    by_cases hk : k < us.length
    · rw [List.getElem?_append_left hk] at hu'
      rw [List.getElem?_append_left (by rw [← h2]; exact hk)] at hr'
      exact keep _ _ (h3 k u' r' hu' hr')
    · rw [List.getElem?_append_right (by omega)] at hu'
      rw [List.getElem?_append_right (by rw [← h2]; omega), ← h2] at hr'
      have h0 : k - us.length = 0 := by
        rcases Nat.eq_zero_or_pos (k - us.length) with h4 | h4
        · exact h4
        · rw [List.getElem?_eq_none (by simp; omega)] at hu'; cases hu'
      rw [h0] at hu' hr'
      simp at hu' hr'
      subst hu' hr'
      exact keep _ _ hu
end Go.Proofs.Ytkflngdahnpmbaa.Gt
