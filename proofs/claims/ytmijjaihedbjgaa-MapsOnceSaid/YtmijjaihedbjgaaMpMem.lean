/-
  Slices of changes (three numbers each): read, made, written to; steps (an epoch and a slice of changes each); maps.
-/
import Derived.Test.YtmijjaihedbjgaaMpPure
import Derived.Test.YtmijjaihedbjgaaSl
import Derived.Deep.Fields
import Derived.Lib.SmallJoins
namespace Go.Proofs.Ytmijjaihedbjgaa.Mps
set_option linter.unusedVariables false
open Go.RowKit Mem

def flat : List Ch → List Value
  | [] => []
  | e :: es => .int .i64 e.1 :: .int .i64 e.2.1 :: .int .i64 e.2.2 :: flat es
theorem flat_len (es : List Ch) : (flat es).length = es.length * 3 := by
  induction es with
  | nil => rfl
  | cons e es ih => simp [flat, ih]; omega
theorem flat_app (a b : List Ch) : flat (a ++ b) = flat a ++ flat b := by
  induction a with
  | nil => rfl
  | cons e a ih => simp [flat, ih]
theorem flat_at {es : List Ch} {k : Nat} {e : Ch} (h : es[k]? = some e) : (flat es)[k * 3]? = some (.int .i64 e.1) ∧ (flat es)[k * 3 + 1]? = some (.int .i64 e.2.1) ∧ (flat es)[k * 3 + 2]? = some (.int .i64 e.2.2) := by
  induction es generalizing k with
  | nil => simp at h
  | cons x es ih =>
    cases k with
    | zero => simp at h; subst h; exact ⟨rfl, rfl, rfl⟩
    | succ k =>
      have h2 := ih (k := k) (by simpa using h)
      rw [show (k + 1) * 3 = k * 3 + 3 by omega]
      exact h2
theorem flat_one (es : List Ch) : ∀ v ∈ flat es, v.oneCell' = true := by
  induction es with
  | nil => intro v h; cases h
  | cons e es ih =>
    intro v h
    simp only [flat, List.mem_cons] at h
    rcases h with rfl | rfl | rfl | h
    · rfl
    · rfl
    · rfl
    · exact ih v h
theorem flat_set (es : List Ch) (k : Nat) (e : Ch) (hk : k < es.length) : (((flat es).set (k * 3) (.int .i64 e.1)).set (k * 3 + 1) (.int .i64 e.2.1)).set (k * 3 + 2) (.int .i64 e.2.2) = flat (es.set k e) := by
  induction es generalizing k with
  | nil => simp at hk
  | cons x es ih =>
    cases k with
    | zero => rfl
    | succ k =>
      have h2 := ih k (by simpa using hk)
      rw [show (k + 1) * 3 = k * 3 + 3 by omega]
      simp only [flat, List.set_cons_succ, ← h2]

/-- A slice's address leads to the changes. -/
def CRds (W : World) (A : Option Addr) (es : List Ch) : Prop :=
  ∀ (k : Nat) (e : Ch), es[k]? = some e → ∃ b o, A = some ⟨b, o, none⟩ ∧ b < W.heap.size ∧ W.cell? ⟨b, o + k * 3, none⟩ = some (.int .i64 e.1) ∧ W.cell? ⟨b, o + k * 3 + 1, none⟩ = some (.int .i64 e.2.1) ∧ W.cell? ⟨b, o + k * 3 + 2, none⟩ = some (.int .i64 e.2.2)
section
variable {W V : World} {A : Option Addr} {es : List Ch}
theorem CRds.nil : CRds W A [] := fun k e h => by simp at h
theorem CRds.below (h : CRds W A es) (hb : Below W.heap.size W V) : CRds V A es := fun k e hk => by
  obtain ⟨b, o, h1, h2, h3, h4, h5⟩ := h k e hk
  exact ⟨b, o, h1, Nat.lt_of_lt_of_le h2 hb.size, (hb.cell (p := ⟨b, _, none⟩) h2).trans h3, (hb.cell (p := ⟨b, _, none⟩) h2).trans h4, (hb.cell (p := ⟨b, _, none⟩) h2).trans h5⟩
theorem CRds.ext (h : CRds W A es) {k : Nat} (hk : k < es.length) : ∃ b o, A = some ⟨b, o, none⟩ ∧ b < W.heap.size ∧ W.cell? ⟨b, o + k * 3, none⟩ = some (.int .i64 es[k].1) ∧ W.cell? ⟨b, o + k * 3 + 1, none⟩ = some (.int .i64 es[k].2.1) ∧ W.cell? ⟨b, o + k * 3 + 2, none⟩ = some (.int .i64 es[k].2.2) :=
  h k _ (List.getElem?_eq_getElem hk)
theorem CRds.reads (h : CRds W A es) : Reads W A (flat es) := fun k v hv => by
  have hk : k / 3 < es.length := by
    have := (List.getElem?_eq_some_iff.1 hv).1
    rw [flat_len] at this; omega
  have e := List.getElem?_eq_getElem hk
  obtain ⟨b, o, h1, h2, h3, h4, h5⟩ := h _ _ e
  obtain ⟨f1, f2, f3⟩ := flat_at e
  refine ⟨b, o, h1, h2, ?_⟩
  have hm : k % 3 = 0 ∨ k % 3 = 1 ∨ k % 3 = 2 := by omega
  rcases hm with hm | hm | hm
  · rw [show k = k / 3 * 3 by omega] at hv ⊢
    rw [f1] at hv; rw [← hv]; exact h3
  · rw [show k = k / 3 * 3 + 1 by omega] at hv ⊢
    rw [f2] at hv; rw [← hv, ← Nat.add_assoc]; exact h4
  · rw [show k = k / 3 * 3 + 2 by omega] at hv ⊢
    rw [f3] at hv; rw [← hv, ← Nat.add_assoc]; exact h5
end

/-- v is a slice of the call's own (block B or later) of the changes. -/
def CTab (W : World) (B : Nat) (v : Value) (es : List Ch) : Prop := W.ownsRow B 33 3 v es.length (flat es)
section
variable {W V : World} {B : Nat} {v : Value} {es : List Ch}
theorem CTab.nil (W : World) (B : Nat) : CTab W B (.slice none 0 0) [] := World.ownsRow_nil W B _ 3
theorem CTab.form (h : CTab W B v es) : ∃ A cap, v = .slice A es.length cap ∧ es.length ≤ cap ∧ cap ≤ maxLen := by
  rcases h.2 with ⟨rfl, hn⟩ | ⟨g, cap, cur, rfl, _, _, h1, h2, _⟩
  · exact ⟨none, 0, by rw [hn], by omega, by simp [maxLen]⟩
  · exact ⟨_, cap, rfl, h1, h2⟩
theorem CTab.lt (h : CTab W B v es) : ∀ k, v.ownBlock = some k → B ≤ k ∧ k < W.heap.size := World.ownsRow.lt h
theorem CTab.later (h : CTab W B v es) (hb : Below W.heap.size W V) : CTab V B v es :=
  World.ownsRow.kept (row := none) h ⟨hb.os, hb.tape, hb.output, hb.size, fun k hk _ => hb.block k hk⟩ (by cases hv : v.ownBlock <;> simp)
theorem CTab.alloc (h : CTab W B v es) (o : Obj) : CTab (W.alloc o) B v es := World.ownsRow.alloc h o
theorem CTab.drew (h : CTab W B v es) : CTab W.drew B v es := h
theorem CTab.down {B' : Nat} (h : CTab W B v es) (hb : B' ≤ B) : CTab W B' v es := by
  refine ⟨h.1, ?_⟩
  rcases h.2 with h1 | ⟨g, cap, cur, h1, h2, h3⟩
  · exact .inl h1
  · exact .inr ⟨g, cap, cur, h1, Nat.le_trans hb h2, h3⟩
theorem CTab.head {A : Option Addr} {n cap : Nat} (h : CTab W B (.slice A n cap) es) (h0 : 0 < es.length) : ∃ g, A = some ⟨g, 0, none⟩ ∧ n = es.length ∧ B ≤ g ∧ g < W.heap.size := by
  have hf := h.form
  obtain ⟨A', c', e, _, _⟩ := hf
  injection e with e1 e2 e3
  rcases h.2 with ⟨e, hn⟩ | ⟨g, cap', cur, e, hb, hg, _⟩
  · omega
  · injection e with e4
    subst e4
    exact ⟨g, rfl, e2, hb, (Array.getElem?_eq_some_iff.1 hg).1⟩
theorem CTab.rds {A : Option Addr} {n cap : Nat} (h : CTab W B (.slice A n cap) es) : CRds W A es := fun k e hk => by
  have hlt := (List.getElem?_eq_some_iff.1 hk).1
  obtain ⟨g, rfl, hn, _, hg⟩ := h.head (by omega)
  subst hn
  obtain ⟨f1, f2, f3⟩ := flat_at hk
  have hc := fun j hj => World.ownsRow.cellAt h j hj
  refine ⟨g, 0, rfl, hg, ?_, ?_, ?_⟩
  · rw [Nat.zero_add, hc _ (by omega), f1]
  · rw [Nat.zero_add, hc _ (by omega), f2]
  · rw [Nat.zero_add, hc _ (by omega), f3]
theorem CTab.free {g n cap : Nat} (h : CTab W B (.slice (some ⟨g, 0, none⟩) n cap) es) (hn : n = es.length) (j : Nat) : W.frozen? ⟨g, j, none⟩ = false := by
  subst hn; exact World.ownsRow.frozenAt h j
theorem CTab.off (h : CTab W B v es) {p : Addr} (hp : ∀ g, v.ownBlock = some g → g ≠ p.block) (u : Value) : CTab (W.setCell p u) B v es :=
  World.ownsRow.kept (row := some p.block) h ⟨rfl, rfl, rfl, by simp [World.setCell], fun b hb hr => Below.heap_setCell W p u b (fun e => hr (congrArg some e))⟩ (by
    cases hv : v.ownBlock with
    | none => exact .inl rfl
    | some g => exact .inr (fun e => hp g hv (by injection e)))
/-- A change written over. -/
theorem CTab.put {g n cap k : Nat} (h : CTab W B (.slice (some ⟨g, 0, none⟩) n cap) es) (hn : n = es.length) (hk : k < n) (e : Ch) :
    CTab (((W.setCell ⟨g, k * 3, none⟩ (.int .i64 e.1)).setCell ⟨g, k * 3 + 1, none⟩ (.int .i64 e.2.1)).setCell ⟨g, k * 3 + 2, none⟩ (.int .i64 e.2.2)) B (.slice (some ⟨g, 0, none⟩) n cap) (es.set k e) := by
  subst hn
  unfold CTab at h ⊢
  have h1 := (World.ownsRow.stored h (k * 3) (.int .i64 e.1)).1
  have h2 := (World.ownsRow.stored h1 (k * 3 + 1) (.int .i64 e.2.1)).1
  have h3 := (World.ownsRow.stored h2 (k * 3 + 2) (.int .i64 e.2.2)).1
  rw [flat_set es k e hk] at h3
  rw [List.length_set]
  exact h3
end
theorem infoCh : (Try.prog.info? 33).map (fun i => (i.zero.map (fun z => z.cells.size), i.size, i.bytes)) = some (some 3, 3, 24) := by kernel_rfl
theorem info_ch : ∃ i, Try.prog.info? 33 = some i ∧ ∃ z, i.zero = some z ∧ i.size = 3 ∧ i.bytes = 24 ∧ z.cells.size = 3 := by
  have h0 := infoCh
  cases hi : Try.prog.info? 33 with
  | none => rw [hi] at h0; cases h0
  | some i =>
    rw [hi] at h0
    simp only [Option.map_some, Option.some.injEq, Prod.mk.injEq] at h0
    cases hz : i.zero with
    | none => rw [hz] at h0; cases h0.1
    | some z =>
      rw [hz] at h0
      simp only [Option.map_some, Option.some.injEq] at h0
      exact ⟨i, rfl, z, hz, h0.2.1, h0.2.2, h0.1⟩
/-- 'append(v, api.Change{..})'. -/
theorem wpList_append_ch {ops : Array Oper} {rest : List Oper} {o : Oper} {a : Act} {Q : Exit → Act → World → Prop} (hgd : o.guard = none) (s x : Operand)
    (ho : o.op = .call { callee := .builtin .append, args := #[s, x], argTypes := #[25, 25] }) {w : World} {e1 e2 e3 : Int} {B : Nat} {v : Value} {es : List Ch} {n : Nat} (hs : a.eval s = v)
    (hx : a.eval x = .slice (some ⟨w.heap.size, 0, none⟩) 1 1) (hg : CTab w B v es) (hn : es.length = n) (hl2 : (n + 1) * 24 ≤ 140737488355328) (hB : B ≤ w.heap.size) {B0 : Nat} {w0 : World} (hb : Below B0 w0 w) (hB0 : B0 ≤ B)
    (h : ∀ A c w', Hid (CTab w' B (.slice A (n + 1) c) (es ++ [(e1, e2, e3)])) → Hid (Below B0 w0 w') → wpList Try.prog ops Q rest (a.put o.dst (.slice A (n + 1) c)) w') :
    wpList Try.prog ops Q (o :: rest) a (w.alloc (.cells #[.int .i64 e1, .int .i64 e2, .int .i64 e3] 33)) := by
  subst hn
  obtain ⟨i, hi, z, hz0, hz1, hz2, hz3⟩ := info_ch
  refine wpList_append_own_at (w := w.alloc (.cells #[.int .i64 e1, .int .i64 e2, .int .i64 e3] 33)) hgd s x 25 ho B 33 i z 3 24 Try.underlying25 hi hz0 hz1 hz2 hz3 (by decide) v es.length (flat es) hs (World.ownsRow.alloc hg _) ⟨w.heap.size, 0, none⟩ 1 1 [.int .i64 e1, .int .i64 e2, .int .i64 e3] hx rfl ?_ ?_ (by unfold maxLen; omega) hl2 (by simp; omega) ?_
  · intro j u' hj
    have kn := Known.made w 33 #[.int .i64 e1, .int .i64 e2, .int .i64 e3]
    rcases j with _ | _ | _ | j
    · simp at hj; subst hj
      rw [show (⟨w.heap.size, 0, none⟩ : Addr).add 0 = ⟨w.heap.size, 0, none⟩ from rfl, kn.cell 0]; rfl
    · simp at hj; subst hj
      rw [show (⟨w.heap.size, 0, none⟩ : Addr).add 1 = ⟨w.heap.size, 1, none⟩ from rfl, kn.cell 1]; rfl
    · simp at hj; subst hj
      rw [show (⟨w.heap.size, 0, none⟩ : Addr).add 2 = ⟨w.heap.size, 2, none⟩ from rfl, kn.cell 2]; rfl
    · simp at hj
  · intro u' hu'
    simp at hu'
    rcases hu' with rfl | rfl | rfl <;> rfl
  · intro v' w' k1 g2 _ g3
    have hT : CTab w' B v' (es ++ [(e1, e2, e3)]) := by
      unfold CTab
      rw [List.length_append, flat_app]
      exact k1
    obtain ⟨A, c, hv, _, _⟩ := hT.form
    rw [List.length_append] at hv
    have hv : v' = .slice A (es.length + 1) c := hv
    subst hv
    exact h A c w' hT ((hb.alloc (Nat.le_trans hB0 hB) _).grown g2 (by simp; omega) fun k hk => Nat.le_trans hB0 (hg.lt k hk).1)

/-! ### What came in -/
/-- The value u is a slice of the changes d. -/
def IsChs (W : World) (u : Value) (d : List Ch) : Prop := ∃ (D : Option Addr) (n c : Nat), u = .slice D n c ∧ d.length = n ∧ n ≤ c ∧ n ≤ 5864062014805 ∧ CRds W D d
theorem IsChs.below {W V : World} {u : Value} {d : List Ch} (h : IsChs W u d) (hb : Below W.heap.size W V) : IsChs V u d := by
  obtain ⟨D, n, c, h1, h2, h3, h4, h5⟩ := h; exact ⟨D, n, c, h1, h2, h3, h4, h5.below hb⟩
/-- The value u is a slice of the numbers l. -/
def IsInts (W : World) (u : Value) (l : List Int) : Prop := ∃ (D : Option Addr) (n c : Nat), u = .slice D n c ∧ l.length = n ∧ n ≤ c ∧ n ≤ 17592186044416 ∧ Reads W D (l.map (Value.int .i64))
/-- A slice's address leads to the steps. -/
def SRds (W : World) (A : Option Addr) (l : List Sp) : Prop :=
  ∀ (k : Nat) (h : Sp), l[k]? = some h → ∃ b o u, A = some ⟨b, o, none⟩ ∧ b < W.heap.size ∧ W.cell? ⟨b, o + k * 2, none⟩ = some (.int .i64 h.1) ∧ W.cell? ⟨b, o + k * 2 + 1, none⟩ = some u ∧ IsChs W u h.2
section
variable {W V : World} {A : Option Addr} {l : List Sp}
theorem SRds.nil : SRds W A [] := fun k p h => by simp at h
theorem SRds.below (h : SRds W A l) (hb : Below W.heap.size W V) : SRds V A l := fun k p hp => by
  obtain ⟨b, o, u, h1, h2, h3, h4, h5⟩ := h k p hp
  exact ⟨b, o, u, h1, Nat.lt_of_lt_of_le h2 hb.size, (hb.cell (p := ⟨b, _, none⟩) h2).trans h3, (hb.cell (p := ⟨b, _, none⟩) h2).trans h4, h5.below hb⟩
theorem SRds.step (h : SRds W A l) {k : Nat} {x : Sp} (hk : l[k]? = some x) : ∃ b o D n c, A = some ⟨b, o, none⟩ ∧ b < W.heap.size ∧ W.cell? ⟨b, o + k * 2, none⟩ = some (.int .i64 x.1) ∧ W.cell? ⟨b, o + k * 2 + 1, none⟩ = some (.slice D n c) ∧ x.2.length = n ∧ n ≤ c ∧ n ≤ 5864062014805 ∧ CRds W D x.2 := by
  obtain ⟨b, o, u, h1, h2, h3, h4, D, n, c, rfl, h5, h6, h7, h8⟩ := h k x hk
  exact ⟨b, o, D, n, c, h1, h2, h3, h4, h5, h6, h7, h8⟩
theorem SRds.take (h : SRds W A l) (n : Nat) : SRds W A (l.take n) := fun k p hp => by
  rw [List.getElem?_take] at hp
  split at hp
  · exact h k p hp
  · cases hp
theorem SRds.drop {b o : Nat} (h : SRds W (some ⟨b, o, none⟩) l) (n : Nat) : SRds W (some ⟨b, o + n * 2, none⟩) (l.drop n) := fun k p hp => by
  rw [List.getElem?_drop] at hp
  obtain ⟨b', o', u, e, h2, h3, h4, h5⟩ := h (n + k) p hp
  injection e with e
  injection e with e1 e2
  subst e1 e2
  rw [show o + (n + k) * 2 = o + n * 2 + k * 2 by omega] at h3 h4
  exact ⟨b, o + n * 2, u, rfl, h2, h3, h4, h5⟩
end
/-- A machine's number. -/
def Fit (a : Int) : Prop := -9223372036854775808 ≤ a ∧ a ≤ 9223372036854775807
theorem fit_of {a : Int} (h : (Lit.int .i64 a).wf = true) : Fit a := by
  simp [Lit.wf, IntKind.min, IntKind.max, IntKind.bits, IntKind.signed] at h; exact h
def FitsS (l : List Sp) : Prop := ∀ s ∈ l, Fit s.1
section
open Go.ChangeShapes Go.WideShapes Go.Deep
variable {H : Type} {enc : TypeId × Value → H} {P : Program}
theorem ints_cell {t e : TypeId} (ht : P.underlying t = some (.slice e)) (he : P.underlying e = some (.int .i64)) (hC : P.cellsOf e = 1) (h8 : P.bytesOf e = 8)
    {W : World} {fuel : Nat} {v : Value} {x : DataW H × List MemPlace} (hf : DataW.trod enc P W 0 (fun _ => true) true fuel t [v] = some x) (hw : ∀ n ∈ x.1.weights P t, n ≤ reachBytes) :
    ∃ l : List Int, IsInts W v l := by
  rcases open_ints ht he hC hf with ⟨hcs, hx⟩ | ⟨a, len, cap, zs, hcs, _, hl, hm, hzl, hx, hcell, hwz⟩
  · simp at hcs
    subst hcs
    exact ⟨[], none, 0, 0, rfl, rfl, by simp, by simp, Reads.nil⟩
  · simp at hcs
    subst hcs
    simp only [if_true] at hzl
    subst hx
    have hcap : cap * 8 ≤ reachBytes := by
      have := hw ((lits .i64 (zs.take len) : List (DataW H)).length * P.bytesOf e + (lits .i64 (zs.drop len) : List (DataW H)).length * P.bytesOf e) (by simp [DataW.weights, ht, Nat.add_mul])
      rw [h8] at this
      simp [lits] at this
      omega
    have hcap2 : cap ≤ 17592186044416 := by unfold reachBytes at hcap; omega
    have hlen : (zs.take len).length = len := by rw [List.length_take]; omega
    refine ⟨zs.take len, some a, len, cap, rfl, hlen, hl, by omega, ?_⟩
    intro k v hv
    rw [List.getElem?_map] at hv
    have hk : k < len := by
      rcases Nat.lt_or_ge k len with h | h
      · exact h
      · rw [List.getElem?_eq_none (by omega)] at hv; cases hv
    rw [List.getElem?_take_of_lt hk, List.getElem?_eq_getElem (by omega)] at hv
    obtain ⟨ab, ao, spot⟩ := a
    have hspot : spot = none := by simpa [Addr.add] using World.cell?_spot (hcell 0 (by omega))
    subst hspot
    have hcj := hcell k (by omega)
    rw [Addr.add_lit] at hcj
    have e : zs.getD k 0 = zs[k]'(by omega) := by simp [List.getD, List.getElem?_eq_getElem (show k < zs.length by omega)]
    rw [List.getD_eq_getElem?_getD] at e hcj
    rw [e] at hcj
    refine ⟨ab, ao, rfl, World.block_lt_of_cell? _ _ hcj, ?_⟩
    rw [hcj, ← hv]
    rfl
theorem chs_cell {t e : TypeId} {f0 f1 f2 : Field} (ht : P.underlying t = some (.slice e)) (hs : P.underlying e = some (.struct #[f0, f1, f2])) (hone : oneCellFields P #[f0, f1, f2] = true) (hC : P.cellsOf e = 3) (h24 : P.bytesOf e = 24)
    (h0 : P.underlying f0.type = some (.int .i64)) (h1 : P.underlying f1.type = some (.int .i64)) (h2 : P.underlying f2.type = some (.int .i64))
    {W : World} {fuel : Nat} {v : Value} {x : DataW H × List MemPlace} (hf : DataW.trod enc P W 0 (fun _ => true) true fuel t [v] = some x) (hw : ∀ n ∈ x.1.weights P t, n ≤ reachBytes) :
    ∃ d : List Ch, IsChs W v d := by
  rcases Go.Deep.open_slice ht hf with ⟨hcs, hx⟩ | ⟨a, len, cap, m, n, D, Pl, hcs, _, hl, hm, hmm, hx, hcell⟩
  · simp at hcs
    subst hcs
    exact ⟨[], none, 0, 0, rfl, rfl, by simp, by simp, CRds.nil⟩
  · simp at hcs
    subst hcs
    simp only [if_true] at hmm
    subst hmm
    subst hx
    rw [hC] at hcell
    have hcap : m * 24 ≤ reachBytes := by
      have := hw (((List.range len).map D).length * P.bytesOf e + ((List.range (m - len)).map fun j => D (len + j)).length * P.bytesOf e) (by simp [DataW.weights, ht, Nat.add_mul])
      rw [h24] at this
      simp at this
      omega
    have hcap2 : m ≤ 5864062014805 := by unfold reachBytes at hcap; omega
    obtain ⟨o0, k0⟩ := hone_of hone 0 f0 rfl
    obtain ⟨o1, k1⟩ := hone_of hone 1 f1 rfl
    obtain ⟨o2, k2⟩ := hone_of hone 2 f2 rfl
    obtain ⟨R, hR⟩ := Go.Deep.choose_lt (α := Ch) (n := len) (p := fun i r => W.cell? (a.add (i * 3)) = some (.int .i64 r.1) ∧ W.cell? ((a.add (i * 3)).add 1) = some (.int .i64 r.2.1) ∧ W.cell? ((a.add (i * 3)).add 2) = some (.int .i64 r.2.2)) (fun i hi => by
      obtain ⟨cs', hcs', htr⟩ := hcell i (by omega)
      obtain ⟨ys, n', _, hy, hlen, hyl, hg⟩ := DataW.trod_struct hs htr
      obtain ⟨_, hsz, hat⟩ := World.cells?_some hcs'
      match cs', hsz with
      | [c0, c1, c2], _ =>
        match ys, hyl with
        | [y0, y1, y2], _ =>
          have g0 : DataW.trod enc P W 0 (fun _ => true) true n' f0.type [c0] = some y0 := by simpa [o0, k0] using hg 0 f0 rfl
          have g1 : DataW.trod enc P W 0 (fun _ => true) true n' f1.type [c1] = some y1 := by simpa [o1, k1] using hg 1 f1 rfl
          have g2 : DataW.trod enc P W 0 (fun _ => true) true n' f2.type [c2] = some y2 := by simpa [o2, k2] using hg 2 f2 rfl
          obtain ⟨z, hz0, _, _⟩ := DataW.trod_int h0 g0
          obtain ⟨y, hy0, _, _⟩ := DataW.trod_int h1 g1
          obtain ⟨q, hq0, _, _⟩ := DataW.trod_int h2 g2
          simp at hz0 hy0 hq0
          exact ⟨(z, y, q), by have := hat 0 (by omega); simpa [hz0, Addr.add] using this, by have := hat 1 (by omega); simpa [hy0] using this, by have := hat 2 (by omega); simpa [hq0] using this⟩)
    refine ⟨(List.range len).map R, some a, len, m, rfl, by simp, hl, by omega, ?_⟩
    intro k p hp
    have hk : k < len := by
      rcases Nat.lt_or_ge k len with h | h
      · exact h
      · rw [List.getElem?_eq_none (by simp; omega)] at hp; cases hp
    rw [List.getElem?_map, List.getElem?_range hk] at hp
    simp at hp
    subst hp
    obtain ⟨r1, r2, r3⟩ := hR k hk
    obtain ⟨ab, ao, spot⟩ := a
    have hspot : spot = none := by simpa [Addr.add] using World.cell?_spot (hR 0 (by omega)).1
    subst hspot
    rw [Addr.add_lit] at r1 r2 r3
    rw [Addr.add_lit] at r2 r3
    exact ⟨ab, ao, rfl, World.block_lt_of_cell? _ _ r1, r1, r2, r3⟩
theorem weights_mem_all {P : Program} {e : TypeId} : ∀ {l : List (DataW H)} {d : DataW H}, d ∈ l → ∀ n ∈ d.weights P e, n ∈ DataW.weightsAll P e l
  | x :: l, d, h, n, hn => by
    rw [DataW.weightsAll, List.mem_append]
    rcases List.mem_cons.1 h with rfl | h
    · exact .inl hn
    · exact .inr (weights_mem_all h n hn)
  | [], d, h, _, _ => by cases h
theorem open_stepsZ_of {t e e2 : TypeId} {f0 f1 p0 p1 p2 : Field} (ht : P.underlying t = some (.slice e)) (hs : P.underlying e = some (.struct #[f0, f1])) (hone : oneCellFields P #[f0, f1] = true) (hC : P.cellsOf e = 2) (h32 : P.bytesOf e = 32)
    (h0 : P.underlying f0.type = some (.int .i64)) (h1 : P.underlying f1.type = some (.slice e2)) (hs2 : P.underlying e2 = some (.struct #[p0, p1, p2])) (hone2 : oneCellFields P #[p0, p1, p2] = true) (hC2 : P.cellsOf e2 = 3) (h24 : P.bytesOf e2 = 24)
    (hp0 : P.underlying p0.type = some (.int .i64)) (hp1 : P.underlying p1.type = some (.int .i64)) (hp2 : P.underlying p2.type = some (.int .i64))
    {W : World} {base : Nat} {v : Value} {d : DataW H} {p : List MemPlace} (hval : Value.okWide P W .any base t v) (h : DataW.Trod enc P W 0 (fun _ => true) true t v d p)
    {ts : List TypeId} {ds : List (DataW H)} (hz : (DataW.weightsEach P ts ds).all (· ≤ reachBytes) = true) {j : Nat} (htj : ts[j]? = some t) (hdj : ds[j]? = some d) :
    ∃ (A : Option Addr) (cap : Nat) (l : List Sp), v = .slice A l.length cap ∧ l.length ≤ 4398046511104 ∧ l.length ≤ cap ∧ cap ≤ 4398046511104 ∧ SRds W A l ∧ FitsS l := by
  obtain ⟨a1, len, cap, rfl⟩ := okWide_slice ht hval
  obtain ⟨fuel, hf⟩ := h
  rcases Go.Deep.open_slice ht hf with ⟨hcs, hx⟩ | ⟨a, len', cap', m, n, D, Pl, hcs, _, hl, hm, hmm, hx, hcell⟩
  · simp [Value.cells] at hcs
    obtain ⟨rfl, rfl, rfl⟩ := hcs
    exact ⟨none, 0, [], rfl, by simp, by simp, by simp, SRds.nil, fun r hr => by simp at hr⟩
  · simp [Value.cells] at hcs
    obtain ⟨rfl, rfl, rfl⟩ := hcs
    simp only [if_true] at hmm
    subst hmm
    simp only [Prod.mk.injEq] at hx
    obtain ⟨hx1, hx2⟩ := hx
    subst hx1
    rw [hC] at hcell
    have hwd : ∀ n ∈ DataW.weights P t (.slice ((List.range len).map D) ((List.range (m - len)).map fun j => D (len + j))), n ≤ reachBytes := fun n hn => by
      have := List.all_eq_true.1 hz _ (DataW.weights_mem_each htj hdj n hn)
      simpa using this
    have hcap : m * 32 ≤ reachBytes := by
      have := hwd (((List.range len).map D).length * P.bytesOf e + ((List.range (m - len)).map fun j => D (len + j)).length * P.bytesOf e) (by simp [DataW.weights, ht, Nat.add_mul])
      rw [h32] at this
      simp at this
      omega
    have hcap2 : m ≤ 4398046511104 := by unfold reachBytes at hcap; omega
    obtain ⟨o0, k0⟩ := hone_of hone 0 f0 rfl
    obtain ⟨o1, k1⟩ := hone_of hone 1 f1 rfl
    obtain ⟨R, hR⟩ := Go.Deep.choose_lt (α := Sp) (n := len) (p := fun i r => W.cell? (a.add (i * 2)) = some (.int .i64 r.1) ∧ (∃ u, W.cell? ((a.add (i * 2)).add 1) = some u ∧ IsChs W u r.2) ∧ (Lit.int .i64 r.1).wf = true) (fun i hi => by
      obtain ⟨cs', hcs', htr⟩ := hcell i (by omega)
      obtain ⟨ys, n', _, hy, hlen, hyl, hg⟩ := DataW.trod_struct hs htr
      obtain ⟨_, hsz, hat⟩ := World.cells?_some hcs'
      match cs', hsz with
      | [c0, c1], _ =>
        match ys, hyl with
        | [y0, y1], _ =>
          have g0 : DataW.trod enc P W 0 (fun _ => true) true n' f0.type [c0] = some y0 := by simpa [o0, k0] using hg 0 f0 rfl
          have g1 : DataW.trod enc P W 0 (fun _ => true) true n' f1.type [c1] = some y1 := by simpa [o1, k1] using hg 1 f1 rfl
          obtain ⟨z, hz0, hz1, hz2⟩ := DataW.trod_int h0 g0
          simp at hz0
          simp only [Prod.mk.injEq] at hy
          have hw : ∀ x ∈ y1.1.weights P f1.type, x ≤ reachBytes := fun x hx => hwd x (by
            simp only [DataW.weights, ht]
            refine List.mem_cons_of_mem _ (List.mem_append_left _ (weights_mem_all (d := D i) (List.mem_map.2 ⟨i, List.mem_range.2 hi, rfl⟩) x ?_))
            rw [hy.1]
            simp [DataW.weights, hs, DataW.weightsEach, hx])
          obtain ⟨r, hr1⟩ := chs_cell h1 hs2 hone2 hC2 h24 hp0 hp1 hp2 g1 hw
          exact ⟨(z, r), by have := hat 0 (by omega); simpa [hz0, Addr.add] using this, ⟨c1, by have := hat 1 (by omega); simpa using this, hr1⟩, hz2⟩)
    refine ⟨some a, m, (List.range len).map R, by simp, by simp; omega, by simp; omega, hcap2, ?_, ?_⟩
    · intro k p hp
      have hk : k < len := by
        rcases Nat.lt_or_ge k len with h | h
        · exact h
        · rw [List.getElem?_eq_none (by simp; omega)] at hp; cases hp
      rw [List.getElem?_map, List.getElem?_range hk] at hp
      simp at hp
      subst hp
      obtain ⟨r1, ⟨u, r2, r3⟩, _⟩ := hR k hk
      obtain ⟨ab, ao, spot⟩ := a
      have hspot : spot = none := by simpa [Addr.add] using World.cell?_spot (hR 0 (by omega)).1
      subst hspot
      rw [Addr.add_lit] at r1 r2
      rw [Addr.add_lit] at r2
      exact ⟨ab, ao, u, rfl, World.block_lt_of_cell? _ _ r1, r1, r2, r3⟩
    · intro r hr
      obtain ⟨k, hk, rfl⟩ := List.mem_map.1 hr
      exact fit_of (hR k (List.mem_range.1 hk)).2.2
end
theorem fieldsMap : Try.prog.underlying 24 = some (.struct #[⟨ "Epoch", 3, 0, false, "", "", 0⟩, ⟨ "States", 22, 1, false, "", "", 8⟩]) := by kernel_rfl
theorem mapOne : Go.Deep.oneCellFields Try.prog #[⟨ "Epoch", 3, 0, false, "", "", 0⟩, ⟨ "States", 22, 1, false, "", "", 8⟩] = true := by kernel_rfl
theorem mapCells : Try.prog.cellsOf 24 = 2 := by kernel_rfl
theorem fieldsStep : Try.prog.underlying 27 = some (.struct #[⟨ "Epoch", 3, 0, false, "", "", 0⟩, ⟨ "Changes", 25, 1, false, "", "", 8⟩]) := by kernel_rfl
theorem stepOne : Go.Deep.oneCellFields Try.prog #[⟨ "Epoch", 3, 0, false, "", "", 0⟩, ⟨ "Changes", 25, 1, false, "", "", 8⟩] = true := by kernel_rfl
theorem stepCells : Try.prog.cellsOf 27 = 2 := by kernel_rfl
theorem stepBytes : Try.prog.bytesOf 27 = 32 := by kernel_rfl
theorem fieldsCh : Try.prog.underlying 33 = some (.struct #[⟨ "At", 3, 0, false, "", "", 0⟩, ⟨ "From", 3, 1, false, "", "", 8⟩, ⟨ "To", 3, 2, false, "", "", 16⟩]) := by kernel_rfl
theorem chOne : Go.Deep.oneCellFields Try.prog #[⟨ "At", 3, 0, false, "", "", 0⟩, ⟨ "From", 3, 1, false, "", "", 8⟩, ⟨ "To", 3, 2, false, "", "", 16⟩] = true := by kernel_rfl
theorem chCells : Try.prog.cellsOf 33 = 3 := by kernel_rfl
theorem chBytes : Try.prog.bytesOf 33 = 24 := by kernel_rfl
theorem intCells : Try.prog.cellsOf 3 = 1 := by kernel_rfl
theorem intBytes : Try.prog.bytesOf 3 = 8 := by kernel_rfl
section
open Go.ChangeShapes Go.WideShapes Go.Deep
set_option maxRecDepth 100000 in
theorem open_stepsZ {H : Type} {enc : TypeId × Value → H} {W : World} {base : Nat} {v : Value} {d : DataW H} {p : List MemPlace} (hval : Value.okWide Try.prog W .any base 36 v) (h : DataW.Trod enc Try.prog W 0 (fun _ => true) true 36 v d p)
    {ts : List TypeId} {ds : List (DataW H)} (hz : (DataW.weightsEach Try.prog ts ds).all (· ≤ reachBytes) = true) {j : Nat} (htj : ts[j]? = some 36) (hdj : ds[j]? = some d) :
    ∃ (A : Option Addr) (cap : Nat) (l : List Sp), v = .slice A l.length cap ∧ l.length ≤ 4398046511104 ∧ l.length ≤ cap ∧ cap ≤ 4398046511104 ∧ SRds W A l ∧ FitsS l :=
  open_stepsZ_of Try.underlying36 fieldsStep stepOne stepCells stepBytes Try.underlying3 Try.underlying25 fieldsCh chOne chCells chBytes Try.underlying3 Try.underlying3 Try.underlying3 hval h hz htj hdj
set_option maxRecDepth 100000 in
/-- A map that came in. -/
theorem open_mapZ {H : Type} {enc : TypeId × Value → H} {W : World} {base : Nat} {v : Value} {d : DataW H} {p : List MemPlace} (hval : Value.okWide Try.prog W .any base 24 v) (h : DataW.Trod enc Try.prog W 0 (fun _ => true) true 24 v d p)
    {ts : List TypeId} {ds : List (DataW H)} (hz : (DataW.weightsEach Try.prog ts ds).all (· ≤ reachBytes) = true) {j : Nat} (htj : ts[j]? = some 24) (hdj : ds[j]? = some d) :
    ∃ (e : Int) (A : Option Addr) (l : List Int) (n c : Nat), v = .agg #[.int .i64 e, .slice A n c] ∧ Fit e ∧ l.length = n ∧ n ≤ 17592186044416 ∧ Reads W A (l.map (Value.int .i64)) := by
  obtain ⟨v0, v1, y0, y1, n, rfl, rfl, _, t0, t1⟩ := Go.Joins.open_agg2 fieldsMap mapOne mapCells hval h
  obtain ⟨z0, e0, _, wz⟩ := DataW.trod_int Try.underlying3 t0
  simp at e0
  subst e0
  obtain ⟨l, A, m, c, rfl, h1, _, h3, h4⟩ := ints_cell Try.underlying22 Try.underlying3 intCells intBytes t1 (fun q hq => by
    have := List.all_eq_true.1 hz _ (DataW.weights_mem_each htj hdj q (by
      simp only [DataW.weights, fieldsMap, List.map_cons, List.map_nil, DataW.weightsEach, List.append_nil]
      exact List.mem_append_right _ hq))
    simpa using this)
  exact ⟨z0, A, l, m, c, rfl, fit_of wz, h1, h3, h4⟩
set_option maxRecDepth 100000 in
/-- A step that came in. -/
theorem open_stepZ {H : Type} {enc : TypeId × Value → H} {W : World} {base : Nat} {v : Value} {d : DataW H} {p : List MemPlace} (hval : Value.okWide Try.prog W .any base 27 v) (h : DataW.Trod enc Try.prog W 0 (fun _ => true) true 27 v d p)
    {ts : List TypeId} {ds : List (DataW H)} (hz : (DataW.weightsEach Try.prog ts ds).all (· ≤ reachBytes) = true) {j : Nat} (htj : ts[j]? = some 27) (hdj : ds[j]? = some d) :
    ∃ (e : Int) (A : Option Addr) (l : List Ch) (n c : Nat), v = .agg #[.int .i64 e, .slice A n c] ∧ Fit e ∧ l.length = n ∧ n ≤ 5864062014805 ∧ CRds W A l := by
  obtain ⟨v0, v1, y0, y1, n, rfl, rfl, _, t0, t1⟩ := Go.Joins.open_agg2 fieldsStep stepOne stepCells hval h
  obtain ⟨z0, e0, _, wz⟩ := DataW.trod_int Try.underlying3 t0
  simp at e0
  subst e0
  obtain ⟨l, A, m, c, rfl, h1, _, h3, h4⟩ := chs_cell Try.underlying25 fieldsCh chOne chCells chBytes Try.underlying3 Try.underlying3 Try.underlying3 t1 (fun q hq => by
    have := List.all_eq_true.1 hz _ (DataW.weights_mem_each htj hdj q (by
      simp only [DataW.weights, fieldsStep, List.map_cons, List.map_nil, DataW.weightsEach, List.append_nil]
      exact List.mem_append_right _ hq))
    simpa using this)
  exact ⟨z0, A, l, m, c, rfl, fit_of wz, h1, h3, h4⟩
end
end Go.Proofs.Ytmijjaihedbjgaa.Mps
