/-
  Slices of items (an id and a weight each): read, made by append, brought in.
-/
import Derived.Test.YtcbecpgllebepaaSwPure
import Derived.Test.YtcbecpgllebepaaSl
import Derived.Deep.Fields
namespace Go.Proofs.Ytcbecpgllebepaa.Straw
set_option linter.unusedVariables false
set_option linter.unusedSimpArgs false
open Go.RowKit Mem

/-- An answer; what was there before is as it was. -/
def Gave (v : Value) (W : World) (e : Ending) (W' : World) : Prop := e = .returned v ∧ Below W.heap.size W W'
def enc2 (t : It) : List Value := [.int .i64 t.1, .int .i64 t.2]
def flat : List It → List Value
  | [] => []
  | e :: es => .int .i64 e.1 :: .int .i64 e.2 :: flat es
theorem flat_len (es : List It) : (flat es).length = es.length * 2 := by
  induction es with
  | nil => rfl
  | cons e es ih => simp [flat, ih]; omega
theorem flat_app (a b : List It) : flat (a ++ b) = flat a ++ flat b := by
  induction a with
  | nil => rfl
  | cons e a ih => simp [flat, ih]
theorem flat_at {es : List It} {k : Nat} {e : It} (h : es[k]? = some e) : (flat es)[k * 2]? = some (.int .i64 e.1) ∧ (flat es)[k * 2 + 1]? = some (.int .i64 e.2) := by
  induction es generalizing k with
  | nil => simp at h
  | cons x es ih =>
    cases k with
    | zero => simp at h; subst h; exact ⟨rfl, rfl⟩
    | succ k =>
      have h2 := ih (k := k) (by simpa using h)
      rw [show (k + 1) * 2 = k * 2 + 2 by omega]
      exact h2
theorem flat_one (es : List It) : ∀ v ∈ flat es, v.oneCell' = true := by
  induction es with
  | nil => intro v h; cases h
  | cons e es ih =>
    intro v h
    simp only [flat, List.mem_cons] at h
    rcases h with rfl | rfl | h
    · rfl
    · rfl
    · exact ih v h
theorem flat_set (es : List It) (k : Nat) (e : It) (hk : k < es.length) : ((flat es).set (k * 2) (.int .i64 e.1)).set (k * 2 + 1) (.int .i64 e.2) = flat (es.set k e) := by
  induction es generalizing k with
  | nil => simp at hk
  | cons x es ih =>
    cases k with
    | zero => rfl
    | succ k =>
      have h2 := ih k (by simpa using hk)
      rw [show (k + 1) * 2 = k * 2 + 2 by omega]
      simp only [flat, List.set_cons_succ, ← h2]

/-- A slice's address leads to the tokens. -/
def WRds (W : World) (A : Option Addr) (es : List It) : Prop :=
  ∀ (k : Nat) (e : It), es[k]? = some e → ∃ b o, A = some ⟨b, o, none⟩ ∧ b < W.heap.size ∧ W.cell? ⟨b, o + k * 2, none⟩ = some (.int .i64 e.1) ∧ W.cell? ⟨b, o + k * 2 + 1, none⟩ = some (.int .i64 e.2)
section
variable {W V : World} {A : Option Addr} {es : List It}
theorem WRds.nil : WRds W A [] := fun k e h => by simp at h
theorem WRds.below (h : WRds W A es) (hb : Below W.heap.size W V) : WRds V A es := fun k e hk => by
  obtain ⟨b, o, h1, h2, h3, h4⟩ := h k e hk
  exact ⟨b, o, h1, Nat.lt_of_lt_of_le h2 hb.size, (hb.cell (p := ⟨b, _, none⟩) h2).trans h3, (hb.cell (p := ⟨b, _, none⟩) h2).trans h4⟩
theorem WRds.later {W0 : World} (h : WRds W0 A es) (hb : Below W0.heap.size W0 W) : WRds W A es := h.below hb
theorem WRds.it (h : WRds W A es) {k : Nat} (hk : k < es.length) : ∃ b o, A = some ⟨b, o, none⟩ ∧ b < W.heap.size ∧ W.cell? ⟨b, o + k * 2, none⟩ = some (.int .i64 es[k].1) ∧ W.cell? ⟨b, o + k * 2 + 1, none⟩ = some (.int .i64 es[k].2) :=
  h k _ (List.getElem?_eq_getElem hk)
theorem WRds.take (h : WRds W A es) (n : Nat) : WRds W A (es.take n) := fun k e hk => by
  rw [List.getElem?_take] at hk
  split at hk
  · exact h k e hk
  · cases hk
end

/-- v is a slice of the call's own (block B or later) of the tokens. -/
def WTab (W : World) (B : Nat) (v : Value) (es : List It) : Prop := W.ownsRow B 47 2 v es.length (flat es)
section
variable {W V : World} {B : Nat} {v : Value} {es : List It}
theorem WTab.nil (W : World) (B : Nat) : WTab W B (.slice none 0 0) [] := World.ownsRow_nil W B _ 2
theorem WTab.form (h : WTab W B v es) : ∃ A cap, v = .slice A es.length cap ∧ es.length ≤ cap ∧ cap ≤ maxLen := by
  rcases h.2 with ⟨rfl, hn⟩ | ⟨g, cap, cur, rfl, _, _, h1, h2, _⟩
  · exact ⟨none, 0, by rw [hn], by omega, by simp [maxLen]⟩
  · exact ⟨_, cap, rfl, h1, h2⟩
theorem WTab.lt (h : WTab W B v es) : ∀ k, v.ownBlock = some k → B ≤ k ∧ k < W.heap.size := World.ownsRow.lt h
theorem WTab.later (h : WTab W B v es) (hb : Below W.heap.size W V) : WTab V B v es :=
  World.ownsRow.kept (row := none) h ⟨hb.os, hb.tape, hb.output, hb.size, fun k hk _ => hb.block k hk⟩ (by cases hv : v.ownBlock <;> simp)
theorem WTab.kept {row : Option Nat} (h : WTab W B v es) (hg : W.grownBy V row) (hne : v.ownBlock = none ∨ v.ownBlock ≠ row) : WTab V B v es := World.ownsRow.kept h hg hne
theorem WTab.alloc (h : WTab W B v es) (o : Obj) : WTab (W.alloc o) B v es := World.ownsRow.alloc h o
theorem WTab.drew (h : WTab W B v es) : WTab W.drew B v es := h
theorem WTab.down {B' : Nat} (h : WTab W B v es) (hb : B' ≤ B) : WTab W B' v es := by
  refine ⟨h.1, ?_⟩
  rcases h.2 with h1 | ⟨g, cap, cur, h1, h2, h3⟩
  · exact .inl h1
  · exact .inr ⟨g, cap, cur, h1, Nat.le_trans hb h2, h3⟩
theorem WTab.head {A : Option Addr} {n cap : Nat} (h : WTab W B (.slice A n cap) es) (h0 : 0 < es.length) : ∃ g, A = some ⟨g, 0, none⟩ ∧ n = es.length ∧ B ≤ g ∧ g < W.heap.size := by
  have hf := h.form
  obtain ⟨A', c', e, _, _⟩ := hf
  injection e with e1 e2 e3
  rcases h.2 with ⟨e, hn⟩ | ⟨g, cap', cur, e, hb, hg, _⟩
  · omega
  · injection e with e4
    subst e4
    exact ⟨g, rfl, e2, hb, (Array.getElem?_eq_some_iff.1 hg).1⟩
theorem WTab.rds {A : Option Addr} {n cap : Nat} (h : WTab W B (.slice A n cap) es) : WRds W A es := fun k e hk => by
  have hlt := (List.getElem?_eq_some_iff.1 hk).1
  obtain ⟨g, rfl, hn, _, hg⟩ := h.head (by omega)
  subst hn
  obtain ⟨f1, f2⟩ := flat_at hk
  have hc := fun j hj => World.ownsRow.cellAt h j hj
  refine ⟨g, 0, rfl, hg, ?_, ?_⟩
  · rw [Nat.zero_add, hc _ (by omega), f1]
  · rw [Nat.zero_add, hc _ (by omega), f2]
theorem WTab.free {g n cap : Nat} (h : WTab W B (.slice (some ⟨g, 0, none⟩) n cap) es) (hn : n = es.length) (j : Nat) : W.frozen? ⟨g, j, none⟩ = false := by
  subst hn; exact World.ownsRow.frozenAt h j
theorem WTab.off (h : WTab W B v es) {p : Addr} (hp : ∀ g, v.ownBlock = some g → g ≠ p.block) (u : Value) : WTab (W.setCell p u) B v es :=
  World.ownsRow.kept (row := some p.block) h ⟨rfl, rfl, rfl, by simp [World.setCell], fun b hb hr => Below.heap_setCell W p u b (fun e => hr (congrArg some e))⟩ (by
    cases hv : v.ownBlock with
    | none => exact .inl rfl
    | some g => exact .inr (fun e => hp g hv (by injection e)))
/-- A token written over. -/
theorem WTab.put {g n cap k : Nat} (h : WTab W B (.slice (some ⟨g, 0, none⟩) n cap) es) (hn : n = es.length) (hk : k < n) (e : It) :
    WTab ((W.setCell ⟨g, k * 2, none⟩ (.int .i64 e.1)).setCell ⟨g, k * 2 + 1, none⟩ (.int .i64 e.2)) B (.slice (some ⟨g, 0, none⟩) n cap) (es.set k e) := by
  subst hn
  unfold WTab at h ⊢
  have h1 := (World.ownsRow.stored h (k * 2) (.int .i64 e.1)).1
  have h2 := (World.ownsRow.stored h1 (k * 2 + 1) (.int .i64 e.2)).1
  rw [flat_set es k e hk] at h2
  rw [List.length_set]
  exact h2
end
theorem infoIt : (Try.prog.info? 47).map (fun i => (i.zero.map (fun z => z.cells.size), i.size, i.bytes)) = some (some 2, 2, 16) := by kernel_rfl
theorem info_it : ∃ i, Try.prog.info? 47 = some i ∧ ∃ z, i.zero = some z ∧ i.size = 2 ∧ i.bytes = 16 ∧ z.cells.size = 2 := by
  have h0 := infoIt
  cases hi : Try.prog.info? 47 with
  | none => rw [hi] at h0; cases h0
  | some i =>
    rw [hi] at h0
    simp only [Option.map_some, Option.some.injEq, Prod.mk.injEq] at h0
    cases hz : i.zero with
    | none => rw [hz] at h0; cases h0.1
    | some z =>
      rw [hz] at h0
      simp only [Option.map_some, Option.some.injEq] at h0
      exact ⟨i, rfl, z, hz, h0.2.1, h0.2.2, h0.1⟩
/-- 'append(v, item)'. -/
theorem wpList_append_it {ops : Array Oper} {rest : List Oper} {o : Oper} {a : Act} {Q : Exit → Act → World → Prop} (hgd : o.guard = none) (s x : Operand)
    (ho : o.op = .call { callee := .builtin .append, args := #[s, x], argTypes := #[41, 41] }) {w : World} {z1 z2 : Int} (t : It) (hz1 : z1 = t.1) (hz2 : z2 = t.2) {B : Nat} {v : Value} {es : List It} {n : Nat} (hs : a.eval s = v)
    {sz : Nat} (hx : a.eval x = .slice (some ⟨sz, 0, none⟩) 1 1) (hsz : w.heap.size = sz) (hg : WTab w B v es) (hn : es.length = n) (hl2 : (n + 1) * 16 ≤ 140737488355328) (hB : B ≤ w.heap.size) {B0 : Nat} {w0 : World} (hb : Below B0 w0 w) (hB0 : B0 ≤ B)
    (h : ∀ A c w', Hid (WTab w' B (.slice A (n + 1) c) (es ++ [t])) → Hid ((w.alloc (.cells #[.int .i64 z1, .int .i64 z2] 47)).grownBy w' v.ownBlock) → Hid (Below B0 w0 w') → wpList Try.prog ops Q rest (a.put o.dst (.slice A (n + 1) c)) w') :
    wpList Try.prog ops Q (o :: rest) a (w.alloc (.cells #[.int .i64 z1, .int .i64 z2] 47)) := by
  subst hsz
  subst hn hz1 hz2
  obtain ⟨i, hi, z, hz0, hz1, hz2, hz3⟩ := info_it
  refine wpList_append_own_at (w := w.alloc (.cells #[.int .i64 t.1, .int .i64 t.2] 47)) hgd s x 41 ho B 47 i z 2 16 Try.underlying41 hi hz0 hz1 hz2 hz3 (by decide) v es.length (flat es) hs (World.ownsRow.alloc hg _) ⟨w.heap.size, 0, none⟩ 1 1 [.int .i64 t.1, .int .i64 t.2] hx rfl ?_ ?_ (by unfold maxLen; omega) hl2 (by simp; omega) ?_
  · intro j u' hj
    have kn := Known.made w 47 #[.int .i64 t.1, .int .i64 t.2]
    rcases j with _ | _ | j
    · simp at hj; subst hj
      rw [show (⟨w.heap.size, 0, none⟩ : Addr).add 0 = ⟨w.heap.size, 0, none⟩ from rfl, kn.cell 0]; rfl
    · simp at hj; subst hj
      rw [show (⟨w.heap.size, 0, none⟩ : Addr).add 1 = ⟨w.heap.size, 1, none⟩ from rfl, kn.cell 1]; rfl
    · simp at hj
  · intro u' hu'
    simp at hu'
    rcases hu' with rfl | rfl <;> rfl
  · intro v' w' k1 g2 _ g3
    have hT : WTab w' B v' (es ++ [t]) := by
      unfold WTab
      rw [List.length_append, flat_app]
      exact k1
    obtain ⟨A, c, hv, _, _⟩ := hT.form
    rw [List.length_append] at hv
    have hv : v' = .slice A (es.length + 1) c := hv
    subst hv
    exact h A c w' hT g2 ((hb.alloc (Nat.le_trans hB0 hB) _).grown g2 (by simp; omega) fun k hk => Nat.le_trans hB0 (hg.lt k hk).1)

/-! ### Arguments -/
section
open Go.ChangeShapes Go.WideShapes Go.Deep
variable {H : Type} {enc : TypeId × Value → H} {P : Program}
theorem open_its_of {t e : TypeId} {f0 f1 : Field} (ht : P.underlying t = some (.slice e)) (hs : P.underlying e = some (.struct #[f0, f1])) (hone : oneCellFields P #[f0, f1] = true) (hC : P.cellsOf e = 2)
    (h0 : P.underlying f0.type = some (.int .i64)) (h1 : P.underlying f1.type = some (.int .i64))
    {W : World} {base : Nat} {v : Value} {d : DataW H} {p : List MemPlace} (hval : Value.okWide P W .any base t v) (h : DataW.Trod enc P W 0 (fun _ => true) true t v d p) :
    ∃ (A : Option Addr) (cap : Nat) (ts : List It), v = .slice A ts.length cap ∧ ts.length ≤ maxLen ∧ ts.length ≤ cap ∧ cap ≤ maxLen ∧ WRds W A ts ∧ ∀ t ∈ ts, (Lit.int .i64 t.1).wf = true ∧ (Lit.int .i64 t.2).wf = true := by
  obtain ⟨a1, len, cap, rfl⟩ := okWide_slice ht hval
  obtain ⟨fuel, hf⟩ := h
  rcases Go.Deep.open_slice ht hf with ⟨hcs, hx⟩ | ⟨a, len', cap', m, n, D, Pl, hcs, _, hl, hm, hmm, hx, hcell⟩
  · simp [Value.cells] at hcs
    obtain ⟨rfl, rfl, rfl⟩ := hcs
    exact ⟨none, 0, [], rfl, by simp, by simp, by simp, WRds.nil, fun r hr => by simp at hr⟩
  · simp [Value.cells] at hcs
    obtain ⟨rfl, rfl, rfl⟩ := hcs
    simp only [if_true] at hmm
    subst hmm
    simp only [Prod.mk.injEq] at hx
    obtain ⟨hx1, hx2⟩ := hx
    subst hx1
    rw [hC] at hcell
    obtain ⟨o0, k0⟩ := hone_of hone 0 f0 rfl
    obtain ⟨o1, k1⟩ := hone_of hone 1 f1 rfl
    obtain ⟨R, hR⟩ := Go.Deep.choose_lt (α := It) (n := len) (p := fun i r => W.cell? (a.add (i * 2)) = some (.int .i64 r.1) ∧ W.cell? ((a.add (i * 2)).add 1) = some (.int .i64 r.2) ∧ (Lit.int .i64 r.1).wf = true ∧ (Lit.int .i64 r.2).wf = true) (fun i hi => by
      obtain ⟨cs', hcs', htr⟩ := hcell i (by omega)
      obtain ⟨ys, n', _, hy, hlen, hyl, hg⟩ := DataW.trod_struct hs htr
      obtain ⟨_, hsz, hat⟩ := World.cells?_some hcs'
      match cs', hsz with
      | [c0, c1], _ =>
        match ys, hyl with
        | [y0, y1], _ =>
          have g0 : DataW.trod enc P W 0 (fun _ => true) true n' f0.type [c0] = some y0 := by simpa [o0, k0] using hg 0 f0 rfl
          have g1 : DataW.trod enc P W 0 (fun _ => true) true n' f1.type [c1] = some y1 := by simpa [o1, k1] using hg 1 f1 rfl
          obtain ⟨z, hz0, hz1, hz2⟩ := DataW.trod_int h0 g0
          obtain ⟨y, hy0, hy1, hy2⟩ := DataW.trod_int h1 g1
          simp at hz0 hy0
          exact ⟨(z, y), by have := hat 0 (by omega); simpa [hz0, Addr.add] using this, by have := hat 1 (by omega); simpa [hy0] using this, hz2, hy2⟩)
    refine ⟨some a, m, (List.range len).map R, by simp, by simp; omega, by simp; omega, by omega, ?_, ?_⟩
    · intro k p hp
      have hk : k < len := by
        rcases Nat.lt_or_ge k len with h | h
        · exact h
        · rw [List.getElem?_eq_none (by simp; omega)] at hp; cases hp
      rw [List.getElem?_map, List.getElem?_range hk] at hp
      simp at hp
      subst hp
      obtain ⟨r1, r2, _, _⟩ := hR k hk
      obtain ⟨ab, ao, spot⟩ := a
      have hspot : spot = none := by simpa [Addr.add] using World.cell?_spot (hR 0 (by omega)).1
      subst hspot
      rw [Addr.add_lit] at r1 r2
      rw [Addr.add_lit] at r2
      exact ⟨ab, ao, rfl, World.block_lt_of_cell? _ _ r1, r1, r2⟩
    · intro r hr
      obtain ⟨k, hk, rfl⟩ := List.mem_map.1 hr
      exact (hR k (List.mem_range.1 hk)).2.2
theorem open_i64s {t e : TypeId} (ht : P.underlying t = some (.slice e)) (he : P.underlying e = some (.int .i64)) (hc : P.cellsOf e = 1)
    {W : World} {base : Nat} {v : Value} {d : DataW H} {p : List MemPlace} (hval : Value.okWide P W .any base t v) (h : DataW.Trod enc P W 0 (fun _ => true) true t v d p) :
    ∃ (A : Option Addr) (cap : Nat) (zs : List Int), v = .slice A zs.length cap ∧ zs.length ≤ maxLen ∧ Reads W A (zs.map (Value.int .i64)) ∧ zs.length ≤ cap ∧ cap ≤ maxLen ∧ ∀ z ∈ zs, (Lit.int .i64 z).wf = true := by
  obtain ⟨a1, len, cap, rfl⟩ := okWide_slice ht hval
  obtain ⟨fuel, hf⟩ := h
  rcases open_ints ht he hc hf with ⟨hcs, hx⟩ | ⟨a, len', cap', zs, hcs, _, hl, hm, hzl, hx, hcell, hwz⟩
  · simp [Value.cells] at hcs
    obtain ⟨rfl, rfl, rfl⟩ := hcs
    exact ⟨none, 0, [], rfl, by simp, Reads.nil, by simp, by simp, fun z hz => by simp at hz⟩
  · simp [Value.cells] at hcs
    obtain ⟨rfl, rfl, rfl⟩ := hcs
    simp only [if_true] at hzl
    have hlen : (zs.take len).length = len := by rw [List.length_take]; omega
    refine ⟨some a, cap, zs.take len, by rw [hlen], by rw [hlen]; omega, ?_, by rw [hlen]; omega, hm, fun z hz' => hwz z (List.mem_of_mem_take hz')⟩
    intro k v hv
    rw [List.getElem?_map] at hv
    have hk : k < len := by
      rcases Nat.lt_or_ge k len with h | h
      · exact h
      · rw [List.getElem?_eq_none (by omega)] at hv; cases hv
    rw [List.getElem?_take_of_lt hk, List.getElem?_eq_getElem (by omega)] at hv
    obtain ⟨ab, ao, spot⟩ := a
    have hspot : spot = none := by simpa [Addr.add] using World.cell?_spot (hcell 0 (by omega))
    subst hspot
    have hcj := hcell k (by omega)
    rw [Addr.add_lit] at hcj
    have e : zs.getD k 0 = zs[k]'(by omega) := by simp [List.getD, List.getElem?_eq_getElem (show k < zs.length by omega)]
    rw [List.getD_eq_getElem?_getD] at e hcj
    rw [e] at hcj
    refine ⟨ab, ao, rfl, World.block_lt_of_cell? _ _ hcj, ?_⟩
    rw [hcj, ← hv]
    rfl
theorem fieldsIt : Try.prog.underlying 47 = some (.struct #[⟨ "Id", 3, 0, false, "", "", 0⟩, ⟨ "Weight", 3, 1, false, "", "", 8⟩]) := by kernel_rfl
theorem itOne : oneCellFields Try.prog #[⟨ "Id", 3, 0, false, "", "", 0⟩, ⟨ "Weight", 3, 1, false, "", "", 8⟩] = true := by kernel_rfl
theorem itCells : Try.prog.cellsOf 47 = 2 := by kernel_rfl
set_option maxRecDepth 100000 in
theorem open_its {W : World} {base : Nat} {v : Value} {d : DataW H} {p : List MemPlace} (hval : Value.okWide Try.prog W .any base 41 v) (h : DataW.Trod enc Try.prog W 0 (fun _ => true) true 41 v d p) :
    ∃ (A : Option Addr) (cap : Nat) (ts : List It), v = .slice A ts.length cap ∧ ts.length ≤ maxLen ∧ ts.length ≤ cap ∧ cap ≤ maxLen ∧ WRds W A ts ∧ ∀ t ∈ ts, (Lit.int .i64 t.1).wf = true ∧ (Lit.int .i64 t.2).wf = true :=
  open_its_of Try.underlying41 fieldsIt itOne itCells Try.underlying3 Try.underlying3 hval h
end
end Go.Proofs.Ytcbecpgllebepaa.Straw
