/-
  Slices of structs of whatever type (each element told by a list of its cells): read, made by append, written over, brought in.
-/
import Derived.Test.YtdkgclgccicbeaaSl
import Derived.Deep.Fields
import Derived.Lib.SmallJoins
namespace Go.Proofs.Ytdkgclgccicbeaa.Gt
set_option linter.unusedVariables false
open Go.RowKit Mem

/-- An element's cells. -/
structure Enc (α : Type) (sz : Nat) where
  enc : α → List Value
  len : ∀ x, (enc x).length = sz
  one : ∀ x, ∀ v ∈ enc x, v.oneCell' = true
section
variable {α : Type} {sz : Nat} (E : Enc α sz)
def flat (l : List α) : List Value := l.flatMap E.enc
theorem flat_cons (x : α) (l : List α) : flat E (x :: l) = E.enc x ++ flat E l := by simp [flat]
theorem flat_app (a b : List α) : flat E (a ++ b) = flat E a ++ flat E b := by simp [flat]
theorem flat_one_el (x : α) : flat E [x] = E.enc x := by simp [flat]
theorem flat_len (l : List α) : (flat E l).length = l.length * sz := by
  induction l with
  | nil => simp [flat]
  | cons x l ih => rw [flat_cons, List.length_append, E.len, ih, List.length_cons, Nat.add_mul, Nat.one_mul, Nat.add_comm]
theorem flat_one (l : List α) : ∀ v ∈ flat E l, v.oneCell' = true := by
  intro v hv
  obtain ⟨x, _, h⟩ := List.mem_flatMap.1 hv
  exact E.one x v h
theorem flat_at {l : List α} {k : Nat} {x : α} (h : l[k]? = some x) {j : Nat} {v : Value} (hj : (E.enc x)[j]? = some v) : (flat E l)[k * sz + j]? = some v := by
  induction l generalizing k with
  | nil => simp at h
  | cons y l ih =>
    have hlt : j < sz := by have := (List.getElem?_eq_some_iff.1 hj).1; rwa [E.len] at this
    cases k with
    | zero =>
      simp at h
      subst h
      rw [flat_cons, Nat.zero_mul, Nat.zero_add, List.getElem?_append_left (by rw [E.len]; exact hlt)]
      exact hj
    | succ k =>
      rw [flat_cons, List.getElem?_append_right (by rw [E.len, Nat.add_mul, Nat.one_mul]; omega), E.len, show (k + 1) * sz + j - sz = k * sz + j by rw [Nat.add_mul, Nat.one_mul]; omega]
      exact ih (by simpa using h)
theorem flat_from {l : List α} (h0 : 0 < sz) {i : Nat} {v : Value} (h : (flat E l)[i]? = some v) : ∃ k j x, i = k * sz + j ∧ l[k]? = some x ∧ (E.enc x)[j]? = some v := by
  have hi := (List.getElem?_eq_some_iff.1 h).1
  rw [flat_len] at hi
  have hk : i / sz < l.length := Nat.div_lt_of_lt_mul (by rw [Nat.mul_comm]; exact hi)
  have hj : i % sz < sz := Nat.mod_lt _ h0
  have e : i = i / sz * sz + i % sz := by rw [Nat.mul_comm]; exact (Nat.div_add_mod i sz).symm
  obtain ⟨x, hx⟩ : ∃ x, l[i / sz]? = some x := ⟨_, List.getElem?_eq_getElem hk⟩
  obtain ⟨u, hu⟩ : ∃ u, (E.enc x)[i % sz]? = some u := ⟨_, List.getElem?_eq_getElem (by rw [E.len]; exact hj)⟩
  have := flat_at E hx hu
  rw [← e, h] at this
  injection this with this
  exact ⟨_, _, x, e, hx, by rw [hu, this]⟩
/-- What an address leads to. -/
theorem rds_at {W : World} {A : Option Addr} {l : List α} (h0 : 0 < sz) (h : Reads W A (flat E l)) {k : Nat} {x : α} (hk : l[k]? = some x) :
    ∃ b o, A = some ⟨b, o, none⟩ ∧ b < W.heap.size ∧ ∀ j v, (E.enc x)[j]? = some v → W.cell? ⟨b, o + k * sz + j, none⟩ = some v := by
  obtain ⟨v0, hv0⟩ : ∃ v, (E.enc x)[0]? = some v := ⟨_, List.getElem?_eq_getElem (by rw [E.len]; exact h0)⟩
  obtain ⟨b, o, e, hb, _⟩ := h _ _ (flat_at E hk hv0)
  refine ⟨b, o, e, hb, fun j v hj => ?_⟩
  obtain ⟨b', o', e', _, hc⟩ := h _ _ (flat_at E hk hj)
  rw [e] at e'
  injection e' with e'
  injection e' with e1 e2
  subst e1 e2
  rw [Nat.add_assoc]
  exact hc
theorem rds_take {W : World} {A : Option Addr} {l : List α} (h0 : 0 < sz) (h : Reads W A (flat E l)) (n : Nat) : Reads W A (flat E (l.take n)) := fun i v hv => by
  obtain ⟨k, j, x, e, hx, hj⟩ := flat_from E h0 hv
  rw [List.getElem?_take] at hx
  split at hx
  · rw [e]; exact h _ _ (flat_at E hx hj)
  · cases hx
theorem rds_drop {W : World} {b o : Nat} {l : List α} (h0 : 0 < sz) (h : Reads W (some ⟨b, o, none⟩) (flat E l)) (n : Nat) : Reads W (some ⟨b, o + n * sz, none⟩) (flat E (l.drop n)) := fun i v hv => by
  obtain ⟨k, j, x, e, hx, hj⟩ := flat_from E h0 hv
  rw [List.getElem?_drop] at hx
  obtain ⟨b', o', e', h2, h3⟩ := h _ _ (flat_at E hx hj)
  injection e' with e'
  injection e' with e1 e2
  subst e1 e2
  refine ⟨b, o + n * sz, rfl, h2, ?_⟩
  rw [e, show o + n * sz + (k * sz + j) = o + ((n + k) * sz + j) by rw [Nat.add_mul]; omega]
  exact h3

/-- v is a slice of the call's own (block B or later) of the elements. -/
def Tab (W : World) (B : Nat) (e : TypeId) (v : Value) (l : List α) : Prop := W.ownsRow B e sz v l.length (flat E l)
variable {E}
section
variable {W V : World} {B : Nat} {e : TypeId} {v : Value} {l : List α}
theorem Tab.nil (W : World) (B : Nat) (e : TypeId) : Tab E W B e (.slice none 0 0) [] := World.ownsRow_nil W B e sz
theorem Tab.form (h : Tab E W B e v l) : ∃ A cap, v = .slice A l.length cap ∧ l.length ≤ cap ∧ cap ≤ maxLen := by
  rcases h.2 with ⟨rfl, hn⟩ | ⟨g, cap, cur, rfl, _, _, h1, h2, _⟩
  · exact ⟨none, 0, by rw [hn], by omega, by simp [maxLen]⟩
  · exact ⟨_, cap, rfl, h1, h2⟩
theorem Tab.lt (h : Tab E W B e v l) : ∀ k, v.ownBlock = some k → B ≤ k ∧ k < W.heap.size := World.ownsRow.lt h
theorem Tab.kept {row : Option Nat} (h : Tab E W B e v l) (hg : W.grownBy V row) (hne : v.ownBlock = none ∨ v.ownBlock ≠ row) : Tab E V B e v l := World.ownsRow.kept h hg hne
theorem Tab.later (h : Tab E W B e v l) (hb : Below W.heap.size W V) : Tab E V B e v l :=
  World.ownsRow.kept (row := none) h ⟨hb.os, hb.tape, hb.output, hb.size, fun k hk _ => hb.block k hk⟩ (by cases hv : v.ownBlock <;> simp)
theorem Tab.alloc (h : Tab E W B e v l) (o : Obj) : Tab E (W.alloc o) B e v l := World.ownsRow.alloc h o
theorem Tab.drew (h : Tab E W B e v l) : Tab E W.drew B e v l := h
theorem Tab.drewN (h : Tab E W B e v l) (n : Nat) : Tab E (W.drewN n) B e v l := h
theorem Tab.down {B' : Nat} (h : Tab E W B e v l) (hb : B' ≤ B) : Tab E W B' e v l := by
  refine ⟨h.1, ?_⟩
  rcases h.2 with h1 | ⟨g, cap, cur, h1, h2, h3⟩
  · exact .inl h1
  · exact .inr ⟨g, cap, cur, h1, Nat.le_trans hb h2, h3⟩
theorem Tab.head {A : Option Addr} {n cap : Nat} (h : Tab E W B e (.slice A n cap) l) (h0 : 0 < l.length) : ∃ g, A = some ⟨g, 0, none⟩ ∧ n = l.length ∧ B ≤ g ∧ g < W.heap.size := by
  obtain ⟨A', c', e, _, _⟩ := h.form
  injection e with e1 e2 e3
  rcases h.2 with ⟨e, hn⟩ | ⟨g, cap', cur, e, hb, hg, _⟩
  · omega
  · injection e with e4
    subst e4
    exact ⟨g, rfl, e2, hb, (Array.getElem?_eq_some_iff.1 hg).1⟩
theorem Tab.reads {A : Option Addr} {n cap : Nat} (h : Tab E W B e (.slice A n cap) l) : Reads W A (flat E l) := fun k u hu => by
  have hlt := (List.getElem?_eq_some_iff.1 hu).1
  rw [flat_len] at hlt
  have hpos : 0 < l.length := by
    rcases Nat.eq_zero_or_pos l.length with h0 | h0
    · rw [h0, Nat.zero_mul] at hlt; omega
    · exact h0
  obtain ⟨g, rfl, hn, _, hg⟩ := h.head hpos
  subst hn
  exact ⟨g, 0, rfl, hg, by rw [Nat.zero_add, World.ownsRow.cellAt h k hlt, hu]⟩
theorem Tab.free {g n cap : Nat} (h : Tab E W B e (.slice (some ⟨g, 0, none⟩) n cap) l) (hn : n = l.length) (j : Nat) : W.frozen? ⟨g, j, none⟩ = false := by
  subst hn; exact World.ownsRow.frozenAt h j
theorem Tab.off (h : Tab E W B e v l) {p : Addr} (hp : ∀ g, v.ownBlock = some g → g ≠ p.block) (u : Value) : Tab E (W.setCell p u) B e v l :=
  World.ownsRow.kept (row := some p.block) h ⟨rfl, rfl, rfl, by simp [World.setCell], fun b hb hr => Below.heap_setCell W p u b (fun e => hr (congrArg some e))⟩ (by
    cases hv : v.ownBlock with
    | none => exact .inl rfl
    | some g => exact .inr (fun e => hp g hv (by injection e)))
theorem Tab.below {B0 : Nat} {w0 : World} (h : Tab E W B e v l) (hg : W.grownBy V v.ownBlock) (hb : Below B0 w0 W) (hB : B0 ≤ B) (hs : B0 ≤ W.heap.size) : Below B0 w0 V :=
  hb.grown hg hs fun k hk => Nat.le_trans hB (h.lt k hk).1
end
/-- Slices of type t have such elements, of type e. -/
structure El (t e : TypeId) (sz bytes : Nat) : Prop where
  ht : Try.prog.underlying t = some (.slice e)
  hi : ∃ i, Try.prog.info? e = some i ∧ ∃ z, i.zero = some z ∧ i.size = sz ∧ i.bytes = bytes ∧ z.cells.size = sz
theorem El.of {t e : TypeId} {sz bytes : Nat} (ht : Try.prog.underlying t = some (.slice e)) (h : (Try.prog.info? e).map (fun i => (i.zero.map (fun z => z.cells.size), i.size, i.bytes)) = some (some sz, sz, bytes)) : El t e sz bytes := by
  refine ⟨ht, ?_⟩
  cases hi : Try.prog.info? e with
  | none => rw [hi] at h; cases h
  | some i =>
    rw [hi] at h
    simp only [Option.map_some, Option.some.injEq, Prod.mk.injEq] at h
    cases hz : i.zero with
    | none => rw [hz] at h; cases h.1
    | some z =>
      rw [hz] at h
      simp only [Option.map_some, Option.some.injEq] at h
      exact ⟨i, rfl, z, hz, h.2.1, h.2.2, h.1⟩
/-- 'append(v, T{..})'. -/
theorem wpList_append_g {t e : TypeId} {bytes : Nat} (L : El t e sz bytes) {ops : Array Oper} {rest : List Oper} {o : Oper} {a : Act} {Q : Exit → Act → World → Prop} (hgd : o.guard = none) (s x : Operand)
    (ho : o.op = .call { callee := .builtin .append, args := #[s, x], argTypes := #[t, t] }) {w : World} {cs : Array Value} (y : α) (hcs : cs.toList = E.enc y) (h0 : 0 < sz) {B : Nat} {v : Value} {l : List α} {n : Nat} (hs : a.eval s = v)
    (hx : a.eval x = .slice (some ⟨w.heap.size, 0, none⟩) 1 1) (hg : Tab E w B e v l) (hn : l.length = n) (hl1 : n + 1 ≤ maxLen) (hl2 : (n + 1) * bytes ≤ 140737488355328) (hB : B ≤ w.heap.size)
    (h : ∀ A c w', Hid (Tab E w' B e (.slice A (n + 1) c) (l ++ [y])) → Hid ((w.alloc (.cells cs e)).grownBy w' v.ownBlock) → Hid ((Value.slice A (n + 1) c).ownBlock = v.ownBlock ∨ (Value.slice A (n + 1) c).ownBlock = some (w.heap.size + 1)) → wpList Try.prog ops Q rest (a.put o.dst (.slice A (n + 1) c)) w') :
    wpList Try.prog ops Q (o :: rest) a (w.alloc (.cells cs e)) := by
  subst hn
  obtain ⟨i, hi, z, hz0, hz1, hz2, hz3⟩ := L.hi
  refine wpList_append_own_at (w := w.alloc (.cells cs e)) hgd s x t ho B e i z sz bytes L.ht hi hz0 hz1 hz2 hz3 h0 v l.length (flat E l) hs (World.ownsRow.alloc hg _) ⟨w.heap.size, 0, none⟩ 1 1 (E.enc y) hx (by rw [E.len, Nat.one_mul]) ?_ (E.one y) (by omega) hl2 (by simp; omega) ?_
  · intro j u hj
    have kn := Known.made w e cs
    rw [← hcs] at hj
    have hj' : cs[j]? = some u := by simpa using hj
    rw [Addr.add_lit, Nat.zero_add, kn.cell j, hj']
  · intro v' w' k1 g2 _ g3
    have hT : Tab E w' B e v' (l ++ [y]) := by
      unfold Tab
      rw [List.length_append, flat_app, flat_one_el]
      exact k1
    obtain ⟨A, c, hv, _, _⟩ := hT.form
    rw [List.length_append] at hv
    have hv : v' = .slice A (l.length + 1) c := hv
    subst hv
    have g4 : (Value.slice A (l.length + 1) c).ownBlock = v.ownBlock ∨ (Value.slice A (l.length + 1) c).ownBlock = some (w.heap.size + 1) := by simpa using g3
    exact h A c w' hT g2 g4
end

/-! ### What came in -/
section
open Go.ChangeShapes Go.WideShapes Go.Deep
variable {H : Type} {enc : TypeId × Value → H} {P : Program}
/-- The raw cells of an element whose fields are integers of the kinds ks. -/
def raw (ks : List IntKind) (r : List Int) : List Value := List.zipWith Value.int ks r
def RawOk (ks : List IntKind) (r : List Int) : Prop := r.length = ks.length ∧ ∀ (j : Nat) (k : IntKind) (z : Int), ks[j]? = some k → r[j]? = some z → (Lit.int k z).wf = true
theorem open_g {α : Type} [Inhabited α] {sz : Nat} (E : Enc α sz) (f : List Int → α) (ks : List IntKind) (hks : ks.length = sz) (h0 : 0 < sz) (hf : ∀ r, RawOk ks r → E.enc (f r) = raw ks r)
    {t e : TypeId} {fs : Array Field} {bytes : Nat} (ht : P.underlying t = some (.slice e)) (hs : P.underlying e = some (.struct fs)) (hone : oneCellFields P fs = true) (hC : P.cellsOf e = sz) (hby : P.bytesOf e = bytes) (hfs : fs.size = sz)
    (hk : ∀ (j : Nat) (g : Field), fs[j]? = some g → ∃ k, ks[j]? = some k ∧ P.underlying g.type = some (.int k))
    {W : World} {fuel : Nat} {v : Value} {x : DataW H × List MemPlace} (hD : DataW.trod enc P W 0 (fun _ => true) true fuel t [v] = some x) (hw : ∀ n ∈ x.1.weights P t, n ≤ reachBytes) :
    ∃ (A : Option Addr) (cap : Nat) (l : List α), v = .slice A l.length cap ∧ l.length ≤ cap ∧ cap * bytes ≤ reachBytes ∧ (∀ y ∈ l, ∃ r, RawOk ks r ∧ y = f r) ∧ Reads W A (flat E l) := by
  rcases Go.Deep.open_slice ht hD with ⟨hcs, hx⟩ | ⟨a, len, cap, m, n, D, Pl, hcs, _, hl, hm, hmm, hx, hcell⟩
  · simp at hcs
    subst hcs
    exact ⟨none, 0, [], rfl, by simp, by simp, fun y hy => by simp at hy, Reads.nil⟩
  · simp at hcs
    subst hcs
    simp only [if_true] at hmm
    subst hmm
    subst hx
    rw [hC] at hcell
    have hcap : m * bytes ≤ reachBytes := by
      have := hw (((List.range len).map D).length * P.bytesOf e + ((List.range (m - len)).map fun j => D (len + j)).length * P.bytesOf e) (by simp [DataW.weights, ht, Nat.add_mul])
      rw [hby] at this
      simp only [List.length_map, List.length_range] at this
      rw [← Nat.add_mul] at this
      rwa [show len + (m - len) = m by omega] at this
    obtain ⟨R, hR⟩ := Go.Deep.choose_lt (α := List Int) (n := len) (p := fun i r => RawOk ks r ∧ ∀ j u, (raw ks r)[j]? = some u → W.cell? ((a.add (i * sz)).add j) = some u) (fun i hi => by
      obtain ⟨cs', hcs', htr⟩ := hcell i (by omega)
      obtain ⟨ys, n', _, hy, hlen, hyl, hg⟩ := DataW.trod_struct hs htr
      obtain ⟨_, hsz, hat⟩ := World.cells?_some hcs'
      obtain ⟨q, hq⟩ := Go.Deep.choose_lt (α := Int) (n := sz) (p := fun j z => ∃ k, ks[j]? = some k ∧ cs'[j]? = some (.int k z) ∧ (Lit.int k z).wf = true) (fun j hj => by
        obtain ⟨g, hgj⟩ : ∃ g, fs[j]? = some g := ⟨_, Array.getElem?_eq_getElem (by omega)⟩
        obtain ⟨ho, hc1⟩ := hone_of hone j g hgj
        obtain ⟨k, hkj, hu⟩ := hk j g hgj
        have h1 := hg j g hgj
        rw [ho, hc1, Go.Deep.take1_drop cs' j (.int k 0) (by omega)] at h1
        obtain ⟨y, hy'⟩ : ∃ y, ys[j]? = some y := ⟨_, List.getElem?_eq_getElem (by omega)⟩
        rw [hy'] at h1
        obtain ⟨z, hz, _, hwf⟩ := DataW.trod_int hu h1
        refine ⟨z, k, hkj, ?_, hwf⟩
        have hjl : j < cs'.length := by omega
        rw [List.getElem?_eq_getElem hjl]
        injection hz with hz
        rw [List.getD_eq_getElem?_getD, List.getElem?_eq_getElem hjl] at hz
        exact congrArg some hz)
      refine ⟨(List.range sz).map q, ⟨by simp [hks], fun j k z hkj hz => ?_⟩, fun j u hu => ?_⟩
      · have hj : j < sz := by rw [← hks]; exact (List.getElem?_eq_some_iff.1 hkj).1
        obtain ⟨k', h1, _, h3⟩ := hq j hj
        rw [hkj] at h1
        injection h1 with h1
        subst h1
        rw [List.getElem?_map, List.getElem?_range hj] at hz
        simp at hz
        rw [← hz]; exact h3
      · unfold raw at hu
        rw [List.getElem?_zipWith] at hu
        have hj : j < sz := by
          rcases Nat.lt_or_ge j sz with h | h
          · exact h
          · rw [List.getElem?_eq_none (l := ks) (by omega)] at hu; simp at hu
        obtain ⟨k, h1, h2, _⟩ := hq j hj
        rw [h1, List.getElem?_map, List.getElem?_range hj] at hu
        simp at hu
        rw [hat j hj, h2, hu])
    refine ⟨some a, m, (List.range len).map (fun i => f (R i)), by simp, by simpa using hl, hcap, fun y hy => ?_, fun i u hu => ?_⟩
    · obtain ⟨i, hi, rfl⟩ := List.mem_map.1 hy
      exact ⟨R i, (hR i (List.mem_range.1 hi)).1, rfl⟩
    · obtain ⟨k, j, y, e, hy, hj⟩ := flat_from E h0 hu
      have hk : k < len := by
        rcases Nat.lt_or_ge k len with h | h
        · exact h
        · rw [List.getElem?_eq_none (by simp; omega)] at hy; cases hy
      rw [List.getElem?_map, List.getElem?_range hk] at hy
      simp at hy
      obtain ⟨h1, h2⟩ := hR k hk
      rw [← hy, hf _ h1] at hj
      have hc := h2 j u hj
      obtain ⟨ab, ao, spot⟩ := a
      obtain ⟨g1, g2⟩ := hR 0 (by omega)
      have hl0 : (raw ks (R 0)).length = sz := by unfold raw; rw [List.length_zipWith, g1.1, hks]; exact Nat.min_self _
      have hc0 := g2 0 _ (List.getElem?_eq_getElem (by rw [hl0]; exact h0))
      have hspot : spot = none := by simpa [Addr.add] using World.cell?_spot hc0
      subst hspot
      rw [Addr.add_lit, Addr.add_lit] at hc
      exact ⟨ab, ao, rfl, World.block_lt_of_cell? _ _ hc, by rw [e, ← Nat.add_assoc]; exact hc⟩
end
end Go.Proofs.Ytdkgclgccicbeaa.Gt
