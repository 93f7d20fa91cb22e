/-
  The document's own answers of package orset: what QJoin has at hand.
-/
import Derived.Test.YthebilmeehnkpaaOrRef3
import Derived.Deep.AppendLies
import Derived.Deep.RegionHeld3
namespace Go.Proofs.Ythebilmeehnkpaa.Ors
set_option linter.unusedVariables false
set_option linter.unusedSimpArgs false
open Go.RowKit Mem Gt
open Jump (Gave equalZ_c)

def intE : Enc Int 1 := ⟨fun z => [.int .i64 z], fun _ => rfl, fun x v hv => by simp at hv; subst hv; rfl⟩
theorem elInt : El 23 3 1 8 := El.of Try.underlying23 (by kernel_rfl)
theorem flat_int (l : List Int) : flat intE l = ints l := by
  induction l with
  | nil => rfl
  | cons a l ih => rw [flat_cons, ih]; rfl
section
variable {α : Type} {sz : Nat} {E : Enc α sz}
/-- 'append(v, x)' in a region that draws; where the answer lies is told. -/
theorem step_append_1 {t e : TypeId} {bytes : Nat} (L : El t e sz bytes) (h0 : 0 < sz) {ops : Array Oper} {o : Oper} {a : Act} {w : World} {K : Act → World → Prop} {Q : Exit → Act → World → Prop} {F : Prop} (hgd : o.guard = none) (s x : Operand)
    (ho : o.op = .call { callee := .builtin .append, args := #[s, x], argTypes := #[t, t] }) {B n b : Nat} {v : Value} {es : List α} {y : α} (hs : a.eval s = v) (hx : a.eval x = .slice (some ⟨b, 0, none⟩) 1 1)
    (hg : Tab E w B e v es) (hn : es.length = n) {cs : Array Value} (hcs : cs.toList = E.enc y) (hk : Known w b e cs) (hl1 : n + 1 ≤ maxLen) (hl : (n + 1) * bytes ≤ 140737488355328) (hB : B ≤ w.heap.size)
    (h : ∀ g c w', Hid (Tab E w' B e (.slice (some ⟨g, 0, none⟩) (n + 1) c) (es ++ [y])) → Hid (w.grownBy w' v.ownBlock) → Hid (v.ownBlock = some g ∨ g = w.heap.size) → K (a.put o.dst (.slice (some ⟨g, 0, none⟩) (n + 1) c)) w') :
    if Region.wanted o (yielded ops a.tmps) = true then Oper.wp Try.prog o a w K Q else F := by
  subst hn
  obtain ⟨i, hi, z, hz0, hz1, hz2, hz3⟩ := L.hi
  refine step_append_lies w hgd s x t ho B e i z sz bytes L.ht hi hz0 hz1 hz2 hz3 h0 v es.length (flat E es) hs hg ⟨b, 0, none⟩ 1 1 (E.enc y) hx (by rw [E.len, Nat.one_mul]) ?_ (E.one y) (by omega) hl1 hl hB w.heap.size rfl ?_
  · intro j u hj
    rw [← hcs] at hj
    have hj' : cs[j]? = some u := by simpa using hj
    rw [Addr.add_lit, Nat.zero_add, hk.cell j, hj']
  · intro g cap w' k1 k2 k3 _
    refine h g cap w' ?_ k2 k3
    unfold Tab Hid
    rw [List.length_append, flat_app, flat_one_el]
    exact k1
end
theorem known_grown {W V : World} {g : Nat} {t : TypeId} {cs : Array Value} {row : Option Nat} (h : Known W g t cs) (hg : W.grownBy V row) (hne : some g ≠ row) : Known V g t cs := (hg.block g h.lt hne).trans h
theorem reads_kept {W V : World} {A : Option Addr} {l : List Value} {r : Option Nat} (h : Reads W A l) (hg : W.grownBy V r) (hr : ∀ a, A = some a → r ≠ some a.block) : Reads V A l := fun k v hv => by
  obtain ⟨b, o, e, hb, hc⟩ := h k v hv
  refine ⟨b, o, e, Nat.lt_of_lt_of_le hb hg.size, ?_⟩
  exact hg.cell hc (fun e' => hr _ e e'.symm)
/-- The bag that is being made: its box, its tags, its numbers, all of the call's own. -/
structure QM (W7 wr : World) (OH OS : Option Addr) (no co ms cm : Nat) (out : List Tg) (s : List Int) : Prop where
  bel : Below W7.heap.size W7 wr
  box : Known wr W7.heap.size tB #[.slice OH no co, .slice OS ms cm]
  tab : Tab tgE wr (W7.heap.size + 1) tT (.slice OH no co) out
  zab : Tab intE wr (W7.heap.size + 1) 3 (.slice OS ms cm) s
  apart : ∀ g, (Value.slice OH no co).ownBlock = some g → (Value.slice OS ms cm).ownBlock ≠ some g
  lenO : out.length = no
  lenS : s.length = ms
/-- Tags that are read, apart from the bag that is being made. -/
structure QX (W7 wr : World) (v : Value) (X : Option Addr) (nx cx : Nat) (x : List Tg) : Prop where
  len : x.length = nx
  cap : nx ≤ cx
  rds : Reads wr X (flat tgE x)
  far : ∀ a, X = some a → W7.heap.size < a.block ∧ a.block < wr.heap.size ∧ v.ownBlock ≠ some a.block
section
variable {W7 wr w' : World} {OH OS : Option Addr} {no co ms cm : Nat} {out : List Tg} {s : List Int}
theorem QM.start (W7 : World) : QM W7 (W7.alloc (.cells #[.slice none 0 0, .slice none 0 0] tB)) none none 0 0 0 0 [] [] :=
  ⟨low_lit W7 _, Known.made _ _ _, Tab.nil _ _ _, Tab.nil _ _ _, fun g h => by simp [Value.ownBlock] at h, rfl, rfl⟩
theorem QM.later (h : QM W7 wr OH OS no co ms cm out s) (hb : Below wr.heap.size wr w') : QM W7 w' OH OS no co ms cm out s :=
  ⟨h.bel.trans (hb.mono h.bel.size), h.box.later hb, h.tab.later hb, h.zab.later hb, h.apart, h.lenO, h.lenS⟩
theorem QM.lt (h : QM W7 wr OH OS no co ms cm out s) : W7.heap.size + 1 ≤ wr.heap.size := h.box.lt
/-- A number more. -/
theorem QM.putS (h : QM W7 wr OH OS no co ms cm out s) {g c m' : Nat} {s' : List Int} (hg : wr.grownBy w' (Value.slice OS ms cm).ownBlock) (T : Tab intE w' (W7.heap.size + 1) 3 (.slice (some ⟨g, 0, none⟩) m' c) s') (hs : s'.length = m') (hl : (Value.slice OS ms cm).ownBlock = some g ∨ g = wr.heap.size) :
    QM W7 (w'.setCell ⟨W7.heap.size, 1, none⟩ (.slice (some ⟨g, 0, none⟩) m' c)) OH (some ⟨g, 0, none⟩) no co m' c out s' := by
  have hz := h.zab.lt
  have ht := h.tab.lt
  have hT := T.lt g rfl
  have hb : some W7.heap.size ≠ (Value.slice OS ms cm).ownBlock := fun e => by have := (hz _ e.symm).1; omega
  have ap : ∀ k, (Value.slice OH no co).ownBlock = some k → some k ≠ (Value.slice OS ms cm).ownBlock := fun k hk e => h.apart k hk e.symm
  refine ⟨(h.bel.grown hg h.bel.size (fun k hk => by have := (hz k hk).1; omega)).setCell (p := ⟨W7.heap.size, 1, none⟩) (Nat.le_refl _) _, (known_grown h.box hg hb).put 1 _, ?_, T.off (fun k hk => by
    have : k = g := by simpa [Value.ownBlock] using hk.symm
    subst this
    show k ≠ W7.heap.size
    omega) _, fun k hk e => ?_, h.lenO, hs⟩
  · refine (h.tab.kept hg ?_).off (fun k hk => by have := (ht k hk).1; show k ≠ W7.heap.size; omega) _
    cases e : (Value.slice OH no co).ownBlock with
    | none => exact .inl rfl
    | some k => exact .inr (ap k e)
  · have e' : g = k := by simpa [Value.ownBlock] using e
    subst e'
    rcases hl with hl | hl
    · exact h.apart g hk hl
    · have := (ht g hk).2; omega
/-- A tag more. -/
theorem QM.putH (h : QM W7 wr OH OS no co ms cm out s) {g c m' : Nat} {out' : List Tg} (hg : wr.grownBy w' (Value.slice OH no co).ownBlock) (T : Tab tgE w' (W7.heap.size + 1) tT (.slice (some ⟨g, 0, none⟩) m' c) out') (hs : out'.length = m') (hl : (Value.slice OH no co).ownBlock = some g ∨ g = wr.heap.size) :
    QM W7 (w'.setCell ⟨W7.heap.size, 0, none⟩ (.slice (some ⟨g, 0, none⟩) m' c)) (some ⟨g, 0, none⟩) OS m' c ms cm out' s := by
  have hz := h.zab.lt
  have ht := h.tab.lt
  have hT := T.lt g rfl
  have hb : some W7.heap.size ≠ (Value.slice OH no co).ownBlock := fun e => by have := (ht _ e.symm).1; omega
  refine ⟨(h.bel.grown hg h.bel.size (fun k hk => by have := (ht k hk).1; omega)).setCell (p := ⟨W7.heap.size, 0, none⟩) (Nat.le_refl _) _, (known_grown h.box hg hb).put 0 _, T.off (fun k hk => by
    have : k = g := by simpa [Value.ownBlock] using hk.symm
    subst this
    show k ≠ W7.heap.size
    omega) _, ?_, fun k hk e => ?_, hs, h.lenS⟩
  · refine (h.zab.kept hg ?_).off (fun k hk => by have := (hz k hk).1; show k ≠ W7.heap.size; omega) _
    cases e : (Value.slice OS ms cm).ownBlock with
    | none => exact .inl rfl
    | some k => exact .inr (fun e' => h.apart k e'.symm e)
  · have e' : g = k := by simpa [Value.ownBlock] using hk
    subst e'
    rcases hl with hl | hl
    · exact h.apart g hl e
    · have := (hz g e).2; omega
variable {v : Value} {X : Option Addr} {nx cx : Nat} {x : List Tg}
theorem QX.later (h : QX W7 wr v X nx cx x) (hb : Below wr.heap.size wr w') : QX W7 w' v X nx cx x :=
  ⟨h.len, h.cap, h.rds.below hb, fun a ha => ⟨(h.far a ha).1, Nat.lt_of_lt_of_le (h.far a ha).2.1 hb.size, (h.far a ha).2.2⟩⟩
theorem QX.putH (h : QX W7 wr (.slice OH no co) X nx cx x) {g c m' : Nat} (hg : wr.grownBy w' (Value.slice OH no co).ownBlock) (hl : (Value.slice OH no co).ownBlock = some g ∨ g = wr.heap.size) (u : Value) :
    QX W7 (w'.setCell ⟨W7.heap.size, 0, none⟩ u) (.slice (some ⟨g, 0, none⟩) m' c) X nx cx x := by
  refine ⟨h.len, h.cap, (reads_kept h.rds hg (fun a ha => (h.far a ha).2.2)).off (fun a ha => by have := (h.far a ha).1; show a.block ≠ W7.heap.size; omega) u, fun a ha => ?_⟩
  obtain ⟨h1, h2, h3⟩ := h.far a ha
  refine ⟨h1, by have := hg.size; simp [World.setCell]; omega, fun e => ?_⟩
  have e' : g = a.block := by simpa [Value.ownBlock] using e
  subst e'
  rcases hl with hl | hl
  · exact h3 hl
  · omega
theorem QX.head {t : Tg} {x' : List Tg} (h : QX W7 wr v X nx cx (t :: x')) : ∃ b o, X = some ⟨b, o, none⟩ ∧ b < wr.heap.size ∧ wr.cell? ⟨b, o, none⟩ = some (.int .i64 t.1) ∧ wr.cell? ⟨b, o + 1, none⟩ = some (.int .i64 t.2.1) ∧ wr.cell? ⟨b, o + 2, none⟩ = some (.int .i64 t.2.2) := by
  obtain ⟨b, o, e, hb, h0, h1, h2⟩ := tg_at h.rds (k := 0) rfl
  simp only [Nat.zero_mul, Nat.add_zero] at h0 h1 h2
  exact ⟨b, o, e, hb, h0, h1, h2⟩
theorem QX.tail {t : Tg} {x' : List Tg} {b o : Nat} (h : QX W7 wr v (some ⟨b, o, none⟩) nx cx (t :: x')) : QX W7 wr v (some ⟨b, o + 3, none⟩) (nx - 1) (cx - 1) x' := by
  have h1 := h.len
  have h2 := h.cap
  rw [List.length_cons] at h1
  refine ⟨by omega, by omega, ?_, fun a ha => ?_⟩
  · have := rds_drop (E := tgE) (by decide) h.rds 1
    simpa using this
  · injection ha with ha
    subst ha
    have := h.far ⟨b, o, none⟩ rfl
    exact this
theorem QX.tail0 {t : Tg} {x' : List Tg} (h : QX W7 wr v X nx 1 (t :: x')) : x' = [] ∧ QX W7 wr v X 0 0 ([] : List Tg) := by
  have h1 := h.len
  have h2 := h.cap
  rw [List.length_cons] at h1
  exact ⟨List.eq_nil_of_length_eq_zero (by omega), rfl, Nat.le_refl _, fun i v hv => by simp [flat] at hv, h.far⟩
end
end Go.Proofs.Ythebilmeehnkpaa.Ors
