/-
  The document's own answer on the ring of nodes: GMake.
-/
import Derived.Test.YtpnfcjodjgbdbaaRgApp
import Derived.Test.YtpnfcjodjgbdbaaRgG
import Derived.Test.YtpnfcjodjgbdbaaRgRef
import Derived.Test.YtpnfcjodjgbdbaaBigOne
namespace Go.Proofs.Ytpnfcjodjgbdbaa.Ring
set_option linter.unusedVariables false
set_option linter.unusedSimpArgs false
open Go.RowKit Mem

/-! ### One token put in its place -/
/-- The tokens while one is put in its place: l with a hole at k. -/
def hole (l : List Tk) (k : Nat) (j : Tk) : List Tk := l.take k ++ j :: l.drop k
theorem hole_len (l : List Tk) {k : Nat} (j : Tk) (h : k ≤ l.length) : (hole l k j).length = l.length + 1 := by
  unfold hole; simp; omega
theorem hole_end (l : List Tk) (t : Tk) : l ++ [t] = hole l l.length t := by unfold hole; simp
theorem hole_set (l : List Tk) {k : Nat} (j t : Tk) (h : k ≤ l.length) : (hole l k j).set k t = hole l k t := by
  unfold hole
  rw [List.set_append_right _ _ (by simp; omega)]
  simp [Nat.min_eq_left h]
theorem hole_prev (l : List Tk) {k : Nat} (j : Tk) (h : k + 1 ≤ l.length) {y : Tk} (hy : l[k]? = some y) : (hole l (k + 1) j)[k]? = some y ∧ (hole l (k + 1) j).set (k + 1) y = hole l k y := by
  refine ⟨?_, ?_⟩
  · unfold hole
    rw [List.getElem?_append_left (by simp; omega), List.getElem?_take_of_lt (by omega)]; exact hy
  · rw [hole_set l j y h]
    unfold hole
    obtain ⟨h1, rfl⟩ := List.getElem?_eq_some_iff.1 hy
    rw [List.take_succ_eq_append_getElem h1, List.drop_eq_getElem_cons h1, List.append_assoc]; rfl
theorem hole_done {xs l : List Tk} {t j : Tk} {k : Nat} (hs : l = srt xs) (hk : k ≤ l.length) (hlo : ∀ a, l[k - 1]? = some a → 0 < k → ltB t a = false) (hhi : ∀ b, l[k]? = some b → ltB t b = true) : (hole l k j).set k t = srt (xs ++ [t]) := by
  rw [hole_set l j t hk]; exact srt_insert hs hk hlo hhi
/-- All from k on come behind t. -/
def Behind (l : List Tk) (k : Nat) (t : Tk) : Prop := ∀ b, l[k]? = some b → ltB t b = true
theorem behind_end (l : List Tk) (t : Tk) : Behind l l.length t := fun b h => by rw [List.getElem?_eq_none (Nat.le_refl _)] at h; cases h

theorem tok_val (x : Int) (j : Nat) : tok x j = (Mix.one (Words.add (Mix.one (UInt64.ofNat x.toNat)) (UInt64.ofNat j)), x) := rfl
theorem aone_i (x : Int) (h0 : 0 ≤ x) (h1 : x ≤ 1099511627776) (V : World) :
    Calls Try.prog 31 #[.int .u64 x] V (Gave (.int .u64 (Mix.one (UInt64.ofNat x.toNat)).toNat) V) := by
  have h := Big.aOne_c (UInt64.ofNat x.toNat) V
  have e1 : ((UInt64.ofNat x.toNat).toNat : Int) = x := by rw [UInt64.toNat_ofNat', Nat.mod_eq_of_lt (by omega)]; omega
  rw [e1] at h
  exact h
theorem setc_grown {W : World} {p : Addr} (u : Value) : W.grownBy (W.setCell p u) (some p.block) :=
  ⟨rfl, rfl, rfl, by simp [World.setCell], fun b hb hr => Below.heap_setCell W p u b (fun e => hr (congrArg some e))⟩
set_option maxRecDepth 100000 in
theorem wpList_append_tk2 {ops : Array Oper} {rest : List Oper} {o : Oper} {a : Act} {Q : Exit → Act → World → Prop} (hgd : o.guard = none) (s x : Operand)
    (ho : o.op = .call { callee := .builtin .append, args := #[s, x], argTypes := #[23, 23] }) {w : World} {z1 z2 : Int} (t : Tk) (hz1 : z1 = (t.1.toNat : Int)) (hz2 : z2 = t.2) {B : Nat} {v : Value} {es : List Tk} {n : Nat} (hs : a.eval s = v)
    {sz : Nat} (hx : a.eval x = .slice (some ⟨sz, 0, none⟩) 1 1) (hsz : w.heap.size = sz) (hg : TTab w B v es) (hn : es.length = n) (hl2 : (n + 1) * 16 ≤ 140737488355328) (hB : B ≤ w.heap.size) {B0 : Nat} {w0 : World} (hb : Below B0 w0 w) (hB0 : B0 ≤ B)
    (h : ∀ g c w', Hid (TTab w' B (.slice (some ⟨g, 0, none⟩) (n + 1) c) (es ++ [t])) → Hid ((w.alloc (.cells #[.int .u64 z1, .int .i64 z2] 31)).grownBy w' v.ownBlock) → Hid (v.ownBlock = some g ∨ g = w.heap.size + 1) → Hid (Below B0 w0 w') → wpList Try.prog ops Q rest (a.put o.dst (.slice (some ⟨g, 0, none⟩) (n + 1) c)) w') :
    wpList Try.prog ops Q (o :: rest) a (w.alloc (.cells #[.int .u64 z1, .int .i64 z2] 31)) := by
  subst hsz
  subst hn hz1 hz2
  obtain ⟨i, hi, z, hz0, hz1, hz2, hz3⟩ := info_tk
  refine wpList_append_own_at (w := w.alloc (.cells #[.int .u64 t.1.toNat, .int .i64 t.2] 31)) hgd s x 23 ho B 31 i z 2 16 Try.underlying23 hi hz0 hz1 hz2 hz3 (by decide) v es.length (flat es) hs (World.ownsRow.alloc hg _) ⟨w.heap.size, 0, none⟩ 1 1 [.int .u64 t.1.toNat, .int .i64 t.2] hx rfl ?_ ?_ (by unfold maxLen; omega) hl2 (by simp; omega) ?_
  · intro j u' hj
    have kn := Known.made w 31 #[.int .u64 t.1.toNat, .int .i64 t.2]
    rcases j with _ | _ | j
    · simp at hj; subst hj
      rw [show (⟨w.heap.size, 0, none⟩ : Addr).add 0 = ⟨w.heap.size, 0, none⟩ from rfl, kn.cell 0]; rfl
    · simp at hj; subst hj
      rw [show (⟨w.heap.size, 0, none⟩ : Addr).add 1 = ⟨w.heap.size, 1, none⟩ from rfl, kn.cell 1]; rfl
    · simp at hj
  · intro u' hu'
    simp at hu'
    rcases hu' with rfl | rfl <;> rfl
  · intro v' w' k1 g2 _ g4
    have hT : TTab w' B v' (es ++ [t]) := by
      unfold TTab
      rw [List.length_append, flat_app]
      exact k1
    obtain ⟨A, c, hv, _, _⟩ := hT.form
    rw [List.length_append] at hv
    have hv : v' = .slice A (es.length + 1) c := hv
    subst hv
    obtain ⟨g, rfl, _, _, _⟩ := hT.head (by simp)
    refine h g c w' hT g2 ?_ ((hb.alloc (Nat.le_trans hB0 hB) _).grown g2 (by simp; omega) fun k hk => Nat.le_trans hB0 (hg.lt k hk).1)
    rcases g4 with g4 | g4
    · exact show _ ∨ _ from .inl g4.symm
    · refine show _ ∨ _ from .inr ?_
      have : some g = some ((w.alloc (.cells #[.int .u64 t.1.toNat, .int .i64 t.2] 31)).heap.size) := g4
      injection this with this
      simpa using this

theorem Grows.typed' {W : World} {B : Nat} {v : Value} {es : List Tk} (h : TTab W B v es) : ∀ g, v.ownBlock = some g → ∃ cur, W.heap[g]? = some (.cells cur 31 (0, 0)) := by
  intro g hg
  rcases h.2 with ⟨rfl, _⟩ | ⟨g', cap, cur, rfl, _, h1, _⟩
  · simp [Value.ownBlock] at hg
  · simp [Value.ownBlock] at hg
    subst hg
    exact ⟨cur, h1⟩
/-- What stands while a token t is put in its place: l with a hole at k, in block g2; t in a box bx; the set at g. -/
def HAt (W wr : World) (g bx g2 q c : Nat) (l : List Tk) (t : Tk) (S : List Int) (k : Nat) : Prop :=
  ∃ junk, k ≤ q ∧ l.length = q ∧ TTab wr W.heap.size (.slice (some ⟨g2, 0, none⟩) (q + 1) c) (hole l k junk) ∧ Behind l k t ∧ wr.cell? ⟨bx, 0, none⟩ = some (.int .u64 t.1.toNat) ∧ wr.cell? ⟨bx, 1, none⟩ = some (.int .i64 t.2) ∧ bx ≠ g2 ∧ IntSet wr g S ∧ Below W.heap.size W wr
section
variable {W wr V : World} {g bx g2 q c k : Nat} {l : List Tk} {t : Tk} {S : List Int}
theorem HAt.later (h : HAt W wr g bx g2 q c l t S k) (hb : Below wr.heap.size wr V) : HAt W V g bx g2 q c l t S k := by
  obtain ⟨junk, h1, h2, h3, h4, h5, h6, h7, h8, h9⟩ := h
  exact ⟨junk, h1, h2, h3.later hb, h4, (hb.cell (p := ⟨bx, 0, none⟩) (World.block_lt_of_cell? _ _ h5)).trans h5, (hb.cell (p := ⟨bx, 1, none⟩) (World.block_lt_of_cell? _ _ h6)).trans h6, h7, h8.later hb, h9.trans (hb.mono h9.size)⟩
theorem HAt.box (h : HAt W wr g bx g2 q c l t S k) : wr.cell? ⟨bx, 0, none⟩ = some (.int .u64 t.1.toNat) ∧ wr.cell? ⟨bx, 1, none⟩ = some (.int .i64 t.2) := by
  obtain ⟨junk, h1, h2, h3, h4, h5, h6, _⟩ := h; exact ⟨h5, h6⟩
theorem HAt.here (h : HAt W wr g bx g2 q c l t S k) : ∃ y : Tk, wr.cell? ⟨g2, k * 2, none⟩ = some (.int .u64 y.1.toNat) ∧ wr.cell? ⟨g2, k * 2 + 1, none⟩ = some (.int .i64 y.2) ∧ wr.frozen? ⟨g2, k * 2, none⟩ = false ∧ wr.frozen? ⟨g2, k * 2 + 1, none⟩ = false := by
  obtain ⟨junk, h1, h2, h3, _⟩ := h
  have hl : (hole l k junk).length = q + 1 := by rw [hole_len l junk (by omega), h2]
  obtain ⟨b, o, e, _, c0, c1⟩ := h3.rds.tk (k := k) (by omega)
  injection e with e
  injection e with e1 e2
  subst e1 e2
  rw [Nat.zero_add] at c0 c1
  exact ⟨_, c0, c1, h3.free hl.symm _, h3.free hl.symm _⟩
theorem HAt.prev {m : Nat} (h : HAt W wr g bx g2 q c l t S (m + 1)) : ∃ y : Tk, l[m]? = some y ∧ wr.cell? ⟨g2, m * 2, none⟩ = some (.int .u64 y.1.toNat) ∧ wr.cell? ⟨g2, m * 2 + 1, none⟩ = some (.int .i64 y.2) := by
  obtain ⟨junk, h1, h2, h3, _⟩ := h
  have hy : l[m]? = some l[m] := List.getElem?_eq_getElem (by omega)
  obtain ⟨b, o, e, _, c0, c1⟩ := h3.rds m _ (hole_prev l junk (by omega) hy).1
  injection e with e
  injection e with e1 e2
  subst e1 e2
  rw [Nat.zero_add] at c0 c1
  exact ⟨_, hy, c0, c1⟩
theorem put2_kept {p0 p1 : Addr} {a : Addr} {u v w : Value} (h0 : a.block ≠ p0.block) (h1 : a.block ≠ p1.block) (h : wr.cell? a = some w) : ((wr.setCell p0 u).setCell p1 v).cell? a = some w := by
  rw [World.cell?_setCell_other _ _ _ _ (fun e => h1 (by rw [e])), World.cell?_setCell_other _ _ _ _ (fun e => h0 (by rw [e]))]; exact h
theorem HAt.put (h : HAt W wr g bx g2 q c l t S k) (y : Tk) : TTab ((wr.setCell ⟨g2, k * 2, none⟩ (.int .u64 y.1.toNat)).setCell ⟨g2, k * 2 + 1, none⟩ (.int .i64 y.2)) W.heap.size (.slice (some ⟨g2, 0, none⟩) (q + 1) c) (hole l k y) ∧
    IntSet ((wr.setCell ⟨g2, k * 2, none⟩ (.int .u64 y.1.toNat)).setCell ⟨g2, k * 2 + 1, none⟩ (.int .i64 y.2)) g S ∧ Below W.heap.size W ((wr.setCell ⟨g2, k * 2, none⟩ (.int .u64 y.1.toNat)).setCell ⟨g2, k * 2 + 1, none⟩ (.int .i64 y.2)) := by
  obtain ⟨junk, h1, h2, h3, h4, h5, h6, h7, h8, h9⟩ := h
  have hl : (hole l k junk).length = q + 1 := by rw [hole_len l junk (by omega), h2]
  have hp := h3.put hl.symm (k := k) (by omega) y
  rw [hole_set l junk y (by omega)] at hp
  have hg2 : W.heap.size ≤ g2 := (h3.lt g2 rfl).1
  have hne : some g ≠ some g2 := fun e => by
    injection e with e
    obtain ⟨cur, hc⟩ := Grows.typed' h3 g2 rfl
    rw [← e] at hc
    exact set_cells h8 hc
  exact ⟨hp, (h8.kept (setc_grown _) hne).kept (setc_grown _) hne, (h9.setCell hg2 _).setCell hg2 _⟩
theorem HAt.step {m : Nat} (h : HAt W wr g bx g2 q c l t S (m + 1)) {y : Tk} (hy : l[m]? = some y) (hlt : ltB t y = true) :
    HAt W ((wr.setCell ⟨g2, (m + 1) * 2, none⟩ (.int .u64 y.1.toNat)).setCell ⟨g2, (m + 1) * 2 + 1, none⟩ (.int .i64 y.2)) g bx g2 q c l t S m := by
  obtain ⟨p1, p2, p3⟩ := h.put y
  obtain ⟨junk, h1, h2, h3, h4, h5, h6, h7, h8, h9⟩ := h
  have e := (hole_prev l junk (by omega) hy).2
  rw [hole_set l junk y (by omega)] at e
  rw [e] at p1
  exact ⟨y, by omega, h2, p1, fun b hb => by rw [hy] at hb; injection hb with hb; subst hb; exact hlt, put2_kept h7 h7 h5, put2_kept h7 h7 h6, h7, p2, p3⟩
theorem HAt.last (h : HAt W wr g bx g2 q c l t S k) {xs : List Tk} (hs : l = srt xs) (hlo : ∀ a, l[k - 1]? = some a → 0 < k → ltB t a = false) :
    TTab ((wr.setCell ⟨g2, k * 2, none⟩ (.int .u64 t.1.toNat)).setCell ⟨g2, k * 2 + 1, none⟩ (.int .i64 t.2)) W.heap.size (.slice (some ⟨g2, 0, none⟩) (q + 1) c) (srt (xs ++ [t])) ∧
    IntSet ((wr.setCell ⟨g2, k * 2, none⟩ (.int .u64 t.1.toNat)).setCell ⟨g2, k * 2 + 1, none⟩ (.int .i64 t.2)) g S ∧ Below W.heap.size W ((wr.setCell ⟨g2, k * 2, none⟩ (.int .u64 t.1.toNat)).setCell ⟨g2, k * 2 + 1, none⟩ (.int .i64 t.2)) := by
  obtain ⟨p1, p2, p3⟩ := h.put t
  obtain ⟨junk, h1, h2, h3, h4, h5, h6, h7, h8, h9⟩ := h
  rw [show hole l k t = srt (xs ++ [t]) from srt_insert hs (by omega) hlo h4] at p1
  exact ⟨p1, p2, p3⟩
theorem HAt.step' {m : Nat} (h : HAt W wr g bx g2 q c l t S k) (hk : k = m + 1) {y : Tk} (hy : l[m]? = some y) (hlt : ltB t y = true) :
    HAt W ((wr.setCell ⟨g2, k * 2, none⟩ (.int .u64 y.1.toNat)).setCell ⟨g2, k * 2 + 1, none⟩ (.int .i64 y.2)) g bx g2 q c l t S m := by
  subst hk; exact h.step hy hlt
theorem HAt.prev' {m : Nat} (h : HAt W wr g bx g2 q c l t S k) (hk : k = m + 1) : ∃ y : Tk, l[m]? = some y ∧ wr.cell? ⟨g2, m * 2, none⟩ = some (.int .u64 y.1.toNat) ∧ wr.cell? ⟨g2, m * 2 + 1, none⟩ = some (.int .i64 y.2) := by
  subst hk; exact h.prev
theorem HAt.start {w2 w4 : World} {A3 : Option Addr} {c3 : Nat} {o1 o2 : Obj} (T6 : TTab w2 W.heap.size (.slice A3 q c3) l) (hl : l.length = q)
    (hd0 : (w2.alloc o1).cell? ⟨w2.heap.size, 0, none⟩ = some (.int .u64 t.1.toNat)) (hd1 : (w2.alloc o1).cell? ⟨w2.heap.size, 1, none⟩ = some (.int .i64 t.2)) (S5 : IntSet (w2.alloc o1) g S)
    (Z4 : TTab w4 W.heap.size (.slice (some ⟨g2, 0, none⟩) (q + 1) c) (l ++ [t])) (G4 : ((w2.alloc o1).alloc o2).grownBy w4 (Value.slice A3 q c3).ownBlock)
    (O4 : (Value.slice A3 q c3).ownBlock = some g2 ∨ g2 = (w2.alloc o1).heap.size + 1) (B7 : Below W.heap.size W w4) : HAt W w4 g w2.heap.size g2 q c l t S q := by
  have e : l ++ [t] = hole l q t := by rw [hole_end, hl]
  rw [e] at Z4
  have hown : ∀ k, (Value.slice A3 q c3).ownBlock = some k → k < w2.heap.size := fun k hk => (T6.lt k hk).2
  have hne : some w2.heap.size ≠ (Value.slice A3 q c3).ownBlock := fun e => by have := hown _ e.symm; omega
  have cell : ∀ j v, (w2.alloc o1).cell? ⟨w2.heap.size, j, none⟩ = some v → w4.cell? ⟨w2.heap.size, j, none⟩ = some v := fun j v hv => by
    have h1 : ((w2.alloc o1).alloc o2).cell? ⟨w2.heap.size, j, none⟩ = some v := by rw [World.cell?_alloc_lt _ _ _ (World.block_lt_of_cell? _ _ hv)]; exact hv
    exact (World.cell?_of_block (a := ⟨w2.heap.size, j, none⟩) (G4.block _ (by simp; omega) hne)).trans h1
  refine ⟨t, Nat.le_refl _, hl, Z4, ?_, cell 0 _ hd0, cell 1 _ hd1, ?_, ?_, B7⟩
  · rw [← hl]; exact behind_end l t
  · rcases O4 with h | h
    · have := hown _ h; omega
    · simp at h; omega
  · refine (S5.alloc o2).kept G4 fun e => ?_
    have hg := hown g e.symm
    obtain ⟨cur, hc⟩ := Grows.typed' T6 g e.symm
    have h1 : (w2.alloc o1).heap[g]? = some (.cells cur 31 (0, 0)) := (Below.heap_alloc w2 o1 g hg).trans hc
    exact set_cells S5 h1
end
end Go.Proofs.Ytpnfcjodjgbdbaa.Ring
