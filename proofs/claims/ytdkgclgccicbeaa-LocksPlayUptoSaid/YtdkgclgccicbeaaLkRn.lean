/-
  Package locks: the locks that the document's own answer makes: one that is being made, and the sorted list of them.
-/
import Derived.Test.YtdkgclgccicbeaaLkRm
namespace Go.Proofs.Ytdkgclgccicbeaa.Lk
set_option linter.unusedVariables false
set_option linter.unusedSimpArgs false
open Go.RowKit Mem Gt

abbrev tLk : TypeId := 34
abbrev tLo : TypeId := 36
abbrev tIn : TypeId := 3
theorem elIn : El 32 3 1 8 := El.of Try.underlying32 (by kernel_rfl)
/-! ### A lock that is being made -/
structure XM (Wb w : World) (H : Option Addr) (nh ch : Nat) (S : Option Addr) (ns cs : Nat) (key : Int) (al : Bool) (hs : List Int) (ws : List LO) : Prop where
  bel : Below Wb.heap.size Wb w
  box : Known w Wb.heap.size tLk #[.int .i64 key, .bool al, .slice H nh ch, .slice S ns cs]
  th : Tab erE w (Wb.heap.size + 1) tIn (.slice H nh ch) hs
  tw : Tab loE w (Wb.heap.size + 1) tLo (.slice S ns cs) ws
  apart : ∀ g, (Value.slice H nh ch).ownBlock = some g → (Value.slice S ns cs).ownBlock ≠ some g
  lh : hs.length = nh
  lw : ws.length = ns
section
variable {Wb w V : World} {H S : Option Addr} {nh ch ns cs : Nat} {key : Int} {al : Bool} {hs : List Int} {ws : List LO}
theorem XM.start (Wb : World) (key : Int) (al : Bool) : XM Wb (Wb.alloc (.cells #[.int .i64 key, .bool al, .slice none 0 0, .slice none 0 0] tLk)) none 0 0 none 0 0 key al [] [] :=
  ⟨low_lit _ _, Known.made _ _ _, Tab.nil _ _ _, Tab.nil _ _ _, fun g h => by simp [Value.ownBlock] at h, rfl, rfl⟩
theorem XM.later (h : XM Wb w H nh ch S ns cs key al hs ws) (hb : Below w.heap.size w V) : XM Wb V H nh ch S ns cs key al hs ws :=
  ⟨h.bel.trans (hb.mono h.bel.size), h.box.later hb, h.th.later hb, h.tw.later hb, h.apart, h.lh, h.lw⟩
theorem XM.lt (h : XM Wb w H nh ch S ns cs key al hs ws) : Wb.heap.size + 1 ≤ w.heap.size := h.box.lt
theorem XM.putH (h : XM Wb w H nh ch S ns cs key al hs ws) {H2 : Option Addr} {c2 m : Nat} {hs2 : List Int} (hg : w.grownBy V (Value.slice H nh ch).ownBlock) (T : Tab erE V (Wb.heap.size + 1) tIn (.slice H2 m c2) hs2) (hm : hs2.length = m)
    (hu : ∀ g, (Value.slice H2 m c2).ownBlock = some g → (Value.slice H nh ch).ownBlock = some g ∨ w.heap.size ≤ g) : XM Wb (V.setCell ⟨Wb.heap.size, 2, none⟩ (.slice H2 m c2)) H2 m c2 S ns cs key al hs2 ws := by
  have hth := h.th.lt
  have htw := h.tw.lt
  have hT := T.lt
  have nb : some Wb.heap.size ≠ (Value.slice H nh ch).ownBlock := fun e => by have := (hth _ e.symm).1; omega
  refine ⟨(h.bel.grown hg h.bel.size (fun g e => by have := (hth g e).1; omega)).setCell (p := ⟨Wb.heap.size, 2, none⟩) (Nat.le_refl _) _, (known_grown h.box hg nb).put 2 _, T.off (fun g e => by have := (hT g e).1; show g ≠ Wb.heap.size; omega) _, ?_, fun g e e2 => ?_, hm, h.lw⟩
  · refine Tab.off (h.tw.kept hg ?_) (fun g e => by have := (htw g e).1; show g ≠ Wb.heap.size; omega) _
    cases e : (Value.slice S ns cs).ownBlock with
    | none => exact .inl rfl
    | some g => exact .inr (fun e2 => h.apart g e2.symm e)
  · rcases hu g e with h1 | h1
    · exact h.apart g h1 e2
    · have := (htw g e2).2; omega
theorem XM.putW (h : XM Wb w H nh ch S ns cs key al hs ws) {S2 : Option Addr} {c2 m : Nat} {ws2 : List LO} (hg : w.grownBy V (Value.slice S ns cs).ownBlock) (T : Tab loE V (Wb.heap.size + 1) tLo (.slice S2 m c2) ws2) (hm : ws2.length = m)
    (hu : ∀ g, (Value.slice S2 m c2).ownBlock = some g → (Value.slice S ns cs).ownBlock = some g ∨ w.heap.size ≤ g) : XM Wb (V.setCell ⟨Wb.heap.size, 3, none⟩ (.slice S2 m c2)) H nh ch S2 m c2 key al hs ws2 := by
  have hth := h.th.lt
  have htw := h.tw.lt
  have hT := T.lt
  have nb : some Wb.heap.size ≠ (Value.slice S ns cs).ownBlock := fun e => by have := (htw _ e.symm).1; omega
  refine ⟨(h.bel.grown hg h.bel.size (fun g e => by have := (htw g e).1; omega)).setCell (p := ⟨Wb.heap.size, 3, none⟩) (Nat.le_refl _) _, (known_grown h.box hg nb).put 3 _, ?_, T.off (fun g e => by have := (hT g e).1; show g ≠ Wb.heap.size; omega) _, fun g e e2 => ?_, h.lh, hm⟩
  · refine Tab.off (h.th.kept hg ?_) (fun g e => by have := (hth g e).1; show g ≠ Wb.heap.size; omega) _
    cases e : (Value.slice H nh ch).ownBlock with
    | none => exact .inl rfl
    | some g => exact .inr (fun e2 => h.apart g e e2.symm)
  · rcases hu g e2 with h1 | h1
    · exact h.apart g e h1
    · have := (hth g e).2; omega
end
/-! ### All of them -/
def LcT (W : World) (B : Nat) (vo : Value) (x : L4) (y : Lc) : Prop := x.1 = y.1 ∧ x.2.1 = y.2.1 ∧ Tab erE W B tIn (slV x.2.2.1) y.2.2.1 ∧ Tab loE W B tLo (slV x.2.2.2) y.2.2.2 ∧ ∀ g, (slV x.2.2.1).ownBlock = some g ∨ (slV x.2.2.2).ownBlock = some g → vo.ownBlock ≠ some g
structure LT (W : World) (B : Nat) (vo : Value) (xs : List L4) (ls : List Lc) : Prop where
  tab : Tab l4E W B tLk vo xs
  len : xs.length = ls.length
  lc : ∀ (k : Nat) (x : L4) (y : Lc), xs[k]? = some x → ls[k]? = some y → LcT W B vo x y
theorem no_own {v : Value} {r : Option Nat} (h : ∀ g, v.ownBlock = some g → r ≠ some g) : v.ownBlock = none ∨ v.ownBlock ≠ r := by
  cases e : v.ownBlock with
  | none => exact .inl rfl
  | some g => exact .inr (fun e2 => h g e e2.symm)
section
variable {W V : World} {B : Nat} {vo v' : Value} {xs : List L4} {ls : List Lc} {x : L4} {y : Lc}
theorem LcT.later (h : LcT W B vo x y) (hb : Below W.heap.size W V) : LcT V B vo x y := ⟨h.1, h.2.1, h.2.2.1.later hb, h.2.2.2.1.later hb, h.2.2.2.2⟩
theorem LcT.moved (h : LcT W B vo x y) (hg : W.grownBy V vo.ownBlock) (hu : ∀ g, v'.ownBlock = some g → vo.ownBlock = some g ∨ W.heap.size ≤ g) : LcT V B v' x y := by
  obtain ⟨h1, h2, h3, h4, h5⟩ := h
  refine ⟨h1, h2, h3.kept hg (no_own fun g e => h5 g (.inl e)), h4.kept hg (no_own fun g e => h5 g (.inr e)), fun g hgo e => ?_⟩
  rcases hu g e with q | q
  · exact h5 g hgo q
  · rcases hgo with e2 | e2
    · have := (h3.lt g e2).2; omega
    · have := (h4.lt g e2).2; omega
theorem LT.nil (W : World) (B : Nat) : LT W B (.slice none 0 0) [] [] := ⟨Tab.nil _ _ _, rfl, fun k x y h => by simp at h⟩
theorem LT.later (h : LT W B vo xs ls) (hb : Below W.heap.size W V) : LT V B vo xs ls := ⟨h.tab.later hb, h.len, fun k x y h1 h2 => (h.lc k x y h1 h2).later hb⟩
theorem LT.other {r : Nat} (h : LT W B vo xs ls) (hg : W.grownBy V (some r)) (hr : r < B) : LT V B vo xs ls := by
  have hn : ∀ {w : Value}, (∀ g, w.ownBlock = some g → B ≤ g) → (w.ownBlock = none ∨ w.ownBlock ≠ some r) := fun {w} hw => no_own fun g e e2 => by
    injection e2 with e2
    have := hw g e
    omega
  refine ⟨h.tab.kept hg (hn fun g e => (h.tab.lt g e).1), h.len, fun k x y h1 h2 => ?_⟩
  obtain ⟨a1, a2, a3, a4, a5⟩ := h.lc k x y h1 h2
  exact ⟨a1, a2, a3.kept hg (hn fun g e => (a3.lt g e).1), a4.kept hg (hn fun g e => (a4.lt g e).1), a5⟩
theorem LT.push (h : LT W B vo xs ls) (hx : LcT W B vo x y) (hg : W.grownBy V vo.ownBlock) (T : Tab l4E V B tLk v' (xs ++ [x])) (hu : ∀ g, v'.ownBlock = some g → vo.ownBlock = some g ∨ W.heap.size ≤ g) : LT V B v' (xs ++ [x]) (ls ++ [y]) := by
  refine ⟨T, by simp [h.len], fun k a b ha hb => ?_⟩
  by_cases hk : k < xs.length
  · rw [List.getElem?_append_left hk] at ha
    rw [List.getElem?_append_left (by rw [← h.len]; exact hk)] at hb
    exact (h.lc k a b ha hb).moved hg hu
  · have hk' : k = xs.length := by have := (List.getElem?_eq_some_iff.1 ha).1; simp at this; omega
    subst hk'
    rw [List.getElem?_append_right (Nat.le_refl _), Nat.sub_self] at ha
    rw [List.getElem?_append_right (by rw [h.len]; exact Nat.le_refl _), h.len, Nat.sub_self] at hb
    simp at ha hb
    subst ha hb
    exact hx.moved hg hu
theorem put4 {g n c k : Nat} {z a : L4} (T : Tab l4E W B tLk (.slice (some ⟨g, 0, none⟩) n c) xs) (hn : n = xs.length) (hz : xs[k]? = some z) : Tab l4E ((((W.setCell ⟨g, k * 4, none⟩ (.int .i64 a.1)).setCell ⟨g, k * 4 + 1, none⟩ (.bool a.2.1)).setCell ⟨g, k * 4 + 2, none⟩ (slV a.2.2.1)).setCell ⟨g, k * 4 + 3, none⟩ (slV a.2.2.2)) B tLk (.slice (some ⟨g, 0, none⟩) n c) (xs.set k a) := by
  have hk := (List.getElem?_eq_some_iff.1 hz).1
  have T1 := Tab.set1 (j := 0) (v := .int .i64 a.1) (y := (a.1, z.2.1, z.2.2.1, z.2.2.2)) T hn hz rfl (by decide)
  have T2 := Tab.set1 (j := 1) (v := .bool a.2.1) (x := (a.1, z.2.1, z.2.2.1, z.2.2.2)) (y := (a.1, a.2.1, z.2.2.1, z.2.2.2)) T1 (by rw [List.length_set]; exact hn) (by rw [List.getElem?_set_self hk]) rfl (by decide)
  have T3 := Tab.set1 (j := 2) (v := slV a.2.2.1) (x := (a.1, a.2.1, z.2.2.1, z.2.2.2)) (y := (a.1, a.2.1, a.2.2.1, z.2.2.2)) T2 (by simp only [List.length_set]; exact hn) (by rw [List.getElem?_set_self (by simp only [List.length_set]; exact hk)]) rfl (by decide)
  have T4 := Tab.set1 (j := 3) (v := slV a.2.2.2) (x := (a.1, a.2.1, a.2.2.1, z.2.2.2)) (y := a) T3 (by simp only [List.length_set]; exact hn) (by rw [List.getElem?_set_self (by simp only [List.length_set]; exact hk)]) rfl (by decide)
  simp only [List.set_set] at T4
  exact T4
theorem gr4 (W : World) (g a b c d : Nat) (u v w x : Value) : W.grownBy ((((W.setCell ⟨g, a, none⟩ u).setCell ⟨g, b, none⟩ v).setCell ⟨g, c, none⟩ w).setCell ⟨g, d, none⟩ x) (some g) :=
  (((gr_set W g a u).trans (gr_set _ g b v)).trans (gr_set _ g c w)).trans (gr_set _ g d x)
/-- Entries change places. -/
theorem LT.turn {g n c : Nat} {xs' : List L4} {ls' : List Lc} (h : LT W B (.slice (some ⟨g, 0, none⟩) n c) xs ls) (hg : W.grownBy V (some g)) (T : Tab l4E V B tLk (.slice (some ⟨g, 0, none⟩) n c) xs') (hl : xs'.length = ls'.length)
    (hp : ∀ (k : Nat) (x : L4) (y : Lc), xs'[k]? = some x → ls'[k]? = some y → ∃ j : Nat, xs[j]? = some x ∧ ls[j]? = some y) : LT V B (.slice (some ⟨g, 0, none⟩) n c) xs' ls' :=
  ⟨T, hl, fun k x y hx hy => by
    obtain ⟨j, h1, h2⟩ := hp k x y hx hy
    exact (h.lc j x y h1 h2).moved (vo := .slice (some ⟨g, 0, none⟩) n c) (by exact hg) (fun q e => .inl e)⟩
theorem LT.new {A : Option Addr} {kl d : Nat} (h : LT W B (.slice A kl d) xs ls) {N : Nat} (hN : N ≤ B) : LNew N W A kl d ls := by
  refine ⟨xs, h.tab.down hN, h.len, fun k x y hx hy => ?_⟩
  obtain ⟨x0, x1, ⟨H, nh, ch⟩, ⟨S, ns, cs⟩⟩ := x
  obtain ⟨h1, h2, h3, h4, h5⟩ := h.lc k _ y hx hy
  simp only [slV] at h1 h2 h3 h4 h5
  obtain ⟨A1, c1, e1, p1, p2⟩ := h3.form
  injection e1 with e1a e1b e1c
  subst e1a e1b e1c
  obtain ⟨A2, c2, e2, p3, p4⟩ := h4.form
  injection e2 with e2a e2b e2c
  subst e2a e2b e2c
  have r3 := h3.reads
  rw [flat_er] at r3
  refine ⟨⟨h1, h2, rfl, ⟨p1, by unfold maxLen at p2; simp only; omega⟩, r3, rfl, ⟨p3, by unfold maxLen at p4; simp only; omega⟩, h4.reads⟩, fun a ha => ?_⟩
  simp only at ha
  rcases ha with rfl | rfl
  · have ho : ∃ g, (Value.slice (some a) y.2.2.1.length ch).ownBlock = some g ∧ a.block = g := ⟨a.block, rfl, rfl⟩
    obtain ⟨g, ho, rfl⟩ := ho
    exact ⟨Nat.le_trans hN (h3.lt _ ho).1, h5 _ (.inl ho)⟩
  · have ho : ∃ g, (Value.slice (some a) y.2.2.2.length cs).ownBlock = some g ∧ a.block = g := ⟨a.block, rfl, rfl⟩
    obtain ⟨g, ho, rfl⟩ := ho
    exact ⟨Nat.le_trans hN (h4.lt _ ho).1, h5 _ (.inr ho)⟩
end
/-! ### Putting one in its place -/
def insAt {α : Type} (bs : List α) (k : Nat) (y : α) : List α := bs.take k ++ y :: bs.drop k
theorem insAt_len {α : Type} {bs : List α} {k : Nat} {y : α} : (insAt bs k y).length = bs.length + 1 := by unfold insAt; simp; omega
theorem insAt_all {α : Type} (bs : List α) (y : α) : insAt bs bs.length y = bs ++ [y] := by unfold insAt; simp
theorem insAt_at {α : Type} {bs : List α} {k j : Nat} {y : α} (hk : k ≤ bs.length) : (insAt bs k y)[j]? = if j < k then bs[j]? else if j = k then some y else bs[j - 1]? := by
  unfold insAt
  by_cases h : j < k
  · rw [if_pos h, List.getElem?_append_left (by simp; omega), List.getElem?_take, if_pos h]
  · rw [if_neg h, List.getElem?_append_right (by simp; omega), List.length_take, Nat.min_eq_left hk]
    by_cases e : j = k
    · subst e; simp
    · rw [if_neg e, show j - k = (j - k - 1) + 1 by omega, List.getElem?_cons_succ, List.getElem?_drop, show k + (j - k - 1) = j - 1 by omega]
theorem insAt_swap {α : Type} {bs : List α} {m : Nat} {y b : α} (hb : bs[m]? = some b) : ((insAt bs (m + 1) y).set (m + 1) b).set m y = insAt bs m y := by
  have hm : m < bs.length := (List.getElem?_eq_some_iff.1 hb).1
  apply List.ext_getElem?
  intro j
  rw [insAt_at (by omega)]
  by_cases h1 : j = m
  · subst h1
    rw [List.getElem?_set_self (by rw [List.length_set, insAt_len]; omega), if_neg (by omega), if_pos rfl]
  · rw [List.getElem?_set_ne (fun e => h1 e.symm)]
    by_cases h2 : j = m + 1
    · subst h2
      rw [List.getElem?_set_self (by rw [insAt_len]; omega), if_neg (by omega), if_neg (by omega), show m + 1 - 1 = m by omega]
      exact hb.symm
    · rw [List.getElem?_set_ne (fun e => h2 e.symm), insAt_at (by omega)]
      by_cases h3 : j < m
      · rw [if_pos (by omega), if_pos h3]
      · rw [if_neg (by omega), if_neg h2, if_neg h3, if_neg h1]
theorem mem_insAt {α : Type} {bs : List α} {k : Nat} {y z : α} : z ∈ insAt bs k y ↔ z = y ∨ z ∈ bs := by
  unfold insAt
  rw [List.mem_append, List.mem_cons]
  constructor
  · rintro (h | h | h)
    · exact .inr (List.mem_of_mem_take h)
    · exact .inl h
    · exact .inr (List.mem_of_mem_drop h)
  · rintro (h | h)
    · exact .inr (.inl h)
    · rw [← List.take_append_drop k bs] at h
      rcases List.mem_append.1 h with h | h
      · exact .inl h
      · exact .inr (.inr h)
theorem rise_insAt {bs : List Lc} {k : Nat} {y : Lc} (h : bs.Pairwise (fun a b => a.1 < b.1)) (h1 : ∀ z ∈ bs.drop k, y.1 < z.1) (h2 : ∀ z ∈ bs.take k, z.1 < y.1) : (insAt bs k y).Pairwise (fun a b => a.1 < b.1) := by
  unfold insAt
  rw [← List.take_append_drop k bs] at h
  obtain ⟨p1, p2, p3⟩ := List.pairwise_append.1 h
  refine List.pairwise_append.2 ⟨p1, List.pairwise_cons.2 ⟨h1, p2⟩, fun a ha b hb => ?_⟩
  rcases List.mem_cons.1 hb with rfl | hb
  · exact h2 a ha
  · exact p3 a ha b hb
theorem take_lt {bs : List Lc} (h : bs.Pairwise (fun a b => a.1 < b.1)) {k : Nat} {b : Lc} {c : Int} (hb : bs[k]? = some b) (hc : b.1 < c) : ∀ z ∈ bs.take (k + 1), z.1 < c := fun z hz => by
  obtain ⟨j, hj⟩ := List.mem_iff_getElem?.1 hz
  rw [List.getElem?_take] at hj
  split at hj
  · rename_i hjk
    by_cases e : j = k
    · subst e; rw [hb] at hj; cases hj; exact hc
    · have h1 := (List.getElem?_eq_some_iff.1 hj).1
      have h2 := (List.getElem?_eq_some_iff.1 hb).1
      have := (List.pairwise_iff_getElem.1 h) j k h1 h2 (by omega)
      rw [(List.getElem?_eq_some_iff.1 hj).2, (List.getElem?_eq_some_iff.1 hb).2] at this
      omega
  · cases hj
/-! ### The list so far -/
structure OutSt (l : List LO) (ks : List Int) (left : Lit → Bool) (ls : List Lc) : Prop where
  rise : ls.Pairwise (fun a b => a.1 < b.1)
  mem : ∀ y, y ∈ ls ↔ (y.1 ∈ ks ∧ left (.int .i64 y.1) = false) ∧ st l y.1 ≠ [] ∧ y = lockOf y.1 (st l y.1)
def strike (left : Lit → Bool) (x : Int) : Lit → Bool := fun y => left y && !y.sameKey (.int .i64 x)
theorem strike_at (left : Lit → Bool) (x y : Int) : strike left x (.int .i64 y) = false ↔ left (.int .i64 y) = false ∨ y = x := by
  unfold strike
  simp [Lit.sameKey]
  constructor
  · intro h
    cases e : left (.int .i64 y) with
    | false => exact .inl rfl
    | true => exact .inr (h e)
  · rintro (h | h) e
    · rw [h] at e; cases e
    · exact h
section
variable {l : List LO} {ks : List Int} {left : Lit → Bool} {ls : List Lc} {x : Int}
theorem OutSt.start {left : Lit → Bool} (h : ∀ x : Int, (Lit.int .i64 x).wf = true → left (.int .i64 x) = decide (x ∈ ks)) (hk : ∀ x ∈ ks, Fit x) : OutSt l ks left [] :=
  ⟨List.Pairwise.nil, fun y => by
    constructor
    · intro h; simp at h
    · rintro ⟨⟨h1, h2⟩, _⟩
      rw [h _ (wf_of (hk _ h1)), decide_eq_true h1] at h2
      cases h2⟩
theorem OutSt.skip (h : OutSt l ks left ls) (hs : st l x = []) : OutSt l ks (strike left x) ls :=
  ⟨h.rise, fun y => by
    rw [h.mem y, strike_at]
    constructor
    · rintro ⟨⟨h1, h2⟩, h3, h4⟩
      exact ⟨⟨h1, .inl h2⟩, h3, h4⟩
    · rintro ⟨⟨h1, h2⟩, h3, h4⟩
      rcases h2 with h2 | h2
      · exact ⟨⟨h1, h2⟩, h3, h4⟩
      · rw [h2] at h3; exact absurd hs h3⟩
theorem OutSt.add (h : OutSt l ks left ls) (hk : x ∈ ks) (hs : st l x ≠ []) {k : Nat} (hr : (insAt ls k (lockOf x (st l x))).Pairwise (fun a b => a.1 < b.1)) : OutSt l ks (strike left x) (insAt ls k (lockOf x (st l x))) :=
  ⟨hr, fun y => by
    rw [mem_insAt, h.mem y, strike_at]
    constructor
    · rintro (rfl | ⟨⟨h1, h2⟩, h3, h4⟩)
      · exact ⟨⟨hk, .inr rfl⟩, hs, rfl⟩
      · exact ⟨⟨h1, .inl h2⟩, h3, h4⟩
    · rintro ⟨⟨h1, h2⟩, h3, h4⟩
      by_cases e : y.1 = x
      · left; rw [h4, e]
      · right
        rcases h2 with h2 | h2
        · exact ⟨⟨h1, h2⟩, h3, h4⟩
        · exact absurd h2 e⟩
theorem OutSt.fresh (h : OutSt l ks left ls) (hl : left (.int .i64 x) = true) : ∀ y ∈ ls, y.1 ≠ x := fun y hy e => by
  have := ((h.mem y).1 hy).1.2
  rw [e, hl] at this
  cases this
theorem OutSt.done (h : OutSt l ks left ls) (hd : ∀ kl, left kl = false) (hn : ∀ x, x ∉ ks → st l x = []) : ls = locks l := by
  refine locks_unique h.rise fun y => ?_
  rw [h.mem y]
  constructor
  · rintro ⟨_, h1⟩; exact h1
  · rintro ⟨h1, h2⟩
    refine ⟨⟨?_, hd _⟩, h1, h2⟩
    by_cases e : y.1 ∈ ks
    · exact e
    · exact absurd (hn _ e) h1
theorem OutSt.len (h : OutSt l ks left ls) : ls.length ≤ ks.length := by
  have h1 : (ls.map (·.1)).Nodup := List.pairwise_map.2 (h.rise.imp (fun {a b} hab => by omega))
  have := nodup_len h1 (k := ks) (fun t ht => by
    obtain ⟨y, hy, rfl⟩ := List.mem_map.1 ht
    exact ((h.mem y).1 hy).1.1)
  simpa using this
end
/-! ### The parts of a row -/
theorem parts_has {l : List LO} {j h : Nat} {o : LO} (ho : l[j]? = some o) (hj : j < h) : ((l.take (j + 1)).take h).map (·.2.1) = ((l.take j).take h).map (·.2.1) ++ [o.2.1] ∧ (l.take (j + 1)).drop h = (l.take j).drop h := by
  have e := List.take_add_one (l := l) (i := j)
  rw [ho] at e
  have hl : j < l.length := (List.getElem?_eq_some_iff.1 ho).1
  refine ⟨?_, ?_⟩
  · rw [List.take_take, List.take_take, Nat.min_eq_right (by omega), Nat.min_eq_right (by omega), e, List.map_append]; rfl
  · rw [List.drop_eq_nil_of_le (by rw [List.length_take]; omega), List.drop_eq_nil_of_le (by rw [List.length_take]; omega)]
theorem parts_wait {l : List LO} {j h : Nat} {o : LO} (ho : l[j]? = some o) (hj : ¬ j < h) : ((l.take (j + 1)).take h).map (·.2.1) = ((l.take j).take h).map (·.2.1) ∧ (l.take (j + 1)).drop h = (l.take j).drop h ++ [o] := by
  have e := List.take_add_one (l := l) (i := j)
  rw [ho] at e
  have hl : j < l.length := (List.getElem?_eq_some_iff.1 ho).1
  refine ⟨?_, ?_⟩
  · rw [List.take_take, List.take_take, Nat.min_eq_left (by omega), Nat.min_eq_left (by omega)]
  · rw [e, List.drop_append_of_le_length (by rw [List.length_take]; omega)]; rfl
end Go.Proofs.Ytdkgclgccicbeaa.Lk
