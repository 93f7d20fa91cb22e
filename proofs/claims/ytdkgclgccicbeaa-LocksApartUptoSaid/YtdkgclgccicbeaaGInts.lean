/-
  Slices of numbers of the call's own: made by append, cloned, written to.
-/
import Derived.Test.YtdkgclgccicbeaaSl
import Derived.Test.YtdkgclgccicbeaaShelf
import Derived.BigQuiet
namespace Go.Proofs.Ytdkgclgccicbeaa.Gt
set_option linter.unusedVariables false
set_option linter.unusedSimpArgs false
open Go.RowKit Mem

abbrev ints (l : List Int) : List Value := l.map (Value.int .i64)
theorem infoI : (Try.prog.info? 3).map (fun i => (i.zero, i.size, i.bytes)) = some (some (.int .i64 0), 1, 8) := by kernel_rfl
theorem elemI : Elem 32 3 8 := by
  obtain ⟨i, hi, hz0, hz1, hz2⟩ := info_parts infoI
  exact ⟨Try.underlying32, i, _, hi, hz0, hz1, hz2, rfl⟩
/-- v is a slice of the call's own (block B or later) of the numbers l. -/
def ZTab (W : World) (B : Nat) (v : Value) (l : List Int) : Prop := Grows W B 3 v (l.map (Value.int .i64))
section
variable {W V : World} {B : Nat} {v : Value} {l : List Int}
theorem ZTab.nil (W : World) (B : Nat) : ZTab W B (.slice none 0 0) [] := Grows.nil W B _
theorem ZTab.form (h : ZTab W B v l) : ∃ A cap, v = .slice A l.length cap ∧ l.length ≤ cap ∧ cap ≤ maxLen := by
  have := Grows.form h; simpa using this
theorem ZTab.later (h : ZTab W B v l) (hb : Below W.heap.size W V) : ZTab V B v l := Grows.later h hb
theorem ZTab.drew (h : ZTab W B v l) : ZTab W.drew B v l := h
theorem ZTab.lt (h : ZTab W B v l) : ∀ k, v.ownBlock = some k → B ≤ k ∧ k < W.heap.size := Grows.lt h
theorem ZTab.kept {row : Option Nat} (h : ZTab W B v l) (hg : W.grownBy V row) (hne : v.ownBlock = none ∨ v.ownBlock ≠ row) : ZTab V B v l := Grows.kept h hg hne
theorem ZTab.reads {A : Option Addr} {n cap : Nat} (h : ZTab W B (.slice A n cap) l) : Reads W A (l.map (Value.int .i64)) := Grows.reads h
end
/-- 'append(v, x)'. -/
theorem wpList_append_z {ops : Array Oper} {rest : List Oper} {o : Oper} {a : Act} {Q : Exit → Act → World → Prop} (hgd : o.guard = none) (s x : Operand)
    (ho : o.op = .call { callee := .builtin .append, args := #[s, x], argTypes := #[32, 32] }) {w : World} {y : Int} {B : Nat} {v : Value} {l : List Int} {n : Nat} (hs : a.eval s = v)
    {sz : Nat} (hx : a.eval x = .slice (some ⟨sz, 0, none⟩) 1 1) (hsz : w.heap.size = sz) (hg : ZTab w B v l) (hn : l.length = n) (hl2 : (n + 1) * 8 ≤ 140737488355328) (hB : B ≤ w.heap.size) {B0 : Nat} {w0 : World} (hb : Below B0 w0 w) (hB0 : B0 ≤ B)
    (h : ∀ A c w', Hid (ZTab w' B (.slice A (n + 1) c) (l ++ [y])) → Hid ((w.alloc (.cells #[.int .i64 y] 3)).grownBy w' v.ownBlock) → Hid (Below B0 w0 w') → wpList Try.prog ops Q rest (a.put o.dst (.slice A (n + 1) c)) w') :
    wpList Try.prog ops Q (o :: rest) a (w.alloc (.cells #[.int .i64 y] 3)) := by
  subst hsz
  subst hn
  refine wpList_append_one elemI hgd s x ho rfl hs hx hg (by simp; unfold maxLen; omega) (by simpa using hl2) hB ?_
  intro v' w' h1 h2
  have hT : ZTab w' B v' (l ++ [y]) := by unfold ZTab; rw [List.map_append]; exact h1
  obtain ⟨A, c, hv, _, _⟩ := hT.form
  rw [List.length_append] at hv
  have hv : v' = .slice A (l.length + 1) c := hv
  subst hv
  exact h A c w' hT h2 ((Grows.alloc hg _).below h2 (hb.alloc (Nat.le_trans hB0 hB) _) hB0 (by simp; omega))

/-- The cells of numbers, as the shelf's contracts take them. -/
theorem reads_cells {W : World} {A : Option Addr} {l : List Int} (h : Reads W A (l.map (Value.int .i64))) (h0 : 0 < l.length) : ∃ b o, A = some ⟨b, o, none⟩ ∧ b < W.heap.size ∧ ∀ j, j < l.length → W.cell? ⟨b, o + j, none⟩ = some (.int .i64 (l.getD j 0)) := by
  have key : ∀ j (hj : j < l.length), ∃ b o, A = some ⟨b, o, none⟩ ∧ b < W.heap.size ∧ W.cell? ⟨b, o + j, none⟩ = some (.int .i64 (l.getD j 0)) := fun j hj => by
    obtain ⟨b, o, h1, h2, h3⟩ := h j (.int .i64 l[j]) (by rw [List.getElem?_map, List.getElem?_eq_getElem hj]; rfl)
    exact ⟨b, o, h1, h2, by rw [h3, List.getD_eq_getElem?_getD, List.getElem?_eq_getElem hj]; rfl⟩
  obtain ⟨b, o, h1, h2, _⟩ := key 0 h0
  refine ⟨b, o, h1, h2, fun j hj => ?_⟩
  obtain ⟨b', o', e, _, h3⟩ := key j hj
  rw [h1] at e
  injection e with e
  injection e with e1 e2
  subst e1 e2
  exact h3
theorem ZTab.alloc {W : World} {B : Nat} {v : Value} {l : List Int} (h : ZTab W B v l) (o : Obj) : ZTab (W.alloc o) B v l := Grows.alloc h o
theorem ZTab.put {W : World} {B : Nat} {A : Option Addr} {n cap k : Nat} {l : List Int} (h : ZTab W B (.slice A n cap) l) (hn : l.length = n) (hk : k < n) : ∃ g x, A = some ⟨g, 0, none⟩ ∧ B ≤ g ∧ g < W.heap.size ∧ l[k]? = some x ∧ W.cell? ⟨g, k, none⟩ = some (.int .i64 x) ∧ W.frozen? ⟨g, k, none⟩ = false ∧
    ∀ y : Int, ZTab (W.setCell ⟨g, k, none⟩ (.int .i64 y)) B (.slice A n cap) (l.set k y) := by
  subst hn
  have e := List.getElem?_eq_getElem hk
  rcases h.2 with ⟨_, h0⟩ | ⟨g, c, cur, hv, _, hg, _⟩
  · simp at h0; subst h0; simp at hk
  · injection hv with hA
    subst hA
    have hown : Value.ownBlock (.slice (some ⟨g, 0, none⟩) l.length cap) = some g := rfl
    have h' : W.ownsRow B 3 1 (.slice (some ⟨g, 0, none⟩) l.length cap) l.length (l.map (Value.int .i64)) := by
      have h3 := h; unfold ZTab Grows at h3; rw [List.length_map] at h3; exact h3
    refine ⟨g, l[k], rfl, (h.lt g hown).1, (h.lt g hown).2, e, ?_, h'.frozenAt k, fun y => ?_⟩
    · rw [h'.cellAt k (by omega), List.getElem?_map, e]; rfl
    · have := (h'.stored k (.int .i64 y)).1
      unfold ZTab Grows
      rw [List.length_map, List.length_set, List.map_set]
      exact this
set_option maxRecDepth 100000 in
theorem z_none {W : World} {l : List Int} (h : Reads W none (l.map (Value.int .i64))) : l = [] := by
  cases l with
  | nil => rfl
  | cons x l => obtain ⟨b, o, h1, _⟩ := h 0 (.int .i64 x) rfl; cases h1
theorem z_of_row {W : World} {B : Nat} {v : Value} {l : List Int} {n : Nat} (hn : l.length = n) (h : W.ownsRow B 3 1 v n (l.map (Value.int .i64))) : ∃ A c, v = .slice A n c ∧ ZTab W B (.slice A n c) l := by
  have hz : ZTab W B v l := by unfold ZTab Grows; rw [List.length_map, hn]; exact h
  obtain ⟨A, c, e, _, _⟩ := hz.form
  rw [hn] at e
  subst e
  exact ⟨A, c, rfl, hz⟩
theorem clone_z (A : Option Addr) (l : List Int) (n c : Nat) (W : World) (hn : l.length = n) (hbig : n ≤ 17592186044416) (hx : Reads W A (l.map (Value.int .i64))) :
    Calls Try.prog 13 #[.slice A n c] W fun e W' => ∃ A' c', e = .returned (.slice A' n c') ∧ ZTab W' W.heap.size (.slice A' n c') l ∧ Below W.heap.size W W' := by
  cases A with
  | none =>
    obtain rfl := z_none hx
    obtain rfl : n = 0 := hn.symm
    refine (Try.slices_Clone_int_nil 0 c W).mono ?_
    rintro e w ⟨rfl, rfl⟩
    exact ⟨none, 0, rfl, ZTab.nil _ _, Below.refl _ _⟩
  | some a =>
    rcases Nat.eq_zero_or_pos n with h0 | h0
    · subst h0
      obtain rfl := List.eq_nil_of_length_eq_zero hn
      refine (Try.slices_Clone_int_zero a c W).mono ?_
      rintro e w ⟨v, rfl, hr, _, hb⟩
      obtain ⟨A', c', rfl, hz⟩ := z_of_row (l := []) rfl hr
      exact ⟨A', c', rfl, hz, hb⟩
    · obtain ⟨b, o, e, _, hc⟩ := reads_cells hx (by omega)
      injection e with e
      subst e
      refine (Try.slices_Clone_int b o n c l W (by omega) (by omega) hc).mono ?_
      rintro e w ⟨v, rfl, hr, _, hb⟩
      rw [List.take_of_length_le (by omega)] at hr
      obtain ⟨A', c', rfl, hz⟩ := z_of_row hn hr
      exact ⟨A', c', rfl, hz, hb⟩
theorem run_append_none_any (w : World) (base : Nat) (t ty e : TypeId) (i : TypeInfo) (size c : Nat) (ht : Try.prog.underlying t = some (.slice e)) (hi : Try.prog.info? e = some i)
    (v : Value) (n : Nat) (xs : List Value) (hown : w.ownsRow base e size v n xs) :
    (Builtin.append_ #[t, t] ty #[v, .slice none 0 c]).run Try.prog w = .ok v w := by
  rcases hown.2 with ⟨rfl, rfl⟩ | ⟨g, cap, cur, rfl, _, _, hnc, _⟩
  · simp [Builtin.append_, run_underlying ht, sizeOf, typeInfo, hi, Builtin.lenOf, Builtin.firstCells]
  · simp [Builtin.append_, run_underlying ht, sizeOf, typeInfo, hi, Builtin.lenOf, Builtin.firstCells, hnc, storeCells]
set_option maxRecDepth 100000 in
theorem wpList_append_many {t e : TypeId} {bytes : Nat} (E : Elem t e bytes) {ops : Array Oper} {rest : List Oper} {o : Oper} {a : Act} {Q : Exit → Act → World → Prop} (hgd : o.guard = none) (s x : Operand)
    (ho : o.op = .call { callee := .builtin .append, args := #[s, x], argTypes := #[t, t] }) {w : World} {B : Nat} {v : Value} {xs us : List Value} (hs : a.eval s = v) {A : Option Addr} {m c : Nat}
    (hx : a.eval x = .slice A m c) (hm : us.length = m) (hu : ∀ u ∈ us, u.oneCell' = true) (hr : Reads w A us) (hg : Grows w B e v xs) (hl : xs.length + m ≤ maxLen) (hl2 : (xs.length + m) * bytes ≤ 140737488355328) (hB : B ≤ w.heap.size)
    (h : ∀ v' w', Grows w' B e v' (xs ++ us) → w.grownBy w' v.ownBlock → (v'.ownBlock = v.ownBlock ∨ v'.ownBlock = some w.heap.size) → wpList Try.prog ops Q rest (a.put o.dst v') w') :
    wpList Try.prog ops Q (o :: rest) a w := by
  obtain ⟨i, z, hi, hz0, hz1, hz2, hz3⟩ := E.hi
  cases A with
  | none =>
    have hus : us = [] := by
      cases us with
      | nil => rfl
      | cons u us => obtain ⟨b, o', h1, _⟩ := hr 0 u rfl; cases h1
    subst hus
    obtain rfl : m = 0 := hm.symm
    refine wpList_plain hgd fun K hK => ?_
    have hrun := run_append_none_any w B t o.type e i 1 c E.ht hi v xs.length xs hg
    unfold Oper.wp
    simp [execOp, ho, resolve, invoke, builtin, hs, hx, hrun, Result.andThen]
    exact hK _ _ (h v w (by simpa using hg) (World.grownBy.refl w _) (.inl rfl))
  | some ad =>
    refine wpList_append_own_at (w := w) hgd s x t ho B e i z 1 bytes E.ht hi hz0 hz1 hz2 hz3 (by decide) v xs.length xs hs hg ad m c us hx (by omega) ?_ hu hl hl2 hB ?_
    · intro j u hj
      obtain ⟨b, o', h1, _, h3⟩ := hr j u hj
      injection h1 with h1
      subst h1
      rw [Addr.add_lit]; exact h3
    · intro v' w' h1 h2 _ h4
      refine h v' w' ?_ h2 h4
      unfold Grows
      rw [List.length_append, hm]
      exact h1
/-- 'append(v, xs...)' of numbers. -/
theorem wpList_append_zs {ops : Array Oper} {rest : List Oper} {o : Oper} {a : Act} {Q : Exit → Act → World → Prop} (hgd : o.guard = none) (s x : Operand)
    (ho : o.op = .call { callee := .builtin .append, args := #[s, x], argTypes := #[32, 32] }) {w : World} {B : Nat} {v : Value} {l l' : List Int} {n m : Nat} (hs : a.eval s = v) {A : Option Addr} {c : Nat}
    (hx : a.eval x = .slice A m c) (hn : l.length = n) (hm : l'.length = m) (hr : Reads w A (l'.map (Value.int .i64))) (hg : ZTab w B v l) (hl2 : (n + m) * 8 ≤ 140737488355328) (hB : B ≤ w.heap.size) {B0 : Nat} {w0 : World} (hb : Below B0 w0 w) (hB0 : B0 ≤ B) (hs0 : B0 ≤ w.heap.size)
    (h : ∀ A' c' w', Hid (ZTab w' B (.slice A' (n + m) c') (l ++ l')) → Hid (w.grownBy w' v.ownBlock) → Hid (Below B0 w0 w') → wpList Try.prog ops Q rest (a.put o.dst (.slice A' (n + m) c')) w') :
    wpList Try.prog ops Q (o :: rest) a w := by
  subst hn hm
  refine wpList_append_many elemI hgd s x ho hs hx (by simp) (fun u hu => by obtain ⟨z, _, rfl⟩ := List.mem_map.1 hu; rfl) hr hg (by simp; unfold maxLen; omega) (by simpa using hl2) hB ?_
  intro v' w' h1 h2 _
  have hT : ZTab w' B v' (l ++ l') := by unfold ZTab; rw [List.map_append]; exact h1
  obtain ⟨A', c', hv, _, _⟩ := hT.form
  rw [List.length_append] at hv
  subst hv
  exact h A' c' w' hT h2 (hb.grown h2 hs0 fun k hk => Nat.le_trans hB0 (hg.lt k hk).1)

/-! ### slices.Equal -/
end Go.Proofs.Ytdkgclgccicbeaa.Gt
