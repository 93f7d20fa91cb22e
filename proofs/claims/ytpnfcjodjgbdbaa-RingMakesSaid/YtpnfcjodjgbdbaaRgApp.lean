/-
  'append(v, xs...)' of numbers; two slices that grow side by side.
-/
import Derived.Test.YtpnfcjodjgbdbaaRgE
import Derived.Test.YtpnfcjodjgbdbaaIntSet
namespace Go.Proofs.Ytpnfcjodjgbdbaa.Ring
set_option linter.unusedVariables false
set_option linter.unusedSimpArgs false
open Go.RowKit Mem

theorem run_append_none_any (w : World) (base : Nat) (t ty e : TypeId) (i : TypeInfo) (size c : Nat) (ht : Try.prog.underlying t = some (.slice e)) (hi : Try.prog.info? e = some i)
    (v : Value) (n : Nat) (xs : List Value) (hown : w.ownsRow base e size v n xs) :
    (Builtin.append_ #[t, t] ty #[v, .slice none 0 c]).run Try.prog w = .ok v w := by
  rcases hown.2 with ⟨rfl, rfl⟩ | ⟨g, cap, cur, rfl, _, _, hnc, _⟩
  · simp [Builtin.append_, run_underlying ht, sizeOf, typeInfo, hi, Builtin.lenOf, Builtin.firstCells]
  · simp [Builtin.append_, run_underlying ht, sizeOf, typeInfo, hi, Builtin.lenOf, Builtin.firstCells, hnc, storeCells]
set_option maxRecDepth 100000 in
theorem wpList_append_many {t e : TypeId} {bytes : Nat} (E : Elem t e bytes) {ops : Array Oper} {rest : List Oper} {o : Oper} {a : Act} {Q : Exit → Act → World → Prop} (hgd : o.guard = none) (s x : Operand)
    (ho : o.op = .call { callee := .builtin .append, args := #[s, x], argTypes := #[t, t] }) {w : World} {B : Nat} {v : Value} {xs us : List Value} (hs : a.eval s = v) {A : Option Addr} {m c : Nat}
    (hx : a.eval x = .slice A m c) (hm : us.length = m) (hu : ∀ u ∈ us, u.oneCell' = true) (hr : Reads w A us) (hg : Grows w B e v xs) (hl : xs.length + m ≤ maxLen) (hl2 : (xs.length + m) * bytes ≤ 140737488355328) (hB : B ≤ w.heap.size)
    (h : ∀ v' w', Grows w' B e v' (xs ++ us) → w.grownBy w' v.ownBlock → (v'.ownBlock = v.ownBlock ∨ v'.ownBlock = some w.heap.size) → wpList Try.prog ops Q rest (a.put o.dst v') w') :
    wpList Try.prog ops Q (o :: rest) a w := by
  obtain ⟨i, z, hi, hz0, hz1, hz2, hz3⟩ := E.hi
  cases A with
  | none =>
    have hus : us = [] := by
      cases us with
      | nil => rfl
      | cons u us => obtain ⟨b, o', h1, _⟩ := hr 0 u rfl; cases h1
    subst hus
    obtain rfl : m = 0 := hm.symm
    refine wpList_plain hgd fun K hK => ?_
    have hrun := run_append_none_any w B t o.type e i 1 c E.ht hi v xs.length xs hg
    unfold Oper.wp
    simp [execOp, ho, resolve, invoke, builtin, hs, hx, hrun, Result.andThen]
    exact hK _ _ (h v w (by simpa using hg) (World.grownBy.refl w _) (.inl rfl))
  | some ad =>
    refine wpList_append_own_at (w := w) hgd s x t ho B e i z 1 bytes E.ht hi hz0 hz1 hz2 hz3 (by decide) v xs.length xs hs hg ad m c us hx (by omega) ?_ hu hl hl2 hB ?_
    · intro j u hj
      obtain ⟨b, o', h1, _, h3⟩ := hr j u hj
      injection h1 with h1
      subst h1
      rw [Addr.add_lit]; exact h3
    · intro v' w' h1 h2 _ h4
      refine h v' w' ?_ h2 h4
      unfold Grows
      rw [List.length_append, hm]
      exact h1
/-- 'append(v, xs...)' of numbers. -/
theorem wpList_append_zs {ops : Array Oper} {rest : List Oper} {o : Oper} {a : Act} {Q : Exit → Act → World → Prop} (hgd : o.guard = none) (s x : Operand)
    (ho : o.op = .call { callee := .builtin .append, args := #[s, x], argTypes := #[22, 22] }) {w : World} {B : Nat} {v : Value} {l l' : List Int} {n m : Nat} (hs : a.eval s = v) {A : Option Addr} {c : Nat}
    (hx : a.eval x = .slice A m c) (hn : l.length = n) (hm : l'.length = m) (hr : Reads w A (l'.map (Value.int .i64))) (hg : ZTab w B v l) (hl2 : (n + m) * 8 ≤ 140737488355328) (hB : B ≤ w.heap.size) {B0 : Nat} {w0 : World} (hb : Below B0 w0 w) (hB0 : B0 ≤ B) (hs0 : B0 ≤ w.heap.size)
    (h : ∀ A' c' w', Hid (ZTab w' B (.slice A' (n + m) c') (l ++ l')) → Hid (w.grownBy w' v.ownBlock) → Hid (Below B0 w0 w') → wpList Try.prog ops Q rest (a.put o.dst (.slice A' (n + m) c')) w') :
    wpList Try.prog ops Q (o :: rest) a w := by
  subst hn hm
  refine wpList_append_many elemI hgd s x ho hs hx (by simp) (fun u hu => by obtain ⟨z, _, rfl⟩ := List.mem_map.1 hu; rfl) hr hg (by simp; unfold maxLen; omega) (by simpa using hl2) hB ?_
  intro v' w' h1 h2 _
  have hT : ZTab w' B v' (l ++ l') := by unfold ZTab; rw [List.map_append]; exact h1
  obtain ⟨A', c', hv, _, _⟩ := hT.form
  rw [List.length_append] at hv
  subst hv
  exact h A' c' w' hT h2 (hb.grown h2 hs0 fun k hk => Nat.le_trans hB0 (hg.lt k hk).1)
/-- Two slices of numbers lie apart. -/
def ApartV (v u : Value) : Prop := v.ownBlock = none ∨ v.ownBlock ≠ u.ownBlock
theorem ApartV.symm {v u : Value} (h : ApartV v u) : ApartV u v := by
  unfold ApartV at *
  rcases h with h | h
  · cases hu : u.ownBlock with
    | none => exact .inl rfl
    | some k => exact .inr (by rw [h]; simp)
  · cases hu : u.ownBlock with
    | none => exact .inl rfl
    | some k => exact .inr (fun e => h (by rw [hu]; exact e.symm))
set_option maxRecDepth 100000 in
theorem wpList_append_z2 {ops : Array Oper} {rest : List Oper} {o : Oper} {a : Act} {Q : Exit → Act → World → Prop} (hgd : o.guard = none) (s x : Operand)
    (ho : o.op = .call { callee := .builtin .append, args := #[s, x], argTypes := #[22, 22] }) {w : World} {y : Int} {B : Nat} {v u : Value} {l l' : List Int} {n : Nat} (hs : a.eval s = v) {sz : Nat}
    (hx : a.eval x = .slice (some ⟨sz, 0, none⟩) 1 1) (hsz : w.heap.size = sz) (hg : ZTab w B v l) (hu : ZTab w B u l') (hap : ApartV u v) (hn : l.length = n) (hl2 : (n + 1) * 8 ≤ 140737488355328) (hB : B ≤ w.heap.size) {B0 : Nat} {w0 : World} (hb : Below B0 w0 w) (hB0 : B0 ≤ B)
    (h : ∀ A c w', Hid (ZTab w' B (.slice A (n + 1) c) (l ++ [y])) → Hid (ZTab w' B u l') → Hid (ApartV u (.slice A (n + 1) c)) → Hid (Below B0 w0 w') → wpList Try.prog ops Q rest (a.put o.dst (.slice A (n + 1) c)) w') :
    wpList Try.prog ops Q (o :: rest) a (w.alloc (.cells #[.int .i64 y] 3)) := by
  subst hsz hn
  have hr : Reads (w.alloc (.cells #[.int .i64 y] 3)) (some ⟨w.heap.size, 0, none⟩) [.int .i64 y] := fun k v hk => by
    cases k with
    | zero => simp at hk; subst hk; exact ⟨w.heap.size, 0, rfl, by simp, (Known.made w 3 #[.int .i64 y]).cell 0⟩
    | succ k => simp at hk
  refine wpList_append_many elemI hgd s x ho hs hx rfl (fun u hu => by simp at hu; subst hu; rfl) hr (Grows.alloc hg _) (by simp; unfold maxLen; omega) (by simpa using hl2) (by simp; omega) ?_
  intro v' w' h1 h2 h4
  have hT : ZTab w' B v' (l ++ [y]) := by unfold ZTab; rw [List.map_append]; exact h1
  obtain ⟨A, c, hv, _, _⟩ := hT.form
  rw [List.length_append] at hv
  have hv : v' = .slice A (l.length + 1) c := hv
  subst hv
  refine h A c w' hT ((Grows.alloc hu _).kept h2 hap) ?_ ((Grows.alloc hg _).below h2 (hb.alloc (Nat.le_trans hB0 hB) _) hB0 (by simp; omega))
  rcases h4 with h4 | h4
  · exact show ApartV _ _ by unfold ApartV; rw [h4]; exact hap
  · refine show ApartV _ _ from ?_
    unfold ApartV
    rw [h4]
    cases hk : u.ownBlock with
    | none => exact .inl rfl
    | some k => exact .inr (fun e => by injection e with e; have := (hu.lt k hk).2; simp at e; omega)
theorem Grows.typed {W : World} {B : Nat} {e : TypeId} {v : Value} {xs : List Value} (h : Grows W B e v xs) : ∀ g, v.ownBlock = some g → ∃ cur, W.heap[g]? = some (.cells cur e (0, 0)) := by
  intro g hg
  rcases h.2 with ⟨rfl, _⟩ | ⟨g', cap, cur, rfl, _, h1, _⟩
  · simp [Value.ownBlock] at hg
  · simp [Value.ownBlock] at hg
    subst hg
    exact ⟨cur, h1⟩
theorem set_cells {W : World} {g : Nat} {S : List Int} {cs : Array Value} {t : TypeId} {f : Nat × Nat} (h : IntSet W g S) (h1 : W.heap[g]? = some (.cells cs t f)) : False := by
  obtain ⟨D, n, _, _, ⟨es, clock, h2, _⟩, _⟩ := h
  rw [h1] at h2
  injection h2 with h2
  cases h2
theorem set_apart {W : World} {B g : Nat} {e : TypeId} {v : Value} {xs : List Value} {S : List Int} (h : IntSet W g S) (h' : Grows W B e v xs) : some g ≠ v.ownBlock := fun e0 => by
  obtain ⟨c, h1⟩ := Grows.typed h' g e0.symm
  exact set_cells h h1
theorem reads_apart {W V : World} {A : Option Addr} {xs : List Value} {g : Nat} {S : List Int} (h : Reads W A xs) (hs : IntSet W g S) (hg : W.grownBy V (some g)) : Reads V A xs := fun k v hv => by
  obtain ⟨b, o, h1, h2, h3⟩ := h k v hv
  have hne : b ≠ g := by
    rintro rfl
    unfold World.cell? at h3
    have hh : ∃ o', W.heap[b]? = some o' := ⟨_, Array.getElem?_eq_getElem h2⟩
    obtain ⟨D, n, _, _, ⟨es, clock, h4, _⟩, _⟩ := hs
    simp [h4] at h3
  exact ⟨b, o, h1, Nat.lt_of_lt_of_le h2 hg.size, (World.cell?_of_block (a := ⟨b, o + k, none⟩) (hg.block b h2 (fun e => hne (by injection e)))).trans h3⟩
end Go.Proofs.Ytpnfcjodjgbdbaa.Ring
