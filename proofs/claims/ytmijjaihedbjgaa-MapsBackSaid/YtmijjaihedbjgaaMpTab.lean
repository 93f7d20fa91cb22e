/-
  Slices of numbers of the call's own: cloned, made by append, written to; slices.Equal of numbers and of changes; boxes of maps and steps; results that lie in memory.
-/
import Derived.Test.YtmijjaihedbjgaaMpMem
import Derived.Test.YtmijjaihedbjgaaShelf
import Derived.Laws.StructEq
import Derived.Laws.ResultCell
import Derived.BigQuiet
namespace Go.Proofs.Ytmijjaihedbjgaa.Mps
set_option linter.unusedVariables false
set_option linter.unusedSimpArgs false
open Go.RowKit Mem

/-- An answer; what was there before is as it was. -/
def Gave (v : Value) (W : World) (e : Ending) (W' : World) : Prop := e = .returned v ∧ Below W.heap.size W W'
abbrev ints (l : List Int) : List Value := l.map (Value.int .i64)
theorem infoI : (Try.prog.info? 3).map (fun i => (i.zero, i.size, i.bytes)) = some (some (.int .i64 0), 1, 8) := by kernel_rfl
theorem elemI : Elem 22 3 8 := by
  obtain ⟨i, hi, hz0, hz1, hz2⟩ := info_parts infoI
  exact ⟨Try.underlying22, i, _, hi, hz0, hz1, hz2, rfl⟩
/-- v is a slice of the call's own (block B or later) of the numbers l. -/
def ZTab (W : World) (B : Nat) (v : Value) (l : List Int) : Prop := Grows W B 3 v (l.map (Value.int .i64))
section
variable {W V : World} {B : Nat} {v : Value} {l : List Int}
theorem ZTab.nil (W : World) (B : Nat) : ZTab W B (.slice none 0 0) [] := Grows.nil W B _
theorem ZTab.form (h : ZTab W B v l) : ∃ A cap, v = .slice A l.length cap ∧ l.length ≤ cap ∧ cap ≤ maxLen := by
  have := Grows.form h; simpa using this
theorem ZTab.later (h : ZTab W B v l) (hb : Below W.heap.size W V) : ZTab V B v l := Grows.later h hb
theorem ZTab.drew (h : ZTab W B v l) : ZTab W.drew B v l := h
theorem ZTab.lt (h : ZTab W B v l) : ∀ k, v.ownBlock = some k → B ≤ k ∧ k < W.heap.size := Grows.lt h
theorem ZTab.kept {row : Option Nat} (h : ZTab W B v l) (hg : W.grownBy V row) (hne : v.ownBlock = none ∨ v.ownBlock ≠ row) : ZTab V B v l := Grows.kept h hg hne
theorem ZTab.reads {A : Option Addr} {n cap : Nat} (h : ZTab W B (.slice A n cap) l) : Reads W A (l.map (Value.int .i64)) := Grows.reads h
end
/-- 'append(v, x)'. -/
theorem wpList_append_z {ops : Array Oper} {rest : List Oper} {o : Oper} {a : Act} {Q : Exit → Act → World → Prop} (hgd : o.guard = none) (s x : Operand)
    (ho : o.op = .call { callee := .builtin .append, args := #[s, x], argTypes := #[22, 22] }) {w : World} {y : Int} {B : Nat} {v : Value} {l : List Int} {n : Nat} (hs : a.eval s = v)
    {sz : Nat} (hx : a.eval x = .slice (some ⟨sz, 0, none⟩) 1 1) (hsz : w.heap.size = sz) (hg : ZTab w B v l) (hn : l.length = n) (hl2 : (n + 1) * 8 ≤ 140737488355328) (hB : B ≤ w.heap.size) {B0 : Nat} {w0 : World} (hb : Below B0 w0 w) (hB0 : B0 ≤ B)
    (h : ∀ A c w', Hid (ZTab w' B (.slice A (n + 1) c) (l ++ [y])) → Hid ((w.alloc (.cells #[.int .i64 y] 3)).grownBy w' v.ownBlock) → Hid (Below B0 w0 w') → wpList Try.prog ops Q rest (a.put o.dst (.slice A (n + 1) c)) w') :
    wpList Try.prog ops Q (o :: rest) a (w.alloc (.cells #[.int .i64 y] 3)) := by
  subst hsz
  subst hn
  refine wpList_append_one elemI hgd s x ho rfl hs hx hg (by simp; unfold maxLen; omega) (by simpa using hl2) hB ?_
  intro v' w' h1 h2
  have hT : ZTab w' B v' (l ++ [y]) := by unfold ZTab; rw [List.map_append]; exact h1
  obtain ⟨A, c, hv, _, _⟩ := hT.form
  rw [List.length_append] at hv
  have hv : v' = .slice A (l.length + 1) c := hv
  subst hv
  exact h A c w' hT h2 ((Grows.alloc hg _).below h2 (hb.alloc (Nat.le_trans hB0 hB) _) hB0 (by simp; omega))

/-- The cells of numbers, as the shelf's contracts take them. -/
theorem reads_cells {W : World} {A : Option Addr} {l : List Int} (h : Reads W A (l.map (Value.int .i64))) (h0 : 0 < l.length) : ∃ b o, A = some ⟨b, o, none⟩ ∧ b < W.heap.size ∧ ∀ j, j < l.length → W.cell? ⟨b, o + j, none⟩ = some (.int .i64 (l.getD j 0)) := by
  have key : ∀ j (hj : j < l.length), ∃ b o, A = some ⟨b, o, none⟩ ∧ b < W.heap.size ∧ W.cell? ⟨b, o + j, none⟩ = some (.int .i64 (l.getD j 0)) := fun j hj => by
    obtain ⟨b, o, h1, h2, h3⟩ := h j (.int .i64 l[j]) (by rw [List.getElem?_map, List.getElem?_eq_getElem hj]; rfl)
    exact ⟨b, o, h1, h2, by rw [h3, List.getD_eq_getElem?_getD, List.getElem?_eq_getElem hj]; rfl⟩
  obtain ⟨b, o, h1, h2, _⟩ := key 0 h0
  refine ⟨b, o, h1, h2, fun j hj => ?_⟩
  obtain ⟨b', o', e, _, h3⟩ := key j hj
  rw [h1] at e
  injection e with e
  injection e with e1 e2
  subst e1 e2
  exact h3
theorem ZTab.alloc {W : World} {B : Nat} {v : Value} {l : List Int} (h : ZTab W B v l) (o : Obj) : ZTab (W.alloc o) B v l := Grows.alloc h o
theorem ZTab.put {W : World} {B : Nat} {A : Option Addr} {n cap k : Nat} {l : List Int} (h : ZTab W B (.slice A n cap) l) (hn : l.length = n) (hk : k < n) : ∃ g x, A = some ⟨g, 0, none⟩ ∧ B ≤ g ∧ g < W.heap.size ∧ l[k]? = some x ∧ W.cell? ⟨g, k, none⟩ = some (.int .i64 x) ∧ W.frozen? ⟨g, k, none⟩ = false ∧
    ∀ y : Int, ZTab (W.setCell ⟨g, k, none⟩ (.int .i64 y)) B (.slice A n cap) (l.set k y) := by
  subst hn
  have e := List.getElem?_eq_getElem hk
  rcases h.2 with ⟨_, h0⟩ | ⟨g, c, cur, hv, _, hg, _⟩
  · simp at h0; subst h0; simp at hk
  · injection hv with hA
    subst hA
    have hown : Value.ownBlock (.slice (some ⟨g, 0, none⟩) l.length cap) = some g := rfl
    have h' : W.ownsRow B 3 1 (.slice (some ⟨g, 0, none⟩) l.length cap) l.length (l.map (Value.int .i64)) := by
      have h3 := h; unfold ZTab Grows at h3; rw [List.length_map] at h3; exact h3
    refine ⟨g, l[k], rfl, (h.lt g hown).1, (h.lt g hown).2, e, ?_, h'.frozenAt k, fun y => ?_⟩
    · rw [h'.cellAt k (by omega), List.getElem?_map, e]; rfl
    · have := (h'.stored k (.int .i64 y)).1
      unfold ZTab Grows
      rw [List.length_map, List.length_set, List.map_set]
      exact this
set_option maxRecDepth 100000 in
theorem z_none {W : World} {l : List Int} (h : Reads W none (l.map (Value.int .i64))) : l = [] := by
  cases l with
  | nil => rfl
  | cons x l => obtain ⟨b, o, h1, _⟩ := h 0 (.int .i64 x) rfl; cases h1
theorem z_of_row {W : World} {B : Nat} {v : Value} {l : List Int} {n : Nat} (hn : l.length = n) (h : W.ownsRow B 3 1 v n (l.map (Value.int .i64))) : ∃ A c, v = .slice A n c ∧ ZTab W B (.slice A n c) l := by
  have hz : ZTab W B v l := by unfold ZTab Grows; rw [List.length_map, hn]; exact h
  obtain ⟨A, c, e, _, _⟩ := hz.form
  rw [hn] at e
  subst e
  exact ⟨A, c, rfl, hz⟩
theorem clone_z (A : Option Addr) (l : List Int) (n c : Nat) (W : World) (hn : l.length = n) (hbig : n ≤ 17592186044416) (hx : Reads W A (l.map (Value.int .i64))) :
    Calls Try.prog 23 #[.slice A n c] W fun e W' => ∃ A' c', e = .returned (.slice A' n c') ∧ ZTab W' W.heap.size (.slice A' n c') l ∧ Below W.heap.size W W' := by
  cases A with
  | none =>
    obtain rfl := z_none hx
    obtain rfl : n = 0 := hn.symm
    refine (Try.slices_Clone_int_nil 0 c W).mono ?_
    rintro e w ⟨rfl, rfl⟩
    exact ⟨none, 0, rfl, ZTab.nil _ _, Below.refl _ _⟩
  | some a =>
    rcases Nat.eq_zero_or_pos n with h0 | h0
    · subst h0
      obtain rfl := List.eq_nil_of_length_eq_zero hn
      refine (Try.slices_Clone_int_zero a c W).mono ?_
      rintro e w ⟨v, rfl, hr, _, hb⟩
      obtain ⟨A', c', rfl, hz⟩ := z_of_row (l := []) rfl hr
      exact ⟨A', c', rfl, hz, hb⟩
    · obtain ⟨b, o, e, _, hc⟩ := reads_cells hx (by omega)
      injection e with e
      subst e
      refine (Try.slices_Clone_int b o n c l W (by omega) (by omega) hc).mono ?_
      rintro e w ⟨v, rfl, hr, _, hb⟩
      rw [List.take_of_length_le (by omega)] at hr
      obtain ⟨A', c', rfl, hz⟩ := z_of_row hn hr
      exact ⟨A', c', rfl, hz, hb⟩
theorem run_append_none_any (w : World) (base : Nat) (t ty e : TypeId) (i : TypeInfo) (size c : Nat) (ht : Try.prog.underlying t = some (.slice e)) (hi : Try.prog.info? e = some i)
    (v : Value) (n : Nat) (xs : List Value) (hown : w.ownsRow base e size v n xs) :
    (Builtin.append_ #[t, t] ty #[v, .slice none 0 c]).run Try.prog w = .ok v w := by
  rcases hown.2 with ⟨rfl, rfl⟩ | ⟨g, cap, cur, rfl, _, _, hnc, _⟩
  · simp [Builtin.append_, run_underlying ht, sizeOf, typeInfo, hi, Builtin.lenOf, Builtin.firstCells]
  · simp [Builtin.append_, run_underlying ht, sizeOf, typeInfo, hi, Builtin.lenOf, Builtin.firstCells, hnc, storeCells]
set_option maxRecDepth 100000 in
theorem wpList_append_many {t e : TypeId} {bytes : Nat} (E : Elem t e bytes) {ops : Array Oper} {rest : List Oper} {o : Oper} {a : Act} {Q : Exit → Act → World → Prop} (hgd : o.guard = none) (s x : Operand)
    (ho : o.op = .call { callee := .builtin .append, args := #[s, x], argTypes := #[t, t] }) {w : World} {B : Nat} {v : Value} {xs us : List Value} (hs : a.eval s = v) {A : Option Addr} {m c : Nat}
    (hx : a.eval x = .slice A m c) (hm : us.length = m) (hu : ∀ u ∈ us, u.oneCell' = true) (hr : Reads w A us) (hg : Grows w B e v xs) (hl : xs.length + m ≤ maxLen) (hl2 : (xs.length + m) * bytes ≤ 140737488355328) (hB : B ≤ w.heap.size)
    (h : ∀ v' w', Grows w' B e v' (xs ++ us) → w.grownBy w' v.ownBlock → (v'.ownBlock = v.ownBlock ∨ v'.ownBlock = some w.heap.size) → wpList Try.prog ops Q rest (a.put o.dst v') w') :
    wpList Try.prog ops Q (o :: rest) a w := by
  obtain ⟨i, z, hi, hz0, hz1, hz2, hz3⟩ := E.hi
  cases A with
  | none =>
    have hus : us = [] := by
      cases us with
      | nil => rfl
      | cons u us => obtain ⟨b, o', h1, _⟩ := hr 0 u rfl; cases h1
    subst hus
    obtain rfl : m = 0 := hm.symm
    refine wpList_plain hgd fun K hK => ?_
    have hrun := run_append_none_any w B t o.type e i 1 c E.ht hi v xs.length xs hg
    unfold Oper.wp
    simp [execOp, ho, resolve, invoke, builtin, hs, hx, hrun, Result.andThen]
    exact hK _ _ (h v w (by simpa using hg) (World.grownBy.refl w _) (.inl rfl))
  | some ad =>
    refine wpList_append_own_at (w := w) hgd s x t ho B e i z 1 bytes E.ht hi hz0 hz1 hz2 hz3 (by decide) v xs.length xs hs hg ad m c us hx (by omega) ?_ hu hl hl2 hB ?_
    · intro j u hj
      obtain ⟨b, o', h1, _, h3⟩ := hr j u hj
      injection h1 with h1
      subst h1
      rw [Addr.add_lit]; exact h3
    · intro v' w' h1 h2 _ h4
      refine h v' w' ?_ h2 h4
      unfold Grows
      rw [List.length_append, hm]
      exact h1
/-- 'append(v, xs...)' of numbers. -/
theorem wpList_append_zs {ops : Array Oper} {rest : List Oper} {o : Oper} {a : Act} {Q : Exit → Act → World → Prop} (hgd : o.guard = none) (s x : Operand)
    (ho : o.op = .call { callee := .builtin .append, args := #[s, x], argTypes := #[22, 22] }) {w : World} {B : Nat} {v : Value} {l l' : List Int} {n m : Nat} (hs : a.eval s = v) {A : Option Addr} {c : Nat}
    (hx : a.eval x = .slice A m c) (hn : l.length = n) (hm : l'.length = m) (hr : Reads w A (l'.map (Value.int .i64))) (hg : ZTab w B v l) (hl2 : (n + m) * 8 ≤ 140737488355328) (hB : B ≤ w.heap.size) {B0 : Nat} {w0 : World} (hb : Below B0 w0 w) (hB0 : B0 ≤ B) (hs0 : B0 ≤ w.heap.size)
    (h : ∀ A' c' w', Hid (ZTab w' B (.slice A' (n + m) c') (l ++ l')) → Hid (w.grownBy w' v.ownBlock) → Hid (Below B0 w0 w') → wpList Try.prog ops Q rest (a.put o.dst (.slice A' (n + m) c')) w') :
    wpList Try.prog ops Q (o :: rest) a w := by
  subst hn hm
  refine wpList_append_many elemI hgd s x ho hs hx (by simp) (fun u hu => by obtain ⟨z, _, rfl⟩ := List.mem_map.1 hu; rfl) hr hg (by simp; unfold maxLen; omega) (by simpa using hl2) hB ?_
  intro v' w' h1 h2 _
  have hT : ZTab w' B v' (l ++ l') := by unfold ZTab; rw [List.map_append]; exact h1
  obtain ⟨A', c', hv, _, _⟩ := hT.form
  rw [List.length_append] at hv
  subst hv
  exact h A' c' w' hT h2 (hb.grown h2 hs0 fun k hk => Nat.le_trans hB0 (hg.lt k hk).1)

/-! ### slices.Equal -/
theorem equalZ_c (A B : Option Addr) (xs ys : List Int) (n m ca cb : Nat) (W : World) (hn : xs.length = n) (hm : ys.length = m) (hb1 : n ≤ 9223372036854775807) (hb2 : m ≤ 9223372036854775807) (hx : Reads W A (xs.map (Value.int .i64))) (hy : Reads W B (ys.map (Value.int .i64))) :
    Calls Try.prog 24 #[.slice A n ca, .slice B m cb] W (Gave (.bool (decide (xs = ys))) W) := by
  by_cases h : n = m
  · subst h
    by_cases h0 : n = 0
    · subst h0
      obtain rfl := List.eq_nil_of_length_eq_zero hn
      obtain rfl := List.eq_nil_of_length_eq_zero hm
      refine (Try.slices_Equal_int_empty A B ca 0 cb W hb2).mono ?_
      rintro e w ⟨rfl, rfl⟩
      exact ⟨rfl, Below.refl _ _⟩
    · obtain ⟨b1, o1, rfl, _, c1⟩ := reads_cells hx (by omega)
      obtain ⟨b2, o2, rfl, _, c2⟩ := reads_cells hy (by omega)
      refine (Try.slices_Equal_int b1 o1 n ca b2 o2 n cb xs ys W (by omega) (by omega) hb1 hb2 c1 c2).mono ?_
      rintro e w ⟨rfl, q, rfl⟩
      refine ⟨?_, below_drewN (Below.refl _ _) _⟩
      rw [List.take_of_length_le (by omega), List.take_of_length_le (by omega)]
      congr 2
      rw [Bool.eq_iff_iff, beq_iff_eq, decide_eq_true_iff]
  · refine (Try.slices_Equal_int_lens A B n ca m cb W h).mono ?_
    rintro e w ⟨rfl, rfl⟩
    exact ⟨by rw [decide_eq_false (fun e => h (by rw [← hn, ← hm, e]))], Below.refl _ _⟩
def eqCh (xs ys : List Ch) : Bool := decide (xs = ys)
theorem eq_take {α : Type} {xs ys : List α} {k : Nat} (h : xs.take k = ys.take k) {x : α} (hx : xs[k]? = some x) (hy : ys[k]? = some x) : xs.take (k + 1) = ys.take (k + 1) := by
  rw [List.take_add_one, List.take_add_one, h, hx, hy]
theorem eqCh_len {xs ys : List Ch} (h : xs.length ≠ ys.length) : eqCh xs ys = false := decide_eq_false (fun e => h (by rw [e]))
theorem eqCh_at {xs ys : List Ch} {k : Nat} {x y : Ch} (hx : xs[k]? = some x) (hy : ys[k]? = some y) (h : x ≠ y) : eqCh xs ys = false := decide_eq_false (fun e => h (by subst e; rw [hx] at hy; exact Option.some.inj hy))
theorem eqCh_all {xs ys : List Ch} {n : Nat} (h1 : xs.length = n) (h2 : ys.length = n) (h : xs.take n = ys.take n) : eqCh xs ys = true := decide_eq_true (by rw [List.take_of_length_le (by omega), List.take_of_length_le (by omega)] at h; exact h)

theorem neq_ch (a b c a' b' c' : Int) (w : World) : (binOp .neq 33 (.agg #[.int .i64 a, .int .i64 b, .int .i64 c]) (.agg #[.int .i64 a', .int .i64 b', .int .i64 c'])).run Try.prog w = .ok (.bool (!(a == a' && b == b' && c == c'))) w := by
  have h0 : Try.prog.underlying 33 = some (.struct (Try.prog.fieldsOf 33)) := by kernel_rfl
  have h1 : Try.prog.stoodInHeld 33 = false := by kernel_rfl
  have h2 : Try.prog.fieldsOf 33 = #[⟨ "At", 3, 0, false, "", "", 0⟩, ⟨ "From", 3, 1, false, "", "", 8⟩, ⟨ "To", 3, 2, false, "", "", 16⟩] := by kernel_rfl
  have hi := Try.underlying3
  rw [run_neq_struct, run_equalIn_agg _ _ _ _ _ h0 h1, h2]
  simp [Op.eqFields, go_sem, hi]
  cases h3 : a == a' <;> cases h4 : b == b' <;> cases h5 : c == c' <;> simp_all
theorem guard_ch (op : BinOp) (x y : Operand) (xs ys : Array Value) (w : World) : (eqGuard op 33 x y (.agg xs) (.agg ys)).run Try.prog w = .ok () w := run_eqGuard_agg w op _ x y xs ys (by kernel_rfl)
set_option maxHeartbeats 2000000 in
theorem equalCh_c (A B : Option Addr) (xs ys : List Ch) (n m ca cb : Nat) (W : World) (hn : xs.length = n) (hm : ys.length = m) (hbig : n ≤ 9223372036854775807) (hx : CRds W A xs) (hy : CRds W B ys) :
    Calls Try.prog 12 #[.slice A n ca, .slice B m cb] W (Gave (.bool (eqCh xs ys)) W) := by
  by_cases e : n = m
  · subst e
    have HX := Lib.hid hx
    have HY := Lib.hid hy
    have HN := Lib.hid hn
    have HM := Lib.hid hm
    clear hx hy hn hm
    go_enter Try.func12, Try.ntmps12
    go_wp2
    go_loopw [13] (fun i wr => ∃ k : Nat, k ≤ n ∧ i = .int .i64 k ∧ Drawn W wr ∧ xs.take k = ys.take k) (fun i _ => n - (intOf i).toNat)
    case atStart => exact ⟨0, by omega, rfl, Drawn.refl _, rfl⟩
    case round =>
      obtain ⟨k, hk, rfl, hD, hT⟩ := hrel
      have HD := Lib.hid hD
      have HT := Lib.hid hT
      have hb := hD.below W.heap.size
      have HB := Lib.hid hb
      clear hD hT
      by_cases hlt : k < n
      · have kx : k < xs.length := by rw [HN.out]; exact hlt
        have ky : k < ys.length := by rw [HM.out]; exact hlt
        obtain ⟨b1, o1, rfl, _, x0, x1, x2⟩ := (HX.out.below hb).ext kx
        obtain ⟨b2, o2, rfl, _, y0, y1, y2⟩ := (HY.out.below hb).ext ky
        have EX := Lib.hid (show xs[k]? = some xs[k] from List.getElem?_eq_getElem kx)
        have EY := Lib.hid (show ys[k]? = some ys[k] from List.getElem?_eq_getElem ky)
        generalize hu : xs[k] = u at *
        generalize hv : ys[k] = v at *
        obtain ⟨u0, u1, u2⟩ := u
        obtain ⟨v0, v1, v2⟩ := v
        have i1 : (k : Int) < (n : Int) := by omega
        clear hu hv hb kx ky
        have ne := fun w => neq_ch u0 u1 u2 v0 v1 v2 w
        have gd := fun op x y w => guard_ch op x y #[.int .i64 u0, .int .i64 u1, .int .i64 u2] #[.int .i64 v0, .int .i64 v1, .int .i64 v2] w
        by_cases e : (u0, u1, u2) = (v0, v1, v2)
        · have eb : ((u0 : Int) == v0 && (u1 : Int) == v1 && (u2 : Int) == v2) = true := by
            injection e with e1 e2; injection e2 with e2 e3; subst e1 e2 e3; simp
          have HE := Lib.hid e
          rw [eb] at ne
          clear e eb
          go_wp2
          go_quiet (fail)
          go_wp2
          go_roundw
          case rel => exact ⟨k + 1, by omega, by go_num, HD.out.more _, eq_take HT.out EX.out (by rw [HE.out]; exact EY.out)⟩
          case measure => simp [intOf]; omega
        · have eb : ((u0 : Int) == v0 && (u1 : Int) == v1 && (u2 : Int) == v2) = false := by
            cases h : ((u0 : Int) == v0 && (u1 : Int) == v1 && (u2 : Int) == v2) with
            | false => rfl
            | true =>
              simp only [Bool.and_eq_true, beq_iff_eq] at h
              exact absurd (by rw [h.1.1, h.1.2, h.2]) e
          have HE := Lib.hid (eqCh_at EX.out EY.out e)
          rw [eb] at ne
          clear e eb
          go_wp2
          go_quiet (fail)
          go_wp2
          go_ret
          exact ⟨by rw [HE.out]; rfl, below_drewN HB.out _⟩
      · obtain rfl : k = n := by omega
        have HE := Lib.hid (eqCh_all HN.out HM.out HT.out)
        clear hb
        go_wp2
        go_ret
        exact ⟨by rw [HE.out]; rfl, HB.out⟩
  · have n1 : ((n : Int) != (m : Int)) = true := by simp; omega
    have E := Lib.hid (eqCh_len (xs := xs) (ys := ys) (by omega))
    clear hx hy hn hm e
    go_enter Try.func12, Try.ntmps12
    go_wp2
    go_ret
    exact ⟨by rw [E.out]; rfl, Below.refl _ _⟩

/-! ### Boxes -/
theorem boxM (w : World) (a b : Value) : (w.alloc (.cells #[a, b] 24)).cell? ⟨w.heap.size, 0, none⟩ = some a ∧ (w.alloc (.cells #[a, b] 24)).cell? ⟨w.heap.size, 1, none⟩ = some b :=
  ⟨(Known.made w _ #[a, b]).cell 0, (Known.made w _ #[a, b]).cell 1⟩
theorem boxS (w : World) (a b : Value) : (w.alloc (.cells #[a, b] 27)).cell? ⟨w.heap.size, 0, none⟩ = some a ∧ (w.alloc (.cells #[a, b] 27)).cell? ⟨w.heap.size, 1, none⟩ = some b :=
  ⟨(Known.made w _ #[a, b]).cell 0, (Known.made w _ #[a, b]).cell 1⟩
theorem boxC (w : World) (a b c : Value) : (w.alloc (.cells #[a, b, c] 33)).cell? ⟨w.heap.size, 0, none⟩ = some a ∧ (w.alloc (.cells #[a, b, c] 33)).cell? ⟨w.heap.size, 1, none⟩ = some b ∧ (w.alloc (.cells #[a, b, c] 33)).cell? ⟨w.heap.size, 2, none⟩ = some c :=
  ⟨(Known.made w _ #[a, b, c]).cell 0, (Known.made w _ #[a, b, c]).cell 1, (Known.made w _ #[a, b, c]).cell 2⟩
theorem sizeMap : (Try.prog.info? 24).map (fun i => i.size) = some 2 := by kernel_rfl
theorem sizeStep : (Try.prog.info? 27).map (fun i => i.size) = some 2 := by kernel_rfl
/-- A result whose first part lies in memory. -/
theorem results_row2 {fn : Func} {p u : Tmp} {ty : TypeId} (h : fn.results = #[.cell p ty, .tmp u]) (tmps : Array Value) (w : World) (g : Nat) (t : TypeId) (cs : Array Value) (fr : Nat × Nat) (fs : Array Field)
    (hp : tmps.getD p undef = .pointer (some ⟨g, 0, none⟩)) (hg : w.heap[g]? = some (.cells cs t fr))
    (hu : Try.prog.underlying ty = some (.struct fs)) (hi : (Try.prog.info? ty).map (·.size) = some cs.size) {r : Value} (hr : tmps.getD u undef = r) :
    (results fn tmps).run Try.prog w = .ok (.tuple #[.agg cs, r]) w := by
  subst hr
  rw [results_cell_tmp h, hp]
  simp [asAddr, Result.andThen, run_loadVar_row w g t ty cs fr (.struct fs) hg hu rfl hi]
end Go.Proofs.Ytmijjaihedbjgaa.Mps
