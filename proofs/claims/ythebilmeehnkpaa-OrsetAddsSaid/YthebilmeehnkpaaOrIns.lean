/-
  slices.Clone and slices.Insert of tags.
-/
import Derived.Test.YthebilmeehnkpaaOrMem
import Derived.Test.YthebilmeehnkpaaGApp
import Derived.Test.YthebilmeehnkpaaShTag
import Derived.Shelf.RegionOpenPlain
import Derived.Lib.SliceRun
import Derived.Lib.AppendZerosOnto
import Derived.Lib.Overlaps
import Derived.Laws.Externs
import Derived.Laws.IdiomCopy
import Derived.Laws.NewBlocks
namespace Go.Proofs.Ythebilmeehnkpaa.Ors
set_option linter.unusedVariables false
set_option linter.unusedSimpArgs false
open Go.RowKit Go.Shelf Mem Gt
open Jump (Gave equalZ_c)

/-! ### Clone -/
def NewTg (l : List Tg) (n : Nat) (W : World) (e : Ending) (W' : World) : Prop := ∃ A' c', e = .returned (.slice A' n c') ∧ Tab tgE W' W.heap.size tT (.slice A' n c') l ∧ Below W.heap.size W W'
set_option maxRecDepth 100000 in
set_option maxHeartbeats 1000000 in
theorem clone_zero_tg (ad : Addr) (c : Nat) (W : World) :
    Calls Try.prog 19 #[.slice (some ad) 0 c] W (NewTg [] 0 W) := by
  have q22 : ∀ (w : World) (a : Option Addr) (n c n' c' : Nat), (binOp .eql 22 (.slice a n c) (.slice none n' c')).run Try.prog w = .ok (.bool a.isNone) w := fun w a n c n' c' => Go.Lib.run_eql_slice_nil w _ _ a n c n' c' Try.underlying22
  go_enter Try.func19, Try.ntmps19
  go_wp2
  go_ret
  exact ⟨some ⟨W.heap.size, 0, none⟩, 0, rfl, World.ownsRow_made W #[] 0 (Nat.le_refl _) (Nat.zero_le _) (by simp), (Below.refl _ W).alloc (Nat.le_refl _) _⟩
set_option maxRecDepth 100000 in
theorem clone_tg (A : Option Addr) (l : List Tg) (n c : Nat) (W : World) (hn : l.length = n) (hbig : n ≤ 1099511627776) (hx : Reads W A (flat tgE l)) :
    Calls Try.prog 19 #[.slice A n c] W (NewTg l n W) := by
  rcases Nat.eq_zero_or_pos n with h0 | h0
  · subst h0
    obtain rfl := List.eq_nil_of_length_eq_zero hn
    cases A with
    | none =>
      refine (AnyE.slices_Clone_nil Try.cloneTg 0 c W).mono ?_
      rintro e w ⟨rfl, rfl⟩
      exact ⟨none, 0, rfl, Tab.nil _ _ _, Below.refl _ _⟩
    | some a => exact clone_zero_tg a c W
  · obtain ⟨i, hi, z, hz0, hz1, hz2, hz3⟩ := elTg.hi
    have kl : 0 < l.length := by omega
    obtain ⟨b, o, rfl, _, _⟩ := tg_at hx (List.getElem?_eq_getElem kl)
    refine (AnyE.slices_Clone Try.cloneTg i z 3 24 hi hz0 hz1 hz2 hz3 (by omega) Try.sizeOf37 b o n c (flat tgE l) W (by rw [flat_len, hn]) (by unfold maxLen; omega) (by omega) (fun j u hj => ?_) (flat_one tgE l)).mono ?_
    · obtain ⟨b', o', e, _, h3⟩ := hx j u hj
      injection e with e
      injection e with e1 e2
      subst e1 e2
      exact h3
    · rintro e w ⟨v, rfl, hr, _, hb⟩
      have hT : Tab tgE w W.heap.size tT v l := by unfold Tab; rw [hn]; exact hr
      obtain ⟨A', c', hv, hc, _⟩ := hT.form
      rw [hn] at hv
      subst hv
      exact ⟨A', c', rfl, hT, hb⟩

/-! ### copy of elements of more cells -/
theorem run_copy_wide (w : World) (dT sT ty elem : TypeId) (b o dLen dCap : Nat) (a : Addr) (sLen sCap : Nat) (cs : List Value) (sz k : Nat)
    (hu : Try.prog.underlying dT = some (.slice elem)) (hs : (Try.prog.info? elem).map (·.size) = some sz) (hk : Nat.min sLen dLen = k) (hn : cs.length = k * sz)
    (hsrc : ∀ j v, cs[j]? = some v → w.cell? (a.add j) = some v) (hc : ∀ j, j < cs.length → (w.cell? ⟨b, o + j, none⟩).isSome = true) (hf : ∀ j, j < cs.length → w.frozen? ⟨b, o + j, none⟩ = false) (h1 : ∀ v ∈ cs, v.oneCell' = true) :
    (Builtin.copy_ #[dT, sT] ty #[.slice (some ⟨b, o, none⟩) dLen dCap, .slice (some a) sLen sCap]).run Try.prog w = .ok (goInt k) (w.setCells b o cs) := by
  have hl := run_loadCells_list (P := Try.prog) w a cs hsrc
  have hst := run_storeCells_cells (P := Try.prog) b o cs 0 w (by simpa using hc) (by simpa using hf) h1
  cases hq : Try.prog.info? elem with
  | none => simp [hq] at hs
  | some i =>
    have hi : i.size = sz := by simpa [hq] using hs
    simp [Builtin.copy_, run_underlying hu, Builtin.lenOf, Builtin.firstCells, sizeOf, typeInfo, hq, hi, hk, ← hn, hl, hst]
theorem below_setCells {B g : Nat} {w0 : World} (hg : B ≤ g) : ∀ (vs : List Value) (o : Nat) (W : World), Below B w0 W → Below B w0 (W.setCells g o vs)
  | [], _, _, h => h
  | v :: r, o, W, h => below_setCells hg r (o + 1) _ (h.setCell (p := ⟨g, o, none⟩) hg v)
theorem isSome_setCells (b : Nat) (vs : List Value) (o : Nat) (w : World) (h : ∀ j, j < vs.length → (w.cell? ⟨b, o + j, none⟩).isSome = true) (k : Nat) (hk : (w.cell? ⟨b, k, none⟩).isSome = true) : ((w.setCells b o vs).cell? ⟨b, k, none⟩).isSome = true := by
  by_cases hin : o ≤ k ∧ k < o + vs.length
  · have := World.cell?_setCells_in b vs o w h (k - o) (by omega)
    rw [show o + (k - o) = k by omega] at this
    rw [this]; rfl
  · rw [World.cell?_setCells_out b vs o w ⟨b, k, none⟩ (fun _ _ => by show k < o ∨ o + vs.length ≤ k; omega)]
    exact hk
theorem size_setCells (b : Nat) : ∀ (vs : List Value) (o : Nat) (w : World), (w.setCells b o vs).heap.size = w.heap.size
  | [], _, _ => rfl
  | v :: r, o, w => by rw [World.setCells, size_setCells b r]; simp [World.setCell]
theorem heap_setCells (b : Nat) : ∀ (vs : List Value) (o : Nat) (V U : World), V.heap = U.heap → (V.setCells b o vs).heap = (U.setCells b o vs).heap
  | [], _, _, _, h => h
  | v :: r, o, V, U, h => by
    rw [World.setCells, World.setCells]
    exact heap_setCells b r _ _ _ (by simp only [World.setCell]; rw [h])
theorem cell_heap {V U : World} (h : V.heap = U.heap) (a : Addr) : V.cell? a = U.cell? a := by unfold World.cell?; rw [h]
def insL (l : List Tg) (i : Nat) (x : Tg) : List Tg := l.take i ++ x :: l.drop i
/-- The cells of the list with one more. -/
theorem ins_cells {l : List Tg} {i j : Nat} {x : Tg} {v : Value} (hi : i ≤ l.length) (h : (flat tgE (insL l i x))[j]? = some v) :
    (j < i * 3 ∧ (flat tgE l)[j]? = some v) ∨ (i * 3 ≤ j ∧ j < i * 3 + 3 ∧ (tgE.enc x)[j - i * 3]? = some v) ∨ (i * 3 + 3 ≤ j ∧ (flat tgE (l.drop i))[j - (i * 3 + 3)]? = some v) := by
  have hT : (flat tgE (l.take i)).length = i * 3 := by rw [flat_len, List.length_take]; congr 1; omega
  have hx : (tgE.enc x).length = 3 := tgE.len x
  unfold insL at h
  rw [flat_app, flat_cons] at h
  by_cases h1 : j < i * 3
  · rw [List.getElem?_append_left (by omega)] at h
    refine .inl ⟨h1, ?_⟩
    have e : flat tgE l = flat tgE (l.take i) ++ flat tgE (l.drop i) := by rw [← flat_app, List.take_append_drop]
    rw [e, List.getElem?_append_left (by omega)]
    exact h
  · rw [List.getElem?_append_right (by omega), hT] at h
    by_cases h2 : j < i * 3 + 3
    · rw [List.getElem?_append_left (by omega)] at h
      exact .inr (.inl ⟨by omega, h2, h⟩)
    · rw [List.getElem?_append_right (by omega), hx] at h
      exact .inr (.inr ⟨by omega, by rw [show j - (i * 3 + 3) = j - i * 3 - 3 by omega]; exact h⟩)
/-- What the two copies leave: the row with one more. -/
theorem ins_reads {W W' : World} {g i : Nat} {l : List Tg} {x : Tg} (hi : i ≤ l.length) (hg : g < W'.heap.size) (hs : ∀ j, j < (l.length + 1) * 3 → (W.cell? ⟨g, j, none⟩).isSome = true)
    (hold : ∀ j v, j < i * 3 → (flat tgE l)[j]? = some v → W.cell? ⟨g, j, none⟩ = some v)
    (hW : (∀ a, W'.cell? a = ((W.setCells g ((i + 1) * 3) (flat tgE (l.drop i))).setCells g (i * 3) (tgE.enc x)).cell? a) ∨ (∀ a, W'.cell? a = ((W.setCells g (i * 3) (tgE.enc x)).setCells g ((i + 1) * 3) (flat tgE (l.drop i))).cell? a)) :
    Reads W' (some ⟨g, 0, none⟩) (flat tgE (insL l i x)) := fun j v hv => by
  have hx : (tgE.enc x).length = 3 := tgE.len x
  have hd : (flat tgE (l.drop i)).length = (l.length - i) * 3 := by rw [flat_len, List.length_drop]
  have e3 : (i + 1) * 3 = i * 3 + 3 := by omega
  refine ⟨g, 0, rfl, hg, ?_⟩
  rw [Nat.zero_add]
  have sA : ∀ q, q < (tgE.enc x).length → (W.cell? ⟨g, i * 3 + q, none⟩).isSome = true := fun q hq => hs _ (by omega)
  have sD : ∀ q, q < (flat tgE (l.drop i)).length → (W.cell? ⟨g, (i + 1) * 3 + q, none⟩).isSome = true := fun q hq => hs _ (by omega)
  rcases hW with hW | hW
  · rw [hW]
    have s1 : ∀ q, q < (tgE.enc x).length → ((W.setCells g ((i + 1) * 3) (flat tgE (l.drop i))).cell? ⟨g, i * 3 + q, none⟩).isSome = true := fun q hq => isSome_setCells _ _ _ _ sD _ (sA q hq)
    rcases ins_cells hi hv with ⟨h1, h2⟩ | ⟨h1, h2, h3⟩ | ⟨h1, h2⟩
    · rw [World.cell?_setCells_out _ _ _ _ _ (fun _ _ => .inl h1), World.cell?_setCells_out _ _ _ _ _ (fun _ _ => .inl (by show j < (i + 1) * 3; omega))]
      exact hold j v h1 h2
    · have := World.cell?_setCells_in g (tgE.enc x) (i * 3) _ s1 (j - i * 3) (by omega)
      rw [show i * 3 + (j - i * 3) = j by omega] at this
      rw [this, ← h3]; exact (List.getElem?_eq_getElem _).symm
    · have hl := (List.getElem?_eq_some_iff.1 h2).1
      rw [World.cell?_setCells_out _ _ _ _ _ (fun _ _ => .inr (by show i * 3 + _ ≤ j; omega))]
      have := World.cell?_setCells_in g (flat tgE (l.drop i)) ((i + 1) * 3) _ sD (j - (i * 3 + 3)) hl
      rw [show (i + 1) * 3 + (j - (i * 3 + 3)) = j by omega] at this
      rw [this, ← h2]; exact (List.getElem?_eq_getElem _).symm
  · rw [hW]
    have s1 : ∀ q, q < (flat tgE (l.drop i)).length → ((W.setCells g (i * 3) (tgE.enc x)).cell? ⟨g, (i + 1) * 3 + q, none⟩).isSome = true := fun q hq => isSome_setCells _ _ _ _ sA _ (sD q hq)
    rcases ins_cells hi hv with ⟨h1, h2⟩ | ⟨h1, h2, h3⟩ | ⟨h1, h2⟩
    · rw [World.cell?_setCells_out _ _ _ _ _ (fun _ _ => .inl (by show j < (i + 1) * 3; omega)), World.cell?_setCells_out _ _ _ _ _ (fun _ _ => .inl h1)]
      exact hold j v h1 h2
    · rw [World.cell?_setCells_out _ _ _ _ _ (fun _ _ => .inl (by show j < (i + 1) * 3; omega))]
      have := World.cell?_setCells_in g (tgE.enc x) (i * 3) _ sA (j - i * 3) (by omega)
      rw [show i * 3 + (j - i * 3) = j by omega] at this
      rw [this, ← h3]; exact (List.getElem?_eq_getElem _).symm
    · have hl := (List.getElem?_eq_some_iff.1 h2).1
      have := World.cell?_setCells_in g (flat tgE (l.drop i)) ((i + 1) * 3) _ s1 (j - (i * 3 + 3)) hl
      rw [show (i + 1) * 3 + (j - (i * 3 + 3)) = j by omega] at this
      rw [this, ← h2]; exact (List.getElem?_eq_getElem _).symm
/-! ### Insert -/
def InsOut (B n : Nat) (l : List Tg) (W : World) (e : Ending) (W' : World) : Prop := ∃ A' c', e = .returned (.slice A' n c') ∧ (n ≤ c' ∧ c' ≤ 9223372036854775807) ∧ Reads W' A' (flat tgE l) ∧ Below B W W' ∧ ∀ a, A' = some a → B ≤ a.block
theorem wpList_copy_runW (w : World) {ops : Array Oper} {rest : List Oper} {o : Oper} {a : Act} {Q : Exit → Act → World → Prop} (hgd : o.guard = none) (d s : Operand) (t t' : TypeId)
    (ho : o.op = .call { callee := .builtin .copy, args := #[d, s], argTypes := #[t, t'] }) (v u : Value) (hd : a.eval d = v) (hs : a.eval s = u) {v' : Value} {w' : World}
    (hr : (Builtin.copy_ #[t, t'] o.type #[v, u]).run Try.prog w = .ok v' w') (h : wpList Try.prog ops Q rest (a.put o.dst v') w') : wpList Try.prog ops Q (o :: rest) a w :=
  wpList_plain hgd fun _ hK => by
    unfold Oper.wp execOp
    simp only [ho, resolve, invoke, builtin, Sem.run_bind, Sem.run_pure, Result.andThen_ok, List.map_toArray, List.map_cons, List.map_nil, hd, hs, hr]
    exact hK _ _ h
theorem step_copy_runW {ops : Array Oper} {o : Oper} {a : Act} {w : World} {K : Act → World → Prop} {Q : Exit → Act → World → Prop} {E : Prop}
    (hg : o.guard = none) (d x : Operand) (dT sT : TypeId) (hop : o.op = Op.call { callee := Callee.builtin Builtin.copy, args := #[d, x], argTypes := #[dT, sT] })
    (v u : Value) (hd : a.eval d = v) (hx : a.eval x = u) {v' : Value} {w' : World} (hr : (Builtin.copy_ #[dT, sT] o.type #[v, u]).run Try.prog w = .ok v' w') (hK : K (a.put o.dst v') w') :
    if Region.wanted o (yielded ops a.tmps) = true then Oper.wp Try.prog o a w K Q else E := by
  have hw : Region.wanted o (yielded ops a.tmps) = true := by simp [Region.wanted, hg]
  rw [if_pos hw]
  unfold Oper.wp
  simp [execOp, hop, resolve, invoke, builtin, hd, hx, hr, Result.andThen]
  exact hK
theorem ins_end (l : List Tg) (x : Tg) : insL l l.length x = l ++ [x] := by unfold insL; rw [List.take_length, List.drop_length]
set_option maxRecDepth 100000 in
set_option maxHeartbeats 4000000 in
/-- At the end. -/
theorem insert_end (B : Nat) (A : Option Addr) (l : List Tg) (n c vb : Nat) (x : Tg) (W : World) (hn : l.length = n) (hbig : n ≤ 400) (hz : Tab tgE W B tT (.slice A n c) l) (hv : Reads W (some ⟨vb, 0, none⟩) (flat tgE [x])) (hB : B ≤ W.heap.size) :
    Calls Try.prog 18 #[.slice A n c, .int .i64 n, .slice (some ⟨vb, 0, none⟩) 1 1] W (InsOut B (n + 1) (insL l n x) W) := by
  have HZ := Lib.hid hz
  have HN := Lib.hid hn
  have HV := Lib.hid hv
  have HE := Lib.hid (show l ++ [x] = insL l n x by rw [← hn, ins_end])
  obtain ⟨A0, c0, e, hc1, hc2⟩ := hz.form
  injection e with e5 e6 e
  subst e
  clear e5 e6
  have h1 : n ≤ c := by omega
  have h63 : c ≤ 9223372036854775807 := by unfold maxLen at hc2; omega
  have q0 : ((n : Int) == (n : Int)) = true := by simp
  clear hz hn hv hc1 hc2
  by_cases hc : c = n
  all_goals
    have hcc : (c = n) = _ := (by first | exact eq_true hc | exact eq_false hc)
    clear hc
    go_enter Try.func18, Try.ntmps18
    go_wp2_with (at_builtin; refine wpList_append_gm elTg (by decide) rfl (.tmp 23) (.tmp 24) (by rfl) (n := n) (m := 1) (c := 1) (b := vb) (o' := 0) (v := .slice A n c) (es := l) (ys := [x]) (AD := some ⟨vb, 0, none⟩) rfl rfl rfl HZ.out HN.out HV.out rfl (by unfold maxLen; omega) (by omega) hB ?_; intro A' c' w' HT HG)
    all_goals
      go_ret
      obtain ⟨A1, c1, e1, p1, p2⟩ := HT.out.form
      injection e1 with e5 e6 e1
      clear e5 e6
      subst e1
      rw [HE.out] at HT p1
      refine ⟨A', c', rfl, ⟨?_, by unfold maxLen at p2; omega⟩, HT.out.reads, HZ.out.below HG.out (Below.refl _ _) (Nat.le_refl _) hB, fun a ha => by subst ha; exact (HT.out.lt a.block rfl).1⟩
      have := HN.out
      unfold insL at p1
      simp at p1
      omega
theorem wf3 (l : List Tg) (i : Nat) (h : i ≤ l.length) : (flat tgE (l.drop i)).length = (l.length - i) * 3 := by rw [flat_len, List.length_drop]
set_option maxRecDepth 100000 in
set_option maxHeartbeats 4000000 in
/-- In the middle, and there is room. -/
theorem insert_shift (B g : Nat) (l : List Tg) (n c i vb : Nat) (x : Tg) (cs : Array Value) (W : World) (hn : l.length = n) (hbig : n ≤ 400) (hi : i < n) (hroom : n + 1 ≤ c) (hz : Tab tgE W B tT (.slice (some ⟨g, 0, none⟩) n c) l) (hk : Known W vb tT cs) (hcs : cs.toList = tgE.enc x) (hvb : vb ≠ g) (hB : B ≤ W.heap.size) :
    Calls Try.prog 18 #[.slice (some ⟨g, 0, none⟩) n c, .int .i64 i, .slice (some ⟨vb, 0, none⟩) 1 1] W (InsOut B (n + 1) (insL l i x) W) := by
  obtain ⟨_, h | ⟨g', cap, cur, e, hBg, hg, hc1, hc2, hsz, htk⟩⟩ := hz
  · obtain ⟨h, _⟩ := h; cases h
  injection e with e1 e2 e3
  injection e1 with e1
  injection e1 with e1
  subst e1 e3
  clear e2
  have h63 : c ≤ 9223372036854775807 := by unfold maxLen at hc2; omega
  rw [hn] at htk
  have hcell : ∀ j v, (flat tgE l)[j]? = some v → W.cell? ⟨g, j, none⟩ = some v := fun j v hj => by
    have hl := (List.getElem?_eq_some_iff.1 hj).1
    rw [flat_len, hn] at hl
    rw [← htk, List.getElem?_take_of_lt hl] at hj
    rw [cell_of_row W g j cur tT (0, 0) hg]
    simpa using hj
  have hsp : ∀ j, j < (n + 1) * 3 → (W.cell? ⟨g, j, none⟩).isSome = true := fun j hj => by
    have : (n + 1) * 3 ≤ c * 3 := Nat.mul_le_mul_right 3 hroom
    rw [cell_of_row W g j cur tT (0, 0) hg, Array.getElem?_eq_getElem (by omega)]; rfl
  have hfz : ∀ j, W.frozen? ⟨g, j, none⟩ = false := fun j => by simp [World.frozen?, hg]
  have hsT : (Try.prog.info? tT).map (·.size) = some 3 := sizeTag
  have hov : ∀ lb cb, (callFunc 39 #[.slice (some ⟨vb, 0, none⟩) 1 1, .slice (some ⟨g, (i + 1) * 3, none⟩) lb cb]).run Try.prog W = .ok (.value (.bool false)) W := fun lb cb => by
    rw [run_callFunc_extern Try.func39 (by kernel_rfl) (by kernel_rfl) (by kernel_rfl) (e := Extern.SlicesOverlaps.overlaps #[22, 22] #[4]) (by kernel_rfl),
      Lib.run_overlaps_apart W 22 4 tT Try.underlying22 3 Try.sizeOf37 ⟨vb, 0, none⟩ ⟨g, (i + 1) * 3, none⟩ 1 1 lb cb hvb tT tT cs.size cur.size (by unfold World.shape?; rw [hk]) (by unfold World.shape?; rw [hg]) (by omega) (hk.free 0) (hk.free _)]
    rfl
  have hwr1 : IntKind.i64.wrap ((n : Int) + 1) = (n : Int) + 1 := IntWalk.i64_in _ (by omega)
  have hwr2 : IntKind.i64.wrap ((i : Int) + 1) = (i : Int) + 1 := IntWalk.i64_in _ (by omega)
  have q0 : ((i : Int) == (n : Int)) = false := by simp; omega
  have i1 : (i : Int) ≤ (n : Int) := by omega
  have i2 : ¬ (c : Int) < (n : Int) + 1 := by omega
  have i3 : (n : Int) + 1 ≤ (c : Int) := by omega
  have i4 : (0 : Int) ≤ (n : Int) + 1 := by omega
  have i5 : (0 : Int) ≤ (i : Int) + 1 := by omega
  have i6 : (i : Int) + 1 ≤ (n : Int) + 1 := by omega
  have i7 : (i : Int) ≤ (n : Int) + 1 := by omega
  have t1 : ((n : Int) + 1).toNat = n + 1 := by omega
  have t2 : ((i : Int) + 1).toNat = i + 1 := by omega
  have c1 : (c = i) = False := eq_false (by omega)
  have c2 : (c = i + 1) = False := eq_false (by omega)
  have c3 : (c = n) = False := eq_false (by omega)
  have hdl : (flat tgE (l.drop i)).length = (n - i) * 3 := by rw [wf3 l i (by omega), hn]
  have hmin1 : Nat.min (n + 1 - i) (n - i) = n - i := by simp only [Nat.min_def]; split <;> omega
  have mixed : Try.prog.follows .mixedOrders = true := by kernel_rfl
  have hcp1 : ∀ ty dc sc, (Builtin.copy_ #[22, 22] ty #[.slice (some ⟨g, (i + 1) * 3, none⟩) (n - i) dc, .slice (some ⟨g, i * 3, none⟩) (n + 1 - i) sc]).run Try.prog W.drew = .ok (goInt ((n - i : Nat) : Int)) (W.drew.setCells g ((i + 1) * 3) (flat tgE (l.drop i))) := fun ty dc sc =>
    run_copy_wide W.drew _ _ ty tT g ((i + 1) * 3) (n - i) dc ⟨g, i * 3, none⟩ (n + 1 - i) sc (flat tgE (l.drop i)) 3 (n - i) Try.underlying22 hsT hmin1 hdl
      (fun j v hj => by
        rw [Addr.add_lit]
        have e : (flat tgE l)[i * 3 + j]? = some v := by
          have e2 : flat tgE l = flat tgE (l.take i) ++ flat tgE (l.drop i) := by rw [← flat_app, List.take_append_drop]
          have e3 : (flat tgE (l.take i)).length = i * 3 := by rw [flat_len, List.length_take]; congr 1; omega
          rw [e2, List.getElem?_append_right (by omega), e3, show i * 3 + j - i * 3 = j by omega]; exact hj
        exact hcell _ v e)
      (fun j hj => hsp _ (by omega)) (fun j hj => hfz _) (flat_one tgE _)
  obtain ⟨W1, hW1⟩ : ∃ W1, W1 = W.drew.setCells g ((i + 1) * 3) (flat tgE (l.drop i)) := ⟨_, rfl⟩
  have hx3 : (tgE.enc x).length = 3 := tgE.len x
  have hsp1 : ∀ k, k < (n + 1) * 3 → (W1.cell? ⟨g, k, none⟩).isSome = true := fun k hk => by
    rw [hW1]
    exact isSome_setCells g (flat tgE (l.drop i)) ((i + 1) * 3) W.drew (fun j hj => hsp ((i + 1) * 3 + j) (by rw [hdl] at hj; omega)) k (hsp k hk)
  have hcp2 : ∀ (V : World), (∀ a, V.cell? a = W1.cell? a) → (∀ a, V.frozen? a = W1.frozen? a) → ∀ ty dc, (Builtin.copy_ #[22, 22] ty #[.slice (some ⟨g, i * 3, none⟩) (n + 1 - i) dc, .slice (some ⟨vb, 0, none⟩) 1 1]).run Try.prog V = .ok (goInt ((1 : Nat) : Int)) (V.setCells g (i * 3) (tgE.enc x)) := fun V hc hf ty dc =>
    run_copy_wide V _ _ ty tT g (i * 3) (n + 1 - i) dc ⟨vb, 0, none⟩ 1 1 (tgE.enc x) 3 1 Try.underlying22 hsT (by simp only [Nat.min_def]; split <;> omega) hx3
      (fun j v hj => by
        rw [Addr.add_lit, hc, hW1, World.cell?_setCells_out g _ _ _ _ (fun h _ => absurd h hvb)]
        show W.cell? _ = _
        rw [hk.cell, Nat.zero_add]
        rw [← hcs] at hj
        simpa using hj)
      (fun j hj => by rw [hc]; exact hsp1 _ (by omega)) (fun j hj => by rw [hf, hW1, World.frozen?_setCells]; exact hfz _) (tgE.one x)
  rw [← hW1] at hcp1
  have gl : g < W.heap.size := (Array.getElem?_eq_some_iff.1 hg).1
  have FIN := Lib.hid (show ∀ V, (∀ a, V.cell? a = W1.cell? a) → V.heap.size = W1.heap.size → Below B W V → Reads (V.setCells g (i * 3) (tgE.enc x)) (some ⟨g, 0, none⟩) (flat tgE (insL l i x)) ∧ Below B W (V.setCells g (i * 3) (tgE.enc x)) from fun V hc hs hb => by
    refine ⟨ins_reads (W := W.drew) (by omega) (by rw [size_setCells, hs, hW1, size_setCells]; exact gl) (fun j hj => hsp j (by rw [hn] at hj; exact hj)) (fun j v _ hj => hcell j v hj) (.inl fun a => ?_), below_setCells hBg _ _ _ hb⟩
    by_cases e : ∃ q, q < (tgE.enc x).length ∧ a = ⟨g, i * 3 + q, none⟩
    · obtain ⟨q, hq, rfl⟩ := e
      rw [World.cell?_setCells_in g (tgE.enc x) (i * 3) V (fun j hj => by rw [hc]; exact hsp1 _ (by omega)) q hq, ← hW1, World.cell?_setCells_in g (tgE.enc x) (i * 3) W1 (fun j hj => hsp1 _ (by omega)) q hq]
    · have h2 : ∀ (U : World), (U.setCells g (i * 3) (tgE.enc x)).cell? a = U.cell? a := fun U => by
        obtain ⟨ab, ao, asp⟩ := a
        refine World.cell?_setCells_out g _ _ _ _ (fun h h' => ?_)
        simp only at h h'
        subst h h'
        by_cases hlo : ao < i * 3
        · exact .inl hlo
        · by_cases hhi : i * 3 + (tgE.enc x).length ≤ ao
          · exact .inr hhi
          · exact absurd ⟨ao - i * 3, by omega, by rw [show i * 3 + (ao - i * 3) = ao by omega]⟩ e
      rw [h2, hc, ← hW1, h2])
  have HBG := Lib.hid hBg
  have B1 := Lib.hid (show Below B W W1 from hW1 ▸ below_setCells hBg _ _ _ (below_drew (Below.refl _ _)))
  clear hcell hsp hfz hdl hmin1 hsp1 hg hk hcs htk hsz hn hBg gl hc1 hc2 hx3
  go_enter Try.func18, Try.ntmps18
  go_wp2_with (simp only [hov])
  go_region_law_o (refine step_copy_runW rfl _ _ 22 22 rfl (.slice (some ⟨g, (i + 1) * 3, none⟩) (n - i) (c - (i + 1))) (.slice (some ⟨g, i * 3, none⟩) (n + 1 - i) (c - i)) (by simp [Act.eval, Act.put]) (by simp [Act.eval, Act.put]) (hcp1 _ _ _) ?_)
  go_wp2_with (at_builtin; refine wpList_copy_runW _ rfl _ _ 22 22 rfl _ _ rfl rfl (hcp2 _ (fun _ => rfl) (fun _ => rfl) _ _) ?_)
  go_ret
  obtain ⟨r1, r2⟩ := FIN.out W1 (fun _ => rfl) rfl B1.out
  rw [hW1] at r1 r2
  exact ⟨some ⟨g, 0, none⟩, c, rfl, ⟨hroom, h63⟩, r1, r2, fun a ha => by injection ha with ha; subst ha; exact HBG.out⟩
set_option maxRecDepth 100000 in
set_option maxHeartbeats 4000000 in
/-- In the middle, and there is no room. -/
theorem insert_grow (B g : Nat) (l : List Tg) (n c i vb : Nat) (x : Tg) (cs : Array Value) (W : World) (hn : l.length = n) (hbig : n ≤ 400) (hi : i < n) (hroom : c < n + 1) (hz : Tab tgE W B tT (.slice (some ⟨g, 0, none⟩) n c) l) (hk : Known W vb tT cs) (hcs : cs.toList = tgE.enc x) (hB : B ≤ W.heap.size) :
    Calls Try.prog 18 #[.slice (some ⟨g, 0, none⟩) n c, .int .i64 i, .slice (some ⟨vb, 0, none⟩) 1 1] W (InsOut B (n + 1) (insL l i x) W) := by
  obtain ⟨_, h | ⟨g', cap, cur, e, hBg, hg, hc1, hc2, hsz, htk⟩⟩ := hz
  · obtain ⟨h, _⟩ := h; cases h
  injection e with e1 e2 e3
  injection e1 with e1
  injection e1 with e1
  subst e1 e3
  clear e2
  obtain rfl : c = n := by omega
  rw [hn] at htk
  have hcell : ∀ j v, (flat tgE l)[j]? = some v → W.cell? ⟨g, j, none⟩ = some v := fun j v hj => by
    have hl := (List.getElem?_eq_some_iff.1 hj).1
    rw [flat_len, hn] at hl
    rw [← htk, List.getElem?_take_of_lt hl] at hj
    rw [cell_of_row W g j cur tT (0, 0) hg]
    simpa using hj
  have gl : g < W.heap.size := (Array.getElem?_eq_some_iff.1 hg).1
  have hsT : (Try.prog.info? tT).map (·.size) = some 3 := sizeTag
  have hwr1 : IntKind.i64.wrap ((c : Int) + 1) = (c : Int) + 1 := IntWalk.i64_in _ (by omega)
  have hwr2 : IntKind.i64.wrap ((i : Int) + 1) = (i : Int) + 1 := IntWalk.i64_in _ (by omega)
  have hwr3 : IntKind.i64.wrap ((c : Int) + 1 - (i : Int)) = (c : Int) + 1 - (i : Int) := IntWalk.i64_in _ (by omega)
  have q0 : ((i : Int) == (c : Int)) = false := by simp; omega
  have i1 : (i : Int) ≤ (c : Int) := by omega
  have i2 : (c : Int) < (c : Int) + 1 := by omega
  have i5 : (0 : Int) ≤ (i : Int) + 1 := by omega
  have i6 : (i : Int) + 1 ≤ (c : Int) + 1 := by omega
  have i7 : (i : Int) ≤ (c : Int) + 1 := by omega
  have t2 : ((i : Int) + 1).toNat = i + 1 := by omega
  have c1 : (c = i) = False := eq_false (by omega)
  have mixed : Try.prog.follows .mixedOrders = true := by kernel_rfl
  have hdl : (flat tgE (l.drop i)).length = (c - i) * 3 := by rw [wf3 l i (by omega), hn]
  have htl : (flat tgE (l.take i)).length = i * 3 := by rw [flat_len, List.length_take]; congr 1; omega
  have hx3 : (tgE.enc x).length = 3 := tgE.len x
  have hkk : (c : Int) + 1 - (i : Int) = ((c + 1 - i : Nat) : Int) := by omega
  have hik : i + (c + 1 - i) = c + 1 := by omega
  obtain ⟨i0, hi0, z, hz0, hzs, hzb, hzc⟩ := elTg.hi
  have hold : (Builtin.firstCells i0.size i (.slice (some ⟨g, 0, none⟩) i c)).run Try.prog W.drew = .ok (flat tgE (l.take i)).toArray W.drew := by
    rw [hzs]
    exact run_firstCells_some W.drew 3 i ⟨g, 0, none⟩ i c (flat tgE (l.take i)) htl (fun j v hj => by
      rw [Addr.add_lit, Nat.zero_add]
      refine hcell j v ?_
      have e2 : flat tgE l = flat tgE (l.take i) ++ flat tgE (l.drop i) := by rw [← flat_app, List.take_append_drop]
      rw [e2, List.getElem?_append_left (List.getElem?_eq_some_iff.1 hj).1]; exact hj)
  have hrz : ∀ ty, (Builtin.append_ #[22, 3] ty #[.slice (some ⟨g, 0, none⟩) i c, .int .i64 ((c : Int) + 1 - (i : Int))]).run Try.prog W =
      .ok (.slice (some ⟨W.heap.size, 0, none⟩) (c + 1) (grownCap W (c + 1) c tT)) (W.drew.alloc (.cells ((flat tgE (l.take i)).toArray ++ Builtin.zeroCells z.cells (c + 1 - i) ++ Builtin.zeroCells z.cells (grownCap W (c + 1) c tT - (c + 1))) tT)) := fun ty => by
    have h := Lib.run_append_grow_zeros W 22 3 ty tT i0 z .i64 .i64 Try.underlying22 Try.underlying3 hi0 hz0 (some ⟨g, 0, none⟩) i c (flat tgE (l.take i)) hold (c + 1 - i) (by omega) (by omega) (by omega) (by omega) (by rw [hzb]; omega) (by rw [hzb, hik]; exact growslice_fits hroom (by omega))
    rw [hik] at h
    rw [hkk]
    exact h
  obtain ⟨G, hG⟩ : ∃ G, G = grownCap W (c + 1) c tT := ⟨_, rfl⟩
  obtain ⟨ROW, hROW⟩ : ∃ ROW : Array Value, ROW = (flat tgE (l.take i)).toArray ++ Builtin.zeroCells z.cells (c + 1 - i) ++ Builtin.zeroCells z.cells (G - (c + 1)) := ⟨_, rfl⟩
  rw [← hG] at hrz
  rw [← hROW] at hrz
  have hRl : (c + 1) * 3 ≤ ROW.size := by
    rw [hROW]
    simp [Builtin.zeroCells, hzc, htl]
    omega
  obtain ⟨W1, hW1⟩ : ∃ W1, W1 = W.drew.alloc (.cells ROW tT) := ⟨_, rfl⟩
  rw [← hW1] at hrz
  have hN : ∀ j, j < (c + 1) * 3 → (W1.cell? ⟨W.heap.size, j, none⟩).isSome = true := fun j hj => by
    rw [hW1, World.cell?_alloc_at (w := W.drew) ROW _ W.heap.size j rfl, Array.getElem?_eq_getElem (by omega)]; rfl
  have hNf : ∀ j, W1.frozen? ⟨W.heap.size, j, none⟩ = false := fun j => by rw [hW1]; exact World.frozen?_alloc_at (w := W.drew) ROW _ W.heap.size j rfl
  have hOb : ∀ j v, W.cell? ⟨g, j, none⟩ = some v → W1.cell? ⟨g, j, none⟩ = some v := fun j v h => by rw [hW1, World.cell?_alloc_past (w := W.drew) _ g j gl]; exact h
  have hOv : ∀ j v, W.cell? ⟨vb, j, none⟩ = some v → W1.cell? ⟨vb, j, none⟩ = some v := fun j v h => by rw [hW1, World.cell?_alloc_past (w := W.drew) _ vb j hk.lt]; exact h
  have hNo : ∀ j v, j < i * 3 → (flat tgE l)[j]? = some v → W1.cell? ⟨W.heap.size, j, none⟩ = some v := fun j v hj hv => by
    rw [hW1, World.cell?_alloc_at (w := W.drew) ROW _ W.heap.size j rfl]
    have e2 : flat tgE l = flat tgE (l.take i) ++ flat tgE (l.drop i) := by rw [← flat_app, List.take_append_drop]
    rw [e2, List.getElem?_append_left (by omega)] at hv
    rw [hROW, Array.getElem?_append_left (by simp [Builtin.zeroCells, htl]; omega), Array.getElem?_append_left (by simp [htl]; omega)]
    simpa using hv
  have hcpA : ∀ (V : World), (∀ a, V.cell? a = W1.cell? a) → (∀ a, V.frozen? a = W1.frozen? a) → ∀ ty dc, (Builtin.copy_ #[22, 22] ty #[.slice (some ⟨W.heap.size, i * 3, none⟩) (c + 1 - i) dc, .slice (some ⟨vb, 0, none⟩) 1 1]).run Try.prog V = .ok (goInt ((1 : Nat) : Int)) (V.setCells W.heap.size (i * 3) (tgE.enc x)) := fun V hc hf ty dc =>
    run_copy_wide V _ _ ty tT W.heap.size (i * 3) (c + 1 - i) dc ⟨vb, 0, none⟩ 1 1 (tgE.enc x) 3 1 Try.underlying22 hsT (by simp only [Nat.min_def]; split <;> omega) hx3
      (fun j v hj => by
        rw [Addr.add_lit, hc]
        refine hOv _ v ?_
        rw [hk.cell, Nat.zero_add]
        rw [← hcs] at hj
        simpa using hj)
      (fun j hj => by rw [hc]; exact hN _ (by omega)) (fun j hj => by rw [hf]; exact hNf _) (tgE.one x)
  have hbN : g ≠ W.heap.size := by omega
  have hcpB : ∀ (V : World), (∀ a, V.cell? a = (W1.setCells W.heap.size (i * 3) (tgE.enc x)).cell? a) → (∀ a, V.frozen? a = (W1.setCells W.heap.size (i * 3) (tgE.enc x)).frozen? a) → ∀ ty dc sc, (Builtin.copy_ #[22, 22] ty #[.slice (some ⟨W.heap.size, (i + 1) * 3, none⟩) (c - i) dc, .slice (some ⟨g, i * 3, none⟩) (c - i) sc]).run Try.prog V = .ok (goInt ((c - i : Nat) : Int)) (V.setCells W.heap.size ((i + 1) * 3) (flat tgE (l.drop i))) := fun V hc hf ty dc sc =>
    run_copy_wide V _ _ ty tT W.heap.size ((i + 1) * 3) (c - i) dc ⟨g, i * 3, none⟩ (c - i) sc (flat tgE (l.drop i)) 3 (c - i) Try.underlying22 hsT (Nat.min_self _) hdl
      (fun j v hj => by
        rw [Addr.add_lit, hc, World.cell?_setCells_out _ _ _ _ _ (fun h _ => absurd h hbN)]
        refine hOb _ v (hcell _ v ?_)
        have e2 : flat tgE l = flat tgE (l.take i) ++ flat tgE (l.drop i) := by rw [← flat_app, List.take_append_drop]
        rw [e2, List.getElem?_append_right (by omega), htl, show i * 3 + j - i * 3 = j by omega]; exact hj)
      (fun j hj => by rw [hc]; exact isSome_setCells W.heap.size (tgE.enc x) (i * 3) W1 (fun q hq => hN (i * 3 + q) (by omega)) _ (hN _ (by rw [hdl] at hj; omega)))
      (fun j hj => by rw [hf, World.frozen?_setCells]; exact hNf _) (flat_one tgE _)
  have hGn : c + 1 ≤ G := by rw [hG]; exact grownCap_ge W _ _ _
  have hG63 : G ≤ 9223372036854775807 := by
    have := grownCap_le_maxLen W (c + 1) c tT (by unfold maxLen; omega)
    rw [← hG] at this
    unfold maxLen at this
    omega
  have g1 : (G = i) = False := eq_false (by omega)
  have g2 : (G = i + 1) = False := eq_false (by omega)
  have RD := Lib.hid (show ∀ V : World, (∀ a, V.cell? a = ((W1.setCells W.heap.size (i * 3) (tgE.enc x)).setCells W.heap.size ((i + 1) * 3) (flat tgE (l.drop i))).cell? a) → V.heap.size = W1.heap.size → Reads V (some ⟨W.heap.size, 0, none⟩) (flat tgE (insL l i x)) from fun V hc hs =>
    ins_reads (W := W1) (by omega) (by rw [hs, hW1]; simp) (fun j hj => hN j (by rw [hn] at hj; exact hj)) hNo (.inr hc))
  have BD := Lib.hid (show Below B W W1 from hW1 ▸ (below_drew (Below.refl B W)).alloc hB _)
  have B2 := Lib.hid (show Below B W ((W1.setCells W.heap.size (i * 3) (tgE.enc x)).setCells W.heap.size ((i + 1) * 3) (flat tgE (l.drop i))) from below_setCells hB _ _ _ (below_setCells hB _ _ _ BD.out))
  subst hW1
  have hE1 : ∀ a, ((W.alloc (.cells ROW tT)).drew).cell? a = (W.drew.alloc (.cells ROW tT)).cell? a := fun a => rfl
  have hE2 : ∀ a, ((W.alloc (.cells ROW tT)).drew).frozen? a = (W.drew.alloc (.cells ROW tT)).frozen? a := fun a => rfl
  have hF1 : ∀ a, (((W.alloc (.cells ROW tT)).drew.setCells W.heap.size (i * 3) (tgE.enc x)).drew).cell? a = ((W.drew.alloc (.cells ROW tT)).setCells W.heap.size (i * 3) (tgE.enc x)).cell? a := fun a => rfl
  have hF2 : ∀ a, (((W.alloc (.cells ROW tT)).drew.setCells W.heap.size (i * 3) (tgE.enc x)).drew).frozen? a = ((W.drew.alloc (.cells ROW tT)).setCells W.heap.size (i * 3) (tgE.enc x)).frozen? a := fun a => rfl
  clear hcell hold hROW hRl hG hg hk hcs htk hsz hN hNf hOb hOv hNo hdl htl hx3 hkk hik hi0 hz0 hzs hzb hzc hn hc1 hc2 hBg
  go_enter Try.func18, Try.ntmps18
  go_wp2_with (first
    | (at_builtin; refine Lib.wpList_append_run _ rfl _ _ _ _ rfl _ _ rfl rfl _ _ (hrz _) ?_)
    | (at_builtin; refine wpList_copy_runW _ rfl _ _ 22 22 rfl _ _ rfl rfl (hcpA _ hE1 hE2 _ _) ?_))
  go_region_law_o (refine step_copy_runW rfl _ _ 22 22 rfl (.slice (some ⟨W.heap.size, (i + 1) * 3, none⟩) (c - i) (G - (i + 1))) (.slice (some ⟨g, i * 3, none⟩) (c - i) (c - i)) (by simp [Act.eval, Act.put]) (by simp [Act.eval, Act.put]) (hcpB _ hF1 hF2 tT (G - (i + 1)) (c - i)) ?_)
  go_wp2
  go_ret
  exact ⟨some ⟨W.heap.size, 0, none⟩, G, rfl, ⟨hGn, hG63⟩, RD.out _ (cell_heap (heap_setCells _ _ _ _ _ (show ((W.alloc (.cells ROW tT)).drew.setCells W.heap.size (i * 3) (tgE.enc x)).heap = _ from heap_setCells _ _ _ _ _ rfl))) (by rw [size_setCells]; show ((W.alloc (.cells ROW tT)).drew.setCells W.heap.size (i * 3) (tgE.enc x)).heap.size = _; rw [size_setCells]; rfl), below_setCells hB _ _ _ (below_drew (below_setCells hB _ _ _ (below_drew ((Below.refl B W).alloc hB _)))), fun a ha => by injection ha with ha; subst ha; exact hB⟩
theorem below_undrewO {B : Nat} {W V : World} (h : Below B W.drew V) : Below B W V := ⟨h.os, h.tape, h.output, h.size, h.block⟩
theorem far_cell {w : World} {p q : Addr} {u v : Value} (h : w.cell? q = some v) (hne : q ≠ p) : (w.setCell p u).cell? q = some v := by
  first | exact (World.cell?_setCell_other _ _ _ _ hne).trans h | exact (World.cell?_setCell_other _ _ _ _ (Ne.symm hne)).trans h
theorem insert_c (B : Nat) (A : Option Addr) (l : List Tg) (n c i vb : Nat) (x : Tg) (cs : Array Value) (W : World) (hn : l.length = n) (hbig : n ≤ 400) (hi : i ≤ n) (hz : Tab tgE W B tT (.slice A n c) l) (hk : Known W vb tT cs) (hcs : cs.toList = tgE.enc x) (hvb : ∀ g, A = some ⟨g, 0, none⟩ → vb ≠ g) (hB : B ≤ W.heap.size) :
    Calls Try.prog 18 #[.slice A n c, .int .i64 i, .slice (some ⟨vb, 0, none⟩) 1 1] W (InsOut B (n + 1) (insL l i x) W) := by
  rcases Nat.lt_or_ge i n with h | h
  · obtain ⟨g, rfl, _, _, _⟩ := hz.head (by omega)
    by_cases hr : n + 1 ≤ c
    · exact insert_shift B g l n c i vb x cs W hn hbig h hr hz hk hcs (hvb g rfl) hB
    · exact insert_grow B g l n c i vb x cs W hn hbig h (by omega) hz hk hcs hB
  · obtain rfl : i = n := by omega
    refine insert_end B A l i c vb x W hn hbig hz (fun j v hj => ?_) hB
    refine ⟨vb, 0, rfl, hk.lt, ?_⟩
    rw [Nat.zero_add, hk.cell]
    rw [flat_one_el, ← hcs] at hj
    simpa using hj
end Go.Proofs.Ythebilmeehnkpaa.Ors
