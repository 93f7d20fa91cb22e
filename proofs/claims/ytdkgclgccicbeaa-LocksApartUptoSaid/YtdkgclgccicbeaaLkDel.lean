/-
  Package locks: slices.DeleteFunc of locks, for whatever closure that looks at the key.
-/
import Derived.Test.YtdkgclgccicbeaaLkIdx
import Derived.Test.YtdkgclgccicbeaaLkRn
import Derived.Lib.SliceRun
namespace Go.Proofs.Ytdkgclgccicbeaa.Lk
set_option linter.unusedVariables false
set_option linter.unusedSimpArgs false
open Go.RowKit Mem Gt

abbrev tLk4 : TypeId := 34
def keepX (p : Int → Bool) (x : L4) : Bool := !p x.1
theorem keepX_none {l : List L4} {p : Int → Bool} (h : ∀ x ∈ l, p x.1 = false) : l.filter (keepX p) = l := List.filter_eq_self.2 fun s hs => by unfold keepX; rw [h s hs]; rfl
theorem keepX_step {l : List L4} {p : Int → Bool} {j : Nat} {s : L4} (h : l[j]? = some s) : (l.take (j + 1)).filter (keepX p) = (l.take j).filter (keepX p) ++ if p s.1 = true then [] else [s] := by
  rw [List.take_add_one, h, List.filter_append]
  congr 1
  unfold keepX
  cases hp : p s.1 <;> simp [hp]
theorem at_dropT {cur l : List L4} {j : Nat} (h : cur.drop j = l.drop j) : cur[j]? = l[j]? := by
  have := congrArg (fun x => x[0]?) h
  simpa using this
theorem drop_nextT {cur l : List L4} {j : Nat} (h : cur.drop j = l.drop j) : cur.drop (j + 1) = l.drop (j + 1) := by
  have := congrArg (List.drop 1) h
  simpa [List.drop_drop] using this
theorem set_takeT {cur : List L4} {q : Nat} {s : L4} (h : q < cur.length) : (cur.set q s).take (q + 1) = cur.take q ++ [s] := by
  rw [List.take_add_one, List.getElem?_set_self h, List.take_set_of_le (by omega)]; rfl
theorem set_dropT {cur : List L4} {q j : Nat} {s : L4} (h : q < j) : (cur.set q s).drop j = cur.drop j := List.drop_set_of_lt h
section
variable {W : World} {B g n c : Nat} {es : List L4}
theorem tab_front (h : Tab l4E W B tLk4 (.slice (some ⟨g, 0, none⟩) n c) es) (hn : es.length = n) {q : Nat} (hq : q ≤ n) : Tab l4E W B tLk4 (.slice (some ⟨g, 0, none⟩) q c) (es.take q) := by
  subst hn
  unfold Tab at h ⊢
  have hl : (es.take q).length = q := by rw [List.length_take]; omega
  rw [hl]
  rcases h.2 with ⟨h', _⟩ | ⟨g', cap', cur, h', hb, hg, hnc, hcm, hcs, htake⟩
  · simp at h'
  · simp only [Value.slice.injEq, Option.some.injEq, Addr.mk.injEq, and_true, true_and] at h'
    obtain ⟨rfl, rfl⟩ := h'
    refine ⟨by rw [flat_len, hl], .inr ⟨g, c, cur, rfl, hb, hg, by omega, hcm, hcs, ?_⟩⟩
    have e : flat l4E es = flat l4E (es.take q) ++ flat l4E (es.drop q) := by rw [← flat_app, List.take_append_drop]
    have e2 : (flat l4E (es.take q)).length = q * 4 := by rw [flat_len, hl]
    have e3 : cur.toList.take (q * 4) = (cur.toList.take (es.length * 4)).take (q * 4) := by rw [List.take_take, Nat.min_eq_left (by omega)]
    rw [e3, htake, e, ← e2, List.take_left']
    rfl
theorem tab_clear (vs : List Value) : ∀ (o : Nat) (W : World), Tab l4E W B tLk4 (.slice (some ⟨g, 0, none⟩) n c) es → es.length = n → n * 4 ≤ o → Tab l4E (W.setCells g o vs) B tLk4 (.slice (some ⟨g, 0, none⟩) n c) es := by
  induction vs with
  | nil => intro o W h _ _; exact h
  | cons v vs ih =>
    intro o W h hn ho
    refine ih (o + 1) _ ?_ hn (by omega)
    subst hn
    unfold Tab at h ⊢
    have h1 := (World.ownsRow.stored h o v).1
    rw [List.set_eq_of_length_le (by rw [flat_len]; exact ho)] at h1
    exact h1
theorem tab_at (h : Tab l4E W B tLk4 (.slice (some ⟨g, 0, none⟩) n c) es) {k : Nat} {s : L4} (hk : es[k]? = some s) : W.cell? ⟨g, k * 4, none⟩ = some (.int .i64 s.1) ∧ W.cell? ⟨g, k * 4 + 1, none⟩ = some (.bool s.2.1) ∧ W.cell? ⟨g, k * 4 + 2, none⟩ = some (slV s.2.2.1) ∧ W.cell? ⟨g, k * 4 + 3, none⟩ = some (slV s.2.2.2) := by
  obtain ⟨b, o, e, _, c0, c1, c2, c3⟩ := l4_at h.reads hk
  injection e with e
  injection e with e1 e2
  subst e1 e2
  rw [Nat.zero_add] at c0 c1 c2 c3
  exact ⟨c0, c1, c2, c3⟩
theorem tab_some (h : Tab l4E W B tLk4 (.slice (some ⟨g, 0, none⟩) n c) es) (hn : es.length = n) (q : Nat) : ∀ j, j < (n - q) * 4 → (W.cell? ⟨g, q * 4 + j, none⟩).isSome = true := fun j hj => by
  obtain ⟨c0, c1, c2, c3⟩ := tab_at h (List.getElem?_eq_getElem (show q + j / 4 < es.length by omega))
  have hm : j % 4 = 0 ∨ j % 4 = 1 ∨ j % 4 = 2 ∨ j % 4 = 3 := by omega
  rcases hm with hm | hm | hm | hm
  · rw [show q * 4 + j = (q + j / 4) * 4 by omega, c0]; rfl
  · rw [show q * 4 + j = (q + j / 4) * 4 + 1 by omega, c1]; rfl
  · rw [show q * 4 + j = (q + j / 4) * 4 + 2 by omega, c2]; rfl
  · rw [show q * 4 + j = (q + j / 4) * 4 + 3 by omega, c3]; rfl
end
theorem below_setCells {B g : Nat} {w0 : World} (hg : B ≤ g) : ∀ (vs : List Value) (o : Nat) (W : World), Below B w0 W → Below B w0 (W.setCells g o vs)
  | [], _, _, h => h
  | v :: r, o, W, h => below_setCells hg r (o + 1) _ (h.setCell (p := ⟨g, o, none⟩) hg v)
theorem gr_setCells (g : Nat) : ∀ (vs : List Value) (o : Nat) (W : World), W.grownBy (W.setCells g o vs) (some g)
  | [], _, W => World.grownBy.refl W _
  | v :: r, o, W => (gr_set W g o v).trans (gr_setCells g r (o + 1) _)
def zLk : Value := .agg #[.int .i64 0, .bool false, .slice none 0 0, .slice none 0 0]
theorem zeroLk : ∀ w : World, (zeroValue 34).run Try.prog w = .ok zLk w := fun _ => by kernel_rfl
def zL (n : Nat) : List Value := (Builtin.zeroCells zLk.cells n).toList
theorem zLk_cells : zLk.cells = #[.int .i64 0, .bool false, .slice none 0 0, .slice none 0 0] := rfl
theorem zL_len (n : Nat) : (zL n).length = n * 4 := by unfold zL; rw [zLk_cells]; unfold Builtin.zeroCells; simp
theorem zL_one (n : Nat) : ∀ v ∈ zL n, v.oneCell' = true := by
  intro v hv
  obtain ⟨i, hi, rfl⟩ := List.mem_iff_getElem.1 hv
  have : i % 4 = 0 ∨ i % 4 = 1 ∨ i % 4 = 2 ∨ i % 4 = 3 := by omega
  unfold zL
  simp only [zLk_cells, Builtin.zeroCells]
  rcases this with h | h | h | h <;> simp [h, Value.oneCell']
theorem run_clear_locks (w : World) (ty : TypeId) (g o n c : Nat) (hn : 0 < n) (hc : ∀ j, j < n * 4 → (w.cell? ⟨g, o + j, none⟩).isSome = true) (hf : ∀ j, w.frozen? ⟨g, j, none⟩ = false) :
    (Builtin.clear_ #[24] ty #[.slice (some ⟨g, o, none⟩) n c]).run Try.prog w = .ok (.tuple #[]) (w.setCells g o (zL n)) := by
  have hst := run_storeCells_cells (P := Try.prog) g o (zL n) 0 w (by rw [zL_len]; simpa using hc) (fun j _ => hf _) (zL_one n)
  simp only [Nat.add_zero] at hst
  obtain ⟨m, rfl⟩ : ∃ m, n = m + 1 := ⟨n - 1, by omega⟩
  unfold zL at hst ⊢
  have hz : ∀ w : World, (zeroValue 34).run Try.prog w = .ok (.agg #[.int .i64 0, .bool false, .slice none 0 0, .slice none 0 0]) w := fun _ => by kernel_rfl
  unfold zLk at hst ⊢
  simp [Builtin.clear_, run_underlying Try.underlying24, hz, hst]
/-- All blocks but g stay. -/
def Far (W : World) (g : Nat) (V : World) : Prop := W.heap.size ≤ V.heap.size ∧ ∀ b, b < W.heap.size → b ≠ g → V.heap[b]? = W.heap[b]?
theorem Far.refl (W : World) (g : Nat) : Far W g W := ⟨Nat.le_refl _, fun _ _ _ => rfl⟩
theorem Far.later {W V U : World} {g : Nat} (h : Far W g V) (hb : Below V.heap.size V U) : Far W g U := ⟨Nat.le_trans h.1 hb.size, fun b h1 h2 => (hb.block b (Nat.lt_of_lt_of_le h1 h.1)).trans (h.2 b h1 h2)⟩
theorem Far.grown {W V U : World} {g : Nat} (h : Far W g V) (hg : V.grownBy U (some g)) : Far W g U := ⟨Nat.le_trans h.1 hg.size, fun b h1 h2 => (hg.block b (Nat.lt_of_lt_of_le h1 h.1) (fun e => h2 (by injection e))).trans (h.2 b h1 h2)⟩
theorem Far.reads {W V : World} {g : Nat} (h : Far W g V) {A : Option Addr} {l : List Value} (hr : Reads W A l) (ha : ∀ a, A = some a → a.block ≠ g) : Reads V A l := fun k v hv => by
  obtain ⟨b, o, e, hb, hc⟩ := hr k v hv
  refine ⟨b, o, e, Nat.lt_of_lt_of_le hb h.1, ?_⟩
  have e2 := h.2 b hb (ha _ e)
  exact (World.cell?_of_block (a := ⟨b, o + k, none⟩) e2).trans hc
def DelOut (N c : Nat) (ls : List Lc) (o : Option Nat) (W : World) (e : Ending) (W' : World) : Prop := ∃ A' m, ls.length = m ∧ m ≤ c ∧ e = .returned (.slice A' m c) ∧ LRds W' A' ls ∧ Below N W W' ∧ W.heap.size ≤ W'.heap.size ∧ ∀ b, b < W.heap.size → o ≠ some b → W'.heap[b]? = W.heap[b]?
theorem filter_pair {xs : List L4} {ls : List Lc} {p : Int → Bool} {R : L4 → Lc → Prop} (hl : xs.length = ls.length) (h : ∀ (k : Nat) (x : L4) (y : Lc), xs[k]? = some x → ls[k]? = some y → R x y ∧ x.1 = y.1) :
    (xs.filter (keepX p)).length = (ls.filter (fun y => !p y.1)).length ∧ ∀ (k : Nat) (x : L4) (y : Lc), (xs.filter (keepX p))[k]? = some x → (ls.filter (fun y => !p y.1))[k]? = some y → R x y := by
  induction xs generalizing ls with
  | nil => cases ls with
    | nil => exact ⟨rfl, fun k x y hx => by simp at hx⟩
    | cons b r => simp at hl
  | cons a xs ih => cases ls with
    | nil => simp at hl
    | cons b r =>
      obtain ⟨h0, e0⟩ := h 0 a b rfl rfl
      obtain ⟨i1, i2⟩ := ih (ls := r) (by simpa using hl) (fun k x y hx hy => h (k + 1) x y (by simpa using hx) (by simpa using hy))
      rw [List.filter_cons, List.filter_cons]
      unfold keepX at i1 i2 ⊢
      rw [e0]
      cases hp : p b.1 with
      | true =>
        simp only [Bool.not_true, Bool.false_eq_true, if_false]
        exact ⟨i1, i2⟩
      | false =>
        simp only [Bool.not_false, if_true]
        refine ⟨by simp [i1], fun k x y hx hy => ?_⟩
        cases k with
        | zero => simp at hx hy; subst hx hy; exact h0
        | succ k => exact i2 k x y (by simpa using hx) (by simpa using hy)
set_option maxRecDepth 100000 in
set_option maxHeartbeats 16000000 in
theorem deleteK_c (f : Nat) (lb : Array Value) (eg : ∀ args w, (callFunc f args).run Try.prog w = .ok (.enter f args) w) (N : Nat) (W0 : World) (A : Option Addr) (ls : List Lc) (n c : Nat) (p : Int → Bool) (W : World) (hn : ls.length = n) (hbig : n ≤ 1099511627776) (hz : LNew N W A n c ls) (hp : PredK N W0 f lb p) (hb : Below N W0 W) (hBW : N ≤ W.heap.size) :
    Calls Try.prog 19 #[.slice A n c, .func (.func f) #[] lb] W (DelOut N c (ls.filter (fun y => !p y.1)) (Value.slice A n c).ownBlock W) := by
  have IC := Lib.hid (indexK_c f lb eg N W0 A ls n c p W hn hbig hz.rds hp hb hBW)
  obtain ⟨xs, hT, hl, hlc⟩ := hz
  have hcap : n ≤ c ∧ c ≤ maxLen := by
    obtain ⟨A', c', e, h1, h2⟩ := hT.form
    injection e with e1 e2 e3; omega
  have XN := Lib.hid (show xs.length = n by rw [hl]; exact hn)
  have HN := Lib.hid hn
  have Z0 := Lib.hid hT
  have HP := Lib.hid hp
  have B0 := Lib.hid hb
  have HLC := Lib.hid hlc
  have HL := Lib.hid hl
  have FP := Lib.hid (filter_pair (p := p) (R := fun (x : L4) (y : Lc) => IsLc W x y ∧ ∀ a : Addr, (x.2.2.1.1 = some a ∨ x.2.2.2.1 = some a) → N ≤ a.block ∧ (Value.slice A n c).ownBlock ≠ some a.block) hl (fun k x y hx hy => ⟨hlc k x y hx hy, (hlc k x y hx hy).1.key⟩))
  have FIN := Lib.hid (show ∀ V A' m, (xs.filter (keepX p)).length = m → Tab l4E V N tLk4 (.slice A' m c) (xs.filter (keepX p)) → (∀ g, (Value.slice A n c).ownBlock = some g → Far W g V) → ((Value.slice A n c).ownBlock = none → Below W.heap.size W V) → LRds V A' (ls.filter (fun y => !p y.1)) from fun V A' m hm hT hF hF0 => by
    refine ⟨_, hT.reads, FP.out.1, fun k x y hx hy => ?_⟩
    obtain ⟨⟨i1, i2, i3, i4, i5, i6, i7, i8⟩, h2⟩ := FP.out.2 k x y hx hy
    cases ho : (Value.slice A n c).ownBlock with
    | none => exact (IsLc.mk i1 i2 i3 i4 i5 i6 i7 i8).below (hF0 ho)
    | some g =>
      have hf := hF g ho
      exact ⟨i1, i2, i3, i4, hf.reads i5 (fun a ha e => by have := (h2 a (.inl ha)).2; rw [ho, e] at this; exact this rfl), i6, i7, hf.reads i8 (fun a ha e => by have := (h2 a (.inr ha)).2; rw [ho, e] at this; exact this rfl)⟩)
  have KEY := Lib.hid (show ∀ (k : Nat) (x : L4), xs[k]? = some x → ∃ y : Lc, ls[k]? = some y ∧ x.1 = y.1 from fun k x hx => by
    have hk := (List.getElem?_eq_some_iff.1 hx).1
    obtain ⟨y, hy⟩ : ∃ y, ls[k]? = some y := ⟨_, List.getElem?_eq_getElem (by omega)⟩
    exact ⟨y, hy, (hlc k x y hx hy).1.key⟩)
  clear hn hT hp hb hl hlc
  go_enter Try.func19, Try.ntmps19
  go_wp2_with fail
  refine IC.out.mono ?_
  rintro e w1 ⟨k, hk, rfl, hb1⟩
  have Z1 := Lib.hid (Z0.out.later hb1)
  have B1 := Lib.hid (hb1.mono hBW)
  have BF := Lib.hid hb1
  clear hb1 IC
  rcases hk with ⟨rfl, hk⟩ | ⟨i0, s0, rfl, hs0, he0, hfirst⟩
  · have KN := Lib.hid (keepX_none (l := xs) (p := p) (fun x hx => by
      obtain ⟨j, hj⟩ := List.mem_iff_getElem?.1 hx
      obtain ⟨y, hy, e⟩ := KEY.out j x hj
      rw [e]; exact hk y (List.mem_of_getElem? hy)))
    have KL := Lib.hid (show ls.filter (fun y => !p y.1) = ls from List.filter_eq_self.2 fun y hy => by rw [hk y hy]; rfl)
    clear hk
    go_wp2
    go_ret
    exact ⟨A, n, by rw [KL.out]; exact HN.out, hcap.1, rfl, FIN.out w1 A n (by rw [KN.out]; exact XN.out) (by rw [KN.out]; exact Z1.out) (fun g _ => (Far.refl W g).later BF.out) (fun _ => BF.out), B1.out, BF.out.size, fun b hb _ => BF.out.block b hb⟩
  · have hi0 : i0 < n := by rw [← HN.out]; exact (List.getElem?_eq_some_iff.1 hs0).1
    obtain ⟨g, rfl, -, hgB, -⟩ := Z1.out.head (by rw [XN.out]; omega)
    obtain ⟨x0', hx0'⟩ : ∃ x, xs[i0]? = some x := ⟨_, List.getElem?_eq_getElem (by rw [XN.out]; exact hi0)⟩
    have P0 := Lib.hid (show (xs.take (i0 + 1)).filter (keepX p) = xs.take i0 by
      obtain ⟨y, hy, e⟩ := KEY.out i0 x0' hx0'
      rw [hs0] at hy
      cases hy
      rw [keepX_step hx0', e, he0, keepX_none (fun x hx => by
        obtain ⟨j, hj⟩ := List.mem_iff_getElem?.1 hx
        rw [List.getElem?_take] at hj
        split at hj
        · rename_i hji
          obtain ⟨z, hz, e2⟩ := KEY.out j x hj
          rw [e2]
          exact hfirst z (List.mem_iff_getElem?.2 ⟨j, by rw [List.getElem?_take, if_pos hji]; exact hz⟩)
        · cases hj)]
      simp)
    have CZ := Lib.hid (fun (q : Nat) (hq : q < n) (w : World) (cur : List L4) (h : Tab l4E w N tLk4 (.slice (some ⟨g, 0, none⟩) n c) cur) (hl : cur.length = n) => fun ty => run_clear_locks w ty g (q * 4) (n - q) (c - q) (by omega) (tab_some h hl q) (fun j => h.free hl.symm j))
    have wi : IntKind.i64.wrap ((i0 : Int) + 1) = ((i0 + 1 : Nat) : Int) := by rw [IntWalk.i64_in _ (by omega)]; simp
    have nm : ((i0 : Int) == -1) = false := by rw [beq_eq_false_iff_ne]; omega
    have FR0 := Lib.hid ((Far.refl W g).later BF.out)
    clear hs0 he0 hfirst Z0 hx0'
    go_wp2
    go_loopw [5, 6] (fun vi vj wr => ∃ (q j : Nat) (cur : List L4), q < j ∧ j ≤ n ∧ vi = .int .i64 q ∧ vj = .int .i64 j ∧ Tab l4E wr N tLk4 (.slice (some ⟨g, 0, none⟩) n c) cur ∧ cur.length = n ∧ cur.take q = (xs.take j).filter (keepX p) ∧ cur.drop j = xs.drop j ∧ Below N W wr ∧ Far W g wr) (fun _ vj _ => n - (Go.RowKit.intOf vj).toNat)
    case atStart => exact ⟨i0, i0 + 1, xs, by omega, by omega, rfl, by go_num, Z1.out, XN.out, P0.out.symm, rfl, B1.out, FR0.out⟩
    case round =>
      obtain ⟨q, j, cur, hqj, hj, rfl, rfl, hT, hcl, htk, hdr, hB, hFr⟩ := hrel
      have HT := Lib.hid hT
      have HCL := Lib.hid hcl
      have HTK := Lib.hid htk
      have HDR := Lib.hid hdr
      have HB := Lib.hid hB
      have HFR := Lib.hid hFr
      clear hT hcl htk hdr hB hFr FR0
      by_cases hlt : j < n
      · clear FIN FP KEY HLC HL CZ P0 Z1 B1 BF
        have jl : j < xs.length := by rw [XN.out]; exact hlt
        obtain ⟨s, hs⟩ : ∃ s, xs[j]? = some s := ⟨_, List.getElem?_eq_getElem jl⟩
        have hcur : cur[j]? = some s := by rw [at_dropT HDR.out]; exact hs
        obtain ⟨y0, y1, y2, y3⟩ := tab_at HT.out hcur
        have KS := Lib.hid (keepX_step (p := p) hs)
        obtain ⟨x0, x1, ⟨H, nh, ch⟩, ⟨S, ns, cs⟩⟩ := s
        simp only [slV] at y0 y1 y2 y3
        have kn := Known.made wr 34 #[.int .i64 x0, .bool x1, .slice H nh ch, .slice S ns cs]
        have d0 : (wr.alloc (.cells #[.int .i64 x0, .bool x1, .slice H nh ch, .slice S ns cs] 34)).cell? ⟨wr.heap.size, 0, none⟩ = some (.int .i64 x0) := kn.cell 0
        have d1 : (wr.alloc (.cells #[.int .i64 x0, .bool x1, .slice H nh ch, .slice S ns cs] 34)).cell? ⟨wr.heap.size, 1, none⟩ = some (.bool x1) := kn.cell 1
        have d2 : (wr.alloc (.cells #[.int .i64 x0, .bool x1, .slice H nh ch, .slice S ns cs] 34)).cell? ⟨wr.heap.size, 2, none⟩ = some (.slice H nh ch) := kn.cell 2
        have d3 : (wr.alloc (.cells #[.int .i64 x0, .bool x1, .slice H nh ch, .slice S ns cs] 34)).cell? ⟨wr.heap.size, 3, none⟩ = some (.slice S ns cs) := kn.cell 3
        clear kn
        have HT2 := Lib.hid (HT.out.alloc (.cells #[.int .i64 x0, .bool x1, .slice H nh ch, .slice S ns cs] 34))
        have HB2 := Lib.hid (HB.out.alloc (Nat.le_trans hBW HB.out.size) (.cells #[.int .i64 x0, .bool x1, .slice H nh ch, .slice S ns cs] 34))
        have HF2 := Lib.hid (HFR.out.later (low_lit wr (.cells #[.int .i64 x0, .bool x1, .slice H nh ch, .slice S ns cs] 34)))
        have CC := HP.out _ x0 x1 H nh ch S ns cs (B0.out.trans HB2.out)
        have j1 : (j : Int) < (n : Int) := by omega
        have w1' : IntKind.i64.wrap ((j : Int) + 1) = ((j + 1 : Nat) : Int) := by rw [IntWalk.i64_in _ (by omega)]; simp
        have w2' : IntKind.i64.wrap ((q : Int) + 1) = ((q + 1 : Nat) : Int) := by rw [IntWalk.i64_in _ (by omega)]; simp
        have q1 : (q : Int) < (n : Int) := by omega
        clear hs hcur jl
        cases he : p x0 with
        | true =>
          rw [he] at CC
          have KF := Lib.hid (show (xs.take (j + 1)).filter (keepX p) = (xs.take j).filter (keepX p) by rw [KS.out]; simp [he])
          clear he
          go_wp2_with (go_at_fn f; refine CC.mono ?_; rintro e w2 ⟨rfl, hb2⟩; have T2 := Lib.hid (HT2.out.later hb2); have B2 := Lib.hid (HB2.out.trans (hb2.mono (Nat.le_trans hBW HB2.out.size))); have F2 := Lib.hid (HF2.out.later hb2); clear hb2)
          go_roundw
          case rel => exact ⟨q, j + 1, cur, by omega, by omega, rfl, by go_num, T2.out, HCL.out, by rw [KF.out]; exact HTK.out, drop_nextT HDR.out, B2.out, F2.out⟩
          case measure => simp [Go.RowKit.intOf]; omega
        | false =>
          rw [he] at CC
          have KF := Lib.hid (show (xs.take (j + 1)).filter (keepX p) = (xs.take j).filter (keepX p) ++ [(x0, x1, (H, nh, ch), (S, ns, cs))] by rw [KS.out]; simp [he])
          obtain ⟨zq, hzq⟩ : ∃ z, cur[q]? = some z := ⟨_, List.getElem?_eq_getElem (by rw [HCL.out]; omega)⟩
          have ZQ := Lib.hid hzq
          clear he hzq
          go_wp2_with (go_at_fn f; refine CC.mono ?_; rintro e w2 ⟨rfl, hb2⟩; have T2 := Lib.hid (HT2.out.later hb2); have B2 := Lib.hid (HB2.out.trans (hb2.mono (Nat.le_trans hBW HB2.out.size))); have F2 := Lib.hid (HF2.out.later hb2); have e0 := (hb2.cell (World.block_lt_of_cell? _ _ d0)).trans d0; have e1 := (hb2.cell (World.block_lt_of_cell? _ _ d1)).trans d1; have e2 := (hb2.cell (World.block_lt_of_cell? _ _ d2)).trans d2; have e3 := (hb2.cell (World.block_lt_of_cell? _ _ d3)).trans d3; obtain ⟨v0, v1, v2, v3⟩ := tab_at T2.out ZQ.out; have f0 := T2.out.free HCL.out.symm (q * 4); have f1 := T2.out.free HCL.out.symm (q * 4 + 1); have f2 := T2.out.free HCL.out.symm (q * 4 + 2); have f3 := T2.out.free HCL.out.symm (q * 4 + 3); clear hb2 d0 d1 d2 d3)
          go_roundw
          case rel => exact ⟨q + 1, j + 1, cur.set q (x0, x1, (H, nh, ch), (S, ns, cs)), by omega, by omega, by go_num, by go_num, put4 (a := (x0, x1, (H, nh, ch), (S, ns, cs))) T2.out HCL.out.symm ZQ.out, by rw [List.length_set]; exact HCL.out, by rw [KF.out, set_takeT (by rw [HCL.out]; omega), HTK.out], by rw [set_dropT (by omega)]; exact drop_nextT HDR.out, (((B2.out.setCell hgB _).setCell hgB _).setCell hgB _).setCell hgB _, F2.out.grown (gr4 _ g _ _ _ _ _ _ _ _)⟩
          case measure => simp [Go.RowKit.intOf]; omega
      · obtain rfl : j = n := by omega
        have TF := Lib.hid (show cur.take q = xs.filter (keepX p) by rw [HTK.out, List.take_of_length_le (l := xs) (by rw [XN.out]; exact Nat.le_refl _)])
        have ML := Lib.hid (show (xs.filter (keepX p)).length = q by rw [← TF.out, List.length_take, HCL.out]; omega)
        have hcz := CZ.out q (by omega) wr cur HT.out HCL.out
        have FR := Lib.hid (tab_clear (zL (j - q)) (q * 4) wr (by have h := tab_front HT.out HCL.out (show q ≤ j by omega); rw [TF.out] at h; exact h) ML.out (Nat.le_refl _))
        have FB := Lib.hid (below_setCells hgB (zL (j - q)) (q * 4) wr HB.out)
        have FF := Lib.hid (HFR.out.grown (gr_setCells g (zL (j - q)) (q * 4) wr))
        have c1 : ¬ c = q := by omega
        have c2 : (q : Int) ≤ (j : Int) := by omega
        have c3 : (j : Int) ≤ (c : Int) := by omega
        have c4 : (q : Int) ≤ (c : Int) := by omega
        have c5 : (0 : Int) ≤ (q : Int) := by omega
        obtain ⟨vs, hvs⟩ : ∃ vs : List Value, vs = zL (j - q) := ⟨_, rfl⟩
        rw [← hvs] at hcz FR FB FF
        clear hvs
        go_wp2
        go_ret
        exact ⟨_, q, by rw [← FP.out.1]; exact ML.out, by omega, rfl, FIN.out _ _ q ML.out FR.out (fun g' e => by injection e with e; subst e; exact FF.out) (fun e => by cases e), FB.out, FF.out.1, fun b hb ho => FF.out.2 b hb (fun e => ho (congrArg some e.symm))⟩
end Go.Proofs.Ytdkgclgccicbeaa.Lk
