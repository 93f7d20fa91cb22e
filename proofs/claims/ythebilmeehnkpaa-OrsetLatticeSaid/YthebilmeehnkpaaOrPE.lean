/-
  slices.IndexFunc, ContainsFunc, DeleteFunc of tags, with whatever closure.
-/
import Derived.Test.YthebilmeehnkpaaOrPD
import Derived.Lib.LazyBuf
import Derived.Lib.SliceRun
namespace Go.Proofs.Ythebilmeehnkpaa.Ors
set_option linter.unusedVariables false
set_option linter.unusedSimpArgs false
open Go.RowKit Mem Gt
open Jump (Gave equalZ_c)
open Go.Sort (grow alloc_eq_grow grow_grow)

/-! ### A row of tags that is written to -/
theorem flat_set3 (es : List Tg) (k : Nat) (e : Tg) : (((flat tgE es).set (k * 3) (.int .i64 e.1)).set (k * 3 + 1) (.int .i64 e.2.1)).set (k * 3 + 2) (.int .i64 e.2.2) = flat tgE (es.set k e) := by
  induction es generalizing k with
  | nil => simp [flat]
  | cons x l ih =>
    have hx : tgE.enc x = [.int .i64 x.1, .int .i64 x.2.1, .int .i64 x.2.2] := rfl
    have he : tgE.enc e = [.int .i64 e.1, .int .i64 e.2.1, .int .i64 e.2.2] := rfl
    cases k with
    | zero => simp only [List.set_cons_zero, flat_cons, hx, he]; rfl
    | succ k =>
      rw [List.set_cons_succ, flat_cons, flat_cons, ← ih k, hx, show (k + 1) * 3 = k * 3 + 1 + 1 + 1 by omega]
      rfl
section
variable {W : World} {B g n c : Nat} {es : List Tg}
theorem tab_put (h : Tab tgE W B tT (.slice (some ⟨g, 0, none⟩) n c) es) (hn : es.length = n) (k : Nat) (e : Tg) :
    Tab tgE (((W.setCell ⟨g, k * 3, none⟩ (.int .i64 e.1)).setCell ⟨g, k * 3 + 1, none⟩ (.int .i64 e.2.1)).setCell ⟨g, k * 3 + 2, none⟩ (.int .i64 e.2.2)) B tT (.slice (some ⟨g, 0, none⟩) n c) (es.set k e) := by
  subst hn
  unfold Tab at h ⊢
  have h1 := (World.ownsRow.stored h (k * 3) (.int .i64 e.1)).1
  have h2 := (World.ownsRow.stored h1 (k * 3 + 1) (.int .i64 e.2.1)).1
  have h3 := (World.ownsRow.stored h2 (k * 3 + 2) (.int .i64 e.2.2)).1
  rw [flat_set3 es k e] at h3
  rw [List.length_set]
  exact h3
theorem tab_front (h : Tab tgE W B tT (.slice (some ⟨g, 0, none⟩) n c) es) (hn : es.length = n) {q : Nat} (hq : q ≤ n) : Tab tgE W B tT (.slice (some ⟨g, 0, none⟩) q c) (es.take q) := by
  subst hn
  unfold Tab at h ⊢
  have hl : (es.take q).length = q := by rw [List.length_take]; omega
  rw [hl]
  rcases h.2 with ⟨h', _⟩ | ⟨g', cap', cur, h', hb, hg, hnc, hcm, hcs, htake⟩
  · simp at h'
  · simp only [Value.slice.injEq, Option.some.injEq, Addr.mk.injEq, and_true, true_and] at h'
    obtain ⟨rfl, rfl⟩ := h'
    refine ⟨by rw [flat_len, hl], .inr ⟨g, c, cur, rfl, hb, hg, by omega, hcm, hcs, ?_⟩⟩
    have e : flat tgE es = flat tgE (es.take q) ++ flat tgE (es.drop q) := by rw [← flat_app, List.take_append_drop]
    have e2 : (flat tgE (es.take q)).length = q * 3 := by rw [flat_len, hl]
    have e3 : cur.toList.take (q * 3) = (cur.toList.take (es.length * 3)).take (q * 3) := by rw [List.take_take, Nat.min_eq_left (by omega)]
    rw [e3, htake, e, ← e2, List.take_left']
    rfl
theorem tab_clear (vs : List Value) : ∀ (o : Nat) (W : World), Tab tgE W B tT (.slice (some ⟨g, 0, none⟩) n c) es → es.length = n → n * 3 ≤ o → Tab tgE (W.setCells g o vs) B tT (.slice (some ⟨g, 0, none⟩) n c) es := by
  induction vs with
  | nil => intro o W h _ _; exact h
  | cons v vs ih =>
    intro o W h hn ho
    refine ih (o + 1) _ ?_ hn (by omega)
    subst hn
    unfold Tab at h ⊢
    have h1 := (World.ownsRow.stored h o v).1
    rw [List.set_eq_of_length_le (by rw [flat_len]; exact ho)] at h1
    exact h1
theorem tab_at (h : Tab tgE W B tT (.slice (some ⟨g, 0, none⟩) n c) es) {k : Nat} {s : Tg} (hk : es[k]? = some s) : W.cell? ⟨g, k * 3, none⟩ = some (.int .i64 s.1) ∧ W.cell? ⟨g, k * 3 + 1, none⟩ = some (.int .i64 s.2.1) ∧ W.cell? ⟨g, k * 3 + 2, none⟩ = some (.int .i64 s.2.2) := by
  obtain ⟨b, o, e, _, c0, c1, c2⟩ := tg_at h.reads hk
  injection e with e
  injection e with e1 e2
  subst e1 e2
  rw [Nat.zero_add] at c0 c1 c2
  exact ⟨c0, c1, c2⟩
theorem tab_any (h : Tab tgE W B tT (.slice (some ⟨g, 0, none⟩) n c) es) (hn : es.length = n) {k : Nat} (hk : k < n) :
    (∃ u v z, W.cell? ⟨g, k * 3, none⟩ = some u ∧ W.cell? ⟨g, k * 3 + 1, none⟩ = some v ∧ W.cell? ⟨g, k * 3 + 2, none⟩ = some z) ∧ W.frozen? ⟨g, k * 3, none⟩ = false ∧ W.frozen? ⟨g, k * 3 + 1, none⟩ = false ∧ W.frozen? ⟨g, k * 3 + 2, none⟩ = false := by
  obtain ⟨c0, c1, c2⟩ := tab_at h (List.getElem?_eq_getElem (show k < es.length by omega))
  exact ⟨⟨_, _, _, c0, c1, c2⟩, h.free hn.symm _, h.free hn.symm _, h.free hn.symm _⟩
theorem tab_some (h : Tab tgE W B tT (.slice (some ⟨g, 0, none⟩) n c) es) (hn : es.length = n) (q : Nat) : ∀ j, j < (n - q) * 3 → (W.cell? ⟨g, q * 3 + j, none⟩).isSome = true := fun j hj => by
  obtain ⟨⟨u, v, z, c0, c1, c2⟩, _⟩ := tab_any h hn (k := q + j / 3) (by omega)
  have hm : j % 3 = 0 ∨ j % 3 = 1 ∨ j % 3 = 2 := by omega
  rcases hm with hm | hm | hm
  · rw [show q * 3 + j = (q + j / 3) * 3 by omega, c0]; rfl
  · rw [show q * 3 + j = (q + j / 3) * 3 + 1 by omega, c1]; rfl
  · rw [show q * 3 + j = (q + j / 3) * 3 + 2 by omega, c2]; rfl
end
theorem zeroTg : ∀ w : World, (zeroValue 37).run Try.prog w = .ok (.agg #[.int .i64 0, .int .i64 0, .int .i64 0]) w := fun _ => by kernel_rfl
theorem zero_three (n : Nat) : (Builtin.zeroCells (Value.agg #[.int .i64 0, .int .i64 0, .int .i64 0]).cells n).toList = List.replicate (n * 3) (.int .i64 0) := by
  have e : (Value.agg #[.int .i64 0, .int .i64 0, .int .i64 0]).cells = #[.int .i64 0, .int .i64 0, .int .i64 0] := rfl
  rw [e]
  unfold Builtin.zeroCells
  apply List.ext_getElem
  · simp
  · intro i h1 h2
    simp at h1
    have : i % 3 = 0 ∨ i % 3 = 1 ∨ i % 3 = 2 := by omega
    rcases this with h | h | h <;> simp [h]
theorem run_clear_tags (w : World) (ty : TypeId) (g o n c : Nat) (hn : 0 < n) (hc : ∀ j, j < n * 3 → (w.cell? ⟨g, o + j, none⟩).isSome = true) (hf : ∀ j, w.frozen? ⟨g, j, none⟩ = false) :
    (Builtin.clear_ #[22] ty #[.slice (some ⟨g, o, none⟩) n c]).run Try.prog w = .ok (.tuple #[]) (w.setCells g o (List.replicate (n * 3) (.int .i64 0))) := by
  have hst := run_storeCells_cells (P := Try.prog) g o (List.replicate (n * 3) (.int .i64 0)) 0 w (by simpa using hc) (fun j _ => hf _) (by intro v hv'; rw [List.eq_of_mem_replicate hv']; rfl)
  simp only [Nat.add_zero] at hst
  obtain ⟨m, rfl⟩ : ∃ m, n = m + 1 := ⟨n - 1, by omega⟩
  simp [Builtin.clear_, run_underlying Try.underlying22, zeroTg, zero_three, hst]

/-! ### IndexFunc, ContainsFunc -/
/-- A closure tells p of the tags of l, wherever what lay below B in W lies as it was. -/
def Pred (B : Nat) (W : World) (f : Nat) (lb : Array Value) (l : List Tg) (p : Tg → Bool) : Prop :=
  ∀ (V : World) (x : Tg), x ∈ l → Below B W V → Calls Try.prog f (#[.agg #[.int .i64 x.1, .int .i64 x.2.1, .int .i64 x.2.2]] ++ lb) V (Gave (.bool (p x)) V)
def FirstAt (l : List Tg) (p : Tg → Bool) (k : Int) : Prop := (k = -1 ∧ ∀ x ∈ l, p x = false) ∨ (∃ i x, k = ((i : Nat) : Int) ∧ l[i]? = some x ∧ p x = true ∧ ∀ y ∈ l.take i, p y = false)
def IxOut (l : List Tg) (p : Tg → Bool) (W : World) (e : Ending) (W' : World) : Prop := ∃ k : Int, FirstAt l p k ∧ e = .returned (.int .i64 k) ∧ Below W.heap.size W W'
set_option maxRecDepth 100000 in
set_option maxHeartbeats 4000000 in
theorem indexP_c (f : Nat) (lb : Array Value) (eg : ∀ args w, (callFunc f args).run Try.prog w = .ok (.enter f args) w) (B : Nat) (W0 : World) (A : Option Addr) (l : List Tg) (n ca : Nat) (p : Tg → Bool) (W : World) (hn : l.length = n) (hbig : n ≤ 1099511627776) (hx : Reads W A (flat tgE l)) (hp : Pred B W0 f lb l p) (hb : Below B W0 W) (hB : B ≤ W.heap.size) :
    Calls Try.prog 53 #[.slice A n ca, .func (.func f) #[] lb] W (IxOut l p W) := by
  have HX := Lib.hid hx
  have HN := Lib.hid hn
  have HP := Lib.hid hp
  have HB := Lib.hid hb
  clear hx hn hp hb
  go_enter Try.func53, Try.ntmps53
  go_wp2
  go_loopw [8] (fun i wr => ∃ k : Nat, k ≤ n ∧ i = .int .i64 k ∧ (∀ y ∈ l.take k, p y = false) ∧ Below W.heap.size W wr) (fun i _ => n - (Go.RowKit.intOf i).toNat)
  case atStart => exact ⟨0, by omega, rfl, fun y hy => by simp at hy, Below.refl _ _⟩
  case round =>
    obtain ⟨k, hk, rfl, ha, hbw⟩ := hrel
    have TA := Lib.hid ha
    have BB := Lib.hid hbw
    clear ha
    by_cases hlt : k < n
    · have kl : k < l.length := by rw [HN.out]; exact hlt
      obtain ⟨⟨x0, x1, x2⟩, hx⟩ : ∃ x, l[k]? = some x := ⟨_, List.getElem?_eq_getElem kl⟩
      obtain ⟨b1, o1, rfl, _, y0, y1, y2⟩ := tg_at (HX.out.below hbw) hx
      simp only at y0 y1 y2
      have EX := Lib.hid hx
      have i1 : (k : Int) < (n : Int) := by omega
      have cc := HP.out wr (x0, x1, x2) (List.mem_of_getElem? hx) (HB.out.trans (hbw.mono hB))
      simp only at cc
      clear kl hx hbw
      cases hq : p (x0, x1, x2) with
      | true =>
        rw [hq] at cc
        have QQ := Lib.hid hq
        clear hq
        go_wp2_with (go_at_fn f; refine cc.mono ?_; rintro e w' ⟨rfl, hb'⟩; have B4 := Lib.hid (BB.out.trans (hb'.mono BB.out.size)); clear hb')
        go_ret
        exact ⟨k, .inr ⟨k, _, rfl, EX.out, QQ.out, TA.out⟩, rfl, B4.out⟩
      | false =>
        rw [hq] at cc
        have TN := Lib.hid (show ∀ y ∈ l.take (k + 1), p y = false from fun y hy => by
          rw [List.take_add_one, EX.out] at hy
          rcases List.mem_append.1 hy with h | h
          · exact TA.out y h
          · simp at h; rw [h]; exact hq)
        clear hq
        go_wp2_with (go_at_fn f; refine cc.mono ?_; rintro e w' ⟨rfl, hb'⟩; have B4 := Lib.hid (BB.out.trans (hb'.mono BB.out.size)); clear hb')
        go_roundw
        case rel => exact ⟨k + 1, by omega, by go_num, TN.out, B4.out⟩
        case measure => simp [Go.RowKit.intOf]; omega
    · obtain rfl : k = n := by omega
      clear hbw
      go_wp2
      go_ret
      exact ⟨-1, .inl ⟨rfl, fun y hy => TA.out y (by rw [List.take_of_length_le (Nat.le_of_eq HN.out)]; exact hy)⟩, rfl, BB.out⟩
theorem first_any {l : List Tg} {p : Tg → Bool} {k : Int} (h : FirstAt l p k) : decide (0 ≤ k) = l.any p := by
  rcases h with ⟨rfl, h⟩ | ⟨i, x, rfl, h1, h2, _⟩
  · have : l.any p = false := by rw [List.any_eq_false]; intro x hx; rw [h x hx]; decide
    rw [this]; rfl
  · rw [List.any_eq_true.2 ⟨x, List.mem_of_getElem? h1, h2⟩]
    exact decide_eq_true (by omega)
set_option maxRecDepth 100000 in
set_option maxHeartbeats 4000000 in
theorem containsP_c (f : Nat) (lb : Array Value) (eg : ∀ args w, (callFunc f args).run Try.prog w = .ok (.enter f args) w) (B : Nat) (W0 : World) (A : Option Addr) (l : List Tg) (n ca : Nat) (p : Tg → Bool) (W : World) (r : Bool) (hn : l.length = n) (hbig : n ≤ 1099511627776) (hx : Reads W A (flat tgE l)) (hp : Pred B W0 f lb l p) (hb : Below B W0 W) (hB : B ≤ W.heap.size) (hr : l.any p = r) :
    Calls Try.prog 44 #[.slice A n ca, .func (.func f) #[] lb] W (Gave (.bool r) W) := by
  have IC := Lib.hid (indexP_c f lb eg B W0 A l n ca p W hn hbig hx hp hb hB)
  clear hx hn hp hb
  go_enter Try.func44, Try.ntmps44
  go_wp2_with fail
  refine IC.out.mono ?_
  rintro e w2 ⟨k, hk, rfl, hb⟩
  have E := first_any hk
  rw [hr] at E
  have B2 := Lib.hid hb
  clear hk hb hr
  go_wp2
  go_ret
  exact ⟨by simp [E], B2.out⟩

/-! ### DeleteFunc -/
def keepP (p : Tg → Bool) (t : Tg) : Bool := !p t
theorem keepP_none {l : List Tg} {p : Tg → Bool} (h : ∀ x ∈ l, p x = false) : l.filter (keepP p) = l := List.filter_eq_self.2 fun s hs => by unfold keepP; rw [h s hs]; rfl
theorem keepP_step {l : List Tg} {p : Tg → Bool} {j : Nat} {s : Tg} (h : l[j]? = some s) : (l.take (j + 1)).filter (keepP p) = (l.take j).filter (keepP p) ++ if p s = true then [] else [s] := by
  rw [List.take_add_one, h, List.filter_append]
  congr 1
  unfold keepP
  cases hp : p s <;> simp [hp]
theorem at_dropT {cur l : List Tg} {j : Nat} (h : cur.drop j = l.drop j) : cur[j]? = l[j]? := by
  have := congrArg (fun x => x[0]?) h
  simpa using this
theorem drop_nextT {cur l : List Tg} {j : Nat} (h : cur.drop j = l.drop j) : cur.drop (j + 1) = l.drop (j + 1) := by
  have := congrArg (List.drop 1) h
  simpa [List.drop_drop] using this
theorem set_takeT {cur : List Tg} {q : Nat} {s : Tg} (h : q < cur.length) : (cur.set q s).take (q + 1) = cur.take q ++ [s] := by
  rw [List.take_add_one, List.getElem?_set_self h, List.take_set_of_le (by omega)]; rfl
theorem set_dropT {cur : List Tg} {q j : Nat} {s : Tg} (h : q < j) : (cur.set q s).drop j = cur.drop j := List.drop_set_of_lt h
def DelOut (B c : Nat) (l : List Tg) (W : World) (e : Ending) (W' : World) : Prop := ∃ A' m, l.length = m ∧ m ≤ c ∧ e = .returned (.slice A' m c) ∧ Tab tgE W' B tT (.slice A' m c) l ∧ Below B W W'
set_option maxRecDepth 100000 in
set_option maxHeartbeats 16000000 in
theorem deleteP_c (f : Nat) (lb : Array Value) (eg : ∀ args w, (callFunc f args).run Try.prog w = .ok (.enter f args) w) (B : Nat) (W0 : World) (A : Option Addr) (l : List Tg) (n c : Nat) (p : Tg → Bool) (W : World) (hn : l.length = n) (hbig : n ≤ 1099511627776) (hz : Tab tgE W B tT (.slice A n c) l) (hp : Pred B W0 f lb l p) (hb : Below B W0 W) (hBW : B ≤ W.heap.size) :
    Calls Try.prog 33 #[.slice A n c, .func (.func f) #[] lb] W (DelOut B c (l.filter (keepP p)) W) := by
  have hcap : n ≤ c ∧ c ≤ maxLen := by
    obtain ⟨A', c', e, h1, h2⟩ := hz.form
    injection e with e1 e2 e3; omega
  have IC := Lib.hid (indexP_c f lb eg B W0 A l n c p W hn hbig hz.reads hp hb hBW)
  have HN := Lib.hid hn
  have Z0 := Lib.hid hz
  have HP := Lib.hid hp
  have B0 := Lib.hid hb
  clear hn hz hp hb
  go_enter Try.func33, Try.ntmps33
  go_wp2_with fail
  refine IC.out.mono ?_
  rintro e w1 ⟨k, hk, rfl, hb1⟩
  have Z1 := Lib.hid (Z0.out.later hb1)
  have B1 := Lib.hid (hb1.mono hBW)
  clear hb1 IC
  rcases hk with ⟨rfl, hk⟩ | ⟨i0, s0, rfl, hs0, he0, hfirst⟩
  · have KN := Lib.hid (keepP_none hk)
    clear hk
    go_wp2
    go_ret
    exact ⟨A, n, by rw [KN.out]; exact HN.out, hcap.1, rfl, by rw [KN.out]; exact Z1.out, B1.out⟩
  · have hi0 : i0 < n := by rw [← HN.out]; exact (List.getElem?_eq_some_iff.1 hs0).1
    obtain ⟨g, rfl, -, hgB, -⟩ := Z1.out.head (by rw [HN.out]; omega)
    have P0 := Lib.hid (show (l.take (i0 + 1)).filter (keepP p) = l.take i0 by rw [keepP_step hs0, keepP_none hfirst, he0]; simp)
    have CL := Lib.hid (fun (s : Tg) (hs : s ∈ l) V (hB : Below B W V) => HP.out V s hs (B0.out.trans hB))
    have CZ := Lib.hid (fun (q : Nat) (hq : q < n) (w : World) (cur : List Tg) (h : Tab tgE w B tT (.slice (some ⟨g, 0, none⟩) n c) cur) (hl : cur.length = n) => fun ty => run_clear_tags w ty g (q * 3) (n - q) (c - q) (by omega) (tab_some h hl q) (fun j => h.free hl.symm j))
    have wi : IntKind.i64.wrap ((i0 : Int) + 1) = ((i0 + 1 : Nat) : Int) := by rw [IntWalk.i64_in _ (by omega)]; simp
    have nm : ((i0 : Int) == -1) = false := by rw [beq_eq_false_iff_ne]; omega
    clear hs0 he0 hfirst Z0
    go_wp2
    go_loopw [5, 6] (fun vi vj wr => ∃ (q j : Nat) (cur : List Tg), q < j ∧ j ≤ n ∧ vi = .int .i64 q ∧ vj = .int .i64 j ∧ Tab tgE wr B tT (.slice (some ⟨g, 0, none⟩) n c) cur ∧ cur.length = n ∧ cur.take q = (l.take j).filter (keepP p) ∧ cur.drop j = l.drop j ∧ Below B W wr) (fun _ vj _ => n - (Go.RowKit.intOf vj).toNat)
    case atStart => exact ⟨i0, i0 + 1, l, by omega, by omega, rfl, by go_num, Z1.out, HN.out, P0.out.symm, rfl, B1.out⟩
    case round =>
      obtain ⟨q, j, cur, hqj, hj, rfl, rfl, hT, hcl, htk, hdr, hB⟩ := hrel
      have HT := Lib.hid hT
      have HCL := Lib.hid hcl
      have HTK := Lib.hid htk
      have HDR := Lib.hid hdr
      have HB := Lib.hid hB
      clear hT hcl htk hdr hB
      by_cases hlt : j < n
      · have jl : j < l.length := by rw [HN.out]; exact hlt
        obtain ⟨s, hs⟩ : ∃ s, l[j]? = some s := ⟨_, List.getElem?_eq_getElem jl⟩
        have hcur : cur[j]? = some s := by rw [at_dropT HDR.out]; exact hs
        obtain ⟨y0, y1, y2⟩ := tab_at HT.out hcur
        have KS := Lib.hid (keepP_step (p := p) hs)
        have MS := Lib.hid (List.mem_of_getElem? hs)
        obtain ⟨x0, x1, x2⟩ := s
        simp only at y0 y1 y2
        obtain ⟨d0, d1, d2⟩ := box_tg (w := wr) (x0, x1, x2)
        simp only at d0 d1 d2
        have HT2 := Lib.hid (HT.out.alloc (.cells #[.int .i64 x0, .int .i64 x1, .int .i64 x2] 37))
        have HB2 := Lib.hid (HB.out.alloc (Nat.le_trans hBW HB.out.size) (.cells #[.int .i64 x0, .int .i64 x1, .int .i64 x2] 37))
        have CC := CL.out (x0, x1, x2) MS.out _ HB2.out
        simp only at CC
        have j1 : (j : Int) < (n : Int) := by omega
        have w1' : IntKind.i64.wrap ((j : Int) + 1) = ((j + 1 : Nat) : Int) := by rw [IntWalk.i64_in _ (by omega)]; simp
        have w2' : IntKind.i64.wrap ((q : Int) + 1) = ((q + 1 : Nat) : Int) := by rw [IntWalk.i64_in _ (by omega)]; simp
        have q1 : (q : Int) < (n : Int) := by omega
        clear hs hcur jl
        cases he : p (x0, x1, x2) with
        | true =>
          rw [he] at CC
          have KF := Lib.hid (show (l.take (j + 1)).filter (keepP p) = (l.take j).filter (keepP p) by rw [KS.out, he]; simp)
          clear he
          go_wp2_with (go_at_fn f; refine CC.mono ?_; rintro e w2 ⟨rfl, hb2⟩; have T2 := Lib.hid (HT2.out.later hb2); have B2 := Lib.hid (HB2.out.trans (hb2.mono (Nat.le_trans hBW HB2.out.size))); clear hb2)
          go_roundw
          case rel => exact ⟨q, j + 1, cur, by omega, by omega, rfl, by go_num, T2.out, HCL.out, by rw [KF.out]; exact HTK.out, drop_nextT HDR.out, B2.out⟩
          case measure => simp [Go.RowKit.intOf]; omega
        | false =>
          rw [he] at CC
          have KF := Lib.hid (show (l.take (j + 1)).filter (keepP p) = (l.take j).filter (keepP p) ++ [(x0, x1, x2)] by rw [KS.out, he]; simp)
          clear he
          go_wp2_with (go_at_fn f; refine CC.mono ?_; rintro e w2 ⟨rfl, hb2⟩; have T2 := Lib.hid (HT2.out.later hb2); have B2 := Lib.hid (HB2.out.trans (hb2.mono (Nat.le_trans hBW HB2.out.size))); have e0 := (hb2.cell (World.block_lt_of_cell? _ _ d0)).trans d0; have e1 := (hb2.cell (World.block_lt_of_cell? _ _ d1)).trans d1; have e2 := (hb2.cell (World.block_lt_of_cell? _ _ d2)).trans d2; obtain ⟨⟨u, v, z, z0, z1, z2⟩, f0, f1, f2⟩ := tab_any (k := q) T2.out HCL.out (by omega); clear hb2 d0 d1 d2)
          go_roundw
          case rel => exact ⟨q + 1, j + 1, cur.set q (x0, x1, x2), by omega, by omega, by go_num, by go_num, tab_put T2.out HCL.out q (x0, x1, x2), by rw [List.length_set]; exact HCL.out, by rw [KF.out, set_takeT (by rw [HCL.out]; omega), HTK.out], by rw [set_dropT (by omega)]; exact drop_nextT HDR.out, ((B2.out.setCell hgB _).setCell hgB _).setCell hgB _⟩
          case measure => simp [Go.RowKit.intOf]; omega
      · obtain rfl : j = n := by omega
        have TF := Lib.hid (show cur.take q = l.filter (keepP p) by rw [HTK.out, List.take_of_length_le (l := l) (by rw [HN.out]; exact Nat.le_refl _)])
        have ML := Lib.hid (show (l.filter (keepP p)).length = q by rw [← TF.out, List.length_take, HCL.out]; omega)
        have hcz := CZ.out q (by omega) wr cur HT.out HCL.out
        have FR := Lib.hid (tab_clear (List.replicate ((j - q) * 3) (.int .i64 0)) (q * 3) wr (by have h := tab_front HT.out HCL.out (show q ≤ j by omega); rw [TF.out] at h; exact h) ML.out (Nat.le_refl _))
        have FB := Lib.hid (below_setCells hgB (List.replicate ((j - q) * 3) (.int .i64 0)) (q * 3) wr HB.out)
        have c1 : ¬ c = q := by omega
        have c2 : (q : Int) ≤ (j : Int) := by omega
        have c3 : (j : Int) ≤ (c : Int) := by omega
        have c4 : (q : Int) ≤ (c : Int) := by omega
        have c5 : (0 : Int) ≤ (q : Int) := by omega
        obtain ⟨vs, hvs⟩ : ∃ vs : List Value, vs = List.replicate ((j - q) * 3) (.int .i64 0) := ⟨_, rfl⟩
        rw [← hvs] at hcz FR FB
        clear hvs
        go_wp2
        go_ret
        exact ⟨_, q, ML.out, by omega, rfl, FR.out, FB.out⟩
end Go.Proofs.Ythebilmeehnkpaa.Ors
