/-
  slices.Concat, SortFunc, Compact of tags; union.
-/
import Derived.Test.YthebilmeehnkpaaOrPG
import Derived.Test.YthebilmeehnkpaaShSort
import Derived.Lib.Walk
namespace Go.Proofs.Ythebilmeehnkpaa.Ors
set_option linter.unusedVariables false
set_option linter.unusedSimpArgs false
open Go.RowKit Mem Gt
open Jump (Gave equalZ_c)
open Go.Sort (grow alloc_eq_grow grow_grow)

/-! ### Concat -/
abbrev TTab (W : World) (B : Nat) (v : Value) (l : List Tg) : Prop := Tab tgE W B tT v l
theorem TTab.nil (W : World) (B : Nat) : TTab W B (.slice none 0 0) [] := Tab.nil W B tT
theorem TTab.form {W : World} {B : Nat} {v : Value} {l : List Tg} (h : TTab W B v l) : ∃ A cap, v = .slice A l.length cap ∧ l.length ≤ cap ∧ cap ≤ maxLen := Tab.form h
theorem TTab.lt {W : World} {B : Nat} {v : Value} {l : List Tg} (h : TTab W B v l) : ∀ k, v.ownBlock = some k → B ≤ k ∧ k < W.heap.size := Tab.lt h
/-- A slice of entries of the call's own. -/
def NewTgs (es : List Tg) (n : Nat) (W : World) (e : Ending) (W' : World) : Prop := ∃ A c, e = .returned (.slice A n c) ∧ TTab W' W.heap.size (.slice A n c) es ∧ Below W.heap.size W W'
theorem zero_tgs : ∃ z, (Try.prog.info? 37).bind (·.zero) = some z ∧ z.cells.size = 3 := by
  obtain ⟨i, hi, z, hz, _, _, h3⟩ := elTg.hi
  exact ⟨z, by rw [hi]; exact hz, h3⟩
set_option maxRecDepth 100000 in
set_option maxHeartbeats 4000000 in
theorem grow_c (n : Nat) (W : World) (hn : n ≤ 2199023255552) :
    Calls Try.prog 74 #[.slice none 0 0, .int .i64 n] W (NewTgs [] 0 W) := by
  by_cases h0 : n = 0
  · subst h0
    go_enter Try.func74, Try.ntmps74
    go_wp2
    go_ret
    exact ⟨none, 0, rfl, TTab.nil _ _, Below.refl _ _⟩
  · obtain ⟨i, hi, z, hz, h1, h2, h3⟩ := elTg.hi
    have hold : (Builtin.firstCells i.size 0 (.slice none 0 0)).run Try.prog W.drew = .ok (#[] : Array Value) W.drew := run_firstCells_none W.drew i.size 0 0 0
    have hr : ∀ ty, (Builtin.append_ #[22, 3] ty #[.slice none 0 0, .int .i64 (n : Int)]).run Try.prog W = .ok (.slice (some ⟨W.heap.size, 0, none⟩) n (grownCap W n 0 37)) (W.drew.alloc (.cells ((#[] : Array Value) ++ Builtin.zeroCells z.cells n ++ Builtin.zeroCells z.cells (grownCap W n 0 37 - n)) 37)) := fun ty => by
      have h := Lib.run_append_grow_zeros W 22 3 ty 37 i z .i64 .i64 Try.underlying22 Try.underlying3 hi hz none 0 0 [] hold n (by omega) (by omega) (by omega) (by omega) (by rw [h2]; omega)
        (by rw [Nat.zero_add, h2]; exact growslice_fits (by omega) (by omega))
      rw [Nat.zero_add] at h
      exact h
    have hG1 : n ≤ grownCap W n 0 37 := grownCap_ge W _ _ _
    have hG2 := grownCap_le_maxLen W n 0 37 (by unfold maxLen; omega)
    generalize hg : grownCap W n 0 37 = G at *
    have hT := World.ownsRow_made (base := W.heap.size) (e := 37) (size := 3) W.drew ((#[] : Array Value) ++ Builtin.zeroCells z.cells n ++ Builtin.zeroCells z.cells (G - n)) G (Nat.le_refl _) hG2 (by simp [size_zeroCells, h3]; omega)
    have HT := Lib.hid hT
    have hG3 : G ≤ 9223372036854775807 := by unfold maxLen at hG2; omega
    have HW : Hid (Below W.heap.size W (W.drew.alloc (.cells ((#[] : Array Value) ++ Builtin.zeroCells z.cells n ++ Builtin.zeroCells z.cells (G - n)) 37))) := Lib.hid ((below_drew (Below.refl _ _)).alloc (Nat.le_refl _) _)
    generalize hws : W.drew.alloc (.cells ((#[] : Array Value) ++ Builtin.zeroCells z.cells n ++ Builtin.zeroCells z.cells (G - n)) 37) = V at *
    have i1 : (0 : Int) < (n : Int) := by omega
    clear hold hi hz h1 h2 h3 hT hg hws hG2
    go_enter Try.func74, Try.ntmps74
    go_wp2_with (at_builtin; refine Lib.wpList_append_run _ rfl _ _ _ _ rfl _ _ rfl rfl _ _ (hr _) ?_)
    go_ret
    exact ⟨some ⟨W.heap.size, 0, none⟩, G, rfl, HT.out, HW.out⟩

theorem run_append_none_tg (w : World) (base : Nat) (ty : TypeId) (c : Nat) (v : Value) (n : Nat) (xs : List Value) (hown : w.ownsRow base 37 3 v n xs) :
    (Builtin.append_ #[22, 22] ty #[v, .slice none 0 c]).run Try.prog w = .ok v w := by
  obtain ⟨i, hi, z, hz, h1, h2, h3⟩ := elTg.hi
  rcases hown.2 with ⟨rfl, rfl⟩ | ⟨g, cap, cur, rfl, _, _, hnc, _⟩
  · simp [Builtin.append_, run_underlying Try.underlying22, sizeOf, typeInfo, hi, Builtin.lenOf, Builtin.firstCells]
  · simp [Builtin.append_, run_underlying Try.underlying22, sizeOf, typeInfo, hi, Builtin.lenOf, Builtin.firstCells, hnc, storeCells]
set_option maxRecDepth 100000 in
/-- 'append(v, es...)'. -/
theorem wpList_append_tgs {ops : Array Oper} {rest : List Oper} {o : Oper} {a : Act} {Q : Exit → Act → World → Prop} (hgd : o.guard = none) (s x : Operand)
    (ho : o.op = .call { callee := .builtin .append, args := #[s, x], argTypes := #[22, 22] }) {w : World} {B : Nat} {v : Value} {es us : List Tg} {n m c : Nat} {A : Option Addr} (hs : a.eval s = v)
    (hx : a.eval x = .slice A m c) (hm : us.length = m) (hr : Reads w A (flat tgE us)) (hg : TTab w B v es) (hn : es.length = n) (hl2 : (n + m) * 24 ≤ 140737488355328) (hB : B ≤ w.heap.size) {B0 : Nat} {w0 : World} (hb : Below B0 w0 w) (hB0 : B0 ≤ B) (hsz : B0 ≤ w.heap.size)
    (h : ∀ A c w', Hid (TTab w' B (.slice A (n + m) c) (es ++ us)) → Hid (Below B0 w0 w') → wpList Try.prog ops Q rest (a.put o.dst (.slice A (n + m) c)) w') :
    wpList Try.prog ops Q (o :: rest) a w := by
  obtain ⟨i, hi, z, hz, h1, h2, h3⟩ := elTg.hi
  subst hn hm
  cases A with
  | none =>
    have hus : us = [] := by
      cases us with
      | nil => rfl
      | cons u us => obtain ⟨b, o', h1, _⟩ := hr 0 (.int .i64 u.1) rfl; cases h1
    subst hus
    obtain ⟨A', c', hv, _, _⟩ := hg.form
    refine wpList_plain hgd fun K hK => ?_
    have hrun := run_append_none_tg w B o.type c v es.length (flat tgE es) hg
    unfold Oper.wp
    simp [execOp, ho, resolve, invoke, builtin, hs, hx, hrun, Result.andThen]
    subst hv
    exact hK _ _ (h A' c' w (by rw [List.append_nil]; exact hg) hb)
  | some ad =>
    refine wpList_append_own_at (w := w) hgd s x 22 ho B 37 i z 3 24 Try.underlying22 hi hz h1 h2 h3 (by decide) v es.length (flat tgE es) hs hg ad us.length c (flat tgE us) hx (flat_len tgE us) ?_ (flat_one tgE us) (by unfold maxLen; omega) hl2 hB ?_
    · intro j u hj
      obtain ⟨b, o', e, _, e3⟩ := hr j u hj
      injection e with e
      subst e
      rw [Addr.add_lit]; exact e3
    · intro v' w' k1 g2 _ _
      have hT : TTab w' B v' (es ++ us) := by
        show Tab tgE w' B tT v' (es ++ us)
        unfold Tab
        rw [List.length_append, flat_app tgE]
        exact k1
      obtain ⟨A, c, hv, _, _⟩ := hT.form
      rw [List.length_append] at hv
      subst hv
      exact h A c w' hT (hb.grown g2 hsz fun k hk => Nat.le_trans hB0 (hg.lt k hk).1)
set_option maxRecDepth 100000 in
set_option maxHeartbeats 4000000 in
theorem concat_c (g n m ca cb : Nat) (A B : Option Addr) (xs ys : List Tg) (W : World) (hn : xs.length = n) (hm : ys.length = m) (bn : n ≤ 1099511627776) (bm : m ≤ 1099511627776) (hg : g < W.heap.size)
    (h0 : W.cell? ⟨g, 0, none⟩ = some (.slice A n ca)) (h1 : W.cell? ⟨g, 1, none⟩ = some (.slice B m cb)) (hx : Reads W A (flat tgE xs)) (hy : Reads W B (flat tgE ys)) :
    Calls Try.prog 60 #[.slice (some ⟨g, 0, none⟩) 2 2] W (NewTgs (xs ++ ys) (n + m) W) := by
  have HX := Lib.hid hx
  have HY := Lib.hid hy
  have HN := Lib.hid hn
  have HM := Lib.hid hm
  have H0 := Lib.hid h0
  have H1 := Lib.hid h1
  have HG := Lib.hid (grow_c (n + m) W (by omega))
  clear hx hy hn hm
  go_enter Try.func60, Try.ntmps60
  go_wp2
  go_loop [3, 11] (fun s i => (i = .int .i64 0 ∧ s = .int .i64 0) ∨ (i = .int .i64 1 ∧ s = .int .i64 n) ∨ (i = .int .i64 2 ∧ s = .int .i64 ((n : Int) + (m : Int)))) (fun _ i => 2 - (intOf i).toNat)
  case atStart => exact .inl ⟨rfl, rfl⟩
  case round =>
    rcases hrel with ⟨rfl, rfl⟩ | ⟨rfl, rfl⟩ | ⟨rfl, rfl⟩
    · go_wp2
      go_round
      case rel => exact .inr (.inl ⟨rfl, rfl⟩)
      case measure => simp [intOf]
    · go_wp2
      go_round
      case rel => exact .inr (.inr ⟨rfl, rfl⟩)
      case measure => simp [intOf]
    · go_wp2_with fail
      refine HG.out.mono ?_
      rintro e w1 ⟨C, cc, rfl, hT, hb⟩
      have T1 := Lib.hid hT
      have B1 := Lib.hid hb
      have S1 := Lib.hid hb.size
      clear hT hb h0 h1
      go_wp2
      go_loopw [6, 27] (fun s i wr => Below W.heap.size W wr ∧ ((i = .int .i64 0 ∧ ∃ C c, s = .slice C 0 c ∧ TTab wr W.heap.size s []) ∨ (i = .int .i64 1 ∧ ∃ C c, s = .slice C n c ∧ TTab wr W.heap.size s xs) ∨ (i = .int .i64 2 ∧ ∃ C c, s = .slice C (n + m) c ∧ TTab wr W.heap.size s (xs ++ ys)))) (fun _ i _ => 2 - (intOf i).toNat)
      case atStart => exact ⟨B1.out, .inl ⟨rfl, C, cc, rfl, T1.out⟩⟩
      case round =>
        obtain ⟨hb, hc⟩ := hrel
        have B2 := Lib.hid hb
        have S2 := Lib.hid hb.size
        have e0 := (hb.cell (p := ⟨g, 0, none⟩) hg).trans H0.out
        have e1 := (hb.cell (p := ⟨g, 1, none⟩) hg).trans H1.out
        clear hb
        rcases hc with ⟨rfl, C2, c2, rfl, hT⟩ | ⟨rfl, C2, c2, rfl, hT⟩ | ⟨rfl, C2, c2, rfl, hT⟩
        · have T2 := Lib.hid hT
          have X2 := Lib.hid (HX.out.below B2.out)
          clear hT
          go_wp2_with (at_builtin; refine wpList_append_tgs (n := 0) rfl (.tmp 31) (.tmp 32) rfl rfl rfl HN.out X2.out T2.out rfl (by omega) S2.out B2.out (Nat.le_refl _) S2.out ?_; intro A3 c3 w3 hT3 hB3)
          have T3 := hT3.out
          rw [List.nil_append, Nat.zero_add] at T3
          have T4 := Lib.hid T3
          have B3 := Lib.hid hB3.out
          clear T3 hT3 hB3
          go_wp2
          go_roundw
          case rel => exact ⟨B3.out, .inr (.inl ⟨rfl, A3, c3, rfl, T4.out⟩)⟩
          case measure => simp [intOf]
        · have T2 := Lib.hid hT
          have X2 := Lib.hid (HY.out.below B2.out)
          clear hT
          go_wp2_with (at_builtin; refine wpList_append_tgs rfl (.tmp 31) (.tmp 32) rfl rfl rfl HM.out X2.out T2.out HN.out (by omega) S2.out B2.out (Nat.le_refl _) S2.out ?_; intro A3 c3 w3 hT3 hB3)
          have T4 := Lib.hid hT3.out
          have B3 := Lib.hid hB3.out
          clear hT3 hB3
          go_wp2
          go_roundw
          case rel => exact ⟨B3.out, .inr (.inr ⟨rfl, A3, c3, rfl, T4.out⟩)⟩
          case measure => simp [intOf]
        · have T2 := Lib.hid hT
          clear hT
          go_wp2
          go_ret
          exact ⟨C2, c2, rfl, T2.out, B2.out⟩
theorem concat_t (g n m k ca cb : Nat) (A B : Option Addr) (xs ys : List Tg) (W : World) (hn : xs.length = n) (hm : ys.length = m) (hk : n + m = k) (bn : n ≤ 1099511627776) (bm : m ≤ 1099511627776) (hg : g < W.heap.size)
    (h0 : W.cell? ⟨g, 0, none⟩ = some (.slice A n ca)) (h1 : W.cell? ⟨g, 1, none⟩ = some (.slice B m cb)) (hx : Reads W A (flat tgE xs)) (hy : Reads W B (flat tgE ys)) :
    Calls Try.prog 60 #[.slice (some ⟨g, 0, none⟩) 2 2] W (NewTgs (xs ++ ys) k W) := hk ▸ concat_c g n m ca cb A B xs ys W hn hm bn bm hg h0 h1 hx hy

/-! ### SortFunc -/
theorem ltOf_klt : ltOf ord = klt := by funext x y; rw [← ord_lt]; rfl
theorem klt_swo : Sort.SWO (ltOf ord) := by
  rw [ltOf_klt]
  refine ⟨fun x => ?_, fun x y z h1 h2 => ?_, fun x y z h1 h2 => ?_⟩
  · rw [← Bool.not_eq_true, klt_iff]; exact Klt.irrefl x
  · rw [klt_iff] at *; exact h1.trans h2
  · rw [← Bool.not_eq_true, klt_iff] at *; unfold Klt at *; omega
theorem tab_of_cells {W : World} {B g n c : Nat} {l : List Tg} {cur : Array Value} (hg : W.heap[g]? = some (.cells cur tT (0, 0))) (hB : B ≤ g) (hn : l.length = n) (hc : n ≤ c) (hm : c ≤ maxLen) (hs : cur.size = c * 3) (h : ∀ k x, l[k]? = some x → W.cell? ⟨g, k * 3, none⟩ = some (.int .i64 x.1) ∧ W.cell? ⟨g, k * 3 + 1, none⟩ = some (.int .i64 x.2.1) ∧ W.cell? ⟨g, k * 3 + 2, none⟩ = some (.int .i64 x.2.2)) :
    Tab tgE W B tT (.slice (some ⟨g, 0, none⟩) n c) l := by
  subst hn
  unfold Tab
  refine ⟨flat_len tgE l, .inr ⟨g, c, cur, rfl, hB, hg, hc, hm, hs, ?_⟩⟩
  apply List.ext_getElem?
  intro i
  by_cases hi : i < l.length * 3
  · obtain ⟨x, hx⟩ : ∃ x, l[i / 3]? = some x := ⟨_, List.getElem?_eq_getElem (by omega)⟩
    obtain ⟨h0, h1, h2⟩ := h _ _ hx
    have hcell : ∀ j, W.cell? ⟨g, j, none⟩ = cur[j]? := fun j => cell_of_row W g j cur tT (0, 0) hg
    rw [List.getElem?_take_of_lt hi]
    have e0 := flat_at tgE hx (j := 0) (v := .int .i64 x.1) rfl
    have e1 := flat_at tgE hx (j := 1) (v := .int .i64 x.2.1) rfl
    have e2 := flat_at tgE hx (j := 2) (v := .int .i64 x.2.2) rfl
    rw [hcell] at h0 h1 h2
    have hm : i % 3 = 0 ∨ i % 3 = 1 ∨ i % 3 = 2 := by omega
    rcases hm with hm | hm | hm
    · rw [show i = i / 3 * 3 + 0 by omega, e0]; simpa using h0
    · rw [show i = i / 3 * 3 + 1 by omega, e1]; simpa using h1
    · rw [show i = i / 3 * 3 + 2 by omega, e2]; simpa using h2
  · rw [List.getElem?_eq_none (by rw [List.length_take]; omega), List.getElem?_eq_none (by rw [flat_len]; omega)]
theorem heap_sorted {W : World} {g q : Nat} {cur : Array Value} {d : Array Tg} {os : Array Obj} (hg : W.heap[g]? = some (.cells cur tT (0, 0))) :
    ∃ cur', (sortWorldK tgE.enc 3 W g 0 q d os).heap[g]? = some (.cells cur' tT (0, 0)) ∧ cur'.size = cur.size := by
  refine ⟨Sort.putCells id 0 (Sort.flatK tgE.enc 3 d) cur, ?_, by simp [Sort.putCells]⟩
  have hl : g < W.heap.size := (Array.getElem?_eq_some_iff.1 hg).1
  show ((W.heap.modify g (Sort.onCells (Sort.putCells id 0 (Sort.flatK tgE.enc 3 d)))) ++ os)[g]? = _
  rw [Array.getElem?_append_left (by simpa using hl), Array.getElem?_modify, if_pos rfl, hg]
  rfl
def SortOut (B n c : Nat) (A : Option Addr) (l : List Tg) (W : World) (e : Ending) (W' : World) : Prop := e = .returned (.tuple #[]) ∧ ∃ d : List Tg, l.Perm d ∧ d.Pairwise (fun x y => tle x y = true) ∧ Tab tgE W' B tT (.slice A n c) d ∧ Below B W W'
theorem sortT_c (B : Nat) (A : Option Addr) (l : List Tg) (n c : Nat) (W : World) (hn : l.length = n) (hbig : n ≤ 4000) (hT : Tab tgE W B tT (.slice A n c) l) (hB : B ≤ W.heap.size) :
    Calls Try.prog 61 #[.slice A n c, .func (.func 31) #[] #[]] W (SortOut B n c A l W) := by
  rcases Nat.eq_zero_or_pos n with h0 | h0
  · subst h0
    obtain rfl := List.eq_nil_of_length_eq_zero hn
    refine (AnyF.slices_SortFunc_none Try.sortTg A c (.func (.func 31) #[] #[]) W).mono ?_
    rintro e w ⟨rfl, rfl⟩
    exact ⟨rfl, [], List.Perm.refl _, List.Pairwise.nil, hT, Below.refl _ _⟩
  · obtain ⟨g, rfl, _, hBg, hgl⟩ := hT.head (by omega)
    have hcap := tab_cap hT hn
    obtain ⟨_, h | ⟨g', cap, cur, e, _, hg, hc1, hc2, hsz, htk⟩⟩ := (show W.ownsRow B tT 3 (.slice (some ⟨g, 0, none⟩) n c) l.length (flat tgE l) from hT)
    · obtain ⟨h, _⟩ := h; cases h
    injection e with e1 e2 e3
    injection e1 with e1
    injection e1 with e1
    subst e1 e3
    have hd : l.toArray.size = n := by simpa using hn
    have hH : Sort.HoldsK tgE.enc 3 W g 0 l.toArray := by
      intro t ht
      rw [Sort.size_flatK, hd] at ht
      have hk : t / 3 < l.length := by omega
      obtain ⟨c0, c1, c2⟩ := tab_at hT (List.getElem?_eq_getElem hk)
      refine ⟨?_, hT.free hn.symm _⟩
      rw [Nat.zero_add, Sort.get_flatK _ _ _ _ (by rw [hd]; exact ht), getElem!_pos l.toArray (t / 3) (by simpa using hk)]
      have hm : t % 3 = 0 ∨ t % 3 = 1 ∨ t % 3 = 2 := by omega
      rcases hm with hm | hm | hm
      · rw [show t / 3 * 3 = t by omega] at c0
        rw [hm, c0]; simp [tgE]
      · rw [show t / 3 * 3 + 1 = t by omega] at c1
        rw [hm, c1]; simp [tgE]
      · rw [show t / 3 * 3 + 2 = t by omega] at c2
        rw [hm, c2]; simp [tgE]
    have hcon := AnyQ.slices_SortFunc Try.sortTg 3 Try.isAgg37 Try.sizeOf37 tgE.enc (fun _ => rfl) (fun x v hv => tgE.one x v hv) ord klt_swo 31 #[] g 0 c l.toArray W
      (enters_of Try.func31 (by kernel_rfl) rfl) (fun _ _ _ _ x y => order_c x y _) hH hgl (by rw [hd]; omega)
    rw [hd] at hcon
    refine hcon.mono ?_
    rintro e w' ⟨rfl, d', q, os, hp, hs, hw⟩
    have hds : d'.size = n := by rw [hp.1, hd]
    have hH' := holdsK_sortWorldK tgE.enc 3 W g 0 q l.toArray d' os hgl hH (by rw [hds, hd])
    obtain ⟨cur', hg', hs'⟩ := heap_sorted (q := q) (d := d') (os := os) hg
    rw [← hw] at hH' hg'
    refine ⟨rfl, d'.toList, ?_, ?_, tab_of_cells hg' hBg (by simpa using hds) (by rw [← hn]; exact hc1) hc2 (by rw [hs', hsz]) (fun k x hk => ?_), ?_⟩
    · have h2 := hp.2.2
      have e1 : d'.extract 0 n = d' := by rw [← hds]; simp
      have e2 : l.toArray.extract 0 n = l.toArray := by rw [← hd]; simp
      rw [e1, e2] at h2
      exact h2.symm
    · rw [List.pairwise_iff_getElem]
      intro i j hi hj hij
      have h2 := hs i j (Nat.zero_le _) hij (by rw [← hds]; simpa using hj)
      rw [ltOf_klt, getElem!_pos d' i (by simpa using hi), getElem!_pos d' j (by simpa using hj)] at h2
      unfold tle
      simpa using h2
    · have hkl : k < d'.size := by have := (List.getElem?_eq_some_iff.1 hk).1; simpa using this
      have e : d'[k]! = x := by
        rw [getElem!_pos _ k hkl]
        have := (List.getElem?_eq_some_iff.1 hk).2
        simpa using this
      have c0 := (Sort.HoldsK.cell hH' (i := k) (c := 0) hkl (by omega)).1
      have c1 := (Sort.HoldsK.cell hH' (i := k) (c := 1) hkl (by omega)).1
      have c2 := (Sort.HoldsK.cell hH' (i := k) (c := 2) hkl (by omega)).1
      rw [e, Nat.zero_add] at c0 c1 c2
      exact ⟨c0, c1, c2⟩
    · subst hw
      refine ⟨rfl, rfl, rfl, ?_, fun b hb => ?_⟩
      · show _ ≤ (_ ++ os).size
        simp [Sort.putRowK, Sort.putRow, Sort.mapBlock]
      · show (_ ++ os)[b]? = _
        rw [Array.getElem?_append_left (by simp [Sort.putRowK, Sort.putRow, Sort.mapBlock]; omega)]
        simp only [Sort.putRowK, Sort.putRow, Sort.mapBlock, Array.getElem?_modify]
        rw [if_neg (by omega)]; rfl

/-! ### Compact -/
theorem eql_tg (a b c a' b' c' : Int) (w : World) : (binOp .eql 37 (.agg #[.int .i64 a, .int .i64 b, .int .i64 c]) (.agg #[.int .i64 a', .int .i64 b', .int .i64 c'])).run Try.prog w = .ok (.bool (a == a' && b == b' && c == c')) w := by
  have h0 : Try.prog.underlying 37 = some (.struct (Try.prog.fieldsOf 37)) := by kernel_rfl
  have h1 : Try.prog.stoodInHeld 37 = false := by kernel_rfl
  have h2 : Try.prog.fieldsOf 37 = #[⟨ "Who", 3, 0, false, "", "", 0⟩, ⟨ "N", 3, 1, false, "", "", 8⟩, ⟨ "Elem", 3, 2, false, "", "", 16⟩] := by kernel_rfl
  have hi := Try.underlying3
  rw [run_eql_struct, run_equalIn_agg _ _ _ _ _ h0 h1, h2]
  simp [Op.eqFields, go_sem, hi]
  cases h3 : a == a' <;> cases h4 : b == b' <;> cases h5 : c == c' <;> simp_all
theorem sqs_short {l : List Tg} (h : l.length < 2) : sqs l = l := by
  match l, h with
  | [], _ => rfl
  | [x], _ => rfl
theorem take_succ_tg {l : List Tg} {k : Nat} {x : Tg} (h : l[k]? = some x) : l.take (k + 1) = l.take k ++ [x] := by rw [List.take_add_one, h]; rfl
set_option maxRecDepth 100000 in
set_option maxHeartbeats 16000000 in
theorem compactT_c (B : Nat) (A : Option Addr) (l : List Tg) (n c : Nat) (W : World) (hn : l.length = n) (hbig : n ≤ 4000) (hT : Tab tgE W B tT (.slice A n c) l) :
    Calls Try.prog 62 #[.slice A n c] W (DelOut B c (sqs l) W) := by
  have hcap := tab_cap hT hn
  have HN := Lib.hid hn
  by_cases h2 : n < 2
  · have i1 : (n : Int) < 2 := by omega
    have E := Lib.hid (sqs_short (l := l) (by omega))
    have T0 := Lib.hid hT
    clear hT hn
    go_enter Try.func62, Try.ntmps62
    go_wp2
    go_ret
    exact ⟨A, n, by rw [E.out]; exact HN.out, hcap.1, rfl, by rw [E.out]; exact T0.out, Below.refl _ _⟩
  · have i1 : ¬ (n : Int) < 2 := by omega
    obtain ⟨g, rfl, -, hgB, hgl⟩ := hT.head (by omega)
    have T0 := Lib.hid hT
    have N2 := Lib.hid (show 2 ≤ n by omega)
    have S1 := Lib.hid (sqs_one (l := l) (by omega))
    clear hT hn h2
    go_enter Try.func62, Try.ntmps62
    go_wp2
    go_loopw [3] (fun k_ wr => ∃ k : Nat, k_ = .int .i64 k ∧ 1 ≤ k ∧ k ≤ n ∧ sqs (l.take k) = l.take k ∧ Tab tgE wr B tT (.slice (some ⟨g, 0, none⟩) n c) l ∧ Below B W wr) (fun k_ _ => n - (Go.RowKit.intOf k_).toNat)
    case atStart => exact ⟨1, rfl, Nat.le_refl _, by have := N2.out; omega, S1.out, T0.out, Below.refl _ _⟩
    case round =>
      obtain ⟨k, rfl, hk1, hkn, hsq, hT, hB⟩ := hrel
      have SQ := Lib.hid hsq
      have HT := Lib.hid hT
      have BB := Lib.hid hB
      clear hsq hT hB
      by_cases hlt : k < n
      · obtain ⟨p, rfl⟩ : ∃ p, k = p + 1 := ⟨k - 1, by omega⟩
        obtain ⟨⟨x0, x1, x2⟩, hx⟩ : ∃ x, l[p + 1]? = some x := ⟨_, List.getElem?_eq_getElem (by rw [HN.out]; exact hlt)⟩
        obtain ⟨⟨y0, y1, y2⟩, hy⟩ : ∃ x, l[p]? = some x := ⟨_, List.getElem?_eq_getElem (by rw [HN.out]; omega)⟩
        obtain ⟨a0, a1, a2⟩ := tab_at HT.out hx
        obtain ⟨b0, b1, b2⟩ := tab_at HT.out hy
        simp only at a0 a1 a2 b0 b1 b2
        have HX := Lib.hid hx
        have HY := Lib.hid hy
        have eq := fun w => eql_tg x0 x1 x2 y0 y1 y2 w
        have gd := fun op x y w => guard_tg op x y #[.int .i64 x0, .int .i64 x1, .int .i64 x2] #[.int .i64 y0, .int .i64 y1, .int .i64 y2] w
        have B3 := beq3 (x := (x0, x1, x2)) (y := (y0, y1, y2))
        simp only at B3
        rw [B3] at eq
        obtain ⟨k, hk⟩ : ∃ k, k = p + 1 := ⟨_, rfl⟩
        have KP := Lib.hid hk
        rw [← hk] at a0 a1 a2 hlt hk1 hkn ⊢
        have i2 : (k : Int) < (n : Int) := by omega
        have wm : IntKind.i64.wrap ((k : Int) - 1) = (p : Int) := by rw [show (k : Int) - 1 = (p : Int) by omega]; exact IntWalk.i64_in _ (by omega)
        have i3 : (p : Int) < (n : Int) := by omega
        have HLT := Lib.hid hlt
        by_cases hxy : (x0, x1, x2) = (y0, y1, y2)
        · rw [decide_eq_true hxy] at eq
          have Q0 := Lib.hid (show l.take k = sqs (l.take (k + 1)) by rw [KP.out, sqs_same (by rw [HY.out, ← hxy]) HX.out, SQ.out])
          have ck : (c = k) = False := by simp; omega
          have i4 : (k : Int) ≤ (n : Int) := by omega
          have i5 : (n : Int) ≤ (c : Int) := by omega
          have i6 : (k : Int) ≤ (c : Int) := by omega
          clear hx hy hxy B3 hk hlt hk1 hkn
          go_upto_region 6 with fail
          go_quiet (fail)
          go_wp2
          obtain ⟨q, hq⟩ : ∃ q, q = n - k := ⟨_, rfl⟩
          obtain ⟨cq, hcq⟩ : ∃ cq, cq = c - k := ⟨_, rfl⟩
          rw [← hq, ← hcq]
          have KQ := Lib.hid (show k + q = n by have := HLT.out; omega)
          clear hq hcq a0 a1 a2 b0 b1 b2 eq gd ck
          go_loopw [3, 5] (fun k_ j_ V => ∃ (kk j m : Nat) (cur : List Tg), k_ = .int .i64 kk ∧ j_ = .int .i64 j ∧ 1 ≤ j ∧ j ≤ q ∧ m + 1 = k + j ∧ kk ≤ m ∧ cur.length = n ∧ cur.take kk = sqs (l.take (m + 1)) ∧ cur.drop m = l.drop m ∧ Tab tgE V B tT (.slice (some ⟨g, 0, none⟩) n c) cur ∧ Below B W V) (fun k_ j_ _ => q - (Go.RowKit.intOf j_).toNat)
          case atStart => exact ⟨k, 1, k, l, rfl, rfl, Nat.le_refl _, by have := KQ.out; have := HLT.out; omega, rfl, Nat.le_refl _, HN.out, Q0.out, rfl, by first | exact HT.out | exact HT.out.drewN _, by first | exact BB.out | exact below_drewN BB.out _⟩
          case round =>
            obtain ⟨kk, j, m, cur, rfl, rfl, hj1, hjq, hm, hkm, hcl, htk, hdr, hT, hB⟩ := hrel
            have CL := Lib.hid hcl
            have TK := Lib.hid htk
            have DR := Lib.hid hdr
            have T1 := Lib.hid hT
            have B1 := Lib.hid hB
            have HM := Lib.hid hm
            clear hcl htk hdr hT hB
            by_cases hlt : j < q
            · obtain ⟨pj, hpj⟩ : ∃ pj, pj + 1 = j := ⟨j - 1, by omega⟩
              obtain ⟨⟨u0, u1, u2⟩, hu⟩ : ∃ x, l[m + 1]? = some x := ⟨_, List.getElem?_eq_getElem (by rw [HN.out]; have := KQ.out; omega)⟩
              obtain ⟨⟨v0, v1, v2⟩, hv⟩ : ∃ x, l[m]? = some x := ⟨_, List.getElem?_eq_getElem (by rw [HN.out]; have := KQ.out; omega)⟩
              have hcu : cur[m + 1]? = some (u0, u1, u2) := by rw [at_dropT (drop_nextT DR.out)]; exact hu
              have hcv : cur[m]? = some (v0, v1, v2) := by rw [at_dropT DR.out]; exact hv
              obtain ⟨a0, a1, a2⟩ := tab_at T1.out hcu
              obtain ⟨b0, b1, b2⟩ := tab_at T1.out hcv
              simp only at a0 a1 a2 b0 b1 b2
              rw [show (m + 1) * 3 = k * 3 + j * 3 by omega] at a0 a1 a2
              rw [show m * 3 = k * 3 + pj * 3 by omega] at b0 b1 b2
              have ne := fun w => neq_tg u0 u1 u2 v0 v1 v2 w
              have gd := fun op x y w => guard_tg op x y #[.int .i64 u0, .int .i64 u1, .int .i64 u2] #[.int .i64 v0, .int .i64 v1, .int .i64 v2] w
              have B3 := beq3 (x := (u0, u1, u2)) (y := (v0, v1, v2))
              simp only at B3
              rw [B3] at ne
              have HU := Lib.hid hu
              have HV := Lib.hid hv
              have i7 : (j : Int) < (q : Int) := by omega
              have wj : IntKind.i64.wrap ((j : Int) - 1) = (pj : Int) := by rw [show (j : Int) - 1 = (pj : Int) by omega]; exact IntWalk.i64_in _ (by have := KQ.out; omega)
              have wj1 : IntKind.i64.wrap ((j : Int) + 1) = ((j + 1 : Nat) : Int) := by rw [show (j : Int) + 1 = ((j + 1 : Nat) : Int) by omega]; exact IntWalk.i64_in _ (by have := KQ.out; omega)
              have i8 : (pj : Int) < (q : Int) := by omega
              have JQ := Lib.hid hlt
              have i9 : (kk : Int) < (n : Int) := by have := KQ.out; omega
              have wkk : IntKind.i64.wrap ((kk : Int) + 1) = ((kk + 1 : Nat) : Int) := by rw [show (kk : Int) + 1 = ((kk + 1 : Nat) : Int) by omega]; exact IntWalk.i64_in _ (by omega)
              have KN := Lib.hid (show kk < n by omega)
              clear hu hv hcu hcv B3 hpj hm
              by_cases huv : (u0, u1, u2) = (v0, v1, v2)
              · rw [decide_eq_true huv] at ne
                have FN := Lib.hid (show cur.take kk = sqs (l.take (m + 1 + 1)) by rw [TK.out, sqs_same (by rw [HV.out, ← huv]) HU.out])
                clear huv
                go_upto_region 11 with fail
                go_quiet (fail)
                go_wp2
                go_roundw
                case rel => exact ⟨kk, j + 1, m + 1, cur, rfl, by first | rfl | go_num, by omega, by have := JQ.out; omega, by have := HM.out; omega, by omega, CL.out, FN.out, drop_nextT DR.out, by first | exact T1.out | exact T1.out.drewN _, by first | exact B1.out | exact below_drewN B1.out _⟩
                case measure => have := JQ.out; simp [Go.RowKit.intOf] <;> omega
              · rw [decide_eq_false huv] at ne
                have FN := Lib.hid (show (cur.set kk (u0, u1, u2)).take (kk + 1) = sqs (l.take (m + 1 + 1)) by rw [set_takeT (by rw [CL.out]; exact KN.out), TK.out, sqs_more HV.out HU.out huv])
                have FD := Lib.hid (show (cur.set kk (u0, u1, u2)).drop (m + 1) = l.drop (m + 1) by rw [set_dropT (by omega)]; exact drop_nextT DR.out)
                have FL := Lib.hid (show (cur.set kk (u0, u1, u2)).length = n by rw [List.length_set]; exact CL.out)
                obtain ⟨⟨s0, s1, s2, e0, e1, e2⟩, f0, f1, f2⟩ := tab_any (k := kk) T1.out CL.out KN.out
                have SP := Lib.hid (fun n => tab_put (T1.out.drewN n) CL.out kk (u0, u1, u2))
                have BP := Lib.hid (fun n => ((below_drewN B1.out n).setCell (p := ⟨g, kk * 3, none⟩) hgB (.int .i64 u0)).setCell (p := ⟨g, kk * 3 + 1, none⟩) hgB (.int .i64 u1) |>.setCell (p := ⟨g, kk * 3 + 2, none⟩) hgB (.int .i64 u2))
                clear huv
                go_upto_region 11 with fail
                go_quiet (fail)
                go_wp2
                go_roundw
                case rel => exact ⟨kk + 1, j + 1, m + 1, _, by first | rfl | go_num, by first | rfl | go_num, by omega, by have := JQ.out; omega, by have := HM.out; omega, by omega, FL.out, FN.out, FD.out, SP.out _, BP.out _⟩
                case measure => have := JQ.out; simp [Go.RowKit.intOf] <;> omega
            · have i7 : ¬ (j : Int) < (q : Int) := by omega
              obtain rfl : j = q := by omega
              have TF := Lib.hid (show cur.take kk = sqs l by rw [TK.out, HM.out, KQ.out, List.take_of_length_le (Nat.le_of_eq HN.out)])
              have KN : kk < n := by have := KQ.out; omega
              have ML := Lib.hid (show (sqs l).length = kk by rw [← TF.out, List.length_take, CL.out]; omega)
              have hcz := fun ty => run_clear_tags wr ty g (kk * 3) (n - kk) (c - kk) (by omega) (tab_some T1.out CL.out kk) (fun j => T1.out.free CL.out.symm j)
              have FR := Lib.hid (tab_clear (List.replicate ((n - kk) * 3) (.int .i64 0)) (kk * 3) wr (by have h := tab_front T1.out CL.out (show kk ≤ n by omega); rw [TF.out] at h; exact h) ML.out (Nat.le_refl _))
              have FB := Lib.hid (below_setCells hgB (List.replicate ((n - kk) * 3) (.int .i64 0)) (kk * 3) wr B1.out)
              have ckk : (c = kk) = False := by simp; omega
              have i8 : (kk : Int) ≤ (n : Int) := by omega
              have i9 : (kk : Int) ≤ (c : Int) := by omega
              obtain ⟨vs, hvs⟩ : ∃ vs : List Value, vs = List.replicate ((n - kk) * 3) (.int .i64 0) := ⟨_, rfl⟩
              rw [← hvs] at hcz FR FB
              clear hvs hlt hm
              go_wp2
              go_ret
              exact ⟨_, kk, ML.out, by omega, rfl, FR.out, FB.out⟩
        · rw [decide_eq_false hxy] at eq
          have SN := Lib.hid (show sqs (l.take (k + 1)) = l.take (k + 1) by rw [KP.out, sqs_more HY.out HX.out hxy, SQ.out, take_succ_tg HX.out])
          clear hx hy hxy B3 hk
          go_upto_region 6 with fail
          go_quiet (fail)
          go_wp2
          go_roundw
          case rel => exact ⟨k + 1, by first | rfl | go_num, by omega, by omega, SN.out, by first | exact HT.out | exact HT.out.drewN _, by first | exact BB.out | exact below_drewN BB.out _⟩
          case measure => have := KP.out; simp [Go.RowKit.intOf] <;> omega
      · obtain rfl : k = n := by omega
        have i2 : ¬ (k : Int) < (k : Int) := by omega
        have E := Lib.hid (show sqs l = l by have := SQ.out; rwa [List.take_of_length_le (Nat.le_of_eq HN.out)] at this)
        clear hlt
        go_wp2
        go_ret
        exact ⟨_, k, by rw [E.out]; exact HN.out, hcap.1, rfl, by rw [E.out]; exact HT.out, BB.out⟩
end Go.Proofs.Ythebilmeehnkpaa.Ors
