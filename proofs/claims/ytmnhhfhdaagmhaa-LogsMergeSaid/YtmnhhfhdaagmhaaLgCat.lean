/-
  Package logs: slices.Grow from nil, slices.Concat of two logs; slices.Sorted(maps.Keys(..)) of a set.
-/
import Derived.Test.YtmnhhfhdaagmhaaLgMem
import Derived.Test.YtmnhhfhdaagmhaaGApp
import Derived.Lib.AppendZerosOnto
import Derived.Lib.SliceRun
import Derived.Lib.Walk
namespace Go.Proofs.Ytmnhhfhdaagmhaa.Lg
set_option linter.unusedVariables false
set_option linter.unusedSimpArgs false
open Go.RowKit Mem Gt
open Jump (Gave equalZ_c)

abbrev ETab (W : World) (B : Nat) (v : Value) (l : List En) : Prop := Tab enE W B tE v l
theorem ETab.nil (W : World) (B : Nat) : ETab W B (.slice none 0 0) [] := Tab.nil W B tE
theorem ETab.form {W : World} {B : Nat} {v : Value} {l : List En} (h : ETab W B v l) : ∃ A cap, v = .slice A l.length cap ∧ l.length ≤ cap ∧ cap ≤ maxLen := Tab.form h
theorem ETab.lt {W : World} {B : Nat} {v : Value} {l : List En} (h : ETab W B v l) : ∀ k, v.ownBlock = some k → B ≤ k ∧ k < W.heap.size := Tab.lt h
/-- A slice of entries of the call's own. -/
def NewEn (es : List En) (n : Nat) (W : World) (e : Ending) (W' : World) : Prop := ∃ A c, e = .returned (.slice A n c) ∧ ETab W' W.heap.size (.slice A n c) es ∧ Below W.heap.size W W'
theorem zero_en : ∃ z, (Try.prog.info? 32).bind (·.zero) = some z ∧ z.cells.size = 3 := by
  obtain ⟨i, hi, z, hz, _, _, h3⟩ := elEn.hi
  exact ⟨z, by rw [hi]; exact hz, h3⟩
set_option maxRecDepth 100000 in
set_option maxHeartbeats 4000000 in
theorem grow_c (n : Nat) (W : World) (hn : n ≤ 2199023255552) :
    Calls Try.prog 30 #[.slice none 0 0, .int .i64 n] W (NewEn [] 0 W) := by
  by_cases h0 : n = 0
  · subst h0
    go_enter Try.func30, Try.ntmps30
    go_wp2
    go_ret
    exact ⟨none, 0, rfl, ETab.nil _ _, Below.refl _ _⟩
  · obtain ⟨i, hi, z, hz, h1, h2, h3⟩ := elEn.hi
    have hold : (Builtin.firstCells i.size 0 (.slice none 0 0)).run Try.prog W.drew = .ok (#[] : Array Value) W.drew := run_firstCells_none W.drew i.size 0 0 0
    have hr : ∀ ty, (Builtin.append_ #[23, 3] ty #[.slice none 0 0, .int .i64 (n : Int)]).run Try.prog W = .ok (.slice (some ⟨W.heap.size, 0, none⟩) n (grownCap W n 0 32)) (W.drew.alloc (.cells ((#[] : Array Value) ++ Builtin.zeroCells z.cells n ++ Builtin.zeroCells z.cells (grownCap W n 0 32 - n)) 32)) := fun ty => by
      have h := Lib.run_append_grow_zeros W 23 3 ty 32 i z .i64 .i64 Try.underlying23 Try.underlying3 hi hz none 0 0 [] hold n (by omega) (by omega) (by omega) (by omega) (by rw [h2]; omega)
        (by rw [Nat.zero_add, h2]; exact growslice_fits (by omega) (by omega))
      rw [Nat.zero_add] at h
      exact h
    have hG1 : n ≤ grownCap W n 0 32 := grownCap_ge W _ _ _
    have hG2 := grownCap_le_maxLen W n 0 32 (by unfold maxLen; omega)
    generalize hg : grownCap W n 0 32 = G at *
    have hT := World.ownsRow_made (base := W.heap.size) (e := 32) (size := 3) W.drew ((#[] : Array Value) ++ Builtin.zeroCells z.cells n ++ Builtin.zeroCells z.cells (G - n)) G (Nat.le_refl _) hG2 (by simp [size_zeroCells, h3]; omega)
    have HT := Lib.hid hT
    have hG3 : G ≤ 9223372036854775807 := by unfold maxLen at hG2; omega
    have HW : Hid (Below W.heap.size W (W.drew.alloc (.cells ((#[] : Array Value) ++ Builtin.zeroCells z.cells n ++ Builtin.zeroCells z.cells (G - n)) 32))) := Lib.hid ((below_drew (Below.refl _ _)).alloc (Nat.le_refl _) _)
    generalize hws : W.drew.alloc (.cells ((#[] : Array Value) ++ Builtin.zeroCells z.cells n ++ Builtin.zeroCells z.cells (G - n)) 32) = V at *
    have i1 : (0 : Int) < (n : Int) := by omega
    clear hold hi hz h1 h2 h3 hT hg hws hG2
    go_enter Try.func30, Try.ntmps30
    go_wp2_with (at_builtin; refine Lib.wpList_append_run _ rfl _ _ _ _ rfl _ _ rfl rfl _ _ (hr _) ?_)
    go_ret
    exact ⟨some ⟨W.heap.size, 0, none⟩, G, rfl, HT.out, HW.out⟩

theorem run_append_none_en (w : World) (base : Nat) (ty : TypeId) (c : Nat) (v : Value) (n : Nat) (xs : List Value) (hown : w.ownsRow base 32 3 v n xs) :
    (Builtin.append_ #[23, 23] ty #[v, .slice none 0 c]).run Try.prog w = .ok v w := by
  obtain ⟨i, hi, z, hz, h1, h2, h3⟩ := elEn.hi
  rcases hown.2 with ⟨rfl, rfl⟩ | ⟨g, cap, cur, rfl, _, _, hnc, _⟩
  · simp [Builtin.append_, run_underlying Try.underlying23, sizeOf, typeInfo, hi, Builtin.lenOf, Builtin.firstCells]
  · simp [Builtin.append_, run_underlying Try.underlying23, sizeOf, typeInfo, hi, Builtin.lenOf, Builtin.firstCells, hnc, storeCells]
/-- 'append(v, es...)'. -/
theorem wpList_append_ens {ops : Array Oper} {rest : List Oper} {o : Oper} {a : Act} {Q : Exit → Act → World → Prop} (hgd : o.guard = none) (s x : Operand)
    (ho : o.op = .call { callee := .builtin .append, args := #[s, x], argTypes := #[23, 23] }) {w : World} {B : Nat} {v : Value} {es us : List En} {n m c : Nat} {A : Option Addr} (hs : a.eval s = v)
    (hx : a.eval x = .slice A m c) (hm : us.length = m) (hr : Reads w A (flat enE us)) (hg : ETab w B v es) (hn : es.length = n) (hl2 : (n + m) * 24 ≤ 140737488355328) (hB : B ≤ w.heap.size) {B0 : Nat} {w0 : World} (hb : Below B0 w0 w) (hB0 : B0 ≤ B) (hsz : B0 ≤ w.heap.size)
    (h : ∀ A c w', Hid (ETab w' B (.slice A (n + m) c) (es ++ us)) → Hid (Below B0 w0 w') → wpList Try.prog ops Q rest (a.put o.dst (.slice A (n + m) c)) w') :
    wpList Try.prog ops Q (o :: rest) a w := by
  obtain ⟨i, hi, z, hz, h1, h2, h3⟩ := elEn.hi
  subst hn hm
  cases A with
  | none =>
    have hus : us = [] := by
      cases us with
      | nil => rfl
      | cons u us => obtain ⟨b, o', h1, _⟩ := hr 0 (.int .i64 u.1) rfl; cases h1
    subst hus
    obtain ⟨A', c', hv, _, _⟩ := hg.form
    refine wpList_plain hgd fun K hK => ?_
    have hrun := run_append_none_en w B o.type c v es.length (flat enE es) hg
    unfold Oper.wp
    simp [execOp, ho, resolve, invoke, builtin, hs, hx, hrun, Result.andThen]
    subst hv
    exact hK _ _ (h A' c' w (by rw [List.append_nil]; exact hg) hb)
  | some ad =>
    refine wpList_append_own_at (w := w) hgd s x 23 ho B 32 i z 3 24 Try.underlying23 hi hz h1 h2 h3 (by decide) v es.length (flat enE es) hs hg ad us.length c (flat enE us) hx (flat_len enE us) ?_ (flat_one enE us) (by unfold maxLen; omega) hl2 hB ?_
    · intro j u hj
      obtain ⟨b, o', e, _, e3⟩ := hr j u hj
      injection e with e
      subst e
      rw [Addr.add_lit]; exact e3
    · intro v' w' k1 g2 _ _
      have hT : ETab w' B v' (es ++ us) := by
        show Tab enE w' B tE v' (es ++ us)
        unfold Tab
        rw [List.length_append, flat_app enE]
        exact k1
      obtain ⟨A, c, hv, _, _⟩ := hT.form
      rw [List.length_append] at hv
      subst hv
      exact h A c w' hT (hb.grown g2 hsz fun k hk => Nat.le_trans hB0 (hg.lt k hk).1)
set_option maxRecDepth 100000 in
set_option maxHeartbeats 4000000 in
theorem concat_c (g n m ca cb : Nat) (A B : Option Addr) (xs ys : List En) (W : World) (hn : xs.length = n) (hm : ys.length = m) (bn : n ≤ 1099511627776) (bm : m ≤ 1099511627776) (hg : g < W.heap.size)
    (h0 : W.cell? ⟨g, 0, none⟩ = some (.slice A n ca)) (h1 : W.cell? ⟨g, 1, none⟩ = some (.slice B m cb)) (hx : Reads W A (flat enE xs)) (hy : Reads W B (flat enE ys)) :
    Calls Try.prog 19 #[.slice (some ⟨g, 0, none⟩) 2 2] W (NewEn (xs ++ ys) (n + m) W) := by
  have HX := Lib.hid hx
  have HY := Lib.hid hy
  have HN := Lib.hid hn
  have HM := Lib.hid hm
  have H0 := Lib.hid h0
  have H1 := Lib.hid h1
  have HG := Lib.hid (grow_c (n + m) W (by omega))
  clear hx hy hn hm
  go_enter Try.func19, Try.ntmps19
  go_wp2
  go_loop [3, 11] (fun s i => (i = .int .i64 0 ∧ s = .int .i64 0) ∨ (i = .int .i64 1 ∧ s = .int .i64 n) ∨ (i = .int .i64 2 ∧ s = .int .i64 ((n : Int) + (m : Int)))) (fun _ i => 2 - (intOf i).toNat)
  case atStart => exact .inl ⟨rfl, rfl⟩
  case round =>
    rcases hrel with ⟨rfl, rfl⟩ | ⟨rfl, rfl⟩ | ⟨rfl, rfl⟩
    · go_wp2
      go_round
      case rel => exact .inr (.inl ⟨rfl, rfl⟩)
      case measure => simp [intOf]
    · go_wp2
      go_round
      case rel => exact .inr (.inr ⟨rfl, rfl⟩)
      case measure => simp [intOf]
    · go_wp2_with fail
      refine HG.out.mono ?_
      rintro e w1 ⟨C, cc, rfl, hT, hb⟩
      have T1 := Lib.hid hT
      have B1 := Lib.hid hb
      have S1 := Lib.hid hb.size
      clear hT hb h0 h1
      go_wp2
      go_loopw [6, 27] (fun s i wr => Below W.heap.size W wr ∧ ((i = .int .i64 0 ∧ ∃ C c, s = .slice C 0 c ∧ ETab wr W.heap.size s []) ∨ (i = .int .i64 1 ∧ ∃ C c, s = .slice C n c ∧ ETab wr W.heap.size s xs) ∨ (i = .int .i64 2 ∧ ∃ C c, s = .slice C (n + m) c ∧ ETab wr W.heap.size s (xs ++ ys)))) (fun _ i _ => 2 - (intOf i).toNat)
      case atStart => exact ⟨B1.out, .inl ⟨rfl, C, cc, rfl, T1.out⟩⟩
      case round =>
        obtain ⟨hb, hc⟩ := hrel
        have B2 := Lib.hid hb
        have S2 := Lib.hid hb.size
        have e0 := (hb.cell (p := ⟨g, 0, none⟩) hg).trans H0.out
        have e1 := (hb.cell (p := ⟨g, 1, none⟩) hg).trans H1.out
        clear hb
        rcases hc with ⟨rfl, C2, c2, rfl, hT⟩ | ⟨rfl, C2, c2, rfl, hT⟩ | ⟨rfl, C2, c2, rfl, hT⟩
        · have T2 := Lib.hid hT
          have X2 := Lib.hid (HX.out.below B2.out)
          clear hT
          go_wp2_with (at_builtin; refine wpList_append_ens (n := 0) rfl (.tmp 31) (.tmp 32) rfl rfl rfl HN.out X2.out T2.out rfl (by omega) S2.out B2.out (Nat.le_refl _) S2.out ?_; intro A3 c3 w3 hT3 hB3)
          have T3 := hT3.out
          rw [List.nil_append, Nat.zero_add] at T3
          have T4 := Lib.hid T3
          have B3 := Lib.hid hB3.out
          clear T3 hT3 hB3
          go_wp2
          go_roundw
          case rel => exact ⟨B3.out, .inr (.inl ⟨rfl, A3, c3, rfl, T4.out⟩)⟩
          case measure => simp [intOf]
        · have T2 := Lib.hid hT
          have X2 := Lib.hid (HY.out.below B2.out)
          clear hT
          go_wp2_with (at_builtin; refine wpList_append_ens rfl (.tmp 31) (.tmp 32) rfl rfl rfl HM.out X2.out T2.out HN.out (by omega) S2.out B2.out (Nat.le_refl _) S2.out ?_; intro A3 c3 w3 hT3 hB3)
          have T4 := Lib.hid hT3.out
          have B3 := Lib.hid hB3.out
          clear hT3 hB3
          go_wp2
          go_roundw
          case rel => exact ⟨B3.out, .inr (.inr ⟨rfl, A3, c3, rfl, T4.out⟩)⟩
          case measure => simp [intOf]
        · have T2 := Lib.hid hT
          clear hT
          go_wp2
          go_ret
          exact ⟨C2, c2, rfl, T2.out, B2.out⟩
theorem concat_t (g n m k ca cb : Nat) (A B : Option Addr) (xs ys : List En) (W : World) (hn : xs.length = n) (hm : ys.length = m) (hk : n + m = k) (bn : n ≤ 1099511627776) (bm : m ≤ 1099511627776) (hg : g < W.heap.size)
    (h0 : W.cell? ⟨g, 0, none⟩ = some (.slice A n ca)) (h1 : W.cell? ⟨g, 1, none⟩ = some (.slice B m cb)) (hx : Reads W A (flat enE xs)) (hy : Reads W B (flat enE ys)) :
    Calls Try.prog 19 #[.slice (some ⟨g, 0, none⟩) 2 2] W (NewEn (xs ++ ys) k W) := hk ▸ concat_c g n m ca cb A B xs ys W hn hm bn bm hg h0 h1 hx hy
end Go.Proofs.Ytmnhhfhdaagmhaa.Lg
