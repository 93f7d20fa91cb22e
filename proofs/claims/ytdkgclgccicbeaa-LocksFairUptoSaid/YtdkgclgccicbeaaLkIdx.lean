/-
  Package locks: slices.IndexFunc of locks, for whatever closure that looks at the key; the laws' closures.
-/
import Derived.Test.YtdkgclgccicbeaaLkEq
import Derived.Lib.LazyBuf
namespace Go.Proofs.Ytdkgclgccicbeaa.Lk
set_option linter.unusedVariables false
set_option linter.unusedSimpArgs false
open Go.RowKit Mem Gt

/-- The closure f with the captures lb answers p of a lock's key. -/
def PredK (B : Nat) (W : World) (f : Nat) (lb : Array Value) (p : Int → Bool) : Prop :=
  ∀ (V : World) (k : Int) (a : Bool) (H : Option Addr) (nh ch : Nat) (S : Option Addr) (ns cs : Nat), Below B W V → Calls Try.prog f (#[.agg #[.int .i64 k, .bool a, .slice H nh ch, .slice S ns cs]] ++ lb) V (Gave (.bool (p k)) V)
def FirstK (l : List Lc) (p : Int → Bool) (k : Int) : Prop := (k = -1 ∧ ∀ x ∈ l, p x.1 = false) ∨ (∃ i x, k = ((i : Nat) : Int) ∧ l[i]? = some x ∧ p x.1 = true ∧ ∀ y ∈ l.take i, p y.1 = false)
def IxOut (l : List Lc) (p : Int → Bool) (W : World) (e : Ending) (W' : World) : Prop := ∃ k : Int, FirstK l p k ∧ e = .returned (.int .i64 k) ∧ Below W.heap.size W W'
set_option maxRecDepth 100000 in
set_option maxHeartbeats 4000000 in
theorem indexK_c (f : Nat) (lb : Array Value) (eg : ∀ args w, (callFunc f args).run Try.prog w = .ok (.enter f args) w) (B : Nat) (W0 : World) (A : Option Addr) (l : List Lc) (n ca : Nat) (p : Int → Bool) (W : World) (hn : l.length = n) (hbig : n ≤ 1099511627776) (hx : LRds W A l) (hp : PredK B W0 f lb p) (hb : Below B W0 W) (hB : B ≤ W.heap.size) :
    Calls Try.prog 17 #[.slice A n ca, .func (.func f) #[] lb] W (IxOut l p W) := by
  have HX := Lib.hid hx
  have HN := Lib.hid hn
  have HP := Lib.hid hp
  have HB := Lib.hid hb
  clear hx hn hp hb
  go_enter Try.func17, Try.ntmps17
  go_wp2
  go_loopw [8] (fun i wr => ∃ k : Nat, k ≤ n ∧ i = .int .i64 k ∧ (∀ y ∈ l.take k, p y.1 = false) ∧ Below W.heap.size W wr) (fun i _ => n - (Go.RowKit.intOf i).toNat)
  case atStart => exact ⟨0, by omega, rfl, fun y hy => by simp at hy, Below.refl _ _⟩
  case round =>
    obtain ⟨k, hk, rfl, ha, hbw⟩ := hrel
    have TA := Lib.hid ha
    have BB := Lib.hid hbw
    clear ha
    by_cases hlt : k < n
    · have kl : k < l.length := by rw [HN.out]; exact hlt
      obtain ⟨⟨x0, x1, x2, x3⟩, hx⟩ : ∃ x, l[k]? = some x := ⟨_, List.getElem?_eq_getElem kl⟩
      obtain ⟨b1, o1, H, nh, ch, S, ns, cs, rfl, _, y0, y1, y2, y3, -⟩ := (HX.out.below hbw).at_ hx
      simp only at y0 y1
      have EX := Lib.hid hx
      have i1 : (k : Int) < (n : Int) := by omega
      have cc := HP.out wr x0 x1 H nh ch S ns cs (HB.out.trans (hbw.mono hB))
      clear kl hx hbw
      cases hq : p x0 with
      | true =>
        rw [hq] at cc
        have QQ := Lib.hid hq
        clear hq
        go_wp2_with (go_at_fn f; refine cc.mono ?_; rintro e w' ⟨rfl, hb'⟩; have B4 := Lib.hid (BB.out.trans (hb'.mono BB.out.size)); clear hb')
        go_ret
        exact ⟨k, .inr ⟨k, _, rfl, EX.out, QQ.out, TA.out⟩, rfl, B4.out⟩
      | false =>
        rw [hq] at cc
        have TN := Lib.hid (show ∀ y ∈ l.take (k + 1), p y.1 = false from fun y hy => by
          rw [List.take_add_one, EX.out] at hy
          rcases List.mem_append.1 hy with h | h
          · exact TA.out y h
          · simp at h; rw [h]; exact hq)
        clear hq
        go_wp2_with (go_at_fn f; refine cc.mono ?_; rintro e w' ⟨rfl, hb'⟩; have B4 := Lib.hid (BB.out.trans (hb'.mono BB.out.size)); clear hb')
        go_roundw
        case rel => exact ⟨k + 1, by omega, by go_num, TN.out, B4.out⟩
        case measure => simp [Go.RowKit.intOf]; omega
    · obtain rfl : k = n := by omega
      clear hbw
      go_wp2
      go_ret
      exact ⟨-1, .inl ⟨rfl, fun y hy => TA.out y (by rw [List.take_of_length_le (Nat.le_of_eq HN.out)]; exact hy)⟩, rfl, BB.out⟩
/-! ### The laws' closures -/
set_option maxRecDepth 100000 in
theorem fair1_c (g : Nat) (key : Int) (W0 : World) (hg : W0.cell? ⟨g, 2, none⟩ = some (.int .i64 key)) : PredK W0.heap.size W0 18 #[.pointer (some ⟨g, 0, none⟩)] (fun k => k == key) := by
  intro V k a H nh ch S ns cs hb
  have z2 := ((low_lit V (.cells #[.int .i64 k, .bool a, .slice H nh ch, .slice S ns cs] 34)).cell (World.block_lt_of_cell? _ _ ((hb.cell (World.block_lt_of_cell? _ _ hg)).trans hg))).trans ((hb.cell (World.block_lt_of_cell? _ _ hg)).trans hg)
  have BV := Lib.hid (low_lit V (.cells #[.int .i64 k, .bool a, .slice H nh ch, .slice S ns cs] 34))
  obtain ⟨x0, x1, x2, x3⟩ := box_lk V _ rfl 34 (v0 := .int .i64 k) (v1 := .bool a) (v2 := .slice H nh ch) (v3 := .slice S ns cs) (Below.refl _ _)
  clear hg hb
  go_enter Try.func18, Try.ntmps18
  go_wp2
  go_ret
  exact ⟨rfl, BV.out⟩
set_option maxRecDepth 100000 in
theorem apart1_c (g : Nat) (key : Int) (W0 : World) (hg : W0.cell? ⟨g, 0, none⟩ = some (.int .i64 key)) : PredK W0.heap.size W0 20 #[.pointer (some ⟨g, 0, none⟩)] (fun k => k != key) := by
  intro V k a H nh ch S ns cs hb
  have z2 := ((low_lit V (.cells #[.int .i64 k, .bool a, .slice H nh ch, .slice S ns cs] 34)).cell (World.block_lt_of_cell? _ _ ((hb.cell (World.block_lt_of_cell? _ _ hg)).trans hg))).trans ((hb.cell (World.block_lt_of_cell? _ _ hg)).trans hg)
  have BV := Lib.hid (low_lit V (.cells #[.int .i64 k, .bool a, .slice H nh ch, .slice S ns cs] 34))
  obtain ⟨x0, x1, x2, x3⟩ := box_lk V _ rfl 34 (v0 := .int .i64 k) (v1 := .bool a) (v2 := .slice H nh ch) (v3 := .slice S ns cs) (Below.refl _ _)
  clear hg hb
  go_enter Try.func20, Try.ntmps20
  go_wp2
  go_ret
  exact ⟨rfl, BV.out⟩
end Go.Proofs.Ytdkgclgccicbeaa.Lk
