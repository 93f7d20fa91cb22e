/-
  Package locks: isIn; the closure of place, slices.IndexFunc of operations, place; admits.
-/
import Derived.Test.YtdkgclgccicbeaaLkPb
import Derived.Shelf.Abstract
namespace Go.Proofs.Ytdkgclgccicbeaa.LkP
set_option linter.unusedVariables false
set_option linter.unusedSimpArgs false
open Go.RowKit Mem Gt
open Lk

set_option maxRecDepth 100000 in
theorem isin_c (n lo hi : Int) (b : Bool) (V : World) (hb : decide (lo ≤ n ∧ n ≤ hi) = b) :
    Calls Try.prog 26 #[.int .i64 n, .int .i64 lo, .int .i64 hi] V (fun e W' => e = .returned (.bool b) ∧ W' = V) := by
  by_cases h1 : lo ≤ n
  · have e1 : decide (lo ≤ n) = true := decide_eq_true h1
    by_cases h2 : n ≤ hi
    · have e2 : decide (n ≤ hi) = true := decide_eq_true h2
      obtain rfl : true = b := by rw [← hb]; simp [h1, h2]
      clear hb
      go_enter Try.func26, Try.ntmps26
      go_wp2
      go_ret
      exact ⟨rfl, rfl⟩
    · have e2 : decide (n ≤ hi) = false := decide_eq_false h2
      obtain rfl : false = b := by rw [← hb]; simp [h1, h2]
      clear hb
      go_enter Try.func26, Try.ntmps26
      go_wp2
      go_ret
      exact ⟨rfl, rfl⟩
  · have e1 : decide (lo ≤ n) = false := decide_eq_false h1
    obtain rfl : false = b := by rw [← hb]; simp [h1]
    clear hb
    go_enter Try.func26, Try.ntmps26
    go_wp2
    go_ret
    exact ⟨rfl, rfl⟩
/-- A closure tells p of the operations of l, wherever what lay below B in W lies as it was. -/
def Pred (B : Nat) (W : World) (f : Nat) (lb : Array Value) (l : List LO) (p : LO → Bool) : Prop :=
  ∀ (V : World) (x : LO), x ∈ l → Below B W V → Calls Try.prog f (#[.agg #[.int .i64 x.1, .int .i64 x.2.1, .int .i64 x.2.2]] ++ lb) V (Gave (.bool (p x)) V)
def FirstAt (l : List LO) (p : LO → Bool) (k : Int) : Prop := (k = -1 ∧ ∀ x ∈ l, p x = false) ∨ (∃ i x, k = ((i : Nat) : Int) ∧ l[i]? = some x ∧ p x = true ∧ ∀ y ∈ l.take i, p y = false)
def IxOut (l : List LO) (p : LO → Bool) (W : World) (e : Ending) (W' : World) : Prop := ∃ k : Int, FirstAt l p k ∧ e = .returned (.int .i64 k) ∧ Below W.heap.size W W'
set_option maxRecDepth 100000 in
set_option maxHeartbeats 4000000 in
theorem indexP_c (f : Nat) (lb : Array Value) (eg : ∀ args w, (callFunc f args).run Try.prog w = .ok (.enter f args) w) (B : Nat) (W0 : World) (A : Option Addr) (l : List LO) (n ca : Nat) (p : LO → Bool) (W : World) (hn : l.length = n) (hbig : n ≤ 1099511627776) (hx : Reads W A (flat loE l)) (hp : Pred B W0 f lb l p) (hb : Below B W0 W) (hB : B ≤ W.heap.size) :
    Calls Try.prog 59 #[.slice A n ca, .func (.func f) #[] lb] W (IxOut l p W) := by
  have HX := Lib.hid hx
  have HN := Lib.hid hn
  have HP := Lib.hid hp
  have HB := Lib.hid hb
  clear hx hn hp hb
  go_enter Try.func59, Try.ntmps59
  go_wp2
  go_loopw [8] (fun i wr => ∃ k : Nat, k ≤ n ∧ i = .int .i64 k ∧ (∀ y ∈ l.take k, p y = false) ∧ Below W.heap.size W wr) (fun i _ => n - (Go.RowKit.intOf i).toNat)
  case atStart => exact ⟨0, by omega, rfl, fun y hy => by simp at hy, Below.refl _ _⟩
  case round =>
    obtain ⟨k, hk, rfl, ha, hbw⟩ := hrel
    have TA := Lib.hid ha
    have BB := Lib.hid hbw
    clear ha
    by_cases hlt : k < n
    · have kl : k < l.length := by rw [HN.out]; exact hlt
      obtain ⟨⟨x0, x1, x2⟩, hx⟩ : ∃ x, l[k]? = some x := ⟨_, List.getElem?_eq_getElem kl⟩
      obtain ⟨b1, o1, rfl, _, y0, y1, y2⟩ := lo_at (HX.out.below hbw) hx
      simp only at y0 y1 y2
      have EX := Lib.hid hx
      have i1 : (k : Int) < (n : Int) := by omega
      have cc := HP.out wr (x0, x1, x2) (List.mem_of_getElem? hx) (HB.out.trans (hbw.mono hB))
      simp only at cc
      clear kl hx hbw
      cases hq : p (x0, x1, x2) with
      | true =>
        rw [hq] at cc
        have QQ := Lib.hid hq
        clear hq
        go_wp2_with (go_at_fn f; refine cc.mono ?_; rintro e w' ⟨rfl, hb'⟩; have B4 := Lib.hid (BB.out.trans (hb'.mono BB.out.size)); clear hb')
        go_ret
        exact ⟨k, .inr ⟨k, _, rfl, EX.out, QQ.out, TA.out⟩, rfl, B4.out⟩
      | false =>
        rw [hq] at cc
        have TN := Lib.hid (show ∀ y ∈ l.take (k + 1), p y = false from fun y hy => by
          rw [List.take_add_one, EX.out] at hy
          rcases List.mem_append.1 hy with h | h
          · exact TA.out y h
          · simp at h; rw [h]; exact hq)
        clear hq
        go_wp2_with (go_at_fn f; refine cc.mono ?_; rintro e w' ⟨rfl, hb'⟩; have B4 := Lib.hid (BB.out.trans (hb'.mono BB.out.size)); clear hb')
        go_roundw
        case rel => exact ⟨k + 1, by omega, by go_num, TN.out, B4.out⟩
        case measure => simp [Go.RowKit.intOf]; omega
    · obtain rfl : k = n := by omega
      clear hbw
      go_wp2
      go_ret
      exact ⟨-1, .inl ⟨rfl, fun y hy => TA.out y (by rw [List.take_of_length_le (Nat.le_of_eq HN.out)]; exact hy)⟩, rfl, BB.out⟩
theorem first_any {l : List LO} {p : LO → Bool} {k : Int} (h : FirstAt l p k) : decide (0 ≤ k) = l.any p := by
  rcases h with ⟨rfl, h⟩ | ⟨i, x, rfl, h1, h2, _⟩
  · have : l.any p = false := by rw [List.any_eq_false]; intro x hx; rw [h x hx]; decide
    rw [this]; rfl
  · rw [List.any_eq_true.2 ⟨x, List.mem_of_getElem? h1, h2⟩]
    exact decide_eq_true (by omega)
def isN (n : Int) (o : LO) : Bool := decide (o.2.1 = n)
theorem first_nodes {l : List LO} {n k : Int} (h : FirstAt l (isN n) k) : decide (0 ≤ k) = decide (n ∈ nodes l) := by
  refine decide_eq_decide.2 ?_
  rcases h with ⟨rfl, h⟩ | ⟨i, x, rfl, h1, h2, _⟩
  · constructor
    · intro e; omega
    · intro e
      obtain ⟨o, ho, e2⟩ := mem_nodes.1 e
      have := h o ho
      unfold isN at this
      exact absurd e2 (of_decide_eq_false this)
  · exact ⟨fun _ => mem_nodes.2 ⟨x, List.mem_of_getElem? h1, of_decide_eq_true h2⟩, fun _ => by omega⟩
set_option maxRecDepth 100000 in
theorem clos_c (bx : Nat) (n : Int) (x : LO) (V : World) (h : V.cell? ⟨bx, 0, none⟩ = some (.int .i64 n)) :
    Calls Try.prog 60 (#[.agg #[.int .i64 x.1, .int .i64 x.2.1, .int .i64 x.2.2]] ++ #[.pointer (some ⟨bx, 0, none⟩)]) V (Gave (.bool (isN n x)) V) := by
  obtain ⟨x0, x1, x2⟩ := x
  obtain ⟨r, hr⟩ : ∃ r, isN n (x0, x1, x2) = r := ⟨_, rfl⟩
  rw [hr]
  have e1 : (x1 == n) = r := by rw [← hr]; unfold isN; by_cases e : x1 = n <;> simp [e]
  obtain ⟨d0, d1, d2⟩ := box_lo (w := V) (x0, x1, x2)
  simp only at d0 d1 d2
  have hb := (low_lit V (.cells #[.int .i64 x0, .int .i64 x1, .int .i64 x2] 36)).cell (World.block_lt_of_cell? _ _ h)
  have HB := Lib.hid (low_lit V (.cells #[.int .i64 x0, .int .i64 x1, .int .i64 x2] 36))
  rw [h] at hb
  show Calls Try.prog 60 #[.agg #[.int .i64 x0, .int .i64 x1, .int .i64 x2], .pointer (some ⟨bx, 0, none⟩)] V (Gave (.bool r) V)
  clear hr h
  go_enter Try.func60, Try.ntmps60
  go_wp2
  go_ret
  exact ⟨rfl, HB.out⟩
set_option maxRecDepth 100000 in
set_option maxHeartbeats 4000000 in
theorem place_c (G : Nat) (A : Option Addr) (nw cw : Nat) (w : List LO) (n : Int) (V : World) (hc : V.cell? ⟨G, 2, none⟩ = some (.slice A nw cw)) (hw : w.length = nw) (hbig : nw ≤ 1099511627776) (hx : Reads V A (flat loE w)) :
    Calls Try.prog 53 #[.pointer (some ⟨G, 0, none⟩), .int .i64 n] V (IxOut w (isN n) V) := by
  have b1 := low_lit V (.cells #[.int .i64 n] 3)
  have c2 := (b1.cell (World.block_lt_of_cell? _ _ hc)).trans hc
  have kn : (V.alloc (.cells #[.int .i64 n] 3)).cell? ⟨V.heap.size, 0, none⟩ = some (.int .i64 n) := (Known.made V 3 #[.int .i64 n]).cell 0
  have IX := Lib.hid (indexP_c 60 #[.pointer (some ⟨V.heap.size, 0, none⟩)] (enters_of Try.func60 (by kernel_rfl) rfl) (V.heap.size + 1) (V.alloc (.cells #[.int .i64 n] 3)) A w nw cw (isN n) _ hw hbig (hx.below b1)
    (fun U x _ hb => clos_c V.heap.size n x U ((hb.cell (p := ⟨V.heap.size, 0, none⟩) (by simp)).trans kn)) (Below.refl _ _) (by simp))
  have B1 := Lib.hid b1
  clear b1 hx hw kn
  go_enter Try.func53, Try.ntmps53
  go_wp2_with fail
  refine IX.out.mono ?_
  rintro e w2 ⟨x, hf, rfl, hb⟩
  have HF := Lib.hid hf
  have B2 := Lib.hid (B1.out.trans (hb.mono B1.out.size))
  clear hf hb IX
  go_wp2
  go_ret
  exact ⟨x, HF.out, rfl, B2.out⟩
set_option maxRecDepth 100000 in
set_option maxHeartbeats 4000000 in
theorem admits_c (G : Nat) (al : Bool) (h : List Int) (H : Option Addr) (nh ch : Nat) (o : LO) (V : World) (c0 : V.cell? ⟨G, 0, none⟩ = some (.bool al)) (c1 : V.cell? ⟨G, 1, none⟩ = some (.slice H nh ch)) (hn : h.length = nh) :
    Calls Try.prog 61 #[.pointer (some ⟨G, 0, none⟩), .agg #[.int .i64 o.1, .int .i64 o.2.1, .int .i64 o.2.2]] V (Gave (.bool (admits al h o)) V) := by
  obtain ⟨x0, x1, x2⟩ := o
  simp only
  have b1 := low_lit V (.cells #[.int .i64 x0, .int .i64 x1, .int .i64 x2] 36)
  have d0 := (b1.cell (World.block_lt_of_cell? _ _ c0)).trans c0
  have d1 := (b1.cell (World.block_lt_of_cell? _ _ c1)).trans c1
  obtain ⟨y0, _, _⟩ := box_lo (w := V) (x0, x1, x2)
  simp only at y0
  have B1 := Lib.hid b1
  clear b1 c0 c1
  cases nh with
  | zero =>
    have E := Lib.hid (show admits al h (x0, x1, x2) = true by unfold admits; rw [List.eq_nil_of_length_eq_zero hn]; rfl)
    clear hn
    go_enter Try.func61, Try.ntmps61
    go_wp2
    go_ret
    exact ⟨by rw [E.out]; rfl, B1.out⟩
  | succ m =>
    have hh : h.isEmpty = false := by cases h with
      | nil => simp at hn
      | cons a l => rfl
    obtain ⟨nn, hnn⟩ : ∃ nn, nn = m + 1 := ⟨_, rfl⟩
    rw [← hnn] at d1 hn
    have q1 : ((nn : Int) == 0) = false := by rw [beq_eq_false_iff_ne]; omega
    cases al with
    | true =>
      have E := Lib.hid (show admits true h (x0, x1, x2) = false by unfold admits; rw [hh]; rfl)
      clear hn hh hnn
      go_enter Try.func61, Try.ntmps61
      go_wp2
      go_ret
      exact ⟨by rw [E.out]; rfl, B1.out⟩
    | false =>
      obtain ⟨r, hr⟩ : ∃ r, (x0 == 1) = r := ⟨_, rfl⟩
      have E := Lib.hid (show admits false h (x0, x1, x2) = r by unfold admits; rw [hh, ← hr]; by_cases e : x0 = 1 <;> simp [e])
      clear hn hh hnn
      go_enter Try.func61, Try.ntmps61
      go_wp2
      go_ret
      exact ⟨by rw [E.out]; rfl, B1.out⟩
end Go.Proofs.Ytdkgclgccicbeaa.LkP
