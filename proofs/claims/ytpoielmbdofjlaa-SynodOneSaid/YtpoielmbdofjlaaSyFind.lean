/-
  Package synod: searches among operations, with each closure of the laws.
-/
import Derived.Test.YtpoielmbdofjlaaSyAlive
namespace Go.Proofs.Ytpoielmbdofjlaa.Syn
set_option linter.unusedVariables false
set_option linter.unusedSimpArgs false
open Go.RowKit Mem Gt
open Jump (Gave equalZ_c)

theorem any_take {l : List VO} {p : VO → Bool} {k : Nat} {x : VO} (h : l[k]? = some x) : (l.take (k + 1)).any p = ((l.take k).any p || p x) := by
  rw [List.take_add_one, h, List.any_append]
  simp
theorem any_of {l : List VO} {p : VO → Bool} {k : Nat} {x : VO} (h : l[k]? = some x) (hp : p x = true) : l.any p = true :=
  List.any_eq_true.2 ⟨x, List.mem_of_getElem? h, hp⟩
/-- An operation as a value. -/
def voV (o : VO) : Value := .agg #[.int .i64 o.1, .int .i64 o.2.1, .int .u16 (o.2.2.1 : Nat), .int .i64 o.2.2.2]

set_option maxRecDepth 100000 in
set_option maxHeartbeats 4000000 in
theorem index_x (bx : Nat) (p : VO → Bool) (A : Option Addr) (l : List VO) (n ca : Nat) (W : World) (hn : l.length = n) (hbig : n ≤ 70368744177664) (hx : Reads W A (flat voE l)) (hf : FitOs l) (r : Bool) (hr : l.any p = r)
    (hc : ∀ (V : World) (o : VO), FitO o → Below W.heap.size W V → Calls Try.prog 14 #[voV o, .pointer (some ⟨bx, 0, none⟩)] V (Gave (.bool (p o)) V)) :
    Calls Try.prog 20 #[.slice A n ca, .func (.func 14) #[] #[.pointer (some ⟨bx, 0, none⟩)]] W
      (fun e W' => ∃ k : Int, decide (0 ≤ k) = r ∧ e = .returned (.int .i64 k) ∧ Below W.heap.size W W') := by
  have HC := Lib.hid (fun (V : World) (a b : Int) (c : Nat) (d : Int) (hs : FitO (a, b, c, d)) (hb : Below W.heap.size W V) (q : Bool) (hq : p (a, b, c, d) = q) => show Calls Try.prog 14 #[.agg #[.int .i64 a, .int .i64 b, .int .u16 (c : Nat), .int .i64 d], .pointer (some ⟨bx, 0, none⟩)] V (Gave (.bool q) V) from hq ▸ hc V (a, b, c, d) hs hb)
  have HX := Lib.hid hx
  have HN := Lib.hid hn
  have HF := Lib.hid hf
  have HR := Lib.hid hr
  clear hx hn hf hc hr
  go_enter Try.func20, Try.ntmps20
  go_wp2
  go_loopw [8] (fun i wr => ∃ k : Nat, k ≤ n ∧ i = .int .i64 k ∧ (l.take k).any p = false ∧ Below W.heap.size W wr) (fun i _ => n - (intOf i).toNat)
  case atStart => exact ⟨0, by omega, rfl, by simp, Below.refl _ _⟩
  case round =>
    obtain ⟨k, hk, rfl, ha, hB⟩ := hrel
    have BB := Lib.hid hB
    have TA := Lib.hid ha
    clear ha
    by_cases hlt : k < n
    · have kl : k < l.length := by rw [HN.out]; exact hlt
      obtain ⟨⟨a, b, c, d⟩, hx⟩ : ∃ x, l[k]? = some x := ⟨_, List.getElem?_eq_getElem kl⟩
      have xf := HF.out _ (List.mem_of_getElem? hx)
      obtain ⟨b1, o1, rfl, hb1, y0, y1, y2, y3⟩ := vo_at (HX.out.below hB) hx
      have EX := Lib.hid hx
      have i1 : (k : Int) < (n : Int) := by omega
      clear kl hx hB hb1
      cases hb : p (a, b, c, d) with
      | true =>
        have CC := Lib.hid (HC.out wr a b c d xf BB.out true hb)
        have RT := Lib.hid (show r = true by rw [← HR.out]; exact any_of EX.out hb)
        clear hb xf
        go_wp2_with fail
        refine CC.out.mono ?_
        rintro e w2 ⟨rfl, hb⟩
        have B2 := Lib.hid (BB.out.trans (hb.mono BB.out.size))
        clear hb
        go_wp2
        go_ret
        exact ⟨k, by rw [RT.out]; exact decide_eq_true (by omega), rfl, B2.out⟩
      | false =>
        have CC := Lib.hid (HC.out wr a b c d xf BB.out false hb)
        have TN := Lib.hid (show (l.take (k + 1)).any p = false by rw [any_take EX.out, TA.out, hb]; rfl)
        clear hb xf
        go_wp2_with fail
        refine CC.out.mono ?_
        rintro e w2 ⟨rfl, hb⟩
        have B2 := Lib.hid (BB.out.trans (hb.mono BB.out.size))
        clear hb
        go_wp2
        go_roundw
        case rel => exact ⟨k + 1, by omega, by go_num, TN.out, B2.out⟩
        case measure => simp [intOf]; omega
    · obtain rfl : k = n := by omega
      have RF := Lib.hid (show r = false by rw [← HR.out, ← TA.out, List.take_of_length_le (by rw [HN.out]; exact Nat.le_refl _)])
      clear hB
      go_wp2
      go_ret
      exact ⟨-1, by rw [RF.out]; rfl, rfl, BB.out⟩
set_option maxRecDepth 100000 in
theorem contains_x (bx : Nat) (p : VO → Bool) (A : Option Addr) (l : List VO) (n ca : Nat) (W : World) (hn : l.length = n) (hbig : n ≤ 70368744177664) (hx : Reads W A (flat voE l)) (hf : FitOs l) (r : Bool) (hr : l.any p = r)
    (hc : ∀ (V : World) (o : VO), FitO o → Below W.heap.size W V → Calls Try.prog 14 #[voV o, .pointer (some ⟨bx, 0, none⟩)] V (Gave (.bool (p o)) V)) :
    Calls Try.prog 13 #[.slice A n ca, .func (.func 14) #[] #[.pointer (some ⟨bx, 0, none⟩)]] W (Gave (.bool r) W) := by
  have IC := Lib.hid (index_x bx p A l n ca W hn hbig hx hf r hr hc)
  clear hx hn hf hc hr
  go_enter Try.func13, Try.ntmps13
  go_wp2_with fail
  refine IC.out.mono ?_
  rintro e w2 ⟨k, hk, rfl, hb⟩
  have B2 := Lib.hid hb
  clear hb
  go_wp2
  go_ret
  exact ⟨by simp [hk], B2.out⟩

set_option maxRecDepth 100000 in
set_option maxHeartbeats 4000000 in
theorem index_o (bx : Nat) (p : VO → Bool) (A : Option Addr) (l : List VO) (n ca : Nat) (W : World) (hn : l.length = n) (hbig : n ≤ 70368744177664) (hx : Reads W A (flat voE l)) (hf : FitOs l) (r : Bool) (hr : l.any p = r)
    (hc : ∀ (V : World) (o : VO), FitO o → Below W.heap.size W V → Calls Try.prog 16 #[voV o] V (Gave (.bool (p o)) V)) :
    Calls Try.prog 20 #[.slice A n ca, .func (.func 16) #[] #[]] W
      (fun e W' => ∃ k : Int, decide (0 ≤ k) = r ∧ e = .returned (.int .i64 k) ∧ Below W.heap.size W W') := by
  have HC := Lib.hid (fun (V : World) (a b : Int) (c : Nat) (d : Int) (hs : FitO (a, b, c, d)) (hb : Below W.heap.size W V) (q : Bool) (hq : p (a, b, c, d) = q) => show Calls Try.prog 16 #[.agg #[.int .i64 a, .int .i64 b, .int .u16 (c : Nat), .int .i64 d]] V (Gave (.bool q) V) from hq ▸ hc V (a, b, c, d) hs hb)
  have HX := Lib.hid hx
  have HN := Lib.hid hn
  have HF := Lib.hid hf
  have HR := Lib.hid hr
  clear hx hn hf hc hr
  go_enter Try.func20, Try.ntmps20
  go_wp2
  go_loopw [8] (fun i wr => ∃ k : Nat, k ≤ n ∧ i = .int .i64 k ∧ (l.take k).any p = false ∧ Below W.heap.size W wr) (fun i _ => n - (intOf i).toNat)
  case atStart => exact ⟨0, by omega, rfl, by simp, Below.refl _ _⟩
  case round =>
    obtain ⟨k, hk, rfl, ha, hB⟩ := hrel
    have BB := Lib.hid hB
    have TA := Lib.hid ha
    clear ha
    by_cases hlt : k < n
    · have kl : k < l.length := by rw [HN.out]; exact hlt
      obtain ⟨⟨a, b, c, d⟩, hx⟩ : ∃ x, l[k]? = some x := ⟨_, List.getElem?_eq_getElem kl⟩
      have xf := HF.out _ (List.mem_of_getElem? hx)
      obtain ⟨b1, o1, rfl, hb1, y0, y1, y2, y3⟩ := vo_at (HX.out.below hB) hx
      have EX := Lib.hid hx
      have i1 : (k : Int) < (n : Int) := by omega
      clear kl hx hB hb1
      cases hb : p (a, b, c, d) with
      | true =>
        have CC := Lib.hid (HC.out wr a b c d xf BB.out true hb)
        have RT := Lib.hid (show r = true by rw [← HR.out]; exact any_of EX.out hb)
        clear hb xf
        go_wp2_with fail
        refine CC.out.mono ?_
        rintro e w2 ⟨rfl, hb⟩
        have B2 := Lib.hid (BB.out.trans (hb.mono BB.out.size))
        clear hb
        go_wp2
        go_ret
        exact ⟨k, by rw [RT.out]; exact decide_eq_true (by omega), rfl, B2.out⟩
      | false =>
        have CC := Lib.hid (HC.out wr a b c d xf BB.out false hb)
        have TN := Lib.hid (show (l.take (k + 1)).any p = false by rw [any_take EX.out, TA.out, hb]; rfl)
        clear hb xf
        go_wp2_with fail
        refine CC.out.mono ?_
        rintro e w2 ⟨rfl, hb⟩
        have B2 := Lib.hid (BB.out.trans (hb.mono BB.out.size))
        clear hb
        go_wp2
        go_roundw
        case rel => exact ⟨k + 1, by omega, by go_num, TN.out, B2.out⟩
        case measure => simp [intOf]; omega
    · obtain rfl : k = n := by omega
      have RF := Lib.hid (show r = false by rw [← HR.out, ← TA.out, List.take_of_length_le (by rw [HN.out]; exact Nat.le_refl _)])
      clear hB
      go_wp2
      go_ret
      exact ⟨-1, by rw [RF.out]; rfl, rfl, BB.out⟩
set_option maxRecDepth 100000 in
theorem contains_o (bx : Nat) (p : VO → Bool) (A : Option Addr) (l : List VO) (n ca : Nat) (W : World) (hn : l.length = n) (hbig : n ≤ 70368744177664) (hx : Reads W A (flat voE l)) (hf : FitOs l) (r : Bool) (hr : l.any p = r)
    (hc : ∀ (V : World) (o : VO), FitO o → Below W.heap.size W V → Calls Try.prog 16 #[voV o] V (Gave (.bool (p o)) V)) :
    Calls Try.prog 13 #[.slice A n ca, .func (.func 16) #[] #[]] W (Gave (.bool r) W) := by
  have IC := Lib.hid (index_o bx p A l n ca W hn hbig hx hf r hr hc)
  clear hx hn hf hc hr
  go_enter Try.func13, Try.ntmps13
  go_wp2_with fail
  refine IC.out.mono ?_
  rintro e w2 ⟨k, hk, rfl, hb⟩
  have B2 := Lib.hid hb
  clear hb
  go_wp2
  go_ret
  exact ⟨by simp [hk], B2.out⟩

theorem box_vo {w : World} (o : VO) : (w.alloc (.cells #[.int .i64 o.1, .int .i64 o.2.1, .int .u16 (o.2.2.1 : Nat), .int .i64 o.2.2.2] 37)).cell? ⟨w.heap.size, 0, none⟩ = some (.int .i64 o.1) ∧ (w.alloc (.cells #[.int .i64 o.1, .int .i64 o.2.1, .int .u16 (o.2.2.1 : Nat), .int .i64 o.2.2.2] 37)).cell? ⟨w.heap.size, 1, none⟩ = some (.int .i64 o.2.1) ∧
    (w.alloc (.cells #[.int .i64 o.1, .int .i64 o.2.1, .int .u16 (o.2.2.1 : Nat), .int .i64 o.2.2.2] 37)).cell? ⟨w.heap.size, 2, none⟩ = some (.int .u16 (o.2.2.1 : Nat)) ∧ (w.alloc (.cells #[.int .i64 o.1, .int .i64 o.2.1, .int .u16 (o.2.2.1 : Nat), .int .i64 o.2.2.2] 37)).cell? ⟨w.heap.size, 3, none⟩ = some (.int .i64 o.2.2.2) :=
  have kn := Known.made w 37 #[.int .i64 o.1, .int .i64 o.2.1, .int .u16 (o.2.2.1 : Nat), .int .i64 o.2.2.2]
  ⟨kn.cell 0, kn.cell 1, kn.cell 2, kn.cell 3⟩
set_option maxRecDepth 100000 in
theorem one1_c (bx : Nat) (x : Int) (o : VO) (V : World) (hb : V.cell? ⟨bx, 0, none⟩ = some (.int .i64 x)) :
    Calls Try.prog 14 #[voV o, .pointer (some ⟨bx, 0, none⟩)] V (Gave (.bool (o.1 == 1 && o.2.2.2 == x)) V) := by
  obtain ⟨a, b, c, d⟩ := o
  unfold voV
  obtain ⟨k0, k1, k2, k3⟩ := box_vo (w := V) (a, b, c, d)
  have x1 : (V.alloc (.cells #[.int .i64 a, .int .i64 b, .int .u16 (c : Nat), .int .i64 d] 37)).cell? ⟨bx, 0, none⟩ = some (.int .i64 x) := (World.cell?_alloc_lt _ _ _ (World.block_lt_of_cell? _ _ hb)).trans hb
  simp only at k0 k1 k2 k3
  show Calls _ _ _ _ (Gave (.bool (a == 1 && d == x)) V)
  cases h1 : (a == 1) with
  | true =>
    cases h2 : (d == x) with
    | true =>
      go_enter Try.func14, Try.ntmps14
      go_wp2
      go_ret
      exact ⟨by simp [h1, h2], below_lit V _⟩
    | false =>
      go_enter Try.func14, Try.ntmps14
      go_wp2
      go_ret
      exact ⟨by simp [h1, h2], below_lit V _⟩
  | false =>
    go_enter Try.func14, Try.ntmps14
    go_wp2
    go_ret
    exact ⟨by simp [h1], below_lit V _⟩
set_option maxRecDepth 100000 in
theorem old1_c (o : VO) (V : World) :
    Calls Try.prog 16 #[voV o] V (Gave (.bool (o.2.1 == 400)) V) := by
  obtain ⟨a, b, c, d⟩ := o
  unfold voV
  obtain ⟨k0, k1, k2, k3⟩ := box_vo (w := V) (a, b, c, d)
  simp only at k0 k1 k2 k3
  show Calls _ _ _ _ (Gave (.bool (b == 400)) V)
  go_enter Try.func16, Try.ntmps16
  go_wp2
  go_ret
  exact ⟨rfl, by first | exact below_lit V _ | exact Below.refl _ _⟩
end Go.Proofs.Ytpoielmbdofjlaa.Syn
