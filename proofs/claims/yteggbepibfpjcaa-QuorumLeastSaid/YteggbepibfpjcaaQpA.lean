/-
  Package quorum, the program: searches with a closure, meetsAll, Meet, Live, chosen, Majorities.
-/
import Derived.Test.YteggbepibfpjcaaQpPure
import Derived.Test.YteggbepibfpjcaaQrSpec
import Derived.Test.YteggbepibfpjcaaQrOnes
import Derived.Laws.BitsAllLaws
import Derived.Deep.RegionHeld3
import Derived.Deep.DeepCutAuto
namespace Go.Proofs.Yteggbepibfpjcaa.Qr
set_option linter.unusedVariables false
set_option linter.unusedSimpArgs false
open Go.RowKit Mem
open Go.Lib

theorem any_take {l : List Nat} {p : Nat → Bool} {k x : Nat} (h : l[k]? = some x) : (l.take (k + 1)).any p = ((l.take k).any p || p x) := by
  rw [List.take_add_one, h, List.any_append]
  simp
theorem any_of {l : List Nat} {p : Nat → Bool} {k x : Nat} (h : l[k]? = some x) (hp : p x = true) : l.any p = true :=
  List.any_eq_true.2 ⟨x, List.mem_of_getElem? h, hp⟩
theorem below_box' {w V : World} {ob : Obj} (hb : Below (w.alloc ob).heap.size (w.alloc ob) V) : Below w.heap.size w V :=
  ((Below.refl _ w).alloc (Nat.le_refl _) ob).trans (hb.mono (by simp))
theorem box_at {W V : World} {t : TypeId} {v : Value} (hb : Below (W.alloc (.cells #[v] t)).heap.size (W.alloc (.cells #[v] t)) V) : V.cell? ⟨W.heap.size, 0, none⟩ = some v :=
  (hb.cell (by simp)).trans ((Known.made W t #[v]).cell 0)

set_option maxRecDepth 100000 in
set_option maxHeartbeats 4000000 in
theorem index_a (bx : Nat) (p : Nat → Bool) (A : Option Addr) (l : List Nat) (n ca : Nat) (W : World) (hn : l.length = n) (hbig : n ≤ 70368744177664) (hx : Reads W A (l.map w16)) (hf : Fits l) (r : Bool) (hr : l.any p = r)
    (hc : ∀ (V : World) (s : Nat), s < 65536 → Below W.heap.size W V → Calls Try.prog 44 #[.int .u16 s, .pointer (some ⟨bx, 0, none⟩)] V (Gave (.bool (p s)) V)) :
    Calls Try.prog 45 #[.slice A n ca, .func (.func 44) #[] #[.pointer (some ⟨bx, 0, none⟩)]] W
      (fun e W' => ∃ k : Int, decide (0 ≤ k) = r ∧ e = .returned (.int .i64 k) ∧ Below W.heap.size W W') := by
  have HC := Lib.hid (fun (V : World) (s : Nat) (hs : s < 65536) (hb : Below W.heap.size W V) (q : Bool) (hq : p s = q) => show Calls Try.prog 44 #[.int .u16 s, .pointer (some ⟨bx, 0, none⟩)] V (Gave (.bool q) V) from hq ▸ hc V s hs hb)
  have HX := Lib.hid hx
  have HN := Lib.hid hn
  have HF := Lib.hid hf
  have HR := Lib.hid hr
  clear hx hn hf hc hr
  go_enter Try.func45, Try.ntmps45
  go_wp2
  go_loopw [8] (fun i wr => ∃ k : Nat, k ≤ n ∧ i = .int .i64 k ∧ (l.take k).any p = false ∧ Below W.heap.size W wr) (fun i _ => n - (intOf i).toNat)
  case atStart => exact ⟨0, by omega, rfl, by simp, Below.refl _ _⟩
  case round =>
    obtain ⟨k, hk, rfl, ha, hB⟩ := hrel
    have BB := Lib.hid hB
    have TA := Lib.hid ha
    clear ha
    by_cases hlt : k < n
    · have kl : k < l.length := by rw [HN.out]; exact hlt
      obtain ⟨x, hx⟩ : ∃ x, l[k]? = some x := ⟨_, List.getElem?_eq_getElem kl⟩
      have xf := HF.out x (List.mem_of_getElem? hx)
      obtain ⟨b1, o1, rfl, hb1, y1⟩ := Reads.at16 (HX.out.below hB) hx
      have EX := Lib.hid hx
      have i1 : (k : Int) < (n : Int) := by omega
      clear kl hx hB hb1
      cases hb : p x with
      | true =>
        have CC := Lib.hid (HC.out wr x xf BB.out true hb)
        have RT := Lib.hid (show r = true by rw [← HR.out]; exact any_of EX.out hb)
        clear hb
        go_wp2_with fail
        refine CC.out.mono ?_
        rintro e w2 ⟨rfl, hb⟩
        have B2 := Lib.hid (BB.out.trans (hb.mono BB.out.size))
        clear hb
        go_wp2
        go_ret
        exact ⟨k, by rw [RT.out]; exact decide_eq_true (by omega), rfl, B2.out⟩
      | false =>
        have CC := Lib.hid (HC.out wr x xf BB.out false hb)
        have TN := Lib.hid (show (l.take (k + 1)).any p = false by rw [any_take EX.out, TA.out, hb]; rfl)
        clear hb
        go_wp2_with fail
        refine CC.out.mono ?_
        rintro e w2 ⟨rfl, hb⟩
        have B2 := Lib.hid (BB.out.trans (hb.mono BB.out.size))
        clear hb
        go_wp2
        go_roundw
        case rel => exact ⟨k + 1, by omega, by go_num, TN.out, B2.out⟩
        case measure => simp [intOf]; omega
    · obtain rfl : k = n := by omega
      have RF := Lib.hid (show r = false by rw [← HR.out, ← TA.out, List.take_of_length_le (by rw [HN.out]; exact Nat.le_refl _)])
      clear hB
      go_wp2
      go_ret
      exact ⟨-1, by rw [RF.out]; rfl, rfl, BB.out⟩
set_option maxRecDepth 100000 in
theorem contains_a (bx : Nat) (p : Nat → Bool) (A : Option Addr) (l : List Nat) (n ca : Nat) (W : World) (hn : l.length = n) (hbig : n ≤ 70368744177664) (hx : Reads W A (l.map w16)) (hf : Fits l) (r : Bool) (hr : l.any p = r)
    (hc : ∀ (V : World) (s : Nat), s < 65536 → Below W.heap.size W V → Calls Try.prog 44 #[.int .u16 s, .pointer (some ⟨bx, 0, none⟩)] V (Gave (.bool (p s)) V)) :
    Calls Try.prog 35 #[.slice A n ca, .func (.func 44) #[] #[.pointer (some ⟨bx, 0, none⟩)]] W (Gave (.bool r) W) := by
  have IC := Lib.hid (index_a bx p A l n ca W hn hbig hx hf r hr hc)
  clear hx hn hf hc hr
  go_enter Try.func35, Try.ntmps35
  go_wp2_with fail
  refine IC.out.mono ?_
  rintro e w2 ⟨k, hk, rfl, hb⟩
  have B2 := Lib.hid hb
  clear hb
  go_wp2
  go_ret
  exact ⟨by simp [hk], B2.out⟩

set_option maxRecDepth 100000 in
set_option maxHeartbeats 4000000 in
theorem index_m (bx : Nat) (p : Nat → Bool) (A : Option Addr) (l : List Nat) (n ca : Nat) (W : World) (hn : l.length = n) (hbig : n ≤ 70368744177664) (hx : Reads W A (l.map w16)) (hf : Fits l) (r : Bool) (hr : l.any p = r)
    (hc : ∀ (V : World) (s : Nat), s < 65536 → Below W.heap.size W V → Calls Try.prog 33 #[.int .u16 s, .pointer (some ⟨bx, 0, none⟩)] V (Gave (.bool (p s)) V)) :
    Calls Try.prog 45 #[.slice A n ca, .func (.func 33) #[] #[.pointer (some ⟨bx, 0, none⟩)]] W
      (fun e W' => ∃ k : Int, decide (0 ≤ k) = r ∧ e = .returned (.int .i64 k) ∧ Below W.heap.size W W') := by
  have HC := Lib.hid (fun (V : World) (s : Nat) (hs : s < 65536) (hb : Below W.heap.size W V) (q : Bool) (hq : p s = q) => show Calls Try.prog 33 #[.int .u16 s, .pointer (some ⟨bx, 0, none⟩)] V (Gave (.bool q) V) from hq ▸ hc V s hs hb)
  have HX := Lib.hid hx
  have HN := Lib.hid hn
  have HF := Lib.hid hf
  have HR := Lib.hid hr
  clear hx hn hf hc hr
  go_enter Try.func45, Try.ntmps45
  go_wp2
  go_loopw [8] (fun i wr => ∃ k : Nat, k ≤ n ∧ i = .int .i64 k ∧ (l.take k).any p = false ∧ Below W.heap.size W wr) (fun i _ => n - (intOf i).toNat)
  case atStart => exact ⟨0, by omega, rfl, by simp, Below.refl _ _⟩
  case round =>
    obtain ⟨k, hk, rfl, ha, hB⟩ := hrel
    have BB := Lib.hid hB
    have TA := Lib.hid ha
    clear ha
    by_cases hlt : k < n
    · have kl : k < l.length := by rw [HN.out]; exact hlt
      obtain ⟨x, hx⟩ : ∃ x, l[k]? = some x := ⟨_, List.getElem?_eq_getElem kl⟩
      have xf := HF.out x (List.mem_of_getElem? hx)
      obtain ⟨b1, o1, rfl, hb1, y1⟩ := Reads.at16 (HX.out.below hB) hx
      have EX := Lib.hid hx
      have i1 : (k : Int) < (n : Int) := by omega
      clear kl hx hB hb1
      cases hb : p x with
      | true =>
        have CC := Lib.hid (HC.out wr x xf BB.out true hb)
        have RT := Lib.hid (show r = true by rw [← HR.out]; exact any_of EX.out hb)
        clear hb
        go_wp2_with fail
        refine CC.out.mono ?_
        rintro e w2 ⟨rfl, hb⟩
        have B2 := Lib.hid (BB.out.trans (hb.mono BB.out.size))
        clear hb
        go_wp2
        go_ret
        exact ⟨k, by rw [RT.out]; exact decide_eq_true (by omega), rfl, B2.out⟩
      | false =>
        have CC := Lib.hid (HC.out wr x xf BB.out false hb)
        have TN := Lib.hid (show (l.take (k + 1)).any p = false by rw [any_take EX.out, TA.out, hb]; rfl)
        clear hb
        go_wp2_with fail
        refine CC.out.mono ?_
        rintro e w2 ⟨rfl, hb⟩
        have B2 := Lib.hid (BB.out.trans (hb.mono BB.out.size))
        clear hb
        go_wp2
        go_roundw
        case rel => exact ⟨k + 1, by omega, by go_num, TN.out, B2.out⟩
        case measure => simp [intOf]; omega
    · obtain rfl : k = n := by omega
      have RF := Lib.hid (show r = false by rw [← HR.out, ← TA.out, List.take_of_length_le (by rw [HN.out]; exact Nat.le_refl _)])
      clear hB
      go_wp2
      go_ret
      exact ⟨-1, by rw [RF.out]; rfl, rfl, BB.out⟩
set_option maxRecDepth 100000 in
theorem contains_m (bx : Nat) (p : Nat → Bool) (A : Option Addr) (l : List Nat) (n ca : Nat) (W : World) (hn : l.length = n) (hbig : n ≤ 70368744177664) (hx : Reads W A (l.map w16)) (hf : Fits l) (r : Bool) (hr : l.any p = r)
    (hc : ∀ (V : World) (s : Nat), s < 65536 → Below W.heap.size W V → Calls Try.prog 33 #[.int .u16 s, .pointer (some ⟨bx, 0, none⟩)] V (Gave (.bool (p s)) V)) :
    Calls Try.prog 35 #[.slice A n ca, .func (.func 33) #[] #[.pointer (some ⟨bx, 0, none⟩)]] W (Gave (.bool r) W) := by
  have IC := Lib.hid (index_m bx p A l n ca W hn hbig hx hf r hr hc)
  clear hx hn hf hc hr
  go_enter Try.func35, Try.ntmps35
  go_wp2_with fail
  refine IC.out.mono ?_
  rintro e w2 ⟨k, hk, rfl, hb⟩
  have B2 := Lib.hid hb
  clear hb
  go_wp2
  go_ret
  exact ⟨by simp [hk], B2.out⟩

set_option maxRecDepth 100000 in
set_option maxHeartbeats 4000000 in
theorem index_d (bx : Nat) (p : Nat → Bool) (A : Option Addr) (l : List Nat) (n ca : Nat) (W : World) (hn : l.length = n) (hbig : n ≤ 70368744177664) (hx : Reads W A (l.map w16)) (hf : Fits l) (r : Bool) (hr : l.any p = r)
    (hc : ∀ (V : World) (s : Nat), s < 65536 → Below W.heap.size W V → Calls Try.prog 38 #[.int .u16 s, .pointer (some ⟨bx, 0, none⟩)] V (Gave (.bool (p s)) V)) :
    Calls Try.prog 45 #[.slice A n ca, .func (.func 38) #[] #[.pointer (some ⟨bx, 0, none⟩)]] W
      (fun e W' => ∃ k : Int, decide (0 ≤ k) = r ∧ e = .returned (.int .i64 k) ∧ Below W.heap.size W W') := by
  have HC := Lib.hid (fun (V : World) (s : Nat) (hs : s < 65536) (hb : Below W.heap.size W V) (q : Bool) (hq : p s = q) => show Calls Try.prog 38 #[.int .u16 s, .pointer (some ⟨bx, 0, none⟩)] V (Gave (.bool q) V) from hq ▸ hc V s hs hb)
  have HX := Lib.hid hx
  have HN := Lib.hid hn
  have HF := Lib.hid hf
  have HR := Lib.hid hr
  clear hx hn hf hc hr
  go_enter Try.func45, Try.ntmps45
  go_wp2
  go_loopw [8] (fun i wr => ∃ k : Nat, k ≤ n ∧ i = .int .i64 k ∧ (l.take k).any p = false ∧ Below W.heap.size W wr) (fun i _ => n - (intOf i).toNat)
  case atStart => exact ⟨0, by omega, rfl, by simp, Below.refl _ _⟩
  case round =>
    obtain ⟨k, hk, rfl, ha, hB⟩ := hrel
    have BB := Lib.hid hB
    have TA := Lib.hid ha
    clear ha
    by_cases hlt : k < n
    · have kl : k < l.length := by rw [HN.out]; exact hlt
      obtain ⟨x, hx⟩ : ∃ x, l[k]? = some x := ⟨_, List.getElem?_eq_getElem kl⟩
      have xf := HF.out x (List.mem_of_getElem? hx)
      obtain ⟨b1, o1, rfl, hb1, y1⟩ := Reads.at16 (HX.out.below hB) hx
      have EX := Lib.hid hx
      have i1 : (k : Int) < (n : Int) := by omega
      clear kl hx hB hb1
      cases hb : p x with
      | true =>
        have CC := Lib.hid (HC.out wr x xf BB.out true hb)
        have RT := Lib.hid (show r = true by rw [← HR.out]; exact any_of EX.out hb)
        clear hb
        go_wp2_with fail
        refine CC.out.mono ?_
        rintro e w2 ⟨rfl, hb⟩
        have B2 := Lib.hid (BB.out.trans (hb.mono BB.out.size))
        clear hb
        go_wp2
        go_ret
        exact ⟨k, by rw [RT.out]; exact decide_eq_true (by omega), rfl, B2.out⟩
      | false =>
        have CC := Lib.hid (HC.out wr x xf BB.out false hb)
        have TN := Lib.hid (show (l.take (k + 1)).any p = false by rw [any_take EX.out, TA.out, hb]; rfl)
        clear hb
        go_wp2_with fail
        refine CC.out.mono ?_
        rintro e w2 ⟨rfl, hb⟩
        have B2 := Lib.hid (BB.out.trans (hb.mono BB.out.size))
        clear hb
        go_wp2
        go_roundw
        case rel => exact ⟨k + 1, by omega, by go_num, TN.out, B2.out⟩
        case measure => simp [intOf]; omega
    · obtain rfl : k = n := by omega
      have RF := Lib.hid (show r = false by rw [← HR.out, ← TA.out, List.take_of_length_le (by rw [HN.out]; exact Nat.le_refl _)])
      clear hB
      go_wp2
      go_ret
      exact ⟨-1, by rw [RF.out]; rfl, rfl, BB.out⟩
set_option maxRecDepth 100000 in
theorem contains_d (bx : Nat) (p : Nat → Bool) (A : Option Addr) (l : List Nat) (n ca : Nat) (W : World) (hn : l.length = n) (hbig : n ≤ 70368744177664) (hx : Reads W A (l.map w16)) (hf : Fits l) (r : Bool) (hr : l.any p = r)
    (hc : ∀ (V : World) (s : Nat), s < 65536 → Below W.heap.size W V → Calls Try.prog 38 #[.int .u16 s, .pointer (some ⟨bx, 0, none⟩)] V (Gave (.bool (p s)) V)) :
    Calls Try.prog 35 #[.slice A n ca, .func (.func 38) #[] #[.pointer (some ⟨bx, 0, none⟩)]] W (Gave (.bool r) W) := by
  have IC := Lib.hid (index_d bx p A l n ca W hn hbig hx hf r hr hc)
  clear hx hn hf hc hr
  go_enter Try.func35, Try.ntmps35
  go_wp2_with fail
  refine IC.out.mono ?_
  rintro e w2 ⟨k, hk, rfl, hb⟩
  have B2 := Lib.hid hb
  clear hb
  go_wp2
  go_ret
  exact ⟨by simp [hk], B2.out⟩

set_option maxRecDepth 100000 in
set_option maxHeartbeats 4000000 in
theorem index_w (bx : Nat) (p : Nat → Bool) (A : Option Addr) (l : List Nat) (n ca : Nat) (W : World) (hn : l.length = n) (hbig : n ≤ 70368744177664) (hx : Reads W A (l.map w16)) (hf : Fits l) (r : Bool) (hr : l.any p = r)
    (hc : ∀ (V : World) (s : Nat), s < 65536 → Below W.heap.size W V → Calls Try.prog 46 #[.int .u16 s, .pointer (some ⟨bx, 0, none⟩)] V (Gave (.bool (p s)) V)) :
    Calls Try.prog 45 #[.slice A n ca, .func (.func 46) #[] #[.pointer (some ⟨bx, 0, none⟩)]] W
      (fun e W' => ∃ k : Int, decide (0 ≤ k) = r ∧ e = .returned (.int .i64 k) ∧ Below W.heap.size W W') := by
  have HC := Lib.hid (fun (V : World) (s : Nat) (hs : s < 65536) (hb : Below W.heap.size W V) (q : Bool) (hq : p s = q) => show Calls Try.prog 46 #[.int .u16 s, .pointer (some ⟨bx, 0, none⟩)] V (Gave (.bool q) V) from hq ▸ hc V s hs hb)
  have HX := Lib.hid hx
  have HN := Lib.hid hn
  have HF := Lib.hid hf
  have HR := Lib.hid hr
  clear hx hn hf hc hr
  go_enter Try.func45, Try.ntmps45
  go_wp2
  go_loopw [8] (fun i wr => ∃ k : Nat, k ≤ n ∧ i = .int .i64 k ∧ (l.take k).any p = false ∧ Below W.heap.size W wr) (fun i _ => n - (intOf i).toNat)
  case atStart => exact ⟨0, by omega, rfl, by simp, Below.refl _ _⟩
  case round =>
    obtain ⟨k, hk, rfl, ha, hB⟩ := hrel
    have BB := Lib.hid hB
    have TA := Lib.hid ha
    clear ha
    by_cases hlt : k < n
    · have kl : k < l.length := by rw [HN.out]; exact hlt
      obtain ⟨x, hx⟩ : ∃ x, l[k]? = some x := ⟨_, List.getElem?_eq_getElem kl⟩
      have xf := HF.out x (List.mem_of_getElem? hx)
      obtain ⟨b1, o1, rfl, hb1, y1⟩ := Reads.at16 (HX.out.below hB) hx
      have EX := Lib.hid hx
      have i1 : (k : Int) < (n : Int) := by omega
      clear kl hx hB hb1
      cases hb : p x with
      | true =>
        have CC := Lib.hid (HC.out wr x xf BB.out true hb)
        have RT := Lib.hid (show r = true by rw [← HR.out]; exact any_of EX.out hb)
        clear hb
        go_wp2_with fail
        refine CC.out.mono ?_
        rintro e w2 ⟨rfl, hb⟩
        have B2 := Lib.hid (BB.out.trans (hb.mono BB.out.size))
        clear hb
        go_wp2
        go_ret
        exact ⟨k, by rw [RT.out]; exact decide_eq_true (by omega), rfl, B2.out⟩
      | false =>
        have CC := Lib.hid (HC.out wr x xf BB.out false hb)
        have TN := Lib.hid (show (l.take (k + 1)).any p = false by rw [any_take EX.out, TA.out, hb]; rfl)
        clear hb
        go_wp2_with fail
        refine CC.out.mono ?_
        rintro e w2 ⟨rfl, hb⟩
        have B2 := Lib.hid (BB.out.trans (hb.mono BB.out.size))
        clear hb
        go_wp2
        go_roundw
        case rel => exact ⟨k + 1, by omega, by go_num, TN.out, B2.out⟩
        case measure => simp [intOf]; omega
    · obtain rfl : k = n := by omega
      have RF := Lib.hid (show r = false by rw [← HR.out, ← TA.out, List.take_of_length_le (by rw [HN.out]; exact Nat.le_refl _)])
      clear hB
      go_wp2
      go_ret
      exact ⟨-1, by rw [RF.out]; rfl, rfl, BB.out⟩
set_option maxRecDepth 100000 in
theorem contains_w (bx : Nat) (p : Nat → Bool) (A : Option Addr) (l : List Nat) (n ca : Nat) (W : World) (hn : l.length = n) (hbig : n ≤ 70368744177664) (hx : Reads W A (l.map w16)) (hf : Fits l) (r : Bool) (hr : l.any p = r)
    (hc : ∀ (V : World) (s : Nat), s < 65536 → Below W.heap.size W V → Calls Try.prog 46 #[.int .u16 s, .pointer (some ⟨bx, 0, none⟩)] V (Gave (.bool (p s)) V)) :
    Calls Try.prog 35 #[.slice A n ca, .func (.func 46) #[] #[.pointer (some ⟨bx, 0, none⟩)]] W (Gave (.bool r) W) := by
  have IC := Lib.hid (index_w bx p A l n ca W hn hbig hx hf r hr hc)
  clear hx hn hf hc hr
  go_enter Try.func35, Try.ntmps35
  go_wp2_with fail
  refine IC.out.mono ?_
  rintro e w2 ⟨k, hk, rfl, hb⟩
  have B2 := Lib.hid hb
  clear hb
  go_wp2
  go_ret
  exact ⟨by simp [hk], B2.out⟩


/-! ### meetsAll, Meet, Live -/
/-- They have nobody in common. -/
theorem rise_succ' (k : Nat) (p : Nat → Bool) : (p k = true → rise (k + 1) p = rise k p ++ [k]) ∧ (p k = false → rise (k + 1) p = rise k p) := by
  unfold rise
  rw [List.range_succ, List.filter_append]
  exact ⟨fun h => by simp [h], fun h => by simp [h]⟩
def apart (s x : Nat) : Bool := decide (s &&& x = 0)
/-- s meets all of l. -/
def meetsB (s : Nat) (l : List Nat) : Bool := !l.any (apart s)
theorem meetsB_iff {s : Nat} {l : List Nat} : meetsB s l = true ↔ ∀ x ∈ l, s &&& x ≠ 0 := by simp [meetsB, apart]
set_option maxRecDepth 100000 in
theorem apart_c (bx s x : Nat) (V : World) (hs : s < 65536) (hx : x < 65536) (hb : V.cell? ⟨bx, 0, none⟩ = some (.int .u16 s)) :
    Calls Try.prog 44 #[.int .u16 x, .pointer (some ⟨bx, 0, none⟩)] V (Gave (.bool (apart s x)) V) := by
  obtain ⟨y, hy⟩ : ∃ y, y = s &&& x := ⟨_, rfl⟩
  have a1 : bits .and .u16 (s : Int) (x : Int) = (y : Int) := by rw [hy]; exact and16 hs hx
  obtain ⟨r, hr⟩ : ∃ r, apart s x = r := ⟨_, rfl⟩
  have e1 : ((y : Int) == 0) = r := by rw [← hr, apart, ← hy]; rw [Bool.eq_iff_iff]; simp
  rw [hr]
  clear hy hr hs hx
  go_enter Try.func44, Try.ntmps44
  go_wp2
  go_ret
  exact ⟨by simp [e1], Below.refl _ _⟩
set_option maxRecDepth 100000 in
theorem meetsAll_c (s : Nat) (A : Option Addr) (l : List Nat) (n ca : Nat) (W : World) (hs : s < 65536) (hn : l.length = n) (hbig : n ≤ 70368744177664) (hx : Reads W A (l.map w16)) (hf : Fits l) (r : Bool) (hr : meetsB s l = r) :
    Calls Try.prog 34 #[.int .u16 s, .slice A n ca] W (Gave (.bool r) W) := by
  have mk := fun fn first cap w => (show (Instr.makeFunc fn first cap).run Try.prog w = .ok (.func fn first cap) w from rfl)
  obtain ⟨q, hq⟩ : ∃ q, l.any (apart s) = q := ⟨_, rfl⟩
  have hrq : (!q) = r := by rw [← hr, meetsB, hq]
  have B1 : Below W.heap.size W (W.alloc (.cells #[.int .u16 (s : Int)] 23)) := (Below.refl _ _).alloc (Nat.le_refl _) _
  have CC := Lib.hid (contains_a W.heap.size (apart s) A l n ca (W.alloc (.cells #[.int .u16 (s : Int)] 23)) hn hbig (hx.below B1) hf q hq (fun V x hx hb => apart_c W.heap.size s x V hs hx (box_at hb)))
  clear hx hn hf hr hq B1
  go_enter Try.func34, Try.ntmps34
  go_wp2_with fail
  refine CC.out.mono ?_
  rintro e w2 ⟨rfl, hb⟩
  have B2 := Lib.hid (below_box' hb)
  clear hb
  go_wp2
  go_ret
  exact ⟨by simp [hrq], B2.out⟩
theorem live_eq (l : List Nat) (d : Nat) : live l d = !meetsB d l := by
  unfold live
  rw [Bool.eq_iff_iff, decide_eq_true_iff, Bool.not_eq_true', ← Bool.not_eq_true, meetsB_iff]
  constructor
  · rintro ⟨x, hx, e⟩ h
    exact h x hx (and_comm0 e)
  · intro h
    refine Classical.byContradiction fun hn => h fun x hx e => hn ⟨x, hx, and_comm0 e⟩
theorem meetAll_eq (a b : List Nat) : meetAll a b = !a.any (fun s => !meetsB s b) := by
  unfold meetAll
  rw [Bool.eq_iff_iff, decide_eq_true_iff, Bool.not_eq_true', ← Bool.not_eq_true, List.any_eq_true]
  constructor
  · rintro h ⟨s, hs, e⟩
    rw [Bool.not_eq_true', ← Bool.not_eq_true, meetsB_iff] at e
    exact e (h s hs)
  · intro h s hs
    refine meetsB_iff.1 (Classical.byContradiction fun hn => h ⟨s, hs, ?_⟩)
    rw [Bool.not_eq_true', ← Bool.not_eq_true]; exact hn
theorem trans_eq (l : List Nat) (s : Nat) : meets l s = meetsB s l := by
  unfold meets
  rw [Bool.eq_iff_iff, decide_eq_true_iff, meetsB_iff]
  exact ⟨fun h x hx e => h x hx (and_comm0 e), fun h x hx e => h x hx (and_comm0 e)⟩
set_option maxRecDepth 100000 in
theorem liveSpec : LiveSpec := by
  intro A l n ca d W r k hn hbig hx hf hd hk hr
  by_cases h400 : 400 < n
  · have i1 : (400 : Int) < (n : Int) := by omega
    have e0 : liveE l = 2 := by unfold liveE; rw [if_pos (by omega)]
    obtain rfl : k = 2 := by rw [← hk, e0]
    obtain rfl : r = false := by rw [← hr]; unfold liveB; rw [if_neg (by rw [e0]; decide)]
    clear hn hx hf hk hr e0 h400
    go_enter Try.func13, Try.ntmps13
    go_wp2
    go_ret2
    exact ⟨rfl, Below.refl _ _⟩
  · have i1 : ¬ (400 : Int) < (n : Int) := by omega
    have e0 : liveE l = 0 := by unfold liveE; rw [if_neg (by omega)]
    obtain rfl : k = 0 := by rw [← hk, e0]
    obtain ⟨q, hq⟩ : ∃ q, meetsB d l = q := ⟨_, rfl⟩
    have hrq : (!q) = r := by rw [← hr]; unfold liveB; rw [if_pos e0, live_eq, hq]
    have MC := Lib.hid (meetsAll_c d A l n ca W hd hn hbig hx hf q hq)
    clear hn hx hf hk hr e0 h400 hq
    go_enter Try.func13, Try.ntmps13
    go_wp2_with fail
    refine MC.out.mono ?_
    rintro e w2 ⟨rfl, hb⟩
    have B2 := Lib.hid hb
    clear hb
    go_wp2
    go_ret2
    exact ⟨by simp [hrq], B2.out⟩
set_option maxRecDepth 100000 in
theorem misses_c (bx s : Nat) (B : Option Addr) (b : List Nat) (m cb : Nat) (V : World) (hs : s < 65536) (hm : b.length = m) (hbig : m ≤ 70368744177664) (hx : Reads V B (b.map w16)) (hf : Fits b) (hb : V.cell? ⟨bx, 0, none⟩ = some (.slice B m cb)) :
    Calls Try.prog 33 #[.int .u16 s, .pointer (some ⟨bx, 0, none⟩)] V (Gave (.bool (!meetsB s b)) V) := by
  obtain ⟨q, hq⟩ : ∃ q, meetsB s b = q := ⟨_, rfl⟩
  have MC := Lib.hid (meetsAll_c s B b m cb V hs hm hbig hx hf q hq)
  rw [hq]
  clear hm hx hf hq hs
  go_enter Try.func33, Try.ntmps33
  go_wp2_with fail
  refine MC.out.mono ?_
  rintro e w2 ⟨rfl, hb⟩
  have B2 := Lib.hid hb
  clear hb
  go_wp2
  go_ret
  exact ⟨rfl, B2.out⟩
set_option maxRecDepth 100000 in
theorem meetSpec : MeetSpec := by
  intro A a n ca B b m cb W r k hn hbig hx hf hm hbig2 hy hg hk hr
  have mk := fun fn first cap w => (show (Instr.makeFunc fn first cap).run Try.prog w = .ok (.func fn first cap) w from rfl)
  by_cases h1 : 400 < n
  · have i1 : (400 : Int) < (n : Int) := by omega
    have i1b : decide ((400 : Int) < (n : Int)) = true := decide_eq_true i1
    have i1n : decide (400 < n) = true := decide_eq_true h1
    have e0 : meetE a b = 2 := by unfold meetE; rw [if_pos (by omega)]
    obtain rfl : k = 2 := by rw [← hk, e0]
    obtain rfl : r = false := by rw [← hr]; unfold meetB; rw [if_neg (by rw [e0]; decide)]
    clear hn hx hf hk hr e0 h1 hm hy hg
    go_enter Try.func12, Try.ntmps12
    go_wp2
    first | go_ret2 | (go_quiet (fail); go_wp2; go_ret2)
    exact ⟨rfl, by first | exact (Below.refl _ _).alloc (Nat.le_refl _) _ | exact below_drewN ((Below.refl _ _).alloc (Nat.le_refl _) _) _⟩
  · have i1 : ¬ (400 : Int) < (n : Int) := by omega
    have i1b : decide ((400 : Int) < (n : Int)) = false := decide_eq_false i1
    have i1n : decide (400 < n) = false := decide_eq_false h1
    by_cases h2 : 400 < m
    · have i2 : (400 : Int) < (m : Int) := by omega
      have i2b : decide ((400 : Int) < (m : Int)) = true := decide_eq_true i2
      have i2n : decide (400 < m) = true := decide_eq_true h2
      have e0 : meetE a b = 2 := by unfold meetE; rw [if_pos (by omega)]
      obtain rfl : k = 2 := by rw [← hk, e0]
      obtain rfl : r = false := by rw [← hr]; unfold meetB; rw [if_neg (by rw [e0]; decide)]
      clear hn hx hf hk hr e0 h1 h2 hm hy hg
      go_enter Try.func12, Try.ntmps12
      go_wp2
      first | go_ret2 | (go_quiet (fail); go_wp2; go_ret2)
      exact ⟨rfl, by first | exact (Below.refl _ _).alloc (Nat.le_refl _) _ | exact below_drewN ((Below.refl _ _).alloc (Nat.le_refl _) _) _⟩
    · have i2 : ¬ (400 : Int) < (m : Int) := by omega
      have i2b : decide ((400 : Int) < (m : Int)) = false := decide_eq_false i2
      have i2n : decide (400 < m) = false := decide_eq_false h2
      have e0 : meetE a b = 0 := by unfold meetE; rw [if_neg (by omega)]
      obtain rfl : k = 0 := by rw [← hk, e0]
      obtain ⟨q, hq⟩ : ∃ q, a.any (fun s => !meetsB s b) = q := ⟨_, rfl⟩
      have hrq : (!q) = r := by rw [← hr]; unfold meetB; rw [if_pos e0, meetAll_eq, hq]
      have B1 : Below W.heap.size W (W.alloc (.cells #[.slice B m cb] 22)) := (Below.refl _ _).alloc (Nat.le_refl _) _
      have CC := Lib.hid (fun (X : World) (hX : Below (W.alloc (.cells #[.slice B m cb] 22)).heap.size (W.alloc (.cells #[.slice B m cb] 22)) X) =>
        contains_m W.heap.size (fun s => !meetsB s b) A a n ca X hn hbig (hx.below (below_box' hX)) hf q hq
          (fun V s hs hb => misses_c W.heap.size s B b m cb V hs hm hbig2 (hy.below (below_box' (hX.trans (hb.mono hX.size)))) hg (box_at (hX.trans (hb.mono hX.size)))))
      clear hn hx hf hk hr e0 h1 h2 hm hy hg hq B1
      go_enter Try.func12, Try.ntmps12
      go_wp2_with (go_at_call 35; refine (CC.out _ (by first | exact Below.refl _ _ | exact below_drewN (Below.refl _ _) _)).mono ?_; rintro e w2 ⟨rfl, hb⟩; have B2 := Lib.hid (below_box' (by first | exact hb | exact (below_drewN (Below.refl _ _) _).trans (hb.mono (Nat.le_refl _)))); clear hb)
      go_ret2
      exact ⟨by simp [hrq], B2.out⟩

set_option maxRecDepth 100000 in
set_option maxHeartbeats 4000000 in
theorem chosen_j (bx m : Nat) (p : Nat → Bool) (l : List Nat) (n : Nat) (W : World) (h10 : m ≤ 10) (hl : rise (2 ^ m) p = l) (hn : l.length = n)
    (hc : ∀ (V : World) (s : Nat), s < 65536 → Below W.heap.size W V → Calls Try.prog 27 #[.int .u16 s, .pointer (some ⟨bx, 0, none⟩)] V (Gave (.bool (p s)) V)) :
    Calls Try.prog 28 #[.int .i64 m, .func (.func 27) #[] #[.pointer (some ⟨bx, 0, none⟩)]] W (fun e W' => ∃ A c, e = .returned (.slice A n c) ∧ n ≤ 1024 ∧ Reads W' A (l.map w16) ∧ Below W.heap.size W W') := by
  have HC := Lib.hid (fun (V : World) (s : Nat) (hs : s < 65536) (hb : Below W.heap.size W V) (r : Bool) (hr : p s = r) => show Calls Try.prog 27 #[.int .u16 s, .pointer (some ⟨bx, 0, none⟩)] V (Gave (.bool r) V) from hr ▸ hc V s hs hb)
  have RS := Lib.hid (fun k => rise_succ' k p)
  obtain ⟨N, hN⟩ : ∃ N, N = 2 ^ m := ⟨_, rfl⟩
  have n4 : N ≤ 1024 := by rw [hN]; show 2 ^ m ≤ 2 ^ 10; exact Nat.pow_le_pow_right (by decide) (by omega)
  have w0 : IntKind.u16.wrap (2 ^ m) = (N : Int) := by rw [show (2 : Int) ^ m = (N : Int) by rw [hN]; simp]; exact wrap16 (by omega)
  rw [← hN] at hl
  have HL := Lib.hid hl
  have HM := Lib.hid hn
  clear hc hN hl hn
  go_enter Try.func28, Try.ntmps28
  go_wp2
  go_loopw [5, 9] (fun v i wr => ∃ (k n : Nat) (A : Option Addr) (c : Nat), k ≤ N ∧ n ≤ k ∧ i = .int .u16 k ∧ v = .slice A n c ∧ (rise k p).length = n ∧ UTab wr W.heap.size (.slice A n c) (rise k p) ∧ Below W.heap.size W wr) (fun _ i _ => N - (intOf i).toNat)
  case atStart => exact ⟨0, 0, none, 0, by omega, by omega, rfl, rfl, rfl, UTab.nil _ _, Below.refl _ _⟩
  case round =>
    obtain ⟨k, n, A, c, hk, hnk, rfl, rfl, hl, hT, hB⟩ := hrel
    have DL := Lib.hid hl
    have ZT := Lib.hid hT
    have BB := Lib.hid hB
    clear hl hT hB
    by_cases hlt : k < N
    · have i1 : (k : Int) < (N : Int) := by omega
      have w1 : IntKind.u16.wrap ((k : Int) + 1) = ((k + 1 : Nat) : Int) := by rw [show (k : Int) + 1 = ((k + 1 : Nat) : Int) by omega]; exact wrap16 (by omega)
      have KL := Lib.hid hlt
      obtain ⟨t1, t2⟩ := RS.out k
      cases hb : p k with
      | false =>
        have EQ := Lib.hid (t2 hb)
        have CC := Lib.hid (HC.out wr k (by omega) BB.out false hb)
        clear t1 t2 hb
        go_wp2_with fail
        refine CC.out.mono ?_
        rintro e w2 ⟨rfl, hb⟩
        have B2 := Lib.hid (BB.out.trans (hb.mono BB.out.size))
        have Z2 := Lib.hid (ZT.out.later hb)
        clear hb
        go_wp2
        go_roundw
        case rel => exact ⟨k + 1, n, A, c, by have := KL.out; omega, by omega, by first | rfl | go_num, rfl, by rw [EQ.out]; exact DL.out, by rw [EQ.out]; exact Z2.out, B2.out⟩
        case measure => have := KL.out; simp [intOf]; omega
      | true =>
        have EQ := Lib.hid (t1 hb)
        have CC := Lib.hid (HC.out wr k (by omega) BB.out true hb)
        clear t1 t2 hb
        go_wp2_with fail
        refine CC.out.mono ?_
        rintro e w2 ⟨rfl, hb⟩
        have B2 := Lib.hid (BB.out.trans (hb.mono BB.out.size))
        have Z2 := Lib.hid (ZT.out.later hb)
        clear hb
        go_wp2_with (refine wpList_append_u rfl _ _ (by rfl) (y := (k : Int)) k rfl (B := W.heap.size) (v := .slice A n c) (l := rise k p) (n := n) rfl rfl Z2.out DL.out (by omega) B2.out.size B2.out (Nat.le_refl _) ?_; intro A3 c3 w3 Z3 G3 B3)
        go_roundw
        case rel => exact ⟨k + 1, n + 1, A3, c3, by have := KL.out; omega, by omega, by first | rfl | go_num, rfl, by rw [EQ.out, List.length_append, DL.out]; rfl, by rw [EQ.out]; exact Z3.out, B3.out⟩
        case measure => have := KL.out; simp [intOf]; omega
    · obtain rfl : k = N := by omega
      go_wp2
      go_ret
      rw [← HL.out, ← HM.out, ← HL.out, DL.out]
      exact ⟨A, c, rfl, by omega, ZT.out.reads, BB.out⟩

set_option maxRecDepth 100000 in
set_option maxHeartbeats 4000000 in
theorem chosen_q (bx m : Nat) (p : Nat → Bool) (l : List Nat) (n : Nat) (W : World) (h10 : m ≤ 10) (hl : rise (2 ^ m) p = l) (hn : l.length = n)
    (hc : ∀ (V : World) (s : Nat), s < 65536 → Below W.heap.size W V → Calls Try.prog 39 #[.int .u16 s, .pointer (some ⟨bx, 0, none⟩)] V (Gave (.bool (p s)) V)) :
    Calls Try.prog 28 #[.int .i64 m, .func (.func 39) #[] #[.pointer (some ⟨bx, 0, none⟩)]] W (fun e W' => ∃ A c, e = .returned (.slice A n c) ∧ n ≤ 1024 ∧ Reads W' A (l.map w16) ∧ Below W.heap.size W W') := by
  have HC := Lib.hid (fun (V : World) (s : Nat) (hs : s < 65536) (hb : Below W.heap.size W V) (r : Bool) (hr : p s = r) => show Calls Try.prog 39 #[.int .u16 s, .pointer (some ⟨bx, 0, none⟩)] V (Gave (.bool r) V) from hr ▸ hc V s hs hb)
  have RS := Lib.hid (fun k => rise_succ' k p)
  obtain ⟨N, hN⟩ : ∃ N, N = 2 ^ m := ⟨_, rfl⟩
  have n4 : N ≤ 1024 := by rw [hN]; show 2 ^ m ≤ 2 ^ 10; exact Nat.pow_le_pow_right (by decide) (by omega)
  have w0 : IntKind.u16.wrap (2 ^ m) = (N : Int) := by rw [show (2 : Int) ^ m = (N : Int) by rw [hN]; simp]; exact wrap16 (by omega)
  rw [← hN] at hl
  have HL := Lib.hid hl
  have HM := Lib.hid hn
  clear hc hN hl hn
  go_enter Try.func28, Try.ntmps28
  go_wp2
  go_loopw [5, 9] (fun v i wr => ∃ (k n : Nat) (A : Option Addr) (c : Nat), k ≤ N ∧ n ≤ k ∧ i = .int .u16 k ∧ v = .slice A n c ∧ (rise k p).length = n ∧ UTab wr W.heap.size (.slice A n c) (rise k p) ∧ Below W.heap.size W wr) (fun _ i _ => N - (intOf i).toNat)
  case atStart => exact ⟨0, 0, none, 0, by omega, by omega, rfl, rfl, rfl, UTab.nil _ _, Below.refl _ _⟩
  case round =>
    obtain ⟨k, n, A, c, hk, hnk, rfl, rfl, hl, hT, hB⟩ := hrel
    have DL := Lib.hid hl
    have ZT := Lib.hid hT
    have BB := Lib.hid hB
    clear hl hT hB
    by_cases hlt : k < N
    · have i1 : (k : Int) < (N : Int) := by omega
      have w1 : IntKind.u16.wrap ((k : Int) + 1) = ((k + 1 : Nat) : Int) := by rw [show (k : Int) + 1 = ((k + 1 : Nat) : Int) by omega]; exact wrap16 (by omega)
      have KL := Lib.hid hlt
      obtain ⟨t1, t2⟩ := RS.out k
      cases hb : p k with
      | false =>
        have EQ := Lib.hid (t2 hb)
        have CC := Lib.hid (HC.out wr k (by omega) BB.out false hb)
        clear t1 t2 hb
        go_wp2_with fail
        refine CC.out.mono ?_
        rintro e w2 ⟨rfl, hb⟩
        have B2 := Lib.hid (BB.out.trans (hb.mono BB.out.size))
        have Z2 := Lib.hid (ZT.out.later hb)
        clear hb
        go_wp2
        go_roundw
        case rel => exact ⟨k + 1, n, A, c, by have := KL.out; omega, by omega, by first | rfl | go_num, rfl, by rw [EQ.out]; exact DL.out, by rw [EQ.out]; exact Z2.out, B2.out⟩
        case measure => have := KL.out; simp [intOf]; omega
      | true =>
        have EQ := Lib.hid (t1 hb)
        have CC := Lib.hid (HC.out wr k (by omega) BB.out true hb)
        clear t1 t2 hb
        go_wp2_with fail
        refine CC.out.mono ?_
        rintro e w2 ⟨rfl, hb⟩
        have B2 := Lib.hid (BB.out.trans (hb.mono BB.out.size))
        have Z2 := Lib.hid (ZT.out.later hb)
        clear hb
        go_wp2_with (refine wpList_append_u rfl _ _ (by rfl) (y := (k : Int)) k rfl (B := W.heap.size) (v := .slice A n c) (l := rise k p) (n := n) rfl rfl Z2.out DL.out (by omega) B2.out.size B2.out (Nat.le_refl _) ?_; intro A3 c3 w3 Z3 G3 B3)
        go_roundw
        case rel => exact ⟨k + 1, n + 1, A3, c3, by have := KL.out; omega, by omega, by first | rfl | go_num, rfl, by rw [EQ.out, List.length_append, DL.out]; rfl, by rw [EQ.out]; exact Z3.out, B3.out⟩
        case measure => have := KL.out; simp [intOf]; omega
    · obtain rfl : k = N := by omega
      go_wp2
      go_ret
      rw [← HL.out, ← HM.out, ← HL.out, DL.out]
      exact ⟨A, c, rfl, by omega, ZT.out.reads, BB.out⟩

end Go.Proofs.Yteggbepibfpjcaa.Qr
