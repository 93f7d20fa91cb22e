/-
  Package synod: upTo, isMajority.
-/
import Derived.Test.YtpoielmbdofjlaaSpMem
import Derived.Test.YtpoielmbdofjlaaSpOnes
import Derived.Deep.Cut
import Derived.Deep.DeepCutAuto
import Derived.Deep.RegionHeld3
import Derived.BigQuiet
namespace Go.Proofs.Ytpoielmbdofjlaa.Syn
set_option linter.unusedVariables false
set_option linter.unusedSimpArgs false
open Go.RowKit Mem Gt
open Jump (Gave equalZ_c)

theorem box_voter {w : World} (a b : Nat) : let w' := w.alloc (.cells #[.int .i64 (a : Nat), .int .i64 (b : Nat)] tV)
    w'.cell? ⟨w.heap.size, 0, none⟩ = some (.int .i64 (a : Nat)) ∧ w'.cell? ⟨w.heap.size, 1, none⟩ = some (.int .i64 (b : Nat)) := by
  have kn := Known.made w tV #[.int .i64 (a : Nat), .int .i64 (b : Nat)]
  exact ⟨kn.cell 0, kn.cell 1⟩
theorem low_lit (w : World) (o : Obj) : Below w.heap.size w (w.alloc o) := (Below.refl _ w).alloc (Nat.le_refl _) o
theorem quiet_of_drawn' {P : Program} {f : FuncId} {args : Array Value} {w : World} {n : Nat} {v : Value} (h : Calls P f args (w.drewN n) fun e w' => e = .returned v ∧ ∃ q, w' = (w.drewN n).drewN q) :
    Calls P f args (w.drewN n) fun e w'' => e = .returned v ∧ ∃ m, w'' = w.drewN m :=
  h.mono fun _ _ ⟨he, q, hq⟩ => ⟨he, n + q, by rw [hq, World.drewN_drewN]⟩
set_option maxRecDepth 100000 in
set_option maxHeartbeats 8000000 in
theorem upto_c (B n num oc : Nat) (p : PS) (g : Nat → Nat) (V : World) (hn : n ≤ 16) (ht : oc < 65536) (h : Co B n p g V) :
    Calls Try.prog 26 #[.pointer (some ⟨B + 2, 0, none⟩), .int .i64 num, .int .u16 oc] V (Gave (.int .u16 (upTo p.prom n num oc : Nat)) V) := by
  have HC := Lib.hid h
  have c0 := h.c0
  obtain ⟨r, hr⟩ : ∃ r, r = upTo p.prom n num oc := ⟨_, rfl⟩
  have HR := Lib.hid hr
  have HT := Lib.hid ht
  rw [← hr]
  clear h hr ht
  go_enter Try.func26, Try.ntmps26
  go_wp2_with fail
  go_loopw [7, 15] (fun v i wr => ∃ k x : Nat, k ≤ n ∧ i = .int .i64 k ∧ v = .int .u16 (x : Nat) ∧ x = (List.range k).foldl (up1 p.prom num oc) 0 ∧ x < 65536 ∧ Below V.heap.size V wr) (fun _ i _ => n - (intOf i).toNat)
  case atStart => exact ⟨0, 0, by omega, rfl, rfl, rfl, by omega, Below.refl _ _⟩
  case round =>
    obtain ⟨k, x, hk, rfl, rfl, hx, hxl, hB⟩ := hrel
    have BB := Lib.hid hB
    have FO := Lib.hid (fold_suc (up1 p.prom num oc) 0 k)
    rw [← hx] at FO
    have HX := Lib.hid hx
    have XL := Lib.hid hxl
    clear hx hxl
    by_cases hlt : k < n
    · have i1 : (k : Int) < (n : Int) := by omega
      obtain ⟨y0, y1, _, _⟩ := (HC.out.later hB).vo k hlt
      obtain ⟨d, hd⟩ : ∃ d, d = 2 ^ k := ⟨_, rfl⟩
      have d1 : d < 65536 := by rw [hd]; exact Nat.pow_lt_pow_right (a := 2) (m := k) (n := 16) (by decide) (by omega)
      have w1 : IntKind.u16.wrap (2 ^ k) = (d : Int) := by rw [show (2 : Int) ^ k = (d : Int) by rw [hd]; simp]; exact wrap16u _ (by omega) (by omega)
      have a1 : Go.bits .and .u16 (oc : Int) (d : Int) = ((oc &&& d : Nat) : Int) := and16u HT.out d1
      have al : oc &&& d < 65536 := Nat.lt_of_le_of_lt Nat.and_le_left HT.out
      obtain ⟨e, he⟩ : ∃ e, e = oc &&& d := ⟨_, rfl⟩
      rw [← he] at a1 al
      have o1 : Go.bits .or .u16 (x : Int) (e : Int) = ((x ||| e : Nat) : Int) := or16u XL.out al
      have ol : x ||| e < 65536 := Nat.or_lt_two_pow (n := 16) XL.out al
      obtain ⟨z, hz⟩ : ∃ z, z = x ||| e := ⟨_, rfl⟩
      rw [← hz] at o1 ol
      obtain ⟨m, hm⟩ : ∃ m, m = p.prom k := ⟨_, rfl⟩
      obtain ⟨l, hl⟩ : ∃ l, l = p.last k := ⟨_, rfl⟩
      rw [← hm] at y0
      rw [← hl] at y1
      obtain ⟨b0, b1⟩ := box_voter (w := wr) m l
      have BA := Lib.hid (hB.trans ((low_lit wr (.cells #[.int .i64 (m : Nat), .int .i64 (l : Nat)] tV)).mono hB.size))
      have OL := Lib.hid ol
      by_cases hg : m ≤ num
      · have i2 : (m : Int) ≤ (num : Int) := by omega
        have E := Lib.hid (show z = (List.range (k + 1)).foldl (up1 p.prom num oc) 0 by rw [FO.out]; unfold up1; rw [← hm, if_pos hg, hz, he, hd])
        clear hB hd d1 al he ol hz hm hl hg
        go_wp2
        go_roundw
        case rel => exact ⟨k + 1, z, by omega, by go_num, rfl, E.out, OL.out, BA.out⟩
        case measure => simp [intOf]; omega
      · have i2 : ¬ (m : Int) ≤ (num : Int) := by omega
        have E := Lib.hid (show x = (List.range (k + 1)).foldl (up1 p.prom num oc) 0 by rw [FO.out]; unfold up1; rw [← hm, if_neg hg])
        clear hB hd d1 al he ol hz hm hl hg
        go_wp2
        go_roundw
        case rel => exact ⟨k + 1, x, by omega, by go_num, rfl, E.out, XL.out, BA.out⟩
        case measure => simp [intOf]; omega
    · obtain rfl : k = n := by omega
      have E := Lib.hid (show x = r by rw [HX.out, HR.out]; rfl)
      have E1 := E.out
      subst E1
      clear hB
      go_wp2
      go_ret
      exact ⟨rfl, BB.out⟩
set_option maxRecDepth 100000 in
set_option maxHeartbeats 8000000 in
theorem maj_c (B n x : Nat) (p : PS) (g : Nat → Nat) (V : World) (hn : n ≤ 16) (hx : x < 65536) (h : Co B n p g V) :
    Calls Try.prog 25 #[.pointer (some ⟨B + 2, 0, none⟩), .int .u16 x] V (fun e W' => e = .returned (.bool (ptest n x)) ∧ ∃ j, W' = V.drewN j) := by
  have c0 := h.c0
  have hp : Lib.popAux 16 x ≤ 16 := Qr.pc_le 16 x
  obtain ⟨c, hc⟩ : ∃ c, c = Lib.popAux 16 x := ⟨_, rfl⟩
  have HX := Lib.hid hx
  have OC := Lib.hid (show ∀ W, Calls Try.prog 31 #[.int .u16 x] W (fun e W' => e = .returned (.int .i64 (c : Nat)) ∧ ∃ j, W' = W.drewN j) from fun W => by rw [hc]; exact ones16_c x W hx)
  have e2 : IntKind.i64.wrap (2 * (c : Int)) = 2 * (c : Int) := IntWalk.i64_in _ (by omega)
  have E : ptest n x = decide ((n : Int) < 2 * (c : Int)) := by unfold ptest; rw [← hc]; exact decide_eq_decide.2 ⟨fun h => by omega, fun h => by omega⟩
  rw [E]
  clear h hx hp E hc
  go_enter Try.func25, Try.ntmps25
  go_upto_region 1 with fail
  go_quiet ((go_at_call 31; exact quiet_of_drawn' (OC.out _)))
  go_wp2
  go_ret
  exact ⟨rfl, _, rfl⟩
end Go.Proofs.Ytpoielmbdofjlaa.Syn
