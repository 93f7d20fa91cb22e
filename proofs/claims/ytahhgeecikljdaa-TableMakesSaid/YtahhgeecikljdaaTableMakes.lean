/-
  TableMakes: for all ids, every id, every size, every table and every key, the law TableMakes answers true (Wrong, Likes, Make and Find return what the document says), and its arguments read afterwards as before. No condition.
-/
import Derived.Test.YtahhgeecikljdaaTbRef3
import Derived.Test.YtahhgeecikljdaaJpEqZ
import Derived.Test.YtahhgeecikljdaaInts
import Derived.Test.YtahhgeecikljdaaLaw
import Derived.Lib.QuietBelow
namespace Go.Proofs.Ytahhgeecikljdaa.tableMakes
open Go.ChangeShapes Go.WideShapes Go.ChangeAt Go.RowKit
open Mem Tb
open Go.Sort (grow)
set_option linter.unusedVariables false
set_option linter.unusedSimpArgs false

theorem jone_c (x : Int) (size : Int) (v : Int) (hv : tErr [x] size = v) (V : World) :
    Calls Try.prog 11 #[.slice (some ⟨V.heap.size, 0, none⟩) 1 1, .int .i64 size] (V.alloc (.cells #[.int .i64 x] 3)) fun e w' => e = .returned (.int .i64 v) ∧ V.alloc (.cells #[.int .i64 x] 3) = w' := by
  have h := jwrong_c (some ⟨V.heap.size, 0, none⟩) [x] 1 1 size _ rfl (Nat.le_refl _) (by unfold maxLen; omega) (one_row V x)
  rw [hv] at h
  exact h
theorem equal_c (t : List Int) (p : Nat) (hl : t.length = p) (hb : p ≤ 1000) (V : World) (g h : Nat) (h1 : Cells V g 3 zz t) (h2 : Cells V h 3 zz t) :
    Calls Try.prog 14 #[.slice (some ⟨g, 0, none⟩) p p, .slice (some ⟨h, 0, none⟩) p p] V (Gave (.bool true) V) := by
  have := Jump.equalZ_c (some ⟨g, 0, none⟩) (some ⟨h, 0, none⟩) t t p p p p V hl hl (by omega) (by omega) h1.reads h2.reads
  rw [decide_eq_true rfl] at this
  exact this
set_option maxRecDepth 100000 in
set_option maxHeartbeats 8000000 in
theorem case_ok_small_none (A1 : Option Addr) (ids : List Int) (n1 c1 : Nat) (x : Int)
    (p : Nat) (h2 : 2 ≤ p) (hb : p ≤ 1000)
    (A3 : Option Addr) (c3 : Nat) (key : UInt64)
    (W : World)
    (l : List Nat) (f : Nat → Nat) (LF : Hid (∀ k, k < p → l[k]? = some (f k)))
    (JL : Hid (∀ (k : Nat) (V : World), k ≤ 1000 → Calls Try.prog 13 #[.int .i64 x, .int .i64 p, .int .i64 k] V (Gave (.int .i64 (f k : Nat)) V)))
    (tt : List Int) (TL : Hid (tt.length = p))
    (LK : Hid (∀ (V : World), Calls Try.prog 8 #[.int .i64 x, .int .i64 p] V (LikesOut l p V)))
    (MK : Hid (∀ (V : World), Below W.heap.size W V → Calls Try.prog 9 #[.slice A1 n1 c1, .int .i64 p] V (MakeOut tt p V)))
    (JW : Hid (∀ (V : World), Below W.heap.size W V → Calls Try.prog 11 #[.slice A1 n1 c1, .int .i64 (p : Int)] V fun e w' => e = .returned (.int .i64 0) ∧ V = w'))
    (J1 : Hid (∀ (V : World), Calls Try.prog 11 #[.slice (some ⟨V.heap.size, 0, none⟩) 1 1, .int .i64 (p : Int)] (V.alloc (.cells #[.int .i64 x] 3)) fun e w' => e = .returned (.int .i64 0) ∧ V.alloc (.cells #[.int .i64 x] 3) = w'))
    (TW : Hid (∀ (V : World), Below W.heap.size W V → Calls Try.prog 12 #[.slice A1 n1 c1, .int .i64 (p : Int)] V (Gave (.int .i64 0) V)))
    (hs : p < 60) (JM : Hid (∀ (V : World), Below W.heap.size W V → Calls Try.prog 15 #[.slice A1 n1 c1, .int .i64 p] V (JOut tt p V))) :
    Calls Try.prog 3 #[.slice A1 n1 c1, .int .i64 x, .int .i64 (p : Int), .slice A3 0 c3, .int .u64 key.toNat] W (Law.Yes W) := by
  have q1 : decide ((p : Int) < 60) = true := decide_eq_true (by omega)
  have q2 : decide (p < 60) = true := decide_eq_true hs
  have p1 : ((p : Int) != (p : Int)) = false := by simp
  have mn : min (p : Int) 40 = ((min p 40 : Nat) : Int) := by omega
  obtain ⟨m, hm⟩ : ∃ m, m = min p 40 := ⟨_, rfl⟩
  rw [← hm] at mn
  have mp : m ≤ p := by omega
  clear hm
  go_enter Try.func3, Try.ntmps3
  go_wp2_with fail
  refine (LK.out _).mono ?_
  rintro e w1 ⟨gl, rfl, -, hl, hb1⟩
  have B1 := Lib.hid hb1
  have L1 := Lib.hid hl
  clear hb1 hl LK
  go_wp2_with fail
  refine (MK.out _ B1.out).mono ?_
  rintro e w2 ⟨gm, rfl, -, hm, hb2⟩
  have B2 := Lib.hid (B1.out.trans (hb2.mono B1.out.size))
  have M2 := Lib.hid hm
  have L2 := Lib.hid (L1.out.later hb2)
  clear L1
  clear hb2 B1 MK hm
  go_wp2_with fail
  refine (find_none A3 c3 key _).mono ?_
  rintro e w3 ⟨rfl, rfl⟩
  go_wp2_with fail
  refine (JW.out _ B2.out).mono ?_
  rintro e w4 ⟨rfl, rfl⟩
  go_wp2_with fail
  refine (J1.out _).mono ?_
  rintro e w5 ⟨rfl, rfl⟩
  have B5 := Lib.hid (B2.out.alloc B2.out.size (.cells #[.int .i64 x] 3))
  have M5 := Lib.hid (M2.out.alloc (.cells #[.int .i64 x] 3))
  clear M2
  have L5 := Lib.hid (L2.out.alloc (.cells #[.int .i64 x] 3))
  clear L2
  clear B2 JW J1
  go_wp2_with fail
  refine (TW.out _ B5.out).mono ?_
  rintro e w6 ⟨rfl, hb6⟩
  have B6 := Lib.hid (B5.out.trans (hb6.mono B5.out.size))
  have M6 := Lib.hid (M5.out.later hb6)
  clear M5
  have L6 := Lib.hid (L5.out.later hb6)
  clear L5
  clear hb6 B5 TW
  go_wp2_with fail
  go_loopw [19, 84] (fun _ i wr => ∃ k : Nat, k ≤ m ∧ i = .int .i64 k ∧ Below W.heap.size W wr ∧ Cells wr gl 3 nz l ∧ Cells wr gm 3 zz tt) (fun _ i _ => m - (intOf i).toNat)
  case atStart => exact ⟨0, by omega, rfl, B6.out, L6.out, M6.out⟩
  case round =>
    obtain ⟨k, hk, rfl, hB, hL, hM⟩ := hrel
    have HB := Lib.hid hB
    have HL := Lib.hid hL
    have HM := Lib.hid hM
    clear hB hL B6 L6 hM M6
    by_cases hlt : k < m
    · have ex := LF.out k (by omega)
      have J := Lib.hid (fun V => JL.out k V (by omega))
      obtain ⟨y, hy⟩ : ∃ y, y = f k := ⟨_, rfl⟩
      rw [← hy] at ex J
      have cx := HL.out.at_ ex
      have cf : ∀ d os, (grow (redrawn wr d) os).cell? ⟨gl, k, none⟩ = some (.int .i64 (y : Int)) := fun d os => cell_regrown cx d os
      have yy : ((y : Int) != (y : Int)) = false := by simp
      have k1 : (k : Int) < (m : Int) := by omega
      have k2 : (k : Int) < (p : Int) := by omega
      have k3 : k < p := by omega
      clear hy ex
      go_upto_region 15 with fail
      refine wp_region_quiet_below (by kernel_rfl) (by kernel_rfl) ?_
      repeat (quiet_step ((go_at_call 13; refine Calls.regrown_of (J.out _))))
      refine wpQuiet_nil ?_
      intro _ hw'
      obtain ⟨⟨dd, os⟩, hw''⟩ := hw'
      subst hw''
      have br := below_regrown wr dd os
      have HB2 := Lib.hid (HB.out.trans (br.mono HB.out.size))
      have HL2 := Lib.hid (HL.out.later br)
      have HM2 := Lib.hid (HM.out.later br)
      clear br cf
      go_wp2
      go_roundw
      case rel => exact ⟨k + 1, by omega, by go_num, HB2.out, HL2.out, HM2.out⟩
      case measure => simp [intOf]; omega
    · obtain rfl : k = m := by omega
      have B6 := Lib.hid HB.out
      have M6 := Lib.hid HM.out
      clear HB HL HM
      go_wp2_with fail
      refine (JM.out _ B6.out).mono ?_
      rintro e w8 ⟨gj, rfl, -, hj, hb8⟩
      have B8 := Lib.hid (B6.out.trans (hb8.mono B6.out.size))
      have EQ := Lib.hid (equal_c tt p TL.out hb w8 gm gj (M6.out.later hb8) hj)
      clear hb8 hj B6
      go_wp2_with fail
      refine EQ.out.mono ?_
      rintro e w9 ⟨rfl, hb9⟩
      have B9 := Lib.hid (B8.out.trans (hb9.mono B8.out.size))
      clear hb9 B8 EQ
      go_wp2_with fail
      go_ret
      exact ⟨rfl, B9.out⟩
set_option maxRecDepth 100000 in
set_option maxHeartbeats 8000000 in
theorem case_ok_small_some (A1 : Option Addr) (ids : List Int) (n1 c1 : Nat) (x : Int)
    (p : Nat) (h2 : 2 ≤ p) (hb : p ≤ 1000)
    (b3 o3 n3 c3 q : Nat) (key u : UInt64) (cv : Int) (h3 : 1 ≤ n3) (h3b : n3 ≤ 17592186044416) (hq : q < n3)
    (W : World)
    (l : List Nat) (f : Nat → Nat) (LF : Hid (∀ k, k < p → l[k]? = some (f k)))
    (JL : Hid (∀ (k : Nat) (V : World), k ≤ 1000 → Calls Try.prog 13 #[.int .i64 x, .int .i64 p, .int .i64 k] V (Gave (.int .i64 (f k : Nat)) V)))
    (tt : List Int) (TL : Hid (tt.length = p))
    (LK : Hid (∀ (V : World), Calls Try.prog 8 #[.int .i64 x, .int .i64 p] V (LikesOut l p V)))
    (MK : Hid (∀ (V : World), Below W.heap.size W V → Calls Try.prog 9 #[.slice A1 n1 c1, .int .i64 p] V (MakeOut tt p V)))
    (c0 : W.cell? ⟨b3, o3 + q, none⟩ = some (.int .i64 cv)) (hb3 : b3 < W.heap.size)
    (FN : Hid (∀ (V : World), Below W.heap.size W V → Calls Try.prog 10 #[.slice (some ⟨b3, o3, none⟩) n3 c3, .int .u64 key.toNat] V fun e w' => e = .returned (.tuple #[.int .i64 cv, .int .i64 0]) ∧ V = w'))
    (AO : Hid (∀ (V : World), Calls Try.prog 16 #[.int .u64 key.toNat] V (Gave (.int .u64 u.toNat) V)))
    (M0 : (u.toNat : Int) % (n3 : Int) = (q : Int)) (M1 : (u.toNat : Int).tmod (n3 : Int) = (q : Int))
    (JW : Hid (∀ (V : World), Below W.heap.size W V → Calls Try.prog 11 #[.slice A1 n1 c1, .int .i64 (p : Int)] V fun e w' => e = .returned (.int .i64 0) ∧ V = w'))
    (J1 : Hid (∀ (V : World), Calls Try.prog 11 #[.slice (some ⟨V.heap.size, 0, none⟩) 1 1, .int .i64 (p : Int)] (V.alloc (.cells #[.int .i64 x] 3)) fun e w' => e = .returned (.int .i64 0) ∧ V.alloc (.cells #[.int .i64 x] 3) = w'))
    (TW : Hid (∀ (V : World), Below W.heap.size W V → Calls Try.prog 12 #[.slice A1 n1 c1, .int .i64 (p : Int)] V (Gave (.int .i64 0) V)))
    (hs : p < 60) (JM : Hid (∀ (V : World), Below W.heap.size W V → Calls Try.prog 15 #[.slice A1 n1 c1, .int .i64 p] V (JOut tt p V))) :
    Calls Try.prog 3 #[.slice A1 n1 c1, .int .i64 x, .int .i64 (p : Int), .slice (some ⟨b3, o3, none⟩) n3 c3, .int .u64 key.toNat] W (Law.Yes W) := by
  have q1 : decide ((p : Int) < 60) = true := decide_eq_true (by omega)
  have q2 : decide (p < 60) = true := decide_eq_true hs
  have p1 : ((p : Int) != (p : Int)) = false := by simp
  have n30 : ((n3 : Int) == 0) = false := by simp; omega
  have n31 : ¬ n3 = 0 := by omega
  have nw1 : IntKind.u64.wrap (n3 : Int) = n3 := by rw [IntKind.wrap_u64]; omega
  have nw2 : (n3 : Int) % 18446744073709551616 = n3 := by omega
  have nq : (q : Int) < (n3 : Int) := by omega
  have cc : (cv == cv) = true := by simp
  have mn : min (p : Int) 40 = ((min p 40 : Nat) : Int) := by omega
  obtain ⟨m, hm⟩ : ∃ m, m = min p 40 := ⟨_, rfl⟩
  rw [← hm] at mn
  have mp : m ≤ p := by omega
  clear hm
  go_enter Try.func3, Try.ntmps3
  go_wp2_with fail
  refine (LK.out _).mono ?_
  rintro e w1 ⟨gl, rfl, -, hl, hb1⟩
  have B1 := Lib.hid hb1
  have L1 := Lib.hid hl
  clear hb1 hl LK
  go_wp2_with fail
  refine (MK.out _ B1.out).mono ?_
  rintro e w2 ⟨gm, rfl, -, hm, hb2⟩
  have B2 := Lib.hid (B1.out.trans (hb2.mono B1.out.size))
  have M2 := Lib.hid hm
  have L2 := Lib.hid (L1.out.later hb2)
  clear L1
  clear hb2 B1 MK hm
  go_wp2_with fail
  refine (FN.out _ B2.out).mono ?_
  rintro e w3 ⟨rfl, rfl⟩
  go_wp2_with fail
  refine (JW.out _ B2.out).mono ?_
  rintro e w4 ⟨rfl, rfl⟩
  go_wp2_with fail
  refine (J1.out _).mono ?_
  rintro e w5 ⟨rfl, rfl⟩
  have B5 := Lib.hid (B2.out.alloc B2.out.size (.cells #[.int .i64 x] 3))
  have M5 := Lib.hid (M2.out.alloc (.cells #[.int .i64 x] 3))
  clear M2
  have L5 := Lib.hid (L2.out.alloc (.cells #[.int .i64 x] 3))
  clear L2
  clear B2 JW J1
  go_wp2_with fail
  refine (TW.out _ B5.out).mono ?_
  rintro e w6 ⟨rfl, hb6⟩
  have B6 := Lib.hid (B5.out.trans (hb6.mono B5.out.size))
  have M6 := Lib.hid (M5.out.later hb6)
  clear M5
  have L6 := Lib.hid (L5.out.later hb6)
  clear L5
  clear hb6 B5 TW
  go_wp2_with fail
  go_loopw [19, 84] (fun _ i wr => ∃ k : Nat, k ≤ m ∧ i = .int .i64 k ∧ Below W.heap.size W wr ∧ Cells wr gl 3 nz l ∧ Cells wr gm 3 zz tt) (fun _ i _ => m - (intOf i).toNat)
  case atStart => exact ⟨0, by omega, rfl, B6.out, L6.out, M6.out⟩
  case round =>
    obtain ⟨k, hk, rfl, hB, hL, hM⟩ := hrel
    have HB := Lib.hid hB
    have HL := Lib.hid hL
    have HM := Lib.hid hM
    clear hB hL B6 L6 hM M6
    by_cases hlt : k < m
    · have ex := LF.out k (by omega)
      have J := Lib.hid (fun V => JL.out k V (by omega))
      obtain ⟨y, hy⟩ : ∃ y, y = f k := ⟨_, rfl⟩
      rw [← hy] at ex J
      have cx := HL.out.at_ ex
      have cf : ∀ d os, (grow (redrawn wr d) os).cell? ⟨gl, k, none⟩ = some (.int .i64 (y : Int)) := fun d os => cell_regrown cx d os
      have yy : ((y : Int) != (y : Int)) = false := by simp
      have k1 : (k : Int) < (m : Int) := by omega
      have k2 : (k : Int) < (p : Int) := by omega
      have k3 : k < p := by omega
      clear hy ex
      go_upto_region 15 with fail
      refine wp_region_quiet_below (by kernel_rfl) (by kernel_rfl) ?_
      repeat (quiet_step ((go_at_call 13; refine Calls.regrown_of (J.out _))))
      refine wpQuiet_nil ?_
      intro _ hw'
      obtain ⟨⟨dd, os⟩, hw''⟩ := hw'
      subst hw''
      have br := below_regrown wr dd os
      have HB2 := Lib.hid (HB.out.trans (br.mono HB.out.size))
      have HL2 := Lib.hid (HL.out.later br)
      have HM2 := Lib.hid (HM.out.later br)
      clear br cf
      go_wp2
      go_roundw
      case rel => exact ⟨k + 1, by omega, by go_num, HB2.out, HL2.out, HM2.out⟩
      case measure => simp [intOf]; omega
    · obtain rfl : k = m := by omega
      have B6 := Lib.hid HB.out
      have M6 := Lib.hid HM.out
      clear HB HL HM
      go_wp2_with fail
      refine (JM.out _ B6.out).mono ?_
      rintro e w8 ⟨gj, rfl, -, hj, hb8⟩
      have B8 := Lib.hid (B6.out.trans (hb8.mono B6.out.size))
      have EQ := Lib.hid (equal_c tt p TL.out hb w8 gm gj (M6.out.later hb8) hj)
      clear hb8 hj B6
      go_wp2_with fail
      refine EQ.out.mono ?_
      rintro e w9 ⟨rfl, hb9⟩
      have B9 := Lib.hid (B8.out.trans (hb9.mono B8.out.size))
      clear hb9 B8 EQ
      go_wp2_with fail
      refine (AO.out _).mono ?_
      rintro e w10 ⟨rfl, hb10⟩
      have B10 := Lib.hid (B9.out.trans (hb10.mono B9.out.size))
      have c10 := (B10.out.cell (p := ⟨b3, o3 + q, none⟩) hb3).trans c0
      clear hb10
      go_wp2
      go_ret
      exact ⟨rfl, B10.out⟩
set_option maxRecDepth 100000 in
set_option maxHeartbeats 8000000 in
theorem case_ok_great_none (A1 : Option Addr) (ids : List Int) (n1 c1 : Nat) (x : Int)
    (p : Nat) (h2 : 2 ≤ p) (hb : p ≤ 1000)
    (A3 : Option Addr) (c3 : Nat) (key : UInt64)
    (W : World)
    (l : List Nat) (f : Nat → Nat) (LF : Hid (∀ k, k < p → l[k]? = some (f k)))
    (JL : Hid (∀ (k : Nat) (V : World), k ≤ 1000 → Calls Try.prog 13 #[.int .i64 x, .int .i64 p, .int .i64 k] V (Gave (.int .i64 (f k : Nat)) V)))
    (tt : List Int) (TL : Hid (tt.length = p))
    (LK : Hid (∀ (V : World), Calls Try.prog 8 #[.int .i64 x, .int .i64 p] V (LikesOut l p V)))
    (MK : Hid (∀ (V : World), Below W.heap.size W V → Calls Try.prog 9 #[.slice A1 n1 c1, .int .i64 p] V (MakeOut tt p V)))
    (JW : Hid (∀ (V : World), Below W.heap.size W V → Calls Try.prog 11 #[.slice A1 n1 c1, .int .i64 (p : Int)] V fun e w' => e = .returned (.int .i64 0) ∧ V = w'))
    (J1 : Hid (∀ (V : World), Calls Try.prog 11 #[.slice (some ⟨V.heap.size, 0, none⟩) 1 1, .int .i64 (p : Int)] (V.alloc (.cells #[.int .i64 x] 3)) fun e w' => e = .returned (.int .i64 0) ∧ V.alloc (.cells #[.int .i64 x] 3) = w'))
    (TW : Hid (∀ (V : World), Below W.heap.size W V → Calls Try.prog 12 #[.slice A1 n1 c1, .int .i64 (p : Int)] V (Gave (.int .i64 0) V)))
    (hs : ¬ p < 60) :
    Calls Try.prog 3 #[.slice A1 n1 c1, .int .i64 x, .int .i64 (p : Int), .slice A3 0 c3, .int .u64 key.toNat] W (Law.Yes W) := by
  have q1 : decide ((p : Int) < 60) = false := decide_eq_false (by omega)
  have q2 : decide (p < 60) = false := decide_eq_false hs
  have p1 : ((p : Int) != (p : Int)) = false := by simp
  have mn : min (p : Int) 40 = ((min p 40 : Nat) : Int) := by omega
  obtain ⟨m, hm⟩ : ∃ m, m = min p 40 := ⟨_, rfl⟩
  rw [← hm] at mn
  have mp : m ≤ p := by omega
  clear hm
  go_enter Try.func3, Try.ntmps3
  go_wp2_with fail
  refine (LK.out _).mono ?_
  rintro e w1 ⟨gl, rfl, -, hl, hb1⟩
  have B1 := Lib.hid hb1
  have L1 := Lib.hid hl
  clear hb1 hl LK
  go_wp2_with fail
  refine (MK.out _ B1.out).mono ?_
  rintro e w2 ⟨gm, rfl, -, hm, hb2⟩
  have B2 := Lib.hid (B1.out.trans (hb2.mono B1.out.size))
  have M2 := Lib.hid hm
  have L2 := Lib.hid (L1.out.later hb2)
  clear L1
  clear hb2 B1 MK hm
  go_wp2_with fail
  refine (find_none A3 c3 key _).mono ?_
  rintro e w3 ⟨rfl, rfl⟩
  go_wp2_with fail
  refine (JW.out _ B2.out).mono ?_
  rintro e w4 ⟨rfl, rfl⟩
  go_wp2_with fail
  refine (J1.out _).mono ?_
  rintro e w5 ⟨rfl, rfl⟩
  have B5 := Lib.hid (B2.out.alloc B2.out.size (.cells #[.int .i64 x] 3))
  have M5 := Lib.hid (M2.out.alloc (.cells #[.int .i64 x] 3))
  clear M2
  have L5 := Lib.hid (L2.out.alloc (.cells #[.int .i64 x] 3))
  clear L2
  clear B2 JW J1
  go_wp2_with fail
  refine (TW.out _ B5.out).mono ?_
  rintro e w6 ⟨rfl, hb6⟩
  have B6 := Lib.hid (B5.out.trans (hb6.mono B5.out.size))
  have M6 := Lib.hid (M5.out.later hb6)
  clear M5
  have L6 := Lib.hid (L5.out.later hb6)
  clear L5
  clear hb6 B5 TW
  go_wp2_with fail
  go_loopw [19, 84] (fun _ i wr => ∃ k : Nat, k ≤ m ∧ i = .int .i64 k ∧ Below W.heap.size W wr ∧ Cells wr gl 3 nz l ∧ Cells wr gm 3 zz tt) (fun _ i _ => m - (intOf i).toNat)
  case atStart => exact ⟨0, by omega, rfl, B6.out, L6.out, M6.out⟩
  case round =>
    obtain ⟨k, hk, rfl, hB, hL, hM⟩ := hrel
    have HB := Lib.hid hB
    have HL := Lib.hid hL
    have HM := Lib.hid hM
    clear hB hL B6 L6 hM M6
    by_cases hlt : k < m
    · have ex := LF.out k (by omega)
      have J := Lib.hid (fun V => JL.out k V (by omega))
      obtain ⟨y, hy⟩ : ∃ y, y = f k := ⟨_, rfl⟩
      rw [← hy] at ex J
      have cx := HL.out.at_ ex
      have cf : ∀ d os, (grow (redrawn wr d) os).cell? ⟨gl, k, none⟩ = some (.int .i64 (y : Int)) := fun d os => cell_regrown cx d os
      have yy : ((y : Int) != (y : Int)) = false := by simp
      have k1 : (k : Int) < (m : Int) := by omega
      have k2 : (k : Int) < (p : Int) := by omega
      have k3 : k < p := by omega
      clear hy ex
      go_upto_region 15 with fail
      refine wp_region_quiet_below (by kernel_rfl) (by kernel_rfl) ?_
      repeat (quiet_step ((go_at_call 13; refine Calls.regrown_of (J.out _))))
      refine wpQuiet_nil ?_
      intro _ hw'
      obtain ⟨⟨dd, os⟩, hw''⟩ := hw'
      subst hw''
      have br := below_regrown wr dd os
      have HB2 := Lib.hid (HB.out.trans (br.mono HB.out.size))
      have HL2 := Lib.hid (HL.out.later br)
      have HM2 := Lib.hid (HM.out.later br)
      clear br cf
      go_wp2
      go_roundw
      case rel => exact ⟨k + 1, by omega, by go_num, HB2.out, HL2.out, HM2.out⟩
      case measure => simp [intOf]; omega
    · obtain rfl : k = m := by omega
      have B6 := Lib.hid HB.out
      have M6 := Lib.hid HM.out
      clear HB HL HM
      go_wp2_with fail
      go_ret
      exact ⟨rfl, B6.out⟩
set_option maxRecDepth 100000 in
set_option maxHeartbeats 8000000 in
theorem case_ok_great_some (A1 : Option Addr) (ids : List Int) (n1 c1 : Nat) (x : Int)
    (p : Nat) (h2 : 2 ≤ p) (hb : p ≤ 1000)
    (b3 o3 n3 c3 q : Nat) (key u : UInt64) (cv : Int) (h3 : 1 ≤ n3) (h3b : n3 ≤ 17592186044416) (hq : q < n3)
    (W : World)
    (l : List Nat) (f : Nat → Nat) (LF : Hid (∀ k, k < p → l[k]? = some (f k)))
    (JL : Hid (∀ (k : Nat) (V : World), k ≤ 1000 → Calls Try.prog 13 #[.int .i64 x, .int .i64 p, .int .i64 k] V (Gave (.int .i64 (f k : Nat)) V)))
    (tt : List Int) (TL : Hid (tt.length = p))
    (LK : Hid (∀ (V : World), Calls Try.prog 8 #[.int .i64 x, .int .i64 p] V (LikesOut l p V)))
    (MK : Hid (∀ (V : World), Below W.heap.size W V → Calls Try.prog 9 #[.slice A1 n1 c1, .int .i64 p] V (MakeOut tt p V)))
    (c0 : W.cell? ⟨b3, o3 + q, none⟩ = some (.int .i64 cv)) (hb3 : b3 < W.heap.size)
    (FN : Hid (∀ (V : World), Below W.heap.size W V → Calls Try.prog 10 #[.slice (some ⟨b3, o3, none⟩) n3 c3, .int .u64 key.toNat] V fun e w' => e = .returned (.tuple #[.int .i64 cv, .int .i64 0]) ∧ V = w'))
    (AO : Hid (∀ (V : World), Calls Try.prog 16 #[.int .u64 key.toNat] V (Gave (.int .u64 u.toNat) V)))
    (M0 : (u.toNat : Int) % (n3 : Int) = (q : Int)) (M1 : (u.toNat : Int).tmod (n3 : Int) = (q : Int))
    (JW : Hid (∀ (V : World), Below W.heap.size W V → Calls Try.prog 11 #[.slice A1 n1 c1, .int .i64 (p : Int)] V fun e w' => e = .returned (.int .i64 0) ∧ V = w'))
    (J1 : Hid (∀ (V : World), Calls Try.prog 11 #[.slice (some ⟨V.heap.size, 0, none⟩) 1 1, .int .i64 (p : Int)] (V.alloc (.cells #[.int .i64 x] 3)) fun e w' => e = .returned (.int .i64 0) ∧ V.alloc (.cells #[.int .i64 x] 3) = w'))
    (TW : Hid (∀ (V : World), Below W.heap.size W V → Calls Try.prog 12 #[.slice A1 n1 c1, .int .i64 (p : Int)] V (Gave (.int .i64 0) V)))
    (hs : ¬ p < 60) :
    Calls Try.prog 3 #[.slice A1 n1 c1, .int .i64 x, .int .i64 (p : Int), .slice (some ⟨b3, o3, none⟩) n3 c3, .int .u64 key.toNat] W (Law.Yes W) := by
  have q1 : decide ((p : Int) < 60) = false := decide_eq_false (by omega)
  have q2 : decide (p < 60) = false := decide_eq_false hs
  have p1 : ((p : Int) != (p : Int)) = false := by simp
  have n30 : ((n3 : Int) == 0) = false := by simp; omega
  have n31 : ¬ n3 = 0 := by omega
  have nw1 : IntKind.u64.wrap (n3 : Int) = n3 := by rw [IntKind.wrap_u64]; omega
  have nw2 : (n3 : Int) % 18446744073709551616 = n3 := by omega
  have nq : (q : Int) < (n3 : Int) := by omega
  have cc : (cv == cv) = true := by simp
  have mn : min (p : Int) 40 = ((min p 40 : Nat) : Int) := by omega
  obtain ⟨m, hm⟩ : ∃ m, m = min p 40 := ⟨_, rfl⟩
  rw [← hm] at mn
  have mp : m ≤ p := by omega
  clear hm
  go_enter Try.func3, Try.ntmps3
  go_wp2_with fail
  refine (LK.out _).mono ?_
  rintro e w1 ⟨gl, rfl, -, hl, hb1⟩
  have B1 := Lib.hid hb1
  have L1 := Lib.hid hl
  clear hb1 hl LK
  go_wp2_with fail
  refine (MK.out _ B1.out).mono ?_
  rintro e w2 ⟨gm, rfl, -, hm, hb2⟩
  have B2 := Lib.hid (B1.out.trans (hb2.mono B1.out.size))
  have M2 := Lib.hid hm
  have L2 := Lib.hid (L1.out.later hb2)
  clear L1
  clear hb2 B1 MK hm
  go_wp2_with fail
  refine (FN.out _ B2.out).mono ?_
  rintro e w3 ⟨rfl, rfl⟩
  go_wp2_with fail
  refine (JW.out _ B2.out).mono ?_
  rintro e w4 ⟨rfl, rfl⟩
  go_wp2_with fail
  refine (J1.out _).mono ?_
  rintro e w5 ⟨rfl, rfl⟩
  have B5 := Lib.hid (B2.out.alloc B2.out.size (.cells #[.int .i64 x] 3))
  have M5 := Lib.hid (M2.out.alloc (.cells #[.int .i64 x] 3))
  clear M2
  have L5 := Lib.hid (L2.out.alloc (.cells #[.int .i64 x] 3))
  clear L2
  clear B2 JW J1
  go_wp2_with fail
  refine (TW.out _ B5.out).mono ?_
  rintro e w6 ⟨rfl, hb6⟩
  have B6 := Lib.hid (B5.out.trans (hb6.mono B5.out.size))
  have M6 := Lib.hid (M5.out.later hb6)
  clear M5
  have L6 := Lib.hid (L5.out.later hb6)
  clear L5
  clear hb6 B5 TW
  go_wp2_with fail
  go_loopw [19, 84] (fun _ i wr => ∃ k : Nat, k ≤ m ∧ i = .int .i64 k ∧ Below W.heap.size W wr ∧ Cells wr gl 3 nz l ∧ Cells wr gm 3 zz tt) (fun _ i _ => m - (intOf i).toNat)
  case atStart => exact ⟨0, by omega, rfl, B6.out, L6.out, M6.out⟩
  case round =>
    obtain ⟨k, hk, rfl, hB, hL, hM⟩ := hrel
    have HB := Lib.hid hB
    have HL := Lib.hid hL
    have HM := Lib.hid hM
    clear hB hL B6 L6 hM M6
    by_cases hlt : k < m
    · have ex := LF.out k (by omega)
      have J := Lib.hid (fun V => JL.out k V (by omega))
      obtain ⟨y, hy⟩ : ∃ y, y = f k := ⟨_, rfl⟩
      rw [← hy] at ex J
      have cx := HL.out.at_ ex
      have cf : ∀ d os, (grow (redrawn wr d) os).cell? ⟨gl, k, none⟩ = some (.int .i64 (y : Int)) := fun d os => cell_regrown cx d os
      have yy : ((y : Int) != (y : Int)) = false := by simp
      have k1 : (k : Int) < (m : Int) := by omega
      have k2 : (k : Int) < (p : Int) := by omega
      have k3 : k < p := by omega
      clear hy ex
      go_upto_region 15 with fail
      refine wp_region_quiet_below (by kernel_rfl) (by kernel_rfl) ?_
      repeat (quiet_step ((go_at_call 13; refine Calls.regrown_of (J.out _))))
      refine wpQuiet_nil ?_
      intro _ hw'
      obtain ⟨⟨dd, os⟩, hw''⟩ := hw'
      subst hw''
      have br := below_regrown wr dd os
      have HB2 := Lib.hid (HB.out.trans (br.mono HB.out.size))
      have HL2 := Lib.hid (HL.out.later br)
      have HM2 := Lib.hid (HM.out.later br)
      clear br cf
      go_wp2
      go_roundw
      case rel => exact ⟨k + 1, by omega, by go_num, HB2.out, HL2.out, HM2.out⟩
      case measure => simp [intOf]; omega
    · obtain rfl : k = m := by omega
      have B6 := Lib.hid HB.out
      have M6 := Lib.hid HM.out
      clear HB HL HM
      go_wp2_with fail
      refine (AO.out _).mono ?_
      rintro e w10 ⟨rfl, hb10⟩
      have B10 := Lib.hid (B6.out.trans (hb10.mono B6.out.size))
      have c10 := (B10.out.cell (p := ⟨b3, o3 + q, none⟩) hb3).trans c0
      clear hb10
      go_wp2
      go_ret
      exact ⟨rfl, B10.out⟩
set_option maxRecDepth 100000 in
set_option maxHeartbeats 8000000 in
theorem case_ok_no_none (A1 : Option Addr) (ids : List Int) (n1 c1 : Nat) (x : Int)
    (p : Nat) (h2 : 2 ≤ p) (hb : p ≤ 1000)
    (A3 : Option Addr) (c3 : Nat) (key : UInt64)
    (W : World)
    (w : Int) (hw : w ≠ 0)
    (l : List Nat) (f : Nat → Nat) (LF : Hid (∀ k, k < p → l[k]? = some (f k)))
    (JL : Hid (∀ (k : Nat) (V : World), k ≤ 1000 → Calls Try.prog 13 #[.int .i64 x, .int .i64 p, .int .i64 k] V (Gave (.int .i64 (f k : Nat)) V)))
    (LK : Hid (∀ (V : World), Calls Try.prog 8 #[.int .i64 x, .int .i64 p] V (LikesOut l p V)))
    (MK : Hid (∀ (V : World), Below W.heap.size W V → Calls Try.prog 9 #[.slice A1 n1 c1, .int .i64 (p : Int)] V (Gave (.tuple #[.slice none 0 0, .int .i64 w]) V)))
    (JW : Hid (∀ (V : World), Below W.heap.size W V → Calls Try.prog 11 #[.slice A1 n1 c1, .int .i64 (p : Int)] V fun e w' => e = .returned (.int .i64 w) ∧ V = w'))
    (J1 : Hid (∀ (V : World), Calls Try.prog 11 #[.slice (some ⟨V.heap.size, 0, none⟩) 1 1, .int .i64 (p : Int)] (V.alloc (.cells #[.int .i64 x] 3)) fun e w' => e = .returned (.int .i64 0) ∧ V.alloc (.cells #[.int .i64 x] 3) = w'))
    (TW : Hid (∀ (V : World), Below W.heap.size W V → Calls Try.prog 12 #[.slice A1 n1 c1, .int .i64 (p : Int)] V (Gave (.int .i64 w) V))) :
    Calls Try.prog 3 #[.slice A1 n1 c1, .int .i64 x, .int .i64 (p : Int), .slice A3 0 c3, .int .u64 key.toNat] W (Law.Yes W) := by
  have u1 : (w == 0) = false := by simp [hw]
  have u2 : (w != 0) = true := by simp [hw]
  have u3 : (w != w) = false := by simp
  have p1 : ((p : Int) != (p : Int)) = false := by simp
  have mn : min (p : Int) 40 = ((min p 40 : Nat) : Int) := by omega
  obtain ⟨m, hm⟩ : ∃ m, m = min p 40 := ⟨_, rfl⟩
  rw [← hm] at mn
  have mp : m ≤ p := by omega
  clear hm
  go_enter Try.func3, Try.ntmps3
  go_wp2_with fail
  refine (LK.out _).mono ?_
  rintro e w1 ⟨gl, rfl, -, hl, hb1⟩
  have B1 := Lib.hid hb1
  have L1 := Lib.hid hl
  clear hb1 hl LK
  go_wp2_with fail
  refine (MK.out _ B1.out).mono ?_
  rintro e w2 ⟨rfl, hb2⟩
  have B2 := Lib.hid (B1.out.trans (hb2.mono B1.out.size))
  have L2 := Lib.hid (L1.out.later hb2)
  clear L1
  clear hb2 B1 MK
  go_wp2_with fail
  refine (find_none A3 c3 key _).mono ?_
  rintro e w3 ⟨rfl, rfl⟩
  go_wp2_with fail
  refine (JW.out _ B2.out).mono ?_
  rintro e w4 ⟨rfl, rfl⟩
  go_wp2_with fail
  refine (J1.out _).mono ?_
  rintro e w5 ⟨rfl, rfl⟩
  have B5 := Lib.hid (B2.out.alloc B2.out.size (.cells #[.int .i64 x] 3))
  have L5 := Lib.hid (L2.out.alloc (.cells #[.int .i64 x] 3))
  clear L2
  clear B2 JW J1
  go_wp2_with fail
  refine (TW.out _ B5.out).mono ?_
  rintro e w6 ⟨rfl, hb6⟩
  have B6 := Lib.hid (B5.out.trans (hb6.mono B5.out.size))
  have L6 := Lib.hid (L5.out.later hb6)
  clear L5
  clear hb6 B5 TW
  go_wp2_with fail
  go_loopw [19, 84] (fun _ i wr => ∃ k : Nat, k ≤ m ∧ i = .int .i64 k ∧ Below W.heap.size W wr ∧ Cells wr gl 3 nz l) (fun _ i _ => m - (intOf i).toNat)
  case atStart => exact ⟨0, by omega, rfl, B6.out, L6.out⟩
  case round =>
    obtain ⟨k, hk, rfl, hB, hL⟩ := hrel
    have HB := Lib.hid hB
    have HL := Lib.hid hL
    clear hB hL B6 L6
    by_cases hlt : k < m
    · have ex := LF.out k (by omega)
      have J := Lib.hid (fun V => JL.out k V (by omega))
      obtain ⟨y, hy⟩ : ∃ y, y = f k := ⟨_, rfl⟩
      rw [← hy] at ex J
      have cx := HL.out.at_ ex
      have cf : ∀ d os, (grow (redrawn wr d) os).cell? ⟨gl, k, none⟩ = some (.int .i64 (y : Int)) := fun d os => cell_regrown cx d os
      have yy : ((y : Int) != (y : Int)) = false := by simp
      have k1 : (k : Int) < (m : Int) := by omega
      have k2 : (k : Int) < (p : Int) := by omega
      have k3 : k < p := by omega
      clear hy ex
      go_upto_region 15 with fail
      refine wp_region_quiet_below (by kernel_rfl) (by kernel_rfl) ?_
      repeat (quiet_step ((go_at_call 13; refine Calls.regrown_of (J.out _))))
      refine wpQuiet_nil ?_
      intro _ hw'
      obtain ⟨⟨dd, os⟩, hw''⟩ := hw'
      subst hw''
      have br := below_regrown wr dd os
      have HB2 := Lib.hid (HB.out.trans (br.mono HB.out.size))
      have HL2 := Lib.hid (HL.out.later br)
      clear br cf
      go_wp2
      go_roundw
      case rel => exact ⟨k + 1, by omega, by go_num, HB2.out, HL2.out⟩
      case measure => simp [intOf]; omega
    · obtain rfl : k = m := by omega
      have B6 := Lib.hid HB.out
      clear HB HL
      go_wp2_with fail
      go_ret
      exact ⟨rfl, B6.out⟩
set_option maxRecDepth 100000 in
set_option maxHeartbeats 8000000 in
theorem case_ok_no_some (A1 : Option Addr) (ids : List Int) (n1 c1 : Nat) (x : Int)
    (p : Nat) (h2 : 2 ≤ p) (hb : p ≤ 1000)
    (b3 o3 n3 c3 q : Nat) (key u : UInt64) (cv : Int) (h3 : 1 ≤ n3) (h3b : n3 ≤ 17592186044416) (hq : q < n3)
    (W : World)
    (w : Int) (hw : w ≠ 0)
    (l : List Nat) (f : Nat → Nat) (LF : Hid (∀ k, k < p → l[k]? = some (f k)))
    (JL : Hid (∀ (k : Nat) (V : World), k ≤ 1000 → Calls Try.prog 13 #[.int .i64 x, .int .i64 p, .int .i64 k] V (Gave (.int .i64 (f k : Nat)) V)))
    (LK : Hid (∀ (V : World), Calls Try.prog 8 #[.int .i64 x, .int .i64 p] V (LikesOut l p V)))
    (MK : Hid (∀ (V : World), Below W.heap.size W V → Calls Try.prog 9 #[.slice A1 n1 c1, .int .i64 (p : Int)] V (Gave (.tuple #[.slice none 0 0, .int .i64 w]) V)))
    (c0 : W.cell? ⟨b3, o3 + q, none⟩ = some (.int .i64 cv)) (hb3 : b3 < W.heap.size)
    (FN : Hid (∀ (V : World), Below W.heap.size W V → Calls Try.prog 10 #[.slice (some ⟨b3, o3, none⟩) n3 c3, .int .u64 key.toNat] V fun e w' => e = .returned (.tuple #[.int .i64 cv, .int .i64 0]) ∧ V = w'))
    (AO : Hid (∀ (V : World), Calls Try.prog 16 #[.int .u64 key.toNat] V (Gave (.int .u64 u.toNat) V)))
    (M0 : (u.toNat : Int) % (n3 : Int) = (q : Int)) (M1 : (u.toNat : Int).tmod (n3 : Int) = (q : Int))
    (JW : Hid (∀ (V : World), Below W.heap.size W V → Calls Try.prog 11 #[.slice A1 n1 c1, .int .i64 (p : Int)] V fun e w' => e = .returned (.int .i64 w) ∧ V = w'))
    (J1 : Hid (∀ (V : World), Calls Try.prog 11 #[.slice (some ⟨V.heap.size, 0, none⟩) 1 1, .int .i64 (p : Int)] (V.alloc (.cells #[.int .i64 x] 3)) fun e w' => e = .returned (.int .i64 0) ∧ V.alloc (.cells #[.int .i64 x] 3) = w'))
    (TW : Hid (∀ (V : World), Below W.heap.size W V → Calls Try.prog 12 #[.slice A1 n1 c1, .int .i64 (p : Int)] V (Gave (.int .i64 w) V))) :
    Calls Try.prog 3 #[.slice A1 n1 c1, .int .i64 x, .int .i64 (p : Int), .slice (some ⟨b3, o3, none⟩) n3 c3, .int .u64 key.toNat] W (Law.Yes W) := by
  have u1 : (w == 0) = false := by simp [hw]
  have u2 : (w != 0) = true := by simp [hw]
  have u3 : (w != w) = false := by simp
  have p1 : ((p : Int) != (p : Int)) = false := by simp
  have n30 : ((n3 : Int) == 0) = false := by simp; omega
  have n31 : ¬ n3 = 0 := by omega
  have nw1 : IntKind.u64.wrap (n3 : Int) = n3 := by rw [IntKind.wrap_u64]; omega
  have nw2 : (n3 : Int) % 18446744073709551616 = n3 := by omega
  have nq : (q : Int) < (n3 : Int) := by omega
  have cc : (cv == cv) = true := by simp
  have mn : min (p : Int) 40 = ((min p 40 : Nat) : Int) := by omega
  obtain ⟨m, hm⟩ : ∃ m, m = min p 40 := ⟨_, rfl⟩
  rw [← hm] at mn
  have mp : m ≤ p := by omega
  clear hm
  go_enter Try.func3, Try.ntmps3
  go_wp2_with fail
  refine (LK.out _).mono ?_
  rintro e w1 ⟨gl, rfl, -, hl, hb1⟩
  have B1 := Lib.hid hb1
  have L1 := Lib.hid hl
  clear hb1 hl LK
  go_wp2_with fail
  refine (MK.out _ B1.out).mono ?_
  rintro e w2 ⟨rfl, hb2⟩
  have B2 := Lib.hid (B1.out.trans (hb2.mono B1.out.size))
  have L2 := Lib.hid (L1.out.later hb2)
  clear L1
  clear hb2 B1 MK
  go_wp2_with fail
  refine (FN.out _ B2.out).mono ?_
  rintro e w3 ⟨rfl, rfl⟩
  go_wp2_with fail
  refine (JW.out _ B2.out).mono ?_
  rintro e w4 ⟨rfl, rfl⟩
  go_wp2_with fail
  refine (J1.out _).mono ?_
  rintro e w5 ⟨rfl, rfl⟩
  have B5 := Lib.hid (B2.out.alloc B2.out.size (.cells #[.int .i64 x] 3))
  have L5 := Lib.hid (L2.out.alloc (.cells #[.int .i64 x] 3))
  clear L2
  clear B2 JW J1
  go_wp2_with fail
  refine (TW.out _ B5.out).mono ?_
  rintro e w6 ⟨rfl, hb6⟩
  have B6 := Lib.hid (B5.out.trans (hb6.mono B5.out.size))
  have L6 := Lib.hid (L5.out.later hb6)
  clear L5
  clear hb6 B5 TW
  go_wp2_with fail
  go_loopw [19, 84] (fun _ i wr => ∃ k : Nat, k ≤ m ∧ i = .int .i64 k ∧ Below W.heap.size W wr ∧ Cells wr gl 3 nz l) (fun _ i _ => m - (intOf i).toNat)
  case atStart => exact ⟨0, by omega, rfl, B6.out, L6.out⟩
  case round =>
    obtain ⟨k, hk, rfl, hB, hL⟩ := hrel
    have HB := Lib.hid hB
    have HL := Lib.hid hL
    clear hB hL B6 L6
    by_cases hlt : k < m
    · have ex := LF.out k (by omega)
      have J := Lib.hid (fun V => JL.out k V (by omega))
      obtain ⟨y, hy⟩ : ∃ y, y = f k := ⟨_, rfl⟩
      rw [← hy] at ex J
      have cx := HL.out.at_ ex
      have cf : ∀ d os, (grow (redrawn wr d) os).cell? ⟨gl, k, none⟩ = some (.int .i64 (y : Int)) := fun d os => cell_regrown cx d os
      have yy : ((y : Int) != (y : Int)) = false := by simp
      have k1 : (k : Int) < (m : Int) := by omega
      have k2 : (k : Int) < (p : Int) := by omega
      have k3 : k < p := by omega
      clear hy ex
      go_upto_region 15 with fail
      refine wp_region_quiet_below (by kernel_rfl) (by kernel_rfl) ?_
      repeat (quiet_step ((go_at_call 13; refine Calls.regrown_of (J.out _))))
      refine wpQuiet_nil ?_
      intro _ hw'
      obtain ⟨⟨dd, os⟩, hw''⟩ := hw'
      subst hw''
      have br := below_regrown wr dd os
      have HB2 := Lib.hid (HB.out.trans (br.mono HB.out.size))
      have HL2 := Lib.hid (HL.out.later br)
      clear br cf
      go_wp2
      go_roundw
      case rel => exact ⟨k + 1, by omega, by go_num, HB2.out, HL2.out⟩
      case measure => simp [intOf]; omega
    · obtain rfl : k = m := by omega
      have B6 := Lib.hid HB.out
      clear HB HL
      go_wp2_with fail
      refine (AO.out _).mono ?_
      rintro e w10 ⟨rfl, hb10⟩
      have B10 := Lib.hid (B6.out.trans (hb10.mono B6.out.size))
      have c10 := (B10.out.cell (p := ⟨b3, o3 + q, none⟩) hb3).trans c0
      clear hb10
      go_wp2
      go_ret
      exact ⟨rfl, B10.out⟩
set_option maxRecDepth 100000 in
set_option maxHeartbeats 8000000 in
theorem case_no_small_none (A1 : Option Addr) (ids : List Int) (n1 c1 : Nat) (x : Int)
    (p : Nat) (h2 : 2 ≤ p) (hb : p ≤ 1000)
    (A3 : Option Addr) (c3 : Nat) (key : UInt64)
    (W : World)
    (v : Int) (hv : v ≠ 0)
    (tt : List Int) (TL : Hid (tt.length = p))
    (LK : Hid (∀ (V : World), Calls Try.prog 8 #[.int .i64 x, .int .i64 (p : Int)] V (Gave (.tuple #[.slice none 0 0, .int .i64 v]) V)))
    (MK : Hid (∀ (V : World), Below W.heap.size W V → Calls Try.prog 9 #[.slice A1 n1 c1, .int .i64 p] V (MakeOut tt p V)))
    (JW : Hid (∀ (V : World), Below W.heap.size W V → Calls Try.prog 11 #[.slice A1 n1 c1, .int .i64 (p : Int)] V fun e w' => e = .returned (.int .i64 0) ∧ V = w'))
    (J1 : Hid (∀ (V : World), Calls Try.prog 11 #[.slice (some ⟨V.heap.size, 0, none⟩) 1 1, .int .i64 (p : Int)] (V.alloc (.cells #[.int .i64 x] 3)) fun e w' => e = .returned (.int .i64 v) ∧ V.alloc (.cells #[.int .i64 x] 3) = w'))
    (TW : Hid (∀ (V : World), Below W.heap.size W V → Calls Try.prog 12 #[.slice A1 n1 c1, .int .i64 (p : Int)] V (Gave (.int .i64 0) V)))
    (hs : p < 60) (JM : Hid (∀ (V : World), Below W.heap.size W V → Calls Try.prog 15 #[.slice A1 n1 c1, .int .i64 p] V (JOut tt p V))) :
    Calls Try.prog 3 #[.slice A1 n1 c1, .int .i64 x, .int .i64 (p : Int), .slice A3 0 c3, .int .u64 key.toNat] W (Law.Yes W) := by
  have v1 : (v == 0) = false := by simp [hv]
  have v2 : (v != 0) = true := by simp [hv]
  have v3 : (v != v) = false := by simp
  have q1 : decide ((p : Int) < 60) = true := decide_eq_true (by omega)
  have q2 : decide (p < 60) = true := decide_eq_true hs
  have p1 : ((p : Int) != (p : Int)) = false := by simp
  go_enter Try.func3, Try.ntmps3
  go_wp2_with fail
  refine (LK.out _).mono ?_
  rintro e w1 ⟨rfl, hb1⟩
  have B1 := Lib.hid hb1
  clear hb1 LK
  go_wp2_with fail
  refine (MK.out _ B1.out).mono ?_
  rintro e w2 ⟨gm, rfl, -, hm, hb2⟩
  have B2 := Lib.hid (B1.out.trans (hb2.mono B1.out.size))
  have M2 := Lib.hid hm
  clear hb2 B1 MK hm
  go_wp2_with fail
  refine (find_none A3 c3 key _).mono ?_
  rintro e w3 ⟨rfl, rfl⟩
  go_wp2_with fail
  refine (JW.out _ B2.out).mono ?_
  rintro e w4 ⟨rfl, rfl⟩
  go_wp2_with fail
  refine (J1.out _).mono ?_
  rintro e w5 ⟨rfl, rfl⟩
  have B5 := Lib.hid (B2.out.alloc B2.out.size (.cells #[.int .i64 x] 3))
  have M5 := Lib.hid (M2.out.alloc (.cells #[.int .i64 x] 3))
  clear M2
  clear B2 JW J1
  go_wp2_with fail
  refine (TW.out _ B5.out).mono ?_
  rintro e w6 ⟨rfl, hb6⟩
  have B6 := Lib.hid (B5.out.trans (hb6.mono B5.out.size))
  have M6 := Lib.hid (M5.out.later hb6)
  clear M5
  clear hb6 B5 TW
  go_wp2_with fail
  refine (JM.out _ B6.out).mono ?_
  rintro e w8 ⟨gj, rfl, -, hj, hb8⟩
  have B8 := Lib.hid (B6.out.trans (hb8.mono B6.out.size))
  have EQ := Lib.hid (equal_c tt p TL.out hb w8 gm gj (M6.out.later hb8) hj)
  clear hb8 hj B6
  go_wp2_with fail
  refine EQ.out.mono ?_
  rintro e w9 ⟨rfl, hb9⟩
  have B9 := Lib.hid (B8.out.trans (hb9.mono B8.out.size))
  clear hb9 B8 EQ
  go_wp2_with fail
  go_ret
  exact ⟨rfl, B9.out⟩
set_option maxRecDepth 100000 in
set_option maxHeartbeats 8000000 in
theorem case_no_small_some (A1 : Option Addr) (ids : List Int) (n1 c1 : Nat) (x : Int)
    (p : Nat) (h2 : 2 ≤ p) (hb : p ≤ 1000)
    (b3 o3 n3 c3 q : Nat) (key u : UInt64) (cv : Int) (h3 : 1 ≤ n3) (h3b : n3 ≤ 17592186044416) (hq : q < n3)
    (W : World)
    (v : Int) (hv : v ≠ 0)
    (tt : List Int) (TL : Hid (tt.length = p))
    (LK : Hid (∀ (V : World), Calls Try.prog 8 #[.int .i64 x, .int .i64 (p : Int)] V (Gave (.tuple #[.slice none 0 0, .int .i64 v]) V)))
    (MK : Hid (∀ (V : World), Below W.heap.size W V → Calls Try.prog 9 #[.slice A1 n1 c1, .int .i64 p] V (MakeOut tt p V)))
    (c0 : W.cell? ⟨b3, o3 + q, none⟩ = some (.int .i64 cv)) (hb3 : b3 < W.heap.size)
    (FN : Hid (∀ (V : World), Below W.heap.size W V → Calls Try.prog 10 #[.slice (some ⟨b3, o3, none⟩) n3 c3, .int .u64 key.toNat] V fun e w' => e = .returned (.tuple #[.int .i64 cv, .int .i64 0]) ∧ V = w'))
    (AO : Hid (∀ (V : World), Calls Try.prog 16 #[.int .u64 key.toNat] V (Gave (.int .u64 u.toNat) V)))
    (M0 : (u.toNat : Int) % (n3 : Int) = (q : Int)) (M1 : (u.toNat : Int).tmod (n3 : Int) = (q : Int))
    (JW : Hid (∀ (V : World), Below W.heap.size W V → Calls Try.prog 11 #[.slice A1 n1 c1, .int .i64 (p : Int)] V fun e w' => e = .returned (.int .i64 0) ∧ V = w'))
    (J1 : Hid (∀ (V : World), Calls Try.prog 11 #[.slice (some ⟨V.heap.size, 0, none⟩) 1 1, .int .i64 (p : Int)] (V.alloc (.cells #[.int .i64 x] 3)) fun e w' => e = .returned (.int .i64 v) ∧ V.alloc (.cells #[.int .i64 x] 3) = w'))
    (TW : Hid (∀ (V : World), Below W.heap.size W V → Calls Try.prog 12 #[.slice A1 n1 c1, .int .i64 (p : Int)] V (Gave (.int .i64 0) V)))
    (hs : p < 60) (JM : Hid (∀ (V : World), Below W.heap.size W V → Calls Try.prog 15 #[.slice A1 n1 c1, .int .i64 p] V (JOut tt p V))) :
    Calls Try.prog 3 #[.slice A1 n1 c1, .int .i64 x, .int .i64 (p : Int), .slice (some ⟨b3, o3, none⟩) n3 c3, .int .u64 key.toNat] W (Law.Yes W) := by
  have v1 : (v == 0) = false := by simp [hv]
  have v2 : (v != 0) = true := by simp [hv]
  have v3 : (v != v) = false := by simp
  have q1 : decide ((p : Int) < 60) = true := decide_eq_true (by omega)
  have q2 : decide (p < 60) = true := decide_eq_true hs
  have p1 : ((p : Int) != (p : Int)) = false := by simp
  have n30 : ((n3 : Int) == 0) = false := by simp; omega
  have n31 : ¬ n3 = 0 := by omega
  have nw1 : IntKind.u64.wrap (n3 : Int) = n3 := by rw [IntKind.wrap_u64]; omega
  have nw2 : (n3 : Int) % 18446744073709551616 = n3 := by omega
  have nq : (q : Int) < (n3 : Int) := by omega
  have cc : (cv == cv) = true := by simp
  go_enter Try.func3, Try.ntmps3
  go_wp2_with fail
  refine (LK.out _).mono ?_
  rintro e w1 ⟨rfl, hb1⟩
  have B1 := Lib.hid hb1
  clear hb1 LK
  go_wp2_with fail
  refine (MK.out _ B1.out).mono ?_
  rintro e w2 ⟨gm, rfl, -, hm, hb2⟩
  have B2 := Lib.hid (B1.out.trans (hb2.mono B1.out.size))
  have M2 := Lib.hid hm
  clear hb2 B1 MK hm
  go_wp2_with fail
  refine (FN.out _ B2.out).mono ?_
  rintro e w3 ⟨rfl, rfl⟩
  go_wp2_with fail
  refine (JW.out _ B2.out).mono ?_
  rintro e w4 ⟨rfl, rfl⟩
  go_wp2_with fail
  refine (J1.out _).mono ?_
  rintro e w5 ⟨rfl, rfl⟩
  have B5 := Lib.hid (B2.out.alloc B2.out.size (.cells #[.int .i64 x] 3))
  have M5 := Lib.hid (M2.out.alloc (.cells #[.int .i64 x] 3))
  clear M2
  clear B2 JW J1
  go_wp2_with fail
  refine (TW.out _ B5.out).mono ?_
  rintro e w6 ⟨rfl, hb6⟩
  have B6 := Lib.hid (B5.out.trans (hb6.mono B5.out.size))
  have M6 := Lib.hid (M5.out.later hb6)
  clear M5
  clear hb6 B5 TW
  go_wp2_with fail
  refine (JM.out _ B6.out).mono ?_
  rintro e w8 ⟨gj, rfl, -, hj, hb8⟩
  have B8 := Lib.hid (B6.out.trans (hb8.mono B6.out.size))
  have EQ := Lib.hid (equal_c tt p TL.out hb w8 gm gj (M6.out.later hb8) hj)
  clear hb8 hj B6
  go_wp2_with fail
  refine EQ.out.mono ?_
  rintro e w9 ⟨rfl, hb9⟩
  have B9 := Lib.hid (B8.out.trans (hb9.mono B8.out.size))
  clear hb9 B8 EQ
  go_wp2_with fail
  refine (AO.out _).mono ?_
  rintro e w10 ⟨rfl, hb10⟩
  have B10 := Lib.hid (B9.out.trans (hb10.mono B9.out.size))
  have c10 := (B10.out.cell (p := ⟨b3, o3 + q, none⟩) hb3).trans c0
  clear hb10
  go_wp2
  go_ret
  exact ⟨rfl, B10.out⟩
set_option maxRecDepth 100000 in
set_option maxHeartbeats 8000000 in
theorem case_no_great_none (A1 : Option Addr) (ids : List Int) (n1 c1 : Nat) (x : Int)
    (p : Nat) (h2 : 2 ≤ p) (hb : p ≤ 1000)
    (A3 : Option Addr) (c3 : Nat) (key : UInt64)
    (W : World)
    (v : Int) (hv : v ≠ 0)
    (tt : List Int) (TL : Hid (tt.length = p))
    (LK : Hid (∀ (V : World), Calls Try.prog 8 #[.int .i64 x, .int .i64 (p : Int)] V (Gave (.tuple #[.slice none 0 0, .int .i64 v]) V)))
    (MK : Hid (∀ (V : World), Below W.heap.size W V → Calls Try.prog 9 #[.slice A1 n1 c1, .int .i64 p] V (MakeOut tt p V)))
    (JW : Hid (∀ (V : World), Below W.heap.size W V → Calls Try.prog 11 #[.slice A1 n1 c1, .int .i64 (p : Int)] V fun e w' => e = .returned (.int .i64 0) ∧ V = w'))
    (J1 : Hid (∀ (V : World), Calls Try.prog 11 #[.slice (some ⟨V.heap.size, 0, none⟩) 1 1, .int .i64 (p : Int)] (V.alloc (.cells #[.int .i64 x] 3)) fun e w' => e = .returned (.int .i64 v) ∧ V.alloc (.cells #[.int .i64 x] 3) = w'))
    (TW : Hid (∀ (V : World), Below W.heap.size W V → Calls Try.prog 12 #[.slice A1 n1 c1, .int .i64 (p : Int)] V (Gave (.int .i64 0) V)))
    (hs : ¬ p < 60) :
    Calls Try.prog 3 #[.slice A1 n1 c1, .int .i64 x, .int .i64 (p : Int), .slice A3 0 c3, .int .u64 key.toNat] W (Law.Yes W) := by
  have v1 : (v == 0) = false := by simp [hv]
  have v2 : (v != 0) = true := by simp [hv]
  have v3 : (v != v) = false := by simp
  have q1 : decide ((p : Int) < 60) = false := decide_eq_false (by omega)
  have q2 : decide (p < 60) = false := decide_eq_false hs
  have p1 : ((p : Int) != (p : Int)) = false := by simp
  go_enter Try.func3, Try.ntmps3
  go_wp2_with fail
  refine (LK.out _).mono ?_
  rintro e w1 ⟨rfl, hb1⟩
  have B1 := Lib.hid hb1
  clear hb1 LK
  go_wp2_with fail
  refine (MK.out _ B1.out).mono ?_
  rintro e w2 ⟨gm, rfl, -, hm, hb2⟩
  have B2 := Lib.hid (B1.out.trans (hb2.mono B1.out.size))
  have M2 := Lib.hid hm
  clear hb2 B1 MK hm
  go_wp2_with fail
  refine (find_none A3 c3 key _).mono ?_
  rintro e w3 ⟨rfl, rfl⟩
  go_wp2_with fail
  refine (JW.out _ B2.out).mono ?_
  rintro e w4 ⟨rfl, rfl⟩
  go_wp2_with fail
  refine (J1.out _).mono ?_
  rintro e w5 ⟨rfl, rfl⟩
  have B5 := Lib.hid (B2.out.alloc B2.out.size (.cells #[.int .i64 x] 3))
  have M5 := Lib.hid (M2.out.alloc (.cells #[.int .i64 x] 3))
  clear M2
  clear B2 JW J1
  go_wp2_with fail
  refine (TW.out _ B5.out).mono ?_
  rintro e w6 ⟨rfl, hb6⟩
  have B6 := Lib.hid (B5.out.trans (hb6.mono B5.out.size))
  have M6 := Lib.hid (M5.out.later hb6)
  clear M5
  clear hb6 B5 TW
  go_wp2_with fail
  go_ret
  exact ⟨rfl, B6.out⟩
set_option maxRecDepth 100000 in
set_option maxHeartbeats 8000000 in
theorem case_no_great_some (A1 : Option Addr) (ids : List Int) (n1 c1 : Nat) (x : Int)
    (p : Nat) (h2 : 2 ≤ p) (hb : p ≤ 1000)
    (b3 o3 n3 c3 q : Nat) (key u : UInt64) (cv : Int) (h3 : 1 ≤ n3) (h3b : n3 ≤ 17592186044416) (hq : q < n3)
    (W : World)
    (v : Int) (hv : v ≠ 0)
    (tt : List Int) (TL : Hid (tt.length = p))
    (LK : Hid (∀ (V : World), Calls Try.prog 8 #[.int .i64 x, .int .i64 (p : Int)] V (Gave (.tuple #[.slice none 0 0, .int .i64 v]) V)))
    (MK : Hid (∀ (V : World), Below W.heap.size W V → Calls Try.prog 9 #[.slice A1 n1 c1, .int .i64 p] V (MakeOut tt p V)))
    (c0 : W.cell? ⟨b3, o3 + q, none⟩ = some (.int .i64 cv)) (hb3 : b3 < W.heap.size)
    (FN : Hid (∀ (V : World), Below W.heap.size W V → Calls Try.prog 10 #[.slice (some ⟨b3, o3, none⟩) n3 c3, .int .u64 key.toNat] V fun e w' => e = .returned (.tuple #[.int .i64 cv, .int .i64 0]) ∧ V = w'))
    (AO : Hid (∀ (V : World), Calls Try.prog 16 #[.int .u64 key.toNat] V (Gave (.int .u64 u.toNat) V)))
    (M0 : (u.toNat : Int) % (n3 : Int) = (q : Int)) (M1 : (u.toNat : Int).tmod (n3 : Int) = (q : Int))
    (JW : Hid (∀ (V : World), Below W.heap.size W V → Calls Try.prog 11 #[.slice A1 n1 c1, .int .i64 (p : Int)] V fun e w' => e = .returned (.int .i64 0) ∧ V = w'))
    (J1 : Hid (∀ (V : World), Calls Try.prog 11 #[.slice (some ⟨V.heap.size, 0, none⟩) 1 1, .int .i64 (p : Int)] (V.alloc (.cells #[.int .i64 x] 3)) fun e w' => e = .returned (.int .i64 v) ∧ V.alloc (.cells #[.int .i64 x] 3) = w'))
    (TW : Hid (∀ (V : World), Below W.heap.size W V → Calls Try.prog 12 #[.slice A1 n1 c1, .int .i64 (p : Int)] V (Gave (.int .i64 0) V)))
    (hs : ¬ p < 60) :
    Calls Try.prog 3 #[.slice A1 n1 c1, .int .i64 x, .int .i64 (p : Int), .slice (some ⟨b3, o3, none⟩) n3 c3, .int .u64 key.toNat] W (Law.Yes W) := by
  have v1 : (v == 0) = false := by simp [hv]
  have v2 : (v != 0) = true := by simp [hv]
  have v3 : (v != v) = false := by simp
  have q1 : decide ((p : Int) < 60) = false := decide_eq_false (by omega)
  have q2 : decide (p < 60) = false := decide_eq_false hs
  have p1 : ((p : Int) != (p : Int)) = false := by simp
  have n30 : ((n3 : Int) == 0) = false := by simp; omega
  have n31 : ¬ n3 = 0 := by omega
  have nw1 : IntKind.u64.wrap (n3 : Int) = n3 := by rw [IntKind.wrap_u64]; omega
  have nw2 : (n3 : Int) % 18446744073709551616 = n3 := by omega
  have nq : (q : Int) < (n3 : Int) := by omega
  have cc : (cv == cv) = true := by simp
  go_enter Try.func3, Try.ntmps3
  go_wp2_with fail
  refine (LK.out _).mono ?_
  rintro e w1 ⟨rfl, hb1⟩
  have B1 := Lib.hid hb1
  clear hb1 LK
  go_wp2_with fail
  refine (MK.out _ B1.out).mono ?_
  rintro e w2 ⟨gm, rfl, -, hm, hb2⟩
  have B2 := Lib.hid (B1.out.trans (hb2.mono B1.out.size))
  have M2 := Lib.hid hm
  clear hb2 B1 MK hm
  go_wp2_with fail
  refine (FN.out _ B2.out).mono ?_
  rintro e w3 ⟨rfl, rfl⟩
  go_wp2_with fail
  refine (JW.out _ B2.out).mono ?_
  rintro e w4 ⟨rfl, rfl⟩
  go_wp2_with fail
  refine (J1.out _).mono ?_
  rintro e w5 ⟨rfl, rfl⟩
  have B5 := Lib.hid (B2.out.alloc B2.out.size (.cells #[.int .i64 x] 3))
  have M5 := Lib.hid (M2.out.alloc (.cells #[.int .i64 x] 3))
  clear M2
  clear B2 JW J1
  go_wp2_with fail
  refine (TW.out _ B5.out).mono ?_
  rintro e w6 ⟨rfl, hb6⟩
  have B6 := Lib.hid (B5.out.trans (hb6.mono B5.out.size))
  have M6 := Lib.hid (M5.out.later hb6)
  clear M5
  clear hb6 B5 TW
  go_wp2_with fail
  refine (AO.out _).mono ?_
  rintro e w10 ⟨rfl, hb10⟩
  have B10 := Lib.hid (B6.out.trans (hb10.mono B6.out.size))
  have c10 := (B10.out.cell (p := ⟨b3, o3 + q, none⟩) hb3).trans c0
  clear hb10
  go_wp2
  go_ret
  exact ⟨rfl, B10.out⟩
set_option maxRecDepth 100000 in
set_option maxHeartbeats 8000000 in
theorem case_no_no_none (A1 : Option Addr) (ids : List Int) (n1 c1 : Nat) (x : Int)
    (size : Int)
    (A3 : Option Addr) (c3 : Nat) (key : UInt64)
    (W : World)
    (v : Int) (hv : v ≠ 0)
    (w : Int) (hw : w ≠ 0)
    (LK : Hid (∀ (V : World), Calls Try.prog 8 #[.int .i64 x, .int .i64 size] V (Gave (.tuple #[.slice none 0 0, .int .i64 v]) V)))
    (MK : Hid (∀ (V : World), Below W.heap.size W V → Calls Try.prog 9 #[.slice A1 n1 c1, .int .i64 size] V (Gave (.tuple #[.slice none 0 0, .int .i64 w]) V)))
    (JW : Hid (∀ (V : World), Below W.heap.size W V → Calls Try.prog 11 #[.slice A1 n1 c1, .int .i64 size] V fun e w' => e = .returned (.int .i64 w) ∧ V = w'))
    (J1 : Hid (∀ (V : World), Calls Try.prog 11 #[.slice (some ⟨V.heap.size, 0, none⟩) 1 1, .int .i64 size] (V.alloc (.cells #[.int .i64 x] 3)) fun e w' => e = .returned (.int .i64 v) ∧ V.alloc (.cells #[.int .i64 x] 3) = w'))
    (TW : Hid (∀ (V : World), Below W.heap.size W V → Calls Try.prog 12 #[.slice A1 n1 c1, .int .i64 size] V (Gave (.int .i64 w) V))) :
    Calls Try.prog 3 #[.slice A1 n1 c1, .int .i64 x, .int .i64 size, .slice A3 0 c3, .int .u64 key.toNat] W (Law.Yes W) := by
  have v1 : (v == 0) = false := by simp [hv]
  have v2 : (v != 0) = true := by simp [hv]
  have v3 : (v != v) = false := by simp
  have u1 : (w == 0) = false := by simp [hw]
  have u2 : (w != 0) = true := by simp [hw]
  have u3 : (w != w) = false := by simp
  go_enter Try.func3, Try.ntmps3
  go_wp2_with fail
  refine (LK.out _).mono ?_
  rintro e w1 ⟨rfl, hb1⟩
  have B1 := Lib.hid hb1
  clear hb1 LK
  go_wp2_with fail
  refine (MK.out _ B1.out).mono ?_
  rintro e w2 ⟨rfl, hb2⟩
  have B2 := Lib.hid (B1.out.trans (hb2.mono B1.out.size))
  clear hb2 B1 MK
  go_wp2_with fail
  refine (find_none A3 c3 key _).mono ?_
  rintro e w3 ⟨rfl, rfl⟩
  go_wp2_with fail
  refine (JW.out _ B2.out).mono ?_
  rintro e w4 ⟨rfl, rfl⟩
  go_wp2_with fail
  refine (J1.out _).mono ?_
  rintro e w5 ⟨rfl, rfl⟩
  have B5 := Lib.hid (B2.out.alloc B2.out.size (.cells #[.int .i64 x] 3))
  clear B2 JW J1
  go_wp2_with fail
  refine (TW.out _ B5.out).mono ?_
  rintro e w6 ⟨rfl, hb6⟩
  have B6 := Lib.hid (B5.out.trans (hb6.mono B5.out.size))
  clear hb6 B5 TW
  go_wp2_with fail
  go_ret
  exact ⟨rfl, B6.out⟩
set_option maxRecDepth 100000 in
set_option maxHeartbeats 8000000 in
theorem case_no_no_some (A1 : Option Addr) (ids : List Int) (n1 c1 : Nat) (x : Int)
    (size : Int)
    (b3 o3 n3 c3 q : Nat) (key u : UInt64) (cv : Int) (h3 : 1 ≤ n3) (h3b : n3 ≤ 17592186044416) (hq : q < n3)
    (W : World)
    (v : Int) (hv : v ≠ 0)
    (w : Int) (hw : w ≠ 0)
    (LK : Hid (∀ (V : World), Calls Try.prog 8 #[.int .i64 x, .int .i64 size] V (Gave (.tuple #[.slice none 0 0, .int .i64 v]) V)))
    (MK : Hid (∀ (V : World), Below W.heap.size W V → Calls Try.prog 9 #[.slice A1 n1 c1, .int .i64 size] V (Gave (.tuple #[.slice none 0 0, .int .i64 w]) V)))
    (c0 : W.cell? ⟨b3, o3 + q, none⟩ = some (.int .i64 cv)) (hb3 : b3 < W.heap.size)
    (FN : Hid (∀ (V : World), Below W.heap.size W V → Calls Try.prog 10 #[.slice (some ⟨b3, o3, none⟩) n3 c3, .int .u64 key.toNat] V fun e w' => e = .returned (.tuple #[.int .i64 cv, .int .i64 0]) ∧ V = w'))
    (AO : Hid (∀ (V : World), Calls Try.prog 16 #[.int .u64 key.toNat] V (Gave (.int .u64 u.toNat) V)))
    (M0 : (u.toNat : Int) % (n3 : Int) = (q : Int)) (M1 : (u.toNat : Int).tmod (n3 : Int) = (q : Int))
    (JW : Hid (∀ (V : World), Below W.heap.size W V → Calls Try.prog 11 #[.slice A1 n1 c1, .int .i64 size] V fun e w' => e = .returned (.int .i64 w) ∧ V = w'))
    (J1 : Hid (∀ (V : World), Calls Try.prog 11 #[.slice (some ⟨V.heap.size, 0, none⟩) 1 1, .int .i64 size] (V.alloc (.cells #[.int .i64 x] 3)) fun e w' => e = .returned (.int .i64 v) ∧ V.alloc (.cells #[.int .i64 x] 3) = w'))
    (TW : Hid (∀ (V : World), Below W.heap.size W V → Calls Try.prog 12 #[.slice A1 n1 c1, .int .i64 size] V (Gave (.int .i64 w) V))) :
    Calls Try.prog 3 #[.slice A1 n1 c1, .int .i64 x, .int .i64 size, .slice (some ⟨b3, o3, none⟩) n3 c3, .int .u64 key.toNat] W (Law.Yes W) := by
  have v1 : (v == 0) = false := by simp [hv]
  have v2 : (v != 0) = true := by simp [hv]
  have v3 : (v != v) = false := by simp
  have u1 : (w == 0) = false := by simp [hw]
  have u2 : (w != 0) = true := by simp [hw]
  have u3 : (w != w) = false := by simp
  have n30 : ((n3 : Int) == 0) = false := by simp; omega
  have n31 : ¬ n3 = 0 := by omega
  have nw1 : IntKind.u64.wrap (n3 : Int) = n3 := by rw [IntKind.wrap_u64]; omega
  have nw2 : (n3 : Int) % 18446744073709551616 = n3 := by omega
  have nq : (q : Int) < (n3 : Int) := by omega
  have cc : (cv == cv) = true := by simp
  go_enter Try.func3, Try.ntmps3
  go_wp2_with fail
  refine (LK.out _).mono ?_
  rintro e w1 ⟨rfl, hb1⟩
  have B1 := Lib.hid hb1
  clear hb1 LK
  go_wp2_with fail
  refine (MK.out _ B1.out).mono ?_
  rintro e w2 ⟨rfl, hb2⟩
  have B2 := Lib.hid (B1.out.trans (hb2.mono B1.out.size))
  clear hb2 B1 MK
  go_wp2_with fail
  refine (FN.out _ B2.out).mono ?_
  rintro e w3 ⟨rfl, rfl⟩
  go_wp2_with fail
  refine (JW.out _ B2.out).mono ?_
  rintro e w4 ⟨rfl, rfl⟩
  go_wp2_with fail
  refine (J1.out _).mono ?_
  rintro e w5 ⟨rfl, rfl⟩
  have B5 := Lib.hid (B2.out.alloc B2.out.size (.cells #[.int .i64 x] 3))
  clear B2 JW J1
  go_wp2_with fail
  refine (TW.out _ B5.out).mono ?_
  rintro e w6 ⟨rfl, hb6⟩
  have B6 := Lib.hid (B5.out.trans (hb6.mono B5.out.size))
  clear hb6 B5 TW
  go_wp2_with fail
  refine (AO.out _).mono ?_
  rintro e w10 ⟨rfl, hb10⟩
  have B10 := Lib.hid (B6.out.trans (hb10.mono B6.out.size))
  have c10 := (B10.out.cell (p := ⟨b3, o3 + q, none⟩) hb3).trans c0
  clear hb10
  go_wp2
  go_ret
  exact ⟨rfl, B10.out⟩
theorem words (A1 : Option Addr) (ids : List Int) (n1 c1 : Nat) (x : Int) (size : Int) (A3 : Option Addr) (t : List Int) (n3 c3 : Nat) (key : UInt64) (W : World)
    (hn1 : ids.length = n1) (hc1 : n1 ≤ c1) (hb1 : n1 ≤ 17592186044416) (hx1 : Reads W A1 (ids.map (Value.int .i64))) (hwf : ∀ y ∈ ids, (Lit.int .i64 y).wf = true) (hx : (Lit.int .i64 x).wf = true)
    (hn3 : t.length = n3) (hb3 : n3 ≤ 17592186044416) (hx3 : Reads W A3 (t.map (Value.int .i64))) :
    Calls Try.prog 3 #[.slice A1 n1 c1, .int .i64 x, .int .i64 size, .slice A3 n3 c3, .int .u64 key.toNat] W (Law.Yes W) := by
  have bl : n1 ≤ maxLen := by unfold maxLen; omega
  have TW := Lib.hid (fun V (hB : Below W.heap.size W V) => wrong_c A1 ids n1 c1 size V hn1 bl (hx1.below hB) hwf)
  have JW := Lib.hid (fun V (hB : Below W.heap.size W V) => jwrong_c A1 ids n1 c1 size V hn1 hc1 bl (hx1.below hB))
  have J1 := Lib.hid (fun V => jone_c x size _ rfl V)
  rcases Nat.eq_zero_or_pos n3 with h0 | h0
  · subst h0
    by_cases hv : tErr [x] size = 0
    · obtain ⟨p, rfl, hp1, hp2, _, _, _, hid, _⟩ := tErr_zero hv
      have h2 := hp1.1
      have hm := hid x (by simp)
      have LF := Lib.hid (show ∀ k, k < p → (lik x p)[k]? = some (pos (st x p) (sp x p) p k) from fun k hk => lik_at hk)
      have JL := Lib.hid (show ∀ (k : Nat) (V : World), k ≤ 1000 → Calls Try.prog 13 #[.int .i64 x, .int .i64 p, .int .i64 k] V (Gave (.int .i64 (pos (st x p) (sp x p) p k : Nat)) V) from fun k V hk => jlike_c x p k V hm.1 hm.2 h2 hp2 hk)
      have LK := Lib.hid (fun V => likes_ok x p hx hv V)
      rw [hv] at J1
      by_cases hw : tErr ids p = 0
      · rw [hw] at TW JW
        have MK := Lib.hid (fun V (hB : Below W.heap.size W V) => make_ok A1 ids n1 c1 p V hn1 (hx1.below hB) hwf hw)
        by_cases hs : p < 60
        · exact case_ok_small_none A1 ids n1 c1 x p h2 hp2 A3 c3 key W (lik x p) (pos (st x p) (sp x p) p) LF JL (table ids p) (table_len _ _) LK MK JW J1 TW hs (fun V hB => jmake_c A1 ids n1 c1 p V hn1 (hx1.below hB) hw)
        · exact case_ok_great_none A1 ids n1 c1 x p h2 hp2 A3 c3 key W (lik x p) (pos (st x p) (sp x p) p) LF JL (table ids p) (table_len _ _) LK MK JW J1 TW hs
      · have MK := Lib.hid (fun V (hB : Below W.heap.size W V) => make_bad A1 ids n1 c1 p _ V hn1 bl (hx1.below hB) hwf rfl hw)
        exact case_ok_no_none A1 ids n1 c1 x p h2 hp2 A3 c3 key W _ hw (lik x p) (pos (st x p) (sp x p) p) LF JL LK MK JW J1 TW
    · by_cases hw : tErr ids size = 0
      · obtain ⟨p, rfl, hp1, hp2, _⟩ := tErr_zero hw
        have h2 := hp1.1
        have LK := Lib.hid (fun V => likes_bad x hx p _ rfl hv V)
        rw [hw] at TW JW
        have MK := Lib.hid (fun V (hB : Below W.heap.size W V) => make_ok A1 ids n1 c1 p V hn1 (hx1.below hB) hwf hw)
        by_cases hs : p < 60
        · exact case_no_small_none A1 ids n1 c1 x p h2 hp2 A3 c3 key W _ hv (table ids p) (table_len _ _) LK MK JW J1 TW hs (fun V hB => jmake_c A1 ids n1 c1 p V hn1 (hx1.below hB) hw)
        · exact case_no_great_none A1 ids n1 c1 x p h2 hp2 A3 c3 key W _ hv (table ids p) (table_len _ _) LK MK JW J1 TW hs
      · have LK := Lib.hid (fun V => likes_bad x hx size _ rfl hv V)
        have MK := Lib.hid (fun V (hB : Below W.heap.size W V) => make_bad A1 ids n1 c1 size _ V hn1 bl (hx1.below hB) hwf rfl hw)
        exact case_no_no_none A1 ids n1 c1 x size A3 c3 key W _ hv _ hw LK MK JW J1 TW
  · have hq : (Mix.one key).toNat % n3 < n3 := Nat.mod_lt _ h0
    have ha := fnd_at key (t := t) (by omega)
    obtain ⟨b3, o3, rfl, hl3, c0⟩ := hx3 _ (.int .i64 (fnd t key)) (by rw [List.getElem?_map, ha]; rfl)
    rw [hn3] at c0
    have FN := Lib.hid (fun V (hB : Below W.heap.size W V) => find_ok (some ⟨b3, o3, none⟩) t n3 c3 key V hn3 h0 (by omega) (hx3.below hB))
    have AO := Lib.hid (fun V => Big.aOne_c key V)
    by_cases hv : tErr [x] size = 0
    · obtain ⟨p, rfl, hp1, hp2, _, _, _, hid, _⟩ := tErr_zero hv
      have h2 := hp1.1
      have hm := hid x (by simp)
      have LF := Lib.hid (show ∀ k, k < p → (lik x p)[k]? = some (pos (st x p) (sp x p) p k) from fun k hk => lik_at hk)
      have JL := Lib.hid (show ∀ (k : Nat) (V : World), k ≤ 1000 → Calls Try.prog 13 #[.int .i64 x, .int .i64 p, .int .i64 k] V (Gave (.int .i64 (pos (st x p) (sp x p) p k : Nat)) V) from fun k V hk => jlike_c x p k V hm.1 hm.2 h2 hp2 hk)
      have LK := Lib.hid (fun V => likes_ok x p hx hv V)
      rw [hv] at J1
      by_cases hw : tErr ids p = 0
      · rw [hw] at TW JW
        have MK := Lib.hid (fun V (hB : Below W.heap.size W V) => make_ok A1 ids n1 c1 p V hn1 (hx1.below hB) hwf hw)
        by_cases hs : p < 60
        · exact case_ok_small_some A1 ids n1 c1 x p h2 hp2 b3 o3 n3 c3 _ key (Mix.one key) (fnd t key) h0 hb3 hq W (lik x p) (pos (st x p) (sp x p) p) LF JL (table ids p) (table_len _ _) LK MK c0 hl3 FN AO (by rw [← Int.natCast_emod]) (by rw [Int.tmod_eq_emod_of_nonneg (by omega), ← Int.natCast_emod]) JW J1 TW hs (fun V hB => jmake_c A1 ids n1 c1 p V hn1 (hx1.below hB) hw)
        · exact case_ok_great_some A1 ids n1 c1 x p h2 hp2 b3 o3 n3 c3 _ key (Mix.one key) (fnd t key) h0 hb3 hq W (lik x p) (pos (st x p) (sp x p) p) LF JL (table ids p) (table_len _ _) LK MK c0 hl3 FN AO (by rw [← Int.natCast_emod]) (by rw [Int.tmod_eq_emod_of_nonneg (by omega), ← Int.natCast_emod]) JW J1 TW hs
      · have MK := Lib.hid (fun V (hB : Below W.heap.size W V) => make_bad A1 ids n1 c1 p _ V hn1 bl (hx1.below hB) hwf rfl hw)
        exact case_ok_no_some A1 ids n1 c1 x p h2 hp2 b3 o3 n3 c3 _ key (Mix.one key) (fnd t key) h0 hb3 hq W _ hw (lik x p) (pos (st x p) (sp x p) p) LF JL LK MK c0 hl3 FN AO (by rw [← Int.natCast_emod]) (by rw [Int.tmod_eq_emod_of_nonneg (by omega), ← Int.natCast_emod]) JW J1 TW
    · by_cases hw : tErr ids size = 0
      · obtain ⟨p, rfl, hp1, hp2, _⟩ := tErr_zero hw
        have h2 := hp1.1
        have LK := Lib.hid (fun V => likes_bad x hx p _ rfl hv V)
        rw [hw] at TW JW
        have MK := Lib.hid (fun V (hB : Below W.heap.size W V) => make_ok A1 ids n1 c1 p V hn1 (hx1.below hB) hwf hw)
        by_cases hs : p < 60
        · exact case_no_small_some A1 ids n1 c1 x p h2 hp2 b3 o3 n3 c3 _ key (Mix.one key) (fnd t key) h0 hb3 hq W _ hv (table ids p) (table_len _ _) LK MK c0 hl3 FN AO (by rw [← Int.natCast_emod]) (by rw [Int.tmod_eq_emod_of_nonneg (by omega), ← Int.natCast_emod]) JW J1 TW hs (fun V hB => jmake_c A1 ids n1 c1 p V hn1 (hx1.below hB) hw)
        · exact case_no_great_some A1 ids n1 c1 x p h2 hp2 b3 o3 n3 c3 _ key (Mix.one key) (fnd t key) h0 hb3 hq W _ hv (table ids p) (table_len _ _) LK MK c0 hl3 FN AO (by rw [← Int.natCast_emod]) (by rw [Int.tmod_eq_emod_of_nonneg (by omega), ← Int.natCast_emod]) JW J1 TW hs
      · have LK := Lib.hid (fun V => likes_bad x hx size _ rfl hv V)
        have MK := Lib.hid (fun V (hB : Below W.heap.size W V) => make_bad A1 ids n1 c1 size _ V hn1 bl (hx1.below hB) hwf rfl hw)
        exact case_no_no_some A1 ids n1 c1 x size b3 o3 n3 c3 _ key (Mix.one key) (fnd t key) h0 hb3 hq W _ hv _ hw LK MK c0 hl3 FN AO (by rw [← Int.natCast_emod]) (by rw [Int.tmod_eq_emod_of_nonneg (by omega), ← Int.natCast_emod]) JW J1 TW
set_option maxRecDepth 100000 in
theorem walk {H : Type} {enc : TypeId × Value → H} {base : Nat} {W : World} {v0 : Value} {d0 : DataW H} {p0 : List MemPlace}
    (o0 : Value.okWide Try.prog W .any base 22 v0) (h0 : DataW.Trod enc Try.prog W 0 (fun _ => true) true 22 v0 d0 p0) (a1 : Int) (w1 : (Lit.int .i64 a1).wf = true) (a2 : Int) (w2 : (Lit.int .i64 a2).wf = true)
    {v3 : Value} {d3 : DataW H} {p3 : List MemPlace} (o3 : Value.okWide Try.prog W .any base 22 v3) (h3 : DataW.Trod enc Try.prog W 0 (fun _ => true) true 22 v3 d3 p3) (a4 : Int) (w4 : (Lit.int .u64 a4).wf = true) {d1 d2 d4 : DataW H}
    (hz : (DataW.weightsEach Try.prog [22, 3, 3, 22, 23] [d0, d1, d2, d3, d4]).all (· ≤ reachBytes) = true) :
    Calls Try.prog 3 #[v0, .int .i64 a1, .int .i64 a2, v3, .int .u64 a4] W (Law.Yes W) := by
  obtain ⟨A, ca, ids, rfl, hl, hx, hc, _, hwf⟩ := open_i64sZ Try.underlying22 Try.underlying3 (by kernel_rfl) (by kernel_rfl) o0 h0 hz (j := 0) rfl rfl
  obtain ⟨A3, c3, t, rfl, hl3, hx3, _, _, _⟩ := open_i64sZ Try.underlying22 Try.underlying3 (by kernel_rfl) (by kernel_rfl) o3 h3 hz (j := 3) rfl rfl
  obtain ⟨key, rfl⟩ := Words.of_wf64 w4
  exact words A ids _ ca a1 a2 A3 t _ c3 key W rfl hc hl hx hwf w1 rfl hl3 hx3
theorem own : ownKnob Try.prog.godebug = none := by kernel_rfl
theorem laid : laidOutB Try.prog = true := by kernel_rfl
theorem pars : ∀ t ∈ Try.f3.params.toList, Try.prog.readableRec t = true ∧ t < Try.prog.types.size := by
  have h : Try.f3.params.toList.all (fun t => Try.prog.readableRec t && decide (t < Try.prog.types.size)) = true := by kernel_rfl
  intro t ht; have := List.all_eq_true.1 h t ht; simpa using this
set_option maxRecDepth 100000 in
theorem calls (H : Type) (enc : TypeId × Value → H) (W : World) (base : Nat) (args : Array Value) (ds : List (DataW H)) (before : List MemPlace)
    (hval : ∀ (j : Nat) t v, Try.f3.params[j]? = some t → args[j]? = some v → Value.okWide Try.prog W .any base t v)
    (hA : DataW.TrodAll enc Try.prog W 0 (fun _ => true) true Try.f3.params.toList args.toList ds before) (hz : (DataW.weightsEach Try.prog Try.f3.params.toList ds).all (· ≤ reachBytes) = true) :
    Calls Try.prog 3 args W (Law.Yes W) := by
  rw [Try.params3] at hA hval hz
  obtain ⟨v0, vs0, d0, ds0, p0, q0, hargs, rfl, rfl, h0, r0⟩ := trodAll_cons hA
  obtain ⟨v1, vs1, d1, ds1, p1, q1, rfl, rfl, rfl, h1, r1⟩ := trodAll_cons r0
  obtain ⟨v2, vs2, d2, ds2, p2, q2, rfl, rfl, rfl, h2, r2⟩ := trodAll_cons r1
  obtain ⟨v3, vs3, d3, ds3, p3, q3, rfl, rfl, rfl, h3, r3⟩ := trodAll_cons r2
  obtain ⟨v4, vs4, d4, ds4, p4, q4, rfl, rfl, rfl, h4, r4⟩ := trodAll_cons r3
  obtain ⟨rfl, rfl, rfl⟩ := trodAll_nil r4
  obtain rfl : args = #[v0, v1, v2, v3, v4] := by cases args; simp_all
  obtain ⟨a1, rfl, rfl, rfl, w1⟩ := open_int Try.underlying3 (hval 1 3 v1 rfl rfl) h1
  obtain ⟨a2, rfl, rfl, rfl, w2⟩ := open_int Try.underlying3 (hval 2 3 v2 rfl rfl) h2
  obtain ⟨a4, rfl, rfl, rfl, w4⟩ := open_int Try.underlying23 (hval 4 23 v4 rfl rfl) h4
  exact walk (W := W) (hval 0 22 v0 rfl rfl) h0 a1 w1 a2 w2 (hval 3 22 v3 rfl rfl) h3 a4 w4 hz
theorem fnOf (H : Type) : ∀ ds : List (DataW H), ds.length = Try.f3.params.toList.length → Rows.tableMakesSpec.fn H ds = { results := [.lit (.bool true)], args := ds } := by
  intro ds h
  have h : ds.length = 5 := h
  obtain _ | ⟨x0, ds⟩ := ds
  · simp at h
  obtain _ | ⟨x1, ds⟩ := ds
  · simp at h
  obtain _ | ⟨x2, ds⟩ := ds
  · simp at h
  obtain _ | ⟨x3, ds⟩ := ds
  · simp at h
  obtain _ | ⟨x4, ds⟩ := ds
  · simp at h
  obtain rfl : ds = [] := List.eq_nil_of_length_eq_zero (by simpa using h)
  rfl
set_option maxRecDepth 100000 in
theorem lifted (os : Os) (started : os.Started) (H : Type) (enc : TypeId × Value → H) :
    ReturnsInHanded {} Try.checked os 3 .any (Rows.tableMakesSpec.pre6 enc Try.prog Try.f3 Rows.tableMakesRow.domain false) (Rows.tableMakesSpec.post enc Try.prog Try.f3 false true false false) := by
  refine returnsInHanded_of_change_sized (C := Try.checked) own started (by kernel_rfl) Try.func3
    (ChangeSpec.witness6 (enc := enc) (C := Try.checked) false ⟨#[], #[.slice none 0 0, .int .i64 0, .int .i64 0, .slice none 0 0, .int .u64 0], []⟩ 8 (by kernel_rfl) (by kernel_rfl) (by kernel_rfl) (by kernel_rfl)) ?_
  intro W base args ds gs before hval hW _ hz _
  obtain ⟨p, q, hA, hV, rfl, hfz, hnd⟩ := id hW
  obtain ⟨rfl, rfl⟩ := trodVars_none hV
  simp only [List.append_nil] at hz
  have hz2 : (DataW.weightsEach Try.prog Try.f3.params.toList ds).all (· ≤ reachBytes) = true := hz
  exact Law.ending (C := Try.checked) (s := Rows.tableMakesSpec) laid pars rfl Try.underlying4 rfl (fnOf H) hW (calls H enc W base args ds p hval hA hz2)
theorem over : Rows.tableMakesRow.holds Try.pinned (OpenSpec.ofChange Rows.tableMakesSpec) :=
  OpenClaim.holds_of_wide 3 Try.f3 rfl rfl rfl rfl rfl rfl rfl ⟨rfl, rfl, rfl, rfl, rfl⟩ rfl rfl rfl rfl rfl (by kernel_rfl) Try.func3 (by kernel_rfl)
    (of_decide_eq_true (by kernel_rfl)) (by unfold Func.isWrapper; first | (rw [if_pos (by decide +kernel)]; kernel_rfl) | (rw [if_neg (by decide +kernel)]; exact ⟨rfl, rfl⟩))
    (fun os started H enc _ => lifted os started H enc)
theorem proved : Rows.TableMakesSaid := over
end Go.Proofs.Ytahhgeecikljdaa.tableMakes
