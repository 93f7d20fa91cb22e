/-
  RingFinds: for every ring, every key and every number of nodes, the law RingFinds answers true (Find and Some return what the document says), and its arguments read afterwards as before. No condition.
-/
import Derived.Test.YtpnfcjodjgbdbaaRgEq
import Derived.Test.YtpnfcjodjgbdbaaRgRef
import Derived.Test.YtpnfcjodjgbdbaaRgSome
namespace Go.Proofs.Ytpnfcjodjgbdbaa.ringFinds
open Go.ChangeShapes Go.WideShapes Go.ChangeAt Go.RowKit
open Mem Ring
set_option linter.unusedVariables false
set_option linter.unusedSimpArgs false

/-- Nodes and what is wrong. -/
def NodesErr (l : List Int) (n : Nat) (k : Int) (W : World) (e : Ending) (W' : World) : Prop :=
  ∃ A c, e = .returned (.tuple #[.slice A n c, .int .i64 k]) ∧ Reads W' A (l.map (Value.int .i64)) ∧ Below W.heap.size W W'
/-- The calls of the law, in every later world. -/
structure Calls4 (W : World) (A : Option Addr) (n ca : Nat) (key : UInt64) (many a e f : Int) (bl all : List Int) (m : Nat) : Prop where
  h1 : ∀ V, Below W.heap.size W V → Calls Try.prog 15 #[.slice A n ca, .int .u64 key.toNat] V (Gave (.tuple #[.int .i64 a, .int .i64 e]) V)
  h2 : ∀ V, Below W.heap.size W V → Calls Try.prog 16 #[.slice A n ca, .int .u64 key.toNat, .int .i64 many] V (NodesErr bl m f V)
  h3 : ∀ V, Below W.heap.size W V → Calls Try.prog 14 #[.slice A n ca] V (Gave (.bool true) V)
  h4 : ∀ V, Below W.heap.size W V → Calls Try.prog 17 #[.slice A n ca, .int .u64 key.toNat] V (ZsOut all V)
theorem first_cell {W : World} {A : Option Addr} {all : List Int} {a : Int} (hr : Reads W A (all.map (Value.int .i64))) (ha : all[0]? = some a) : ∃ b o, A = some ⟨b, o, none⟩ ∧ W.cell? ⟨b, o, none⟩ = some (.int .i64 a) := by
  obtain ⟨b, o, h1, _, h2⟩ := hr 0 (.int .i64 a) (by rw [List.getElem?_map, ha]; rfl)
  exact ⟨b, o, h1, h2⟩
theorem bad (A : Option Addr) (n ca : Nat) (key : UInt64) (many : Int) (W : World)
    (h1 : ∀ V, Below W.heap.size W V → Calls Try.prog 15 #[.slice A n ca, .int .u64 key.toNat] V (Gave (.tuple #[.int .i64 0, .int .i64 1]) V))
    (h2 : ∀ V, Below W.heap.size W V → Calls Try.prog 16 #[.slice A n ca, .int .u64 key.toNat, .int .i64 many] V (Gave (.tuple #[.slice none 0 0, .int .i64 1]) V))
    (h3 : ∀ V, Below W.heap.size W V → Calls Try.prog 14 #[.slice A n ca] V (Gave (.bool false) V)) :
    Calls Try.prog 4 #[.slice A n ca, .int .u64 key.toNat, .int .i64 many] W (Law.Yes W) := by
  have H1 := Lib.hid h1
  have H2 := Lib.hid h2
  have H3 := Lib.hid h3
  clear h1 h2 h3
  go_enter Try.func4, Try.ntmps4
  go_wp2_with fail
  refine (H1.out _ (Below.refl _ _)).mono ?_
  rintro e w1 ⟨rfl, hb⟩
  have B1 := Lib.hid hb
  clear hb
  go_wp2_with fail
  refine (H2.out _ B1.out).mono ?_
  rintro e w2 ⟨rfl, hb⟩
  have B2 := Lib.hid (B1.out.trans (hb.mono B1.out.size))
  clear hb B1
  go_wp2_with fail
  refine (H3.out _ B2.out).mono ?_
  rintro e w3 ⟨rfl, hb⟩
  have B3 := Lib.hid (B2.out.trans (hb.mono B2.out.size))
  clear hb B2
  go_wp2
  go_ret
  exact ⟨rfl, B3.out⟩
set_option maxRecDepth 100000 in
set_option maxHeartbeats 4000000 in
theorem none_neg (A : Option Addr) (n ca : Nat) (key : UInt64) (many : Int) (W : World) (s1 : many < 0)
    (h : Calls4 W A n ca key many 0 3 2 [] [] 0) :
    Calls Try.prog 4 #[.slice A n ca, .int .u64 key.toNat, .int .i64 many] W (Law.Yes W) := by
  have q1 : decide (many < 0) = true := decide_eq_true s1
  have H := Lib.hid h
  clear h
  go_enter Try.func4, Try.ntmps4
  go_wp2_with fail
  refine (H.out.h1 _ (Below.refl _ _)).mono ?_
  rintro e w1 ⟨rfl, hb⟩
  have B1 := Lib.hid hb
  clear hb
  go_wp2_with fail
  refine (H.out.h2 _ B1.out).mono ?_
  rintro e w2 ⟨A2, c2, rfl, hr2, hb⟩
  have B2 := Lib.hid (B1.out.trans (hb.mono B1.out.size))
  have R2 := Lib.hid hr2
  clear hb hr2 B1
  go_wp2_with fail
  refine (H.out.h3 _ B2.out).mono ?_
  rintro e w3 ⟨rfl, hb⟩
  have B3 := Lib.hid (B2.out.trans (hb.mono B2.out.size))
  have R3 := Lib.hid (R2.out.below hb)
  clear hb R2 B2
  go_wp2_with fail
  refine (H.out.h4 _ B3.out).mono ?_
  rintro e w4 ⟨A4, c4, rfl, hz, hb⟩
  have B4 := Lib.hid (B3.out.trans (hb.mono B3.out.size))
  have R4 := Lib.hid (R3.out.below hb)
  obtain ⟨_, _, e4, l4, _⟩ := hz.form
  injection e4 with e5 e6 e7
  have Z4 := Lib.hid hz.reads
  clear hb hz B3 R3 e5 e6 e7 l4
  go_wp2
  go_ret
  exact ⟨rfl, B4.out⟩
set_option maxRecDepth 100000 in
set_option maxHeartbeats 4000000 in
theorem none_big (A : Option Addr) (n ca : Nat) (key : UInt64) (many : Int) (W : World) (s1 : 16 < many)
    (h : Calls4 W A n ca key many 0 3 2 [] [] 0) :
    Calls Try.prog 4 #[.slice A n ca, .int .u64 key.toNat, .int .i64 many] W (Law.Yes W) := by
  have q1 : decide (many < 0) = false := by rw [decide_eq_false_iff_not]; omega
  have q2 : decide ((16 : Int) < many) = true := decide_eq_true s1
  have H := Lib.hid h
  clear h
  go_enter Try.func4, Try.ntmps4
  go_wp2_with fail
  refine (H.out.h1 _ (Below.refl _ _)).mono ?_
  rintro e w1 ⟨rfl, hb⟩
  have B1 := Lib.hid hb
  clear hb
  go_wp2_with fail
  refine (H.out.h2 _ B1.out).mono ?_
  rintro e w2 ⟨A2, c2, rfl, hr2, hb⟩
  have B2 := Lib.hid (B1.out.trans (hb.mono B1.out.size))
  have R2 := Lib.hid hr2
  clear hb hr2 B1
  go_wp2_with fail
  refine (H.out.h3 _ B2.out).mono ?_
  rintro e w3 ⟨rfl, hb⟩
  have B3 := Lib.hid (B2.out.trans (hb.mono B2.out.size))
  have R3 := Lib.hid (R2.out.below hb)
  clear hb R2 B2
  go_wp2_with fail
  refine (H.out.h4 _ B3.out).mono ?_
  rintro e w4 ⟨A4, c4, rfl, hz, hb⟩
  have B4 := Lib.hid (B3.out.trans (hb.mono B3.out.size))
  have R4 := Lib.hid (R3.out.below hb)
  obtain ⟨_, _, e4, l4, _⟩ := hz.form
  injection e4 with e5 e6 e7
  have Z4 := Lib.hid hz.reads
  clear hb hz B3 R3 e5 e6 e7 l4
  go_wp2
  go_ret
  exact ⟨rfl, B4.out⟩
set_option maxRecDepth 100000 in
set_option maxHeartbeats 4000000 in
theorem none_short (A : Option Addr) (n ca : Nat) (key : UInt64) (k : Nat) (W : World) (s1 : k ≤ 16) (s2 : 0 < k)
    (h : Calls4 W A n ca key (k : Int) 0 3 8 [] [] 0) :
    Calls Try.prog 4 #[.slice A n ca, .int .u64 key.toNat, .int .i64 (k : Int)] W (Law.Yes W) := by
  have q1 : decide ((k : Int) < 0) = false := by rw [decide_eq_false_iff_not]; omega
  have q2 : decide ((16 : Int) < (k : Int)) = false := by rw [decide_eq_false_iff_not]; omega
  have q3 : decide (0 < k) = true := decide_eq_true s2
  have q4 : decide ((0 : Int) < (k : Int)) = true := decide_eq_true (by omega)
  have H := Lib.hid h
  clear h
  go_enter Try.func4, Try.ntmps4
  go_wp2_with fail
  refine (H.out.h1 _ (Below.refl _ _)).mono ?_
  rintro e w1 ⟨rfl, hb⟩
  have B1 := Lib.hid hb
  clear hb
  go_wp2_with fail
  refine (H.out.h2 _ B1.out).mono ?_
  rintro e w2 ⟨A2, c2, rfl, hr2, hb⟩
  have B2 := Lib.hid (B1.out.trans (hb.mono B1.out.size))
  have R2 := Lib.hid hr2
  clear hb hr2 B1
  go_wp2_with fail
  refine (H.out.h3 _ B2.out).mono ?_
  rintro e w3 ⟨rfl, hb⟩
  have B3 := Lib.hid (B2.out.trans (hb.mono B2.out.size))
  have R3 := Lib.hid (R2.out.below hb)
  clear hb R2 B2
  go_wp2_with fail
  refine (H.out.h4 _ B3.out).mono ?_
  rintro e w4 ⟨A4, c4, rfl, hz, hb⟩
  have B4 := Lib.hid (B3.out.trans (hb.mono B3.out.size))
  have R4 := Lib.hid (R3.out.below hb)
  obtain ⟨_, _, e4, l4, _⟩ := hz.form
  injection e4 with e5 e6 e7
  have Z4 := Lib.hid hz.reads
  clear hb hz B3 R3 e5 e6 e7 l4
  go_wp2
  go_ret
  exact ⟨rfl, B4.out⟩
set_option maxRecDepth 100000 in
set_option maxHeartbeats 4000000 in
theorem none_ok (A : Option Addr) (n ca : Nat) (key : UInt64) (k : Nat) (W : World) (s1 : k ≤ 16) (s2 : k ≤ 0)
    (h : Calls4 W A n ca key (k : Int) 0 3 0 ([].take k) [] k) :
    Calls Try.prog 4 #[.slice A n ca, .int .u64 key.toNat, .int .i64 (k : Int)] W (Law.Yes W) := by
  obtain rfl : k = 0 := by omega
  have H := Lib.hid h
  clear h
  go_enter Try.func4, Try.ntmps4
  go_wp2_with fail
  refine (H.out.h1 _ (Below.refl _ _)).mono ?_
  rintro e w1 ⟨rfl, hb⟩
  have B1 := Lib.hid hb
  clear hb
  go_wp2_with fail
  refine (H.out.h2 _ B1.out).mono ?_
  rintro e w2 ⟨A2, c2, rfl, hr2, hb⟩
  have B2 := Lib.hid (B1.out.trans (hb.mono B1.out.size))
  have R2 := Lib.hid hr2
  clear hb hr2 B1
  go_wp2_with fail
  refine (H.out.h3 _ B2.out).mono ?_
  rintro e w3 ⟨rfl, hb⟩
  have B3 := Lib.hid (B2.out.trans (hb.mono B2.out.size))
  have R3 := Lib.hid (R2.out.below hb)
  clear hb R2 B2
  go_wp2_with fail
  refine (H.out.h4 _ B3.out).mono ?_
  rintro e w4 ⟨A4, c4, rfl, hz, hb⟩
  have B4 := Lib.hid (B3.out.trans (hb.mono B3.out.size))
  have R4 := Lib.hid (R3.out.below hb)
  obtain ⟨_, _, e4, l4, _⟩ := hz.form
  injection e4 with e5 e6 e7
  have Z4 := Lib.hid hz.reads
  clear hb hz B3 R3 e5 e6 e7 l4
  have EQ := Lib.hid (equalZ_c A2 A4 [] [] 0 0 c2 c4 w4 rfl rfl (by omega) (by omega) (by simpa using R4.out) Z4.out)
  rw [show decide (([] : List Int) = []) = true from decide_eq_true rfl] at EQ
  go_wp2_with (go_at_call 18; refine EQ.out.mono ?_; rintro e w5 ⟨rfl, hb⟩; have B5 := Lib.hid (B4.out.trans (hb.mono B4.out.size)); clear hb)
  go_ret
  exact ⟨rfl, B5.out⟩
set_option maxRecDepth 100000 in
set_option maxHeartbeats 4000000 in
theorem some_neg (A : Option Addr) (n ca : Nat) (key : UInt64) (many : Int) (W : World) (all : List Int) (p : Nat) (hp : all.length = p) (hpb : p ≤ 400) (hp0 : 0 < p) (a : Int) (ha : all[0]? = some a) (s1 : many < 0)
    (h : Calls4 W A n ca key many a 0 2 [] all 0) :
    Calls Try.prog 4 #[.slice A n ca, .int .u64 key.toNat, .int .i64 many] W (Law.Yes W) := by
  have f0 : ((p : Int) == 0) = false := by simp; omega
  have f4 : ¬ p = 0 := by omega
  have f5 : (0 : Int) < (p : Int) := by omega
  have HP := Lib.hid hp
  have HA := Lib.hid ha
  clear hp ha
  have q1 : decide (many < 0) = true := decide_eq_true s1
  have H := Lib.hid h
  clear h
  go_enter Try.func4, Try.ntmps4
  go_wp2_with fail
  refine (H.out.h1 _ (Below.refl _ _)).mono ?_
  rintro e w1 ⟨rfl, hb⟩
  have B1 := Lib.hid hb
  clear hb
  go_wp2_with fail
  refine (H.out.h2 _ B1.out).mono ?_
  rintro e w2 ⟨A2, c2, rfl, hr2, hb⟩
  have B2 := Lib.hid (B1.out.trans (hb.mono B1.out.size))
  have R2 := Lib.hid hr2
  clear hb hr2 B1
  go_wp2_with fail
  refine (H.out.h3 _ B2.out).mono ?_
  rintro e w3 ⟨rfl, hb⟩
  have B3 := Lib.hid (B2.out.trans (hb.mono B2.out.size))
  have R3 := Lib.hid (R2.out.below hb)
  clear hb R2 B2
  go_wp2_with fail
  refine (H.out.h4 _ B3.out).mono ?_
  rw [show ZsOut all w3 = fun e W2 => ∃ A c, e = .returned (.slice A p c) ∧ ZTab W2 w3.heap.size (.slice A p c) all ∧ Below w3.heap.size w3 W2 by unfold ZsOut; rw [HP.out]]
  rintro e w4 ⟨A4, c4, rfl, hz, hb⟩
  have B4 := Lib.hid (B3.out.trans (hb.mono B3.out.size))
  have R4 := Lib.hid (R3.out.below hb)
  obtain ⟨_, _, e4, l4, _⟩ := hz.form
  injection e4 with e5 e6 e7
  have l5 : p ≤ c4 := by rw [← HP.out]; omega
  have Z4 := Lib.hid hz.reads
  clear hb hz B3 R3 e5 e6 e7 l4
  obtain ⟨b4, o4, rfl, x4⟩ := first_cell Z4.out HA.out
  go_wp2
  go_ret
  exact ⟨rfl, B4.out⟩
set_option maxRecDepth 100000 in
set_option maxHeartbeats 4000000 in
theorem some_big (A : Option Addr) (n ca : Nat) (key : UInt64) (many : Int) (W : World) (all : List Int) (p : Nat) (hp : all.length = p) (hpb : p ≤ 400) (hp0 : 0 < p) (a : Int) (ha : all[0]? = some a) (s1 : 16 < many)
    (h : Calls4 W A n ca key many a 0 2 [] all 0) :
    Calls Try.prog 4 #[.slice A n ca, .int .u64 key.toNat, .int .i64 many] W (Law.Yes W) := by
  have f0 : ((p : Int) == 0) = false := by simp; omega
  have f4 : ¬ p = 0 := by omega
  have f5 : (0 : Int) < (p : Int) := by omega
  have HP := Lib.hid hp
  have HA := Lib.hid ha
  clear hp ha
  have q1 : decide (many < 0) = false := by rw [decide_eq_false_iff_not]; omega
  have q2 : decide ((16 : Int) < many) = true := decide_eq_true s1
  have H := Lib.hid h
  clear h
  go_enter Try.func4, Try.ntmps4
  go_wp2_with fail
  refine (H.out.h1 _ (Below.refl _ _)).mono ?_
  rintro e w1 ⟨rfl, hb⟩
  have B1 := Lib.hid hb
  clear hb
  go_wp2_with fail
  refine (H.out.h2 _ B1.out).mono ?_
  rintro e w2 ⟨A2, c2, rfl, hr2, hb⟩
  have B2 := Lib.hid (B1.out.trans (hb.mono B1.out.size))
  have R2 := Lib.hid hr2
  clear hb hr2 B1
  go_wp2_with fail
  refine (H.out.h3 _ B2.out).mono ?_
  rintro e w3 ⟨rfl, hb⟩
  have B3 := Lib.hid (B2.out.trans (hb.mono B2.out.size))
  have R3 := Lib.hid (R2.out.below hb)
  clear hb R2 B2
  go_wp2_with fail
  refine (H.out.h4 _ B3.out).mono ?_
  rw [show ZsOut all w3 = fun e W2 => ∃ A c, e = .returned (.slice A p c) ∧ ZTab W2 w3.heap.size (.slice A p c) all ∧ Below w3.heap.size w3 W2 by unfold ZsOut; rw [HP.out]]
  rintro e w4 ⟨A4, c4, rfl, hz, hb⟩
  have B4 := Lib.hid (B3.out.trans (hb.mono B3.out.size))
  have R4 := Lib.hid (R3.out.below hb)
  obtain ⟨_, _, e4, l4, _⟩ := hz.form
  injection e4 with e5 e6 e7
  have l5 : p ≤ c4 := by rw [← HP.out]; omega
  have Z4 := Lib.hid hz.reads
  clear hb hz B3 R3 e5 e6 e7 l4
  obtain ⟨b4, o4, rfl, x4⟩ := first_cell Z4.out HA.out
  go_wp2
  go_ret
  exact ⟨rfl, B4.out⟩
set_option maxRecDepth 100000 in
set_option maxHeartbeats 4000000 in
theorem some_short (A : Option Addr) (n ca : Nat) (key : UInt64) (k : Nat) (W : World) (all : List Int) (p : Nat) (hp : all.length = p) (hpb : p ≤ 400) (hp0 : 0 < p) (a : Int) (ha : all[0]? = some a) (s1 : k ≤ 16) (s2 : p < k)
    (h : Calls4 W A n ca key (k : Int) a 0 8 [] all 0) :
    Calls Try.prog 4 #[.slice A n ca, .int .u64 key.toNat, .int .i64 (k : Int)] W (Law.Yes W) := by
  have f0 : ((p : Int) == 0) = false := by simp; omega
  have f4 : ¬ p = 0 := by omega
  have f5 : (0 : Int) < (p : Int) := by omega
  have HP := Lib.hid hp
  have HA := Lib.hid ha
  clear hp ha
  have q1 : decide ((k : Int) < 0) = false := by rw [decide_eq_false_iff_not]; omega
  have q2 : decide ((16 : Int) < (k : Int)) = false := by rw [decide_eq_false_iff_not]; omega
  have q3 : decide (p < k) = true := decide_eq_true s2
  have q4 : decide ((p : Int) < (k : Int)) = true := decide_eq_true (by omega)
  have H := Lib.hid h
  clear h
  go_enter Try.func4, Try.ntmps4
  go_wp2_with fail
  refine (H.out.h1 _ (Below.refl _ _)).mono ?_
  rintro e w1 ⟨rfl, hb⟩
  have B1 := Lib.hid hb
  clear hb
  go_wp2_with fail
  refine (H.out.h2 _ B1.out).mono ?_
  rintro e w2 ⟨A2, c2, rfl, hr2, hb⟩
  have B2 := Lib.hid (B1.out.trans (hb.mono B1.out.size))
  have R2 := Lib.hid hr2
  clear hb hr2 B1
  go_wp2_with fail
  refine (H.out.h3 _ B2.out).mono ?_
  rintro e w3 ⟨rfl, hb⟩
  have B3 := Lib.hid (B2.out.trans (hb.mono B2.out.size))
  have R3 := Lib.hid (R2.out.below hb)
  clear hb R2 B2
  go_wp2_with fail
  refine (H.out.h4 _ B3.out).mono ?_
  rw [show ZsOut all w3 = fun e W2 => ∃ A c, e = .returned (.slice A p c) ∧ ZTab W2 w3.heap.size (.slice A p c) all ∧ Below w3.heap.size w3 W2 by unfold ZsOut; rw [HP.out]]
  rintro e w4 ⟨A4, c4, rfl, hz, hb⟩
  have B4 := Lib.hid (B3.out.trans (hb.mono B3.out.size))
  have R4 := Lib.hid (R3.out.below hb)
  obtain ⟨_, _, e4, l4, _⟩ := hz.form
  injection e4 with e5 e6 e7
  have l5 : p ≤ c4 := by rw [← HP.out]; omega
  have Z4 := Lib.hid hz.reads
  clear hb hz B3 R3 e5 e6 e7 l4
  obtain ⟨b4, o4, rfl, x4⟩ := first_cell Z4.out HA.out
  go_wp2
  go_ret
  exact ⟨rfl, B4.out⟩
set_option maxRecDepth 100000 in
set_option maxHeartbeats 4000000 in
theorem some_ok (A : Option Addr) (n ca : Nat) (key : UInt64) (k : Nat) (W : World) (all : List Int) (p : Nat) (hp : all.length = p) (hpb : p ≤ 400) (hp0 : 0 < p) (a : Int) (ha : all[0]? = some a) (s1 : k ≤ 16) (s2 : k ≤ p)
    (h : Calls4 W A n ca key (k : Int) a 0 0 (all.take k) all k) :
    Calls Try.prog 4 #[.slice A n ca, .int .u64 key.toNat, .int .i64 (k : Int)] W (Law.Yes W) := by
  have f0 : ((p : Int) == 0) = false := by simp; omega
  have f4 : ¬ p = 0 := by omega
  have f5 : (0 : Int) < (p : Int) := by omega
  have HP := Lib.hid hp
  have HA := Lib.hid ha
  clear hp ha
  have TL := Lib.hid (show (all.take k).length = k by rw [List.length_take, HP.out]; omega)
  have q1 : decide ((k : Int) < 0) = false := by rw [decide_eq_false_iff_not]; omega
  have q2 : decide ((16 : Int) < (k : Int)) = false := by rw [decide_eq_false_iff_not]; omega
  have q3 : decide (p < k) = false := by rw [decide_eq_false_iff_not]; omega
  have q4 : decide ((p : Int) < (k : Int)) = false := by rw [decide_eq_false_iff_not]; omega
  have H := Lib.hid h
  clear h
  go_enter Try.func4, Try.ntmps4
  go_wp2_with fail
  refine (H.out.h1 _ (Below.refl _ _)).mono ?_
  rintro e w1 ⟨rfl, hb⟩
  have B1 := Lib.hid hb
  clear hb
  go_wp2_with fail
  refine (H.out.h2 _ B1.out).mono ?_
  rintro e w2 ⟨A2, c2, rfl, hr2, hb⟩
  have B2 := Lib.hid (B1.out.trans (hb.mono B1.out.size))
  have R2 := Lib.hid hr2
  clear hb hr2 B1
  go_wp2_with fail
  refine (H.out.h3 _ B2.out).mono ?_
  rintro e w3 ⟨rfl, hb⟩
  have B3 := Lib.hid (B2.out.trans (hb.mono B2.out.size))
  have R3 := Lib.hid (R2.out.below hb)
  clear hb R2 B2
  go_wp2_with fail
  refine (H.out.h4 _ B3.out).mono ?_
  rw [show ZsOut all w3 = fun e W2 => ∃ A c, e = .returned (.slice A p c) ∧ ZTab W2 w3.heap.size (.slice A p c) all ∧ Below w3.heap.size w3 W2 by unfold ZsOut; rw [HP.out]]
  rintro e w4 ⟨A4, c4, rfl, hz, hb⟩
  have B4 := Lib.hid (B3.out.trans (hb.mono B3.out.size))
  have R4 := Lib.hid (R3.out.below hb)
  obtain ⟨_, _, e4, l4, _⟩ := hz.form
  injection e4 with e5 e6 e7
  have l5 : p ≤ c4 := by rw [← HP.out]; omega
  have Z4 := Lib.hid hz.reads
  clear hb hz B3 R3 e5 e6 e7 l4
  obtain ⟨b4, o4, rfl, x4⟩ := first_cell Z4.out HA.out
  have EQ := Lib.hid (equalZ_c A2 (some ⟨b4, o4, none⟩) (all.take k) (all.take k) k k c2 c4 w4 TL.out TL.out (by omega) (by omega) R4.out (reads_take Z4.out k))
  rw [show decide (all.take k = all.take k) = true from decide_eq_true rfl] at EQ
  go_wp2_with (go_at_call 18; refine EQ.out.mono ?_; rintro e w5 ⟨rfl, hb⟩; have B5 := Lib.hid (B4.out.trans (hb.mono B4.out.size)); clear hb)
  go_ret
  exact ⟨rfl, B5.out⟩
theorem words (A : Option Addr) (ts : List Tk) (n ca : Nat) (key : UInt64) (many : Int) (W : World) (hn : ts.length = n) (hbig : n ≤ maxLen) (hx : TRds W A ts) (hwf : ∀ t ∈ ts, (Lit.int .i64 t.2).wf = true) :
    Calls Try.prog 4 #[.slice A n ca, .int .u64 key.toNat, .int .i64 many] W (Law.Yes W) := by
  have hg : ∀ V, Below W.heap.size W V → Calls Try.prog 14 #[.slice A n ca] V (Gave (.bool (decide (Right ts))) V) := fun V hb => by
    have := gright_c A ts n ca V hn hbig (hx.below hb)
    rwa [rgB_right hn] at this
  by_cases h : Right ts
  · rw [decide_eq_true h] at hg
    have h4 : n ≤ 400 := by rw [← hn]; exact h.1
    have hgs : ∀ V, Below W.heap.size W V → Calls Try.prog 17 #[.slice A n ca, .int .u64 key.toNat] V (ZsOut (met key ts) V) := fun V hb => gsome_c A ts n ca key V hn h4 (hx.below hb) hwf
    have hneg : many < 0 ∨ 16 < many → ∀ V, Below W.heap.size W V → Calls Try.prog 16 #[.slice A n ca, .int .u64 key.toNat, .int .i64 many] V (NodesErr [] 0 2 V) := fun hm V hb =>
      (some_range A ts n ca key many V hn (hx.below hb) h hm).mono fun _ _ ⟨he, hb2⟩ => ⟨none, 0, he, Reads.nil, hb2⟩
    have hshort : ∀ k : Nat, k ≤ 16 → (met key ts).length < k → ∀ V, Below W.heap.size W V → Calls Try.prog 16 #[.slice A n ca, .int .u64 key.toNat, .int .i64 k] V (NodesErr [] 0 8 V) := fun k hk hl V hb =>
      (Ring.some_ok A ts n ca key k V hn (hx.below hb) h hk).mono fun _ _ hs => by
        rcases hs with ⟨h1, _⟩ | ⟨_, he, hb2⟩
        · omega
        · exact ⟨none, 0, he, Reads.nil, hb2⟩
    have hok : ∀ k : Nat, k ≤ 16 → k ≤ (met key ts).length → ∀ V, Below W.heap.size W V → Calls Try.prog 16 #[.slice A n ca, .int .u64 key.toNat, .int .i64 k] V (NodesErr ((met key ts).take k) k 0 V) := fun k hk hl V hb =>
      (Ring.some_ok A ts n ca key k V hn (hx.below hb) h hk).mono fun _ _ hs => by
        rcases hs with ⟨_, A2, c2, he, hz, hb2⟩ | ⟨h1, _⟩
        · exact ⟨A2, c2, he, hz.reads, hb2⟩
        · omega
    have hml : (met key ts).length ≤ 400 := by
      have h1 := nub_len (turn (Mix.one key) ts)
      rw [turn_len (Mix.one key) h.2, hn] at h1
      unfold met; omega
    cases hh : (met key ts)[0]? with
    | none =>
      have h0 : n = 0 := by
        rcases Nat.eq_zero_or_pos ts.length with e | e
        · omega
        · obtain ⟨t, _, h2⟩ := met_head (key := key) h.2 e
          rw [hh] at h2; cases h2
      subst h0
      have hts := List.eq_nil_of_length_eq_zero hn
      subst hts
      have hnil : met key [] = [] := rfl
      rw [hnil] at hgs hshort hok hml
      have hF := fun V (_ : Below W.heap.size W V) => find_none A ca key V
      by_cases m1 : many < 0
      · exact none_neg A 0 ca key many W m1 ⟨hF, hneg (.inl m1), hg, hgs⟩
      · by_cases m2 : 16 < many
        · exact none_big A 0 ca key many W m2 ⟨hF, hneg (.inr m2), hg, hgs⟩
        · obtain ⟨k, rfl⟩ : ∃ k : Nat, many = k := ⟨many.toNat, by omega⟩
          by_cases m3 : 0 < k
          · exact none_short A 0 ca key k W (by omega) m3 ⟨hF, hshort k (by omega) m3, hg, hgs⟩
          · exact none_ok A 0 ca key k W (by omega) (by omega) ⟨hF, hok k (by omega) (by simp; omega), hg, hgs⟩
    | some a =>
      have hp0 : 0 < (met key ts).length := (List.getElem?_eq_some_iff.1 hh).1
      have hF := fun V (hb : Below W.heap.size W V) => find_ok A ts n ca key a V hn (hx.below hb) h hh
      by_cases m1 : many < 0
      · exact some_neg A n ca key many W _ _ rfl hml hp0 a hh m1 ⟨hF, hneg (.inl m1), hg, hgs⟩
      · by_cases m2 : 16 < many
        · exact some_big A n ca key many W _ _ rfl hml hp0 a hh m2 ⟨hF, hneg (.inr m2), hg, hgs⟩
        · obtain ⟨k, rfl⟩ : ∃ k : Nat, many = k := ⟨many.toNat, by omega⟩
          by_cases m3 : (met key ts).length < k
          · exact some_short A n ca key k W _ _ rfl hml hp0 a hh (by omega) m3 ⟨hF, hshort k (by omega) m3, hg, hgs⟩
          · exact ringFinds.some_ok A n ca key k W _ _ rfl hml hp0 a hh (by omega) (by omega) ⟨hF, hok k (by omega) (by omega), hg, hgs⟩
  · rw [decide_eq_false h] at hg
    exact bad A n ca key many W (fun V hb => find_bad A ts n ca key V hn hbig (hx.below hb) h) (fun V hb => some_bad A ts n ca key many V hn hbig (hx.below hb) h) hg
set_option maxRecDepth 100000 in
theorem walk {H : Type} {enc : TypeId × Value → H} {base : Nat} {W : World} {v0 : Value} {d0 : DataW H} {p0 : List MemPlace}
    (o0 : Value.okWide Try.prog W .any base 23 v0) (h0 : DataW.Trod enc Try.prog W 0 (fun _ => true) true 23 v0 d0 p0) (a1 : Int) (w1 : (Lit.int .u64 a1).wf = true) (a2 : Int) (w2 : (Lit.int .i64 a2).wf = true) :
    Calls Try.prog 4 #[v0, .int .u64 a1, .int .i64 a2] W (Law.Yes W) := by
  obtain ⟨A, ca, ts, rfl, hl, _, _, hx, hw⟩ := open_tks o0 h0
  obtain ⟨key, rfl⟩ := Words.of_wf64 w1
  exact words A ts _ ca key a2 W rfl hl hx hw
theorem own : ownKnob Try.prog.godebug = none := by kernel_rfl
theorem laid : laidOutB Try.prog = true := by kernel_rfl
theorem pars : ∀ t ∈ Try.f4.params.toList, Try.prog.readableRec t = true ∧ t < Try.prog.types.size := by
  have h : Try.f4.params.toList.all (fun t => Try.prog.readableRec t && decide (t < Try.prog.types.size)) = true := by kernel_rfl
  intro t ht; have := List.all_eq_true.1 h t ht; simpa using this
set_option maxRecDepth 100000 in
theorem calls (H : Type) (enc : TypeId × Value → H) (W : World) (base : Nat) (args : Array Value) (ds : List (DataW H)) (before : List MemPlace)
    (hval : ∀ (j : Nat) t v, Try.f4.params[j]? = some t → args[j]? = some v → Value.okWide Try.prog W .any base t v)
    (hA : DataW.TrodAll enc Try.prog W 0 (fun _ => true) true Try.f4.params.toList args.toList ds before) :
    Calls Try.prog 4 args W (Law.Yes W) := by
  rw [Try.params4] at hA hval
  obtain ⟨v0, vs0, d0, ds0, p0, q0, hargs, rfl, rfl, h0, r0⟩ := trodAll_cons hA
  obtain ⟨v1, vs1, d1, ds1, p1, q1, rfl, rfl, rfl, h1, r1⟩ := trodAll_cons r0
  obtain ⟨v2, vs2, d2, ds2, p2, q2, rfl, rfl, rfl, h2, r2⟩ := trodAll_cons r1
  obtain ⟨rfl, rfl, rfl⟩ := trodAll_nil r2
  obtain rfl : args = #[v0, v1, v2] := by cases args; simp_all
  obtain ⟨a1, rfl, rfl, rfl, w1⟩ := open_int Try.underlying29 (hval 1 29 v1 rfl rfl) h1
  obtain ⟨a2, rfl, rfl, rfl, w2⟩ := open_int Try.underlying3 (hval 2 3 v2 rfl rfl) h2
  exact walk (W := W) (hval 0 23 v0 rfl rfl) h0 a1 w1 a2 w2
theorem fnOf (H : Type) : ∀ ds : List (DataW H), ds.length = Try.f4.params.toList.length → Rows.ringFindsSpec.fn H ds = { results := [.lit (.bool true)], args := ds } := by
  intro ds h
  have h : ds.length = 3 := h
  obtain _ | ⟨x0, ds⟩ := ds
  · simp at h
  obtain _ | ⟨x1, ds⟩ := ds
  · simp at h
  obtain _ | ⟨x2, ds⟩ := ds
  · simp at h
  obtain rfl : ds = [] := List.eq_nil_of_length_eq_zero (by simpa using h)
  rfl
set_option maxRecDepth 100000 in
theorem lifted (os : Os) (started : os.Started) (H : Type) (enc : TypeId × Value → H) :
    ReturnsInHanded {} Try.checked os 4 .any (Rows.ringFindsSpec.pre6 enc Try.prog Try.f4 Rows.ringFindsRow.domain false) (Rows.ringFindsSpec.post enc Try.prog Try.f4 false true false false) := by
  refine returnsInHanded_of_change (C := Try.checked) own started (by kernel_rfl) Try.func4
    (ChangeSpec.witness6 (enc := enc) (C := Try.checked) false ⟨#[], #[.slice none 0 0, .int .u64 0, .int .i64 0], []⟩ 8 (by kernel_rfl) (by kernel_rfl) (by kernel_rfl) (by kernel_rfl)) ?_
  intro W base args ds gs before hval hW _ _
  obtain ⟨p, q, hA, hV, rfl, hfz, hnd⟩ := id hW
  obtain ⟨rfl, rfl⟩ := trodVars_none hV
  exact Law.ending (C := Try.checked) (s := Rows.ringFindsSpec) laid pars rfl Try.underlying4 rfl (fnOf H) hW (calls H enc W base args ds p hval hA)
theorem over : Rows.ringFindsRow.holds Try.pinned (OpenSpec.ofChange Rows.ringFindsSpec) :=
  OpenClaim.holds_of_wide 4 Try.f4 rfl rfl rfl rfl rfl rfl rfl ⟨rfl, rfl, rfl, rfl, rfl⟩ rfl rfl rfl rfl rfl (by kernel_rfl) Try.func4 (by kernel_rfl)
    (of_decide_eq_true (by kernel_rfl)) (by unfold Func.isWrapper; first | (rw [if_pos (by decide +kernel)]; kernel_rfl) | (rw [if_neg (by decide +kernel)]; exact ⟨rfl, rfl⟩))
    (fun os started H enc _ => lifted os started H enc)
theorem proved : Rows.RingFindsSaid := over
end Go.Proofs.Ytpnfcjodjgbdbaa.ringFinds
