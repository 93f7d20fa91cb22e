/-
  The contract of gf.Dot.
-/
import Derived.Test.YtbnkeidhhllepaaGfAlive
import Derived.Test.YtbnkeidhhllepaaMem
namespace Go.Proofs.Ytbnkeidhhllepaa.Gf
set_option linter.unusedVariables false
open Go.RowKit Mem

def dot (xs ys : List UInt8) : UInt8 := (List.zipWith mul xs ys).foldl add 0
theorem dot_nil : dot [] [] = 0 := rfl
theorem dot_snoc {xs ys : List UInt8} {x y : UInt8} (h : xs.length = ys.length) : dot (xs ++ [x]) (ys ++ [y]) = add (dot xs ys) (mul x y) := by
  unfold dot; rw [List.zipWith_append h, List.foldl_append]; rfl
def dotTo (xs ys : List UInt8) (k : Nat) : UInt8 := dot (xs.take k) (ys.take k)
theorem dotTo_zero (xs ys : List UInt8) : dotTo xs ys 0 = 0 := rfl
theorem take_snoc {α : Type} {l : List α} {k : Nat} {x : α} (h : l[k]? = some x) : l.take (k + 1) = l.take k ++ [x] := by
  rw [List.take_add_one, h]; rfl
theorem dotTo_succ {xs ys : List UInt8} {k : Nat} {x y : UInt8} (hx : xs[k]? = some x) (hy : ys[k]? = some y) : dotTo xs ys (k + 1) = add (dotTo xs ys k) (mul x y) := by
  have h1 := (List.getElem?_eq_some_iff.1 hx).1
  have h2 := (List.getElem?_eq_some_iff.1 hy).1
  unfold dotTo
  rw [take_snoc hx, take_snoc hy, dot_snoc]
  rw [List.length_take, List.length_take]; omega
theorem dotTo_all (xs ys : List UInt8) (h : xs.length = ys.length) : dotTo xs ys xs.length = dot xs ys := by
  unfold dotTo; rw [List.take_of_length_le (Nat.le_refl _), List.take_of_length_le (Nat.le_of_eq h.symm)]

theorem quiet_left {P : Program} {f : FuncId} {args : Array Value} {w : World} {n : Nat} {v : Value}
    (h : Calls P f args (w.drewN n) fun e w' => e = .returned v ∧ w.drewN n = w') : Calls P f args (w.drewN n) fun e w'' => e = .returned v ∧ ∃ m, w'' = w.drewN m :=
  h.mono fun _ _ ⟨he, hm⟩ => ⟨he, n, hm.symm⟩

theorem dot_bad (A B : Option Addr) (n m ca cb : Nat) (h : n ≠ m) (hn : n ≤ maxLen) (hm : m ≤ maxLen) (W : World) :
    Calls Try.prog 12 #[.slice A n ca, .slice B m cb] W fun e W' => e = .returned (.tuple #[.int .u8 0, .int .i64 1]) ∧ W = W' := by
  unfold maxLen at hn hm
  have h1 : ((n : Int) == (m : Int)) = false := by rw [beq_eq_false_iff_ne]; omega
  have h2 : ¬ n = m := h
  go_enter Try.func12, Try.ntmps12
  go_wp2
  go_ret2
  exact ⟨rfl, rfl⟩

def Dots (xs ys : List UInt8) (W : World) (e : Ending) (W' : World) : Prop := e = .returned (.tuple #[.int .u8 (dot xs ys).toNat, .int .i64 0]) ∧ Drawn W W'
attribute [local go_sem] add8
set_option maxHeartbeats 2000000 in
theorem dot_c (A B : Option Addr) (xs ys : List UInt8) (ca cb : Nat) (h : xs.length = ys.length) (hn : xs.length ≤ maxLen) (W : World) (hx : Reads W A (xs.map byt)) (hy : Reads W B (ys.map byt)) :
    Calls Try.prog 12 #[.slice A xs.length ca, .slice B xs.length cb] W (Dots xs ys W) := by
  unfold maxLen at hn
  have HX := Lib.hid hx
  have HY := Lib.hid hy
  have H := Lib.hid h
  clear hx hy h
  generalize hN : xs.length = n at *
  have HN := Lib.hid hN
  clear hN
  go_enter Try.func12, Try.ntmps12
  go_wp2
  go_loopw [6, 15] (fun s i wr => ∃ k : Nat, k ≤ n ∧ s = .int .u8 (dotTo xs ys k).toNat ∧ i = .int .i64 k ∧ Drawn W wr) (fun _ i _ => n - (intOf i).toNat)
  case atStart => exact ⟨0, by omega, rfl, rfl, Drawn.refl _⟩
  case round =>
    obtain ⟨k, hk, rfl, rfl, hd⟩ := hrel
    have HD := Lib.hid hd
    by_cases hlt : k < n
    · obtain ⟨b, o, x, rfl, ex, cx⟩ := (HX.out.drawn hd).bytes (k := k) (by rw [HN.out]; exact hlt)
      obtain ⟨b2, o2, y, rfl, ey, cy⟩ := (HY.out.drawn hd).bytes (k := k) (by rw [← H.out]; exact hlt)
      have ED := Lib.hid (dotTo_succ ex ey)
      clear ex ey hd
      have i1 : (k : Int) < (n : Int) := by omega
      go_wp2
      go_quiet ((go_at_call 13; exact quiet_left (mul_c _ _ _)))
      go_wp2
      go_roundw
      case rel => exact ⟨k + 1, by omega, by rw [ED.out], by go_num, HD.out.more _⟩
      case measure => simp [intOf]; omega
    · obtain rfl : k = n := by omega
      clear hd
      go_wp2
      go_ret2
      refine ⟨?_, HD.out⟩
      show Ending.returned (.tuple #[.int .u8 (dotTo xs ys k).toNat, .int .i64 0]) = _
      rw [← HN.out, dotTo_all xs ys (by rw [HN.out]; exact H.out)]
end Go.Proofs.Ytbnkeidhhllepaa.Gf
