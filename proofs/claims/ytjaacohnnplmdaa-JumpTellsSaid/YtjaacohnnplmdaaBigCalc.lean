/-
  The contracts of (*Int).Cmp and (*Int).Int64 for numbers that are not below 0; what a step of a reckoning in place keeps.
-/
import Derived.Test.YtjaacohnnplmdaaBigMul
import Derived.Test.YtjaacohnnplmdaaBigAdd
import Derived.Test.YtjaacohnnplmdaaBigCmp
import Derived.Test.YtjaacohnnplmdaaBigSet
import Derived.Test.YtjaacohnnplmdaaBigWord
import Derived.Deep.QuietTactic
import Derived.BigQuiet
namespace Go.Proofs.Ytjaacohnnplmdaa.Big
open Go.RowKit
set_option linter.unusedVariables false

theorem small_len {n : Nat} (h : n < 340282366920938463463374607431768211456) : (digs n).length ≤ 4 := digs_len (k := 4) (by simpa using h)
theorem int64_c (p n : Nat) (W : World) (hp : Num W p n) (hn : n < 9223372036854775808) :
    Calls Try.prog 19 #[.pointer (some ⟨p, 0, none⟩)] W fun e w' => e = .returned (.int .i64 n) ∧ W = w' := by
  obtain ⟨A, cap, c0, c1, hcap, hd⟩ := hp.facts
  have h := uint64_c p n W hp
  rw [Nat.mod_eq_of_lt (by omega)] at h
  have H := Lib.hid h
  have i1 : (n : Int) ≤ 9223372036854775807 := by omega
  clear h hd hcap hp c1
  go_enter Try.func19, Try.ntmps19
  go_wp2_with ((with_reducible refine H.out.mono ?_); rintro e w' ⟨rfl, rfl⟩)
  go_ret
  exact ⟨rfl, rfl⟩
theorem cmp_w (p q n m : Nat) (W : World) (hp : Num W p n) (hq : Num W q m) (hn : (digs n).length ≤ 35184372088832) (hm : (digs m).length ≤ 35184372088832) :
    Calls Try.prog 18 #[.pointer (some ⟨p, 0, none⟩), .pointer (some ⟨q, 0, none⟩)] W fun e w' => e = .returned (.int .i64 (cmpInt n m)) ∧ Below W.heap.size W w' := by
  obtain ⟨A, cap, c0, c1, _, _⟩ := hp.facts
  obtain ⟨B, capB, e0, e1, _, _⟩ := hq.facts
  have H := Lib.hid (fun k => cmp_c p q n m (W.drewN k) hp hq hn hm)
  clear hp hq hn hm c1 e1
  go_enter Try.func18, Try.ntmps18
  go_wp2
  go_quiet (fail)
  go_wp2_with fail
  refine (H.out _).mono ?_
  rintro e w' ⟨rfl, k, rfl⟩
  go_wp2
  go_ret
  exact ⟨rfl, ⟨rfl, rfl, rfl, by simp, fun i hi => by simp⟩⟩
/-- The number n, behind a pointer of the call's own. -/
def At (W0 : World) (p n : Nat) (W : World) : Prop := W0.heap.size ≤ p ∧ Below W0.heap.size W0 W ∧ Num W p n
theorem At.new {W0 W W' : World} {p n m : Nat} {e : Ending} (h : At W0 p n W) (hf : Fresh m W e W') : ∃ q, e = .returned (.pointer (some ⟨q, 0, none⟩)) ∧ At W0 p n W' ∧ Num W' q m := by
  obtain ⟨q, rfl, hq, hb, hn⟩ := hf
  exact ⟨q, rfl, ⟨h.1, h.2.1.trans (hb.mono h.2.1.size), h.2.2.below hb⟩, hn⟩
theorem At.to {W0 W W' : World} {p n m : Nat} {e : Ending} (h : At W0 p n W) (ht : Trimmed p m W e W') : e = .returned (.pointer (some ⟨p, 0, none⟩)) ∧ At W0 p m W' :=
  ⟨ht.1, h.1, h.2.1.trans (below_of_new ht.2.1 h.1 h.2.1.size), ht.2.2⟩
end Go.Proofs.Ytjaacohnnplmdaa.Big
