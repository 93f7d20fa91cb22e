/-
  Package synod: slices.Clone of operations.
-/
import Derived.Test.YtpoielmbdofjlaaSyOneW
import Derived.Test.YtpoielmbdofjlaaGApp
import Derived.Test.YtpoielmbdofjlaaShVo
import Derived.Lib.SliceRun
namespace Go.Proofs.Ytpoielmbdofjlaa.Syn
set_option linter.unusedVariables false
set_option linter.unusedSimpArgs false
open Go.RowKit Mem Gt
open Jump (Gave)

set_option maxRecDepth 100000 in
set_option maxHeartbeats 1000000 in
theorem clone_zero_vo (ad : Addr) (c : Nat) (W : World) :
    Calls Try.prog 15 #[.slice (some ad) 0 c] W fun e W' => ∃ A' c', e = .returned (.slice A' 0 c') ∧ Tab voE W' W.heap.size 37 (.slice A' 0 c') [] ∧ Below W.heap.size W W' := by
  have q22 : ∀ (w : World) (a : Option Addr) (n c n' c' : Nat), (binOp .eql 22 (.slice a n c) (.slice none n' c')).run Try.prog w = .ok (.bool a.isNone) w := fun w a n c n' c' => Go.Lib.run_eql_slice_nil w _ _ a n c n' c' Try.underlying22
  go_enter Try.func15, Try.ntmps15
  go_wp2
  go_ret
  exact ⟨some ⟨W.heap.size, 0, none⟩, 0, rfl, World.ownsRow_made W #[] 0 (Nat.le_refl _) (Nat.zero_le _) (by simp), (Below.refl _ W).alloc (Nat.le_refl _) _⟩
set_option maxRecDepth 100000 in
theorem clone_vo (A : Option Addr) (l : List VO) (n c : Nat) (W : World) (hn : l.length = n) (hbig : n ≤ 4398046511104) (hx : Reads W A (flat voE l)) :
    Calls Try.prog 15 #[.slice A n c] W fun e W' => ∃ A' c', e = .returned (.slice A' n c') ∧ Tab voE W' W.heap.size 37 (.slice A' n c') l ∧ Below W.heap.size W W' := by
  rcases Nat.eq_zero_or_pos n with h0 | h0
  · subst h0
    obtain rfl := List.eq_nil_of_length_eq_zero hn
    cases A with
    | none =>
      refine (AnyE.slices_Clone_nil Try.cloneVo 0 c W).mono ?_
      rintro e w ⟨rfl, rfl⟩
      exact ⟨none, 0, rfl, Tab.nil _ _ _, Below.refl _ _⟩
    | some a => exact clone_zero_vo a c W
  · obtain ⟨i, hi, z, hz0, hz1, hz2, hz3⟩ := elVO.hi
    have kl : 0 < l.length := by omega
    obtain ⟨b, o, rfl, _, _⟩ := vo_at hx (List.getElem?_eq_getElem kl)
    refine (AnyE.slices_Clone Try.cloneVo i z 4 32 hi hz0 hz1 hz2 hz3 (by omega) Try.sizeOf37 b o n c (flat voE l) W (by rw [flat_len, hn]) (by unfold maxLen; omega) (by omega) (fun j u hj => ?_) (flat_one voE l)).mono ?_
    · obtain ⟨b', o', e, _, h3⟩ := hx j u hj
      injection e with e
      injection e with e1 e2
      subst e1 e2
      exact h3
    · rintro e w ⟨v, rfl, hr, _, hb⟩
      have hT : Tab voE w W.heap.size 37 v l := by unfold Tab; rw [hn]; exact hr
      obtain ⟨A', c', hv, hc, _⟩ := hT.form
      rw [hn] at hv
      subst hv
      exact ⟨A', c', rfl, hT, hb⟩
end Go.Proofs.Ytpoielmbdofjlaa.Syn
