/-
  What the laws on straws take of the program: Some; slices of items cloned, reversed, written to.
-/
import Derived.Test.YtcbecpgllebepaaSwWrong
import Derived.Test.YtcbecpgllebepaaShStraw
import Derived.Test.YtcbecpgllebepaaLaw
import Derived.SizedLaws
import Derived.Sort.Grow
namespace Go.Proofs.Ytcbecpgllebepaa.Straw
set_option linter.unusedVariables false
set_option linter.unusedSimpArgs false
open Go.RowKit Mem
open Go.Sort (grow alloc_eq_grow grow_grow)

def someE (key : UInt64) (l : List It) (many : Int) : Int :=
  if wrongE l ≠ 0 then wrongE l else if many < 0 ∨ 16 < many then 2 else if ((ids key l).length : Int) < many then 8 else 0
def someL (key : UInt64) (l : List It) (many : Int) : List Int := if someE key l many = 0 then (ids key l).take many.toNat else []
/-- Nodes and what is wrong. -/
def NodesErr (l : List Int) (k : Int) (W : World) (e : Ending) (W' : World) : Prop :=
  ∃ A c, e = .returned (.tuple #[.slice A l.length c, .int .i64 k]) ∧ Reads W' A (l.map (Value.int .i64)) ∧ Below W.heap.size W W'
/-- All numbers are a machine's. -/
def Fits (l : List It) : Prop := ∀ a ∈ l, (Lit.int .i64 a.1).wf = true ∧ (Lit.int .i64 a.2).wf = true
def SomeSpec : Prop := ∀ (key : UInt64) (A : Option Addr) (l : List It) (n ca : Nat) (many : Int) (V : World), l.length = n → n ≤ maxLen → n ≤ ca → WRds V A l → Fits l →
  Calls Try.prog 26 #[.int .u64 key.toNat, .slice A n ca, .int .i64 many] V (NodesErr (someL key l many) (someE key l many) V)
theorem someE_vals (key : UInt64) (l : List It) (many : Int) : someE key l many = 0 ∨ someE key l many = 2 ∨ someE key l many = 6 ∨ someE key l many = 8 := by
  unfold someE
  have := wrongE_vals l
  split
  · rcases this with h | h | h
    · exact absurd h (by assumption)
    · exact .inr (.inl h)
    · exact .inr (.inr (.inl h))
  · split
    · exact .inr (.inl rfl)
    · split
      · exact .inr (.inr (.inr rfl))
      · exact .inl rfl
theorem someE_zero {key : UInt64} {l : List It} {many : Int} : someE key l many = 0 ↔ Valid l ∧ (0 ≤ many ∧ many ≤ 16) ∧ many ≤ ((ids key l).length : Int) := by
  unfold someE
  rw [← wrongE_zero]
  by_cases h : wrongE l = 0
  · rw [if_neg (by simpa using h)]
    by_cases h2 : many < 0 ∨ 16 < many
    · rw [if_pos h2]
      constructor
      · intro h; omega
      · intro h; omega
    · rw [if_neg h2]
      by_cases h3 : ((ids key l).length : Int) < many
      · rw [if_pos h3]
        constructor
        · intro h; omega
        · intro h; omega
      · rw [if_neg h3]
        constructor
        · intro _; exact ⟨h, by omega, by omega⟩
        · intro _; rfl
  · rw [if_pos h]
    constructor
    · intro h'; exact absurd h' h
    · intro h'; exact absurd h'.1 h
theorem someL_len (key : UInt64) (l : List It) (many : Int) : (someL key l many).length ≤ 16 := by
  unfold someL
  split
  · rename_i h
    have := someE_zero.1 h
    rw [List.length_take]; omega
  · simp

theorem w_none {W : World} {l : List It} (h : WRds W none l) : l = [] := by
  cases l with
  | nil => rfl
  | cons x l => obtain ⟨b, o, h1, _⟩ := h 0 x rfl; cases h1
theorem wrds_reads {W : World} {A : Option Addr} {l : List It} (h : WRds W A l) : Reads W A (flat l) := fun k v hv => by
  have hk : k / 2 < l.length := by
    have := (List.getElem?_eq_some_iff.1 hv).1
    rw [flat_len] at this; omega
  have e := List.getElem?_eq_getElem hk
  obtain ⟨b, o, h1, h2, h3, h4⟩ := h _ _ e
  obtain ⟨f1, f2⟩ := flat_at e
  refine ⟨b, o, h1, h2, ?_⟩
  have hm : k % 2 = 0 ∨ k % 2 = 1 := by omega
  rcases hm with hm | hm
  · rw [show k = k / 2 * 2 by omega] at hv ⊢
    rw [f1] at hv; rw [← hv]; exact h3
  · rw [show k = k / 2 * 2 + 1 by omega] at hv ⊢
    rw [f2] at hv; rw [← hv, ← Nat.add_assoc]; exact h4
set_option maxRecDepth 100000 in
set_option maxHeartbeats 1000000 in
/-- An empty slice that is not nil. -/
theorem clone_zero (ad : Addr) (c : Nat) (W : World) :
    Calls Try.prog 25 #[.slice (some ad) 0 c] W fun e W' => ∃ A' c', e = .returned (.slice A' 0 c') ∧ WTab W' W.heap.size (.slice A' 0 c') [] ∧ Below W.heap.size W W' := by
  have q22 : ∀ (w : World) (a : Option Addr) (n c n' c' : Nat), (binOp .eql 41 (.slice a n c) (.slice none n' c')).run Try.prog w = .ok (.bool a.isNone) w := fun w a n c n' c' => Go.Lib.run_eql_slice_nil w _ _ a n c n' c' Try.underlying41
  go_enter Try.func25, Try.ntmps25
  go_wp2
  go_ret
  exact ⟨some ⟨W.heap.size, 0, none⟩, 0, rfl, World.ownsRow_made W #[] 0 (Nat.le_refl _) (Nat.zero_le _) (by simp), (Below.refl _ W).alloc (Nat.le_refl _) _⟩
set_option maxRecDepth 100000 in
theorem clone_w (A : Option Addr) (l : List It) (n c : Nat) (W : World) (hn : l.length = n) (hbig : n ≤ 8796093022208) (hx : WRds W A l) :
    Calls Try.prog 25 #[.slice A n c] W fun e W' => ∃ A' c', e = .returned (.slice A' n c') ∧ WTab W' W.heap.size (.slice A' n c') l ∧ n ≤ c' ∧ Below W.heap.size W W' := by
  cases A with
  | none =>
    obtain rfl := w_none hx
    obtain rfl : n = 0 := hn.symm
    refine (AnyE.slices_Clone_nil Try.cloneIt 0 c W).mono ?_
    rintro e w ⟨rfl, rfl⟩
    exact ⟨none, 0, rfl, WTab.nil _ _, by omega, Below.refl _ _⟩
  | some a =>
    obtain ⟨i, hi, z, hz0, hz1, hz2, hz3⟩ := info_it
    rcases Nat.eq_zero_or_pos n with h0 | h0
    · subst h0
      obtain rfl := List.eq_nil_of_length_eq_zero hn
      refine (clone_zero a c W).mono ?_
      rintro e w ⟨A', c', rfl, hT, hb⟩
      exact ⟨A', c', rfl, hT, by omega, hb⟩
    obtain ⟨b, o, spot⟩ := a
    have hgo : ∀ (b o : Nat), (some (⟨b, o, none⟩ : Addr) = some ⟨b, o, none⟩) → WRds W (some ⟨b, o, none⟩) l → Calls Try.prog 25 #[.slice (some ⟨b, o, none⟩) n c] W fun e W' => ∃ A' c', e = .returned (.slice A' n c') ∧ WTab W' W.heap.size (.slice A' n c') l ∧ n ≤ c' ∧ Below W.heap.size W W' := fun b o _ hx => by
      refine (AnyE.slices_Clone Try.cloneIt i z 2 16 hi hz0 hz1 hz2 hz3 (by omega) Try.sizeOf47 b o n c (flat l) W (by rw [flat_len, hn]) (by unfold maxLen; omega) (by omega) (fun j u hj => ?_) (flat_one l)).mono ?_
      · obtain ⟨b', o', e, _, h3⟩ := wrds_reads hx j u hj
        injection e with e
        injection e with e1 e2
        subst e1 e2
        exact h3
      · rintro e w ⟨v, rfl, hr, _, hb⟩
        have hT : WTab w W.heap.size v l := by unfold WTab; rw [hn]; exact hr
        obtain ⟨A', c', hv, hc, _⟩ := hT.form
        rw [hn] at hv hc
        subst hv
        exact ⟨A', c', rfl, hT, hc, hb⟩
    cases spot with
    | none => exact hgo b o rfl hx
    | some s =>
      obtain ⟨b', o', e, _⟩ := hx 0 l[0] (List.getElem?_eq_getElem (by omega))
      cases e
end Go.Proofs.Ytcbecpgllebepaa.Straw
