/-
  Contracts of package table: firstFree.
-/
import Derived.Test.YtahhgeecikljdaaTbC
import Derived.BigQuiet
namespace Go.Proofs.Ytahhgeecikljdaa.Tb
set_option linter.unusedVariables false
set_option linter.unusedSimpArgs false
open Go.RowKit Mem

/-- The first free position and what comes behind it. -/
def FreeOut (x : Nat) (A : Option Addr) (rest : List Nat) (m : Nat) (W : World) (e : Ending) (W' : World) : Prop :=
  ∃ A' c', e = .returned (.tuple #[.int .i64 (x : Int), .slice A' m c']) ∧ rest.length = m ∧ m ≤ c' ∧ Reads W' A' (rest.map nz) ∧ (∀ a, A' = some a → ∃ a0, A = some a0 ∧ a.block = a0.block) ∧ Below W.heap.size W W'
set_option maxHeartbeats 4000000 in
theorem firstFree_core (b o j n ca x : Nat) (T : Option Addr) (p tc : Nat) (V : World) (hj : j < n) (hb : n ≤ 1000) (hca : n ≤ ca) (c0 : V.cell? ⟨b, o + j, none⟩ = some (.int .i64 (x : Int))) (hlt : b < V.heap.size)
    (I : Hid (Calls Try.prog 43 #[.slice (some ⟨b, o, none⟩) n ca, .func (.func 42) #[] #[.pointer (some ⟨V.heap.size, 0, none⟩)]] (V.alloc (.cells #[.slice T p tc] 49)) fun e w' => e = .returned (.int .i64 (j : Int)) ∧ V.alloc (.cells #[.slice T p tc] 49) = w')) :
    Calls Try.prog 24 #[.slice (some ⟨b, o, none⟩) n ca, .slice T p tc] V fun e w' => ∃ A' c', e = .returned (.tuple #[.int .i64 (x : Int), .slice A' ((n - (j + 1) : Nat)) c']) ∧ n - (j + 1) ≤ c' ∧ (n = j + 1 ∨ A' = some ⟨b, o + (j + 1), none⟩) ∧ (∀ a, A' = some a → a.block = b) ∧ Below V.heap.size V w' := by
  have B0 := Lib.hid ((Below.refl V.heap.size V).alloc (Nat.le_refl _) (.cells #[.slice T p tc] 49))
  have mk := fun fn first cap w => (show (Instr.makeFunc fn first cap).run Try.prog w = .ok (.func fn first cap) w from rfl)
  have i1 : (j : Int) < (n : Int) := by omega
  have c1 := (((Below.refl V.heap.size V).alloc (Nat.le_refl _) (.cells #[.slice T p tc] 49)).cell (p := ⟨b, o + j, none⟩) hlt).trans c0
  have i2 : (0 : Int) ≤ (j : Int) + 1 := by omega
  have i3 : (j : Int) + 1 ≤ (n : Int) := by omega
  have i4 : (j : Int) + 1 ≤ (ca : Int) := by omega
  have i5 : ((j : Int) + 1).toNat = j + 1 := by omega
  have i6 : j + 1 ≤ n := by omega
  have i7 : j + 1 ≤ ca := by omega
  have w1 : IntKind.i64.wrap ((j : Int) + 1) = (j : Int) + 1 := IntWalk.i64_in _ (by omega)
  go_enter Try.func24, Try.ntmps24
  go_wp2_with (go_at_call 43; refine I.out.mono ?_; rintro e w' ⟨rfl, rfl⟩)
  by_cases hc : ca = j + 1
  · have hc1 : (ca = j + 1) = True := by simp [hc]
    have hn1 : n = j + 1 := by omega
    have E := Lib.hid (show n - (j + 1) = 0 by omega)
    have N1 := Lib.hid hn1
    clear hn1
    go_quiet (fail)
    go_wp2
    go_ret2
    exact ⟨some ⟨b, o, none⟩, 0, by rw [E.out]; rfl, by rw [E.out]; exact Nat.le_refl _, .inl N1.out, fun a ha => by injection ha with ha; subst ha; rfl, below_drewN B0.out _⟩
  · have hc1 : (ca = j + 1) = False := by simp [hc]
    go_quiet (fail)
    go_wp2
    go_ret2
    exact ⟨some ⟨b, o + (j + 1), none⟩, ca - (j + 1), rfl, by omega, .inr rfl, fun a ha => by injection ha with ha; subst ha; rfl, below_drewN B0.out _⟩
theorem firstFree_c (A : Option Addr) (pre rest : List Nat) (x n ca : Nat) (T : Option Addr) (bs : List Bool) (p tc : Nat) (V : World) (hn : (pre ++ x :: rest).length = n) (hb : n ≤ 1000) (hca : n ≤ ca)
    (hA : Reads V A ((pre ++ x :: rest).map nz)) (hT : Reads V T (bs.map bz)) (hp : bs.length = p) (hpre : ∀ y ∈ pre, bs[y]? = some true) (hx : bs[x]? = some false) (m : Nat) (hm : rest.length = m) :
    Calls Try.prog 24 #[.slice A n ca, .slice T p tc] V (FreeOut x A rest m V) := by
  obtain ⟨b, o, rfl, hlt, c0⟩ := reads_n hA (k := pre.length) (x := x) (by simp)
  have hj : pre.length < n := by rw [← hn]; simp
  have h0 : Below V.heap.size V (V.alloc (.cells #[.slice T p tc] 49)) := (Below.refl _ _).alloc (Nat.le_refl _) _
  have I := index_c V.heap.size T bs p tc (some ⟨b, o, none⟩) pre rest x n ca _ ((Known.made V 49 #[.slice T p tc]).cell 0) (hT.below h0) hp (hA.below h0) hn hb hpre hx
  have hm2 : n - (pre.length + 1) = m := by rw [← hn, ← hm, List.length_append, List.length_cons]; omega
  refine (firstFree_core b o pre.length n ca x T p tc V hj hb hca c0 hlt I).mono ?_
  rintro e w' ⟨A', c', rfl, h1, h2, h3, h4⟩
  rw [hm2] at h1
  refine ⟨A', c', by rw [hm2], hm, h1, ?_, fun a ha => ⟨_, rfl, h3 a ha⟩, h4⟩
  rcases h2 with h2 | rfl
  · have : rest = [] := List.eq_nil_of_length_eq_zero (by omega)
    subst this; exact Reads.nil
  · have h5 := (Reads.drop hA (pre.length + 1)).below h4
    have e : ((pre ++ x :: rest).map nz).drop (pre.length + 1) = rest.map nz := by
      rw [← List.map_drop, List.drop_append]
      simp
    rwa [e] at h5
end Go.Proofs.Ytahhgeecikljdaa.Tb
