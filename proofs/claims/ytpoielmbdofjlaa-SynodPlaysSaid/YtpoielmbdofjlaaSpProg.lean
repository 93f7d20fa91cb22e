/-
  Package synod: what the laws take of the program, of the landed text.
-/
import Derived.Test.YtpoielmbdofjlaaSpG
namespace Go.Proofs.Ytpoielmbdofjlaa.Syn
set_option linter.unusedVariables false
set_option linter.unusedSimpArgs false
open Go.RowKit Mem Gt
open Jump (Gave equalZ_c)

set_option maxRecDepth 100000 in
set_option maxHeartbeats 8000000 in
theorem play_bad (m : Int) (A : Option Addr) (n ca : Nat) (V : World) (h : m < 1 ∨ 16 < m ∨ 400 < n) (hn : n ≤ 4398046511106) :
    Calls Try.prog 8 #[.int .i64 m, .slice A n ca] V (PlayOut [] 0 [] 0 2 V) := by
  have fin : PlayOut [] 0 [] 0 2 V (.returned (.tuple #[.slice none 0 0, .slice none 0 0, .int .i64 2])) V := ⟨none, 0, none, 0, rfl, Nat.le_refl _, Reads.nil, Reads.nil, Below.refl _ _⟩
  by_cases h1 : m < 1
  · go_enter Try.func8, Try.ntmps8
    go_wp2_with fail
    go_ret3
    exact fin
  · by_cases h2 : 16 < m
    · go_enter Try.func8, Try.ntmps8
      go_wp2_with fail
      go_ret3
      exact fin
    · have h3 : (400 : Int) < (n : Int) := by omega
      go_enter Try.func8, Try.ntmps8
      go_wp2_with fail
      go_ret3
      exact fin
theorem playSpec : PlaySpec := by
  intro m A l n ca V al na cs nc k hm hl hn hx hf hk hal hna hcs hnc
  rcases playE_vals m n with ⟨e, h1, h2, h3⟩ | e
  · obtain ⟨q, rfl⟩ : ∃ q : Nat, m = (q : Int) := ⟨m.toNat, by omega⟩
    have e0 : k = 0 := hk.symm.trans e
    subst e0
    have hI := like_run (n := q) (by omega) l S0 P0 (inv0 q) like0 likeA0
    unfold playA at hal
    unfold playC at hcs
    rw [hl, e, if_pos rfl, Int.toNat_natCast] at hal hcs
    have hna' : na = n := by rw [← hna, ← hal, run_len, hl]
    subst hna'
    have := play_ok q A l na ca V (by omega) (by omega) hl (by omega) hx hf cs nc (by rw [pchosen_like (by omega) hI.2.2.2 hI.2.1 hI.2.2.1]; exact hcs) hnc
    rw [hI.1, hal] at this
    exact this
  · have e2 : k = 2 := hk.symm.trans e
    subst e2
    unfold playA at hal
    unfold playC at hcs
    rw [hl, e, if_neg (by decide)] at hal hcs
    subst hal hcs
    subst hna hnc
    refine play_bad m A n ca V ?_ hn
    unfold playE at e
    by_cases h : m < 1 ∨ 16 < m ∨ 400 < n
    · exact h
    · rw [if_neg h] at e; cases e
end Go.Proofs.Ytpoielmbdofjlaa.Syn
