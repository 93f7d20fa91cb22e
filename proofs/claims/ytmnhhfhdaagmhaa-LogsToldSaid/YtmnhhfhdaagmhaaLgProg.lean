/-
  Package logs: what the program's functions answer.
-/
import Derived.Test.YtmnhhfhdaagmhaaLgPd
namespace Go.Proofs.Ytmnhhfhdaagmhaa.Lg
set_option linter.unusedVariables false
open Go.RowKit Mem Gt
open Jump (Gave equalZ_c)

theorem rightSpec : RightSpec := fun A l n ca V hn hb hx => right_c A l n ca V hn hb hx
theorem bestSpec : BestSpec := fun A ls n ca V k e hn hb hx hk he => by subst hk he; exact best_c A ls n ca V hn hb hx
theorem stateSpec : StateSpec := state_c
theorem commonSpec : CommonSpec := fun A B a b n m ca cb V k e hn hm h1 h2 hx hy he hk => by
  by_cases h : okL a = true ∧ okL b = true
  · have e0 : lgE a b = 0 := by unfold lgE; rw [if_pos h]
    rw [e0] at he
    subst he
    rw [if_pos rfl] at hk
    subst hk
    exact common_ok A B a b n m ca cb V hn hm h1 h2 hx hy h.1 h.2
  · have e0 : lgE a b = 1 := by unfold lgE; rw [if_neg h]
    rw [e0] at he
    subst he
    rw [if_neg (by decide)] at hk
    subst hk
    exact common_bad A B a b n m ca cb V hn hm h1 h2 hx hy h
theorem mergeSpec : MergeSpec := fun A B a b n m ca cb V lo wr ks nl nk nw e hn hm h1 h2 h3 h4 h5 h6 hx hy fa fb he hlo hks hwr hnl hnk hnw => by
  by_cases h : okL a = true ∧ okL b = true
  · have e0 : lgE a b = 0 := by unfold lgE; rw [if_pos h]
    rw [e0] at he
    subst he
    rw [if_pos rfl] at hlo hks hwr
    subst hlo
    obtain rfl : m = nl := hm.symm.trans hnl
    obtain ⟨k, hk⟩ : ∃ k, com a b = k := ⟨_, rfl⟩
    rw [hk] at hwr
    by_cases hA : ca = k
    · subst hA
      by_cases hB : cb = ca
      · subst hB
        exact pmerge_ee A B a b n m cb V hn hm h1 h2 h5 h6 hx hy fa fb hk h.1 h.2 ks nk nw wr hks hnk hwr hnw
      · exact pmerge_eg A B a b n m cb ca V hn hm h1 h2 h5 h6 hx hy fa fb hk h.1 h.2 hB ks nk nw wr hks hnk hwr hnw
    · by_cases hB : cb = k
      · subst hB
        exact pmerge_ge A B a b n m ca cb V hn hm h1 h2 h5 h6 hx hy fa fb hk h.1 h.2 hA ks nk nw wr hks hnk hwr hnw
      · exact pmerge_gg A B a b n m ca cb k V hn hm h1 h2 h5 h6 hx hy fa fb hk h.1 h.2 hA hB ks nk nw wr hks hnk hwr hnw
  · have e0 : lgE a b = 1 := by unfold lgE; rw [if_neg h]
    rw [e0] at he
    subst he
    rw [if_neg (by decide)] at hlo hks hwr
    subst hlo hks hwr
    obtain rfl : 0 = nl := hnl
    obtain rfl : 0 = nk := hnk
    obtain rfl : 0 = nw := hnw
    exact pmerge_bad A B a b n m ca cb V hn hm (by omega) (by omega) hx hy h
end Go.Proofs.Ytmnhhfhdaagmhaa.Lg
