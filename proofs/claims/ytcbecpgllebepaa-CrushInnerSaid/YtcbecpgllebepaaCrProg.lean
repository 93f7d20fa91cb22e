/-
  Package crush's own contracts, over those of package straw.
-/
import Derived.Test.YtcbecpgllebepaaCrC
import Derived.Test.YtcbecpgllebepaaSwFns
namespace Go.Proofs.Ytcbecpgllebepaa.Crush
set_option linter.unusedVariables false
set_option linter.unusedSimpArgs false
open Go.RowKit Mem Straw

theorem chS : ChSpec := fun key A l n ca V hn hv hca hx => by
  refine (choose_c key A l n ca V hn (by have := hv.1; unfold maxLen; omega) hca hx).mono ?_
  rintro e W' ⟨rfl, hb⟩
  refine ⟨chooseE key l, ?_, hb⟩
  have h : chooseV key l = ((ids key l).head?).getD 0 := by unfold chooseV; rw [if_neg (by simpa using wrongE_zero.2 hv)]
  rw [h]
theorem placeS : PlaceSpec := place_of chS some_spec
theorem movedS : MovedSpec := moved_of placeS
end Go.Proofs.Ytcbecpgllebepaa.Crush
