/-
  The document's own answer QJoin, at every two bags.
-/
import Derived.Test.YthebilmeehnkpaaOrRef6
import Derived.Test.YthebilmeehnkpaaOrJoinsW
namespace Go.Proofs.Ythebilmeehnkpaa.Ors
set_option linter.unusedVariables false
set_option linter.unusedSimpArgs false
open Go.RowKit Mem Gt

theorem qjoinSpec : QJoinSpec := fun H S H2 S2 nh ch ns cs nh2 ch2 ns2 cs2 a b V p mh ms e ha hb he hp hmh hms => by
  by_cases h : okB a = true ∧ okB b = true ∧ ns = ns2
  · obtain ⟨h1, h2, rfl⟩ := h
    exact qjoin_ok H S H2 S2 nh ch ns cs nh2 ch2 cs2 a b V ha hb (okB_iff.1 h1) (okB_iff.1 h2) p mh ms e hp he hmh hms
  · have e1 : joinE a b = 1 := by
      unfold joinE
      rw [if_neg (fun h' => h ⟨h'.1, h'.2.1, by rw [← ha.lenS, ← hb.lenS]; exact h'.2.2⟩)]
    obtain rfl : e = 1 := he.symm.trans e1
    obtain rfl : p = ([], []) := by rw [← hp]; unfold joinB; rw [if_neg (by rw [e1]; decide)]
    obtain rfl : 0 = mh := hmh
    obtain rfl : 0 = ms := hms
    exact qjoin_bad H S H2 S2 nh ch ns cs nh2 ch2 ns2 cs2 a b V ha hb h
end Go.Proofs.Ythebilmeehnkpaa.Ors
