/-
  Package quorum, the program: all six functions (Meet, Live: QpA; Majorities: QpB; Least, Dual: QpC; Grid: QpD).
-/
import Derived.Test.YteggbepibfpjcaaQpD
namespace Go.Proofs.Yteggbepibfpjcaa.Qr
theorem program : MajSpec ∧ GridSpec ∧ MeetSpec ∧ LiveSpec ∧ LeastSpec ∧ DualSpec := ⟨majSpec, gridSpec, meetSpec, liveSpec, leastSpec, dualSpec⟩
end Go.Proofs.Yteggbepibfpjcaa.Qr
