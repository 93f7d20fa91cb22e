/-
  Package locks: what the laws take of the program, of the landed text.
-/
import Derived.Test.YtdkgclgccicbeaaLkPl
namespace Go.Proofs.Ytdkgclgccicbeaa.Lk
set_option linter.unusedVariables false

theorem playSpecN : PlaySpecN := fun A l n ca V es ls kl hn hbig hx hf hes hls hkl => LkP.play_c A l n ca V es ls kl hn hbig hx hf hes hls hkl
theorem playSpec : PlaySpec := playSpecN.old
end Go.Proofs.Ytdkgclgccicbeaa.Lk
