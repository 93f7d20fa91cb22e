/-
  Package locks: what the law takes of the document's own answer.
-/
import Derived.Test.YtdkgclgccicbeaaLkRef
import Derived.Test.YtdkgclgccicbeaaLkPlaysW
namespace Go.Proofs.Ytdkgclgccicbeaa.Lk
theorem rplaySpec : RPlaySpec := fun A l n ca V es ls kl hl hb hx hf he hs hk => by
  subst he hs
  exact splay_c A l n ca V hl hb hx hf kl hk
end Go.Proofs.Ytdkgclgccicbeaa.Lk
