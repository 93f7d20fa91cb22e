/-
  Package locks: what LocksApart takes of the program: PlayOut, and the errors lie in a new block.
-/
import Derived.Test.YtdkgclgccicbeaaLkMem
namespace Go.Proofs.Ytdkgclgccicbeaa.Lk
set_option linter.unusedVariables false
open Go.RowKit Mem Gt

def PlayOutN (es : List Int) (n : Nat) (ls : List Lc) (kl : Nat) (W : World) (e : Ending) (W' : World) : Prop :=
  ∃ A c B d, e = .returned (.tuple #[.slice A n c, .slice B kl d]) ∧ (n ≤ c ∧ c ≤ 9223372036854775807) ∧ (kl ≤ d ∧ d ≤ 9223372036854775807) ∧ Reads W' A (ints es) ∧ LNew W.heap.size W' B kl d ls ∧ Below W.heap.size W W' ∧ ∀ a, A = some a → W.heap.size ≤ a.block
def PlaySpecN : Prop := ∀ (A : Option Addr) (l : List LO) (n ca : Nat) (V : World) (es : List Int) (ls : List Lc) (kl : Nat), l.length = n → n ≤ 4194304 → Reads V A (flat loE l) → FitOs l →
  errs l = es → locks l = ls → ls.length = kl → Calls Try.prog 8 #[.slice A n ca] V (PlayOutN es n ls kl V)
theorem PlaySpecN.old (h : PlaySpecN) : PlaySpec := fun A l n ca V es ls kl h1 h2 h3 h4 h5 h6 h7 => (h A l n ca V es ls kl h1 h2 h3 h4 h5 h6 h7).mono fun e W' k => by
  obtain ⟨A, c, B, d, h1, h2, h3, h4, h5, h6, _⟩ := k
  exact ⟨A, c, B, d, h1, h2, h3, h4, h5, h6⟩
end Go.Proofs.Ytdkgclgccicbeaa.Lk
