/-
  Boxes that hold maps and steps, as the laws have them at hand.
-/
import Derived.Test.YtmijjaihedbjgaaMpAlive
import Derived.Test.YtmijjaihedbjgaaMpH
import Derived.Test.YtmijjaihedbjgaaMpI
import Derived.Test.YtmijjaihedbjgaaLaw
namespace Go.Proofs.Ytmijjaihedbjgaa.Mps
set_option linter.unusedVariables false
set_option linter.unusedSimpArgs false
open Go.RowKit Mem

/-- Block g holds a map. -/
def HM (V : World) (g : Nat) (e : Int) (A : Option Addr) (n c : Nat) (l : List Int) : Prop := V.cell? ⟨g, 0, none⟩ = some (.int .i64 e) ∧ V.cell? ⟨g, 1, none⟩ = some (.slice A n c) ∧ Reads V A (ints l)
/-- Block g holds a step. -/
def HS (V : World) (g : Nat) (e : Int) (A : Option Addr) (n c : Nat) (l : List Ch) : Prop := V.cell? ⟨g, 0, none⟩ = some (.int .i64 e) ∧ V.cell? ⟨g, 1, none⟩ = some (.slice A n c) ∧ CRds V A l
section
variable {V U : World} {g : Nat} {e : Int} {A : Option Addr} {n c : Nat}
theorem HM.below {l : List Int} (h : HM V g e A n c l) (hb : Below V.heap.size V U) : HM U g e A n c l :=
  ⟨(hb.cell (World.block_lt_of_cell? _ _ h.1)).trans h.1, (hb.cell (World.block_lt_of_cell? _ _ h.2.1)).trans h.2.1, h.2.2.below hb⟩
theorem HS.below {l : List Ch} (h : HS V g e A n c l) (hb : Below V.heap.size V U) : HS U g e A n c l :=
  ⟨(hb.cell (World.block_lt_of_cell? _ _ h.1)).trans h.1, (hb.cell (World.block_lt_of_cell? _ _ h.2.1)).trans h.2.1, h.2.2.below hb⟩
theorem below_alloc (V : World) (o : Obj) : Below V.heap.size V (V.alloc o) := (Below.refl _ _).alloc (Nat.le_refl _) _
theorem HM.alloc {l : List Int} (h : HM V g e A n c l) (o : Obj) : HM (V.alloc o) g e A n c l := h.below (below_alloc V o)
theorem HS.alloc {l : List Ch} (h : HS V g e A n c l) (o : Obj) : HS (V.alloc o) g e A n c l := h.below (below_alloc V o)
theorem HM.new {l : List Int} (h : Reads V A (ints l)) (hg : g = V.heap.size) : HM (V.alloc (.cells #[.int .i64 e, .slice A n c] 24)) g e A n c l := by
  subst hg; exact ⟨(boxM _ _ _).1, (boxM _ _ _).2, h.alloc _⟩
theorem HS.new {l : List Ch} (h : CRds V A l) (hg : g = V.heap.size) : HS (V.alloc (.cells #[.int .i64 e, .slice A n c] 27)) g e A n c l := by
  subst hg; exact ⟨(boxS _ _ _).1, (boxS _ _ _).2, h.below (below_alloc V _)⟩
theorem SRds.alloc {l : List Sp} (h : SRds V A l) (o : Obj) : SRds (V.alloc o) A l := h.below (below_alloc V o)
theorem alloc2_size (W : World) (o : Obj) : W.heap.size + 1 = (W.alloc o).heap.size := by simp
end
end Go.Proofs.Ytmijjaihedbjgaa.Mps
