/-
  Slices of numbers that a call makes by make.
-/
import Derived.Test.YthebilmeehnkpaaGInts
namespace Go.Proofs.Ythebilmeehnkpaa.Gt
set_option linter.unusedVariables false
set_option linter.unusedSimpArgs false
open Go.RowKit Mem

theorem madeZ (z : Value) (n : Nat) : madeCells #[z] n = Array.replicate n z := by
  apply Array.ext_getElem?
  intro i
  by_cases h : i < n
  · simp [madeCells, h, Nat.mod_one]
  · simp [madeCells, h]
theorem make_ints (n : Nat) (hn : n ≤ 1000) (w : World) :
    (Instr.makeSlice 23 (.int .i64 n) (.int .i64 n)).run Try.prog w = .ok (.slice (some ⟨w.heap.size, 0, none⟩) n n) (w.alloc (.cells (Array.replicate n (.int .i64 0)) 3)) := by
  obtain ⟨i, hi, hz0, hz1, hz2⟩ := info_parts infoI
  have hb : (i.bytes : Int) * (n : Int) ≤ 281474976710656 := by rw [hz2]; omega
  have hr := run_make (P := Try.prog) w 23 3 i (.int .i64 0) Try.underlying23 hi hz0 .i64 .i64 n n (by omega) (by omega) hb (by omega)
  rw [hr]
  simp only [Int.toNat_natCast, hz1, Nat.mul_one]
  rw [show (Value.int .i64 0).cells = #[Value.int .i64 0] from rfl, madeZ]
/-- A block of numbers of the call's own. -/
def IC (W : World) (g : Nat) (l : List Int) : Prop := Known W g 3 (l.map (Value.int .i64)).toArray
section
variable {W V : World} {g : Nat} {l : List Int}
theorem IC.at_ (h : IC W g l) {k : Nat} {x : Int} (hk : l[k]? = some x) : W.cell? ⟨g, k, none⟩ = some (.int .i64 x) := by rw [Known.cell h]; simp [hk]
theorem IC.free (h : IC W g l) (k : Nat) : W.frozen? ⟨g, k, none⟩ = false := Known.free h k
theorem IC.put (h : IC W g l) (k : Nat) (x : Int) : IC (W.setCell ⟨g, k, none⟩ (.int .i64 x)) g (l.set k x) := by
  have := Known.put h k (.int .i64 x)
  unfold IC
  rw [List.map_set]
  simpa using this
theorem IC.drew (h : IC W g l) : IC W.drew g l := h
theorem IC.reads (h : IC W g l) : Reads W (some ⟨g, 0, none⟩) (l.map (Value.int .i64)) := fun k v hv => by
  refine ⟨g, 0, rfl, Known.lt h, ?_⟩
  rw [Nat.zero_add, Known.cell h]; simpa using hv
theorem IC.new (W : World) (n : Nat) : IC (W.alloc (.cells (Array.replicate n (.int .i64 0)) 3)) W.heap.size (List.replicate n 0) := by
  have := Known.made W 3 (Array.replicate n (.int .i64 0))
  unfold IC
  simpa using this
end
end Go.Proofs.Ythebilmeehnkpaa.Gt
