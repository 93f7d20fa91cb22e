/-
  Rows of digits that a call makes and fills: make, one store, the list behind it.
-/
import Derived.Test.YtahhgeecikljdaaBigWord
namespace Go.Proofs.Ytahhgeecikljdaa.Big
set_option linter.unusedVariables false
open Go.RowKit

def dig (u : UInt32) : Value := .int .u32 u.toNat
def rowOf (l : List UInt32) : Array Value := (l.map dig).toArray
theorem rowOf_get (l : List UInt32) (j : Nat) : (rowOf l)[j]? = (l[j]?).map dig := by simp [rowOf]
theorem rowOf_at {l : List UInt32} {j : Nat} {u : UInt32} (h : l[j]? = some u) : (rowOf l)[j]? = some (.int .u32 u.toNat) := by rw [rowOf_get, h]; rfl
theorem rowOf_set (l : List UInt32) (k : Nat) (u : UInt32) : (rowOf l).setIfInBounds k (.int .u32 u.toNat) = rowOf (l.set k u) := by
  simp [rowOf, dig, List.map_set]
theorem rowOf_size (l : List UInt32) : (rowOf l).size = l.length := by simp [rowOf]

theorem Blk.dig {w : World} {g : Nat} {l : List UInt32} (h : Blk w g 71 (rowOf l)) : Dig w (some ⟨g, 0, none⟩) l :=
  .inr ⟨g, _, rfl, h, fun j u hj => rowOf_at hj⟩
theorem Blk.at_ {w : World} {g : Nat} {l : List UInt32} (h : Blk w g 71 (rowOf l)) {k : Nat} {u : UInt32} (hk : l[k]? = some u) : w.cell? ⟨g, k, none⟩ = some (.int .u32 u.toNat) := by
  rw [Blk.cell h, rowOf_at hk]
theorem Blk.put_ {w : World} {g : Nat} {l : List UInt32} (h : Blk w g 71 (rowOf l)) (k : Nat) (u : UInt32) : Blk (w.setCell ⟨g, k, none⟩ (.int .u32 u.toNat)) g 71 (rowOf (l.set k u)) := by
  rw [← rowOf_set]; exact h.set_ k _

theorem info32 : (Try.prog.info? 71).map (fun i => (i.zero, i.size, i.bytes)) = some (some (.int .u32 0), 1, 4) := by kernel_rfl
theorem made32 (n : Nat) : madeCells #[Value.int .u32 0] n = rowOf (List.replicate n 0) := by
  apply Array.ext_getElem?
  intro i
  rw [rowOf_get]
  by_cases h : i < n
  · simp [madeCells, h, dig, Nat.mod_one]
  · simp [madeCells, h]
theorem make_c (n : Nat) (hn : n ≤ 35184372088832) (w : World) :
    (Instr.makeSlice 60 (.int .i64 n) (.int .i64 n)).run Try.prog w = .ok (.slice (some ⟨w.heap.size, 0, none⟩) n n) (w.alloc (.cells (rowOf (List.replicate n 0)) 71)) := by
  obtain ⟨i, hi, hz0, hz1, hz2⟩ := info_parts info32
  have hb : (i.bytes : Int) * (n : Int) ≤ 281474976710656 := by rw [hz2]; omega
  have hr := run_make (P := Try.prog) w 60 71 i (.int .u32 0) Try.underlying60 hi hz0 .i64 .i64 n n (by omega) (by omega) hb (by omega)
  rw [hr]
  simp only [Int.toNat_natCast, hz1, Nat.mul_one]
  rw [show (Value.int .u32 0).cells = #[Value.int .u32 0] from rfl, made32]

/-- A row that is filled from its head on: the first k of out, noughts behind. -/
def fill (out : List UInt32) (k : Nat) : List UInt32 := out.take k ++ List.replicate (out.length - k) 0
theorem fill_zero (out : List UInt32) : fill out 0 = List.replicate out.length 0 := by simp [fill]
theorem fill_all (out : List UInt32) : fill out out.length = out := by simp [fill]
theorem fill_len (out : List UInt32) {k : Nat} (hk : k ≤ out.length) : (fill out k).length = out.length := by simp [fill]; omega
theorem fill_set {out : List UInt32} {k : Nat} {u : UInt32} (h : out[k]? = some u) : (fill out k).set k u = fill out (k + 1) := by
  have hk : k < out.length := by
    rcases Nat.lt_or_ge k out.length with h1 | h1
    · exact h1
    · rw [List.getElem?_eq_none h1] at h; cases h
  unfold fill
  rw [List.set_append_right _ _ (by simp; omega), List.length_take, Nat.min_eq_left (by omega), Nat.sub_self]
  rw [show out.length - k = (out.length - (k + 1)) + 1 by omega, List.replicate_succ, List.set_cons_zero, List.take_succ_eq_append_getElem hk]
  have hu : out[k] = u := by rw [List.getElem?_eq_getElem hk] at h; injection h
  rw [hu]; simp
theorem fill_at {out : List UInt32} {k : Nat} (hk : k < out.length) : (fill out k)[k]? = some 0 := by
  unfold fill
  rw [List.getElem?_append_right (by simp; omega)]
  simp [List.getElem?_replicate]; omega
theorem fill_set2 {out : List UInt32} {k : Nat} {u v : UInt32} (h : out[k]? = some u) : ((fill out k).set k v).set k u = fill out (k + 1) := by
  rw [List.set_set, fill_set h]
end Go.Proofs.Ytahhgeecikljdaa.Big
