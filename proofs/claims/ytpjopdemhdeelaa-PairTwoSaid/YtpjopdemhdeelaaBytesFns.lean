/-
  bytes.Equal and bytes.IndexByte at slices that are only read.
-/
import Derived.Test.YtpjopdemhdeelaaShelf
import Derived.Test.YtpjopdemhdeelaaRow
import Derived.Lib.IndexLaws
namespace Go.Proofs.Ytpjopdemhdeelaa.Mem
set_option linter.unusedVariables false
open Go.RowKit

def nums (l : List UInt8) : List Int := l.map fun b => (b.toNat : Int)
theorem bytesOf_nums (l : List UInt8) : Lib.bytesOf (nums l) = l := by
  unfold Lib.bytesOf nums
  rw [List.map_map]
  conv => rhs; rw [← List.map_id l]
  exact List.map_congr_left fun b _ => by simp
theorem nums_len (l : List UInt8) : (nums l).length = l.length := by simp [nums]
theorem nums_at (l : List UInt8) {i : Nat} (h : i < l.length) : (nums l).getD i 0 = (l[i].toNat : Int) := by
  unfold nums; rw [List.getD_eq_getElem?_getD, List.getElem?_map, List.getElem?_eq_getElem h]; rfl
theorem Reads.cells {W : World} {b o : Nat} {l : List UInt8} (h : Reads W (some ⟨b, o, none⟩) (l.map byt)) : ∀ i, i < l.length → W.cell? ⟨b, o + i, none⟩ = some (.int .u8 ((nums l).getD i 0)) := fun i hi => by
  obtain ⟨b', o', x, e, hx, hc⟩ := h.bytes hi
  injection e with e
  injection e with e1 e2
  subst e1 e2
  rw [nums_at l hi, hc]
  rw [List.getElem?_eq_getElem hi] at hx
  injection hx with hx
  rw [hx]
theorem Reads.bytesIn {W : World} {A : Option Addr} {l : List UInt8} (h : Reads W A (l.map byt)) : Lib.BytesIn W A l.length (nums l) := fun hn => by
  obtain ⟨b, o, x, rfl, _, _⟩ := h.bytes hn
  exact ⟨b, o, rfl, h.cells⟩

theorem equal_c (A B : Option Addr) (l m : List UInt8) (ca cb : Nat) (W : World) (hl : Reads W A (l.map byt)) (hm : Reads W B (m.map byt)) :
    Calls Try.prog 15 #[.slice A l.length ca, .slice B m.length cb] W fun e W' => e = .returned (.bool (l == m)) ∧ W = W' := by
  have h := Try.bytes_Equal_all A B l.length ca m.length cb (nums l) (nums m) W (nums_len l) (nums_len m) hl.bytesIn hm.bytesIn
  rw [bytesOf_nums, bytesOf_nums] at h
  exact h.mono fun _ _ k => ⟨k.1, k.2.symm⟩
theorem equal_same (A B : Option Addr) (l m : List UInt8) (ca cb : Nat) (W : World) (hl : Reads W A (l.map byt)) (hm : Reads W B (m.map byt)) (e : l = m) :
    Calls Try.prog 15 #[.slice A l.length ca, .slice B m.length cb] W fun e W' => e = .returned (.bool true) ∧ W = W' := by
  have h := equal_c A B l m ca cb W hl hm
  rwa [show (l == m) = true by rw [e]; exact beq_self_eq_true _] at h
theorem index_neg {l : List UInt8} {x : UInt8} (h : x ∉ l) : Lib.indexByte l x < 0 := by
  have h1 := Lib.indexByte_ge l x
  rcases Int.lt_or_le (Lib.indexByte l x) 0 with h2 | h2
  · exact h2
  · obtain ⟨o, ho⟩ : ∃ o : Nat, Lib.indexByte l x = o := ⟨(Lib.indexByte l x).toNat, by omega⟩
    exact absurd (List.mem_of_getElem? (Lib.indexByte_some ho).1) h
theorem index_nonneg {l : List UInt8} {x : UInt8} (h : x ∈ l) : 0 ≤ Lib.indexByte l x := by
  rcases Int.lt_or_le (Lib.indexByte l x) 0 with h2 | h2
  · have h1 := Lib.indexByte_ge l x
    obtain ⟨k, hk, e⟩ := List.mem_iff_getElem.1 h
    exact absurd (by rw [List.getElem?_eq_getElem hk, e]) (Lib.indexByte_none (l := l) (c := x) (by omega) k)
  · exact h2
theorem nodup_take_succ {l : List UInt8} {k : Nat} {x : UInt8} (h : (l.take k).Nodup) (hx : l[k]? = some x) (hn : x ∉ l.take k) : (l.take (k + 1)).Nodup := by
  rw [List.take_add_one, hx]
  show (l.take k ++ [x]).Nodup
  rw [List.nodup_append]
  exact ⟨h, by simp, fun a ha b hb e => by simp at hb; subst hb e; exact hn ha⟩
theorem nodup_not_mem {l : List UInt8} {k : Nat} {x : UInt8} (h : l.Nodup) (hx : l[k]? = some x) : x ∉ l.take k := fun hm => by
  obtain ⟨j, hj, e⟩ := List.mem_iff_getElem.1 hm
  obtain ⟨hk, ek⟩ := List.getElem?_eq_some_iff.1 hx
  rw [List.length_take] at hj
  rw [List.getElem_take] at e
  exact List.pairwise_iff_getElem.1 h j k (by omega) hk (by omega) (e.trans ek.symm)
end Go.Proofs.Ytpjopdemhdeelaa.Mem
