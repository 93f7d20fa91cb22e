/-
  Any so many rows are enough: what taking out and changing places does to the pieces.
-/
import Derived.Test.YtomhcjnhhdbhjaaWrongPure
namespace Go.Proofs.Ytomhcjnhhdbhjaa.Cdr
set_option linter.unusedVariables false
open Go.RowKit Gf Mem Poly

theorem coded_perm {all : List (List UInt8)} {ps qs : List Pc} (h : Coded all ps) (hp : qs.Perm ps) : Coded all qs :=
  ⟨(hp.map _).nodup_iff.2 h.1, fun p hm => h.2 p (hp.mem_iff.1 hm)⟩
theorem coded_sub {all : List (List UInt8)} {ps qs : List Pc} (h : Coded all ps) (hs : qs.Sublist ps) : Coded all qs :=
  ⟨h.1.sublist (hs.map _), fun p hm => h.2 p (hs.subset hm)⟩
/-- Piece k is taken out. -/
def without (ps : List Pc) (k : Nat) : List Pc := ps.take k ++ ps.drop (k + 1)
theorem without_len {ps : List Pc} {k : Nat} (h : k < ps.length) : (without ps k).length = ps.length - 1 := by
  unfold without; rw [List.length_append, Poly.take_len (by omega), List.length_drop]; omega
theorem without_coded {all : List (List UInt8)} {ps : List Pc} (k : Nat) (h : Coded all ps) : Coded all (without ps k) := by
  refine coded_sub h ?_
  unfold without
  rw [← List.eraseIdx_eq_take_drop_succ]
  exact List.eraseIdx_sublist _ _
/-- Pieces 0 and k change places. -/
def swapped (ps : List Pc) (k : Nat) (p q : Pc) : List Pc := (ps.set 0 q).set k p
theorem swapped_len (ps : List Pc) (k : Nat) (p q : Pc) : (swapped ps k p q).length = ps.length := by simp [swapped]
theorem swapped_coded {all : List (List UInt8)} {ps : List Pc} {k : Nat} {p q : Pc} (h : Coded all ps) (hp : ps[0]? = some p) (hq : ps[k]? = some q) : Coded all (swapped ps k p q) := by
  obtain ⟨h0, rfl⟩ := List.getElem?_eq_some_iff.1 hp
  obtain ⟨hk, rfl⟩ := List.getElem?_eq_some_iff.1 hq
  exact coded_perm h (List.set_set_perm h0 hk)
theorem swapped_at {ps : List Pc} {k j : Nat} {p q : Pc} (hk : k < ps.length) (h0 : 0 < ps.length) : (swapped ps k p q)[j]? = if j = k then some p else if j = 0 then some q else ps[j]? := by
  unfold swapped
  by_cases e : j = k
  · subst e
    rw [List.getElem?_set_self (by simpa using hk), if_pos rfl]
  · rw [List.getElem?_set_ne (fun h => e h.symm), if_neg e]
    by_cases e0 : j = 0
    · subst e0
      rw [List.getElem?_set_self h0, if_pos rfl]
    · rw [List.getElem?_set_ne (fun h => e0 h.symm), if_neg e0]
theorem without_at {ps : List Pc} {k j : Nat} (hk : k < ps.length) : (without ps k)[j]? = if j < k then ps[j]? else ps[j + 1]? := by
  unfold without
  rw [← List.eraseIdx_eq_take_drop_succ, List.getElem?_eraseIdx]
end Go.Proofs.Ytomhcjnhhdbhjaa.Cdr
