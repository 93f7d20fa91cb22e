/-
  slices.Sorted(maps.Keys(m)) of a set of integers that a call made.
-/
import Derived.Test.YtmnhhfhdaagmhaaLgMem
import Derived.Test.YtmnhhfhdaagmhaaShKeys
import Derived.Shelf.SlIterI.Nil
import Derived.Shelf.SlIterI.Sorted
import Derived.Shelf.SortM.Plain
import Derived.Shelf.SortM.SortNone
namespace Go.Proofs.Ytmnhhfhdaagmhaa.Lg
set_option linter.unusedVariables false
set_option linter.unusedSimpArgs false
open Go.RowKit Go.Maps Go.Sort Go.Shelf Mem Gt
open Jump (Gave equalZ_c)

def intE : Enc Int 1 := ⟨fun z => [.int .i64 z], fun _ => rfl, fun x v hv => by simp at hv; subst hv; rfl⟩
theorem flat_int (l : List Int) : flat intE l = l.map (Value.int .i64) := by
  induction l with
  | nil => rfl
  | cons a l ih => rw [flat_cons, ih]; rfl
theorem sortsB (m : Nat) : AnyZI.SortsIn Try.prog Try.sortedB_ren Fence.wide m :=
  ⟨fun blk off cap ss W hH hblk hsz => callsIn_wide.2 (AnyM.slices_Sort_int Try.sortB blk off cap ss W hH hblk hsz),
   fun p cap W => callsIn_wide.2 (AnyM.slices_Sort_int_none Try.sortB p cap W)⟩
theorem keys_c (mb : Option Nat) (W : World) : Calls Try.prog 22 #[.map mb] W (fun e W' => e = .returned (.func (.func 33) #[] #[.pointer (some ⟨W.heap.size, 0, none⟩)]) ∧ W' = W.alloc (.cells #[.map mb] 41)) :=
  (callsIn_wide (n := 5)).1 (AnyZI.keys_in Try.keysB Fence.wide 5 trivial rfl mb W)
theorem sorted_c {w : World} {b : Nat} {z : Value} {f : Int → Value} {ks : List Int} (h : GMap w b z f ks) (hn : ks.Nodup) (hw : ∀ x ∈ ks, (Lit.int .i64 x).wf = true) (zs : List Int) (hz : zs.Pairwise (· < ·)) (hm : ∀ x, x ∈ zs ↔ x ∈ ks) (m : Nat) (hl : zs.length = m) :
    Calls Try.prog 21 #[.func (.func 33) #[] #[.pointer (some ⟨w.heap.size, 0, none⟩)]] (w.alloc (.cells #[.map (some b)] 41))
      (fun e W' => ∃ A cap, e = .returned (.slice A m cap) ∧ m ≤ cap ∧ Reads W' A (zs.map (Value.int .i64)) ∧ Below w.heap.size w W') := by
  obtain ⟨D, nn, h0, h1, h2, hown, h4, h5, h6, h7⟩ := h
  have hbl := hown.lt
  have hzn : zs.Nodup := hz.imp (fun h e => by omega)
  have hpz : ks.Perm zs := (List.perm_ext_iff_of_nodup hn hzn).2 fun x => (hm x).symm
  have hperm : ks.Perm (intKeys D) := by
    obtain ⟨es, hD, hpw, _⟩ := hown.entries keyI
    obtain ⟨es', hD', hko⟩ := hown.keysOf
    obtain rfl : es = es' := by rw [hD] at hD'; simpa using hD'
    have hwf := intKeys_wf hown Try.underlying3
    subst hD
    refine perm_intKeys hpw (fun q hq => by obtain ⟨v, hv⟩ := hko q hq; obtain ⟨x, _, hx, _⟩ := Maps.keyOf_i64 Try.underlying3 hv; exact ⟨x, hx⟩) hn (fun x => ?_)
    constructor
    · intro hx
      rw [h5 x (hw x hx)]
      exact decide_eq_true hx
    · intro hx
      have hx' : x ∈ intKeys (.map es) := by
        rw [Maps.has_eq, List.any_eq_true] at hx
        obtain ⟨q, hq, hs⟩ := hx
        obtain ⟨v, hv⟩ := hko q hq
        obtain ⟨y, _, hy, _⟩ := Maps.keyOf_i64 Try.underlying3 hv
        refine List.mem_map.2 ⟨q, hq, ?_⟩
        rw [hy] at hs ⊢
        simpa [Lit.sameKey, Go.intOf] using hs
      have := h5 x (hwf x hx')
      rw [hx] at this
      exact of_decide_eq_true this.symm
  have hseq : SeqGives Fence.wide 2 Try.prog 33 #[.pointer (some ⟨w.heap.size, 0, none⟩)] encZ (fun ss => ss.Perm (intKeys D)) (Maps.size D) (w.alloc (.cells #[.map (some b)] 41)) :=
    AnyZI.keys_gives (ρ := Try.keysB_ren) { Try.keysB with } Fence.wide _ trivial rfl (by omega) w.heap.size b nn D _ (by simp) (by simp) (by
      obtain ⟨es, clock, hb, Ft, hs, hD⟩ := hown
      exact ⟨es, clock, (Below.heap_alloc _ _ b hbl).trans hb, Ft, hs, hD⟩)
  have hsz : Maps.size D ≤ 1000000 := by omega
  have cS := AnyZI.sorted_in Try.sortedB Fence.wide 5 trivial trivial trivial trivial rfl (by omega) (sortsB _) (enters_of Try.func32 (by kernel_rfl) rfl) 33 #[.pointer (some ⟨w.heap.size, 0, none⟩)] trivial
    (enters_of Try.func33 (by kernel_rfl) rfl) _ _ (by unfold maxLen; omega) (by omega) _ hseq
  refine ((callsIn_wide (n := 5)).1 cS).mono ?_
  rintro e w' ⟨v, ss, rfl, hS, hrow, _, hb⟩
  have hz2 : ss.mergeSort leI = zs := by
    have tr : ∀ a b c : Int, leI a b = true → leI b c = true → leI a c = true := fun a b c h1 h2 => by simp only [leI, decide_eq_true_eq] at *; exact Int.le_trans h1 h2
    have tot : ∀ a b : Int, (leI a b || leI b a) = true := fun a b => by simp only [leI, Bool.or_eq_true, decide_eq_true_eq]; exact Int.le_total a b
    refine List.Perm.eq_of_pairwise (le := fun a b => leI a b = true) (fun a b _ _ h1 h2 => ?_) (List.pairwise_mergeSort tr tot ss) ?_ ((List.mergeSort_perm ss leI).trans ((hS.trans hperm.symm).trans hpz))
    · simp only [leI, decide_eq_true_eq] at h1 h2
      exact Int.le_antisymm h1 h2
    · exact hz.imp (fun {a b} h => by simp only [leI, decide_eq_true_eq]; omega)
  have hl2 : ss.length = m := by
    have := congrArg List.length hz2
    rw [List.length_mergeSort, hl] at this
    exact this
  have hT : Tab intE w' (w.alloc (.cells #[.map (some b)] 41)).heap.size 3 v zs := by
    unfold Tab
    rw [hl, flat_int, ← hl2]
    rw [show ss.mergeSort (fun x y => decide (x ≤ y)) = zs from hz2] at hrow
    exact hrow
  obtain ⟨A, c, rfl, hc, _⟩ := hT.form
  rw [hl] at hc hT ⊢
  refine ⟨A, c, rfl, hc, ?_, (low_lit w _).trans (hb.mono (by simp))⟩
  have := hT.reads
  rw [flat_int] at this
  exact this
end Go.Proofs.Ytmnhhfhdaagmhaa.Lg
