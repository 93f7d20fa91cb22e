/-
  Package locks: slices.Sorted(maps.Keys(b)); list.
-/
import Derived.Test.YtdkgclgccicbeaaLkPi
import Derived.Test.YtdkgclgccicbeaaShKeys
import Derived.Shelf.SlIterI.Nil
import Derived.Shelf.SlIterI.Sorted
import Derived.Shelf.SortM.Plain
import Derived.Shelf.SortM.SortNone
namespace Go.Proofs.Ytdkgclgccicbeaa.LkP
set_option linter.unusedVariables false
set_option linter.unusedSimpArgs false
open Go.RowKit Go.Maps Go.Sort Go.Shelf Mem Gt
open Lk hiding ints

def sortK (ks : List Int) : List Int := ks.mergeSort leI
theorem leI_tr : ∀ a b c : Int, leI a b = true → leI b c = true → leI a c = true := fun a b c h1 h2 => by simp only [leI, decide_eq_true_eq] at *; exact Int.le_trans h1 h2
theorem leI_tot : ∀ a b : Int, (leI a b || leI b a) = true := fun a b => by simp only [leI, Bool.or_eq_true, decide_eq_true_eq]; exact Int.le_total a b
theorem sortK_perm (ks : List Int) : (sortK ks).Perm ks := List.mergeSort_perm _ _
theorem sortK_rise {ks : List Int} (h : ks.Nodup) : (sortK ks).Pairwise (· < ·) := by
  have h1 := List.pairwise_mergeSort leI_tr leI_tot ks
  have h2 : (sortK ks).Nodup := (sortK_perm ks).nodup_iff.2 h
  refine List.Pairwise.imp_of_mem (R := fun a b => leI a b = true ∧ a ≠ b) (fun {a b} _ _ hab => ?_) (List.pairwise_and_iff.2 ⟨h1, h2⟩)
  have := hab.1
  simp only [leI, decide_eq_true_eq] at this
  have := hab.2
  omega
theorem sortK_unique {ks ss : List Int} (hp : ss.Perm ks) : ss.mergeSort leI = sortK ks := by
  refine List.Perm.eq_of_pairwise (le := fun a b => leI a b = true) (fun a b _ _ h1 h2 => ?_) (List.pairwise_mergeSort leI_tr leI_tot ss) (List.pairwise_mergeSort leI_tr leI_tot ks) (((List.mergeSort_perm ss leI).trans hp).trans (List.mergeSort_perm ks leI).symm)
  simp only [leI, decide_eq_true_eq] at h1 h2
  exact Int.le_antisymm h1 h2
theorem sortsB (m : Nat) : AnyZI.SortsIn Try.prog Try.sortedB_ren Fence.wide m :=
  ⟨fun blk off cap ss W hH hblk hsz => callsIn_wide.2 (AnyM.slices_Sort_int Try.sortB blk off cap ss W hH hblk hsz),
   fun p cap W => callsIn_wide.2 (AnyM.slices_Sort_int_none Try.sortB p cap W)⟩
theorem keys_c (mb : Option Nat) (W : World) : Calls Try.prog 29 #[.map mb] W (fun e W' => e = .returned (.func (.func 44) #[] #[.pointer (some ⟨W.heap.size, 0, none⟩)]) ∧ W' = W.alloc (.cells #[.map mb] 46)) :=
  (callsIn_wide (n := 5)).1 (AnyZI.keys_in Try.keysB Fence.wide 5 trivial rfl mb W)
theorem sorted_c {M : Nat} {z : Value} {f : Int → Value} {ks : List Int} {w : World} (h : NMap w M z f ks) (hk : ks.Nodup) (hfit : ∀ x ∈ ks, Fit x) (m : Nat) (hm : ks.length = m) (hmb : m ≤ 4194304) :
    Calls Try.prog 28 #[.func (.func 44) #[] #[.pointer (some ⟨w.heap.size, 0, none⟩)]] (w.alloc (.cells #[.map (some M)] 46))
      (fun e W' => ∃ A cap, e = .returned (.slice A m cap) ∧ Reads W' A ((sortK ks).map (Value.int .i64)) ∧ Below w.heap.size w W' ∧ ∀ a, A = some a → w.heap.size ≤ a.block) := by
  obtain ⟨D, nn, h0, h1, h2, hown, h4, h5, h6, h7⟩ := h
  have hbl := hown.lt
  have hperm : ks.Perm (intKeys D) := by
    obtain ⟨es, hD, hpw, _⟩ := hown.entries keyI
    obtain ⟨es', hD', hko⟩ := hown.keysOf
    obtain rfl : es = es' := by rw [hD] at hD'; simpa using hD'
    have hwf := intKeys_wf hown Try.underlying3
    subst hD
    refine perm_intKeys hpw (fun q hq => by obtain ⟨v, hv⟩ := hko q hq; obtain ⟨x, _, hx, _⟩ := Maps.keyOf_i64 Try.underlying3 hv; exact ⟨x, hx⟩) hk (fun x => ?_)
    constructor
    · intro hx
      rw [h5 x (wf_of (hfit x hx))]
      exact decide_eq_true hx
    · intro hx
      have hx' : x ∈ intKeys (.map es) := by
        rw [Maps.has_eq, List.any_eq_true] at hx
        obtain ⟨q, hq, hs⟩ := hx
        obtain ⟨v, hv⟩ := hko q hq
        obtain ⟨y, _, hy, _⟩ := Maps.keyOf_i64 Try.underlying3 hv
        refine List.mem_map.2 ⟨q, hq, ?_⟩
        rw [hy] at hs ⊢
        simpa [Lit.sameKey, Go.intOf] using hs
      have := h5 x (hwf x hx')
      rw [hx] at this
      exact of_decide_eq_true this.symm
  have hseq : SeqGives Fence.wide 2 Try.prog 44 #[.pointer (some ⟨w.heap.size, 0, none⟩)] encZ (fun ss => ss.Perm (intKeys D)) (Maps.size D) (w.alloc (.cells #[.map (some M)] 46)) :=
    AnyZI.keys_gives (ρ := Try.keysB_ren) { Try.keysB with } Fence.wide _ trivial rfl (by omega) w.heap.size M nn D _ (by simp) (by simp) (by
      obtain ⟨es, clock, hb, Ft, hs, hD⟩ := hown
      exact ⟨es, clock, (Below.heap_alloc _ _ M hbl).trans hb, Ft, hs, hD⟩)
  have cS := AnyZI.sorted_in Try.sortedB Fence.wide 5 trivial trivial trivial trivial rfl (by omega) (sortsB _) (enters_of Try.func14 (by kernel_rfl) rfl) 44 #[.pointer (some ⟨w.heap.size, 0, none⟩)] trivial
    (enters_of Try.func44 (by kernel_rfl) rfl) _ _ (by rw [h6]; unfold maxLen; omega) (by rw [h6]; omega) _ hseq
  refine ((callsIn_wide (n := 5)).1 cS).mono ?_
  rintro e w' ⟨v, ss, rfl, hS, hrow, _, hb⟩
  have hz := sortK_unique (hS.trans hperm.symm)
  have hl : (sortK ks).length = m := by rw [← hm]; exact (sortK_perm ks).length_eq
  have hl2 : ss.length = m := by rw [← hl, ← hz, List.length_mergeSort]
  have hT : Tab erE w' (w.alloc (.cells #[.map (some M)] 46)).heap.size 3 v (sortK ks) := by
    unfold Tab
    rw [flat_er, hl, ← hl2]
    rw [show ss.mergeSort (fun x y => decide (x ≤ y)) = sortK ks from hz] at hrow
    exact hrow
  obtain ⟨A, c, rfl, hc, _⟩ := hT.form
  rw [hl] at hc hT ⊢
  refine ⟨A, c, rfl, ?_, (low_lit w _).trans (hb.mono (by simp)), fun a ha => ?_⟩
  · have := hT.reads
    rw [flat_er] at this
    exact this
  · subst ha
    have := (hT.lt a.block rfl).1
    simp at this; omega
theorem wpList_len_n {W : World} {b : Nat} {z : Value} {f : Int → Value} {ks : List Int} {ops : Array Oper} {rest : List Oper} {o : Oper} {a : Act} {Q : Exit → Act → World → Prop} {t e : TypeId} (ht : Try.prog.underlying t = some (.map 3 e))
    (hg : o.guard = none) (m : Operand) (hop : o.op = Op.call { callee := Callee.builtin Builtin.len, args := #[m], argTypes := #[t] }) (hS : NMap W b z f ks) (hm : a.eval m = .map (some b)) (n : Nat) (hn : ks.length = n)
    (h : wpList Try.prog ops Q rest (a.put o.dst (.int .i64 n)) W) : wpList Try.prog ops Q (o :: rest) a W := by
  refine wpList_plain hg fun K' hK' => ?_
  have hrun := hS.len ht o.type n hn
  unfold Oper.wp
  simp [execOp, hop, resolve, invoke, builtin, hm, hrun, Result.andThen]
  exact hK' _ _ h
abbrev tLc : TypeId := 34
theorem make_lk (c : Nat) (hc : c ≤ 4194304) : ∃ cs : Array Value, ∀ w : World, (Instr.makeSlice 24 (.int .i64 0) (.int .i64 (c : Int))).run Try.prog w = .ok (.slice (some ⟨w.heap.size, 0, none⟩) 0 c) (w.alloc (.cells cs 34)) ∧
    ∀ B, B ≤ w.heap.size → Tab l4E (w.alloc (.cells cs 34)) B tLc (.slice (some ⟨w.heap.size, 0, none⟩) 0 c) [] := by
  obtain ⟨i, hi, z, hz0, hz1, hz2, hz3⟩ := elL4.hi
  refine ⟨madeCells z.cells (c * 4), fun w => ⟨?_, fun B hB => ?_⟩⟩
  · have := run_make (P := Try.prog) w 24 34 i z Try.underlying24 hi hz0 .i64 .i64 0 c (by omega) (by omega) (by rw [hz2]; omega) (by omega)
    rw [this, hz1]; rfl
  · exact World.ownsRow_made w _ c hB (by unfold maxLen; omega) (size_madeCells _ _)
end Go.Proofs.Ytdkgclgccicbeaa.LkP
