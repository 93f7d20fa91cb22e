/-
  Package synod: slices.Sorted(maps.Keys(c.ballots)); chosen.
-/
import Derived.Test.YtpoielmbdofjlaaSpE
import Derived.Test.YtpoielmbdofjlaaShKeys
import Derived.Shelf.SlIterI.Nil
import Derived.Shelf.SlIterI.Sorted
import Derived.Shelf.SortM.Plain
import Derived.Shelf.SortM.SortNone
namespace Go.Proofs.Ytpoielmbdofjlaa.Syn
set_option linter.unusedVariables false
set_option linter.unusedSimpArgs false
open Go.RowKit Go.Maps Go.Sort Go.Shelf Mem Gt
open Jump (Gave equalZ_c)

def keyN (p : PS) : List Nat := ((List.range 400).filter (fun b => p.seen (b + 1))).map (· + 1)
def chosenL (n : Nat) (p : PS) (k : Nat) : List Int := (((keyN p).take k).filter (fun b => ptest n (p.ab b))).map p.value
theorem keyN_mem {p : PS} {b : Nat} : b ∈ keyN p ↔ 1 ≤ b ∧ b ≤ 400 ∧ p.seen b = true := by
  unfold keyN
  rw [List.mem_map]
  constructor
  · rintro ⟨c, hc, rfl⟩
    rw [List.mem_filter, List.mem_range] at hc
    exact ⟨by omega, by omega, hc.2⟩
  · rintro ⟨h1, h2, h3⟩
    obtain ⟨c, rfl⟩ : ∃ c, b = c + 1 := ⟨b - 1, by omega⟩
    exact ⟨c, List.mem_filter.2 ⟨List.mem_range.2 (by omega), h3⟩, rfl⟩
theorem keyN_sorted (p : PS) : (keyN p).Pairwise (· < ·) := by
  unfold keyN
  exact List.pairwise_map.2 ((List.Pairwise.filter _ List.pairwise_lt_range).imp (fun h => by omega))
theorem keyN_len (p : PS) : (keyN p).length ≤ 400 := by
  unfold keyN
  rw [List.length_map]
  have h := List.length_filter_le (fun b => p.seen (b + 1)) (List.range 400)
  rw [List.length_range] at h
  exact h
theorem chosenL_step {n : Nat} {p : PS} {k b : Nat} (h : (keyN p)[k]? = some b) : chosenL n p (k + 1) = chosenL n p k ++ (if ptest n (p.ab b) = true then [p.value b] else []) := by
  unfold chosenL
  have e : (((some b).toList).filter (fun b => ptest n (p.ab b))).map p.value = (if ptest n (p.ab b) = true then [p.value b] else []) := by
    simp only [Option.toList_some, List.filter_cons, List.filter_nil]
    split <;> rfl
  rw [List.take_add_one, h, List.filter_append, List.map_append, e]
theorem chosen_gen (n : Nat) (p : PS) : ∀ l : List Nat, ((((l.filter (fun b => p.seen (b + 1))).map (· + 1)).filter (fun b => ptest n (p.ab b))).map p.value) = (l.filter (fun b => p.seen (b + 1) && ptest n (p.ab (b + 1)))).map (fun b => p.value (b + 1))
  | [] => rfl
  | a :: l => by
    have ih := chosen_gen n p l
    rw [List.filter_cons, List.filter_cons]
    cases h1 : p.seen (a + 1) with
    | false => simp only [Bool.false_and, Bool.false_eq_true, if_false]; exact ih
    | true =>
      simp only [Bool.true_and, if_true, List.map_cons, List.filter_cons]
      cases h2 : ptest n (p.ab (a + 1)) with
      | false => simp only [Bool.false_eq_true, if_false]; exact ih
      | true => simp only [if_true, List.map_cons]; rw [ih]
theorem chosenL_all (n : Nat) (p : PS) : chosenL n p (keyN p).length = pchosen n p := by
  unfold chosenL pchosen
  rw [List.take_length]
  exact chosen_gen n p (List.range 400)
theorem chosenL_len (n : Nat) (p : PS) (k : Nat) : (chosenL n p k).length ≤ k := by
  unfold chosenL
  rw [List.length_map]
  exact Nat.le_trans (List.length_filter_le _ _) (by rw [List.length_take]; exact Nat.min_le_left _ _)
/-- The keys, sorted. -/
theorem sorted_keys {ks ss : List Int} {p : PS} (hk : KeysOk ks) (hin : ∀ c : Nat, p.seen c = true ↔ (c : Int) ∈ ks) (hp : ss.Perm ks) : ss.mergeSort leI = (keyN p).map (fun b : Nat => (b : Int)) := by
  have hnd : ((keyN p).map (fun b : Nat => (b : Int))).Nodup := List.pairwise_map.2 ((keyN_sorted p).imp (fun {a b} h e => by omega))
  have hpm : ks.Perm ((keyN p).map (fun b : Nat => (b : Int))) := by
    refine (List.perm_ext_iff_of_nodup hk.1 hnd).2 fun x => ?_
    rw [List.mem_map]
    constructor
    · intro hx
      have := hk.2 x hx
      refine ⟨x.toNat, keyN_mem.2 ⟨by omega, by omega, (hin _).2 (by rw [Int.toNat_of_nonneg (by omega)]; exact hx)⟩, by omega⟩
    · rintro ⟨b, hb, rfl⟩
      exact (hin b).1 (keyN_mem.1 hb).2.2
  have tr : ∀ a b c : Int, leI a b = true → leI b c = true → leI a c = true := fun a b c h1 h2 => by simp only [leI, decide_eq_true_eq] at *; exact Int.le_trans h1 h2
  have tot : ∀ a b : Int, (leI a b || leI b a) = true := fun a b => by simp only [leI, Bool.or_eq_true, decide_eq_true_eq]; exact Int.le_total a b
  refine List.Perm.eq_of_pairwise (le := fun a b => leI a b = true) (fun a b _ _ h1 h2 => ?_) (List.pairwise_mergeSort tr tot ss) ?_ (((List.mergeSort_perm ss leI).trans hp).trans hpm)
  · simp only [leI, decide_eq_true_eq] at h1 h2
    exact Int.le_antisymm h1 h2
  · exact List.pairwise_map.2 ((keyN_sorted p).imp (fun {a b} h => by simp only [leI, decide_eq_true_eq]; omega))
/-- slices.Sort's two contracts at this dump, at the fence that asks nothing. -/
theorem sortsB (m : Nat) : AnyZI.SortsIn Try.prog Try.sortedB_ren Fence.wide m :=
  ⟨fun blk off cap ss W hH hblk hsz => callsIn_wide.2 (AnyM.slices_Sort_int Try.sortB blk off cap ss W hH hblk hsz),
   fun p cap W => callsIn_wide.2 (AnyM.slices_Sort_int_none Try.sortB p cap W)⟩
theorem keys_c (mb : Option Nat) (W : World) : Calls Try.prog 24 #[.map mb] W (fun e W' => e = .returned (.func (.func 30) #[] #[.pointer (some ⟨W.heap.size, 0, none⟩)]) ∧ W' = W.alloc (.cells #[.map mb] 45)) :=
  (callsIn_wide (n := 5)).1 (AnyZI.keys_in Try.keysB Fence.wide 5 trivial rfl mb W)
theorem sorted_c {B n : Nat} {p : PS} {g : Nat → Nat} {w : World} (h : Co B n p g w) (m : Nat) (hm : (keyN p).length = m) :
    Calls Try.prog 23 #[.func (.func 30) #[] #[.pointer (some ⟨w.heap.size, 0, none⟩)]] (w.alloc (.cells #[.map (some (B + 1))] 45))
      (fun e W' => ∃ A cap, e = .returned (.slice A m cap) ∧ m ≤ cap ∧ Reads W' A ((keyN p).map (fun b : Nat => Value.int .i64 (b : Int))) ∧ Below w.heap.size w W') := by
  obtain ⟨ks, hk, hin, D, nn, h0, h1, h2, hown, h4, h5, h6, h7⟩ := h.mp
  have hbl := hown.lt
  have hlen := hk.len
  have hperm : ks.Perm (intKeys D) := by
    obtain ⟨es, hD, hpw, _⟩ := hown.entries keyI
    obtain ⟨es', hD', hko⟩ := hown.keysOf
    obtain rfl : es = es' := by rw [hD] at hD'; simpa using hD'
    have hwf := intKeys_wf hown Try.underlying3
    subst hD
    refine perm_intKeys hpw (fun q hq => by obtain ⟨v, hv⟩ := hko q hq; obtain ⟨x, _, hx, _⟩ := Maps.keyOf_i64 Try.underlying3 hv; exact ⟨x, hx⟩) hk.1 (fun x => ?_)
    constructor
    · intro hx
      have := hk.2 x hx
      rw [h5 x (wf_of (by unfold Fit; omega))]
      exact decide_eq_true hx
    · intro hx
      have hx' : x ∈ intKeys (.map es) := by
        rw [Maps.has_eq, List.any_eq_true] at hx
        obtain ⟨q, hq, hs⟩ := hx
        obtain ⟨v, hv⟩ := hko q hq
        obtain ⟨y, _, hy, _⟩ := Maps.keyOf_i64 Try.underlying3 hv
        refine List.mem_map.2 ⟨q, hq, ?_⟩
        rw [hy] at hs ⊢
        simpa [Lit.sameKey, Go.intOf] using hs
      have := h5 x (hwf x hx')
      rw [hx] at this
      exact of_decide_eq_true this.symm
  have hseq : SeqGives Fence.wide 2 Try.prog 30 #[.pointer (some ⟨w.heap.size, 0, none⟩)] encZ (fun ss => ss.Perm (intKeys D)) (Maps.size D) (w.alloc (.cells #[.map (some (B + 1))] 45)) :=
    AnyZI.keys_gives (ρ := Try.keysB_ren) { Try.keysB with } Fence.wide _ trivial rfl (by omega) w.heap.size (B + 1) nn D _ (by simp) (by simp) (by
      obtain ⟨es, clock, hb, Ft, hs, hD⟩ := hown
      exact ⟨es, clock, (Below.heap_alloc _ _ (B + 1) hbl).trans hb, Ft, hs, hD⟩)
  have cS := AnyZI.sorted_in Try.sortedB Fence.wide 5 trivial trivial trivial trivial rfl (by omega) (sortsB _) (enters_of Try.func29 (by kernel_rfl) rfl) 30 #[.pointer (some ⟨w.heap.size, 0, none⟩)] trivial
    (enters_of Try.func30 (by kernel_rfl) rfl) _ _ (by rw [h6]; unfold maxLen; omega) (by rw [h6]; omega) _ hseq
  refine ((callsIn_wide (n := 5)).1 cS).mono ?_
  rintro e w' ⟨v, ss, rfl, hS, hrow, _, hb⟩
  have hz := sorted_keys hk hin (hS.trans hperm.symm)
  have hl : ss.length = m := by
    have := congrArg List.length hz
    rw [List.length_mergeSort, List.length_map, hm] at this
    exact this
  have hT : Tab intE w' (w.alloc (.cells #[.map (some (B + 1))] 45)).heap.size 3 v ((keyN p).map (fun b : Nat => (b : Int))) := by
    unfold Tab
    rw [List.length_map, hm, flat_int, ← hl]
    rw [show ss.mergeSort (fun x y => decide (x ≤ y)) = (keyN p).map (fun b : Nat => (b : Int)) from hz] at hrow
    exact hrow
  obtain ⟨A, c, rfl, hc, _⟩ := hT.form
  rw [List.length_map, hm] at hc hT ⊢
  refine ⟨A, c, rfl, hc, ?_, (low_lit w _).trans (hb.mono (by simp))⟩
  have := hT.reads
  rw [flat_int, List.map_map] at this
  exact this
set_option maxRecDepth 100000 in
set_option maxHeartbeats 16000000 in
theorem chosen_c (B n : Nat) (p : PS) (g : Nat → Nat) (w : World) (hn : n ≤ 16) (h : Co B n p g w) (cs : List Int) (nc : Nat) (hcs : pchosen n p = cs) (hnc : cs.length = nc) :
    Calls Try.prog 18 #[.pointer (some ⟨B + 2, 0, none⟩)] w (fun e W' => ∃ C d, e = .returned (.slice C nc d) ∧ Reads W' C (cs.map (Value.int .i64)) ∧ Below w.heap.size w W') := by
  have HC := Lib.hid h
  obtain ⟨m, hm⟩ : ∃ m, (keyN p).length = m := ⟨_, rfl⟩
  have CS := Lib.hid (sorted_c h m hm)
  have CK := Lib.hid (fun W => keys_c (some (B + 1)) W)
  have HM := Lib.hid hm
  have HL := Lib.hid (show m ≤ 400 by rw [← hm]; exact keyN_len p)
  have HE := Lib.hid (show chosenL n p m = cs by rw [← hm, chosenL_all]; exact hcs)
  have HN := Lib.hid hnc
  have c1 := h.c1
  clear h hm hcs hnc
  go_enter Try.func18, Try.ntmps18
  go_wp2_with (first
    | (go_at_call 24; refine (CK.out _).mono ?_; rintro e w1 ⟨rfl, rfl⟩)
    | (go_at_call 23; refine CS.out.mono ?_; rintro e w2 ⟨A, cap, rfl, hcap, hr, hb⟩))
  have RD := Lib.hid hr
  have B2 := Lib.hid hb
  clear hr hb CS CK c1
  go_loopw [3, 14] (fun v i wr => ∃ (k : Nat) (A1 : Option Addr) (e1 q : Nat), k ≤ m ∧ i = .int .i64 k ∧ v = .slice A1 q e1 ∧ (chosenL n p k).length = q ∧ Tab intE wr w2.heap.size 3 (.slice A1 q e1) (chosenL n p k) ∧ Below w2.heap.size w2 wr) (fun _ i _ => m - (Go.RowKit.intOf i).toNat)
  case atStart => exact ⟨0, none, 0, 0, by omega, rfl, rfl, rfl, Tab.nil _ _ _, Below.refl _ _⟩
  case round =>
    obtain ⟨k, A1, e1, q, hk, rfl, rfl, hq, hT, hB⟩ := hrel
    have HQ := Lib.hid hq
    have TT := Lib.hid hT
    have BB := Lib.hid hB
    by_cases hlt : k < m
    · have kl : k < (keyN p).length := by rw [HM.out]; exact hlt
      obtain ⟨b, hb⟩ : ∃ b, (keyN p)[k]? = some b := ⟨_, List.getElem?_eq_getElem kl⟩
      have ST := Lib.hid (chosenL_step (n := n) hb)
      have hbs := (keyN_mem.1 (List.mem_of_getElem? hb)).2.2
      obtain ⟨gb, ob, rfl, hgb, y0⟩ := (RD.out.below hB) k (.int .i64 (b : Int)) (by rw [List.getElem?_map, hb]; rfl)
      have hC : Co B n p g wr := (HC.out.later (B2.out.trans (hB.mono B2.out.size)))
      have hkey := hC.key hbs
      have c1 := hC.c1
      obtain ⟨ks, _, _, hmp⟩ := hC.mp
      obtain ⟨G, hG⟩ : ∃ G, G = g b := ⟨_, rfl⟩
      have EP := Lib.hid (show (fun x : Int => ptrV g p x.toNat) (b : Int) = .pointer (some ⟨G, 0, none⟩) by rw [hG]; exact ptr_seen hbs)
      have WB := Lib.hid (show (Lit.int .i64 (b : Int)).wf = true from wf_of (by unfold Fit; omega))
      have MP := Lib.hid hmp
      obtain ⟨hg4, hp16, ha16, hkn⟩ := hC.ba b hbs
      obtain ⟨x, hx⟩ : ∃ x, x = p.ab b := ⟨_, rfl⟩
      obtain ⟨u, hu⟩ : ∃ u, u = p.value b := ⟨_, rfl⟩
      obtain ⟨t, ht⟩ : ∃ t, t = ptest n (p.ab b) := ⟨_, rfl⟩
      have z3 : wr.cell? ⟨G, 3, none⟩ = some (.int .u16 (x : Nat)) := by rw [hG, hx]; exact hkn.cell 3
      have z0 : ∀ j, (wr.drewN j).cell? ⟨G, 0, none⟩ = some (.int .i64 u) := fun j => by rw [hG, hu]; exact hkn.cell 0
      have MJ := Lib.hid (show Calls Try.prog 25 #[.pointer (some ⟨B + 2, 0, none⟩), .int .u16 (x : Nat)] wr (fun e W' => e = .returned (.bool t) ∧ ∃ j, W' = wr.drewN j) by rw [ht, hx]; exact maj_c B n (p.ab b) p g wr hn ha16 hC)
      rw [← ht, ← hu] at ST
      have i1 : (k : Int) < (m : Int) := by omega
      have hl4 := HL.out
      clear kl hb hbs hgb hC hkey hmp hG hg4 hp16 ha16 hkn hx hu ht hB hT hq hcap
      cases t with
      | false =>
        have E := Lib.hid (show chosenL n p (k + 1) = chosenL n p k by rw [ST.out]; simp)
        go_wp2_with (first
          | (refine wpList_lookup_m Try.underlying45 (by rfl) rfl _ _ (by rfl) MP.out b WB.out rfl rfl _ EP.out ?_)
          | (go_at_call 25; refine MJ.out.mono ?_; rintro e w3 ⟨rfl, j, rfl⟩))
        go_roundw
        case rel => exact ⟨k + 1, A1, e1, q, by omega, by go_num, rfl, by rw [E.out]; exact HQ.out, by rw [E.out]; exact TT.out.drewN _, Mem.below_drewN BB.out _⟩
        case measure => simp [Go.RowKit.intOf]; omega
      | true =>
        have E := Lib.hid (show chosenL n p (k + 1) = chosenL n p k ++ [u] by rw [ST.out]; simp)
        have HS := Lib.hid (show q ≤ 400 by have := HQ.out; have := chosenL_len n p k; have := HL.out; omega)
        go_wp2_with (first
          | (refine wpList_lookup_m Try.underlying45 (by rfl) rfl _ _ (by rfl) MP.out b WB.out rfl rfl _ EP.out ?_)
          | (go_at_call 25; refine MJ.out.mono ?_; rintro e w3 ⟨rfl, j, rfl⟩; replace z0 := z0 j; have SZ := Lib.hid (show w2.heap.size ≤ (wr.drewN j).heap.size from BB.out.size); have TJ := Lib.hid (TT.out.drewN j); have BJ := Lib.hid (Mem.below_drewN BB.out j))
          | (refine wpList_append_g (E := intE) elInt rfl _ _ (by rfl) u rfl (by decide) (by rfl) (by rfl) TJ.out HQ.out (by have := HS.out; unfold maxLen; omega) (by have := HS.out; omega) SZ.out ?_; intro A2 c2 w4 T2 G2 O2))
        go_roundw
        case rel =>
          refine ⟨k + 1, A2, c2, q + 1, by omega, by go_num, rfl, ?_, by rw [E.out]; exact T2.out, ?_⟩
          · rw [E.out, List.length_append, HQ.out]; rfl
          · exact (TJ.out.alloc _).below G2.out (BJ.out.alloc SZ.out _) (Nat.le_refl _) (Nat.le_trans SZ.out (by simp))
        case measure => simp [Go.RowKit.intOf]; omega
    · obtain rfl : k = m := by omega
      have EL := HE.out
      rw [EL] at hT hq
      obtain rfl : nc = q := by rw [← HN.out]; exact hq
      have RR := Lib.hid (show Reads wr A1 (cs.map (Value.int .i64)) by have := hT.reads; rwa [flat_int] at this)
      clear hT hq hB EL
      go_wp2
      go_ret
      exact ⟨A1, e1, rfl, RR.out, B2.out.trans (BB.out.mono B2.out.size)⟩
end Go.Proofs.Ytpoielmbdofjlaa.Syn
