/-
  Package maps: reversed, changed.
-/
import Derived.Test.YtmijjaihedbjgaaMpA
namespace Go.Proofs.Ytmijjaihedbjgaa.Mps
set_option linter.unusedVariables false
set_option linter.unusedSimpArgs false
open Go.RowKit Mem

/-! ### make -/
theorem infoChZ : (Try.prog.info? 33).map (fun i => (i.zero.map (·.cells), i.size, i.bytes)) = some (some #[Value.int .i64 0, Value.int .i64 0, Value.int .i64 0], 3, 24) := by kernel_rfl
theorem madeThree (n : Nat) : (madeCells #[Value.int .i64 0, Value.int .i64 0, Value.int .i64 0] (n * 3)).toList = flat (List.replicate n (0, 0, 0)) := by
  have h1 : (madeCells #[Value.int .i64 0, Value.int .i64 0, Value.int .i64 0] (n * 3)).toList = List.replicate (n * 3) (Value.int .i64 0) := by
    apply List.ext_getElem
    · simp [madeCells]
    · intro i h1 h2
      simp only [madeCells, Array.toList_map, List.getElem_map, List.getElem_replicate]
      have : ∀ j : Nat, j < 3 → (#[Value.int .i64 0, Value.int .i64 0, Value.int .i64 0] : Array Value)[j]! = Value.int .i64 0 := fun j hj => by
        rcases j with _ | _ | _ | j
        · rfl
        · rfl
        · rfl
        · omega
      exact this _ (Nat.mod_lt _ (by simp))
  have h2 : ∀ m : Nat, flat (List.replicate m ((0 : Int), (0 : Int), (0 : Int))) = List.replicate (m * 3) (Value.int .i64 0) := fun m => by
    induction m with
    | zero => rfl
    | succ m ih => rw [List.replicate_succ, flat, ih, show (m + 1) * 3 = m * 3 + 1 + 1 + 1 by omega, List.replicate_succ, List.replicate_succ, List.replicate_succ]
  rw [h1, h2]
theorem make_chs (n : Nat) (hn : n ≤ 5864062014805) : ∃ cs : Array Value, ∀ w : World, (Instr.makeSlice 25 (.int .i64 n) (.int .i64 n)).run Try.prog w = .ok (.slice (some ⟨w.heap.size, 0, none⟩) n n) (w.alloc (.cells cs 33)) ∧
    ∀ B, B ≤ w.heap.size → CTab (w.alloc (.cells cs 33)) B (.slice (some ⟨w.heap.size, 0, none⟩) n n) (List.replicate n (0, 0, 0)) := by
  have h0 := infoChZ
  cases hi : Try.prog.info? 33 with
  | none => rw [hi] at h0; cases h0
  | some i =>
    rw [hi] at h0
    simp only [Option.map_some, Option.some.injEq, Prod.mk.injEq] at h0
    cases hz : i.zero with
    | none => rw [hz] at h0; cases h0.1
    | some z =>
      rw [hz] at h0
      simp only [Option.map_some, Option.some.injEq] at h0
      obtain ⟨hz1, hz2, hz3⟩ := h0
      refine ⟨madeCells z.cells (n * 3), fun w => ⟨?_, fun B hB => ?_⟩⟩
      · have := run_make (P := Try.prog) w 25 33 i z Try.underlying25 hi hz .i64 .i64 n n (by omega) (by omega) (by rw [hz3]; omega) (by omega)
        rw [this, hz2]; rfl
      · refine ⟨by rw [flat_len], .inr ⟨w.heap.size, n, _, by rw [List.length_replicate], hB, heap_alloc_new w _, by rw [List.length_replicate]; exact Nat.le_refl _, by unfold maxLen; omega, size_madeCells _ _, ?_⟩⟩
        rw [hz1, List.length_replicate, List.take_of_length_le (by rw [madeThree, flat_len, List.length_replicate]; exact Nat.le_refl _), madeThree]
/-- The first k of L are there already. -/
def partG {α : Type} (d : α) (L : List α) (j k : Nat) : List α := L.take k ++ List.replicate (j - k) d
section
variable {α : Type} {d : α} {L : List α} {j k : Nat}
theorem partG_len (h : L.length = j) (hk : k ≤ j) : (partG d L j k).length = j := by unfold partG; simp; omega
theorem partG_set {x : α} (h : L.length = j) (hk : L[k]? = some x) : (partG d L j k).set k x = partG d L j (k + 1) := by
  obtain ⟨h1, rfl⟩ := List.getElem?_eq_some_iff.1 hk
  unfold partG
  have hl : (L.take k).length = k := by simp; omega
  obtain ⟨m, hd⟩ : ∃ m, j - k = m + 1 := ⟨j - k - 1, by omega⟩
  rw [List.set_append_right _ _ (by omega), hl, Nat.sub_self, hd, List.replicate_succ, List.set_cons_zero, List.take_succ_eq_append_getElem h1, show j - (k + 1) = m by omega, List.append_assoc]
  rfl
theorem partG_end (h : L.length = j) : partG d L j j = L := by unfold partG; simp [← h]
theorem partG_start : partG d L j 0 = List.replicate j d := by unfold partG; simp
end
/-- The three cells of a place. -/
theorem ctab_cells {W : World} {B g n cap k : Nat} {es : List Ch} (h : CTab W B (.slice (some ⟨g, 0, none⟩) n cap) es) (hn : es.length = n) (hk : k < n) :
    (∃ u v w, W.cell? ⟨g, k * 3, none⟩ = some u ∧ W.cell? ⟨g, k * 3 + 1, none⟩ = some v ∧ W.cell? ⟨g, k * 3 + 2, none⟩ = some w) ∧ W.frozen? ⟨g, k * 3, none⟩ = false ∧ W.frozen? ⟨g, k * 3 + 1, none⟩ = false ∧ W.frozen? ⟨g, k * 3 + 2, none⟩ = false := by
  obtain ⟨b, o, e, _, c0, c1, c2⟩ := h.rds k _ (List.getElem?_eq_getElem (show k < es.length by omega))
  injection e with e
  injection e with e1 e2
  subst e1 e2
  rw [Nat.zero_add] at c0 c1 c2
  exact ⟨⟨_, _, _, c0, c1, c2⟩, h.free hn.symm _, h.free hn.symm _, h.free hn.symm _⟩

/-! ### reversed -/
set_option maxRecDepth 100000 in
set_option maxHeartbeats 8000000 in
theorem reversed_c (A : Option Addr) (cs : List Ch) (n ca : Nat) (W : World) (hn : cs.length = n) (hbig : n ≤ 5864062014805) (hx : CRds W A cs) :
    Calls Try.prog 22 #[.slice A n ca] W fun e W' => ∃ A' c', e = .returned (.slice A' n c') ∧ CRds W' A' (cs.map flip) ∧ Below W.heap.size W W' := by
  have HX := Lib.hid hx
  have HN := Lib.hid hn
  have FL := Lib.hid (show (cs.map flip).length = n by rw [List.length_map, hn])
  obtain ⟨zs, hmk⟩ := make_chs n hbig
  have mk := fun w => (hmk w).1
  have MT := Lib.hid ((hmk W).2 W.heap.size (Nat.le_refl _))
  have MB := Lib.hid ((Below.refl W.heap.size W).alloc (Nat.le_refl _) (.cells zs 33))
  clear hx hn hmk
  go_enter Try.func22, Try.ntmps22
  go_wp2
  clear mk
  go_loopw [11] (fun i wr => ∃ k : Nat, k ≤ n ∧ i = .int .i64 k ∧ CTab wr W.heap.size (.slice (some ⟨W.heap.size, 0, none⟩) n n) (partG (0, 0, 0) (cs.map flip) n k) ∧ Below W.heap.size W wr) (fun i _ => n - (intOf i).toNat)
  case atStart => exact ⟨0, by omega, rfl, by rw [partG_start]; exact MT.out, MB.out⟩
  case round =>
    obtain ⟨k, hk, rfl, hT, hB⟩ := hrel
    by_cases hlt : k < n
    · have k1 : k < cs.length := by rw [HN.out]; exact hlt
      have ex : cs[k]? = some cs[k] := List.getElem?_eq_getElem k1
      obtain ⟨x, hu⟩ : ∃ x, x = cs[k] := ⟨_, rfl⟩
      rw [← hu] at ex
      obtain ⟨b1, o1, rfl, _, x0, x1, x2⟩ := (HX.out.below hB) k x ex
      have PS := Lib.hid (partG_set (d := ((0 : Int), (0 : Int), (0 : Int))) FL.out (show (cs.map flip)[k]? = some (flip x) by rw [List.getElem?_map, ex]; rfl))
      have PL := Lib.hid (partG_len (d := ((0 : Int), (0 : Int), (0 : Int))) FL.out hk)
      obtain ⟨c0, c1, c2⟩ := x
      obtain ⟨f0, f1, f2⟩ := boxC wr (.int .i64 c0) (.int .i64 c1) (.int .i64 c2)
      have HT := Lib.hid (hT.alloc (.cells #[.int .i64 c0, .int .i64 c1, .int .i64 c2] 33))
      have HB := Lib.hid (hB.alloc hB.size (.cells #[.int .i64 c0, .int .i64 c1, .int .i64 c2] 33))
      obtain ⟨⟨u, v, y, z0, z1, z2⟩, g0, g1, g2⟩ := ctab_cells HT.out PL.out hlt
      have P2 := Lib.hid (HT.out.put PL.out.symm hlt (c0, c2, c1))
      rw [show (partG ((0 : Int), (0 : Int), (0 : Int)) (cs.map flip) n k).set k (c0, c2, c1) = partG (0, 0, 0) (cs.map flip) n (k + 1) from PS.out] at P2
      have i1 : (k : Int) < (n : Int) := by omega
      clear hu ex k1 hB hT
      go_wp2
      go_roundw
      case rel => exact ⟨k + 1, by omega, by go_num, P2.out, ((HB.out.setCell (Nat.le_refl _) _).setCell (Nat.le_refl _) _).setCell (Nat.le_refl _) _⟩
      case measure => simp [intOf]; omega
    · obtain rfl : k = n := by omega
      have HT := Lib.hid hT
      have HB := Lib.hid hB
      rw [partG_end FL.out] at HT
      clear hT hB
      go_wp2
      go_ret
      exact ⟨_, _, rfl, HT.out.rds, HB.out⟩
end Go.Proofs.Ytmijjaihedbjgaa.Mps
