/-
  Contracts of package crush: weight, weighted, Wrong.
-/
import Derived.Test.YtcbecpgllebepaaCrRef
import Derived.Test.YtcbecpgllebepaaSwA
import Derived.Deep.RegionHeld3
import Derived.Deep.DeepCutAuto
import Derived.Deep.DrawnRows
namespace Go.Proofs.Ytcbecpgllebepaa.Crush
set_option linter.unusedVariables false
set_option linter.unusedSimpArgs false
open Go.RowKit Mem Straw

/-! ### make -/
theorem infoItZ : (Try.prog.info? 47).map (fun i => (i.zero.map (·.cells), i.size, i.bytes)) = some (some #[Value.int .i64 0, Value.int .i64 0], 2, 16) := by kernel_rfl
theorem madeTwo (n : Nat) : (madeCells #[Value.int .i64 0, Value.int .i64 0] (n * 2)).toList = flat (List.replicate n (0, 0)) := by
  have h1 : (madeCells #[Value.int .i64 0, Value.int .i64 0] (n * 2)).toList = List.replicate (n * 2) (Value.int .i64 0) := by
    apply List.ext_getElem
    · simp [madeCells]
    · intro i h1 h2
      simp only [madeCells, Array.toList_map, List.getElem_map, List.getElem_replicate]
      have : ∀ j : Nat, j < 2 → (#[Value.int .i64 0, Value.int .i64 0] : Array Value)[j]! = Value.int .i64 0 := fun j hj => by
        rcases j with _ | _ | j
        · rfl
        · rfl
        · omega
      exact this _ (Nat.mod_lt _ (by simp))
  have h2 : ∀ m : Nat, flat (List.replicate m ((0 : Int), (0 : Int))) = List.replicate (m * 2) (Value.int .i64 0) := fun m => by
    induction m with
    | zero => rfl
    | succ m ih => rw [List.replicate_succ, flat, ih, show (m + 1) * 2 = m * 2 + 1 + 1 by omega, List.replicate_succ, List.replicate_succ]
  rw [h1, h2]
theorem make_its (n : Nat) (hn : n ≤ 4398046511105) : ∃ cs : Array Value, ∀ w : World, (Instr.makeSlice 41 (.int .i64 n) (.int .i64 n)).run Try.prog w = .ok (.slice (some ⟨w.heap.size, 0, none⟩) n n) (w.alloc (.cells cs 47)) ∧
    ∀ B, B ≤ w.heap.size → WTab (w.alloc (.cells cs 47)) B (.slice (some ⟨w.heap.size, 0, none⟩) n n) (List.replicate n (0, 0)) := by
  have h0 := infoItZ
  cases hi : Try.prog.info? 47 with
  | none => rw [hi] at h0; cases h0
  | some i =>
    rw [hi] at h0
    simp only [Option.map_some, Option.some.injEq, Prod.mk.injEq] at h0
    cases hz : i.zero with
    | none => rw [hz] at h0; cases h0.1
    | some z =>
      rw [hz] at h0
      simp only [Option.map_some, Option.some.injEq] at h0
      obtain ⟨hz1, hz2, hz3⟩ := h0
      refine ⟨madeCells z.cells (n * 2), fun w => ⟨?_, fun B hB => ?_⟩⟩
      · have := run_make (P := Try.prog) w 41 47 i z Try.underlying41 hi hz .i64 .i64 n n (by omega) (by omega) (by rw [hz3]; omega) (by omega)
        rw [this, hz2]; rfl
      · refine ⟨by rw [flat_len], .inr ⟨w.heap.size, n, _, by rw [List.length_replicate], hB, heap_alloc_new w _, by rw [List.length_replicate]; exact Nat.le_refl _, by unfold maxLen; omega, size_madeCells _ _, ?_⟩⟩
        rw [hz1, List.length_replicate, List.take_of_length_le (by rw [madeTwo, flat_len, List.length_replicate]; exact Nat.le_refl _), madeTwo]
/-- The first k of L are there already. -/
def partG {α : Type} (d : α) (L : List α) (j k : Nat) : List α := L.take k ++ List.replicate (j - k) d
section
variable {α : Type} {d : α} {L : List α} {j k : Nat}
theorem partG_len (h : L.length = j) (hk : k ≤ j) : (partG d L j k).length = j := by unfold partG; simp; omega
theorem partG_set {x : α} (h : L.length = j) (hk : L[k]? = some x) : (partG d L j k).set k x = partG d L j (k + 1) := by
  obtain ⟨h1, rfl⟩ := List.getElem?_eq_some_iff.1 hk
  unfold partG
  have hl : (L.take k).length = k := by simp; omega
  obtain ⟨m, hd⟩ : ∃ m, j - k = m + 1 := ⟨j - k - 1, by omega⟩
  rw [List.set_append_right _ _ (by omega), hl, Nat.sub_self, hd, List.replicate_succ, List.set_cons_zero, List.take_succ_eq_append_getElem h1, show j - (k + 1) = m by omega, List.append_assoc]
  rfl
theorem partG_end (h : L.length = j) : partG d L j j = L := by unfold partG; simp [← h]
theorem partG_start : partG d L j 0 = List.replicate j d := by unfold partG; simp
end
/-- The two cells of a place. -/
theorem wtab_cells {W : World} {B g n cap k : Nat} {es : List It} (h : WTab W B (.slice (some ⟨g, 0, none⟩) n cap) es) (hn : es.length = n) (hk : k < n) :
    (∃ u v, W.cell? ⟨g, k * 2, none⟩ = some u ∧ W.cell? ⟨g, k * 2 + 1, none⟩ = some v) ∧ W.frozen? ⟨g, k * 2, none⟩ = false ∧ W.frozen? ⟨g, k * 2 + 1, none⟩ = false := by
  obtain ⟨b, o, e, _, c0, c1⟩ := h.rds k _ (List.getElem?_eq_getElem (show k < es.length by omega))
  injection e with e
  injection e with e1 e2
  subst e1 e2
  rw [Nat.zero_add] at c0 c1
  exact ⟨⟨_, _, c0, c1⟩, h.free hn.symm _, h.free hn.symm _⟩

/-! ### weight -/
theorem min_hw (d : List It) : min (sumW d) 100 = hw d := by unfold hw; split <;> omega
set_option maxRecDepth 100000 in
set_option maxHeartbeats 4000000 in
theorem weight_c (D : Option Addr) (ds : List It) (m c : Nat) (W : World) (hn : ds.length = m) (hv : Valid ds) (hx : WRds W D ds) :
    Calls Try.prog 41 #[.slice D m c] W (Gave (.int .i64 (hw ds)) W) := by
  have HD := Lib.hid hx
  have HM := Lib.hid hn
  have SB := Lib.hid (fun j => sum_bound hv j)
  have HW := Lib.hid (min_hw ds)
  have hm : m ≤ 16 := by rw [← hn]; exact hv.1
  clear hx hn hv
  go_enter Try.func41, Try.ntmps41
  go_wp2
  go_loopw [3, 8] (fun v i w2 => ∃ j : Nat, j ≤ m ∧ i = .int .i64 j ∧ v = .int .i64 (sumW (ds.take j)) ∧ Below W.heap.size W w2) (fun _ i _ => m - (intOf i).toNat)
  case atStart => exact ⟨0, by omega, rfl, rfl, Below.refl _ _⟩
  case round =>
    obtain ⟨j, hj, rfl, rfl, hB3⟩ := hrel
    have HB3 := Lib.hid hB3
    by_cases hlj : j < m
    · have j1 : j < ds.length := by rw [HM.out]; exact hlj
      have ey : ds[j]? = some ds[j] := List.getElem?_eq_getElem j1
      obtain ⟨y, hy⟩ : ∃ y, y = ds[j] := ⟨_, rfl⟩
      rw [← hy] at ey
      obtain ⟨b3, o3, rfl, _, y0, y1⟩ := (HD.out.below hB3) j y ey
      have ST := Lib.hid (sum_take ey)
      obtain ⟨s0, s1⟩ := SB.out j
      obtain ⟨s2, s3⟩ := SB.out (j + 1)
      rw [ST.out] at s2 s3
      obtain ⟨y0', y1'⟩ := y
      obtain ⟨f0, f1⟩ := boxI wr (.int .i64 y0') (.int .i64 y1')
      obtain ⟨s, hs'⟩ : ∃ s, s = sumW (ds.take j) := ⟨_, rfl⟩
      rw [← hs'] at ST s0 s1 s2 s3 ⊢
      have w1 : IntKind.i64.wrap (s + y1') = s + y1' := IntWalk.i64_in _ (by omega)
      have HB4 := Lib.hid (hB3.alloc hB3.size (.cells #[.int .i64 y0', .int .i64 y1'] 47))
      have j2 : (j : Int) < (m : Int) := by omega
      clear hy ey j1 hB3 HB3 hs' s0 s1 s2 s3
      go_wp2
      go_roundw
      case rel => exact ⟨j + 1, by omega, by go_num, by rw [ST.out], HB4.out⟩
      case measure => simp [intOf]; omega
    · obtain rfl : j = m := by omega
      have ES : ds.take j = ds := List.take_of_length_le (by rw [HM.out]; omega)
      rw [ES]
      obtain ⟨s0, s1⟩ := SB.out j
      rw [ES] at s0 s1
      obtain ⟨s, hs'⟩ : ∃ s, s = sumW ds := ⟨_, rfl⟩
      rw [← hs'] at HW s0 s1 ⊢
      have mn := HW.out
      obtain ⟨h, hh⟩ : ∃ h, h = hw ds := ⟨_, rfl⟩
      rw [← hh] at mn
      have HH := Lib.hid hh
      clear hB3 hs' ES hh HW
      go_wp2
      go_ret
      exact ⟨by rw [← HH.out]; rfl, HB3.out⟩

/-! ### weighted -/
theorem undrew_ {B : Nat} {W V : World} (h : Below B W.drew V) : Below B W V := ⟨h.os, h.tape, h.output, h.size, h.block⟩
theorem kept2 {w : World} {g bx i j : Nat} {u v a b : Value} (h : g ≠ bx) (hs : w.cell? ⟨bx, 0, none⟩ = some a ∧ w.cell? ⟨bx, 1, none⟩ = some b) :
    ((w.setCell ⟨g, i, none⟩ u).setCell ⟨g, j, none⟩ v).cell? ⟨bx, 0, none⟩ = some a ∧ ((w.setCell ⟨g, i, none⟩ u).setCell ⟨g, j, none⟩ v).cell? ⟨bx, 1, none⟩ = some b := by
  have e : ∀ (V : World) (q p : Nat) (x : Value), (V.setCell ⟨g, q, none⟩ x).cell? ⟨bx, p, none⟩ = V.cell? ⟨bx, p, none⟩ := fun V q p x =>
    World.cell?_of_block (Below.heap_setCell V ⟨g, q, none⟩ x bx (fun e => h e.symm))
  rw [e, e, e, e]
  exact hs
set_option maxRecDepth 100000 in
set_option maxHeartbeats 8000000 in
theorem weighted_c (A : Option Addr) (hs : List Ht) (n ca : Nat) (W : World) (hn : hs.length = n) (hb : n ≤ 4398046511105) (hx : HRds W A hs) (hv : ∀ h ∈ hs, Valid h.2) :
    Calls Try.prog 27 #[.slice A n ca] W (ItsOut (wts hs) n W) := by
  have HX := Lib.hid hx
  have HN := Lib.hid hn
  have HV := Lib.hid hv
  have WL := Lib.hid (show (wts hs).length = n by rw [wts_len, hn])
  obtain ⟨cs, hmk⟩ := make_its n hb
  have mk := fun w => (hmk w).1
  have MT := Lib.hid ((hmk W).2 W.heap.size (Nat.le_refl _))
  have MB := Lib.hid ((Below.refl W.heap.size W).alloc (Nat.le_refl _) (.cells cs 47))
  clear hx hn hv hmk
  go_enter Try.func27, Try.ntmps27
  go_wp2
  clear mk
  go_loopw [11] (fun i wr => ∃ k : Nat, k ≤ n ∧ i = .int .i64 k ∧ WTab wr W.heap.size (.slice (some ⟨W.heap.size, 0, none⟩) n n) (partG (0, 0) (wts hs) n k) ∧ Below W.heap.size W wr) (fun i _ => n - (intOf i).toNat)
  case atStart => exact ⟨0, by omega, rfl, by rw [partG_start]; exact MT.out, MB.out⟩
  case round =>
    obtain ⟨k, hk, rfl, hT, hB⟩ := hrel
    by_cases hlt : k < n
    · have k1 : k < hs.length := by rw [HN.out]; exact hlt
      have ex : hs[k]? = some hs[k] := List.getElem?_eq_getElem k1
      obtain ⟨x, hu⟩ : ∃ x, x = hs[k] := ⟨_, rfl⟩
      rw [← hu] at ex
      have VX := Lib.hid (HV.out x (List.mem_of_getElem? ex))
      obtain ⟨b, o, D, m, dc, rfl, hbl, x0, x1, hm, hmc, hmb, hD⟩ := (HX.out.below hB).host ex
      obtain ⟨d0, d1⟩ := boxH wr (.int .i64 x.1) (.slice D m dc)
      have HL := Lib.hid (show (wts hs)[k]? = some (x.1, hw x.2) by unfold wts; rw [List.getElem?_map, ex]; rfl)
      have PS := Lib.hid (partG_set (d := ((0 : Int), (0 : Int))) WL.out HL.out)
      have PL := Lib.hid (partG_len (d := ((0 : Int), (0 : Int))) WL.out hk)
      have hA := (Below.refl wr.heap.size wr).alloc (Nat.le_refl _) (.cells #[.int .i64 x.1, .slice D m dc] 43)
      have HT2 := Lib.hid (hT.alloc (.cells #[.int .i64 x.1, .slice D m dc] 43))
      have HB2 := Lib.hid (hB.alloc hB.size (.cells #[.int .i64 x.1, .slice D m dc] 43))
      have WC := Lib.hid (fun V (h : Below wr.heap.size wr V) => weight_c D x.2 m dc V hm VX.out (hD.below h))
      have hsz : wr.heap.size < (wr.alloc (.cells #[.int .i64 x.1, .slice D m dc] 43)).heap.size := by simp
      have WA := Lib.hid hA
      have GB := Lib.hid (show W.heap.size < wr.heap.size from (hT.lt _ rfl).2)
      obtain ⟨id, hid⟩ : ∃ id, id = x.1 := ⟨_, rfl⟩
      obtain ⟨ds, hds⟩ : ∃ ds, ds = x.2 := ⟨_, rfl⟩
      rw [← hid] at x0 d0 d1 HT2 HB2 HL PS hsz WA
      rw [← hds] at WC HL PS
      obtain ⟨h, hh⟩ : ∃ h, h = hw ds := ⟨_, rfl⟩
      rw [← hh] at PS WC
      obtain ⟨part, hpart⟩ : ∃ part, part = partG ((0 : Int), (0 : Int)) (wts hs) n k := ⟨_, rfl⟩
      rw [← hpart] at HT2 PS PL
      have i1 : (k : Int) < (n : Int) := by omega
      clear hu k1 hT hB hm hD VX ex hid hds HL hA hh hpart
      go_upto_region 5 with fail
      obtain ⟨wo, hwo⟩ : ∃ wo : World, wo = wr.alloc (.cells #[.int .i64 id, .slice D m dc] 43) := ⟨_, rfl⟩
      rw [← hwo] at d0 d1 hsz HT2 HB2 WA ⊢
      obtain ⟨bx, hbx⟩ : ∃ bx, bx = wr.heap.size := ⟨_, rfl⟩
      have GX : W.heap.size ≠ bx := by rw [hbx]; exact Nat.ne_of_lt GB.out
      rw [← hbx] at d0 d1 hsz WC WA ⊢
      have HSZ := Lib.hid hsz
      have SK := Lib.hid (show ∀ w, Below wo.heap.size wo w → w.cell? ⟨bx, 0, none⟩ = some (.int .i64 id) ∧ w.cell? ⟨bx, 1, none⟩ = some (.slice D m dc) from fun w hb => ⟨(hb.cell (p := ⟨bx, 0, none⟩) HSZ.out).trans d0, (hb.cell (p := ⟨bx, 1, none⟩) HSZ.out).trans d1⟩)
      have WC2 := Lib.hid (WC.out wo.drew (by subst hbx; exact below_drew WA.out))
      clear hwo hbx x0 x1 WC WA
      go_region_held3 (fun w' => w'.cell? ⟨bx, 0, none⟩ = some (.int .i64 id) ∧ w'.cell? ⟨bx, 1, none⟩ = some (.slice D m dc)) (first | go_keep | exact SK.out _ K2.out | exact kept2 GX (SK.out _ K2.out))
        (first
          | (go_at_call 41; refine WC2.out.mono ?_; rintro e w2 ⟨rfl, hb⟩; have K2 := Lib.hid (show Below wo.heap.size wo w2 from undrew_ hb); have T2 := Lib.hid (HT2.out.later K2.out); obtain ⟨⟨u, v, z0, z1⟩, f0, f1⟩ := wtab_cells T2.out PL.out hlt; clear hb))
      have P2 := Lib.hid (show WTab ((w2.setCell ⟨W.heap.size, k * 2, none⟩ (.int .i64 id)).setCell ⟨W.heap.size, k * 2 + 1, none⟩ (.int .i64 h)) W.heap.size (.slice (some ⟨W.heap.size, 0, none⟩) n n) (partG (0, 0) (wts hs) n (k + 1)) by
        have := T2.out.put PL.out.symm hlt (id, h)
        rwa [PS.out] at this)
      have B2 := Lib.hid (show Below W.heap.size W ((w2.setCell ⟨W.heap.size, k * 2, none⟩ (.int .i64 id)).setCell ⟨W.heap.size, k * 2 + 1, none⟩ (.int .i64 h)) from ((HB2.out.trans (K2.out.mono HB2.out.size)).setCell (Nat.le_refl _) _).setCell (Nat.le_refl _) _)
      clear z0 z1 f0 f1
      go_wp2
      go_roundw
      case rel => exact ⟨k + 1, by omega, by go_num, P2.out, B2.out⟩
      case measure => simp [intOf]; omega
    · obtain rfl : k = n := by omega
      have HT := Lib.hid hT
      have HB := Lib.hid hB
      rw [partG_end WL.out] at HT
      clear hT hB
      go_wp2
      go_ret
      exact ⟨_, _, rfl, HT.out, Nat.le_refl _, HB.out⟩

/-! ### Wrong -/
theorem ph_dev {hs : List Ht} {k : Nat} {x : Ht} (hk : hs[k]? = some x) (h0 : wrongE x.2 = 0) : devE (hs.drop k) = devE (hs.drop (k + 1)) := by rw [devE_step hk, if_pos h0]
theorem ph_bad {hs : List Ht} {k : Nat} {x : Ht} (hk : hs[k]? = some x) (h0 : wrongE x.2 ≠ 0) : devE (hs.drop k) = wrongE x.2 := by rw [devE_step hk, if_neg h0]
set_option maxRecDepth 100000 in
set_option maxHeartbeats 8000000 in
theorem wrongK_c (A : Option Addr) (hs : List Ht) (n ca : Nat) (W : World) (hn : hs.length = n) (hb : n ≤ 4398046511105) (hca : n ≤ ca) (hx : HRds W A hs) (hf : FitsH hs) :
    Calls Try.prog 11 #[.slice A n ca] W (Gave (.int .i64 (krE hs)) W) := by
  have HX := Lib.hid hx
  have HN := Lib.hid hn
  have HF := Lib.hid hf
  have KH := Lib.hid (fun V (hB : Below W.heap.size W V) (hv : ∀ h ∈ hs, Valid h.2) => weighted_c A hs n ca V hn hb (hx.below hB) hv)
  have HWR := Lib.hid (fun V A2 c2 (hc : n ≤ c2) (hT : WRds V A2 (wts hs)) => wrong_c A2 (wts hs) n c2 V (by rw [wts_len, hn]) (by unfold maxLen; omega) hc hT)
  have KB := Lib.hid (fun h => kr_bad (hs := hs) h)
  have KG := Lib.hid (fun h => kr_good (hs := hs) h)
  clear hx hn hf
  go_enter Try.func11, Try.ntmps11
  go_wp2
  go_loopw [8] (fun i wr => ∃ k : Nat, k ≤ n ∧ i = .int .i64 k ∧ devE hs = devE (hs.drop k) ∧ (∀ h ∈ hs.take k, Valid h.2) ∧ Below W.heap.size W wr) (fun i _ => n - (intOf i).toNat)
  case atStart => exact ⟨0, by omega, rfl, rfl, fun h hh => by simp at hh, Below.refl _ _⟩
  case round =>
    obtain ⟨k, hk, rfl, hd, hv, hB⟩ := hrel
    have HD := Lib.hid hd
    have HV := Lib.hid hv
    have HB := Lib.hid hB
    clear hd hv
    by_cases hlt : k < n
    · have k1 : k < hs.length := by rw [HN.out]; exact hlt
      have ex : hs[k]? = some hs[k] := List.getElem?_eq_getElem k1
      obtain ⟨x, hu⟩ : ∃ x, x = hs[k] := ⟨_, rfl⟩
      rw [← hu] at ex
      have FX := Lib.hid (HF.out x (List.mem_of_getElem? ex))
      have DS := Lib.hid (devE_step ex)
      have TN := Lib.hid (show hs.take (k + 1) = hs.take k ++ [x] by rw [List.take_add_one, ex]; rfl)
      obtain ⟨b, o, D, m, dc, rfl, hbl, x0, x1, hm, hmc, hmb, hDv⟩ := (HX.out.below hB).host ex
      obtain ⟨d0, d1⟩ := boxH wr (.int .i64 x.1) (.slice D m dc)
      have h0 : Below wr.heap.size wr (wr.alloc (.cells #[.int .i64 x.1, .slice D m dc] 43)) := (Below.refl _ _).alloc (Nat.le_refl _) _
      have CW := Lib.hid (wrong_c D x.2 m dc _ hm (by unfold maxLen; omega) hmc (hDv.below h0))
      have HB2 := Lib.hid (hB.alloc hB.size (.cells #[.int .i64 x.1, .slice D m dc] 43))
      have V1 := wrongE_vals x.2
      have WZ := Lib.hid (wrongE_zero (l := x.2))
      obtain ⟨id, hid⟩ : ∃ id, id = x.1 := ⟨_, rfl⟩
      rw [← hid] at x0 d0 d1 CW HB2
      obtain ⟨e0, he⟩ : ∃ e0, e0 = wrongE x.2 := ⟨_, rfl⟩
      rw [← he] at CW V1 DS WZ
      have i1 : (k : Int) < (n : Int) := by omega
      clear hu k1 hB hm hDv ex hid he h0
      rcases V1 with rfl | rfl | rfl
      · have DS2 := Lib.hid (show devE hs = devE (hs.drop (k + 1)) by rw [HD.out, DS.out, if_pos rfl])
        have VN := Lib.hid (show ∀ h ∈ hs.take (k + 1), Valid h.2 from fun h hh => by
          rw [TN.out] at hh
          rcases List.mem_append.1 hh with hh | hh
          · exact HV.out h hh
          · simp at hh; subst hh; exact WZ.out.1 rfl)
        go_wp2_with (go_at_call 32; refine CW.out.mono ?_; rintro e w2 ⟨rfl, hb2⟩; have HB3 := Lib.hid (HB2.out.trans (hb2.mono HB2.out.size)); clear hb2)
        go_roundw
        case rel => exact ⟨k + 1, by omega, by go_num, DS2.out, VN.out, HB3.out⟩
        case measure => simp [intOf]; omega
      all_goals
        have E2 := Lib.hid (show krE hs = _ by rw [KB.out (by rw [HD.out, DS.out, if_neg (by decide)]; decide), HD.out, DS.out, if_neg (by decide)])
        go_wp2_with (go_at_call 32; refine CW.out.mono ?_; rintro e w2 ⟨rfl, hb2⟩; have HB3 := Lib.hid (HB2.out.trans (hb2.mono HB2.out.size)); clear hb2)
        go_ret
        exact ⟨by rw [E2.out]; rfl, HB3.out⟩
    · obtain rfl : k = n := by omega
      have VA := Lib.hid (show ∀ h ∈ hs, Valid h.2 by have := HV.out; rwa [List.take_of_length_le (by rw [HN.out]; omega)] at this)
      have E2 := Lib.hid (show krE hs = wrongE (wts hs) from KG.out (by rw [HD.out, List.drop_of_length_le (by rw [HN.out]; omega)]; rfl))
      obtain ⟨e0, he⟩ : ∃ e0, e0 = wrongE (wts hs) := ⟨_, rfl⟩
      rw [← he] at E2 HWR
      clear hB he
      go_wp2_with fail
      refine (KH.out _ HB.out VA.out).mono ?_
      rintro e w2 ⟨A2, c2, rfl, ht, hc2, hb2⟩
      have CW := Lib.hid (HWR.out w2 A2 c2 hc2 ht.rds)
      have HB3 := Lib.hid (HB.out.trans (hb2.mono HB.out.size))
      clear ht hb2
      go_wp2_with fail
      refine CW.out.mono ?_
      rintro e w3 ⟨rfl, hb3⟩
      have HB4 := Lib.hid (HB3.out.trans (hb3.mono HB3.out.size))
      clear hb3
      go_wp2
      go_ret
      exact ⟨by rw [E2.out]; rfl, HB4.out⟩
end Go.Proofs.Ytcbecpgllebepaa.Crush
