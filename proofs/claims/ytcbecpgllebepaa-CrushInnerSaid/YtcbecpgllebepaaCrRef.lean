/-
  The document's own answers on hosts: KHosts, KWrong.
-/
import Derived.Test.YtcbecpgllebepaaCrMem
namespace Go.Proofs.Ytcbecpgllebepaa.Crush
set_option linter.unusedVariables false
set_option linter.unusedSimpArgs false
open Go.RowKit Mem Straw

/-- Items that a call made. -/
def ItsOut (l : List It) (n : Nat) (W : World) (e : Ending) (W' : World) : Prop := ∃ A c, e = .returned (.slice A n c) ∧ WTab W' W.heap.size (.slice A n c) l ∧ n ≤ c ∧ Below W.heap.size W W'
theorem wts_take {hs : List Ht} {k : Nat} {x : Ht} (h : hs[k]? = some x) : wts (hs.take (k + 1)) = wts (hs.take k) ++ [(x.1, hw x.2)] := by
  unfold wts; rw [List.take_add_one, h, List.map_append]; rfl
theorem sum_bound {d : List It} (h : Valid d) (k : Nat) : 0 ≤ sumW (d.take k) ∧ sumW (d.take k) ≤ 1600 := by
  have h1 := sum_nonneg (d := d.take k) (fun a ha => (h.2.1 a (List.mem_of_mem_take ha)).2.1)
  have h2 := sum_le (d := d.take k) (fun a ha => (h.2.1 a (List.mem_of_mem_take ha)).2.2)
  have h3 : (d.take k).length ≤ d.length := by rw [List.length_take]; omega
  have h4 := h.1
  omega
set_option maxRecDepth 100000 in
set_option maxHeartbeats 8000000 in
theorem khosts_c (A : Option Addr) (hs : List Ht) (n ca : Nat) (W : World) (hn : hs.length = n) (hb : n ≤ 4398046511104) (hx : HRds W A hs) (hv : ∀ h ∈ hs, Valid h.2) :
    Calls Try.prog 30 #[.slice A n ca] W (ItsOut (wts hs) n W) := by
  have HX := Lib.hid hx
  have HN := Lib.hid hn
  have HV := Lib.hid hv
  clear hx hn hv
  go_enter Try.func30, Try.ntmps30
  go_wp2
  go_loopw [3, 11] (fun v i wr => ∃ (k : Nat) (A2 : Option Addr) (c2 : Nat), k ≤ n ∧ i = .int .i64 k ∧ v = .slice A2 k c2 ∧ WTab wr W.heap.size (.slice A2 k c2) (wts (hs.take k)) ∧ Below W.heap.size W wr) (fun _ i _ => n - (intOf i).toNat)
  case atStart => exact ⟨0, none, 0, by omega, rfl, rfl, WTab.nil _ _, Below.refl _ _⟩
  case round =>
    obtain ⟨k, A2, c2, hk, rfl, rfl, hT, hB⟩ := hrel
    have HT := Lib.hid hT
    have HB := Lib.hid hB
    by_cases hlt : k < n
    · have k1 : k < hs.length := by rw [HN.out]; exact hlt
      have ex : hs[k]? = some hs[k] := List.getElem?_eq_getElem k1
      obtain ⟨x, hu⟩ : ∃ x, x = hs[k] := ⟨_, rfl⟩
      rw [← hu] at ex
      have VX := Lib.hid (HV.out x (List.mem_of_getElem? ex))
      obtain ⟨b, o, D, m, dc, rfl, hbl, x0, x1, hm, hmc, hmb, hD⟩ := (HX.out.below hB).host ex
      obtain ⟨d0, d1⟩ := boxH wr (.int .i64 x.1) (.slice D m dc)
      have WT := Lib.hid (wts_take ex)
      have HD := Lib.hid (hD.below ((Below.refl wr.heap.size wr).alloc (Nat.le_refl _) (.cells #[.int .i64 x.1, .slice D m dc] 43)))
      have HM := Lib.hid hm
      have SB := Lib.hid (fun j => sum_bound VX.out j)
      have HW := Lib.hid (show hw x.2 = if 100 < sumW x.2 then 100 else sumW x.2 from rfl)
      have TL := Lib.hid (show (wts (hs.take k)).length = k by rw [wts_len, List.length_take]; omega)
      have HT2 := Lib.hid (hT.alloc (.cells #[.int .i64 x.1, .slice D m dc] 43))
      have HB2 := Lib.hid (hB.alloc hB.size (.cells #[.int .i64 x.1, .slice D m dc] 43))
      obtain ⟨id, hid⟩ : ∃ id, id = x.1 := ⟨_, rfl⟩
      obtain ⟨ds, hds⟩ : ∃ ds, ds = x.2 := ⟨_, rfl⟩
      rw [← hid] at x0 d0 d1 WT HD HT2 HB2
      rw [← hds] at WT HD HM SB HW
      have i1 : (k : Int) < (n : Int) := by omega
      clear hu k1 hT hB hm hD VX ex HT HB hid hds
      go_wp2
      obtain ⟨wo, hwo⟩ : ∃ wo : World, wo = wr.alloc (.cells #[.int .i64 id, .slice D m dc] 43) := ⟨_, rfl⟩
      have hsz : wr.heap.size < wo.heap.size := by rw [hwo]; simp
      rw [← hwo] at d0 d1 HD HT2 HB2 ⊢
      obtain ⟨bx, hbx⟩ : ∃ bx, bx = wr.heap.size := ⟨_, rfl⟩
      rw [← hbx] at d0 d1 hsz ⊢
      have HSZ := Lib.hid hsz
      clear hwo hbx x0 x1
      go_loopw [6, 18] (fun v i w2 => ∃ j : Nat, j ≤ m ∧ i = .int .i64 j ∧ v = .int .i64 (sumW (ds.take j)) ∧ Below wo.heap.size wo w2) (fun _ i _ => m - (intOf i).toNat)
      case atStart => exact ⟨0, by omega, rfl, rfl, Below.refl _ _⟩
      case round =>
        obtain ⟨j, hj, rfl, rfl, hB3⟩ := hrel
        have HB3 := Lib.hid hB3
        have e0 := (hB3.cell (p := ⟨bx, 0, none⟩) HSZ.out).trans d0
        by_cases hlj : j < m
        · have j1 : j < ds.length := by rw [HM.out]; exact hlj
          have ey : ds[j]? = some ds[j] := List.getElem?_eq_getElem j1
          obtain ⟨y, hy⟩ : ∃ y, y = ds[j] := ⟨_, rfl⟩
          rw [← hy] at ey
          obtain ⟨b3, o3, rfl, _, y0, y1⟩ := (HD.out.below hB3) j y ey
          have ST := Lib.hid (sum_take ey)
          obtain ⟨s0, s1⟩ := SB.out j
          obtain ⟨s2, s3⟩ := SB.out (j + 1)
          rw [ST.out] at s2 s3
          obtain ⟨y0', y1'⟩ := y
          obtain ⟨f0, f1⟩ := boxI wr (.int .i64 y0') (.int .i64 y1')
          obtain ⟨s, hs'⟩ : ∃ s, s = sumW (ds.take j) := ⟨_, rfl⟩
          rw [← hs'] at ST s0 s1 s2 s3 ⊢
          have w1 : IntKind.i64.wrap (s + y1') = s + y1' := IntWalk.i64_in _ (by omega)
          have HB4 := Lib.hid (hB3.alloc hB3.size (.cells #[.int .i64 y0', .int .i64 y1'] 47))
          have j2 : (j : Int) < (m : Int) := by omega
          clear hy ey j1 hB3 HB3 hs' s0 s1 s2 s3
          go_wp2
          go_roundw
          case rel => exact ⟨j + 1, by omega, by go_num, by rw [ST.out], HB4.out⟩
          case measure => simp [intOf]; omega
        · obtain rfl : j = m := by omega
          have ES : ds.take j = ds := List.take_of_length_le (by rw [HM.out]; omega)
          rw [ES]
          have HT3 := Lib.hid (HT2.out.later hB3)
          have HB5 := Lib.hid (HB2.out.trans (hB3.mono HB2.out.size))
          have e0 := (hB3.cell (p := ⟨bx, 0, none⟩) HSZ.out).trans d0
          obtain ⟨s0, s1⟩ := SB.out j
          rw [ES] at s0 s1
          obtain ⟨s, hs'⟩ : ∃ s, s = sumW ds := ⟨_, rfl⟩
          rw [← hs'] at HW s0 s1 ⊢
          obtain ⟨tk, htk⟩ : ∃ tk, tk = wts (hs.take k) := ⟨_, rfl⟩
          rw [← htk] at WT HT3 TL
          clear hB3 HB3 hs' ES HT2 HB2 htk
          by_cases hbig : 100 < s
          · have HV2 := Lib.hid (show hw ds = 100 by rw [HW.out, if_pos hbig])
            have t1 : decide (100 < s) = true := decide_eq_true hbig
            go_wp2_with (refine wpList_append_it rfl _ _ (by rfl) (id, 100) rfl rfl rfl rfl rfl HT3.out TL.out (by omega) HB5.out.size HB5.out (Nat.le_refl _) ?_; intro A3 c3 w9 Z3 G3 B3)
            go_roundw
            case rel => exact ⟨k + 1, A3, c3, by omega, by go_num, rfl, by rw [WT.out, HV2.out]; exact Z3.out, B3.out⟩
            case measure => simp [intOf]; omega
          · have HV2 := Lib.hid (show hw ds = s by rw [HW.out, if_neg hbig])
            have t1 : decide (100 < s) = false := decide_eq_false hbig
            go_wp2_with (refine wpList_append_it rfl _ _ (by rfl) (id, s) rfl rfl rfl rfl rfl HT3.out TL.out (by omega) HB5.out.size HB5.out (Nat.le_refl _) ?_; intro A3 c3 w9 Z3 G3 B3)
            go_roundw
            case rel => exact ⟨k + 1, A3, c3, by omega, by go_num, rfl, by rw [WT.out, HV2.out]; exact Z3.out, B3.out⟩
            case measure => simp [intOf]; omega
    · obtain rfl : k = n := by omega
      have TK := Lib.hid (show hs.take k = hs from List.take_of_length_le (by rw [HN.out]; omega))
      have FIN := Lib.hid (show WTab wr W.heap.size (.slice A2 k c2) (wts hs) by have := hT; rwa [TK.out] at this)
      have CC := Lib.hid (show k ≤ c2 by
        obtain ⟨A', c', e, h1, _⟩ := hT.form
        injection e with _ _ e
        rw [wts_len, List.length_take, Nat.min_eq_left (by rw [HN.out]; exact Nat.le_refl _)] at h1
        rw [e]; exact h1)
      clear hT hB
      go_wp2
      go_ret
      exact ⟨A2, c2, rfl, FIN.out, CC.out, HB.out⟩

/-! ### KWrong -/
theorem kr_bad {hs : List Ht} (h : devE hs ≠ 0) : krE hs = devE hs := by unfold krE; rw [if_neg h]
theorem kr_good {hs : List Ht} (h : devE hs = 0) : krE hs = wrongE (wts hs) := by unfold krE; rw [if_pos h]
theorem wts_wf {hs : List Ht} (h : FitsH hs) : ∀ a ∈ wts hs, (Lit.int .i64 a.1).wf = true := fun a ha => by
  obtain ⟨x, hx, rfl⟩ := List.mem_map.1 ha
  exact (h x hx).1
set_option maxRecDepth 100000 in
set_option maxHeartbeats 8000000 in
theorem kwrong_c (A : Option Addr) (hs : List Ht) (n ca : Nat) (W : World) (hn : hs.length = n) (hb : n ≤ 4398046511104) (hx : HRds W A hs) (hf : FitsH hs) :
    Calls Try.prog 12 #[.slice A n ca] W (Gave (.int .i64 (krE hs)) W) := by
  have HX := Lib.hid hx
  have HN := Lib.hid hn
  have HF := Lib.hid hf
  have KH := Lib.hid (fun V (hB : Below W.heap.size W V) (hv : ∀ h ∈ hs, Valid h.2) => khosts_c A hs n ca V hn hb (hx.below hB) hv)
  have HWR := Lib.hid (fun V A2 c2 (hT : WRds V A2 (wts hs)) => hwrong_c A2 (wts hs) n c2 V (by rw [wts_len, hn]) (by unfold maxLen; omega) hT (wts_wf hf))
  have KB := Lib.hid (fun h => kr_bad (hs := hs) h)
  have KG := Lib.hid (fun h => kr_good (hs := hs) h)
  clear hx hn hf
  go_enter Try.func12, Try.ntmps12
  go_wp2
  go_loopw [8] (fun i wr => ∃ k : Nat, k ≤ n ∧ i = .int .i64 k ∧ devE hs = devE (hs.drop k) ∧ (∀ h ∈ hs.take k, Valid h.2) ∧ Below W.heap.size W wr) (fun i _ => n - (intOf i).toNat)
  case atStart => exact ⟨0, by omega, rfl, rfl, fun h hh => by simp at hh, Below.refl _ _⟩
  case round =>
    obtain ⟨k, hk, rfl, hd, hv, hB⟩ := hrel
    have HD := Lib.hid hd
    have HV := Lib.hid hv
    have HB := Lib.hid hB
    clear hd hv
    by_cases hlt : k < n
    · have k1 : k < hs.length := by rw [HN.out]; exact hlt
      have ex : hs[k]? = some hs[k] := List.getElem?_eq_getElem k1
      obtain ⟨x, hu⟩ : ∃ x, x = hs[k] := ⟨_, rfl⟩
      rw [← hu] at ex
      have FX := Lib.hid (HF.out x (List.mem_of_getElem? ex))
      have DS := Lib.hid (devE_step ex)
      have TN := Lib.hid (show hs.take (k + 1) = hs.take k ++ [x] by rw [List.take_add_one, ex]; rfl)
      obtain ⟨b, o, D, m, dc, rfl, hbl, x0, x1, hm, hmc, hmb, hDv⟩ := (HX.out.below hB).host ex
      obtain ⟨d0, d1⟩ := boxH wr (.int .i64 x.1) (.slice D m dc)
      have h0 : Below wr.heap.size wr (wr.alloc (.cells #[.int .i64 x.1, .slice D m dc] 43)) := (Below.refl _ _).alloc (Nat.le_refl _) _
      have CW := Lib.hid (hwrong_c D x.2 m dc _ hm (by unfold maxLen; omega) (hDv.below h0) (fun a ha => (FX.out.2 a ha).1))
      have HB2 := Lib.hid (hB.alloc hB.size (.cells #[.int .i64 x.1, .slice D m dc] 43))
      have V1 := wrongE_vals x.2
      have WZ := Lib.hid (wrongE_zero (l := x.2))
      obtain ⟨id, hid⟩ : ∃ id, id = x.1 := ⟨_, rfl⟩
      rw [← hid] at x0 d0 d1 CW HB2
      obtain ⟨e0, he⟩ : ∃ e0, e0 = wrongE x.2 := ⟨_, rfl⟩
      rw [← he] at CW V1 DS WZ
      have i1 : (k : Int) < (n : Int) := by omega
      clear hu k1 hB hm hDv ex hid he h0
      rcases V1 with rfl | rfl | rfl
      · have DS2 := Lib.hid (show devE hs = devE (hs.drop (k + 1)) by rw [HD.out, DS.out, if_pos rfl])
        have VN := Lib.hid (show ∀ h ∈ hs.take (k + 1), Valid h.2 from fun h hh => by
          rw [TN.out] at hh
          rcases List.mem_append.1 hh with hh | hh
          · exact HV.out h hh
          · simp at hh; subst hh; exact WZ.out.1 rfl)
        go_wp2_with (go_at_call 33; refine CW.out.mono ?_; rintro e w2 ⟨rfl, hb2⟩; have HB3 := Lib.hid (HB2.out.trans (hb2.mono HB2.out.size)); clear hb2)
        go_roundw
        case rel => exact ⟨k + 1, by omega, by go_num, DS2.out, VN.out, HB3.out⟩
        case measure => simp [intOf]; omega
      all_goals
        have E2 := Lib.hid (show krE hs = _ by rw [KB.out (by rw [HD.out, DS.out, if_neg (by decide)]; decide), HD.out, DS.out, if_neg (by decide)])
        go_wp2_with (go_at_call 33; refine CW.out.mono ?_; rintro e w2 ⟨rfl, hb2⟩; have HB3 := Lib.hid (HB2.out.trans (hb2.mono HB2.out.size)); clear hb2)
        go_ret
        exact ⟨by rw [E2.out]; rfl, HB3.out⟩
    · obtain rfl : k = n := by omega
      have VA := Lib.hid (show ∀ h ∈ hs, Valid h.2 by have := HV.out; rwa [List.take_of_length_le (by rw [HN.out]; omega)] at this)
      have E2 := Lib.hid (show krE hs = wrongE (wts hs) from KG.out (by rw [HD.out, List.drop_of_length_le (by rw [HN.out]; omega)]; rfl))
      obtain ⟨e0, he⟩ : ∃ e0, e0 = wrongE (wts hs) := ⟨_, rfl⟩
      rw [← he] at E2 HWR
      clear hB he
      go_wp2_with fail
      refine (KH.out _ HB.out VA.out).mono ?_
      rintro e w2 ⟨A2, c2, rfl, ht, hc2, hb2⟩
      have CW := Lib.hid (HWR.out w2 A2 c2 ht.rds)
      have HB3 := Lib.hid (HB.out.trans (hb2.mono HB.out.size))
      clear ht hb2
      go_wp2_with fail
      refine CW.out.mono ?_
      rintro e w3 ⟨rfl, hb3⟩
      have HB4 := Lib.hid (HB3.out.trans (hb3.mono HB3.out.size))
      clear hb3
      go_wp2
      go_ret
      exact ⟨by rw [E2.out]; rfl, HB4.out⟩
end Go.Proofs.Ytcbecpgllebepaa.Crush
