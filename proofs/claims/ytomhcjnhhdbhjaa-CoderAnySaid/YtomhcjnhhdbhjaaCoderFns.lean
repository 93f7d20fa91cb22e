/-
  Package coder: More, Back, Right; the four specs hold.
-/
import Derived.Test.YtomhcjnhhdbhjaaCdF
namespace Go.Proofs.Ytomhcjnhhdbhjaa.Cdr
set_option linter.unusedVariables false
open Go.RowKit Gf Mem Poly

theorem nums8_numbered (rows : List (List UInt8)) : nums8 (numbered rows) = idx rows.length := by
  apply List.ext_getElem (by rw [nums8_len, numbered_len, idx_len])
  intro i h1 h2
  rw [idx_len] at h2
  have e1 := nums8_at (i := i) (p := ((i : Int), rows[i])) (by rw [numbered_at, List.getElem?_eq_getElem h2]; rfl)
  have e2 := idx_at h2
  rw [List.getElem?_eq_getElem h1] at e1
  rw [List.getElem?_eq_getElem (by rw [idx_len]; exact h2)] at e2
  injection e1 with e1
  injection e2 with e2
  rw [e1, e2]; rfl
theorem nums_numbered {rows : List (List UInt8)} (h : rows.length ≤ 100) : Nums (numbered rows) :=
  ⟨fun p hp => by
    obtain ⟨h1, h2⟩ := numbered_mem hp
    have := (List.getElem?_eq_some_iff.1 h2).1
    omega, by rw [nums8_numbered]; exact idx_nodup (by omega)⟩
theorem rows_adds {rows outs : List (List UInt8)} {m : Nat} (hl : outs.length = m) (h : RowsFrom (numbered rows) rows.length outs) : Adds rows m outs := ⟨hl, fun j out hj => by
  have := h j out hj
  rw [nums8_numbered, numbered_datas] at this
  exact this⟩
theorem wrongIs_bad {n : Nat} {more : Int} (h : badMore n more) : wrongIs n more = 2 := by unfold badMore at h; unfold wrongIs; exact if_pos (by omega)
theorem wrongIs_ok {n : Nat} {more : Int} (h : ¬ badMore n more) : wrongIs n more = 0 := by unfold badMore at h; unfold wrongIs; exact if_neg (by omega)
set_option maxHeartbeats 4000000 in
set_option maxRecDepth 100000 in
theorem more_c : MoreSpec := by
  intro A rows ca more W hs hm hR
  have hl := hs.1
  have hw := fun V => wrong_c (rows.length : Int) more V (WalkArith.wf_i64 (by omega)) hm
  by_cases hb : badMore rows.length more
  · rw [wrongIs_bad hb] at hw
    have HW := Lib.hid hw
    have HBAD := Lib.hid hb
    clear hw hb hs hR
    generalize hN : rows.length = n at *
    have HN := Lib.hid hN
    clear hN
    go_enter Try.func9, Try.ntmps9
    go_wp2_with fail
    refine (HW.out _).mono ?_
    rintro e w' ⟨rfl, rfl⟩
    go_wp2
    go_ret2
    exact ⟨none, 0, [], 2, rfl, by simp, Rds.nil, Below.refl _ _, .inl ⟨by rw [HN.out]; exact HBAD.out, rfl, rfl⟩⟩
  · rw [wrongIs_ok hb] at hw
    have hb2 : 1 ≤ rows.length ∧ rows.length ≤ 100 ∧ 0 ≤ more ∧ more ≤ 100 := by unfold badMore at hb; omega
    obtain ⟨l1, l2, m1, m2⟩ := hb2
    have HW := Lib.hid hw
    have HNB := Lib.hid hb
    have HNUM := Lib.hid (numbered_c A rows ca l2 W hR)
    have hnl := numbered_len rows
    have HSL := Lib.hid (fun g V (hP : Pcs V (some ⟨g, 0, none⟩) (numbered rows)) => by
      have h := slen_c (some ⟨g, 0, none⟩) (numbered rows) rows.length (by omega) V hP
      rw [numbered_datas, hnl] at h
      exact h)
    have HNB2 := Lib.hid (fun g V (hP : Pcs V (some ⟨g, 0, none⟩) (numbered rows)) => by
      have h := newBasis_c (some ⟨g, 0, none⟩) (numbered rows) rows.length (by omega) (nums_numbered l2) V hP
      unfold BasisMade at h
      rw [hnl] at h
      exact h)
    have HHD := Lib.hid hs.head
    clear hw hb hR hs
    cases he : evenB rows with
    | false =>
      rw [he] at HSL
      have HE := Lib.hid he
      clear he
      generalize hN : rows.length = n at *
      have HN := Lib.hid hN
      clear hN hnl
      go_enter Try.func9, Try.ntmps9
      go_wp2_with fail
      refine (HW.out _).mono ?_
      rintro e w' ⟨rfl, rfl⟩
      go_wp2_with fail
      refine HNUM.out.mono ?_
      rintro e w1 ⟨g, rfl, hP, hB⟩
      have HP := Lib.hid hP
      have HB := Lib.hid hB
      clear hP hB
      have hnl := numbered_len rows
      rw [HN.out] at hnl
      rw [hnl]
      clear hnl
      go_wp2_with fail
      refine (HSL.out g w1 HP.out).mono ?_
      rintro e w2 ⟨rfl, hB2⟩
      have HB2 := Lib.hid (HB.out.trans (hB2.mono HB.out.size))
      clear hB2
      go_wp2
      go_ret2
      exact ⟨none, 0, [], 1, rfl, by simp, Rds.nil, HB2.out, .inr (.inl ⟨by rw [HN.out]; exact HNB.out, HE.out, rfl, rfl⟩)⟩
    | true =>
      rw [he] at HSL
      have HE := Lib.hid he
      have HNL := Lib.hid hnl
      clear he
      obtain ⟨m, rfl⟩ : ∃ m : Nat, more = (m : Int) := ⟨more.toNat, by omega⟩
      have HROWS := Lib.hid (fun g g2 V (hG : IsBasis V g2 (some ⟨g, 0, none⟩) rows.length (numbered rows)) (hP : Pcs V (some ⟨g, 0, none⟩) (numbered rows)) => by
        have h := rows_c g2 (some ⟨g, 0, none⟩) (numbered rows) rows.length rows.length (rows.length + m) (by omega) (by omega) (by omega) (by omega) (nums_numbered l2) (by rw [numbered_datas]; exact HE.out) (by rw [numbered_datas]; exact HHD.out) V hG hP
        rw [show rows.length + m - rows.length = m by omega, Int.natCast_add] at h
        exact h)
      have hz : ∀ w : World, (zeroValue 51).run Try.prog w = .ok (.agg (bas none 0 0 nil100)) w := fun _ => by kernel_rfl
      have HS0 := Lib.hid (show (bas none 0 0 nil100).size = 101 from bas_size nil100_len)
      have HS1 := Lib.hid (fun g => show (bas (some ⟨g, 0, none⟩) rows.length rows.length (tab (sc (nums8 (numbered rows))))).size = 101 from bas_size (tab_len _))
      have HIB := Lib.hid (fun g g2 V (h : Known V g2 51 (bas (some ⟨g, 0, none⟩) rows.length rows.length (tab (sc (nums8 (numbered rows)))))) => by
        have h2 : IsBasis V g2 (some ⟨g, 0, none⟩) rows.length (numbered rows) := by unfold IsBasis; rw [hnl]; exact h
        exact h2)
      generalize hz0 : bas none 0 0 nil100 = z0 at *
      have HMI := Lib.hid (fun outs (h1 : outs.length = m) (h2 : RowsFrom (numbered rows) rows.length outs) => (show MoreIs rows (m : Int) outs 0 from .inr (.inr ⟨HNB.out, HE.out, rfl, by rw [Int.toNat_natCast]; exact rows_adds h1 h2⟩)))
      have ho := fun g => bas_one (some ⟨g, 0, none⟩) rows.length rows.length (tab (sc (nums8 (numbered rows))))
      have HO := Lib.hid ho
      clear hz0 ho HHD HNB HE hnl hm
      generalize hX : (fun g => bas (some ⟨g, 0, none⟩) rows.length rows.length (tab (sc (nums8 (numbered rows))))) = X at *
      have hXg : ∀ g, bas (some ⟨g, 0, none⟩) rows.length rows.length (tab (sc (nums8 (numbered rows)))) = X g := fun g => by rw [← hX]
      have HXG := Lib.hid hXg
      clear hX hXg
      generalize hN : rows.length = n at *
      have HN := Lib.hid hN
      clear hN
      go_enter Try.func9, Try.ntmps9
      go_wp2_with fail
      refine (HW.out _).mono ?_
      rintro e w' ⟨rfl, rfl⟩
      go_wp2_with fail
      refine HNUM.out.mono ?_
      rintro e w1 ⟨g, rfl, hP, hB⟩
      rw [HNL.out]
      have HP := Lib.hid hP
      have HB := Lib.hid hB
      clear hP hB
      go_wp2_with fail
      refine (HSL.out g w1 HP.out).mono ?_
      rintro e w2 ⟨rfl, hB2⟩
      have HP2 := Lib.hid (HP.out.below hB2)
      have HB2 := Lib.hid (HB.out.trans (hB2.mono HB.out.size))
      clear hB2
      go_wp2_with fail
      refine (HNB2.out g w2 HP2.out).mono ?_
      rintro e w3 ⟨rfl, hB3⟩
      rw [HXG.out g]
      have HP3 := Lib.hid (HP2.out.below hB3)
      have HB3 := Lib.hid (HB2.out.trans (hB3.mono HB2.out.size))
      have hs1 := HS1.out g
      rw [HXG.out g] at hs1
      have ho1 := HO.out g
      rw [HXG.out g] at ho1
      have HS2 := Lib.hid hs1
      have HO2 := Lib.hid ho1
      clear hB3 hs1 ho1
      go_wp2_with ((refine wpList_store_row rfl 51 _ _ rfl w3.heap.size _ rfl rfl 51 _ (Known.made _ _ _) (by rw [HS2.out]; exact size51) (by rw [HS2.out, HS0.out]) HO2.out ?_))
      have hB4 := below_setRow (HB3.out.alloc HB3.out.size (.cells z0 51)) HB3.out.size (X g)
      have hK4 := known_setRow (cs := X g) (Known.made w3 51 z0)
      have hP4 := HP3.out.below (below_setRow ((Below.refl w3.heap.size w3).alloc (Nat.le_refl _) (.cells z0 51)) (Nat.le_refl _) (X g))
      have HB4 := Lib.hid hB4
      have hcall := HROWS.out g w3.heap.size _ (HIB.out g _ _ (by rw [HXG.out g]; exact hK4)) hP4
      have HCALL := Lib.hid hcall
      clear hB4 hK4 hP4 hcall hz
      go_wp2_with fail
      refine HCALL.out.mono ?_
      rintro e w5 ⟨A5, c5, outs, rfl, hlen, hcap, hR5, hB5, hRF⟩
      have HMM := Lib.hid (HMI.out outs hlen hRF)
      have HR5 := Lib.hid hR5
      have HB5 := Lib.hid (HB4.out.trans (hB5.mono HB4.out.size))
      have HLEN := Lib.hid hlen
      have HCAP := Lib.hid hcap
      clear hlen hcap hR5 hB5 hRF
      go_wp2
      go_ret2
      exact ⟨A5, c5, outs, 0, by rw [HLEN.out]; rfl, by rw [HLEN.out]; exact HCAP.out, HR5.out, HB5.out, HMM.out⟩

theorem nums_take {r m : Nat} {ps : List Pc} (hlim : r + m ≤ 256) (h : scan ((r : Int) + (m : Int)) [] ps = none) : Nums (ps.take r) := by
  obtain ⟨a, b⟩ := scan_none h
  have hin : ∀ p ∈ ps.take r, 0 ≤ p.1 ∧ p.1 < 256 := fun p hp => by have := a p (List.mem_of_mem_take hp); omega
  refine ⟨hin, nums8_nodup ?_ hin⟩
  rw [List.map_take]
  exact b.sublist (List.take_sublist _ _)
theorem take_head {r : Nat} (h0 : 0 < r) (ps : List Pc) : (datas (ps.take r)).headD [] = (datas ps).headD [] := by
  cases ps with
  | nil => simp [datas]
  | cons p ps =>
    obtain ⟨k, rfl⟩ : ∃ k, r = k + 1 := ⟨r - 1, by omega⟩
    rfl
theorem take_even {r : Nat} (h0 : 0 < r) {ps : List Pc} (he : evenB (datas ps) = true) : evenB (datas (ps.take r)) = true := by
  unfold evenB at he ⊢
  rw [take_head h0]
  rw [List.all_eq_true] at he ⊢
  intro d hd
  refine he d ?_
  unfold datas at hd ⊢
  rw [List.map_take] at hd
  exact List.mem_of_mem_take hd
theorem Pcs.take {W : World} {A : Option Addr} {ps : List Pc} (h : Pcs W A ps) (r : Nat) : Pcs W A (ps.take r) := fun k p hp => by
  rw [List.getElem?_take] at hp
  split at hp
  · exact h k p hp
  · cases hp
theorem sane_head {ps : List Pc} (h : SanePs ps) : ((datas ps).headD []).length ≤ 140737488351232 := by
  cases ps with
  | nil => simp [datas]
  | cons p ps => exact (h.2 p (by simp)).2
theorem rows_backs {r : Nat} {ps : List Pc} {outs : List (List UInt8)} (h0 : 0 < r) (hl : outs.length = r) (h : RowsFrom (ps.take r) 0 outs) : Backs r ps outs := ⟨hl, fun j out hj => by
  have := h j out hj
  rw [take_head h0, Nat.zero_add] at this
  exact this⟩
set_option maxHeartbeats 4000000 in
set_option maxRecDepth 100000 in
theorem back_c : BackSpec := by
  intro A r m ps ca W hs hc hr hm hP
  have hl := hs.1
  have hw := wrongPieces_c A r m ps ca hs.1 hr hm W hP
  by_cases hx : wrongPs r m ps = 0
  · rw [hx] at hw
    obtain ⟨g1, g2, g3, g4⟩ := wrongPs_good hx
    have hb : 1 ≤ r ∧ r ≤ 100 ∧ 0 ≤ m ∧ m ≤ 100 := by unfold badRange at g1; omega
    obtain ⟨b1, b2, b3, b4⟩ := hb
    obtain ⟨r, rfl⟩ : ∃ k : Nat, r = (k : Int) := ⟨r.toNat, by omega⟩
    obtain ⟨m, rfl⟩ : ∃ k : Nat, m = (k : Int) := ⟨m.toNat, by omega⟩
    have hnums := nums_take (by omega) g2
    have htl : (ps.take r).length = r := by rw [List.length_take]; omega
    have hnb := fun V (hb : Below W.heap.size W V) => newBasis_c A (ps.take r) ca (by omega) hnums V (Pcs.take (hP.below hb) r)
    unfold BasisMade at hnb
    rw [htl] at hnb
    have hrows := fun g2 V (hG : IsBasis V g2 A ca (ps.take r)) (hb : Below W.heap.size W V) =>
      rows_c g2 A (ps.take r) ca 0 r (by omega) (by omega) (by omega) (by omega) hnums (take_even (by omega) g4) (by rw [take_head (by omega)]; exact sane_head hs) V hG (Pcs.take (hP.below hb) r)
    rw [Nat.sub_zero] at hrows
    have hib := fun g2 V (h : Known V g2 51 (bas A r ca (tab (sc (nums8 (ps.take r)))))) => (by
      have h2 : IsBasis V g2 A ca (ps.take r) := by unfold IsBasis; rw [htl]; exact h
      exact h2)
    have hmi := fun outs (h1 : outs.length = r) (h2 : RowsFrom (ps.take r) 0 outs) => (show BackIs (r : Int) (m : Int) ps outs 0 from .inr (.inr ⟨g1, g2, .inr (.inr ⟨g3, g4, rfl, by rw [Int.toNat_natCast]; exact rows_backs (by omega) h1 h2⟩)⟩))
    have HW := Lib.hid hw
    have HNB := Lib.hid hnb
    have HROWS := Lib.hid hrows
    have HIB := Lib.hid hib
    have HMI := Lib.hid hmi
    have HS0 := Lib.hid (show (bas none 0 0 nil100).size = 101 from bas_size nil100_len)
    have hs1 : (bas A r ca (tab (sc (nums8 (ps.take r))))).size = 101 := bas_size (tab_len _)
    have ho1 := bas_one A r ca (tab (sc (nums8 (ps.take r))))
    have HS1 := Lib.hid hs1
    have HO1 := Lib.hid ho1
    have hz : ∀ w : World, (zeroValue 51).run Try.prog w = .ok (.agg (bas none 0 0 nil100)) w := fun _ => by kernel_rfl
    generalize hz0 : bas none 0 0 nil100 = z0 at *
    generalize hX : bas A r ca (tab (sc (nums8 (ps.take r)))) = X at *
    have hca : (r : Int) ≤ (ca : Int) := by omega
    clear hw hnb hrows hib hmi hs1 ho1 hz0 hX hx g1 g2 g4 hnums htl hs hP hr hm
    generalize hN : ps.length = n at *
    clear hN
    go_enter Try.func13, Try.ntmps13
    go_wp2_with fail
    refine HW.out.mono ?_
    rintro e w1 ⟨rfl, hB⟩
    have HB := Lib.hid hB
    clear hB
    go_wp2_with fail
    refine (HNB.out w1 HB.out).mono ?_
    rintro e w3 ⟨rfl, hB3⟩
    have HB3 := Lib.hid (HB.out.trans (hB3.mono HB.out.size))
    clear hB3
    go_wp2_with ((refine wpList_store_row rfl 51 _ _ rfl w3.heap.size _ rfl rfl 51 _ (Known.made _ _ _) (by rw [HS1.out]; exact size51) (by rw [HS1.out, HS0.out]) HO1.out ?_))
    have hB4 := below_setRow (HB3.out.alloc HB3.out.size (.cells z0 51)) HB3.out.size X
    have hK4 := known_setRow (cs := X) (Known.made w3 51 z0)
    have HB4 := Lib.hid hB4
    have hcall := HROWS.out w3.heap.size _ (HIB.out _ _ hK4) hB4
    have HCALL := Lib.hid hcall
    clear hB4 hK4 hcall hz
    go_wp2_with fail
    refine HCALL.out.mono ?_
    rintro e w5 ⟨A5, c5, outs, rfl, hlen, hcap, hR5, hB5, hRF⟩
    have HMM := Lib.hid (HMI.out outs hlen hRF)
    have HR5 := Lib.hid hR5
    have HB5 := Lib.hid (HB4.out.trans (hB5.mono HB4.out.size))
    have HLEN := Lib.hid hlen
    have HCAP := Lib.hid hcap
    clear hlen hcap hR5 hB5 hRF
    go_wp2
    go_ret2
    exact ⟨A5, c5, outs, 0, by rw [HLEN.out]; rfl, by rw [HLEN.out]; exact HCAP.out, HR5.out, HB5.out, HMM.out⟩
  · have HW := Lib.hid hw
    have HBI := Lib.hid (wrongPs_bad hx)
    have b1 : (wrongPs r m ps != 0) = true := by simpa using hx
    clear hw hx hs hP hr hm hl
    go_enter Try.func13, Try.ntmps13
    go_wp2_with fail
    refine HW.out.mono ?_
    rintro e w' ⟨rfl, hB⟩
    have HB := Lib.hid hB
    clear hB
    go_wp2
    go_ret2
    exact ⟨none, 0, [], _, rfl, by simp, Rds.nil, HB.out, HBI.out⟩
end Go.Proofs.Ytomhcjnhhdbhjaa.Cdr
