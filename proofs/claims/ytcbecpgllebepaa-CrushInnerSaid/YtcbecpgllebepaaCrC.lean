/-
  Contracts of package crush: others, Place, Moved, over straw's Choose and Some.
-/
import Derived.Test.YtcbecpgllebepaaCrB
import Derived.Test.YtcbecpgllebepaaSwSpec
namespace Go.Proofs.Ytcbecpgllebepaa.Crush
set_option linter.unusedVariables false
set_option linter.unusedSimpArgs false
open Go.RowKit Mem Straw

/-! ### make -/
theorem infoSpZ : (Try.prog.info? 31).map (fun i => (i.zero.map (·.cells), i.size, i.bytes)) = some (some #[Value.int .i64 0, Value.int .i64 0], 2, 16) := by kernel_rfl
theorem make_spots (n : Nat) (hn : n ≤ 4398046511105) : ∃ cs : Array Value, ∀ w : World, (Instr.makeSlice 24 (.int .i64 n) (.int .i64 n)).run Try.prog w = .ok (.slice (some ⟨w.heap.size, 0, none⟩) n n) (w.alloc (.cells cs 31)) ∧
    ∀ B, B ≤ w.heap.size → STab (w.alloc (.cells cs 31)) B (.slice (some ⟨w.heap.size, 0, none⟩) n n) (List.replicate n (0, 0)) := by
  have h0 := infoSpZ
  cases hi : Try.prog.info? 31 with
  | none => rw [hi] at h0; cases h0
  | some i =>
    rw [hi] at h0
    simp only [Option.map_some, Option.some.injEq, Prod.mk.injEq] at h0
    cases hz : i.zero with
    | none => rw [hz] at h0; cases h0.1
    | some z =>
      rw [hz] at h0
      simp only [Option.map_some, Option.some.injEq] at h0
      obtain ⟨hz1, hz2, hz3⟩ := h0
      refine ⟨madeCells z.cells (n * 2), fun w => ⟨?_, fun B hB => ?_⟩⟩
      · have := run_make (P := Try.prog) w 24 31 i z Try.underlying24 hi hz .i64 .i64 n n (by omega) (by omega) (by rw [hz3]; omega) (by omega)
        rw [this, hz2]; rfl
      · refine ⟨by rw [flat_len], .inr ⟨w.heap.size, n, _, by rw [List.length_replicate], hB, heap_alloc_new w _, by rw [List.length_replicate]; exact Nat.le_refl _, by unfold maxLen; omega, size_madeCells _ _, ?_⟩⟩
        rw [hz1, List.length_replicate, List.take_of_length_le (by rw [madeTwo, flat_len, List.length_replicate]; exact Nat.le_refl _), madeTwo]
/-- The two cells of a place. -/
theorem stab_cells {W : World} {B g n cap k : Nat} {es : List It} (h : STab W B (.slice (some ⟨g, 0, none⟩) n cap) es) (hn : es.length = n) (hk : k < n) :
    (∃ u v, W.cell? ⟨g, k * 2, none⟩ = some u ∧ W.cell? ⟨g, k * 2 + 1, none⟩ = some v) ∧ W.frozen? ⟨g, k * 2, none⟩ = false ∧ W.frozen? ⟨g, k * 2 + 1, none⟩ = false := by
  obtain ⟨b, o, e, _, c0, c1⟩ := h.rds k _ (List.getElem?_eq_getElem (show k < es.length by omega))
  injection e with e
  injection e with e1 e2
  subst e1 e2
  rw [Nat.zero_add] at c0 c1
  exact ⟨⟨_, _, c0, c1⟩, h.free hn.symm _, h.free hn.symm _⟩

/-! ### others -/
set_option maxRecDepth 100000 in
set_option maxHeartbeats 4000000 in
theorem others_c (A1 : Option Addr) (l1 : List It) (n1 c1 : Nat) (A2 : Option Addr) (l2 : List It) (n2 c2 : Nat) (W : World) (h1 : l1.length = n1) (h1b : n1 ≤ 16) (x1 : WRds W A1 l1) (h2 : l2.length = n2) (h2b : n2 ≤ 16) (x2 : WRds W A2 l2) :
    Calls Try.prog 34 #[.slice A1 n1 c1, .slice A2 n2 c2] W (Gave (.int .i64 (newIn l1 l2 : Nat)) W) := by
  have X1 := Lib.hid x1
  have X2 := Lib.hid x2
  have H1 := Lib.hid h1
  have H2 := Lib.hid h2
  clear x1 x2 h1 h2
  go_enter Try.func34, Try.ntmps34
  go_wp2
  go_loopw [5, 10] (fun c i wr => ∃ k : Nat, k ≤ n2 ∧ i = .int .i64 k ∧ c = .int .i64 (newIn l1 (l2.take k) : Nat) ∧ Below W.heap.size W wr) (fun _ i _ => n2 - (intOf i).toNat)
  case atStart => exact ⟨0, by omega, rfl, by simp [newIn], Below.refl _ _⟩
  case round =>
    obtain ⟨k, hk, rfl, rfl, hB⟩ := hrel
    have HB := Lib.hid hB
    by_cases hlt : k < n2
    · have i1 : (k : Int) < (n2 : Int) := by omega
      have kl : k < l2.length := by rw [H2.out]; exact hlt
      obtain ⟨s, hs⟩ : ∃ s, l2[k]? = some s := ⟨_, List.getElem?_eq_getElem kl⟩
      obtain ⟨b, o, rfl, hbl, q0, q1⟩ := (X2.out.below hB) k s hs
      have ES := Lib.hid hs
      obtain ⟨s0, s1⟩ := s
      obtain ⟨d0, d1⟩ := boxS wr (.int .i64 s0) (.int .i64 s1)
      have LA := Lib.hid (HB.out.alloc HB.out.size (.cells #[.int .i64 s0, .int .i64 s1] 31))
      obtain ⟨C, hC⟩ : ∃ C, C = newIn l1 (l2.take k) := ⟨_, rfl⟩
      have CB : C ≤ 16 := by rw [hC]; exact Nat.le_trans (newIn_le _ _) (by rw [List.length_take]; omega)
      have CN := Lib.hid (show newIn l1 (l2.take (k + 1)) = C + if (s0, s1) ∈ l1 then 0 else 1 by rw [List.take_add_one, hs, hC]; exact newIn_snoc _ _ _)
      rw [← hC]
      have CT := Lib.hid (containsS_c A1 l1 n1 c1 (s0, s1) _ (X1.out.below LA.out) H1.out (by omega))
      have w1 : IntKind.i64.wrap ((C : Int) + 1) = ((C + 1 : Nat) : Int) := by rw [IntWalk.i64_in _ (by omega)]; simp
      clear hC hB hs
      go_wp2_with fail
      refine CT.out.mono ?_
      rintro e wd ⟨rfl, hbd⟩
      have KD := Lib.hid (LA.out.trans (hbd.mono LA.out.size))
      clear hbd q0 q1 d1 d0
      by_cases hm : (s0, s1) ∈ l1
      · rw [decide_eq_true hm]
        have CC := Lib.hid (show newIn l1 (l2.take (k + 1)) = C by rw [CN.out, if_pos hm]; rfl)
        clear hm
        go_wp2
        go_roundw
        case rel => exact ⟨k + 1, by omega, by go_num, by rw [CC.out], KD.out⟩
        case measure => simp [intOf]; omega
      · rw [decide_eq_false hm]
        have CC := Lib.hid (show newIn l1 (l2.take (k + 1)) = C + 1 by rw [CN.out, if_neg hm])
        clear hm
        go_wp2
        go_roundw
        case rel => exact ⟨k + 1, by omega, by go_num, by rw [CC.out]; go_num, KD.out⟩
        case measure => simp [intOf]; omega
    · obtain rfl : k = n2 := by omega
      have HE := Lib.hid (show newIn l1 (l2.take k) = newIn l1 l2 by rw [List.take_of_length_le (by rw [H2.out]; omega)])
      rw [HE.out]
      clear hB
      go_wp2
      go_ret
      exact ⟨rfl, HB.out⟩
/-! ### Place -/
theorem plE_some {key : UInt64} {hs : List Ht} {many : Int} (h : krE hs = 0) : plE key hs many = someE key (wts hs) many := by
  have hg := krE_zero.1 h
  have h2 := wrongE_zero.2 hg.2
  unfold plE someE
  rw [if_neg (by simpa using h), if_neg (show ¬ (wrongE (wts hs) ≠ 0) from fun h => h h2)]
theorem wts_fits {hs : List Ht} (h : FitsH hs) (hg : Good hs) : Fits (wts hs) := fun a ha => by
  have h2 := (hg.2.2.1 a ha).2
  refine ⟨wts_wf h a ha, ?_⟩
  simp [Lit.wf, IntKind.min, IntKind.max, IntKind.bits, IntKind.signed]
  omega
theorem host_at {key : UInt64} {hs : List Ht} (hg : Good hs) {id : Int} (hi : id ∈ ids key (wts hs)) : ∃ (i : Nat) (x : Ht), hs[i]? = some x ∧ x.1 = id ∧ Valid x.2 ∧ (∀ (j : Nat) (y : Ht), j < i → hs[j]? = some y → y.1 ≠ x.1) ∧ spot key hs id = (x.1, dev key x.1 x.2) := by
  obtain ⟨x, hx, rfl, hw0⟩ := ids_host hg hi
  obtain ⟨i, hi⟩ := List.mem_iff_getElem?.1 hx
  refine ⟨i, x, hi, rfl, hg.1 x hx, fun j y hj hy e => ?_, spot_host hg hx⟩
  have hp := List.pairwise_iff_getElem.1 (show (hs.map (·.1)).Pairwise (· ≠ ·) from good_once hg)
  obtain ⟨a1, a2⟩ := List.getElem?_eq_some_iff.1 hy
  obtain ⟨b1, b2⟩ := List.getElem?_eq_some_iff.1 hi
  have := hp j i (by simpa using a1) (by simpa using b1) hj
  simp only [List.getElem_map] at this
  rw [a2, b2] at this
  exact this e
set_option maxRecDepth 100000 in
set_option maxHeartbeats 8000000 in
theorem place_ok (hC : ChSpec) (hS : SomeSpec) (key : UInt64) (A : Option Addr) (hs : List Ht) (n ca j : Nat) (W : World) (hn : hs.length = n) (hca : n ≤ ca) (hx : HRds W A hs) (hf : FitsH hs) (h0 : plE key hs j = 0) :
    Calls Try.prog 9 #[.int .u64 key.toNat, .slice A n ca, .int .i64 j] W (SpotsErr (plL key hs j) 0 W) := by
  obtain ⟨hg, hj, hl⟩ := plE_zero.1 h0
  have h16 : n ≤ 16 := by rw [← hn]; exact good_len hg
  have WR := wrongK_c A hs n ca W hn (by omega) hca hx hf
  rw [krE_zero.2 hg] at WR
  have WRO := Lib.hid WR
  have WG := Lib.hid (fun V (hB : Below W.heap.size W V) => weighted_c A hs n ca V hn (by omega) (hx.below hB) hg.1)
  have hse : someE key (wts hs) j = 0 := by rw [← plE_some (krE_zero.2 hg)]; exact h0
  have hsl : someL key (wts hs) j = (ids key (wts hs)).take j := by unfold someL; rw [if_pos hse, Int.toNat_natCast]
  have SM := Lib.hid (fun V A2 c2 (hc : n ≤ c2) (hT : WRds V A2 (wts hs)) => hS key A2 (wts hs) n c2 j V (by rw [wts_len, hn]) (by unfold maxLen; omega) hc hT (wts_fits hf hg))
  rw [hse, hsl] at SM
  have PL := Lib.hid (plL_ok h0)
  have LJ := Lib.hid (show ((ids key (wts hs)).take j).length = j by rw [List.length_take]; omega)
  have DV := Lib.hid (fun (k : Nat) (id : Int) (hk : ((ids key (wts hs)).take j)[k]? = some id) V (hB : Below W.heap.size W V) => show Calls Try.prog 28 #[.int .u64 key.toNat, .slice A n ca, .int .i64 id] V (Gave (.int .i64 (spot key hs id).2) V) by
    obtain ⟨i, x, hi, rfl, hv, hfirst, hsp⟩ := host_at hg (List.mem_of_mem_take (List.mem_of_getElem? hk))
    rw [hsp]
    exact device_c hC key A hs n ca i x V hn (by omega) (hx.below hB) hi hfirst hv)
  have SF := Lib.hid (fun id => show (spot key hs id).1 = id from rfl)
  have ML := Lib.hid (fun (k : Nat) (id : Int) (hk : ((ids key (wts hs)).take j)[k]? = some id) => show (((ids key (wts hs)).take j).map (spot key hs))[k]? = some (spot key hs id) by rw [List.getElem?_map, hk]; rfl)
  have PLN := Lib.hid (show (((ids key (wts hs)).take j).map (spot key hs)).length = j by rw [List.length_map]; exact LJ.out)
  obtain ⟨L, hL⟩ : ∃ L, L = (ids key (wts hs)).take j := ⟨_, rfl⟩
  rw [← hL] at SM PL LJ DV ML PLN
  obtain ⟨S, hSe⟩ : ∃ S, S = L.map (spot key hs) := ⟨_, rfl⟩
  rw [← hSe] at PL ML PLN
  have hj16 : j ≤ 16 := by omega
  obtain ⟨cs, hmk⟩ := make_spots j (by omega)
  have mk := fun w => (hmk w).1
  have MT := Lib.hid (fun w => (hmk w).2)
  clear hn hx hf h0 hg hl hse hsl hL hSe hmk WR hj
  go_enter Try.func9, Try.ntmps9
  go_wp2_with fail
  refine WRO.out.mono ?_
  rintro e w1 ⟨rfl, hb1⟩
  have B1 := Lib.hid hb1
  clear hb1
  go_wp2_with fail
  refine (WG.out _ B1.out).mono ?_
  rintro e w2 ⟨A2, c2, rfl, hT2, hc2, hb2⟩
  have B2 := Lib.hid (B1.out.trans (hb2.mono B1.out.size))
  have S2 := Lib.hid (SM.out w2 A2 c2 hc2 hT2.rds)
  clear hb2 hT2
  go_wp2_with fail
  refine S2.out.mono ?_
  rintro e w3 ⟨A3, c3, rfl, hr3, hb3⟩
  rw [LJ.out]
  have B3 := Lib.hid (B2.out.trans (hb3.mono B2.out.size))
  have R3 := Lib.hid hr3
  clear hb3 hr3 S2
  go_wp2
  have T4 := Lib.hid (MT.out w3 w3.heap.size (Nat.le_refl _))
  have B4 := Lib.hid (show Below w3.heap.size w3 (w3.alloc (.cells cs 31)) from (Below.refl _ _).alloc (Nat.le_refl _) _)
  clear mk
  go_loopw [35] (fun i wr => ∃ k : Nat, k ≤ j ∧ i = .int .i64 k ∧ STab wr w3.heap.size (.slice (some ⟨w3.heap.size, 0, none⟩) j j) (partG (0, 0) S j k) ∧ Below w3.heap.size w3 wr) (fun i _ => j - (intOf i).toNat)
  case atStart => exact ⟨0, by omega, rfl, by rw [partG_start]; exact T4.out, B4.out⟩
  case round =>
    obtain ⟨k, hk, rfl, hT, hB⟩ := hrel
    have HT := Lib.hid hT
    have HB := Lib.hid hB
    clear hT hB
    by_cases hlt : k < j
    · have kl : k < L.length := by rw [LJ.out]; exact hlt
      obtain ⟨id, hid⟩ : ∃ id, L[k]? = some id := ⟨_, List.getElem?_eq_getElem kl⟩
      obtain ⟨b, o, rfl, hbl, q0⟩ := (R3.out.below HB.out) k (.int .i64 id) (by rw [List.getElem?_map, hid]; rfl)
      have DC := Lib.hid (DV.out k id hid wr (B3.out.trans (HB.out.mono B3.out.size)))
      have PS := Lib.hid (partG_set (d := ((0 : Int), (0 : Int))) PLN.out (ML.out k id hid))
      have PP := Lib.hid (partG_len (d := ((0 : Int), (0 : Int))) PLN.out hk)
      have S1 := SF.out id
      obtain ⟨sp, hsp⟩ : ∃ sp, sp = spot key hs id := ⟨_, rfl⟩
      rw [← hsp] at DC PS S1
      obtain ⟨p0, p1⟩ := sp
      have S1 : p0 = id := S1
      subst S1
      have i1 : (k : Int) < (j : Int) := by omega
      clear hid kl hsp
      go_wp2_with fail
      refine DC.out.mono ?_
      rintro e w5 ⟨rfl, hb5⟩
      have T5 := Lib.hid (HT.out.later hb5)
      have B5 := Lib.hid (HB.out.trans (hb5.mono HB.out.size))
      obtain ⟨⟨u, v, z0, z1⟩, f0, f1⟩ := stab_cells T5.out PP.out hlt
      clear hb5 DC
      have P2 := Lib.hid (show STab ((w5.setCell ⟨w3.heap.size, k * 2, none⟩ (.int .i64 p0)).setCell ⟨w3.heap.size, k * 2 + 1, none⟩ (.int .i64 p1)) w3.heap.size (.slice (some ⟨w3.heap.size, 0, none⟩) j j) (partG (0, 0) S j (k + 1)) by
        have := T5.out.put PP.out.symm hlt (p0, p1)
        rwa [PS.out] at this)
      have B6 := Lib.hid (show Below w3.heap.size w3 ((w5.setCell ⟨w3.heap.size, k * 2, none⟩ (.int .i64 p0)).setCell ⟨w3.heap.size, k * 2 + 1, none⟩ (.int .i64 p1)) from (B5.out.setCell (Nat.le_refl _) _).setCell (Nat.le_refl _) _)
      go_wp2
      go_roundw
      case rel => exact ⟨k + 1, by omega, by go_num, P2.out, B6.out⟩
      case measure => simp [intOf]; omega
    · obtain rfl : k = j := by omega
      have T7 := HT.out
      rw [partG_end PLN.out] at T7
      have T8 := Lib.hid T7.rds
      clear T7
      go_wp2
      go_ret2
      exact ⟨some ⟨w3.heap.size, 0, none⟩, k, by rw [PL.out, PLN.out]; rfl, by rw [PL.out, PLN.out]; exact Nat.le_refl _, by rw [PL.out]; exact T8.out, B3.out.trans (HB.out.mono B3.out.size)⟩
set_option maxRecDepth 100000 in
set_option maxHeartbeats 8000000 in
theorem place_bad (hS : SomeSpec) (key : UInt64) (A : Option Addr) (hs : List Ht) (n ca : Nat) (many e0 : Int) (W : World) (hn : hs.length = n) (hb : n ≤ 4398046511105) (hca : n ≤ ca) (hx : HRds W A hs) (hf : FitsH hs) (he : plE key hs many = e0) (h0 : e0 ≠ 0) :
    Calls Try.prog 9 #[.int .u64 key.toNat, .slice A n ca, .int .i64 many] W (SpotsErr [] e0 W) := by
  have WR := wrongK_c A hs n ca W hn hb hca hx hf
  by_cases hk : krE hs = 0
  · have hg := krE_zero.1 hk
    rw [hk] at WR
    have WRO := Lib.hid WR
    have WG := Lib.hid (fun V (hB : Below W.heap.size W V) => weighted_c A hs n ca V hn hb (hx.below hB) hg.1)
    have hse : someE key (wts hs) many = e0 := by rw [← plE_some hk]; exact he
    have hsl : someL key (wts hs) many = [] := by unfold someL; rw [hse, if_neg h0]
    have SM := Lib.hid (fun V A2 c2 (hc : n ≤ c2) (hT : WRds V A2 (wts hs)) => hS key A2 (wts hs) n c2 many V (by rw [wts_len, hn]) (by unfold maxLen; omega) hc hT (wts_fits hf hg))
    rw [hse, hsl] at SM
    have hv := someE_vals key (wts hs) many
    rw [hse] at hv
    clear hn hca hx hf he hg hk WR hse hsl
    rcases hv with rfl | rfl | rfl | rfl
    · exact absurd rfl h0
    all_goals
      clear h0
      go_enter Try.func9, Try.ntmps9
      go_wp2_with fail
      refine WRO.out.mono ?_
      rintro e w1 ⟨rfl, hb1⟩
      have B1 := Lib.hid hb1
      clear hb1
      go_wp2_with fail
      refine (WG.out _ B1.out).mono ?_
      rintro e w2 ⟨A2, c2, rfl, hT2, hc2, hb2⟩
      have B2 := Lib.hid (B1.out.trans (hb2.mono B1.out.size))
      have S2 := Lib.hid (SM.out w2 A2 c2 hc2 hT2.rds)
      clear hb2 hT2
      go_wp2_with fail
      refine S2.out.mono ?_
      rintro e w3 ⟨A3, c3, rfl, hr3, hb3⟩
      have B3 := Lib.hid (B2.out.trans (hb3.mono B2.out.size))
      clear hb3 hr3 S2
      go_wp2
      go_ret2
      exact ⟨none, 0, rfl, Nat.le_refl _, WRds.nil, B3.out⟩
  · have he2 : krE hs = e0 := by rw [← he]; unfold plE; rw [if_pos hk]
    have hv := krE_vals hs
    rw [he2] at hv WR
    have WRO := Lib.hid WR
    clear hn hca hx hf he hk WR he2
    rcases hv with rfl | rfl | rfl
    · exact absurd rfl h0
    all_goals
      clear h0
      go_enter Try.func9, Try.ntmps9
      go_wp2_with fail
      refine WRO.out.mono ?_
      rintro e w1 ⟨rfl, hb1⟩
      have B1 := Lib.hid hb1
      clear hb1
      go_wp2
      go_ret2
      exact ⟨none, 0, rfl, Nat.le_refl _, WRds.nil, B1.out⟩
theorem wrong_spec : WrongSpec := fun A hs n ca V h1 h2 h3 h4 h5 => wrongK_c A hs n ca V h1 h2 h3 h4 h5
theorem place_of (hC : ChSpec) (hS : SomeSpec) : PlaceSpec := fun key A hs n ca many V h1 h2 h3 h4 h5 => by
  by_cases h : plE key hs many = 0
  · obtain ⟨j, rfl⟩ : ∃ j : Nat, many = j := ⟨many.toNat, by have := (plE_zero.1 h).2.1; omega⟩
    rw [h]
    exact place_ok hC hS key A hs n ca j V h1 h3 h4 h5 h
  · have hl : plL key hs many = [] := by unfold plL; rw [if_neg h]
    rw [hl]
    exact place_bad hS key A hs n ca many _ V h1 h2 h3 h4 h5 rfl h

/-! ### Moved -/
theorem mvS_step {ks : List UInt64} {a b : List Ht} {many : Int} {k : Nat} {x : UInt64} (hk : ks[k]? = some x) :
    mvS a b many (ks.drop k) = if plE x a many ≠ 0 then plE x a many else if plE x b many ≠ 0 then plE x b many else mvS a b many (ks.drop (k + 1)) := by
  obtain ⟨h1, rfl⟩ := List.getElem?_eq_some_iff.1 hk
  rw [List.drop_eq_getElem_cons h1, mvS]
theorem mvT_step {ks : List UInt64} {a b : List Ht} {many : Int} {k : Nat} {x : UInt64} (hk : ks[k]? = some x) :
    mvT a b many (ks.take (k + 1)) = mvT a b many (ks.take k) + newIn (plL x a many) (plL x b many) := by
  unfold mvT
  rw [List.take_add_one, hk, List.map_append, List.sum_append]
  simp
theorem plL_le16 (key : UInt64) (hs : List Ht) (many : Int) : (plL key hs many).length ≤ 16 := by
  by_cases h : plE key hs many = 0
  · obtain ⟨j, rfl⟩ : ∃ j : Nat, many = j := ⟨many.toNat, by have := (plE_zero.1 h).2.1; omega⟩
    rw [plL_len h]
    have := (plE_zero.1 h).2.1
    omega
  · unfold plL; rw [if_neg h]; simp
theorem mvT_le (a b : List Ht) (many : Int) (ks : List UInt64) : mvT a b many ks ≤ 16 * ks.length := by
  induction ks with
  | nil => simp [mvT]
  | cons k ks ih =>
    unfold mvT at *
    simp only [List.map_cons, List.sum_cons, List.length_cons]
    have := newIn_le (plL k a many) (plL k b many)
    have := plL_le16 k b many
    omega
set_option maxRecDepth 100000 in
set_option maxHeartbeats 8000000 in
theorem moved_of (hP : PlaceSpec) : MovedSpec := fun K ks nk ck A a na ca B b nb cb many W hk hkb hK ha hab hac hA hAf hb hbb hbc hB hBf => by
  by_cases h4 : 400 < nk
  · have E := Lib.hid (show mvE ks a b many = 2 by unfold mvE; rw [hk, if_pos h4])
    have N := Lib.hid (show mvN ks a b many = 0 by unfold mvN; rw [E.out, if_neg (by decide)])
    have i1 : (400 : Int) < (nk : Int) := by omega
    clear hk hK ha hA hAf hb hB hBf
    go_enter Try.func14, Try.ntmps14
    go_wp2
    go_ret2
    exact ⟨by rw [E.out, N.out]; rfl, Below.refl _ _⟩
  · have ME := Lib.hid (show mvE ks a b many = mvS a b many ks by unfold mvE; rw [hk, if_neg h4])
    have MN := Lib.hid (show mvN ks a b many = if mvS a b many ks = 0 then mvT a b many ks else 0 by unfold mvN; rw [ME.out])
    have PA := Lib.hid (fun key V (hV : Below W.heap.size W V) => hP key A a na ca many V ha hab hac (hA.below hV) hAf)
    have PB := Lib.hid (fun key V (hV : Below W.heap.size W V) => hP key B b nb cb many V hb hbb hbc (hB.below hV) hBf)
    have HK := Lib.hid hK
    have HN := Lib.hid hk
    have TB := Lib.hid (fun j => show mvT a b many (ks.take j) ≤ 6400 from Nat.le_trans (mvT_le a b many _) (by rw [List.length_take]; omega))
    have VA := Lib.hid (fun key => plE_vals key a many)
    have VB := Lib.hid (fun key => plE_vals key b many)
    have i0 : ¬ (400 : Int) < (nk : Int) := by omega
    clear hk hK ha hA hAf hb hB hBf
    go_enter Try.func14, Try.ntmps14
    go_wp2
    go_loopw [10, 21] (fun c i wr => ∃ k : Nat, k ≤ nk ∧ i = .int .i64 k ∧ c = .int .i64 (mvT a b many (ks.take k) : Nat) ∧ mvS a b many ks = mvS a b many (ks.drop k) ∧ Below W.heap.size W wr) (fun _ i _ => nk - (intOf i).toNat)
    case atStart => exact ⟨0, by omega, rfl, by simp [mvT], rfl, Below.refl _ _⟩
    case round =>
      obtain ⟨k, hkn, rfl, rfl, hS, hV⟩ := hrel
      have HS := Lib.hid hS
      have HV := Lib.hid hV
      clear hS
      by_cases hlt : k < nk
      · have i1 : (k : Int) < (nk : Int) := by omega
        have kl : k < ks.length := by rw [HN.out]; exact hlt
        obtain ⟨x, hx⟩ : ∃ x, ks[k]? = some x := ⟨_, List.getElem?_eq_getElem kl⟩
        obtain ⟨b', o', rfl, hbl, q0⟩ := (HK.out.below hV) k (word64 x) (by rw [List.getElem?_map, hx]; rfl)
        have q0 : wr.cell? ⟨b', o' + k, none⟩ = some (.int .u64 (x.toNat : Int)) := q0
        have SS := Lib.hid (mvS_step (a := a) (b := b) (many := many) hx)
        have ST := Lib.hid (mvT_step (a := a) (b := b) (many := many) hx)
        have P1 := Lib.hid (PA.out x wr hV)
        have P2 := Lib.hid (PB.out x)
        have L1 := Lib.hid (plL_le16 x a many)
        have L2 := Lib.hid (plL_le16 x b many)
        have N1 := Lib.hid (newIn_le (plL x a many) (plL x b many))
        have V1 := VA.out x
        have V2 := VB.out x
        have T1 := TB.out k
        obtain ⟨e1, he1⟩ : ∃ e1, e1 = plE x a many := ⟨_, rfl⟩
        rw [← he1] at SS P1 V1
        obtain ⟨e2, he2⟩ : ∃ e2, e2 = plE x b many := ⟨_, rfl⟩
        rw [← he2] at SS P2 V2
        obtain ⟨la, hla⟩ : ∃ la, la = plL x a many := ⟨_, rfl⟩
        rw [← hla] at ST P1 L1 N1
        obtain ⟨lb, hlb⟩ : ∃ lb, lb = plL x b many := ⟨_, rfl⟩
        rw [← hlb] at ST P2 L2 N1
        obtain ⟨C, hC⟩ : ∃ C, C = mvT a b many (ks.take k) := ⟨_, rfl⟩
        rw [← hC] at ST T1 ⊢
        obtain ⟨m1, hm1⟩ : ∃ m1, la.length = m1 := ⟨_, rfl⟩
        obtain ⟨m2, hm2⟩ : ∃ m2, lb.length = m2 := ⟨_, rfl⟩
        have M1 := Lib.hid hm1
        have M2 := Lib.hid hm2
        have b1 : m1 ≤ 16 := by rw [← hm1]; exact L1.out
        have b2 : m2 ≤ 16 := by rw [← hm2]; exact L2.out
        clear kl hx hV he1 he2 hla hlb hC hm1 hm2 hbl
        rcases V1 with rfl | rfl | rfl | rfl
        · go_wp2_with fail
          refine P1.out.mono ?_
          rintro e w2 ⟨A2, c2, rfl, hc2, hr2, hb2⟩
          rw [M1.out]
          have B2 := Lib.hid (HV.out.trans (hb2.mono HV.out.size))
          have R2 := Lib.hid hr2
          have P3 := Lib.hid (P2.out w2 B2.out)
          clear hb2 hr2 P1 P2 hc2
          rcases V2 with rfl | rfl | rfl | rfl
          · go_wp2_with fail
            refine P3.out.mono ?_
            rintro e w3 ⟨A3, c3, rfl, hc3, hr3, hb3⟩
            rw [M2.out]
            have B3 := Lib.hid (B2.out.trans (hb3.mono B2.out.size))
            have OT := Lib.hid (others_c A2 la m1 c2 A3 lb m2 c3 w3 M1.out b1 (R2.out.below hb3) M2.out b2 hr3)
            have NB : newIn la lb ≤ 16 := Nat.le_trans N1.out (by rw [M2.out]; exact b2)
            obtain ⟨N, hN⟩ : ∃ N, N = newIn la lb := ⟨_, rfl⟩
            rw [← hN] at OT NB ST
            have w1 : IntKind.i64.wrap ((C : Int) + (N : Int)) = ((C + N : Nat) : Int) := by rw [IntWalk.i64_in _ (by omega)]; simp
            have S2 := Lib.hid (show mvS a b many ks = mvS a b many (ks.drop (k + 1)) by rw [HS.out, SS.out, if_neg (by decide), if_neg (by decide)])
            clear hb3 hr3 hc3 P3 hN
            go_wp2_with fail
            refine OT.out.mono ?_
            rintro e w4 ⟨rfl, hb4⟩
            have B4 := Lib.hid (B3.out.trans (hb4.mono B3.out.size))
            clear hb4
            go_wp2
            go_roundw
            case rel => exact ⟨k + 1, by omega, by go_num, by rw [ST.out]; simp, S2.out, B4.out⟩
            case measure => simp [intOf]; omega
          all_goals
            have E2 := Lib.hid (show mvS a b many ks = _ by rw [HS.out, SS.out, if_neg (by decide), if_pos (by decide)])
            have N2 := Lib.hid (show mvN ks a b many = 0 by rw [MN.out, E2.out, if_neg (by decide)])
            go_wp2_with fail
            refine P3.out.mono ?_
            rintro e w3 ⟨A3, c3, rfl, hc3, hr3, hb3⟩
            have B3 := Lib.hid (B2.out.trans (hb3.mono B2.out.size))
            clear hb3 hr3 hc3
            go_wp2
            go_ret2
            exact ⟨by rw [N2.out, ME.out, E2.out]; rfl, B3.out⟩
        all_goals
          have E2 := Lib.hid (show mvS a b many ks = _ by rw [HS.out, SS.out, if_pos (by decide)])
          have N2 := Lib.hid (show mvN ks a b many = 0 by rw [MN.out, E2.out, if_neg (by decide)])
          go_wp2_with fail
          refine P1.out.mono ?_
          rintro e w2 ⟨A2, c2, rfl, hc2, hr2, hb2⟩
          have B2 := Lib.hid (HV.out.trans (hb2.mono HV.out.size))
          clear hb2 hr2 hc2
          go_wp2
          go_ret2
          exact ⟨by rw [N2.out, ME.out, E2.out]; rfl, B2.out⟩
      · obtain rfl : k = nk := by omega
        have E2 := Lib.hid (show mvS a b many ks = 0 by rw [HS.out, List.drop_of_length_le (by rw [HN.out]; omega)]; rfl)
        have N2 := Lib.hid (show mvN ks a b many = mvT a b many (ks.take k) by rw [MN.out, E2.out, if_pos rfl, List.take_of_length_le (by rw [HN.out]; omega)])
        obtain ⟨C, hC⟩ : ∃ C, C = mvT a b many (ks.take k) := ⟨_, rfl⟩
        rw [← hC] at N2 ⊢
        clear hV hC
        go_wp2
        go_ret2
        exact ⟨by rw [N2.out, ME.out, E2.out]; rfl, HV.out⟩
end Go.Proofs.Ytcbecpgllebepaa.Crush
