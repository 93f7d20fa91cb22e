/-
  The law CrushGone over what it takes of the program.
-/
import Derived.Test.YtcbecpgllebepaaCrNewW
import Derived.Test.YtcbecpgllebepaaCrDel2
import Derived.BigQuiet
namespace Go.Proofs.Ytcbecpgllebepaa.Crush
set_option linter.unusedVariables false
set_option linter.unusedSimpArgs false
open Go.RowKit Mem Straw

theorem boxed (W : World) (A : Option Addr) (n ca : Nat) (k : Int) :
    ((W.alloc (.cells #[.slice A n ca] 23)).alloc (.cells #[.int .i64 k] 3)).cell? ⟨W.heap.size, 0, none⟩ = some (.slice A n ca) ∧ ((W.alloc (.cells #[.slice A n ca] 23)).alloc (.cells #[.int .i64 k] 3)).cell? ⟨W.heap.size + 1, 0, none⟩ = some (.int .i64 k) :=
  ⟨((Known.made W _ #[.slice A n ca]).alloc _).cell 0, Known.cell (cs := #[.int .i64 k]) (heap_alloc2_new _ _ _) 0⟩
theorem boxedB (W : World) (A : Option Addr) (n ca : Nat) (k : Int) : Below W.heap.size W ((W.alloc (.cells #[.slice A n ca] 23)).alloc (.cells #[.int .i64 k] 3)) :=
  ((Below.refl _ _).alloc (Nat.le_refl _) _).alloc (by simp) _
theorem vrds_drop {W : World} {b o : Nat} {l : List Hz} (h : VRds W (some ⟨b, o, none⟩) l) (k : Nat) : VRds W (some ⟨b, o + k * 2, none⟩) (l.drop k) := fun j e hj => by
  rw [List.getElem?_drop] at hj
  obtain ⟨b', o', e', h2, h3, h4⟩ := h _ e hj
  injection e' with e'
  injection e' with e1 e2
  subst e1 e2
  rw [show o + (k + j) * 2 = o + k * 2 + j * 2 by omega] at h3 h4
  exact ⟨b, _, rfl, h2, h3, h4⟩
theorem ones_take {l : List Hz} (h : Ones l) (k : Nat) : Ones (l.take k) := fun z hz => h z (List.mem_of_mem_take hz)
theorem ones_drop {l : List Hz} (h : Ones l) (k : Nat) : Ones (l.drop k) := fun z hz => h z (List.mem_of_mem_drop hz)
theorem fits_less {hs : List Ht} (h : FitsH hs) (k : Nat) : FitsH (hs.take k ++ hs.drop (k + 1)) := fun x hx => by
  rcases List.mem_append.1 hx with hx | hx
  · exact h x (List.mem_of_mem_take hx)
  · exact h x (List.mem_of_mem_drop hx)
set_option maxRecDepth 100000 in
set_option maxHeartbeats 8000000 in
theorem gone_early (hP : PlaceSpec) (hM : MovedSpec) (key : UInt64) (A : Option Addr) (hs : List Ht) (n ca : Nat) (k many : Int) (W : World) (hn : hs.length = n) (hb : n ≤ 4398046511104) (hca : n ≤ ca) (hx : HRds W A hs) (hf : FitsH hs) (h : plE key hs many ≠ 0 ∨ k < 0 ∨ (n : Int) ≤ k) :
    Calls Try.prog 6 #[.int .u64 key.toNat, .slice A n ca, .int .i64 k, .int .i64 many] W (Law.Yes W) := by
  have PL := Lib.hid (fun V (hB : Below W.heap.size W V) e l h1 h2 => place_named hP key A hs n ca many V hn (by omega) hca (hx.below hB) hf l _ e h1 rfl h2)
  have AL := Lib.hid (alive_c hP hM)
  obtain ⟨c5, c6⟩ := boxed W A n ca k
  have G0 := Lib.hid (boxedB W A n ca k)
  obtain ⟨w0, hw0⟩ : ∃ w0, w0 = (W.alloc (.cells #[.slice A n ca] 23)).alloc (.cells #[.int .i64 k] 3) := ⟨_, rfl⟩
  have hv := plE_vals key hs many
  have hl : plE key hs many ≠ 0 → plL key hs many = [] := fun h => by unfold plL; rw [if_neg h]
  obtain ⟨e0, he0⟩ : ∃ e0, e0 = plE key hs many := ⟨_, rfl⟩
  obtain ⟨l0, hl0⟩ : ∃ l0, l0 = plL key hs many := ⟨_, rfl⟩
  have P1 := Lib.hid (fun V hB => PL.out V hB e0 l0 hl0.symm he0.symm)
  rw [← he0] at h hv hl
  rw [← hl0] at hl
  obtain ⟨m0, hm0⟩ : ∃ m0, m0 = l0.length := ⟨_, rfl⟩
  rw [← hm0] at P1
  have hm : e0 ≠ 0 → m0 = 0 := fun h => by rw [hm0, hl h]; rfl
  clear hn hb hca hx hf PL he0 hl0 hm0 hl hw0
  have hc : (e0 = 0 ∧ (decide (k < 0) = true ∨ decide (k < 0) = false ∧ (n : Int) ≤ k)) ∨ e0 = 2 ∨ e0 = 6 ∨ e0 = 8 := by
    rcases hv with rfl | h2
    · refine .inl ⟨rfl, ?_⟩
      by_cases hk : k < 0
      · exact .inl (decide_eq_true hk)
      · exact .inr ⟨decide_eq_false hk, by omega⟩
    · exact .inr h2
  clear h hv
  rcases hc with ⟨rfl, q1 | ⟨q1, q2⟩⟩ | hc
  · clear hm
    go_enter Try.func6, Try.ntmps6
    go_wp2_with fail
    refine (AL.out _).mono ?_
    rintro e w1 ⟨rfl, hb⟩
    have d5 := (hb.cell (p := ⟨W.heap.size, 0, none⟩) (World.block_lt_of_cell? _ _ c5)).trans c5
    have d6 := (hb.cell (p := ⟨W.heap.size + 1, 0, none⟩) (World.block_lt_of_cell? _ _ c6)).trans c6
    have G1 := Lib.hid (G0.out.trans (hb.mono G0.out.size))
    clear hb c5 c6
    go_wp2_with fail
    refine (P1.out _ G1.out).mono ?_
    rintro e w2 ⟨A2, c2, rfl, -, hr, hb⟩
    have f5 := (hb.cell (p := ⟨W.heap.size, 0, none⟩) (World.block_lt_of_cell? _ _ d5)).trans d5
    have f6 := (hb.cell (p := ⟨W.heap.size + 1, 0, none⟩) (World.block_lt_of_cell? _ _ d6)).trans d6
    have G2 := Lib.hid (G1.out.trans (hb.mono G1.out.size))
    clear hb hr d5 d6
    go_wp2
    go_ret
    exact ⟨rfl, G2.out⟩
  · have q3 : decide ((n : Int) ≤ k) = true := decide_eq_true q2
    clear hm
    go_enter Try.func6, Try.ntmps6
    go_wp2_with fail
    refine (AL.out _).mono ?_
    rintro e w1 ⟨rfl, hb⟩
    have d5 := (hb.cell (p := ⟨W.heap.size, 0, none⟩) (World.block_lt_of_cell? _ _ c5)).trans c5
    have d6 := (hb.cell (p := ⟨W.heap.size + 1, 0, none⟩) (World.block_lt_of_cell? _ _ c6)).trans c6
    have G1 := Lib.hid (G0.out.trans (hb.mono G0.out.size))
    clear hb c5 c6
    go_wp2_with fail
    refine (P1.out _ G1.out).mono ?_
    rintro e w2 ⟨A2, c2, rfl, -, hr, hb⟩
    have f5 := (hb.cell (p := ⟨W.heap.size, 0, none⟩) (World.block_lt_of_cell? _ _ d5)).trans d5
    have f6 := (hb.cell (p := ⟨W.heap.size + 1, 0, none⟩) (World.block_lt_of_cell? _ _ d6)).trans d6
    have G2 := Lib.hid (G1.out.trans (hb.mono G1.out.size))
    clear hb hr d5 d6
    go_wp2
    go_ret
    exact ⟨rfl, G2.out⟩
  · obtain rfl := hm (by omega)
    clear hm
    rcases hc with rfl | rfl | rfl
    all_goals
      go_enter Try.func6, Try.ntmps6
      go_wp2_with fail
      refine (AL.out _).mono ?_
      rintro e w1 ⟨rfl, hb⟩
      have d5 := (hb.cell (p := ⟨W.heap.size, 0, none⟩) (World.block_lt_of_cell? _ _ c5)).trans c5
      have G1 := Lib.hid (G0.out.trans (hb.mono G0.out.size))
      clear hb c5 c6
      go_wp2_with fail
      refine (P1.out _ G1.out).mono ?_
      rintro e w2 ⟨A2, c2, rfl, -, hr, hb⟩
      have G2 := Lib.hid (G1.out.trans (hb.mono G1.out.size))
      clear hb hr
      go_wp2
      go_ret
      exact ⟨rfl, G2.out⟩
set_option maxRecDepth 100000 in
set_option maxHeartbeats 8000000 in
theorem gone_main (hP : PlaceSpec) (hM : MovedSpec) (key : UInt64) (b o : Nat) (hs : List Ht) (n ca k j : Nat) (x : Ht) (W : World) (hn : hs.length = n) (hca : n ≤ ca) (hx : HRds W (some ⟨b, o, none⟩) hs) (hf : FitsH hs) (hu : hs[k]? = some x) (h : plE key hs j = 0) :
    Calls Try.prog 6 #[.int .u64 key.toNat, .slice (some ⟨b, o, none⟩) n ca, .int .i64 k, .int .i64 j] W (Law.Yes W) := by
  have hkn : k < n := by rw [← hn]; exact (List.getElem?_eq_some_iff.1 hu).1
  obtain ⟨hg, hj, hlen⟩ := plE_zero.1 h
  have hn16 : n ≤ 16 := by rw [← hn]; exact good_len hg
  obtain ⟨b', o', D, nd, cd, e', hbW, x0, _⟩ := hx.host hu
  injection e' with e'
  injection e' with e1 e2
  subst e1 e2
  have AL := Lib.hid (alive_c hP hM)
  have P1 := Lib.hid (fun V (hB : Below W.heap.size W V) => place_named hP key (some ⟨b, o, none⟩) hs n ca j V hn (by omega) hca (hx.below hB) hf _ j 0 rfl (plL_len h) h)
  obtain ⟨g1, g2⟩ := gone h (id := x.1) (left := (plL key hs j).filter (keepS x.1)) rfl
  rw [← erase_filter hg hu] at g1 g2
  obtain ⟨zs, hz, hv⟩ := hosts_cells hx
  obtain ⟨av, hav⟩ : ∃ av, av = plL key hs j := ⟨_, rfl⟩
  have HAV := Lib.hid (show av.length = j by rw [hav]; exact plL_len h)
  rw [← hav] at P1 g1 g2
  obtain ⟨left, hle⟩ : ∃ left, left = av.filter (keepS x.1) := ⟨_, rfl⟩
  rw [← hle] at g1 g2
  obtain ⟨p, hp⟩ : ∃ p, p = left.length := ⟨_, rfl⟩
  have hp16 : p ≤ 16 := by rw [hp, hle]; exact Nat.le_trans (List.length_filter_le _ _) (by rw [HAV.out]; omega)
  rw [← hp] at g1 g2
  have P2 := Lib.hid (fun V A3 c3 q (hq : n - 1 = q) (hc : q ≤ c3) hx3 => place_named hP key A3 (hs.take k ++ hs.drop (k + 1)) q c3 p V (by rw [List.length_append, List.length_take, List.length_drop, hn]; omega) (by omega) hc hx3 (fits_less hf k) left p 0 g2 hp.symm g1)
  have HLE := Lib.hid hle
  have HP := Lib.hid hp
  have EZ := Lib.hid (fun V (hB : Below W.heap.size W V) => ((hz.below hB).take k).app ((hz.below hB).drop (k + 1)))
  have HV := Lib.hid hv
  have OT := Lib.hid (ones_take hz.ones k)
  have OD := Lib.hid (ones_drop hz.ones (k + 1))
  have LT := Lib.hid (show (zs.take k).length = k by rw [List.length_take, hz.1, hn]; omega)
  have LD := Lib.hid (show (zs.drop (k + 1)).length = n - (k + 1) by rw [List.length_drop, hz.1, hn])
  have X0 := Lib.hid x0
  have HBW := Lib.hid hbW
  have mk := fun fn first cap w => (show (Instr.makeFunc fn first cap).run Try.prog w = .ok (.func fn first cap) w from rfl)
  have q1 : decide ((k : Int) < 0) = false := by rw [decide_eq_false_iff_not]; omega
  have q2 : decide ((n : Int) ≤ (k : Int)) = false := by rw [decide_eq_false_iff_not]; omega
  have i1 : (k : Int) ≤ (ca : Int) := by omega
  have i2 : (k : Int) + 1 ≤ (n : Int) := by omega
  have i3 : (n : Int) ≤ (ca : Int) := by omega
  have i4 : IntKind.i64.wrap ((k : Int) + 1) = (k : Int) + 1 := IntWalk.i64_in _ (by omega)
  have hj16 : j ≤ 16 := by omega
  obtain ⟨c5, c6⟩ := boxed W (some ⟨b, o, none⟩) n ca k
  have G0 := Lib.hid (boxedB W (some ⟨b, o, none⟩) n ca k)
  have e1 : ((k : Int) + 1).toNat = k + 1 := by omega
  have f1 : (0 : Int) ≤ (k : Int) := by omega
  have f4 : (0 : Int) ≤ (k : Int) + 1 := by omega
  have TWO : Hid ((∃ o', ((ca = k + 1) = True ∧ o = o' ∨ (ca = k + 1) = False ∧ o + (k + 1) * 2 = o') ∧ ∀ V, VRds V (some ⟨b, o, none⟩) zs → VRds V (some ⟨b, o', none⟩) (zs.drop (k + 1)))) := Lib.hid (by
    by_cases hcap : ca = k + 1
    · exact ⟨o, .inl ⟨eq_true hcap, rfl⟩, fun V _ => by rw [List.eq_nil_of_length_eq_zero (show (zs.drop (k + 1)).length = 0 by rw [LD.out]; omega)]; exact VRds.nil⟩
    · exact ⟨_, .inr ⟨eq_false hcap, rfl⟩, fun V h => vrds_drop h _⟩)
  clear h hg hj hlen hx hf hu hn x0 hbW hz hv hav hle hp g1 g2
  obtain ⟨o', ho, hR⟩ := TWO.out
  have HR := Lib.hid hR
  clear TWO hR
  rcases ho with ⟨hcd, rfl⟩ | ⟨hcd, rfl⟩
  all_goals
    go_enter Try.func6, Try.ntmps6
    go_wp2_with fail
    refine (AL.out _).mono ?_
    rintro e w1 ⟨rfl, hb⟩
    have d5 := (hb.cell (p := ⟨W.heap.size, 0, none⟩) (World.block_lt_of_cell? _ _ c5)).trans c5
    have d6 := (hb.cell (p := ⟨W.heap.size + 1, 0, none⟩) (World.block_lt_of_cell? _ _ c6)).trans c6
    have G1 := Lib.hid (G0.out.trans (hb.mono G0.out.size))
    clear hb c5 c6
    go_wp2_with fail
    refine (P1.out _ G1.out).mono ?_
    rintro e w2 ⟨A2, c2, rfl, -, hr, hb⟩
    have f5 := (hb.cell (p := ⟨W.heap.size, 0, none⟩) (World.block_lt_of_cell? _ _ d5)).trans d5
    have f6 := (hb.cell (p := ⟨W.heap.size + 1, 0, none⟩) (World.block_lt_of_cell? _ _ d6)).trans d6
    have G2 := Lib.hid (G1.out.trans (hb.mono G1.out.size))
    have R2 := Lib.hid hr
    have BX := Lib.hid (World.block_lt_of_cell? _ _ f6)
    clear hb hr d5 d6 G1
    have X2 := Lib.hid (HV.out.below G2.out)
    have SK := Lib.hid (show ∀ w, Below w2.heap.size w2 w → w.cell? ⟨W.heap.size, 0, none⟩ = some (.slice (some ⟨b, o, none⟩) n ca) ∧ w.cell? ⟨W.heap.size + 1, 0, none⟩ = some (.int .i64 (k : Int)) from fun w hb => ⟨(hb.cell (p := ⟨W.heap.size, 0, none⟩) (World.block_lt_of_cell? _ _ f5)).trans f5, (hb.cell (p := ⟨W.heap.size + 1, 0, none⟩) (World.block_lt_of_cell? _ _ f6)).trans f6⟩)
    go_wp2
    go_region_held3 (fun w' => w'.cell? ⟨W.heap.size, 0, none⟩ = some (.slice (some ⟨b, o, none⟩) n ca) ∧ w'.cell? ⟨W.heap.size + 1, 0, none⟩ = some (.int .i64 (k : Int))) (first | go_keep | exact SK.out _ K3.out | exact SK.out _ K4.out)
      (first
        | (go_at_call 21; refine (clone_h (some ⟨b, o, none⟩) (zs.take k) k ca _ LT.out (by omega) (VRds.take (X2.out.below (below_drew (Below.refl _ _))) k) OT.out).mono ?_; rintro e w3 ⟨A3, c3, rfl, hT, hc, hb⟩; have T3 := Lib.hid hT; have K3 := Lib.hid (show Below w2.heap.size w2 w3 from below_undrew' hb); clear hT hc hb)
        | (refine step_append_hosts (n := k) (m := n - (k + 1)) (v := .slice A3 k c3) (es := zs.take k) (ys := zs.drop (k + 1)) (by rfl) _ _ (by rfl) rfl rfl rfl T3.out LT.out (HR.out _ (X2.out.below K3.out)) LD.out OD.out (by omega) K3.out.size ?_; intro A4 c4 w4 Z4 G4; have K4 := Lib.hid (below_app_g K3.out T3.out (by simp) G4.out)))
    have Q4 := Lib.hid (show n - 1 = k + (n - (k + 1)) from by omega)
    obtain ⟨q, hq⟩ : ∃ q, q = k + (n - (k + 1)) := ⟨_, rfl⟩
    rw [← hq] at Z4 Q4 ⊢
    have X4 := Lib.hid (show GCh w4 W.heap.size (W.heap.size + 1) b o n ca k x.1 from ⟨(SK.out _ K4.out).1, (SK.out _ K4.out).2, ((G2.out.trans (K4.out.mono G2.out.size)).cell (p := ⟨b, _, none⟩) HBW.out).trans X0.out⟩)
    have G4' := Lib.hid (show Below W.heap.size W w4 from G2.out.trans (K4.out.mono G2.out.size))
    have R4 := Lib.hid (R2.out.below K4.out)
    have M4 := Lib.hid (show HRds w4 A4 (hs.take k ++ hs.drop (k + 1)) from cells_hosts (EZ.out w4 G4'.out) Z4.out.rds)
    have C4 := Lib.hid (VTab.cap Z4.out (show (zs.take k ++ zs.drop (k + 1)).length = q by rw [List.length_append, LT.out, LD.out, hq]))
    have BW4 := Lib.hid (show W.heap.size + 1 < w4.heap.size from Nat.lt_of_lt_of_le BX.out K4.out.size)
    clear SK K3 K4 T3 G4 Z4 X2 f5 f6 R2 G2 hq
    go_wp2_with fail
    refine (clone_s A2 av j c2 w4 HAV.out (by omega) R4.out).mono ?_
    rintro e w5 ⟨A5, c5, rfl, hz, hc5, hb⟩
    have Z5 := Lib.hid hz
    have X5 := Lib.hid (X4.out.later hb (by have := BW4.out; omega) BW4.out (by have := BW4.out; have := HBW.out; omega))
    have B45 := Lib.hid hb
    clear hz hb X4 R4
    have DL := Lib.hid (delete_c w4.heap.size A5 av j c5 W.heap.size (W.heap.size + 1) b o n ca k x.1 w5 HAV.out (by omega) Z5.out hkn X5.out (by have := BW4.out; omega) BW4.out (by have := BW4.out; have := HBW.out; omega) B45.out.size)
    rw [← HLE.out, ← HP.out] at DL
    unfold cloH at DL
    go_wp2_with fail
    refine DL.out.mono ?_
    rintro e w6 ⟨A6, m6, rfl, -, rfl, hr, hb⟩
    have R6 := Lib.hid hr
    have B6 := Lib.hid (B45.out.trans hb)
    have M6 := Lib.hid (M4.out.below B6.out)
    have G6 := Lib.hid (G4'.out.trans (B6.out.mono G4'.out.size))
    clear hr hb DL Z5 X5 M4 B45 B6
    go_wp2_with fail
    refine (P2.out w6 A4 c4 q Q4.out C4.out M6.out).mono ?_
    rintro e w7 ⟨A7, c7, rfl, -, hr, hb⟩
    have R7 := Lib.hid hr
    have L7 := Lib.hid (R6.out.below hb)
    have G7 := Lib.hid (G6.out.trans (hb.mono G6.out.size))
    have EQ := Lib.hid (equalS_c A7 A6 left p c7 c5 w7 HP.out.symm (by omega) R7.out L7.out)
    clear hr hb R6 M6 G6
    go_wp2_with (go_at_call 13; refine EQ.out.mono ?_; rintro e w8 ⟨rfl, hb⟩; have G8 := Lib.hid (G7.out.trans (hb.mono G7.out.size)); clear hb)
    go_ret
    exact ⟨rfl, G8.out⟩
theorem gone_words (hP : PlaceSpec) (hM : MovedSpec) (key : UInt64) (A : Option Addr) (hs : List Ht) (n ca : Nat) (k many : Int) (W : World) (hn : hs.length = n) (hb : n ≤ 4398046511104) (hca : n ≤ ca) (hx : HRds W A hs) (hf : FitsH hs) :
    Calls Try.prog 6 #[.int .u64 key.toNat, .slice A n ca, .int .i64 k, .int .i64 many] W (Law.Yes W) := by
  by_cases h : plE key hs many ≠ 0 ∨ k < 0 ∨ (n : Int) ≤ k
  · exact gone_early hP hM key A hs n ca k many W hn hb hca hx hf h
  · have h0 : plE key hs many = 0 := by
      rcases Decidable.em (plE key hs many = 0) with e | e
      · exact e
      · exact absurd (.inl e) h
    obtain ⟨m, rfl⟩ : ∃ m : Nat, k = m := ⟨k.toNat, by omega⟩
    obtain ⟨j, rfl⟩ : ∃ j : Nat, many = j := ⟨many.toNat, by have := (plE_zero.1 h0).2.1; omega⟩
    have hm : m < hs.length := by omega
    have hu := List.getElem?_eq_getElem hm
    obtain ⟨b, o, _, _, _, rfl, _⟩ := hx.host hu
    exact gone_main hP hM key b o hs n ca m j _ W hn hca hx hf hu h0
end Go.Proofs.Ytcbecpgllebepaa.Crush
