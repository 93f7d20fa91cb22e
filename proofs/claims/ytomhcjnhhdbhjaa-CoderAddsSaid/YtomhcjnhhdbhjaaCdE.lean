/-
  Package coder: weights.
-/
import Derived.Test.YtomhcjnhhdbhjaaCdD
namespace Go.Proofs.Ytomhcjnhhdbhjaa.Cdr
set_option linter.unusedVariables false
open Go.RowKit Gf Mem Poly

/-- Block g holds a basis of the pieces. -/
def IsBasis (W : World) (g : Nat) (A : Option Addr) (cap : Nat) (ps : List Pc) : Prop := Known W g 51 (bas A ps.length cap (tab (sc (nums8 ps))))
theorem IsBasis.later {W V : World} {g : Nat} {A : Option Addr} {cap : Nat} {ps : List Pc} (h : IsBasis W g A cap ps) (hb : Below W.heap.size W V) : IsBasis V g A cap ps := Known.later h hb
theorem IsBasis.lt {W : World} {g : Nat} {A : Option Addr} {cap : Nat} {ps : List Pc} (h : IsBasis W g A cap ps) : g < W.heap.size := Known.lt h
theorem tabCells (f : Nat → UInt8) : (((tab f).map byt).toArray).size = 100 := by simp [tab_len]
def Weights (xs : List UInt8) (v : UInt8) (W : World) (e : Ending) (W' : World) : Prop := e = .returned (.agg ((tab (wt xs v)).map byt).toArray) ∧ Below W.heap.size W W'
set_option maxHeartbeats 4000000 in
set_option maxRecDepth 100000 in
theorem weights_c (g : Nat) (A : Option Addr) (ps : List Pc) (cap v : Nat) (hv : v < 256) (hl : ps.length ≤ 100) (hn : Nums ps) (W : World) (hG : IsBasis W g A cap ps) (hR : Pcs W A ps) :
    Calls Try.prog 33 #[.pointer (some ⟨g, 0, none⟩), .int .i64 v] W (Weights (nums8 ps) (UInt8.ofNat v) W) := by
  have HG := Lib.hid hG
  have HR := Lib.hid hR
  have HNUM := Lib.hid hn
  have HXL := Lib.hid (nums8_len ps)
  have c0 := (Known.cell hG 0).trans (bas_zero _ _ _ _)
  have HM := Lib.hid (show W.rangeAt g 1 ((tab (sc (nums8 ps))).map byt) from fun j u hu => by
    rw [List.getElem?_map] at hu
    cases hx : (tab (sc (nums8 ps)))[j]? with
    | none => rw [hx] at hu; cases hu
    | some x =>
      rw [hx] at hu
      injection hu with hu
      subst hu
      exact (Known.cell hG (1 + j)).trans (bas_at hx))
  clear hR hn hG
  unfold Weights
  generalize hN : ps.length = n at *
  have HN := Lib.hid hN
  clear hN
  have hz : ∀ w : World, (zeroValue 49).run Try.prog w = .ok (.agg (Array.replicate 100 (.int .u8 0))) w := fun _ => by kernel_rfl
  have HM1 := Lib.hid (fun j u hu => (((Below.refl W.heap.size W).alloc (Nat.le_refl _) (.cells (Array.replicate 100 (.int .u8 0)) 49)).cell (p := ⟨g, 1 + j, none⟩) HG.out.lt).trans (HM.out j u hu) : (W.alloc (.cells (Array.replicate 100 (.int .u8 0)) 49)).rangeAt g 1 ((tab (sc (nums8 ps))).map byt))
  have hB3 : Below W.heap.size W (((W.alloc (.cells (Array.replicate 100 (.int .u8 0)) 49)).alloc (.cells (Array.replicate 100 (.int .u8 0)) 49)).setRow (W.heap.size + 1) (((tab (sc (nums8 ps))).map byt).toArray)) :=
    below_setRow (((Below.refl _ _).alloc (Nat.le_refl _) _).alloc (by simp) _) (Nat.le_succ _) _
  have c03 := (hB3.cell (p := ⟨g, 0, none⟩) HG.out.lt).trans c0
  have HB3 := Lib.hid hB3
  have HO3 := Lib.hid (known_setRow (heap_alloc2_new _ _ _) : OwnT (((W.alloc (.cells (Array.replicate 100 (.int .u8 0)) 49)).alloc (.cells (Array.replicate 100 (.int .u8 0)) 49)).setRow (W.heap.size + 1) (((tab (sc (nums8 ps))).map byt).toArray)) (W.heap.size + 1) 49 (tab (sc (nums8 ps))))
  have HZ3 := Lib.hid (known_offRow (heap_alloc2_old _ _ _) (by simp) : Known (((W.alloc (.cells (Array.replicate 100 (.int .u8 0)) 49)).alloc (.cells (Array.replicate 100 (.int .u8 0)) 49)).setRow (W.heap.size + 1) (((tab (sc (nums8 ps))).map byt).toArray)) W.heap.size 49 (Array.replicate 100 (.int .u8 0)))
  clear hB3
  go_enter Try.func33, Try.ntmps33
  go_wp2_with (first
    | (refine wpList_load_mid rfl 49 _ rfl g 1 rfl _ _ HM1.out Try.underlying49 rfl (by rw [List.length_map, tab_len]; exact size49) ?_)
    | (refine wpList_store_row rfl 49 _ _ rfl (W.heap.size + 1) _ rfl rfl 49 _ (heap_alloc2_new _ _ _) (by rw [tabCells]; exact size49) (by rw [tabCells, Array.size_replicate]) (byt_one _) ?_))
  clear hz HM1 HM c03
  go_loopw [6, 20] (fun d i wr => ∃ k : Nat, k ≤ n ∧ i = .int .i64 k ∧ d = .int .u8 (prodr ((nums8 ps).take k) (UInt8.ofNat v)).toNat ∧ Known wr W.heap.size 49 (Array.replicate 100 (.int .u8 0)) ∧ OwnT wr (W.heap.size + 1) 49 (two k (wtA (nums8 ps) (UInt8.ofNat v)) (sc (nums8 ps))) ∧ Below W.heap.size W wr) (fun _ i _ => n - (intOf i).toNat)
  case atStart => exact ⟨0, by omega, rfl, rfl, HZ3.out, by rw [tab_two]; exact HO3.out, HB3.out⟩
  case round =>
    clear HO3 HZ3 HB3
    obtain ⟨k, hk, rfl, rfl, hZ, hO, hB⟩ := hrel
    have HZ := Lib.hid hZ
    have HO := Lib.hid hO
    have HB := Lib.hid hB
    clear hZ hO hB
    by_cases hlt : k < n
    · obtain ⟨b, o, C, c, p, rfl, hb, ep, c1, c2, lr, lc, rr⟩ := (HR.out.below HB.out).piece (k := k) (by rw [HN.out]; exact hlt)
      obtain ⟨a, ea, ha, hco⟩ := HNUM.out.at_ ep
      rw [ea] at c1
      have HCO := Lib.hid hco
      have i2 : (k : Int) < (n : Int) := by omega
      have HO1 := Lib.hid (HO.out.alloc (.cells #[.int .i64 (a : Int), .slice C p.2.length c] 35))
      have cw := HO1.out.at_ (two_here (wtA (nums8 ps) (UInt8.ofNat v)) (sc (nums8 ps)) (k := k) (by omega))
      have fw := HO1.out.free k
      have hx := xor_nos hv ha
      obtain ⟨x, ex⟩ : ∃ x : UInt8, x = xor8 (UInt8.ofNat v) (UInt8.ofNat a) := ⟨_, rfl⟩
      rw [← ex] at hx
      have hx8 := x.toNat_lt
      have EX := Lib.hid ex
      have hne : ¬ wr.heap.size = W.heap.size + 1 := by have := HO.out.lt; omega
      clear ex ep ea hco lr rr hb lc
      go_wp2_with fail
      refine (mul_c _ _ _).mono ?_
      rintro e w' ⟨rfl, rfl⟩
      go_wp2_with fail
      refine (mul_c _ x _).mono ?_
      rintro e w' ⟨rfl, rfl⟩
      go_wp2
      go_roundw
      case rel => exact ⟨k + 1, by omega, by go_num, by rw [← take_co (by rw [HXL.out]; exact hlt), HCO.out, EX.out]; rfl, (HZ.out.alloc _).off (p := ⟨W.heap.size + 1, k, none⟩) (by simp) _, by rw [← two_up _ _ (by omega)]; exact HO1.out.put _ _, (HB.out.alloc HB.out.size _).setCell (p := ⟨W.heap.size + 1, k, none⟩) (Nat.le_succ _) _⟩
      case measure => simp [intOf]; omega
    · obtain rfl : k = n := by omega
      have c04 := (HB.out.cell (p := ⟨g, 0, none⟩) HG.out.lt).trans c0
      have hO2 := HO.out
      have e := wtA_all (nums8 ps) (UInt8.ofNat v)
      rw [HXL.out] at e
      rw [e] at hO2
      have HO2 := Lib.hid hO2
      have HD := Lib.hid (show prodr ((nums8 ps).drop k) (UInt8.ofNat v) = 1 by rw [List.drop_of_length_le (by rw [HXL.out]; exact Nat.le_refl _)]; rfl)
      clear e hO2
      go_wp2
      go_loopw [7, 10] (fun d i wr => ∃ m : Nat, m ≤ k ∧ i = .int .i64 ((m : Int) - 1) ∧ d = .int .u8 (prodr ((nums8 ps).drop m) (UInt8.ofNat v)).toNat ∧ Known wr W.heap.size 49 (Array.replicate 100 (.int .u8 0)) ∧ OwnT wr (W.heap.size + 1) 49 (two m (wtA (nums8 ps) (UInt8.ofNat v)) (wt (nums8 ps) (UInt8.ofNat v))) ∧ Below W.heap.size W wr) (fun _ i _ => (intOf i + 1).toNat)
      case atStart => exact ⟨k, by omega, rfl, by rw [HD.out]; rfl, HZ.out, HO2.out, HB.out⟩
      case round =>
        obtain ⟨m, hm, hi, rfl, hZ, hO, hB⟩ := hrel
        have HZ := Lib.hid hZ
        have HO := Lib.hid hO
        have HB := Lib.hid hB
        clear hZ hO hB
        rcases m with _ | m
        · have hi2 : _ = Value.int .i64 (-1) := hi
          subst hi2
          have hall := HO.out
          rw [tab_two] at hall
          have HALL := Lib.hid hall
          clear hall hi
          go_wp2_with (first
            | (refine wpList_load_row rfl 49 _ rfl (W.heap.size + 1) rfl 49 _ (0, 0) _ HALL.out Try.underlying49 rfl (by rw [tabCells]; exact size49) ?_)
            | (refine wpList_store_row rfl 49 _ _ rfl W.heap.size _ rfl rfl 49 _ HZ.out (by rw [tabCells]; exact size49) (by rw [tabCells, Array.size_replicate]) (byt_one _) ?_))
          refine bodyPost_ret (v := .agg ((tab (wt (nums8 ps) (UInt8.ofNat v))).map byt).toArray) ?_ rfl ⟨rfl, below_setRow HB.out (Nat.le_refl _) _⟩
          exact results_cell_row rfl _ _ W.heap.size 49 _ (0, 0) _ rfl (known_setRow HZ.out) Try.underlying49 rfl (by rw [tabCells]; exact size49)
        · have hi2 : _ = Value.int .i64 (m : Int) := hi.trans (by congr 1; omega)
          subst hi2
          clear hi
          obtain ⟨b, o, C, c, p, rfl, hb, ep, c1, c2, lr, lc, rr⟩ := (HR.out.below HB.out).piece (k := m) (by rw [HN.out]; omega)
          obtain ⟨a, ea, ha, hco⟩ := HNUM.out.at_ ep
          rw [ea] at c1
          have HCO := Lib.hid hco
          have i2 : (m : Int) < (k : Int) := by omega
          have cw := HO.out.at_ (two_below (wtA (nums8 ps) (UInt8.ofNat v)) (wt (nums8 ps) (UInt8.ofNat v)) (k := m) (by omega))
          have fw := HO.out.free m
          have hx := xor_nos hv ha
          obtain ⟨x, ex⟩ : ∃ x : UInt8, x = xor8 (UInt8.ofNat v) (UInt8.ofNat a) := ⟨_, rfl⟩
          rw [← ex] at hx
          have hx8 := x.toNat_lt
          have EX := Lib.hid ex
          have hBS : ∀ u, Below W.heap.size W (wr.setCell ⟨W.heap.size + 1, m, none⟩ u) := fun u => HB.out.setCell (p := ⟨W.heap.size + 1, m, none⟩) (Nat.le_succ _) u
          have c05 : (wr.setCell ⟨W.heap.size + 1, m, none⟩ (.int .u8 ((mul (wtA (nums8 ps) (UInt8.ofNat v) m) (prodr ((nums8 ps).drop (m + 1)) (UInt8.ofNat v))).toNat : Int))).cell? ⟨g, 0, none⟩ = some (.slice (some ⟨b, o, none⟩) k cap) := ((hBS _).cell (p := ⟨g, 0, none⟩) HG.out.lt).trans c0
          have c06 : (wr.setCell ⟨W.heap.size + 1, m, none⟩ (.int .u8 ((mul (wtA (nums8 ps) (UInt8.ofNat v) m) (prodr ((nums8 ps).drop (m + 1)) (UInt8.ofNat v))).toNat : Int))).cell? ⟨b, o + m * 2, none⟩ = some (.int .i64 (a : Int)) := by
            obtain ⟨b', o', C', c', p', eA, hb', ep', c1', _⟩ := (HR.out.below (hBS (.int .u8 ((mul (wtA (nums8 ps) (UInt8.ofNat v) m) (prodr ((nums8 ps).drop (m + 1)) (UInt8.ofNat v))).toNat : Int)))).piece (k := m) (by rw [HN.out]; omega)
            injection eA with eA
            injection eA with eA1 eA2
            subst eA1 eA2
            rw [ep] at ep'
            injection ep' with ep'
            subst ep'
            rw [ea] at c1'
            exact c1'
          clear ex ep ea hco lr rr hb lc hBS
          go_wp2_with fail
          refine (mul_c _ _ _).mono ?_
          rintro e w' ⟨rfl, rfl⟩
          go_wp2_with fail
          refine (mul_c _ x _).mono ?_
          rintro e w' ⟨rfl, rfl⟩
          go_wp2
          go_roundw
          case rel => exact ⟨m, by omega, rfl, by rw [← drop_co (xs := nums8 ps) (k := m) (by rw [HXL.out]; omega), HCO.out, EX.out]; rfl, HZ.out.off (p := ⟨W.heap.size + 1, m, none⟩) (by simp) _, by rw [← two_down _ _ (by omega)]; exact HO.out.put _ _, HB.out.setCell (p := ⟨W.heap.size + 1, m, none⟩) (Nat.le_succ _) _⟩
          case measure => simp [intOf]
end Go.Proofs.Ytomhcjnhhdbhjaa.Cdr
