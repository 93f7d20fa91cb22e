/-
  Package coder: newBasis.
-/
import Derived.Test.YtomhcjnhhdbhjaaCdC
import Derived.Test.YtomhcjnhhdbhjaaBits
import Derived.Deep.MidRow
import Derived.Great.BuildSlice
namespace Go.Proofs.Ytomhcjnhhdbhjaa.Cdr
set_option linter.unusedVariables false
open Go.RowKit Gf Mem Poly

theorem size51 : (Try.prog.info? 51).map (·.size) = some 101 := by kernel_rfl
theorem size49 : (Try.prog.info? 49).map (·.size) = some 100 := by kernel_rfl
def nil100 : List UInt8 := List.replicate 100 0
theorem nil100_len : nil100.length = 100 := by simp [nil100]
/-- The cells of a basis: the pieces, a hundred bytes. -/
def bas (A : Option Addr) (n cap : Nat) (l : List UInt8) : Array Value := (Value.slice A n cap :: l.map byt).toArray
theorem bas_size {A : Option Addr} {n cap : Nat} {l : List UInt8} (h : l.length = 100) : (bas A n cap l).size = 101 := by simp [bas, h]
theorem bas_one (A : Option Addr) (n cap : Nat) (l : List UInt8) : (bas A n cap l).all (·.oneCell') = true := Array.all_eq_true_iff_forall_mem.2 fun v hv => by
  simp [bas] at hv
  rcases hv with rfl | ⟨x, _, rfl⟩ <;> rfl
theorem bas_zero (A : Option Addr) (n cap : Nat) (l : List UInt8) : (bas A n cap l)[0]? = some (.slice A n cap) := by simp [bas]
theorem bas_at {A : Option Addr} {n cap : Nat} {l : List UInt8} {i : Nat} {x : UInt8} (h : l[i]? = some x) : (bas A n cap l)[1 + i]? = some (.int .u8 (x.toNat : Int)) := by
  rw [Nat.add_comm]; simp [bas, h, byt]
theorem bas_put (A : Option Addr) (n cap : Nat) (l : List UInt8) (i : Nat) (x : UInt8) : (bas A n cap l).setIfInBounds (1 + i) (.int .u8 (x.toNat : Int)) = bas A n cap (l.set i x) := by
  unfold bas
  rw [List.setIfInBounds_toArray, Nat.add_comm, List.set_cons_succ, List.map_set]
  rfl
theorem xor_nos {a b : Nat} (ha : a < 256) (hb : b < 256) : bits .xor .i64 (a : Int) (b : Int) = ((xor8 (UInt8.ofNat a) (UInt8.ofNat b)).toNat : Int) := by
  rw [Bits.xor64 a b (by omega) (by omega)]
  unfold xor8
  rw [UInt8.toNat_xor, UInt8.toNat_ofNat', UInt8.toNat_ofNat', Nat.mod_eq_of_lt (by omega), Nat.mod_eq_of_lt (by omega)]
theorem co_nums {ps : List Pc} {i : Nat} {p : Pc} {a : Nat} (h : ps[i]? = some p) (ha : p.1 = (a : Int)) : co (nums8 ps) i = UInt8.ofNat a := by
  rw [co_of_some (nums8_at h), ha]; rfl
theorem pos_of_ne {x : UInt8} (h : x ≠ 0) : 0 < x.toNat := by
  rcases Nat.eq_zero_or_pos x.toNat with h0 | h0
  · exact absurd (UInt8.toNat_inj.1 h0) h
  · exact h0
def BasisMade (A : Option Addr) (cap : Nat) (ps : List Pc) (W : World) (e : Ending) (W' : World) : Prop := e = .returned (.agg (bas A ps.length cap (tab (sc (nums8 ps))))) ∧ Below W.heap.size W W'
/-- Numbers of pieces that are bytes, none twice. -/
def Nums (ps : List Pc) : Prop := (∀ p ∈ ps, 0 ≤ p.1 ∧ p.1 < 256) ∧ (nums8 ps).Nodup
theorem Nums.at_ {ps : List Pc} (h : Nums ps) {i : Nat} {p : Pc} (hp : ps[i]? = some p) : ∃ a : Nat, p.1 = (a : Int) ∧ a < 256 ∧ co (nums8 ps) i = UInt8.ofNat a := by
  obtain ⟨h1, h2⟩ := h.1 p (List.mem_of_getElem? hp)
  exact ⟨p.1.toNat, by omega, by omega, co_nums hp (by omega)⟩
set_option maxHeartbeats 4000000 in
set_option maxRecDepth 100000 in
theorem newBasis_c (A : Option Addr) (ps : List Pc) (cap : Nat) (hl : ps.length ≤ 100) (hn : Nums ps) (W : World) (hR : Pcs W A ps) :
    Calls Try.prog 22 #[.slice A ps.length cap] W (BasisMade A cap ps W) := by
  have HR := Lib.hid hR
  have HNUM := Lib.hid hn
  have HXL := Lib.hid (nums8_len ps)
  clear hR hn
  unfold BasisMade
  generalize hN : ps.length = n at *
  have HN := Lib.hid hN
  clear hN
  have hz : ∀ w : World, (zeroValue 51).run Try.prog w = .ok (.agg (bas none 0 0 nil100)) w := fun _ => by kernel_rfl
  have HSET := Lib.hid (show (bas none 0 0 nil100).setIfInBounds 0 (.slice A n cap) = bas A n cap nil100 from rfl)
  have HS := Lib.hid (show (bas A n cap nil100).size = 101 from bas_size nil100_len)
  have HS0 := Lib.hid (show (bas none 0 0 nil100).size = 101 from bas_size nil100_len)
  have HBO := Lib.hid (bas_one A n cap nil100)
  generalize hz0 : bas none 0 0 nil100 = z0 at *
  clear hz0
  have hne : ¬ z0 = #[] := fun e => by have := HS0.out; rw [e] at this; simp at this
  go_enter Try.func22, Try.ntmps22
  go_wp2_with ((refine wpList_store_row rfl 51 _ _ rfl (W.heap.size + 1) (z0.setIfInBounds 0 (.slice A n cap)) rfl rfl 51 z0 (heap_alloc2_new _ _ _) (by rw [HSET.out, HS.out]; exact size51) (by rw [HSET.out, HS.out, HS0.out]) (by rw [HSET.out]; exact HBO.out) ?_))
  rw [HSET.out]
  clear hz hne
  have hK0 : Known (((W.alloc (.cells z0 51)).alloc (.cells z0 51)).setRow (W.heap.size + 1) (bas A n cap nil100)) W.heap.size 51 z0 :=
    known_offRow (heap_alloc2_old _ _ _) (by simp)
  have hK1 : Known (((W.alloc (.cells z0 51)).alloc (.cells z0 51)).setRow (W.heap.size + 1) (bas A n cap nil100)) (W.heap.size + 1) 51 (bas A n cap (two 0 (sc (nums8 ps)) fun _ => 0)) := by
    have e : two 0 (sc (nums8 ps)) (fun _ => 0) = nil100 := by rw [tab_two]; rfl
    rw [e]
    exact known_setRow (heap_alloc2_new _ _ _)
  have hB0 : Below W.heap.size W (((W.alloc (.cells z0 51)).alloc (.cells z0 51)).setRow (W.heap.size + 1) (bas A n cap nil100)) :=
    below_setRow (((Below.refl _ _).alloc (Nat.le_refl _) _).alloc (by simp) _) (Nat.le_succ _) _
  have HK0 := Lib.hid hK0
  have HK1 := Lib.hid hK1
  have HB1 := Lib.hid hB0
  clear hK0 hK1 hB0
  go_loopw [13] (fun i wr => ∃ k : Nat, k ≤ n ∧ i = .int .i64 k ∧ Known wr W.heap.size 51 z0 ∧ Known wr (W.heap.size + 1) 51 (bas A n cap (two k (sc (nums8 ps)) fun _ => 0)) ∧ Below W.heap.size W wr) (fun i _ => n - (intOf i).toNat)
  case atStart => exact ⟨0, by omega, rfl, HK0.out, HK1.out, HB1.out⟩
  case round =>
    clear HK0 HK1 HB1
    obtain ⟨wa, rfl⟩ : ∃ w : World, w = wr := ⟨_, rfl⟩
    obtain ⟨k, hk, rfl, hK0, hK1, hB⟩ := hrel
    have HK0 := Lib.hid hK0
    have HK1 := Lib.hid hK1
    have HB := Lib.hid hB
    clear hK0 hK1 hB
    by_cases hlt : k < n
    · obtain ⟨b, o, C, c, p, rfl, hb, ep, c1, c2, lr, lc, rr⟩ := (HR.out.below HB.out).piece (k := k) (by rw [HN.out]; exact hlt)
      obtain ⟨a, ea, ha, hco⟩ := HNUM.out.at_ ep
      rw [ea] at c1
      have HCO := Lib.hid hco
      have i2 : (k : Int) < (n : Int) := by omega
      have HW1 := Lib.hid ((Below.refl wa.heap.size wa).alloc (Nat.le_refl _) (.cells #[.int .i64 (a : Int), .slice C p.2.length c] 35))
      have HR1 := Lib.hid (HR.out.below (HB.out.trans (HW1.out.mono HB.out.size)))
      have HPC := Lib.hid (Known.made wa 35 #[.int .i64 (a : Int), .slice C p.2.length c])
      have HDS := Lib.hid (dp_zero (nums8 ps) k)
      clear ep ea hco lr rr hb lc
      go_wp2
      obtain ⟨wo, hwo⟩ : ∃ wo : World, wo = wa.alloc (.cells #[.int .i64 (a : Int), .slice C p.2.length c] 35) := ⟨_, rfl⟩
      rw [← hwo] at HW1 HR1 HPC ⊢
      clear hwo
      have HNE := Lib.hid (by have h1 := HPC.out.lt; exact h1 : wa.heap.size < wo.heap.size)
      have HLT := Lib.hid (HK1.out.lt)
      go_loopw [6, 20] (fun d i wx => ∃ j : Nat, j ≤ n ∧ i = .int .i64 j ∧ d = .int .u8 (dp (nums8 ps) k j).toNat ∧ Below wo.heap.size wo wx) (fun _ i _ => n - (intOf i).toNat)
      case atStart => exact ⟨0, by omega, rfl, by rw [HDS.out]; rfl, Below.refl _ _⟩
      case round =>
        obtain ⟨j, hj, rfl, rfl, hBx⟩ := hrel
        have HBX := Lib.hid hBx
        clear hBx
        by_cases hlj : j < n
        · obtain ⟨b', o', C', c', q, eA, hb', eq, d1, d2, lr', lc', rr'⟩ := (HR1.out.below HBX.out).piece (k := j) (by rw [HN.out]; exact hlj)
          injection eA with eA
          injection eA with eA1 eA2
          subst eA1 eA2
          obtain ⟨a', ea', ha', hco'⟩ := HNUM.out.at_ eq
          rw [ea'] at d1
          have HCO' := Lib.hid hco'
          have j2 : (j : Int) < (n : Int) := by omega
          have e0 := ((HPC.out.later HBX.out).alloc (.cells #[.int .i64 (a' : Int), .slice C' q.2.length c'] 35)).cell 0
          have HBA := Lib.hid (HBX.out.alloc HBX.out.size (.cells #[.int .i64 (a' : Int), .slice C' q.2.length c'] 35))
          have e1 : (wr.alloc (.cells #[.int .i64 (a' : Int), .slice C' q.2.length c'] 35)).cell? ⟨wa.heap.size, 0, none⟩ = some (.int .i64 (a : Int)) := e0
          have hx := xor_nos ha ha'
          obtain ⟨x, ex⟩ : ∃ x : UInt8, x = xor8 (UInt8.ofNat a) (UInt8.ofNat a') := ⟨_, rfl⟩
          rw [← ex] at hx
          have hx8 := x.toNat_lt
          have EX := Lib.hid ex
          clear ex e0 eq ea' hco' lr' lc' rr' hb'
          by_cases hjk : j = k
          · have b1 : ((j : Int) != (k : Int)) = false := by simp; omega
            have HJK := Lib.hid hjk
            clear hjk
            go_wp2
            go_roundw
            case rel => exact ⟨j + 1, by omega, by go_num, by rw [HJK.out, dp_same (by rw [HXL.out]; exact hlt)], HBA.out⟩
            case measure => simp [intOf]; omega
          · have b1 : ((j : Int) != (k : Int)) = true := by simp; omega
            have HJK := Lib.hid hjk
            clear hjk
            go_wp2_with fail
            refine (mul_c _ x _).mono ?_
            rintro e w' ⟨rfl, rfl⟩
            go_wp2
            go_roundw
            case rel => exact ⟨j + 1, by omega, by go_num, by rw [← dp_next (by rw [HXL.out]; exact hlj) HJK.out, HCO.out, HCO'.out, EX.out]; rfl, HBA.out⟩
            case measure => simp [intOf]; omega
        · obtain rfl : j = n := by omega
          have HBW := Lib.hid (HB.out.trans ((HW1.out.trans (HBX.out.mono (Nat.le_of_lt HNE.out))).mono HB.out.size))
          have HBR := Lib.hid (HW1.out.trans (HBX.out.mono (Nat.le_of_lt HNE.out)))
          have HK1' := Lib.hid (HK1.out.later HBR.out)
          have HK0' := Lib.hid (HK0.out.later HBR.out)
          have hinv := fun w => inv_c (dp (nums8 ps) k j) (pos_of_ne (by
            have := dp_ne HNUM.out.2 (i := k) (by rw [HXL.out]; exact hlt)
            rw [HXL.out] at this; exact this)) w
          have HINV := Lib.hid hinv
          clear hinv
          go_wp2_with fail
          refine (HINV.out _).mono ?_
          rintro e w' ⟨rfl, rfl⟩
          have cs := (HK1'.out.cell (1 + k)).trans (bas_at (two_here (sc (nums8 ps)) (fun _ => 0) (by omega)))
          have fs := HK1'.out.free (1 + k)
          go_wp2
          go_roundw
          case rel => exact ⟨k + 1, by omega, by go_num, HK0'.out.off (by simp) _, by
            have e := dp_all (xs := nums8 ps) (i := k) (by rw [HXL.out]; exact hlt)
            rw [HXL.out] at e
            rw [e, ← two_up (sc (nums8 ps)) (fun _ => 0) (by omega), ← bas_put]
            exact HK1'.out.put _ _, HBW.out.setCell (Nat.le_succ _) _⟩
          case measure => simp [intOf]; omega
    · obtain rfl : k = n := by omega
      have hall := HK1.out
      have e := sc_all (nums8 ps)
      rw [HXL.out] at e
      rw [e] at hall
      have HALL := Lib.hid hall
      have HSA := Lib.hid (show (bas A k cap (tab (sc (nums8 ps)))).size = 101 from bas_size (tab_len _))
      clear hall e
      go_wp2_with (first
        | (refine wpList_load_row rfl 51 _ rfl (W.heap.size + 1) rfl 51 _ (0, 0) _ HALL.out Try.underlying51 rfl (by rw [HSA.out]; exact size51) ?_)
        | (refine wpList_store_row rfl 51 _ _ rfl W.heap.size _ rfl rfl 51 _ HK0.out (by rw [HSA.out]; exact size51) (by rw [HSA.out, HS0.out]) (bas_one _ _ _ _) ?_))
      refine bodyPost_ret (v := .agg (bas A k cap (tab (sc (nums8 ps))))) ?_ rfl ⟨rfl, below_setRow HB.out (Nat.le_refl _) _⟩
      exact results_cell_row rfl _ _ W.heap.size 51 _ (0, 0) _ rfl (known_setRow HK0.out) Try.underlying51 rfl (by rw [HSA.out]; exact size51)
end Go.Proofs.Ytomhcjnhhdbhjaa.Cdr
