/-
  Contracts of package ring: slices.SortFunc of tokens, and Make.
-/
import Derived.Test.YtpnfcjodjgbdbaaRgF
import Derived.Test.YtpnfcjodjgbdbaaShSort
namespace Go.Proofs.Ytpnfcjodjgbdbaa.Ring
set_option linter.unusedVariables false
set_option linter.unusedSimpArgs false
open Go.RowKit Mem
open Go.Sort (grow alloc_eq_grow grow_grow)

theorem ltOf_ord : ltOf ord = ltB := by funext x y; rw [ord_lt]; rfl
theorem ord_swo : Sort.SWO (ltOf ord) := by
  rw [ltOf_ord]
  exact ⟨ltB_irr, fun _ _ _ h1 h2 => ltB_tr h1 h2, fun _ _ _ h1 h2 => ltB_ntr h1 h2⟩
theorem sort_c (B : Nat) (A : Option Addr) (es : List Tk) (n cap : Nat) (W : World) (hn : es.length = n) (hbig : n ≤ 400) (hT : TTab W B (.slice A n cap) es) (hB : B ≤ W.heap.size) :
    Calls Try.prog 29 #[.slice A n cap, .func (.func 30) #[] #[]] W fun e w' => e = .returned (.tuple #[]) ∧ TRds w' A (srt es) ∧ Below B W w' := by
  rcases Nat.eq_zero_or_pos n with h0 | h0
  · subst h0
    obtain rfl := List.eq_nil_of_length_eq_zero hn
    refine (AnyF.slices_SortFunc_none Try.sortTok A cap (.func (.func 30) #[] #[]) W).mono ?_
    rintro e w ⟨rfl, rfl⟩
    exact ⟨rfl, fun k t h => by rw [srt, List.mergeSort_nil] at h; simp at h, Below.refl _ _⟩
  · obtain ⟨g, rfl, _, hg, hgl⟩ := hT.head (by omega)
    have hd : es.toArray.size = n := by simpa using hn
    have hH : Sort.HoldsK enc2 2 W g 0 es.toArray := by
      intro t ht
      rw [Sort.size_flatK, hd] at ht
      have hk : t / 2 < es.length := by omega
      obtain ⟨f0, f1⟩ := flat_at (List.getElem?_eq_getElem hk)
      have hT' := hT
      unfold TTab at hT'
      rw [hn] at hT'
      refine ⟨?_, by rw [Nat.zero_add]; exact hT.free hn.symm t⟩
      rw [Nat.zero_add, World.ownsRow.cellAt hT' t (by omega), Sort.get_flatK _ _ _ _ (by rw [hd]; exact ht), getElem!_pos es.toArray (t / 2) (by simpa using hk)]
      have hm : t % 2 = 0 ∨ t % 2 = 1 := by omega
      rcases hm with hm | hm
      · rw [show t / 2 * 2 = t by omega] at f0
        rw [hm, f0]; simp [enc2]
      · rw [show t / 2 * 2 + 1 = t by omega] at f1
        rw [hm, f1]; simp [enc2]
    have hcon := AnyQ.slices_SortFunc_total Try.sortTok 2 Try.isAgg31 Try.sizeOf31 enc2 (fun _ => rfl) (fun x v hv => by simp [enc2] at hv; rcases hv with rfl | rfl <;> rfl) ord ord_swo 30 #[] g 0 cap es.toArray W
      (enters_of Try.func30 (by kernel_rfl) rfl) (fun _ _ _ _ x y => order_c x y _) hH hgl (by rw [hd]; omega) (fun x y h1 h2 => by rw [ltOf_ord] at h1 h2; exact ltB_anti h1 h2)
    rw [hd] at hcon
    refine hcon.mono ?_
    rintro e w' ⟨rfl, q, os, hw⟩
    rw [ltOf_ord, show (es.toArray.toList.mergeSort fun x y => !ltB y x) = srt es from rfl] at hw
    have hls : (srt es).length = n := by rw [(srt_perm es).length_eq, hn]
    have hH' := holdsK_sortWorldK enc2 2 W g 0 q es.toArray (srt es).toArray os hgl hH (by simp [hls, hn])
    rw [← hw] at hH'
    refine ⟨rfl, fun k t hk => ?_, ?_⟩
    · have hkl := (List.getElem?_eq_some_iff.1 hk).1
      have h1 := (Sort.HoldsK.cell hH' (i := k) (c := 0) (by simpa using hkl) (by omega)).1
      have h2 := (Sort.HoldsK.cell hH' (i := k) (c := 1) (by simpa using hkl) (by omega)).1
      have e : (srt es).toArray[k]! = t := by
        rw [getElem!_pos _ k (by simpa using hkl)]
        have := List.getElem?_eq_some_iff.1 hk
        simpa using this.2
      rw [e] at h1 h2
      exact ⟨g, 0, rfl, World.block_lt_of_cell? _ _ h1, h1, h2⟩
    · subst hw
      refine ⟨rfl, rfl, rfl, ?_, fun b hb => ?_⟩
      · show _ ≤ (_ ++ os).size
        simp [Sort.putRowK, Sort.putRow, Sort.mapBlock]
      · show (_ ++ os)[b]? = _
        rw [Array.getElem?_append_left (by simp [Sort.putRowK, Sort.putRow, Sort.mapBlock]; omega)]
        simp only [Sort.putRowK, Sort.putRow, Sort.mapBlock, Array.getElem?_modify]
        rw [if_neg (by omega)]; rfl

/-! ### Make -/
theorem two_i (x : Int) (j : Nat) (h0 : 0 ≤ x) (h1 : x ≤ 1099511627776) (hj : j ≤ 20) (V : World) :
    Calls Try.prog 28 #[.int .u64 x, .int .u64 j] V fun e w' => e = .returned (.int .u64 (tok x j).1.toNat) ∧ V = w' := by
  have h := Mix.two_c (UInt64.ofNat x.toNat) (UInt64.ofNat j) V
  have e1 : ((UInt64.ofNat x.toNat).toNat : Int) = x := by rw [UInt64.toNat_ofNat', Nat.mod_eq_of_lt (by omega)]; omega
  have e2 : ((UInt64.ofNat j).toNat : Int) = j := by rw [UInt64.toNat_ofNat', Nat.mod_eq_of_lt (by omega)]
  rw [e1, e2] at h
  exact h
theorem make_bad (A : Option Addr) (ids : List Int) (n ca : Nat) (each : Int) (e : Int) (W : World) (hn : ids.length = n) (hca : n ≤ ca) (hbig : n ≤ maxLen) (hx : Reads W A (ids.map (Value.int .i64))) (he : makeE ids each = e) (h : e = 2 ∨ e = 6) :
    Calls Try.prog 9 #[.slice A n ca, .int .i64 each] W (Gave (.tuple #[.slice none 0 0, .int .i64 e]) W) := by
  have H := wrong_c A ids n ca each W hn hca hbig hx
  rw [he] at H
  have HH := Lib.hid H
  clear H hn hx he
  rcases h with rfl | rfl
  · go_enter Try.func9, Try.ntmps9
    go_wp2_with (go_at_call 27; refine HH.out.mono ?_; rintro e w' ⟨rfl, rfl⟩)
    go_ret2
    exact ⟨rfl, Below.refl _ _⟩
  · go_enter Try.func9, Try.ntmps9
    go_wp2_with (go_at_call 27; refine HH.out.mono ?_; rintro e w' ⟨rfl, rfl⟩)
    go_ret2
    exact ⟨rfl, Below.refl _ _⟩
/-- What Make returns where nothing is wrong. -/
def MadeOut (l : List Tk) (W : World) (e : Ending) (W' : World) : Prop :=
  ∃ A c, e = .returned (.tuple #[.slice A l.length c, .int .i64 0]) ∧ TRds W' A l ∧ Below W.heap.size W W'
def MakeAt (W : World) (l : List Tk) (m : Nat) (A : Option Addr) (c : Nat) (wr : World) : Prop :=
  l.length = m ∧ TTab wr W.heap.size (.slice A m c) l ∧ Below W.heap.size W wr
theorem make_tk (c : Nat) (hc : c ≤ 400) : ∃ cs : Array Value, ∀ w : World, (Instr.makeSlice 23 (.int .i64 0) (.int .i64 (c : Int))).run Try.prog w = .ok (.slice (some ⟨w.heap.size, 0, none⟩) 0 c) (w.alloc (.cells cs 31)) ∧
    ∀ B, B ≤ w.heap.size → TTab (w.alloc (.cells cs 31)) B (.slice (some ⟨w.heap.size, 0, none⟩) 0 c) [] := by
  obtain ⟨i, hi, z, hz0, hz1, hz2, hz3⟩ := info_tk
  refine ⟨madeCells z.cells (c * 2), fun w => ⟨?_, fun B hB => ?_⟩⟩
  · have := run_make (P := Try.prog) w 23 31 i z Try.underlying23 hi hz0 .i64 .i64 0 c (by omega) (by omega) (by rw [hz2]; omega) (by omega)
    rw [this, hz1]; rfl
  · exact World.ownsRow_made w _ c hB (by unfold maxLen; omega) (size_madeCells _ _)
theorem raw_next {ids : List Int} {k : Nat} {x : Int} (h : ids[k]? = some x) (e : Nat) : raw (ids.take (k + 1)) e = raw (ids.take k) e ++ (List.range e).map (tok x) := by
  rw [List.take_add_one, h]; exact raw_snoc _ _ _
theorem part_len {ids : List Int} {k e : Nat} (x : Int) (j : Nat) (h : k ≤ ids.length) : (raw (ids.take k) e ++ (List.range j).map (tok x)).length = k * e + j := by
  rw [List.length_append, raw_len, List.length_take, List.length_map, List.length_range, Nat.min_eq_left h]
theorem part_le {k n e : Nat} (h : k < n) : k * e + e ≤ n * e := by
  have := Nat.mul_le_mul_right e (show k + 1 ≤ n from h)
  rw [Nat.add_mul, Nat.one_mul] at this; exact this
set_option maxRecDepth 100000 in
set_option maxHeartbeats 4000000 in
theorem make_ok (A : Option Addr) (ids : List Int) (n ca : Nat) (each : Nat) (W : World) (hn : ids.length = n) (hca : n ≤ ca) (hx : Reads W A (ids.map (Value.int .i64))) (he : makeE ids each = 0) :
    Calls Try.prog 9 #[.slice A n ca, .int .i64 each] W (MadeOut (srt (raw ids each)) W) := by
  obtain ⟨g1, g2, _⟩ := makeE_zero.1 he
  rw [hn] at g1
  obtain ⟨h1, h2, h3⟩ := size_no g1
  have H := wrong_c A ids n ca each W hn hca (by unfold maxLen; omega) hx
  rw [he] at H
  have HH := Lib.hid H
  have HX := Lib.hid hx
  have HN := Lib.hid hn
  have HR := Lib.hid g2
  have hcb : n * each ≤ 16 * 20 := Nat.mul_le_mul h1 (by omega)
  have PL := Lib.hid (fun k (h : k < n) => part_le (e := each) h)
  have hce : (n : Int) * (each : Int) = ((n * each : Nat) : Int) := by simp
  have LL := Lib.hid (show (raw ids each).length = n * each by rw [raw_len, hn])
  generalize hc : n * each = c at *
  clear hc H he hx hn g1 g2
  obtain ⟨cs, hmk⟩ := make_tk c (by omega)
  have mk := fun w => (hmk w).1
  have MT := Lib.hid (fun w => (hmk w).2)
  clear hmk
  go_enter Try.func9, Try.ntmps9
  go_wp2_with (go_at_call 27; refine HH.out.mono ?_; rintro e w' ⟨rfl, rfl⟩)
  have T0 := Lib.hid (MT.out W W.heap.size (Nat.le_refl _))
  have B0 := Lib.hid ((Below.refl _ W).alloc (Nat.le_refl _) (.cells cs 31))
  clear mk MT HH hce
  go_loopw [7, 24] (fun s7 i wr => ∃ (k m : Nat) (A2 : Option Addr) (c2 : Nat), k ≤ n ∧ m ≤ c ∧ i = .int .i64 k ∧ s7 = .slice A2 m c2 ∧ MakeAt W (raw (ids.take k) each) m A2 c2 wr) (fun _ i _ => n - (intOf i).toNat)
  case atStart => exact ⟨0, 0, _, _, by omega, by omega, rfl, rfl, rfl, T0.out, B0.out⟩
  case round =>
    obtain ⟨k, m, A2, c2, hk, hmc, rfl, rfl, hm, hT, hB⟩ := hrel
    have HM := Lib.hid hm
    have HT := Lib.hid hT
    have HB := Lib.hid hB
    clear T0 B0
    by_cases hlt : k < n
    · have k1 : k < ids.length := by rw [HN.out]; exact hlt
      have hpl := PL.out k hlt
      have hmk : m = k * each := by rw [← hm, raw_len, List.length_take, Nat.min_eq_left (by omega)]
      have PT := Lib.hid (fun x j => part_len (e := each) x j (Nat.le_of_lt k1))
      generalize hp : k * each = p at *
      obtain ⟨b, o, rfl, hbl, x0⟩ := reads_z HX.out k1
      have x1 := (hB.cell (p := ⟨b, o + k, none⟩) hbl).trans x0
      have EX := Lib.hid (show ids[k]? = some ids[k] from List.getElem?_eq_getElem k1)
      obtain ⟨r0, r1⟩ := HR.out ids[k] (List.getElem_mem k1)
      generalize hu : ids[k] = x at *
      have RN := Lib.hid (raw_next EX.out each)
      have i1 : (k : Int) < (n : Int) := by omega
      subst hmk
      clear hu hp hm hT hB k1 x0
      go_wp2
      go_loopw [7, 29] (fun s7 i wr => ∃ (j q : Nat) (A3 : Option Addr) (c3 : Nat), j ≤ each ∧ q = m + j ∧ i = .int .i64 j ∧ s7 = .slice A3 q c3 ∧ MakeAt W (raw (ids.take k) each ++ (List.range j).map (tok x)) q A3 c3 wr) (fun _ i _ => each - (intOf i).toNat)
      case atStart => exact ⟨0, m, A2, c2, by omega, by omega, rfl, rfl, by have := PT.out x 0; simpa using this, by simpa using HT.out, HB.out⟩
      case round =>
        obtain ⟨j, q, A3, c3, hj, hq, rfl, rfl, hm3, hT3, hB3⟩ := hrel
        have HM3 := Lib.hid hm3
        have HT3 := Lib.hid hT3
        have HB3 := Lib.hid hB3
        have HQ := Lib.hid hq
        by_cases hlj : j < each
        · have wx : IntKind.u64.wrap x = x := by rw [IntKind.wrap_u64]; omega
          have wj : IntKind.u64.wrap (j : Int) = j := by rw [IntKind.wrap_u64]; omega
          have wx2 : x % 18446744073709551616 = x := by omega
          have H2 := Lib.hid (fun V => two_i x j r0 r1 (by omega) V)
          have TS := Lib.hid (toks_succ x j)
          have hq1 : q + 1 ≤ c := by omega
          clear hm3 hT3 hB3 hq
          go_wp2_with (first | (go_at_call 28; refine (H2.out _).mono ?_; rintro e w' ⟨rfl, rfl⟩) | (refine wpList_append_tk rfl _ _ (by rfl) (tok x j) rfl rfl rfl rfl rfl HT3.out HM3.out (by omega) HB3.out.size HB3.out (Nat.le_refl _) ?_; intro A4 c4 w4 Z4 G4 B4))
          go_roundw
          case rel => exact ⟨j + 1, q + 1, A4, c4, by omega, by have := HQ.out; omega, by go_num, rfl, by rw [TS.out, ← List.append_assoc, List.length_append, HM3.out]; rfl, by rw [TS.out, ← List.append_assoc]; exact Z4.out, B4.out⟩
          case measure => simp [intOf]; omega
        · obtain rfl : j = each := by omega
          have hq1 : q ≤ c := by omega
          clear hm3 hT3 hB3 hq
          go_wp2
          go_roundw
          case rel => exact ⟨k + 1, q, A3, c3, by omega, hq1, by go_num, rfl, by rw [RN.out]; exact HM3.out, by rw [RN.out]; exact HT3.out, HB3.out⟩
          case measure => simp [intOf]; omega
    · obtain rfl : k = n := by omega
      have TK := Lib.hid (show ids.take k = ids from List.take_of_length_le (by rw [HN.out]; omega))
      have HS := Lib.hid (sort_c W.heap.size A2 (raw ids each) m c2 wr (by have := hm; rwa [TK.out] at this) (by omega) (by have := hT; rwa [TK.out] at this) hB.size)
      have SL := Lib.hid (show (srt (raw ids each)).length = m by rw [(srt_perm _).length_eq]; have := hm; rwa [TK.out] at this)
      clear hm hT hB
      go_wp2_with (go_at_call 29; refine HS.out.mono ?_; rintro e w5 ⟨rfl, ht5, hb5⟩; have T5 := Lib.hid ht5; have B5 := Lib.hid (HB.out.trans hb5); clear ht5 hb5)
      go_ret2
      exact ⟨A2, c2, by rw [SL.out]; rfl, T5.out, B5.out⟩
end Go.Proofs.Ytpnfcjodjgbdbaa.Ring
