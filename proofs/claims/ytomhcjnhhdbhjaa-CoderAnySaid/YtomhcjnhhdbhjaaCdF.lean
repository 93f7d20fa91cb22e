/-
  Package coder: row, rows.
-/
import Derived.Test.YtomhcjnhhdbhjaaCdE
namespace Go.Proofs.Ytomhcjnhhdbhjaa.Cdr
set_option linter.unusedVariables false
open Go.RowKit Gf Mem Poly

/-- The first k pieces have been added. -/
def RowTo (ps : List Pc) (v : UInt8) (k : Nat) (l : List UInt8) : Prop := ∀ j, j < l.length → co l j = msum (nums8 ps) (co (col (datas ps) j)) v k
theorem rowTo_zero (ps : List Pc) (v : UInt8) (L : Nat) : RowTo ps v 0 (List.replicate L 0) := fun j _ => co_replicate L j
theorem rowTo_next {ps : List Pc} {v : UInt8} {k : Nat} {l : List UInt8} {p : Pc} (h : RowTo ps v k l) (hp : ps[k]? = some p) (hl : l.length = p.2.length) : RowTo ps v (k + 1) (addm l 0 p.2 (wt (nums8 ps) v k)) := fun j hj => by
  rw [len_addm (by omega)] at hj
  rw [co_addm, if_neg (by omega), Nat.sub_zero, h j hj, msum, co_col (datas_at hp)]
theorem rowTo_fill {ps : List Pc} {v : UInt8} {l : List UInt8} (h : RowTo ps v ps.length l) (hd : (nums8 ps).Nodup) : Fill (nums8 ps) (datas ps) v l :=
  msum_fill hd (by rw [nums8_len, datas_len]) (by rw [nums8_len]; exact h)
/-- The row v of the code that the pieces tell. -/
def RowOf (ps : List Pc) (v : UInt8) (W : World) (e : Ending) (W' : World) : Prop :=
  ∃ (C : Option Addr) (c : Nat) (r : List UInt8), e = .returned (.slice C r.length c) ∧ r.length ≤ c ∧ Reads W' C (r.map byt) ∧ Below W.heap.size W W' ∧ (∀ a, C = some a → W.heap.size ≤ a.block) ∧ r.length = ((datas ps).headD []).length ∧ Fill (nums8 ps) (datas ps) v r
set_option maxHeartbeats 4000000 in
set_option maxRecDepth 100000 in
theorem row_c (g : Nat) (A : Option Addr) (ps : List Pc) (cap v : Nat) (hv : v < 256) (h0 : 0 < ps.length) (hl : ps.length ≤ 100) (hn : Nums ps) (he : evenB (datas ps) = true) (hL : ((datas ps).headD []).length ≤ 140737488351232) (W : World) (hG : IsBasis W g A cap ps) (hR : Pcs W A ps) :
    Calls Try.prog 27 #[.pointer (some ⟨g, 0, none⟩), .int .i64 v] W (RowOf ps (UInt8.ofNat v) W) := by
  have HG := Lib.hid hG
  have HR := Lib.hid hR
  have HNUM := Lib.hid hn
  have HE := Lib.hid he
  obtain ⟨b, o, C0, c0, p0, rfl, hb, ep, c1, c2, lr, lc, rr⟩ := hR.piece (k := 0) h0
  have hHH := head_of (datas_at ep)
  rw [hHH] at hL
  have HH := Lib.hid hHH
  have cg := (Known.cell hG 0).trans (bas_zero _ _ _ _)
  have hmk := fun w => make8 p0.2.length (by omega) w
  have hwt := fun w (hb : Below W.heap.size W w) => weights_c g (some ⟨b, o, none⟩) ps cap v hv hl hn w (hG.later hb) (hR.below hb)
  have HWT := Lib.hid hwt
  rw [Nat.zero_mul, Nat.add_zero] at c1 c2
  clear hwt hR hn hG ep rr c1 lr lc he hHH hb
  generalize hL0 : p0.2.length = L at *
  have HL0 := Lib.hid hL0
  generalize hN : ps.length = n at *
  have HN := Lib.hid hN
  clear hN hL0
  have i0 : (0 : Int) < (n : Int) := by omega
  have hz : ∀ w : World, (zeroValue 49).run Try.prog w = .ok (.agg (Array.replicate 100 (.int .u8 0))) w := fun _ => by kernel_rfl
  have HB1 := Lib.hid ((Below.refl W.heap.size W).alloc (Nat.le_refl _) (.cells (Array.replicate L (byt 0)) 5))
  have HO1 := Lib.hid (Own.made W L)
  go_enter Try.func27, Try.ntmps27
  go_wp2_with fail
  refine (HWT.out _ HB1.out).mono ?_
  rintro e w1 ⟨rfl, hB2⟩
  have HB2 := Lib.hid (HB1.out.trans (hB2.mono (by simp)))
  have HO2 := Lib.hid (HO1.out.later hB2)
  have HW := Lib.hid (known_setRow (Known.made w1 49 (Array.replicate 100 (.int .u8 0))) : OwnT ((w1.alloc (.cells (Array.replicate 100 (.int .u8 0)) 49)).setRow w1.heap.size (((tab (wt (nums8 ps) (UInt8.ofNat v))).map byt).toArray)) w1.heap.size 49 (tab (wt (nums8 ps) (UInt8.ofNat v))))
  have HLT := Lib.hid (by have := HO2.out.lt; omega : W.heap.size < w1.heap.size)
  have HB3 := Lib.hid (below_setRow (HB2.out.alloc HB2.out.size (.cells (Array.replicate 100 (.int .u8 0)) 49)) HB2.out.size (((tab (wt (nums8 ps) (UInt8.ofNat v))).map byt).toArray))
  have HO3 := Lib.hid (known_offRow (cs := (((tab (wt (nums8 ps) (UInt8.ofNat v))).map byt).toArray)) (HO2.out.alloc (.cells (Array.replicate 100 (.int .u8 0)) 49)) (Nat.ne_of_lt HLT.out))
  have c03 := (HB3.out.cell (p := ⟨g, 0, none⟩) HG.out.lt).trans cg
  clear hB2 HB1 HO1
  go_wp2_with ((refine wpList_store_row rfl 49 _ _ rfl w1.heap.size _ rfl rfl 49 _ (Known.made _ _ _) (by rw [tabCells]; exact size49) (by rw [tabCells, Array.size_replicate]) (byt_one _) ?_))
  clear hz hmk c03 c2
  go_loopw [26] (fun i wr => ∃ (k : Nat) (l : List UInt8), k ≤ n ∧ i = .int .i64 k ∧ l.length = L ∧ RowTo ps (UInt8.ofNat v) k l ∧ OwnT wr W.heap.size 5 l ∧ OwnT wr w1.heap.size 49 (tab (wt (nums8 ps) (UInt8.ofNat v))) ∧ Below W.heap.size W wr) (fun i _ => n - (intOf i).toNat)
  case atStart => exact ⟨0, List.replicate L 0, by omega, rfl, by simp, rowTo_zero _ _ _, HO3.out, HW.out, HB3.out⟩
  case round =>
    clear HO3 HB3 HW HO2 HB2
    obtain ⟨k, l, hk, rfl, hll, hT, hO, hW, hB⟩ := hrel
    have HLL := Lib.hid hll
    have HT := Lib.hid hT
    have HO := Lib.hid hO
    have HW := Lib.hid hW
    have HB := Lib.hid hB
    clear hll hT hO hW hB
    by_cases hlt : k < n
    · obtain ⟨b', o', C, c, p, eA, hb, ep, c1, c2, lr, lc, rr⟩ := HR.out.piece (k := k) (by rw [HN.out]; exact hlt)
      injection eA with eA
      injection eA with eA1 eA2
      subst eA1 eA2
      have hC := fun h => reads_lt rr h
      replace c1 := (HB.out.cell (p := ⟨b, _, none⟩) hb).trans c1
      replace c2 := (HB.out.cell (p := ⟨b, _, none⟩) hb).trans c2
      replace rr := rr.below HB.out
      have EP := Lib.hid ep
      have hpl : p.2.length = L := by rw [evenB_len HE.out (datas_at ep), HH.out, HL0.out]
      rw [hpl] at c2
      have i2 : (k : Int) < (n : Int) := by omega
      have k100 : (k : Int) < 100 := by omega
      have HW1 := Lib.hid (HW.out.alloc (.cells #[.int .i64 p.1, .slice C L c] 35))
      have HO1 := Lib.hid (HO.out.alloc (.cells #[.int .i64 p.1, .slice C L c] 35))
      have HB1 := Lib.hid (HB.out.alloc HB.out.size (.cells #[.int .i64 p.1, .slice C L c] 35))
      have cw := HW1.out.at_ (tab_at (wt (nums8 ps) (UInt8.ofNat v)) (i := k) (by omega))
      have hadd := fun q => addMultiple_c W.heap.size 5 l p.2 L C c (wt (nums8 ps) (UInt8.ofNat v) k) ((wr.alloc (.cells #[.int .i64 p.1, .slice C L c] 35)).drewN q) (HO1.out.drawn ⟨q, rfl⟩) ((rr.alloc _).drawn ⟨q, rfl⟩) (fun h a ha => Nat.ne_of_lt (hC h a ha)) (HLL.out.trans hpl.symm) (by omega)
      rw [hpl] at hadd
      have HADD := Lib.hid hadd
      have HPL := Lib.hid hpl
      clear hadd ep lr rr hb hC hpl lc
      go_wp2
      refine Mem.region_tail 6 (by kernel_rfl) (by kernel_rfl) ?_
      simp only [List.take_succ_cons, List.take_zero, List.drop_succ_cons, List.drop_zero]
      repeat still_step
      refine wpStill_nil ?_
      go_wp2_with fail
      refine (HADD.out 1).mono ?_
      rintro e w2 ⟨rfl, hO2, hG2⟩
      have HO2 := Lib.hid hO2
      have HG2 := Lib.hid hG2
      clear hO2 hG2
      go_wp2
      go_roundw
      case rel => exact ⟨k + 1, _, by omega, by go_num, (len_addm (by rw [HLL.out, HPL.out]; omega) _).trans HLL.out, rowTo_next HT.out EP.out (by rw [HLL.out, HPL.out]), HO2.out, known_grown (Known.drawn HW1.out ⟨1, rfl⟩) HG2.out (fun e => by injection e with e; have := HLT.out; omega), (below_drew HB1.out).grown HG2.out (by simp; have := HB.out.size; omega) (fun k hk => by injection hk with hk; omega)⟩
      case measure => simp [intOf]; omega
    · obtain rfl : k = n := by omega
      go_wp2
      go_ret
      have hLL := HLL.out
      subst hLL
      refine ⟨some ⟨W.heap.size, 0, none⟩, l.length, l, rfl, Nat.le_refl _, OwnT.reads HO.out, HB.out, fun a ha => by injection ha with ha; subst ha; exact Nat.le_refl _, by rw [HH.out, HL0.out], ?_⟩
      have h1 := HT.out
      rw [← HN.out] at h1
      exact rowTo_fill h1 HNUM.out.2

/-- Rows from number a on. -/
def RowsFrom (ps : List Pc) (a : Nat) (outs : List (List UInt8)) : Prop :=
  ∀ (j : Nat) (out : List UInt8), outs[j]? = some out → out.length = ((datas ps).headD []).length ∧ Fill (nums8 ps) (datas ps) (UInt8.ofNat (a + j)) out
theorem rowsFrom_snoc {ps : List Pc} {a : Nat} {outs : List (List UInt8)} {r : List UInt8} (h : RowsFrom ps a outs) (h1 : r.length = ((datas ps).headD []).length) (h2 : Fill (nums8 ps) (datas ps) (UInt8.ofNat (a + outs.length)) r) : RowsFrom ps a (outs ++ [r]) := fun j out hj => by
  by_cases hk : j < outs.length
  · rw [List.getElem?_append_left hk] at hj; exact h j out hj
  · rw [List.getElem?_append_right (by omega)] at hj
    have h0 : j - outs.length = 0 := by
      rcases Nat.eq_zero_or_pos (j - outs.length) with h4 | h4
      · exact h4
      · rw [List.getElem?_eq_none (by simp; omega)] at hj; cases hj
    rw [h0] at hj
    simp at hj
    subst hj
    have : j = outs.length := by omega
    subst this
    exact ⟨h1, h2⟩
def RowsMade (ps : List Pc) (a n : Nat) (W : World) (e : Ending) (W' : World) : Prop :=
  ∃ (A : Option Addr) (c : Nat) (outs : List (List UInt8)), e = .returned (.slice A n c) ∧ outs.length = n ∧ n ≤ c ∧ Rds W' A outs ∧ Below W.heap.size W W' ∧ RowsFrom ps a outs
set_option maxHeartbeats 4000000 in
theorem rows_c (g : Nat) (A : Option Addr) (ps : List Pc) (cap a z : Nat) (haz : a ≤ z) (hz : z ≤ 256) (h0 : 0 < ps.length) (hl : ps.length ≤ 100) (hn : Nums ps) (he : evenB (datas ps) = true) (hL : ((datas ps).headD []).length ≤ 140737488351232) (W : World) (hG : IsBasis W g A cap ps) (hR : Pcs W A ps) :
    Calls Try.prog 23 #[.pointer (some ⟨g, 0, none⟩), .int .i64 a, .int .i64 z] W (RowsMade ps a (z - a) W) := by
  have hrow := fun v (hv : v < 256) V (hb : Below W.heap.size W V) => row_c g A ps cap v hv h0 hl hn he hL V (hG.later hb) (hR.below hb)
  have HROW := Lib.hid hrow
  have HL := Lib.hid hL
  clear hrow hn he hL hG hR h0 hl
  obtain ⟨n, hn⟩ : ∃ n, z - a = n := ⟨_, rfl⟩
  rw [hn]
  have i1 : (z : Int) - (a : Int) = (n : Int) := by omega
  obtain ⟨ie, hi, hz0, hz1, hz2⟩ := info_parts infoS8
  go_enter Try.func23, Try.ntmps23
  go_wp2_with (at_make; refine wpList_make_own _ rfl _ _ 22 rfl W.heap.size 33 ie _ 1 Try.underlying22 hi hz0 hz1 .i64 .i64 _ n rfl rfl rfl ?c1 ?c2 (Nat.le_refl _) ?_)
  case c1 => rw [hz2]; omega
  case c2 => unfold maxLen; omega
  intro w1 hr hg
  have HT1 := Lib.hid (⟨[], hr, rfl, fun k u r h => by simp at h⟩ : Table w1 W.heap.size (.slice (some ⟨W.heap.size, 0, none⟩) 0 n) [])
  have HB1 := Lib.hid ((Below.refl W.heap.size W).grown hg (Nat.le_refl _) (fun k hk => by cases hk))
  clear hr hg hi hz0 hz1 hz2
  go_wp2
  go_loopw [7, 8] (fun s i wr => ∃ (t : Nat) (A2 : Option Addr) (c2 : Nat) (outs : List (List UInt8)), t ≤ z ∧ i = .int .i64 t ∧ a + outs.length = t ∧ s = .slice A2 outs.length c2 ∧ Table wr W.heap.size s outs ∧ RowsFrom ps a outs ∧ Below W.heap.size W wr) (fun _ i _ => z - (intOf i).toNat)
  case atStart => exact ⟨a, some ⟨W.heap.size, 0, none⟩, n, [], haz, rfl, rfl, rfl, HT1.out, fun j out h => by simp at h, HB1.out⟩
  case round =>
    obtain ⟨t, A2, c2, outs, ht, rfl, hat, rfl, hT, hO, hB⟩ := hrel
    have HT := Lib.hid hT
    have HO := Lib.hid hO
    have HB := Lib.hid hB
    have HAT := Lib.hid hat
    clear hT hO hB
    generalize hm : outs.length = m at *
    have HM := Lib.hid hm
    clear hm hat
    by_cases hlt : t < z
    · have i2 : (t : Int) < (z : Int) := by omega
      go_wp2_with fail
      refine (HROW.out t (by omega) wr HB.out).mono ?_
      rintro e w4 ⟨C, c, r, rfl, hrc, hR4, hB4, hf4, hrl, hF⟩
      have HRO := Lib.hid (HT.out.row_new hB4 hR4 hrc (by have := HL.out; omega) hf4)
      have HT4 := Lib.hid (HT.out.later hB4)
      have HB4 := Lib.hid (HB.out.trans (hB4.mono HB.out.size))
      have HN := Lib.hid (rowsFrom_snoc HO.out hrl (by rw [HM.out, HAT.out]; exact hF))
      clear hrc hR4 hB4 hf4 hrl hF
      go_wp2_with (at_builtin; refine wpList_append_row rfl (.tmp 19) (.tmp 23) rfl rfl rfl HT4.out HRO.out ?c3 HB4.out.size HB4.out (Nat.le_refl _) ?_)
      case c3 => rw [HM.out]; have := HAT.out; omega
      intro v' w5 hT5 hB5
      obtain ⟨A5, c5, hv, _, _⟩ := hT5.out.form
      have HB5 := Lib.hid hB5
      have hl5 : (outs ++ [r]).length = m + 1 := by rw [List.length_append, HM.out]; rfl
      have HL5 := Lib.hid hl5
      clear hB5 hl5
      subst hv
      go_wp2
      go_roundw
      case rel => exact ⟨t + 1, A5, c5, outs ++ [r], by omega, by go_num, by rw [HL5.out]; have := HAT.out; omega, rfl, hT5.out, HN.out, HB5.out⟩
      case measure => simp [intOf]; omega
    · obtain rfl : t = z := by omega
      have HMN := Lib.hid (by have := HAT.out; omega : m = n)
      go_wp2
      go_ret
      have e := HMN.out
      subst e
      obtain ⟨A6, c6, hv, h6, h7⟩ := HT.out.form
      injection hv with hv1 hv2 hv3
      subst hv1 hv3
      exact ⟨_, _, outs, rfl, HM.out, by rw [← HM.out]; exact h6, HT.out.rds, HB.out, HO.out⟩
end Go.Proofs.Ytomhcjnhhdbhjaa.Cdr
