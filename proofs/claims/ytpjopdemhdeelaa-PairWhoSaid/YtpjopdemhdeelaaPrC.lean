/-
  Package pair: column, apart.
-/
import Derived.Test.YtpjopdemhdeelaaPrB
namespace Go.Proofs.Ytpjopdemhdeelaa.Pair
set_option linter.unusedVariables false
open Go.RowKit Gf Mem Poly Cdr
attribute [local go_sem] xor8_nat

theorem madeS (n : Nat) : madeCells #[Value.slice none 0 0] n = Array.replicate n (.slice none 0 0) := by
  apply Array.ext_getElem?
  intro i
  by_cases h : i < n
  · simp [madeCells, h, Nat.mod_one]
  · simp [madeCells, h]
theorem makeS (n : Nat) (hn : n ≤ 5864062014805) (w : World) :
    (Instr.makeSlice 22 (.int .i64 n) (.int .i64 n)).run Try.prog w = .ok (.slice (some ⟨w.heap.size, 0, none⟩) n n) (w.alloc (.cells (Array.replicate n (.slice none 0 0)) 23)) := by
  obtain ⟨i, hi, hz0, hz1, hz2⟩ := info_parts infoS8
  have hb : (i.bytes : Int) * (n : Int) ≤ 281474976710656 := by rw [hz2]; omega
  have hr := run_make (P := Try.prog) w 22 23 i (.slice none 0 0) Try.underlying22 hi hz0 .i64 .i64 n n (by omega) (by omega) hb (by omega)
  rw [hr]
  simp only [Int.toNat_natCast, hz1, Nat.mul_one]
  rw [show (Value.slice none 0 0).cells = #[Value.slice none 0 0] from rfl, madeS]

set_option maxRecDepth 100000 in
set_option maxHeartbeats 2000000 in
theorem column_c (A : Option Addr) (rows : List (List UInt8)) (ca at_ n : Nat) (hbig : rows.length ≤ 255) (he : ∀ (k : Nat) (r : List UInt8), rows[k]? = some r → r.length = n) (hn : n ≤ 140737488351232) (hat : at_ < n) (W : World) (hR : Rds W A rows) :
    Calls Try.prog 33 #[.slice A rows.length ca, .int .i64 at_] W (RowsAre (colRows rows at_) W) := by
  have hmk := makeS rows.length (by omega)
  have HM := Lib.hid (Known.made W 23 (Array.replicate rows.length (.slice none 0 0)))
  have HR := Lib.hid hR
  have HE := Lib.hid he
  clear hR he
  generalize hN : rows.length = l at *
  have HN := Lib.hid hN
  clear hN
  go_enter Try.func33, Try.ntmps33
  go_wp2
  go_loopw [13] (fun i wr => ∃ (k : Nat) (cs : Array Value), k ≤ l ∧ i = .int .i64 k ∧ Known wr W.heap.size 23 cs ∧ cs.size = l ∧ (∀ (j : Nat) (r : List UInt8), j < k → rows[j]? = some r → ∃ u, cs[j]? = some u ∧ IsRow W u [co r at_]) ∧ Below W.heap.size W wr) (fun i _ => l - (intOf i).toNat)
  case atStart => exact ⟨0, _, by omega, rfl, HM.out, by simp, fun j r hj _ => absurd hj (by omega), (Below.refl _ _).alloc (Nat.le_refl _) _⟩
  case round =>
    obtain ⟨k, cs, hk, rfl, hK, hS, hF, hB⟩ := hrel
    have HK := Lib.hid hK
    have HS := Lib.hid hS
    have HF := Lib.hid hF
    have HB := Lib.hid hB
    clear hK hS hF hB
    by_cases hlt : k < l
    · obtain ⟨b, o, D, d, r, rfl, er, cr, lr, lc, rr⟩ := HR.out.row (k := k) (by rw [HN.out]; exact hlt)
      have hrl := HE.out k r er
      obtain ⟨bd, od, x, rfl, ex, cx⟩ := rr.bytes (k := at_) (by rw [hrl]; exact hat)
      have cr2 := (HB.out.cell (p := ⟨b, o + k, none⟩) (World.block_lt_of_cell? _ _ cr)).trans cr
      rw [hrl] at cr2 lr
      have hrow : IsRow W (.slice (some ⟨bd, od + at_, none⟩) 1 (d - at_)) [co r at_] := by
        refine ⟨_, d - at_, rfl, by simp; omega, by simp, fun j v hv => ?_⟩
        cases j with
        | zero =>
          simp at hv; subst hv
          exact ⟨bd, od + at_, rfl, World.block_lt_of_cell? _ _ cx, by rw [Nat.add_zero, cx, co_of_some ex]; rfl⟩
        | succ j => simp at hv
      have HROW := Lib.hid hrow
      have ER := Lib.hid er
      have c0 : wr.cell? ⟨W.heap.size, k, none⟩ = some (cs[k]'(by rw [HS.out]; exact hlt)) := (HK.out.cell k).trans (Array.getElem?_eq_getElem _)
      have f0 := HK.out.free k
      have i1 : (k : Int) < (l : Int) := by omega
      have i2 : (at_ : Int) < (d : Int) := by omega
      have i3 : (at_ : Int) + 1 ≤ (d : Int) := by omega
      have i4 : ¬ d = at_ := by omega
      have i5 : (at_ : Int) ≤ (n : Int) := by omega
      clear er cr lc rr hrl ex cx hrow
      go_wp2
      go_roundw
      case rel =>
        refine ⟨k + 1, _, by omega, by go_num, HK.out.put k _, by simp [HS.out], fun j q hj hq => ?_, HB.out.setCell (Nat.le_refl _) _⟩
        rw [Array.getElem?_setIfInBounds]
        by_cases e : k = j
        · subst e
          rw [ER.out] at hq; injection hq with hq; subst hq
          rw [if_pos rfl, if_pos (by rw [HS.out]; exact hlt)]
          exact ⟨_, rfl, HROW.out⟩
        · rw [if_neg e]; exact HF.out j q (by omega) hq
      case measure => simp [intOf]; omega
    · obtain rfl : k = l := by omega
      go_wp2
      go_ret
      refine ⟨some ⟨W.heap.size, 0, none⟩, k, by rw [colRows_len, HN.out]; rfl, by rw [colRows_len, HN.out]; exact Nat.le_refl _, ⟨cs.toList, fun j v hv => ⟨W.heap.size, 0, rfl, HK.out.lt, by rw [Nat.zero_add, HK.out.cell]; simpa using hv⟩, by rw [colRows_len, HN.out]; simpa using HS.out, fun j u q hu hq => ?_⟩, HB.out⟩
      cases h : rows[j]? with
      | none =>
        unfold colRows at hq
        rw [List.getElem?_map, h] at hq; cases hq
      | some r =>
        rw [colRows_at h] at hq; injection hq with hq; subst hq
        obtain ⟨u', h1, h2⟩ := HF.out j r (by rw [← HN.out]; exact (List.getElem?_eq_some_iff.1 h).1) h
        rw [show cs[j]? = some u by simpa using hu] at h1
        injection h1 with h1; subst h1
        exact h2.below HB.out

/-- Two rows in new memory that may be written to. -/
def TwoRows (x y : List UInt8) (n : Nat) (W : World) (e : Ending) (W' : World) : Prop :=
  ∃ g h, e = .returned (.tuple #[.slice (some ⟨g, 0, none⟩) n n, .slice (some ⟨h, 0, none⟩) n n]) ∧ W.heap.size ≤ g ∧ W.heap.size ≤ h ∧ Own W' g x ∧ Own W' h y ∧ Below W.heap.size W W'
theorem made_two (W : World) (n : Nat) : Own ((W.alloc (.cells (Array.replicate n (byt 0)) 5)).alloc (.cells (Array.replicate n (byt 0)) 5)).drew W.heap.size (List.replicate n 0) ∧
    Own ((W.alloc (.cells (Array.replicate n (byt 0)) 5)).alloc (.cells (Array.replicate n (byt 0)) 5)).drew (W.heap.size + 1) (List.replicate n 0) ∧
    Below W.heap.size W ((W.alloc (.cells (Array.replicate n (byt 0)) 5)).alloc (.cells (Array.replicate n (byt 0)) 5)).drew := by
  refine ⟨((Own.made W n).alloc _).drew, ?_, below_drew (((Below.refl _ _).alloc (Nat.le_refl _) _).alloc (by simp) _)⟩
  have h := Own.made (W.alloc (.cells (Array.replicate n (byt 0)) 5)) n
  rw [show (W.alloc (.cells (Array.replicate n (byt 0)) 5)).heap.size = W.heap.size + 1 by simp] at h
  exact h.drew
set_option maxRecDepth 100000 in
set_option maxHeartbeats 4000000 in
theorem apart_c (A B : Option Addr) (P Q : List UInt8) (n ca cb : Nat) (u v : UInt8) (huv : u ≠ v) (hn : n ≤ 140737488351232) (hP : P.length = n) (hQ : Q.length = n) (W : World) (hp : Reads W A (P.map byt)) (hq : Reads W B (Q.map byt)) :
    Calls Try.prog 28 #[.slice A n ca, .slice B n cb, .int .u8 u.toNat, .int .u8 v.toNat] W (TwoRows (apX u v P Q n) (apY u v P Q n) n W) := by
  have hmk := make8 n (by omega)
  have hx0 : (List.replicate n (0 : UInt8)) = apX u v P Q 0 := by rw [apX_zero, hP]
  have hy0 : (List.replicate n (0 : UInt8)) = apY u v P Q 0 := by rw [apY_zero, hP]
  have HX0 := Lib.hid hx0
  have HY0 := Lib.hid hy0
  have HP := Lib.hid hp
  have HQ := Lib.hid hq
  have HPL := Lib.hid hP
  have HQL := Lib.hid hQ
  have HI := Lib.hid (fun V => inv_c (xor8 u v) (Nat.pos_of_ne_zero (fun e => xor_ne huv (UInt8.toNat_inj.1 e))) V)
  clear hx0 hy0 hp hq hP hQ huv
  go_enter Try.func28, Try.ntmps28
  go_upto_region 1 with fail
  go_cut [10, 11] (fun x y wx => ∃ g h, x = .slice (some ⟨g, 0, none⟩) n n ∧ y = .slice (some ⟨h, 0, none⟩) n n ∧ g ≠ h ∧ W.heap.size ≤ g ∧ W.heap.size ≤ h ∧ Own wx g (apX u v P Q 0) ∧ Own wx h (apY u v P Q 0) ∧ Below W.heap.size W wx)
  case first =>
    go_region
    all_goals go_wp2_with fail
    all_goals go_meet
    · exact ⟨_, _, rfl, rfl, by omega, by omega, by omega, by rw [← HX0.out]; exact (made_two W n).1, by rw [← HY0.out]; exact (made_two W n).2.1, (made_two W n).2.2⟩
    · exact ⟨_, _, rfl, rfl, by omega, by omega, by omega, by rw [← HX0.out]; exact (made_two W n).2.1, by rw [← HY0.out]; exact (made_two W n).1, (made_two W n).2.2⟩
  case rest =>
    obtain ⟨g, h, rfl, rfl, hgh, hg, hh, hX, hY, hB⟩ := hcut
    have HX := Lib.hid hX
    have HY := Lib.hid hY
    have HB := Lib.hid hB
    have HGH := Lib.hid hgh
    clear hX hY hB hmk hgh
    go_wp2_with (((with_reducible refine (HI.out _).mono ?_); rintro e w' ⟨rfl, rfl⟩))
    go_loopw [31] (fun i wr => ∃ k : Nat, k ≤ n ∧ i = .int .i64 k ∧ Own wr g (apX u v P Q k) ∧ Own wr h (apY u v P Q k) ∧ Below W.heap.size W wr) (fun i _ => n - (intOf i).toNat)
    case atStart => exact ⟨0, by omega, rfl, HX.out, HY.out, HB.out⟩
    case round =>
      obtain ⟨k, hk, rfl, hX, hY, hB⟩ := hrel
      have KX := Lib.hid hX
      have KY := Lib.hid hY
      have KB := Lib.hid hB
      clear hX hY hB
      by_cases hlt : k < n
      · obtain ⟨b, o, c, rfl, ec, cc⟩ := (HP.out.below KB.out).bytes (k := k) (by rw [HPL.out]; exact hlt)
        obtain ⟨b2, o2, d, rfl, ed, cd⟩ := (HQ.out.below KB.out).bytes (k := k) (by rw [HQL.out]; exact hlt)
        have cs := KX.out.at_ (apX_at (u := u) (v := v) (P := P) (Q := Q) (by rw [HPL.out]; exact hlt))
        have fs := KX.out.free k
        have KX2 := KX.out.put k (solve u v c d)
        rw [apX_next ec ed] at KX2
        have KY2 := (KY.out.off (p := ⟨g, k, none⟩) (Ne.symm HGH.out) (.int .u8 ((solve u v c d).toNat : Int)))
        have cy : (wr.setCell ⟨g, k, none⟩ (.int .u8 ((mul (xor8 d (mul c v)) (inv (xor8 u v))).toNat : Int))).cell? ⟨h, k, none⟩ = some (.int .u8 ((0 : UInt8).toNat : Int)) := KY2.at_ (apY_at (u := u) (v := v) (P := P) (Q := Q) (by rw [HPL.out]; exact hlt))
        have fy := KY.out.free k
        have EY := Lib.hid (apY_next (u := u) (v := v) ec ed)
        have i1 : (k : Int) < (n : Int) := by omega
        have HX2 := Lib.hid KX2
        have HY2 := Lib.hid KY2
        clear ec ed KX2 KY2
        go_wp2
        refine Mem.region_tail 12 (by kernel_rfl) (by kernel_rfl) ?_
        simp only [List.take_succ_cons, List.take_zero, List.drop_succ_cons, List.drop_zero]
        repeat (first | (refine wpStill_step (fun K hK => ?_); go_simp; (refine ⟨_, mul_r _ _ _, hK _ ?_⟩); clear hK K) | still_step)
        refine wpStill_nil ?_
        go_wp2
        go_roundw
        case rel =>
          refine ⟨k + 1, by omega, by go_num, ?_, ?_, ?_⟩
          · exact (HX2.out.drew).off (p := ⟨h, k, none⟩) HGH.out _
          · have := (HY2.out.drew).put k (xor8 c (solve u v c d))
            rw [EY.out] at this
            exact this
          · exact (below_drew (KB.out.setCell (p := ⟨g, k, none⟩) hg _)).setCell (p := ⟨h, k, none⟩) hh _
        case measure => simp [intOf]; omega
      · obtain rfl : k = n := by omega
        go_wp2
        go_ret2
        exact ⟨g, h, rfl, hg, hh, KX.out, KY.out, KB.out⟩
end Go.Proofs.Ytpjopdemhdeelaa.Pair
