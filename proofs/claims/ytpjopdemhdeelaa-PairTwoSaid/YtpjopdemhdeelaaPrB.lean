/-
  Package pair: add, sum, weightedSum, column, weight, corrupt, apart.
-/
import Derived.Test.YtpjopdemhdeelaaPrA
import Derived.Test.YtpjopdemhdeelaaOwnT
import Derived.Deep.DeepCutAuto
import Derived.RegionTactic
import Derived.ChangeAlike
namespace Go.Proofs.Ytpjopdemhdeelaa.Pair
set_option linter.unusedVariables false
open Go.RowKit Gf Mem Poly Cdr
attribute [local go_sem] xor8_nat

/-- Block g holds l, and nothing else turned. -/
def Turned (W : World) (g : Nat) (l : List UInt8) (e : Ending) (W' : World) : Prop := e = .returned (.tuple #[]) ∧ Own W' g l ∧ W.grownBy W' (some g)
set_option maxHeartbeats 2000000 in
theorem add_c (g : Nat) (l q : List UInt8) (n c1 : Nat) (B : Option Addr) (c2 : Nat) (W : World) (hO : Own W g l) (hq : Reads W B (q.map byt)) (hB : q ≠ [] → ∀ a, B = some a → a.block ≠ g) (hl : l.length = n) (hn : q.length = n) (hbig : n ≤ 140737488351232) :
    Calls Try.prog 26 #[.slice (some ⟨g, 0, none⟩) n c1, .slice B n c2] W (Turned W g (plus l q)) := by
  have HO := Lib.hid hO
  have HQ := Lib.hid hq
  have HB := Lib.hid hB
  have HL := Lib.hid hl
  have HN := Lib.hid hn
  clear hO hq hB hl hn
  go_enter Try.func26, Try.ntmps26
  go_wp2
  go_loopw [8] (fun i wr => ∃ k : Nat, k ≤ n ∧ i = .int .i64 k ∧ Own wr g (plusTo l q k) ∧ W.grownBy wr (some g)) (fun i _ => n - (intOf i).toNat)
  case atStart => exact ⟨0, by omega, rfl, by rw [plusTo_zero]; exact HO.out, grown_refl _ _⟩
  case round =>
    obtain ⟨k, hk, rfl, hO, hG⟩ := hrel
    have HO1 := Lib.hid hO
    have HG := Lib.hid hG
    clear hO hG
    by_cases hlt : k < n
    · obtain ⟨b, o, c, rfl, ec, cc⟩ := (HQ.out.grown HG.out (fun a ha e => HB.out (by intro e; have := HN.out; rw [e] at this; simp at this; omega) a ha (by injection e))).bytes (k := k) (by rw [HN.out]; exact hlt)
      have cs := HO1.out.at_ (plusTo_at (l := l) (q := q) (by rw [HL.out]; exact hlt))
      have fs := HO1.out.free k
      have EC := Lib.hid (plusTo_next (l := l) (by rw [HL.out]; exact hlt) ec)
      have i1 : (k : Int) < (n : Int) := by omega
      clear ec
      go_wp2
      go_roundw
      case rel => exact ⟨k + 1, by omega, by go_num, by rw [← EC.out]; exact HO1.out.put k _, grown_set HG.out _ _⟩
      case measure => simp [intOf]; omega
    · obtain rfl : k = n := by omega
      go_wp2
      go_end0
      have h := HO1.out
      rw [show plusTo l q k = plus l q by rw [plus, HL.out]] at h
      exact ⟨rfl, h, HG.out⟩

theorem contains_c (L : Option Addr) (ls : List Int) (m c : Nat) (x : Int) (W : World) (hm : ls.length = m) (hl : ls.length ≤ 9223372036854775807) (h : Reads W L (ls.map (Value.int .i64))) :
    Calls Try.prog 40 #[.slice L m c, .int .i64 x] W fun e W' => e = .returned (.bool (ls.contains x)) ∧ W = W' := by
  subst hm
  cases ls with
  | nil => exact (Try.slices_Contains_int_empty L c x W).mono fun e w' k => ⟨k.1, k.2.symm⟩
  | cons z zs =>
    obtain ⟨b, o, rfl, _, _⟩ := h 0 (.int .i64 z) rfl
    refine (Try.slices_Contains_int b o (z :: zs).length c (z :: zs) x W (Nat.le_refl _) hl (fun j hj => ?_)).mono fun e w' k => ⟨by rw [k.1, List.take_length], k.2.symm⟩
    obtain ⟨b', o', e, _, hc⟩ := h j (.int .i64 (z :: zs)[j]) (by rw [List.getElem?_map, List.getElem?_eq_getElem hj]; rfl)
    injection e with e
    injection e with e1 e2
    subst e1 e2
    rw [hc, List.getD_eq_getElem?_getD, List.getElem?_eq_getElem hj]; rfl
/-- A row of the call's own that may be written to. -/
def NewRow (l : List UInt8) (W : World) (e : Ending) (W' : World) : Prop := ∃ g, e = .returned (.slice (some ⟨g, 0, none⟩) l.length l.length) ∧ W.heap.size ≤ g ∧ Own W' g l ∧ Below W.heap.size W W'
theorem rows_lt {W : World} {A : Option Addr} {rows : List (List UInt8)} {C : Option Addr} {r : List UInt8} (h : Reads W C (r.map byt)) : r ≠ [] → ∀ a, C = some a → a.block ≠ W.heap.size := fun hr a ha => by
  have := reads_lt h hr a ha; omega
set_option maxRecDepth 100000 in
set_option maxHeartbeats 2000000 in
theorem sum_c (A L : Option Addr) (rows : List (List UInt8)) (ls : List Int) (ca m cl n : Nat) (h0 : 0 < rows.length) (hbig : rows.length ≤ 255) (he : ∀ (k : Nat) (r : List UInt8), rows[k]? = some r → r.length = n) (hn : n ≤ 140737488351232) (hm : ls.length = m) (hl : ls.length ≤ 9223372036854775807) (W : World) (hR : Rds W A rows) (hL : Reads W L (ls.map (Value.int .i64))) :
    Calls Try.prog 23 #[.slice A rows.length ca, .slice L m cl] W (NewRow (par 1 (lose ls rows)) W) := by
  obtain ⟨b, o, C, c, rfl, cr, _⟩ := first_row hR h0
  rw [wide_of h0 he] at cr
  have hmk := make8 n (by omega)
  have hmade := Own.made W n
  rw [← sumUp_zero (lose ls rows) n] at hmade
  have HM := Lib.hid hmade
  have HR := Lib.hid hR
  have HE := Lib.hid he
  have HCO := Lib.hid (fun x V => contains_c L ls m cl x V hm hl)
  have HL := Lib.hid hL
  have HW := Lib.hid (show wide (lose ls rows) = n by rw [lose_wide, wide_of h0 he])
  have i0 : (0 : Int) < (rows.length : Int) := by omega
  clear hmade hR he hL hm hl h0
  generalize hN : rows.length = l at *
  have HN := Lib.hid hN
  clear hN
  go_enter Try.func23, Try.ntmps23
  go_wp2
  go_loopw [15] (fun i wr => ∃ k : Nat, k ≤ l ∧ i = .int .i64 k ∧ Own wr W.heap.size (sumUp (lose ls rows) n k) ∧ Below W.heap.size W wr) (fun i _ => l - (intOf i).toNat)
  case atStart => exact ⟨0, by omega, rfl, HM.out, (Below.refl _ _).alloc (Nat.le_refl _) _⟩
  case round =>
    obtain ⟨k, hk, rfl, hO, hB⟩ := hrel
    obtain ⟨wo, rfl⟩ : ∃ w : World, w = wr := ⟨_, rfl⟩
    have HO := Lib.hid hO
    have HB := Lib.hid hB
    clear hO hB
    by_cases hlt : k < l
    · obtain ⟨b', o', D, d, r, ea, er, cr', lr, lc, rr⟩ := HR.out.row (k := k) (by rw [HN.out]; exact hlt)
      injection ea with ea
      injection ea with ea1 ea2
      subst ea1 ea2
      have hb := reads_lt rr
      have cr2 := (HB.out.cell (p := ⟨b, o + k, none⟩) (World.block_lt_of_cell? _ _ cr')).trans cr'
      have hrl := HE.out k r er
      rw [hrl] at cr2
      have i1 : (k : Int) < (l : Int) := by omega
      have hcon := HCO.out (k : Int) wo (HL.out.below HB.out)
      have hadd := add_c W.heap.size (sumUp (lose ls rows) n k) r n n D d wo HO.out (rr.below HB.out) (fun hne a ha => by have := hb hne a ha; omega) (sumUp_len _ _ _) hrl hn
      have HADD := Lib.hid hadd
      have ER := Lib.hid er
      have HRL := Lib.hid hrl
      clear er cr' lr lc rr hb hrl hadd
      cases hc : ls.contains (k : Int) with
      | true =>
        rw [hc] at hcon
        have HCON := Lib.hid hcon
        have EN := Lib.hid (show sumUp (lose ls rows) n (k + 1) = sumUp (lose ls rows) n k by rw [sumUp_next (lose_in ER.out hc), plus_zeros])
        clear hcon hc
        go_wp2_with (((with_reducible refine HCON.out.mono ?_); rintro e w' ⟨rfl, rfl⟩))
        go_roundw
        case rel => exact ⟨k + 1, by omega, by go_num, by rw [EN.out]; exact HO.out, HB.out⟩
        case measure => simp [intOf]; omega
      | false =>
        rw [hc] at hcon
        have HCON := Lib.hid hcon
        have EN := Lib.hid (show sumUp (lose ls rows) n (k + 1) = plus (sumUp (lose ls rows) n k) r from sumUp_next (lose_out ER.out hc))
        clear hcon hc
        go_wp2_with (first | ((with_reducible refine HCON.out.mono ?_); rintro e w' ⟨rfl, rfl⟩) | ((with_reducible refine HADD.out.mono ?_); rintro e w2 ⟨rfl, hO2, hG2⟩; have HO2 := Lib.hid hO2; have HG2 := Lib.hid hG2; clear hO2 hG2))
        go_roundw
        case rel => exact ⟨k + 1, by omega, by go_num, by rw [EN.out]; exact HO2.out, HB.out.grown HG2.out HB.out.size (fun a ha => by injection ha with ha; omega)⟩
        case measure => simp [intOf]; omega
    · obtain rfl : k = l := by omega
      go_wp2
      go_ret
      have h := HO.out
      rw [show sumUp (lose ls rows) n k = par 1 (lose ls rows) by rw [← sumUp_all, HW.out, lose_len, HN.out]] at h
      exact ⟨W.heap.size, by rw [par_len, HW.out]; rfl, Nat.le_refl _, h, HB.out⟩

theorem mul2_c (a : UInt8) (W : World) : Calls Try.prog 22 #[.int .u8 a.toNat, .int .u8 2] W fun e W' => e = .returned (.int .u8 (mul a 2).toNat) ∧ W = W' := mul_c a 2 W
set_option maxRecDepth 100000 in
set_option maxHeartbeats 4000000 in
theorem weightedSum_c (A L : Option Addr) (rows : List (List UInt8)) (ls : List Int) (ca m cl n : Nat) (h0 : 0 < rows.length) (hbig : rows.length ≤ 255) (he : ∀ (k : Nat) (r : List UInt8), rows[k]? = some r → r.length = n) (hn : n ≤ 140737488351232) (hm : ls.length = m) (hl : ls.length ≤ 9223372036854775807) (W : World) (hR : Rds W A rows) (hL : Reads W L (ls.map (Value.int .i64))) :
    Calls Try.prog 24 #[.slice A rows.length ca, .slice L m cl] W (NewRow (par 2 (lose ls rows)) W) := by
  obtain ⟨b, o, C, c, rfl, cr, _⟩ := first_row hR h0
  rw [wide_of h0 he] at cr
  have hmk := make8 n (by omega)
  have hmade := Own.made W n
  rw [← sumDown_top (lose ls rows) n, lose_len] at hmade
  have HM := Lib.hid hmade
  have HR := Lib.hid hR
  have HE := Lib.hid he
  have HCO := Lib.hid (fun x V => contains_c L ls m cl x V hm hl)
  have HL := Lib.hid hL
  have HW := Lib.hid (show wide (lose ls rows) = n by rw [lose_wide, wide_of h0 he])
  have i0 : (0 : Int) < (rows.length : Int) := by omega
  clear hmade hR he hL hm hl h0
  generalize hN : rows.length = l at *
  have HN := Lib.hid hN
  clear hN
  go_enter Try.func24, Try.ntmps24
  go_wp2
  go_loopw [6] (fun i wr => ∃ k : Nat, k ≤ l ∧ i = .int .i64 ((k : Int) - 1) ∧ Own wr W.heap.size (sumDown (lose ls rows) n k) ∧ Below W.heap.size W wr) (fun i _ => (intOf i + 1).toNat)
  case atStart => exact ⟨l, by omega, rfl, HM.out, (Below.refl _ _).alloc (Nat.le_refl _) _⟩
  case round =>
    obtain ⟨k, hk, hi, hO, hB⟩ := hrel
    obtain ⟨wo, rfl⟩ : ∃ w : World, w = wr := ⟨_, rfl⟩
    have HO := Lib.hid hO
    have HB := Lib.hid hB
    clear hO hB
    rcases k with _ | k
    · have hk2 : _ = Value.int .i64 (-1) := hi
      clear hi
      subst hk2
      go_wp2
      go_ret
      have h := HO.out
      rw [show sumDown (lose ls rows) n 0 = par 2 (lose ls rows) by rw [← sumDown_all, HW.out]] at h
      exact ⟨W.heap.size, by rw [par_len, HW.out]; rfl, Nat.le_refl _, h, HB.out⟩
    · have hk2 : _ = Value.int .i64 (k : Int) := hi.trans (by congr 1; omega)
      clear hi
      subst hk2
      have LD := Lib.hid (sumDown_len (lose ls rows) n (k + 1))
      go_wp2
      go_loopw [23] (fun i wr => ∃ j : Nat, j ≤ n ∧ i = .int .i64 j ∧ Own wr W.heap.size (dblTo (sumDown (lose ls rows) n (k + 1)) j) ∧ Below W.heap.size W wr) (fun i _ => n - (intOf i).toNat)
      case atStart => exact ⟨0, by omega, rfl, by rw [dblTo_zero]; exact HO.out, HB.out⟩
      case round =>
        obtain ⟨j, hj, rfl, hO, hB⟩ := hrel
        have HO1 := Lib.hid hO
        have HB1 := Lib.hid hB
        clear hO hB
        by_cases hlt : j < n
        · have cs := HO1.out.at_ (dblTo_at (l := sumDown (lose ls rows) n (k + 1)) (by rw [LD.out]; exact hlt))
          have fs := HO1.out.free j
          have EC := Lib.hid (dblTo_next (l := sumDown (lose ls rows) n (k + 1)) (k := j) (by rw [LD.out]; exact hlt))
          have i1 : (j : Int) < (n : Int) := by omega
          go_wp2_with (((with_reducible refine (mul2_c _ _).mono ?_); rintro e w' ⟨rfl, rfl⟩))
          go_roundw
          case rel => exact ⟨j + 1, by omega, by go_num, by rw [← EC.out]; exact HO1.out.put j _, HB1.out.setCell (Nat.le_refl _) _⟩
          case measure => simp [intOf]; omega
        · obtain rfl : j = n := by omega
          have hO2 := HO1.out
          rw [show dblTo (sumDown (lose ls rows) j (k + 1)) j = dbl (sumDown (lose ls rows) j (k + 1)) by rw [dbl, LD.out]] at hO2
          obtain ⟨b', o', D, d, r, ea, er, cr', lr, lc, rr⟩ := HR.out.row (k := k) (by rw [HN.out]; omega)
          injection ea with ea
          injection ea with ea1 ea2
          subst ea1 ea2
          have hb := reads_lt rr
          have cr2 := (HB1.out.cell (p := ⟨b, o + k, none⟩) (World.block_lt_of_cell? _ _ cr')).trans cr'
          have hrl := HE.out k r er
          rw [hrl] at cr2
          have i1 : (k : Int) < (l : Int) := by omega
          have hcon := HCO.out (k : Int) wr (HL.out.below HB1.out)
          have hadd := add_c W.heap.size (dbl (sumDown (lose ls rows) j (k + 1))) r j j D d wr hO2 (rr.below HB1.out) (fun hne a ha => by have := hb hne a ha; omega) (by rw [dbl_len, LD.out]) hrl hn
          have HADD := Lib.hid hadd
          have HO2 := Lib.hid hO2
          have ER := Lib.hid er
          have HRL := Lib.hid hrl
          clear er cr' lr lc rr hb hrl hadd hO2
          cases hc : ls.contains (k : Int) with
          | true =>
            rw [hc] at hcon
            have HCON := Lib.hid hcon
            have EN := Lib.hid (show sumDown (lose ls rows) j k = dbl (sumDown (lose ls rows) j (k + 1)) by rw [sumDown_next (lose_in ER.out hc) (by rw [List.length_replicate]; exact HRL.out), plus_zeros])
            clear hcon hc
            go_wp2_with (((with_reducible refine HCON.out.mono ?_); rintro e w' ⟨rfl, rfl⟩))
            go_roundw
            case rel => exact ⟨k, by omega, by go_num, by rw [EN.out]; exact HO2.out, HB1.out⟩
            case measure => simp [intOf]
          | false =>
            rw [hc] at hcon
            have HCON := Lib.hid hcon
            have EN := Lib.hid (show sumDown (lose ls rows) j k = plus (dbl (sumDown (lose ls rows) j (k + 1))) r from sumDown_next (lose_out ER.out hc) HRL.out)
            clear hcon hc
            go_wp2_with (first | ((with_reducible refine HCON.out.mono ?_); rintro e w' ⟨rfl, rfl⟩) | ((with_reducible refine HADD.out.mono ?_); rintro e w2 ⟨rfl, hO2, hG2⟩; have HO3 := Lib.hid hO2; have HG2 := Lib.hid hG2; clear hO2 hG2))
            go_roundw
            case rel => exact ⟨k, by omega, by go_num, by rw [EN.out]; exact HO3.out, HB1.out.grown HG2.out HB1.out.size (fun a ha => by injection ha with ha; omega)⟩
            case measure => simp [intOf]

theorem weight_c (a : Nat) (ha : a < 255) (W : World) : Calls Try.prog 29 #[.int .i64 a] W fun e W' => e = .returned (.int .u8 (pow 2 a).toNat) ∧ W = W' := by
  have hp : ∀ V, Calls Try.prog 21 #[.int .u8 2, .int .i64 a] V fun e W' => e = .returned (.tuple #[.int .u8 (pow 2 a).toNat, .int .i64 0]) ∧ V = W' := fun V => pow_c 2 a (by omega) V
  have HP := Lib.hid hp
  clear hp
  go_enter Try.func29, Try.ntmps29
  go_wp2_with (((with_reducible refine (HP.out _).mono ?_); rintro e w' ⟨rfl, rfl⟩))
  go_ret
  exact ⟨rfl, rfl⟩
theorem corrupt_c (x y : UInt8) (hx : x ≠ 0) (hy : y ≠ 0) (W : World) : Calls Try.prog 34 #[.int .u8 x.toNat, .int .u8 y.toNat] W fun e W' => e = .returned (.int .i64 (log (mul y (inv x)) : Nat)) ∧ W = W' := by
  have hi0 : inv x ≠ 0 := fun e => by
    have hinv : mul x (inv x) = 1 := mul_inv hx
    rw [e, mul_zero] at hinv; exact absurd hinv (by decide)
  have HD := Lib.hid (fun V => div_c y x (Nat.pos_of_ne_zero (fun e => hx (UInt8.toNat_inj.1 e))) V)
  have HL := Lib.hid (fun V => log_c (mul y (inv x)) (mul_ne_zero hy hi0) V)
  clear hi0 hx hy
  go_enter Try.func34, Try.ntmps34
  go_wp2_with (first | ((with_reducible refine (HD.out _).mono ?_); rintro e w' ⟨rfl, rfl⟩) | ((with_reducible refine (HL.out _).mono ?_); rintro e w' ⟨rfl, rfl⟩))
  go_ret
  exact ⟨rfl, rfl⟩
end Go.Proofs.Ytpjopdemhdeelaa.Pair
