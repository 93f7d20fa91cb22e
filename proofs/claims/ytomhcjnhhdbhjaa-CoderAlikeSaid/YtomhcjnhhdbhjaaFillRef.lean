/-
  The reference's DFill: what stands at a number, byte by byte.
-/
import Derived.Test.YtomhcjnhhdbhjaaCoderRef
namespace Go.Proofs.Ytomhcjnhhdbhjaa.Cdr
set_option linter.unusedVariables false
open Go.RowKit Gf Mem Poly

/-- The bytes of all rows at place k. -/
def col (rows : List (List UInt8)) (k : Nat) : List UInt8 := rows.map fun r => co r k
theorem col_len (rows : List (List UInt8)) (k : Nat) : (col rows k).length = rows.length := by simp [col]
theorem col_next {rows : List (List UInt8)} {k i : Nat} {r : List UInt8} {x : UInt8} (hr : rows[i]? = some r) (hx : r[k]? = some x) : (col rows k).take (i + 1) = (col rows k).take i ++ [x] := by
  refine Poly.take_next ?_
  unfold col; rw [List.getElem?_map, hr]; show some (co r k) = _; rw [co_of_some hx]
def colTo (rows : List (List UInt8)) (k j : Nat) : List UInt8 := (col rows k).take j
theorem colTo_len {rows : List (List UInt8)} {k j : Nat} (h : j ≤ rows.length) : (colTo rows k j).length = j := Poly.take_len (by rw [col_len]; exact h)
theorem colTo_next {rows : List (List UInt8)} {k i : Nat} {r : List UInt8} {x : UInt8} (hr : rows[i]? = some r) (hx : r[k]? = some x) : colTo rows k (i + 1) = colTo rows k i ++ [x] := col_next hr hx
theorem colTo_all (rows : List (List UInt8)) (k : Nat) : colTo rows k rows.length = col rows k := List.take_of_length_le (by rw [col_len]; exact Nat.le_refl _)
/-- out holds, place by place, the values at 'at' of the polynomials through the columns. -/
def Fill (xs : List UInt8) (rows : List (List UInt8)) (v : UInt8) (out : List UInt8) : Prop := ∀ (k : Nat) (y : UInt8), out[k]? = some y → ∃ p, Thru xs (col rows k) p ∧ y = ev p v
theorem fill_nil (xs : List UInt8) (rows : List (List UInt8)) (v : UInt8) : Fill xs rows v [] := fun k y h => by simp at h
theorem fill_snoc {xs : List UInt8} {rows : List (List UInt8)} {v : UInt8} {out p : List UInt8} (h : Fill xs rows v out) (hp : Thru xs (col rows out.length) p) : Fill xs rows v (out ++ [ev p v]) := fun k y hy => by
  by_cases hk : k < out.length
  · rw [List.getElem?_append_left hk] at hy; exact h k y hy
  · rw [List.getElem?_append_right (by omega)] at hy
    have h0 : k - out.length = 0 := by
      rcases Nat.eq_zero_or_pos (k - out.length) with h3 | h3
      · exact h3
      · rw [List.getElem?_eq_none (by simp; omega)] at hy; cases hy
    rw [h0] at hy
    simp at hy
    obtain rfl : k = out.length := by omega
    exact ⟨p, hp, hy.symm⟩
theorem fill_unique {xs : List UInt8} {rows : List (List UInt8)} {v : UInt8} {out out' : List UInt8} (hd : xs.Nodup) (hl : xs.length = rows.length) (h : Fill xs rows v out) (h' : Fill xs rows v out') (hlen : out.length = out'.length) : out = out' := by
  apply List.ext_getElem hlen
  intro k h1 h2
  obtain ⟨p, hp, e⟩ := h k _ (List.getElem?_eq_getElem h1)
  obtain ⟨q, hq, e'⟩ := h' k _ (List.getElem?_eq_getElem h2)
  rw [e, e', thru_unique hd (by rw [col_len, hl]) hp hq]

set_option maxRecDepth 100000 in
set_option maxHeartbeats 4000000 in
theorem dFill_c (X A : Option Addr) (xs : List UInt8) (rows : List (List UInt8)) (cx ca n L : Nat) (v : UInt8) (W : World) (hX : Reads W X (xs.map byt)) (hR : Rds W A rows) (hx : xs.length = n) (hr : rows.length = n) (hn : 0 < n)
    (hd : xs.Nodup) (he : ∀ (k : Nat) (r : List UInt8), rows[k]? = some r → r.length = L) (hL : L ≤ 140737488351232) :
    Calls Try.prog 25 #[.slice X n cx, .slice A n ca, .int .u8 v.toNat] W fun e W' => ∃ out, Fill xs rows v out ∧ out.length = L ∧ Gives out W e W' := by
  have h256 := nodup_256 hd
  rw [hx] at h256
  have HX := Lib.hid hX
  have HR := Lib.hid hR
  have HN := Lib.hid hx
  have HM := Lib.hid hr
  have HD := Lib.hid hd
  have HE := Lib.hid he
  clear hX hR hx hr hd he
  obtain ⟨b, o, C0, c0, r0, rfl, er0, cr0, lr0, lc0, rr0⟩ := HR.out.row (k := 0) (by rw [HM.out]; exact hn)
  rw [Nat.add_zero, HE.out 0 r0 er0] at cr0
  clear er0 lr0 lc0 rr0 r0
  have i0 : (0 : Int) < (n : Int) := by omega
  go_enter Try.func25, Try.ntmps25
  go_wp2
  go_loopw [7, 16] (fun s i wr => ∃ (k : Nat) (A2 : Option Addr) (c2 : Nat) (out : List UInt8), k ≤ L ∧ i = .int .i64 k ∧ s = .slice A2 k c2 ∧ out.length = k ∧ Grows wr W.heap.size 5 s (out.map byt) ∧ Fill xs rows v out ∧ Below W.heap.size W wr) (fun _ i _ => L - (intOf i).toNat)
  case atStart => exact ⟨0, none, 0, [], by omega, rfl, rfl, rfl, Grows.nil _ _ _, fill_nil _ _ _, Below.refl _ _⟩
  case round =>
    obtain ⟨k, A2, c2, out, hk, rfl, rfl, hol, hG, hF, hB⟩ := hrel
    have HG := Lib.hid hG
    have HF := Lib.hid hF
    have HB := Lib.hid hB
    have HOL := Lib.hid hol
    clear hG hF hB hol
    obtain ⟨wo, rfl⟩ : ∃ wo : World, wo = wr := ⟨_, rfl⟩
    by_cases hlt : k < L
    · have i4 : (k : Int) < (L : Int) := by omega
      go_wp2
      go_loopw [9, 21] (fun s i wr => ∃ (j : Nat) (A3 : Option Addr) (c3 : Nat), j ≤ n ∧ i = .int .i64 j ∧ s = .slice A3 j c3 ∧ Grows wr wo.heap.size 5 s ((colTo rows k j).map byt) ∧ Below wo.heap.size wo wr) (fun _ i _ => n - (intOf i).toNat)
      case atStart => exact ⟨0, none, 0, by omega, rfl, rfl, Grows.nil _ _ _, Below.refl _ _⟩
      case round =>
        obtain ⟨j, A3, c3, hj, rfl, rfl, hG3, hB3⟩ := hrel
        have HG3 := Lib.hid hG3
        have HB3 := Lib.hid hB3
        have HW3 := Lib.hid (HB.out.trans (hB3.mono HB.out.size))
        clear hG3 hB3
        by_cases hlt2 : j < n
        · obtain ⟨b', o', C, c, r, ea, er, cr, lr, lc, rr⟩ := (HR.out.below HW3.out).row (k := j) (by rw [HM.out]; exact hlt2)
          injection ea with ea
          injection ea with ea1 ea2
          subst ea1 ea2
          have hrl := HE.out j r er
          obtain ⟨bx, ox, x, rfl, ex, cx⟩ := rr.bytes (k := k) (by rw [hrl]; exact hlt)
          rw [hrl] at cr lr
          have hcn := colTo_next er ex
          have hct : (colTo rows k j).length = j := colTo_len (by rw [HM.out]; exact hj)
          have HCN := Lib.hid hcn
          have HCT := Lib.hid hct
          clear er ex hcn hct hrl rr
          go_wp2_with (with_reducible refine wpList_append_one elem8 rfl (.tmp 25) (.tmp 30) rfl rfl rfl rfl HG3.out ?c1 ?c2 HB3.out.size ?_)
          case c1 => (first | rw [List.length_map, HCT.out] | rw [HCT.out]); unfold maxLen; omega
          case c2 => (first | rw [List.length_map, HCT.out] | rw [HCT.out]); omega
          intro v' w4 hG4 hg4
          have hlen : ((colTo rows k j).map byt ++ [Value.int .u8 (x.toNat : Int)]).length = j + 1 := by rw [List.length_append, List.length_map, HCT.out]; rfl
          obtain ⟨A4, c4, hv, _, _⟩ := hG4.form
          rw [hlen] at hv
          subst hv
          have hlist : (colTo rows k j).map byt ++ [Value.int .u8 (x.toNat : Int)] = (colTo rows k (j + 1)).map byt := by rw [HCN.out, List.map_append]; rfl
          rw [hlist] at hG4
          have HG4 := Lib.hid hG4
          have HB4 := Lib.hid ((HG3.out.alloc _).below hg4 (HB3.out.alloc HB3.out.size _) (Nat.le_refl _) (by simp; have := HB3.out.size; omega))
          clear hG4 hg4 hlen hlist
          go_wp2
          go_roundw
          case rel => exact ⟨j + 1, A4, c4, by omega, by go_num, rfl, HG4.out, HB4.out⟩
          case measure => simp [intOf]; omega
        · obtain rfl : j = n := by omega
          have hta : colTo rows k j = col rows k := by rw [← HM.out]; exact colTo_all rows k
          have hRY := HG3.out.reads
          rw [hta] at hRY
          have RY := Lib.hid hRY
          have hTh := cThrough_c X A3 xs (col rows k) cx c3 (by rw [col_len, HN.out, HM.out]) HD.out _ (HX.out.below HW3.out) hRY
          rw [HN.out] at hTh
          have HTH := Lib.hid hTh
          have HO3 := Lib.hid (HG.out.later HB3.out)
          clear hta hRY hTh
          go_wp2_with fail
          refine HTH.out.mono ?_
          rintro e w4 ⟨p, hp, A4, c4, rfl, _, hR4, hB4, _⟩
          have HP := Lib.hid hp
          have hpl : p.length ≤ 256 := by have := hp.2.1; rw [HN.out] at this; omega
          have R4 := Lib.hid hR4
          have HW4 := Lib.hid (HW3.out.trans (hB4.mono HW3.out.size))
          have HO4 := Lib.hid (HO3.out.later hB4)
          clear hp hR4 hB4
          go_wp2_with fail
          refine (cAt_c A4 p c4 v (by unfold maxLen; omega) w4 R4.out).mono ?_
          rintro e w' ⟨rfl, rfl⟩
          go_wp2_with (with_reducible refine wpList_append_one elem8 rfl (.tmp 33) (.tmp 39) rfl rfl rfl rfl HO4.out ?c3 ?c4 HW4.out.size ?_)
          case c3 => (first | rw [List.length_map, HOL.out] | rw [HOL.out]); unfold maxLen; omega
          case c4 => (first | rw [List.length_map, HOL.out] | rw [HOL.out]); omega
          intro v' w5 hG5 hg5
          have hlen : (out.map byt ++ [Value.int .u8 ((ev p v).toNat : Int)]).length = k + 1 := by rw [List.length_append, List.length_map, HOL.out]; rfl
          obtain ⟨A5, c5, hv, _, _⟩ := hG5.form
          rw [hlen] at hv
          subst hv
          have hlist : out.map byt ++ [Value.int .u8 ((ev p v).toNat : Int)] = (out ++ [ev p v]).map byt := by rw [List.map_append]; rfl
          rw [hlist] at hG5
          have HG5 := Lib.hid hG5
          have HB5 := Lib.hid ((HO4.out.alloc _).below hg5 (HW4.out.alloc HW4.out.size _) (Nat.le_refl _) (by simp; have := HW4.out.size; omega))
          clear hG5 hg5 hlen hlist
          go_wp2
          go_roundw
          case rel => exact ⟨k + 1, A5, c5, out ++ [ev p v], by omega, by go_num, rfl, by rw [List.length_append, HOL.out]; rfl, HG5.out, fill_snoc HF.out (by rw [HOL.out]; exact HP.out), HB5.out⟩
          case measure => simp [intOf]; omega
    · obtain rfl : k = L := by omega
      go_wp2
      go_ret
      obtain ⟨A6, c6, hv, h6, _⟩ := HG.out.form
      injection hv with hv1 hv2 hv3
      subst hv1 hv3
      rw [List.length_map] at h6
      exact ⟨out, HF.out, HOL.out, _, _, by rw [HOL.out]; rfl, h6, HG.out.reads, HB.out, HG.out.from_⟩
end Go.Proofs.Ytomhcjnhhdbhjaa.Cdr
