/-
  The contract of parts for a divisor of 2^64: the rest is what the lowest 64 bits are.
-/
import Derived.Test.YtahhgeecikljdaaBigDivPure
import Derived.Deep.RegionWith
namespace Go.Proofs.Ytahhgeecikljdaa.Big
set_option linter.unusedVariables false
open Go.RowKit

theorem pow_small (j : Nat) (h : j < 31) : ((2 : Int) ^ j % 4294967296 / 2147483648 == 0) = true := by
  have h1 : (2 : Nat) ^ j < 2 ^ 31 := Nat.pow_lt_pow_right (by omega) h
  have h2 : ((2 : Int) ^ j) = ((2 ^ j : Nat) : Int) := by push_cast; rfl
  rw [h2, beq_iff_eq]
  generalize (2 : Nat) ^ j = m at *
  omega
theorem row95 {l : List UInt32} (hl : l.length = 4) (hv : val l = 39614081257132168796771975168) : l = [0, 0, 2147483648, 0] := by
  match l, hl with
  | [a, b, c, d], _ =>
    simp only [val] at hv
    have ha := a.toNat_lt; have hb := b.toNat_lt; have hc := c.toNat_lt; have hd := d.toNat_lt
    have e1 : a = 0 := UInt32.toNat_inj.1 (by show a.toNat = 0; omega)
    have e2 : b = 0 := UInt32.toNat_inj.1 (by show b.toNat = 0; omega)
    have e3 : c = 2147483648 := UInt32.toNat_inj.1 (by show c.toNat = 2147483648; omega)
    have e4 : d = 0 := UInt32.toNat_inj.1 (by show d.toNat = 0; omega)
    subst e1 e2 e3 e4
    rfl

def YRow (W : World) (e : Ending) (W' : World) : Prop :=
  ∃ g : Nat, e = .returned (.slice (some ⟨g, 0, none⟩) 4 4) ∧ W.heap.size ≤ g ∧ Below W.heap.size W W' ∧ Blk W' g 71 (rowOf [0, 0, 2147483648, 0])
theorem y_c (gy cb k : Nat) (W : World) (hgy : ∃ cs, Blk W gy 71 cs)
    (y0 : W.cell? ⟨gy, 0, none⟩ = some (.int .u32 0)) (y1 : W.cell? ⟨gy, 1, none⟩ = some (.int .u32 0)) (y2 : W.cell? ⟨gy, 2, none⟩ = some (.int .u32 1)) :
    Calls Try.prog 62 #[.slice (some ⟨gy, 0, none⟩) 3 cb, .int .i64 31] (W.drewN k) (YRow (W.drewN k)) := by
  obtain ⟨cs, hB⟩ := hgy
  have hd : Dig (W.drewN k) (some ⟨gy, 0, none⟩) [0, 0, 1] := .inr ⟨gy, cs, rfl, hB, fun j u hj => by
    match j with
    | 0 => injection hj with hj; subst hj; rw [← Blk.cell hB]; exact y0
    | 1 => injection hj with hj; subst hj; rw [← Blk.cell hB]; exact y1
    | 2 => injection hj with hj; subst hj; rw [← Blk.cell hB]; exact y2
    | n + 3 => simp at hj⟩
  refine (shl_c (some ⟨gy, 0, none⟩) cb [0, 0, 1] (W.drewN k) hd (by decide)).mono ?_
  rintro e w' ⟨g, l, rfl, hl, hv, hg, hb, hBl⟩
  have : l = [0, 0, 2147483648, 0] := row95 hl (by rw [hv]; rfl)
  subst this
  exact ⟨g, rfl, hg, hb, hBl⟩

/-- Behind 'v, u := shiftLeft(y, by)[:n], shiftLeft(x, by)'. -/
def PMid (W : World) (x : List UInt32) (v u : Value) (wx : World) : Prop :=
  ∃ (gv gu : Nat) (row : List UInt32), v = .slice (some ⟨gv, 0, none⟩) 3 4 ∧ u = .slice (some ⟨gu, 0, none⟩) (x.length + 1) (x.length + 1) ∧ Below W.heap.size W wx ∧ W.heap.size ≤ gv ∧ gv < gu ∧
    Blk wx gv 71 (rowOf [0, 0, 2147483648, 0]) ∧ Blk wx gu 71 (rowOf row) ∧ row.length = x.length + 1 ∧ val row = val x * 2147483648

/-- Behind the steps from the head down to place kk: the row's upper digits are nought, what is left is the same but for multiples of 2^95. -/
def PAt (W : World) (x : List UInt32) (gv gu go kk : Nat) (wr : World) : Prop :=
  Below W.heap.size W wr ∧ Blk wr gv 71 (rowOf [0, 0, 2147483648, 0]) ∧ (∃ out, Blk wr go 71 (rowOf out) ∧ out.length = x.length + 1) ∧
    ∃ row : List UInt32, Blk wr gu 71 (rowOf row) ∧ row.length = x.length + 1 ∧ (∃ t, row[kk + 2]? = some t ∧ t.toNat < 2147483648) ∧ (∀ j, kk + 2 < j → j < row.length → row[j]? = some 0) ∧
      ∃ Q, val row + Q * 39614081257132168796771975168 = val x * 2147483648

theorem p_start {W wx : World} {x : List UInt32} {gv gu : Nat} {row : List UInt32} (hL : 3 ≤ x.length) (hb : Below W.heap.size W wx) (hv : Blk wx gv 71 (rowOf [0, 0, 2147483648, 0])) (hu : Blk wx gu 71 (rowOf row)) (hlen : row.length = x.length + 1) (hval : val row = val x * 2147483648) :
    PAt W x gv gu wx.heap.size (x.length - 2) (wx.alloc (.cells (rowOf (List.replicate (x.length + 1) 0)) 71)) := by
  refine ⟨hb.alloc hb.size _, hv.alloc _, ⟨_, Blk.new _ _ _, by simp⟩, row, hu.alloc _, hlen, ?_, ?_, 0, by rw [hval]; omega⟩
  · obtain ⟨t, ht⟩ : ∃ t, row[x.length]? = some t := ⟨_, List.getElem?_eq_getElem (by omega)⟩
    refine ⟨t, by rw [show x.length - 2 + 2 = x.length by omega]; exact ht, ?_⟩
    have h1 := val_lt x
    have h2 : val row = val (row.take x.length) + 4294967296 ^ x.length * t.toNat := by
      rw [← val_take_succ row x.length t ht, List.take_of_length_le (by omega)]
    have h3 : 4294967296 ^ x.length * t.toNat < 4294967296 ^ x.length * 2147483648 := by
      have : val x * 2147483648 < 4294967296 ^ x.length * 2147483648 := Nat.mul_lt_mul_of_pos_right h1 (by omega)
      omega
    exact Nat.lt_of_mul_lt_mul_left h3
  · intro j hj hjl
    omega

/-- Within the subtraction of one step, behind i of its three digits. -/
def P5 (W : World) (x row out : List UInt32) (gv gu go k i : Nat) (t2 t3 c b : UInt32) (wr : World) : Prop :=
  Below W.heap.size W wr ∧ Blk wr gv 71 (rowOf [0, 0, 2147483648, 0]) ∧ Blk wr go 71 (rowOf out) ∧
    ((i ≤ 2 ∧ c = 0 ∧ b = 0 ∧ Blk wr gu 71 (rowOf row)) ∨ (i = 3 ∧ c = hi (shl31 (pq t2 t3)) ∧ b = top63 (sub32 t2 (lo (shl31 (pq t2 t3)))) ∧ Blk wr gu 71 (rowOf (row.set (k + 2) (pr t2 t3)))))
theorem below_drewN {B : Nat} {a w : World} (h : Below B a w) (n : Nat) : Below B a (w.drewN n) := ⟨h.os, h.tape, h.output, h.size, h.block⟩
theorem set_same {l : List UInt32} {k : Nat} {u : UInt32} (h : l[k]? = some u) : l.set k u = l := by
  apply List.ext_getElem?
  intro j
  by_cases e : j = k
  · subst e; rw [List.getElem?_set_self (List.getElem?_eq_some_iff.1 h).1, h]
  · rw [List.getElem?_set_ne (Ne.symm e)]
theorem p5_same {W : World} {x row out : List UInt32} {gv gu go k i j : Nat} {t2 t3 u : UInt32} {wr : World} (hb : Below W.heap.size W wr) (hv : Blk wr gv 71 (rowOf [0, 0, 2147483648, 0])) (ho : Blk wr go 71 (rowOf out)) (hu : Blk wr gu 71 (rowOf row))
    (hj : row[j]? = some u) (hi : i ≤ 2) (_h : True) (h1 : gv ≠ gu) (h2 : go ≠ gu) (h3 : W.heap.size ≤ gu ∧ W.heap.size ≤ go) :
    P5 W x row out gv gu go k i t2 t3 0 0 (wr.setCell ⟨gu, j, none⟩ (.int .u32 u.toNat)) := by
  refine ⟨hb.setCell h3.1 _, hv.far h1 _, ho.far h2 _, .inl ⟨hi, rfl, rfl, ?_⟩⟩
  have := hu.put_ j u
  rwa [set_same hj] at this
theorem p5_last {W : World} {x row out : List UInt32} {gv gu go k : Nat} {t2 t3 : UInt32} {wr : World} (hb : Below W.heap.size W wr) (hv : Blk wr gv 71 (rowOf [0, 0, 2147483648, 0])) (ho : Blk wr go 71 (rowOf out)) (hu : Blk wr gu 71 (rowOf row))
    (h1 : gv ≠ gu) (h2 : go ≠ gu) (h3 : W.heap.size ≤ gu ∧ W.heap.size ≤ go) :
    P5 W x row out gv gu go k 3 t2 t3 (hi (shl31 (pq t2 t3))) (top63 (sub32 t2 (lo (shl31 (pq t2 t3))))) (wr.setCell ⟨gu, k + 2, none⟩ (.int .u32 (pr t2 t3).toNat)) :=
  ⟨hb.setCell h3.1 _, hv.far h1 _, ho.far h2 _, .inr ⟨rfl, rfl, rfl, hu.put_ _ _⟩⟩
theorem p_next {W : World} {x row out : List UInt32} {gv gu go k Q : Nat} {t2 t3 : UInt32} {wr : World} (hb : Below W.heap.size W wr) (hv : Blk wr gv 71 (rowOf [0, 0, 2147483648, 0])) (ho : Blk wr go 71 (rowOf out)) (hu : Blk wr gu 71 (rowOf (row.set (k + 2) (pr t2 t3))))
    (e2 : row[k + 2]? = some t2) (e3 : row[k + 3]? = some t3) (h31 : t3.toNat < 2147483648) (hz : ∀ j, k + 1 + 2 < j → j < row.length → row[j]? = some 0) (hQ : val row + Q * 39614081257132168796771975168 = val x * 2147483648) (hol : out.length = x.length + 1) (hlen : row.length = x.length + 1)
    (h1 : gv ≠ gu) (h2 : go ≠ gu) (h3 : W.heap.size ≤ gu ∧ W.heap.size ≤ go) (_h : gv ≠ go) :
    PAt W x gv gu go k ((wr.setCell ⟨gu, k + 3, none⟩ (.int .u32 0)).setCell ⟨go, k, none⟩ (.int .u32 (pq t2 t3).toNat)) := by
  have hk3 : k + 3 < row.length := (List.getElem?_eq_some_iff.1 e3).1
  refine ⟨(hb.setCell h3.1 _).setCell h3.2 _, (hv.far h1 _).far (p := ⟨go, k, none⟩) ?_ _, ⟨out.set k (pq t2 t3), (ho.far h2 _).put_ _ _, by rw [List.length_set]; exact hol⟩, (row.set (k + 2) (pr t2 t3)).set (k + 3) 0, ?_, by rw [List.length_set, List.length_set]; exact hlen, ⟨pr t2 t3, ?_, ?_⟩, ?_, Q + 4294967296 ^ k * (pq t2 t3).toNat, ?_⟩
  · exact _h
  · exact (hu.put_ (k + 3) 0).far (p := ⟨go, k, none⟩) (Ne.symm h2) _
  · rw [List.getElem?_set_ne (by omega), List.getElem?_set_self (by omega)]
  · rw [pr_nat]; omega
  · intro j hj hjl
    rw [List.length_set, List.length_set] at hjl
    by_cases e : j = k + 3
    · subst e; rw [List.getElem?_set_self (by rw [List.length_set]; omega)]
    · rw [List.getElem?_set_ne (by omega), List.getElem?_set_ne (by omega)]
      exact hz j (by omega) hjl
  · exact div_step e2 e3 h31 hQ
theorem ndec (n : Nat) : decide ((n : Int) < 0) = false := decide_eq_false (by omega)
theorem quo_join3 (a b : UInt32) (h : b.toNat < 2147483648) : IntKind.u64.wrap (((join a b : Nat) : Int) / 2147483648) = ((pq a b).toNat : Int) := by
  have := quo_join a b h; rwa [Int.tdiv_eq_ediv_of_nonneg (by omega)] at this
attribute [local go_sem] ndec quo_join3 or_join or_join2 quo_join rem_join wide32 narrow32 small32 small63 wrapw subbed32 subbedw topped63 shl31ed shr32 low32 low_rest top_rest
def PDone (W : World) (x : List UInt32) (e : Ending) (W' : World) : Prop :=
  ∃ (go : Nat) (out : List UInt32) (g : Nat) (l : List UInt32), e = .returned (.tuple #[.slice (some ⟨go, 0, none⟩) (x.length + 1) (x.length + 1), .slice (some ⟨g, 0, none⟩) 3 3]) ∧ Below W.heap.size W W' ∧ Blk W' go 71 (rowOf out) ∧ out.length = x.length + 1 ∧ Blk W' g 71 (rowOf l) ∧ l.length = 3 ∧ val l = val x % 18446744073709551616
theorem rest_c {W wo : World} {x : List UInt32} {gv gu go : Nat} (h : PAt W x gv gu go 0 wo) (hM : x.length + 1 ≤ 35184372088832) :
    Calls Try.prog 49 #[.slice (some ⟨gu, 0, none⟩) 3 (x.length + 1), .int .i64 31] wo (Summed (val x % 18446744073709551616) 3 wo) := by
  obtain ⟨hb, hv, _, row, hu, hlen, ⟨t, ht, h31⟩, hz, Q, hQ⟩ := h
  have h2 : 2 < row.length := (List.getElem?_eq_some_iff.1 ht).1
  have hl3 : (row.take 3).length = 3 := by rw [List.length_take]; omega
  have hval : val row = val (row.take 3) := by
    conv => lhs; rw [← List.take_append_drop 3 row, val_append]
    rw [val_zeros (l := row.drop 3) (fun j u hj => by
      rw [List.getElem?_drop] at hj
      have hjl := (List.getElem?_eq_some_iff.1 hj).1
      rw [hz (3 + j) (by omega) hjl] at hj
      injection hj with hj; exact hj.symm)]
    omega
  have hlt : val (row.take 3) < 39614081257132168796771975168 := by
    rw [show (3 : Nat) = 2 + 1 from rfl, val_take_succ row 2 t ht]
    have := val_lt (row.take 2)
    rw [List.length_take, Nat.min_eq_left (by omega)] at this
    omega
  have hfin : val (sr31 (row.take 3)) = val x % 18446744073709551616 := by
    rw [sr31_val]
    rw [hval] at hQ
    omega
  have key := shiftRight31_c gu (x.length + 1) (row.take 3) t wo (by omega) (fun j u hj => hu.at_ (by
      rw [List.getElem?_take] at hj
      split at hj
      · exact hj
      · cases hj)) hu.lt (by rw [hl3]; omega) (by rw [hl3]; omega)
  rw [hl3] at key
  refine key.mono ?_
  rintro e w' ⟨g, rfl, hg, hb', hB⟩
  exact ⟨g, sr31 (row.take 3), by rw [sr31_len, hl3], by rw [sr31_len, hl3], hfin, hg, hb', hB⟩
theorem p_done {W wo w2 : World} {x l : List UInt32} {gv gu go g : Nat} (h : PAt W x gv gu go 0 wo) (hl : l.length = 3) (hv : val l = val x % 18446744073709551616) (hb : Below wo.heap.size wo w2) (hB : Blk w2 g 71 (rowOf l)) :
    PDone W x (.returned (.tuple #[.slice (some ⟨go, 0, none⟩) (x.length + 1) (x.length + 1), .slice (some ⟨g, 0, none⟩) 3 3])) w2 := by
  obtain ⟨hb0, _, ⟨out, ho, hol⟩, _⟩ := h
  exact ⟨go, out, g, l, rfl, hb0.trans (hb.mono hb0.size), ho.below hb ho.lt, hol, hB, hl, hv⟩

attribute [local go_sem ↓] Go.wp_at_zero Go.wp_at_succ
set_option maxRecDepth 100000 in
set_option maxHeartbeats 2000000 in
theorem parts_c (A : Option Addr) (gy ca cb : Nat) (x : List UInt32) (W : World) (hx : Dig W A x) (hL : 3 ≤ x.length) (hM : x.length + 1 ≤ 35184372088832) (hgy : ∃ cs, Blk W gy 71 cs)
    (y0 : W.cell? ⟨gy, 0, none⟩ = some (.int .u32 0)) (y1 : W.cell? ⟨gy, 1, none⟩ = some (.int .u32 0)) (y2 : W.cell? ⟨gy, 2, none⟩ = some (.int .u32 1)) :
    Calls Try.prog 82 #[.slice A x.length ca, .slice (some ⟨gy, 0, none⟩) 3 cb] W (PDone W x) := by
  go_enter Try.func82, Try.ntmps82
  go_wp2
  go_loop [9] (fun i => ∃ j : Nat, j ≤ 31 ∧ i = .int .i64 j) (fun i => 31 - (intOf i).toNat)
  case atStart => exact ⟨0, by omega, rfl⟩
  case round =>
    obtain ⟨j, hj, rfl⟩ := hrel
    by_cases hj2 : j < 31
    · have hp := pow_small j hj2
      go_wp2
      go_round
      case rel => exact ⟨j + 1, by omega, by go_num⟩
      case measure => simp [intOf]; omega
    · obtain rfl : j = 31 := by omega
      go_wp2
      go_cut [11, 12] (fun v u wx => PMid W x v u wx)
      case first =>
        go_region_with (first | (go_at_call_of 62 (Value.slice (some ⟨gy, 0, none⟩) 3 cb); refine (y_c gy cb _ W hgy y0 y1 y2).mono ?_; rintro e w1 ⟨gv, rfl, hgv, hb1, hB1⟩; have hx1 : Dig w1 A x := hx.keep fun g cs h => h.below (Below.undraw hb1) h.lt) | (go_at_call_of 62 (Value.slice A x.length ca); refine (shl_c _ _ x _ hx1 hM).mono ?_; rintro e w2 ⟨gu, row, rfl, hl, hv, hgu, hb2, hB2⟩; have HL := Lib.hid hl; have HV := Lib.hid hv; clear hl hv))
        all_goals go_wp2_with fail
        all_goals go_meet
        all_goals exact ⟨gv, gu, row, rfl, rfl, (Below.undraw hb1).trans (hb2.mono hb1.size), hgv, Nat.lt_of_lt_of_le hB1.lt hgu, hB1.below hb2 hB1.lt, hB2, HL.out, HV.out⟩
      case rest =>
        obtain ⟨gv, gu, row, rfl, rfl, hb, hgv, hgu, hBv, hBu, hlen, hval⟩ := hcut
        have hmk := make_c (x.length + 1) hM
        rw [show ((x.length + 1 : Nat) : Int) = (x.length : Int) + 1 by omega] at hmk
        have hguw := hBu.lt
        have hwc := hb.size
        have HS := Lib.hid (p_start hL hb hBv hBu hlen hval)
        clear hb hBv hBu hlen hval
        go_wp2
        go_loopw [14] (fun i wr => ∃ kk : Nat, kk ≤ x.length - 2 ∧ i = .int .i64 ((kk : Int) - 1) ∧ PAt W x gv gu wc.heap.size kk wr) (fun i _ => (intOf i + 1).toNat)
        case atStart => exact ⟨x.length - 2, Nat.le_refl _, by go_num, HS.out⟩
        case round =>
          obtain ⟨kk, hkk, rfl, hP⟩ := hrel
          obtain ⟨wo, rfl⟩ : ∃ wo : World, wo = wr := ⟨_, rfl⟩
          by_cases hk0 : 0 < kk
          · obtain ⟨k, rfl⟩ : ∃ k, kk = k + 1 := ⟨kk - 1, by omega⟩
            have hki : ((k + 1 : Nat) : Int) - 1 = (k : Int) := by omega
            rw [hki]
            clear hki
            obtain ⟨hb, hBv, ⟨out, hBo, hol⟩, row, hBu, hlen, ⟨t3, ht3, h31⟩, hz, Q, hQ⟩ := hP
            obtain ⟨t0, ht0⟩ : ∃ t, row[k]? = some t := ⟨_, List.getElem?_eq_getElem (by omega)⟩
            obtain ⟨t1, ht1⟩ : ∃ t, row[k + 1]? = some t := ⟨_, List.getElem?_eq_getElem (by omega)⟩
            obtain ⟨t2, ht2⟩ : ∃ t, row[k + 2]? = some t := ⟨_, List.getElem?_eq_getElem (by omega)⟩
            obtain ⟨o, ho⟩ : ∃ t, out[k]? = some t := ⟨_, List.getElem?_eq_getElem (by omega)⟩
            have u0 : wo.cell? ⟨gu, k, none⟩ = some (.int .u32 t0.toNat) := hBu.at_ ht0
            have u1 : wo.cell? ⟨gu, k + 1, none⟩ = some (.int .u32 t1.toNat) := hBu.at_ ht1
            have u2 : wo.cell? ⟨gu, k + 2, none⟩ = some (.int .u32 t2.toNat) := hBu.at_ ht2
            have u3 : wo.cell? ⟨gu, k + 3, none⟩ = some (.int .u32 t3.toNat) := hBu.at_ ht3
            have v0 : wo.cell? ⟨gv, 0, none⟩ = some (.int .u32 0) := hBv.at_ (k := 0) rfl
            have v1 : wo.cell? ⟨gv, 1, none⟩ = some (.int .u32 0) := hBv.at_ (k := 1) rfl
            have v2 : wo.cell? ⟨gv, 2, none⟩ = some (.int .u32 2147483648) := hBv.at_ (k := 2) rfl
            have hk3 : (k : Int) + 3 < (x.length : Int) + 1 := by omega
            have HT := Lib.hid (And.intro ht0 (And.intro ht1 (And.intro ht2 (And.intro ht3 (And.intro ho (And.intro h31 (And.intro hz hQ)))))))
            have HO := Lib.hid (And.intro hol hlen)
            clear ht0 ht1 ht2 ht3 ho h31 hz hQ hol hlen
            have hgvu : gv ≠ gu := by omega
            have hgou : wc.heap.size ≠ gu := by omega
            have hgvo : gv ≠ wc.heap.size := by omega
            have hgW : W.heap.size ≤ gu ∧ W.heap.size ≤ wc.heap.size := ⟨by omega, hwc⟩
            have h31 : t3.toNat < 2147483648 := HT.out.2.2.2.2.2.1
            go_wp2
            go_quiet (fail)
            go_wp2
            go_quiet (fail)
            go_wp2
            go_loopw [16, 17] (fun q r wr => q = .int .u64 (pq t2 t3).toNat ∧ r = .int .u64 (pr t2 t3).toNat ∧ ∃ nq, wr = wo.drewN nq) (fun _ _ _ => 0)
            case atStart => exact ⟨rfl, rfl, _, drewN2 _ _ _⟩
            case round =>
              obtain ⟨rfl, rfl, nq', rfl⟩ := hrel
              go_wp2
              go_quiet (fail)
              go_wp2
              go_loopw [18, 19, 174] (fun c b i wr => ∃ (ii : Nat) (cc bb : UInt32), ii ≤ 3 ∧ i = .int .i64 ii ∧ c = .int .u64 cc.toNat ∧ b = .int .u64 bb.toNat ∧ P5 W x row out gv gu wc.heap.size k ii t2 t3 cc bb wr) (fun _ _ i _ => 3 - (intOf i).toNat)
              case atStart => exact ⟨0, 0, 0, by omega, rfl, rfl, rfl, below_drewN hb _, hBv, hBo, .inl ⟨by omega, rfl, rfl, hBu⟩⟩
              case round =>
                obtain ⟨ii, cc, bb, hii, rfl, rfl, rfl, hb5, hBv5, hBo5, h5⟩ := hrel
                have v0' : wr.cell? ⟨gv, 0, none⟩ = some (.int .u32 0) := hBv5.at_ (k := 0) rfl
                have v1' : wr.cell? ⟨gv, 1, none⟩ = some (.int .u32 0) := hBv5.at_ (k := 1) rfl
                have v2' : wr.cell? ⟨gv, 2, none⟩ = some (.int .u32 2147483648) := hBv5.at_ (k := 2) rfl
                rcases h5 with ⟨hi2, rfl, rfl, hB5⟩ | ⟨rfl, rfl, rfl, hB5⟩
                · have w0 : wr.cell? ⟨gu, k, none⟩ = some (.int .u32 t0.toNat) := hB5.at_ HT.out.1
                  have w1 : wr.cell? ⟨gu, k + 1, none⟩ = some (.int .u32 t1.toNat) := hB5.at_ HT.out.2.1
                  have w2 : wr.cell? ⟨gu, k + 2, none⟩ = some (.int .u32 t2.toNat) := hB5.at_ HT.out.2.2.1
                  have x0 : wr.frozen? ⟨gu, k, none⟩ = false := hB5.frozen _
                  have x1 : wr.frozen? ⟨gu, k + 1, none⟩ = false := hB5.frozen _
                  have x2 : wr.frozen? ⟨gu, k + 2, none⟩ = false := hB5.frozen _
                  rcases (by omega : ii = 0 ∨ ii = 1 ∨ ii = 2) with rfl | rfl | rfl
                  · have HN := Lib.hid (p5_same (x := x) (k := k) (t2 := t2) (t3 := t3) (u := t0) (j := k) (i := 1) hb5 hBv5 hBo5 hB5 HT.out.1 (by omega) trivial hgvu hgou hgW)
                    clear hb5 hBv5 hBo5 hB5
                    go_wp2
                    go_roundw
                    case rel => exact ⟨1, 0, 0, by omega, by go_num, rfl, rfl, HN.out⟩
                    case measure => simp [intOf]
                  · have HN := Lib.hid (p5_same (x := x) (k := k) (t2 := t2) (t3 := t3) (u := t1) (j := k + 1) (i := 2) hb5 hBv5 hBo5 hB5 HT.out.2.1 (by omega) trivial hgvu hgou hgW)
                    clear hb5 hBv5 hBo5 hB5
                    go_wp2
                    go_roundw
                    case rel => exact ⟨2, 0, 0, by omega, by go_num, rfl, rfl, HN.out⟩
                    case measure => simp [intOf]
                  · have HN := Lib.hid (p5_last hb5 hBv5 hBo5 hB5 hgvu hgou hgW : P5 W x row out gv gu wc.heap.size k 3 t2 t3 _ _ _)
                    clear hb5 hBv5 hBo5 hB5
                    go_wp2
                    go_roundw
                    case rel => exact ⟨3, _, _, by omega, by go_num, rfl, rfl, HN.out⟩
                    case measure => simp [intOf]
                · have y3 : wr.cell? ⟨gu, k + 3, none⟩ = some (.int .u32 t3.toNat) := hB5.at_ (by rw [List.getElem?_set_ne (by omega)]; exact HT.out.2.2.2.1)
                  have g3 : wr.frozen? ⟨gu, k + 3, none⟩ = false := hB5.frozen _
                  have o3 : (wr.setCell ⟨gu, k + 3, none⟩ (.int .u32 0)).cell? ⟨wc.heap.size, k, none⟩ = some (.int .u32 o.toNat) := by
                    rw [World.cell?_setCell_other _ _ _ _ (by intro h; injection h with h _; omega)]
                    exact hBo5.at_ HT.out.2.2.2.2.1
                  have p3 : wr.frozen? ⟨wc.heap.size, k, none⟩ = false := hBo5.frozen _
                  have HN := Lib.hid (p_next (Q := Q) hb5 hBv5 hBo5 hB5 HT.out.2.2.1 HT.out.2.2.2.1 h31 HT.out.2.2.2.2.2.2.1 HT.out.2.2.2.2.2.2.2 HO.out.1 HO.out.2 hgvu hgou hgW hgvo)
                  clear hb5 hBv5 hBo5 hB5
                  go_wp2
                  go_roundw
                  case rel => exact ⟨k, by omega, rfl, HN.out⟩
                  case measure => simp [intOf]
          · obtain rfl : kk = 0 := by omega
            have HR := Lib.hid (rest_c hP hM)
            have HD := Lib.hid hP
            clear hP
            go_wp2_with fail
            refine HR.out.mono ?_
            rintro e w2 ⟨g, l, rfl, hl, hv, hgg, hb2, hB2⟩
            have HF := Lib.hid (p_done HD.out hl hv hb2 hB2)
            clear hl hv hb2 hB2
            go_wp2_with fail
            go_ret2
            exact HF.out
end Go.Proofs.Ytahhgeecikljdaa.Big
