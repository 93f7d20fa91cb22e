/-
  The contracts of sumOf and (*Int).Add.
-/
import Derived.Test.YtahhgeecikljdaaBigMul
import Derived.Deep.RegionHeld3
import Derived.Deep.DeepCutAuto
import Derived.Deep.DrawnRows
namespace Go.Proofs.Ytahhgeecikljdaa.Big
set_option linter.unusedVariables false
open Go.RowKit

def add2 (c a : UInt32) : UInt64 := UInt64.ofNat (c.toNat + a.toNat)
def add3 (c a b : UInt32) : UInt64 := UInt64.ofNat (c.toNat + a.toNat + b.toNat)
theorem add2_nat (c a : UInt32) : (add2 c a).toNat = c.toNat + a.toNat := by
  unfold add2; have := c.toNat_lt; have := a.toNat_lt; rw [UInt64.toNat_ofNat', Nat.mod_eq_of_lt (by omega)]
theorem add3_nat (c a b : UInt32) : (add3 c a b).toNat = c.toNat + a.toNat + b.toNat := by
  unfold add3; have := c.toNat_lt; have := a.toNat_lt; have := b.toNat_lt; rw [UInt64.toNat_ofNat', Nat.mod_eq_of_lt (by omega)]
theorem added2 (c a : UInt32) : IntKind.u64.wrap ((c.toNat : Int) + (a.toNat : Int)) = ((add2 c a).toNat : Int) := by
  rw [add2_nat, IntKind.wrap_u64]; have := c.toNat_lt; have := a.toNat_lt; omega
theorem added3 (c a b : UInt32) : IntKind.u64.wrap (((add2 c a).toNat : Int) + (b.toNat : Int)) = ((add3 c a b).toNat : Int) := by
  rw [add3_nat, add2_nat, IntKind.wrap_u64]; have := c.toNat_lt; have := a.toNat_lt; have := b.toNat_lt; omega
attribute [local go_sem] wide32 added2 added3 shr32 low32 hi32 narrow32

theorem Dig.drewN {w : World} {A : Option Addr} {ds : List UInt32} (h : Dig w A ds) (k : Nat) : Dig (w.drewN k) A ds := h

theorem Slot.drewN {w : World} {z : Nat} (h : Slot w z) (k : Nat) : Slot (w.drewN k) z := h

theorem Below.undraw {W w : World} {k : Nat} (h : Below (W.drewN k).heap.size (W.drewN k) w) : Below W.heap.size W w := ⟨h.os, h.tape, h.output, h.size, h.block⟩

def SumAt (W : World) (G : Nat) (x y : List UInt32) (k : Nat) (c : UInt32) (wr : World) : Prop :=
  Below W.heap.size W wr ∧ ∃ row : List UInt32, Blk wr G 71 (rowOf row) ∧ row.length = x.length + 1 ∧ val row + 4294967296 ^ k * c.toNat = val (x.take k) + val (y.take k) ∧ ∀ j, k ≤ j → j < row.length → row[j]? = some 0

theorem sum_start (x y : List UInt32) (W : World) : SumAt W W.heap.size x y 0 0 (W.alloc (.cells (rowOf (List.replicate (x.length + 1) 0)) 71)) := by
  refine ⟨(Below.refl _ _).alloc (Nat.le_refl _) _, _, Blk.new W _ _, by simp, ?_, ?_⟩
  · rw [val_zeros (fun j u hj => by
      rw [List.getElem?_replicate] at hj
      split at hj
      · injection hj with hj; exact hj.symm
      · cases hj)]
    simp [val]
  · intro k _ hk
    rw [List.getElem?_replicate, if_pos (by simpa using hk)]
theorem sum_next {W : World} {x y : List UInt32} {k t : Nat} {c a lo' hi' : UInt32} {wr : World} {u : Value} {row : List UInt32} (hb : Below W.heap.size W wr) (hrow : Blk wr W.heap.size 71 (rowOf row)) (hlen : row.length = x.length + 1)
    (hval : val row + 4294967296 ^ k * c.toNat = val (x.take k) + val (y.take k)) (hzero : ∀ j, k ≤ j → j < row.length → row[j]? = some 0) (ha : x[k]? = some a) (hy : val (y.take (k + 1)) = val (y.take k) + 4294967296 ^ k * t)
    (hlo : lo'.toNat = (c.toNat + a.toNat + t) % 4294967296) (hhi : hi'.toNat = (c.toNat + a.toNat + t) / 4294967296) (hu : u = .int .u32 lo'.toNat) :
    SumAt W W.heap.size x y (k + 1) hi' (wr.setCell ⟨W.heap.size, k, none⟩ u) := by
  subst hu
  have hk : k < x.length := (List.getElem?_eq_some_iff.1 ha).1
  refine ⟨hb.setCell (Nat.le_refl _) _, _, hrow.put_ _ _, by rw [List.length_set]; exact hlen, ?_, ?_⟩
  · have hs := val_set row k lo' 0 (hzero k (Nat.le_refl _) (by omega))
    have e0 : (0 : UInt32).toNat = 0 := rfl
    rw [e0, Nat.mul_zero, Nat.add_zero] at hs
    have hd : 4294967296 * hi'.toNat + lo'.toNat = c.toNat + a.toNat + t := by rw [hlo, hhi]; exact Nat.div_add_mod _ _
    rw [val_take_succ x k a ha, hy, hs, Nat.pow_succ]
    grind
  · intro j hj hjl
    rw [List.length_set] at hjl
    rw [List.getElem?_set_ne (by omega)]
    exact hzero j (by omega) hjl
theorem sum_end {W : World} {x y : List UInt32} {c : UInt32} {wr : World} (h : SumAt W W.heap.size x y x.length c wr) (hyx : y.length ≤ x.length) :
    wr.frozen? ⟨W.heap.size, x.length, none⟩ = false ∧ wr.cell? ⟨W.heap.size, x.length, none⟩ = some (.int .u32 0) ∧
      ∃ row : List UInt32, row.length = x.length + 1 ∧ val row = val x + val y ∧ Below W.heap.size W (wr.setCell ⟨W.heap.size, x.length, none⟩ (.int .u32 c.toNat)) ∧ Blk (wr.setCell ⟨W.heap.size, x.length, none⟩ (.int .u32 c.toNat)) W.heap.size 71 (rowOf row) := by
  obtain ⟨hb, row, hrow, hlen, hval, hzero⟩ := h
  have h0 := hzero x.length (Nat.le_refl _) (by omega)
  refine ⟨hrow.frozen _, hrow.at_ h0, row.set x.length c, by rw [List.length_set]; exact hlen, ?_, hb.setCell (Nat.le_refl _) _, hrow.put_ _ _⟩
  have hs := val_set row x.length c 0 h0
  have e0 : (0 : UInt32).toNat = 0 := rfl
  rw [e0, Nat.mul_zero, Nat.add_zero] at hs
  rw [List.take_length, List.take_of_length_le hyx] at hval
  rw [hs, hval]

def Summed (V len : Nat) (W : World) (e : Ending) (W' : World) : Prop :=
  ∃ (g : Nat) (l : List UInt32), e = .returned (.slice (some ⟨g, 0, none⟩) len len) ∧ l.length = len ∧ val l = V ∧ W.heap.size ≤ g ∧ Below W.heap.size W W' ∧ Blk W' g 71 (rowOf l)

set_option maxHeartbeats 2000000 in
theorem sum_c (A B : Option Addr) (ca cb : Nat) (x y : List UInt32) (W : World) (hx : Dig W A x) (hy : Dig W B y) (hyx : y.length ≤ x.length) (hM : x.length + 1 ≤ 35184372088832) :
    Calls Try.prog 56 #[.slice A x.length ca, .slice B y.length cb] W (Summed (val x + val y) (x.length + 1) W) := by
  have hmk := make_c (x.length + 1) hM
  rw [show ((x.length + 1 : Nat) : Int) = (x.length : Int) + 1 by omega] at hmk
  have hbn : decide (x.length < y.length) = false := by simp; omega
  go_enter Try.func56, Try.ntmps56
  go_wp2
  go_loopw [6, 22] (fun c i wr => ∃ (k : Nat) (cc : UInt32), k ≤ x.length ∧ i = .int .i64 k ∧ c = .int .u64 cc.toNat ∧ SumAt W W.heap.size x y k cc wr) (fun _ i _ => x.length - (intOf i).toNat)
  case atStart => exact ⟨0, 0, Nat.zero_le _, rfl, rfl, sum_start x y W⟩
  case round =>
    obtain ⟨k, cc, hk, rfl, rfl, hR⟩ := hrel
    by_cases hlt2 : k < x.length
    · obtain ⟨hb, row, hrow, hlen, hval, hzero⟩ := hR
      obtain ⟨g, cs, a, rfl, hbk, ha, hca⟩ := hx.at_ hlt2
      have hca' : wr.cell? ⟨g, k, none⟩ = some (.int .u32 a.toNat) := (hb.cell (p := ⟨g, k, none⟩) hbk.lt).trans hca
      have h0 := hzero k (Nat.le_refl _) (by omega)
      have hco : wr.cell? ⟨W.heap.size, k, none⟩ = some (.int .u32 0) := hrow.at_ h0
      have hfo : wr.frozen? ⟨W.heap.size, k, none⟩ = false := hrow.frozen _
      have HA := Lib.hid ha
      have HV := Lib.hid hval
      have HZ := Lib.hid hzero
      have HL := Lib.hid hlen
      clear ha hval hzero hlen hca h0
      by_cases hy2 : k < y.length
      · obtain ⟨g2, cs2, b, rfl, hbk2, hbb, hcb⟩ := hy.at_ hy2
        have hcb' : wr.cell? ⟨g2, k, none⟩ = some (.int .u32 b.toNat) := (hb.cell (p := ⟨g2, k, none⟩) hbk2.lt).trans hcb
        have HB := Lib.hid hbb
        clear hbb hcb
        go_wp2
        go_roundw
        case rel => exact ⟨k + 1, hi (add3 cc a b), by omega, by go_num, rfl, sum_next hb hrow HL.out HV.out HZ.out HA.out (val_take_succ y k b HB.out) (by rw [lo_nat, add3_nat]) (by rw [hi_nat, add3_nat]) rfl⟩
        case measure => simp [intOf]; omega
      · go_wp2
        go_roundw
        case rel => exact ⟨k + 1, hi (add2 cc a), by omega, by go_num, rfl, sum_next (t := 0) hb hrow HL.out HV.out HZ.out HA.out (by rw [List.take_of_length_le (by omega), List.take_of_length_le (by omega)]; rfl) (by rw [lo_nat, add2_nat]; rfl) (by rw [hi_nat, add2_nat]; rfl) rfl⟩
        case measure => simp [intOf]; omega
    · have hke : k = x.length := by omega
      subst hke
      obtain ⟨hf, hc0, row, hl, hv, hb, hB⟩ := sum_end hR hyx
      have HL := Lib.hid hl
      have HV := Lib.hid hv
      clear hl hv hR
      go_wp2
      go_ret
      exact ⟨W.heap.size, row, rfl, HL.out, HV.out, Nat.le_refl _, hb, hB⟩
set_option maxHeartbeats 2000000 in
theorem sum_c2 (A B : Option Addr) (ca cb : Nat) (x y : List UInt32) (W : World) (hx : Dig W A x) (hy : Dig W B y) (hyx' : y.length < x.length) (hM : x.length + 1 ≤ 35184372088832) :
    Calls Try.prog 56 #[.slice B y.length cb, .slice A x.length ca] W (Summed (val x + val y) (x.length + 1) W) := by
  have hmk := make_c (x.length + 1) hM
  rw [show ((x.length + 1 : Nat) : Int) = (x.length : Int) + 1 by omega] at hmk
  have hyx : y.length ≤ x.length := by omega
  have hbn : decide (y.length < x.length) = true := by simp; omega
  go_enter Try.func56, Try.ntmps56
  go_wp2
  go_loopw [6, 22] (fun c i wr => ∃ (k : Nat) (cc : UInt32), k ≤ x.length ∧ i = .int .i64 k ∧ c = .int .u64 cc.toNat ∧ SumAt W W.heap.size x y k cc wr) (fun _ i _ => x.length - (intOf i).toNat)
  case atStart => exact ⟨0, 0, Nat.zero_le _, rfl, rfl, sum_start x y W⟩
  case round =>
    obtain ⟨k, cc, hk, rfl, rfl, hR⟩ := hrel
    by_cases hlt2 : k < x.length
    · obtain ⟨hb, row, hrow, hlen, hval, hzero⟩ := hR
      obtain ⟨g, cs, a, rfl, hbk, ha, hca⟩ := hx.at_ hlt2
      have hca' : wr.cell? ⟨g, k, none⟩ = some (.int .u32 a.toNat) := (hb.cell (p := ⟨g, k, none⟩) hbk.lt).trans hca
      have h0 := hzero k (Nat.le_refl _) (by omega)
      have hco : wr.cell? ⟨W.heap.size, k, none⟩ = some (.int .u32 0) := hrow.at_ h0
      have hfo : wr.frozen? ⟨W.heap.size, k, none⟩ = false := hrow.frozen _
      have HA := Lib.hid ha
      have HV := Lib.hid hval
      have HZ := Lib.hid hzero
      have HL := Lib.hid hlen
      clear ha hval hzero hlen hca h0
      by_cases hy2 : k < y.length
      · obtain ⟨g2, cs2, b, rfl, hbk2, hbb, hcb⟩ := hy.at_ hy2
        have hcb' : wr.cell? ⟨g2, k, none⟩ = some (.int .u32 b.toNat) := (hb.cell (p := ⟨g2, k, none⟩) hbk2.lt).trans hcb
        have HB := Lib.hid hbb
        clear hbb hcb
        go_wp2
        go_roundw
        case rel => exact ⟨k + 1, hi (add3 cc a b), by omega, by go_num, rfl, sum_next hb hrow HL.out HV.out HZ.out HA.out (val_take_succ y k b HB.out) (by rw [lo_nat, add3_nat]) (by rw [hi_nat, add3_nat]) rfl⟩
        case measure => simp [intOf]; omega
      · go_wp2
        go_roundw
        case rel => exact ⟨k + 1, hi (add2 cc a), by omega, by go_num, rfl, sum_next (t := 0) hb hrow HL.out HV.out HZ.out HA.out (by rw [List.take_of_length_le (by omega), List.take_of_length_le (by omega)]; rfl) (by rw [lo_nat, add2_nat]; rfl) (by rw [hi_nat, add2_nat]; rfl) rfl⟩
        case measure => simp [intOf]; omega
    · have hke : k = x.length := by omega
      subst hke
      obtain ⟨hf, hc0, row, hl, hv, hb, hB⟩ := sum_end hR hyx
      have HL := Lib.hid hl
      have HV := Lib.hid hv
      clear hl hv hR
      go_wp2
      go_ret
      exact ⟨W.heap.size, row, rfl, HL.out, HV.out, Nat.le_refl _, hb, hB⟩

theorem sum_any (A B : Option Addr) (ca cb : Nat) (x y : List UInt32) (W : World) (hx : Dig W A x) (hy : Dig W B y) (hX : x.length + 1 ≤ 35184372088832) (hY : y.length + 1 ≤ 35184372088832) :
    Calls Try.prog 56 #[.slice A x.length ca, .slice B y.length cb] W (Summed (val x + val y) (max x.length y.length + 1) W) := by
  rcases Nat.lt_or_ge x.length y.length with h | h
  · have := sum_c2 B A cb ca y x W hy hx h hY
    rw [Nat.add_comm (val x), Nat.max_eq_right (by omega)]
    exact this
  · have := sum_c A B ca cb x y W hx hy h hX
    rw [Nat.max_eq_left h]
    exact this

attribute [local go_sem ↓] Go.wp_at_zero Go.wp_at_succ

/-- Behind 'z.neg, z.d = false, f(..)': f's row is stored. -/
def Mid (z V L : Nat) (W wx : World) : Prop :=
  ∃ (w1 : World) (g k : Nat) (row : List UInt32), Below W.heap.size W w1 ∧ Slot w1 z ∧ Blk w1 g 71 (rowOf row) ∧ row.length = L ∧ val row = V ∧ wx = (stored w1 z false (.slice (some ⟨g, 0, none⟩) L L)).drewN k
theorem mid_trim {z V L : Nat} {W wx : World} (h : Mid z V L W wx) (hL : L ≤ 4611686018427387904) :
    Calls Try.prog 46 #[.pointer (some ⟨z, 0, none⟩)] wx (Trimmed z V W) := by
  obtain ⟨w1, g, k, row, hb, hz, hB, rfl, rfl, rfl⟩ := h
  exact (trim_c z row.length (some ⟨g, 0, none⟩) row ((stored w1 z false (.slice (some ⟨g, 0, none⟩) row.length row.length)).drewN k) (stored_cell hz false _ _ _) (dig_stored hz hB.dig false _) (Nat.le_refl _) hL).mono
    fun e w' h' => (h'.from (only_drewN (stored_grown w1 z false _) k)).from (only_of_below hb (some z))

set_option maxHeartbeats 2000000 in
theorem add_c (z p q n m : Nat) (W : World) (hz : Slot W z) (hp : Num W p n) (hq : Num W q m) (hn : (digs n).length + 1 ≤ 35184372088832) (hm : (digs m).length + 1 ≤ 35184372088832) :
    Calls Try.prog 47 #[.pointer (some ⟨z, 0, none⟩), .pointer (some ⟨p, 0, none⟩), .pointer (some ⟨q, 0, none⟩)] W (Trimmed z (n + m) W) := by
  obtain ⟨A, cap, c0, c1, hcap, hd⟩ := hp.facts
  obtain ⟨B, capB, e0, e1, hcapB, he⟩ := hq.facts
  obtain ⟨s, A', l', c', z0, z1, f0, f1, hlt⟩ := hz.facts
  have hpl := hp.lt
  have hql := hq.lt
  have hfin : val (digs n) + val (digs m) = n + m := by rw [val_digs, val_digs]
  have HF := Lib.hid hfin
  clear hfin hp hq
  generalize digs n = a at *
  generalize digs m = b at *
  go_enter Try.func47, Try.ntmps47
  go_wp2
  go_quiet (fail)
  go_upto_region 3 with fail
  have hL : max a.length b.length + 1 ≤ 4611686018427387904 := by omega
  go_region_with (go_at_call 56; refine (sum_any _ _ _ _ a b _ (hd.drewN _) (he.drewN _) hn hm).mono ?_; rintro e w1 ⟨g, row, rfl, hl, hv, hge, hb, hB⟩; have k0 : w1.cell? ⟨p, 0, none⟩ = some (.bool false) := (hb.cell (p := ⟨p, 0, none⟩) hpl).trans c0; have hz1 : Slot w1 z := (hz.drewN _).below hb; obtain ⟨s1, A1, l1, cc1, y0, y1, j0, j1, hlt1⟩ := hz1.facts; have HL := Lib.hid hl; have HV := Lib.hid hv; have HB := Lib.hid hb; clear hl hv hb)
  all_goals go_wp2_with fail
  all_goals
    refine (mid_trim (z := z) (V := n + m) (L := max a.length b.length + 1) (W := W) ⟨w1, g, 0, row, Below.undraw HB.out, hz1, hB, HL.out, HV.out.trans HF.out, rfl⟩ hL).mono ?_
    intro e w2 h
    have H := Lib.hid h
    obtain ⟨rfl, _⟩ := h
    go_wp2_with fail
    go_ret
    exact H.out
end Go.Proofs.Ytahhgeecikljdaa.Big
