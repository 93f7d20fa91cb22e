/-
  The contract of (*Int).Mul.
-/
import Derived.Test.YtahhgeecikljdaaBigXor
import Derived.Test.YtahhgeecikljdaaBigMulPure
namespace Go.Proofs.Ytahhgeecikljdaa.Big
set_option linter.unusedVariables false
open Go.RowKit

theorem wide32 (a : UInt32) : IntKind.u64.wrap (a.toNat : Int) = (a.toNat : Int) := by rw [IntKind.wrap_u64]; have := a.toNat_lt; omega
theorem totted (c a b s : UInt32) : IntKind.u64.wrap ((c.toNat : Int) + IntKind.u64.wrap (IntKind.u64.wrap ((a.toNat : Int) * (b.toNat : Int)) + (s.toNat : Int))) = ((tot c a b s).toNat : Int) := by
  have h := tot_lt c a b s
  rw [tot_nat, ← Int.natCast_mul]
  generalize a.toNat * b.toNat = m at *
  simp only [IntKind.wrap_u64]
  omega
theorem narrow32 (a : UInt32) : (a.toNat : Int) % 4294967296 = (a.toNat : Int) := by have := a.toNat_lt; omega
attribute [local go_sem] wide32 totted shr32 low32 hi32 narrow32

/-- Behind i lines: the row holds the product of the first i digits. -/
def MulAt (W : World) (G : Nat) (a b : List UInt32) (i : Nat) (wr : World) : Prop :=
  Below W.heap.size W wr ∧ ∃ row : List UInt32, Blk wr G 71 (rowOf row) ∧ row.length = a.length + b.length ∧ val row = val (a.take i) * val b ∧ ∀ k, i + b.length ≤ k → k < row.length → row[k]? = some 0
/-- Within a line, behind j of its steps. -/
def MulIn (W : World) (G : Nat) (a b : List UInt32) (i j : Nat) (x c : UInt32) (wr : World) : Prop :=
  Below W.heap.size W wr ∧ ∃ row : List UInt32, Blk wr G 71 (rowOf row) ∧ row.length = a.length + b.length ∧ val row + 4294967296 ^ (i + j) * c.toNat = val (a.take i) * val b + 4294967296 ^ i * (x.toNat * val (b.take j)) ∧ ∀ k, i + b.length ≤ k → k < row.length → row[k]? = some 0

theorem stored_trim_drew {W : World} {z : Nat} (hz : Slot W z) {A : Option Addr} {ds : List UInt32} {cap : Nat} (h : Dig W A ds) (hc : ds.length ≤ cap) (hmax : ds.length ≤ 4611686018427387904) :
    Calls Try.prog 46 #[.pointer (some ⟨z, 0, none⟩)] (stored W z false (.slice A ds.length cap)).drew (Trimmed z (val ds) W) :=
  (trim_c z cap A ds (stored W z false (.slice A ds.length cap)).drew (stored_cell hz false A ds.length cap) (dig_stored hz h false _) hc hmax).mono fun e w' h' => h'.from (only_drew (stored_grown W z false _))

theorem mul_start (a b : List UInt32) (W : World) : MulAt W W.heap.size a b 0 (W.alloc (.cells (rowOf (List.replicate (a.length + b.length) 0)) 71)).drew := by
  refine ⟨((Below.refl _ _).alloc (Nat.le_refl _) _).drew, _, Blk.new W _ _, by simp, ?_, ?_⟩
  · rw [val_zeros (fun j u hj => by
      rw [List.getElem?_replicate] at hj
      split at hj
      · injection hj with hj; exact hj.symm
      · cases hj)]
    simp [val]
  · intro k _ hk
    rw [List.getElem?_replicate, if_pos (by simpa using hk)]
theorem mul_line {W : World} {G : Nat} {a b : List UInt32} {i : Nat} {x : UInt32} {wr : World} (h : MulAt W G a b i wr) : MulIn W G a b i 0 x 0 wr := by
  obtain ⟨h1, row, h2, h3, h4, h5⟩ := h
  exact ⟨h1, row, h2, h3, by simp [h4, val], h5⟩
theorem mul_next {W : World} {a b : List UInt32} {i j : Nat} {x c y s : UInt32} {wr : World} {row : List UInt32} (hb : Below W.heap.size W wr) (hrow : Blk wr W.heap.size 71 (rowOf row)) (hlen : row.length = a.length + b.length)
    (hval : val row + 4294967296 ^ (i + j) * c.toNat = val (a.take i) * val b + 4294967296 ^ i * (x.toNat * val (b.take j))) (hzero : ∀ k, i + b.length ≤ k → k < row.length → row[k]? = some 0) (hy : b[j]? = some y) (hs : row[i + j]? = some s) (hj : j < b.length) :
    MulIn W W.heap.size a b i (j + 1) x (hi (tot c x y s)) (wr.setCell ⟨W.heap.size, i + j, none⟩ (.int .u32 (lo (tot c x y s)).toNat)) := by
  refine ⟨hb.setCell (Nat.le_refl _) _, _, hrow.put_ _ _, by rw [List.length_set]; exact hlen, ?_, ?_⟩
  · rw [val_take_succ b j y hy]
    exact mul_step hval hs (by rw [lo_nat, tot_nat]) (by rw [hi_nat, tot_nat])
  · intro k hk hkl
    rw [List.length_set] at hkl
    rw [List.getElem?_set_ne (by omega)]
    exact hzero k hk hkl
theorem mul_turn {W : World} {a b : List UInt32} {i : Nat} {x c : UInt32} {wr : World} (h : MulIn W W.heap.size a b i b.length x c wr) (hx : a[i]? = some x) (hi : i < a.length) :
    wr.cell? ⟨W.heap.size, i + b.length, none⟩ = some (.int .u32 0) ∧ wr.frozen? ⟨W.heap.size, i + b.length, none⟩ = false ∧
      MulAt W W.heap.size a b (i + 1) (wr.setCell ⟨W.heap.size, i + b.length, none⟩ (.int .u32 c.toNat)) := by
  obtain ⟨hb, row, hrow, hlen, hval, hzero⟩ := h
  have h0 := hzero (i + b.length) (Nat.le_refl _) (by omega)
  refine ⟨hrow.at_ h0, hrow.frozen _, hb.setCell (Nat.le_refl _) _, _, hrow.put_ _ _, by rw [List.length_set]; exact hlen, ?_, ?_⟩
  · have hs := val_set row (i + b.length) c 0 h0
    rw [List.take_length] at hval
    rw [val_take_succ a i x hx]
    have e0 : (0 : UInt32).toNat = 0 := rfl
    rw [e0, Nat.mul_zero, Nat.add_zero] at hs
    rw [hs, hval]
    grind
  · intro k hk hkl
    rw [List.length_set] at hkl
    rw [List.getElem?_set_ne (by omega)]
    exact hzero k (by omega) hkl

set_option maxHeartbeats 2000000 in
theorem mul_c (z p q n m : Nat) (W : World) (hz : Slot W z) (hp : Num W p n) (hq : Num W q m) (hn : (digs n).length + (digs m).length ≤ 35184372088832) :
    Calls Try.prog 35 #[.pointer (some ⟨z, 0, none⟩), .pointer (some ⟨p, 0, none⟩), .pointer (some ⟨q, 0, none⟩)] W (Trimmed z (n * m) W) := by
  obtain ⟨A, cap, c0, c1, hcap, hd⟩ := hp.facts
  obtain ⟨B, capB, e0, e1, hcapB, he⟩ := hq.facts
  obtain ⟨s, A', l', c', z0, z1, f0, f1, hlt⟩ := hz.facts
  have hpl := hp.lt
  have hql := hq.lt
  have hfin : val (digs n) * val (digs m) = n * m := by rw [val_digs, val_digs]
  have HF := Lib.hid hfin
  clear hfin hp hq
  generalize digs n = a at *
  generalize digs m = b at *
  have hmk := make_c (a.length + b.length) hn
  rw [Int.natCast_add] at hmk
  go_enter Try.func35, Try.ntmps35
  go_wp2
  go_region
  go_wp2
  go_loopw [30] (fun i wr => ∃ k : Nat, k ≤ a.length ∧ i = .int .i64 k ∧ MulAt W W.heap.size a b k wr) (fun i _ => a.length - (intOf i).toNat)
  case atStart => exact ⟨0, Nat.zero_le _, rfl, mul_start a b W⟩
  case round =>
    obtain ⟨k, hk, rfl, hR⟩ := hrel
    obtain ⟨wo, rfl⟩ : ∃ wo : World, wo = wr := ⟨_, rfl⟩
    by_cases hlt2 : k < a.length
    · have hb0 := hR.1
      obtain ⟨g, cs, x, rfl, hbk, hx, hcx⟩ := hd.at_ hlt2
      have hcx' : wo.cell? ⟨g, k, none⟩ = some (.int .u32 x.toNat) := (hb0.cell (p := ⟨g, k, none⟩) hbk.lt).trans hcx
      have e1' : wo.cell? ⟨q, 1, none⟩ = some (.slice B b.length capB) := (hb0.cell (p := ⟨q, 1, none⟩) hql).trans e1
      have HX := Lib.hid hx
      have HR := Lib.hid (mul_line (x := x) hR)
      clear hx hR hcx
      go_wp2
      go_loopw [10, 40] (fun c j wr => ∃ (jj : Nat) (cc : UInt32), jj ≤ b.length ∧ j = .int .i64 jj ∧ c = .int .u64 cc.toNat ∧ MulIn W W.heap.size a b k jj x cc wr) (fun _ j _ => b.length - (intOf j).toNat)
      case atStart => exact ⟨0, 0, Nat.zero_le _, rfl, rfl, HR.out⟩
      case round =>
        obtain ⟨jj, cc, hjj, rfl, rfl, hI⟩ := hrel
        by_cases hj2 : jj < b.length
        · obtain ⟨hbi, row, hrow, hlen, hval, hzero⟩ := hI
          obtain ⟨g2, cs2, y, rfl, hbk2, hy, hcy⟩ := he.at_ hj2
          have hcy' : wr.cell? ⟨g2, jj, none⟩ = some (.int .u32 y.toNat) := (hbi.cell (p := ⟨g2, jj, none⟩) hbk2.lt).trans hcy
          obtain ⟨sd, hsd⟩ : ∃ sd, row[k + jj]? = some sd := ⟨_, List.getElem?_eq_getElem (by omega)⟩
          have hcs : wr.cell? ⟨W.heap.size, k + jj, none⟩ = some (.int .u32 sd.toNat) := hrow.at_ hsd
          have hfs : wr.frozen? ⟨W.heap.size, k + jj, none⟩ = false := hrow.frozen _
          have HY := Lib.hid hy
          have HS := Lib.hid hsd
          have HV := Lib.hid hval
          have HZ := Lib.hid hzero
          have HL := Lib.hid hlen
          clear hy hsd hval hzero hlen hcy
          go_wp2
          go_roundw
          case rel => exact ⟨jj + 1, hi (tot cc x y sd), by omega, by go_num, rfl, mul_next hbi hrow HL.out HV.out HZ.out HY.out HS.out hj2⟩
          case measure => simp [intOf]; omega
        · have hje : jj = b.length := by omega
          subst hje
          have hbi := hI.1
          have e1i : wr.cell? ⟨q, 1, none⟩ = some (.slice B b.length capB) := (hbi.cell (p := ⟨q, 1, none⟩) hql).trans e1
          obtain ⟨hcm, hfm, hnext⟩ := mul_turn hI HX.out hlt2
          have HN := Lib.hid hnext
          clear hI hnext
          go_wp2
          go_roundw
          case rel => exact ⟨k + 1, by omega, by go_num, HN.out⟩
          case measure => simp [intOf]; omega
    · have hke : k = a.length := by omega
      subst hke
      obtain ⟨hbl, row, hrow, hlen, hval, _⟩ := hR
      rw [List.take_length, HF.out] at hval
      have hz1 := hz.below hbl
      obtain ⟨s1, A1, l1, cc1, y0, y1, k0, k1, hlt1⟩ := hz1.facts
      have c0' : wo.cell? ⟨p, 0, none⟩ = some (.bool false) := (hbl.cell (p := ⟨p, 0, none⟩) hpl).trans c0
      have e0' : wo.cell? ⟨q, 0, none⟩ = some (.bool false) := (hbl.cell (p := ⟨q, 0, none⟩) hql).trans e0
      have HV := Lib.hid hval
      have HL := Lib.hid hlen
      clear hval hlen
      go_wp2
      go_region
      go_wp2_with fail
      have key := stored_trim_drew hz1 (A := some ⟨W.heap.size, 0, none⟩) (ds := row) (cap := a.length + b.length) hrow.dig (Nat.le_of_eq HL.out) (by rw [HL.out]; omega)
      rw [HL.out] at key
      refine key.mono ?_
      intro e w2 h
      have h2 := h.from (only_of_below hbl (some z))
      rw [HV.out] at h2
      have H := Lib.hid h2
      obtain ⟨rfl, _⟩ := h
      go_wp2_with fail
      go_ret
      exact H.out
end Go.Proofs.Ytahhgeecikljdaa.Big
