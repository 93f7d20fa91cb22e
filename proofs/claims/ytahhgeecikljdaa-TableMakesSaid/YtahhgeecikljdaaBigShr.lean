/-
  The contracts of shiftRight and (*Int).Rsh by 33 places.
-/
import Derived.Test.YtahhgeecikljdaaBigRow
import Derived.RegionTactic
namespace Go.Proofs.Ytahhgeecikljdaa.Big
set_option linter.unusedVariables false
open Go.RowKit

def half (d : UInt32) : UInt32 := d >>> 1
def topb (e : UInt32) : UInt32 := e <<< 31
def or32 (a b : UInt32) : UInt32 := a ||| b
theorem half_nat (d : UInt32) : (half d).toNat = d.toNat / 2 := by
  unfold half
  rw [UInt32.toNat_shiftRight, show (1 : UInt32).toNat % 32 = 1 by decide, Nat.shiftRight_eq_div_pow]
theorem topb_nat (e : UInt32) : (topb e).toNat = e.toNat * 2147483648 % 4294967296 := by
  unfold topb
  rw [UInt32.toNat_shiftLeft, show (31 : UInt32).toNat % 32 = 31 by decide, Nat.shiftLeft_eq]
theorem halved (d : UInt32) : (d.toNat : Int) / 2 = ((half d).toNat : Int) := by rw [half_nat]; omega
theorem topped (e : UInt32) : (e.toNat : Int) * 2147483648 % 4294967296 = ((topb e).toNat : Int) := by rw [topb_nat]; omega
theorem ored (a b : UInt32) : bits .or .u32 (a.toNat : Int) (b.toNat : Int) = ((or32 a b).toNat : Int) := by
  rw [u32_or_nat _ _ (Words.lt32 a) (Words.lt32 b)]; unfold or32; rw [UInt32.toNat_or]
theorem or_nat (d e : UInt32) : (or32 (half d) (topb e)).toNat = d.toNat / 2 + e.toNat % 2 * 2147483648 := by
  unfold or32
  rw [UInt32.toNat_or, half_nat, topb_nat]
  have hd := d.toNat_lt
  rw [show e.toNat * 2147483648 % 4294967296 = 2 ^ 31 * (e.toNat % 2) by omega, Nat.or_comm, ← Nat.two_pow_add_eq_or_of_lt (by omega)]
  omega

/-- The list halved. -/
def sr : List UInt32 → List UInt32
  | [] => []
  | [d] => [half d]
  | d :: e :: r => or32 (half d) (topb e) :: sr (e :: r)
theorem sr_len : ∀ l : List UInt32, (sr l).length = l.length
  | [] => rfl
  | [_] => rfl
  | d :: e :: r => by rw [sr, List.length_cons, sr_len (e :: r)]; rfl
theorem sr_val : ∀ l : List UInt32, val (sr l) = val l / 2
  | [] => rfl
  | [d] => by simp only [sr, val, half_nat]; omega
  | d :: e :: r => by
    rw [sr, val, sr_val (e :: r), or_nat]
    simp only [val]
    omega
theorem sr_last : ∀ (l : List UInt32) (k : Nat) (d : UInt32), l[k]? = some d → k + 1 = l.length → (sr l)[k]? = some (half d)
  | [], k, d, h, hk => by simp at hk
  | [a], k, d, h, hk => by
    obtain rfl : k = 0 := by simp at hk; omega
    injection h with h; subst h; rfl
  | a :: e :: r, k, d, h, hk => by
    cases k with
    | zero => simp at hk
    | succ k => simpa [sr] using sr_last (e :: r) k d (by simpa using h) (by simpa using hk)
theorem sr_mid : ∀ (l : List UInt32) (k : Nat) (d e : UInt32), l[k]? = some d → l[k + 1]? = some e → (sr l)[k]? = some (or32 (half d) (topb e))
  | [], k, d, e, h, _ => by simp at h
  | [a], k, d, e, _, h => by simp at h
  | a :: b :: r, k, d, e, h, h2 => by
    cases k with
    | zero => simp at h h2; subst h h2; rfl
    | succ k => simpa [sr] using sr_mid (b :: r) k d e (by simpa using h) (by simpa using h2)

attribute [local go_sem] halved topped ored

def Sliced (l : List UInt32) (W : World) (e : Ending) (W' : World) : Prop :=
  ∃ g : Nat, e = .returned (.slice (some ⟨g, 0, none⟩) l.length l.length) ∧ W.heap.size ≤ g ∧ Below W.heap.size W W' ∧ Blk W' g 71 (rowOf l)

def RoundAt (W : World) (l : List UInt32) (k : Nat) (wr : World) : Prop := Below W.heap.size W wr ∧ W.heap.size < wr.heap.size ∧ Blk wr W.heap.size 71 (rowOf (fill (sr l) k))

set_option maxHeartbeats 2000000 in
theorem shiftRight_c (g cap : Nat) (l : List UInt32) (x : UInt32) (W : World) (hl : 1 ≤ l.length) (hx : ∀ (j : Nat) (u : UInt32), l[j]? = some u → W.cell? ⟨g, 1 + j, none⟩ = some (.int .u32 u.toNat))
    (hg : g < W.heap.size) (hcap : l.length + 1 ≤ cap) (hM : l.length ≤ 35184372088832) :
    Calls Try.prog 49 #[.slice (some ⟨g, 0, none⟩) (l.length + 1) cap, .int .i64 33] W (Sliced (sr l) W) := by
  have hmk := make_c l.length hM
  have hc1 : ¬ cap = 1 := by omega
  have hb1 : decide ((l.length : Int) + 1 ≤ 1) = false := by simp; omega
  go_enter Try.func49, Try.ntmps49
  go_wp2
  go_loopw [22] (fun i wr => ∃ k : Nat, k ≤ l.length ∧ i = .int .i64 k ∧ RoundAt W l k wr) (fun i _ => l.length - (intOf i).toNat)
  case atStart => exact ⟨0, Nat.zero_le _, rfl, (Below.refl _ _).alloc (Nat.le_refl _) _, by simp, by rw [fill_zero, sr_len]; exact Blk.new _ _ _⟩
  case round =>
    obtain ⟨k, hk, rfl, hR⟩ := hrel
    by_cases hlt : k < l.length
    · obtain ⟨hb, hsz, hB⟩ := hR
      have hd : l[k]? = some l[k] := List.getElem?_eq_getElem hlt
      obtain ⟨d, hde⟩ : ∃ d, l[k] = d := ⟨_, rfl⟩
      rw [hde] at hd
      have hcx : wr.cell? ⟨g, 1 + k, none⟩ = some (.int .u32 d.toNat) := (hb.cell (p := ⟨g, 1 + k, none⟩) hg).trans (hx k d hd)
      have hco : wr.cell? ⟨W.heap.size, k, none⟩ = some (.int .u32 0) := hB.at_ (fill_at (by rw [sr_len]; exact hlt))
      have hfo : wr.frozen? ⟨W.heap.size, k, none⟩ = false := hB.frozen k
      have HD := Lib.hid hd
      clear hd hde
      by_cases hn : k + 1 < l.length
      · have he : l[k + 1]? = some l[k + 1] := List.getElem?_eq_getElem hn
        obtain ⟨e, hee⟩ : ∃ e, l[k + 1] = e := ⟨_, rfl⟩
        rw [hee] at he
        have hc2 : (wr.setCell ⟨W.heap.size, k, none⟩ (.int .u32 (half d).toNat)).cell? ⟨g, 1 + (k + 1), none⟩ = some (.int .u32 e.toNat) := by
          rw [World.cell?_setCell_other _ _ _ _ (by intro h; injection h with h _; omega)]
          exact (hb.cell (p := ⟨g, 1 + (k + 1), none⟩) hg).trans (hx (k + 1) e he)
        have HE := Lib.hid he
        clear he hee
        go_wp2
        go_region
        all_goals go_wp2
        all_goals go_roundw
        case rel =>
          refine ⟨k + 1, by omega, by go_num, ((hb.setCell (by simp) _).setCell (by simp) _).drew, by simpa [World.setCell] using hsz, ?_⟩
          rw [← fill_set2 (v := half d) (sr_mid l k d e HD.out HE.out)]
          exact (hB.put_ k _).put_ k _
        case measure => simp [intOf]; omega
      · have hke : k + 1 = l.length := by omega
        have HK := Lib.hid hke
        clear hke
        go_wp2
        go_roundw
        case rel => exact ⟨k + 1, by omega, by go_num, hb.setCell (by simp) _, by simpa [World.setCell] using hsz, by rw [← fill_set (sr_last l k d HD.out HK.out)]; exact hB.put_ k _⟩
        case measure => simp [intOf]; omega
    · have hke : k = l.length := by omega
      subst hke
      have HR := Lib.hid hR
      clear hR
      go_wp2
      go_ret
      have hB := HR.out.2.2
      rw [← sr_len l, fill_all] at hB
      exact ⟨W.heap.size, by rw [sr_len]; rfl, Nat.le_refl _, HR.out.1, hB⟩

set_option maxHeartbeats 1000000 in
theorem shiftRight_short (A : Option Addr) (n cap : Nat) (hn : n ≤ 1) (W : World) :
    Calls Try.prog 49 #[.slice A n cap, .int .i64 33] W fun e w' => e = .returned (.slice none 0 0) ∧ W = w' := by
  go_enter Try.func49, Try.ntmps49
  go_wp2
  go_ret
  exact ⟨rfl, rfl⟩

theorem stored_size' (W : World) (z : Nat) (s : Bool) (v : Value) : (stored W z s v).heap.size = W.heap.size := stored_size W z s v
theorem dig_stored {W : World} {z : Nat} (hz : Slot W z) {A : Option Addr} {ds : List UInt32} (h : Dig W A ds) (s : Bool) (v : Value) : Dig (stored W z s v) A ds := by
  refine h.keep fun g cs hg => hg.grown (stored_grown W z s v) ?_
  intro e
  injection e with e
  subst e
  obtain ⟨a, b, hb, _⟩ := hz
  exact absurd rfl (Blk.ne_ hg hb (by decide))

/-- The end of a function that stores a slice of digits into z and trims it. -/
theorem stored_trim {W : World} {z : Nat} (hz : Slot W z) {A : Option Addr} {ds : List UInt32} {cap : Nat} (h : Dig W A ds) (hc : ds.length ≤ cap) (hmax : ds.length ≤ 4611686018427387904) :
    Calls Try.prog 46 #[.pointer (some ⟨z, 0, none⟩)] (stored W z false (.slice A ds.length cap)) (Trimmed z (val ds) W) :=
  (trim_c z cap A ds _ (stored_cell hz false A ds.length cap) (dig_stored hz h false _) hc hmax).mono fun e w' h' => h'.from (stored_grown W z false _)

set_option maxHeartbeats 1000000 in
theorem rsh_c (z p n : Nat) (W : World) (hz : Slot W z) (hp : Num W p n) (hn : (digs n).length ≤ 35184372088832) :
    Calls Try.prog 33 #[.pointer (some ⟨z, 0, none⟩), .pointer (some ⟨p, 0, none⟩), .int .u64 33] W (Trimmed z (n / 8589934592) W) := by
  obtain ⟨A, cap, c0, c1, hcap, hd⟩ := hp.facts
  obtain ⟨s, A', l', c', z0, z1, f0, f1, hlt⟩ := hz.facts
  by_cases hs : (digs n).length ≤ 1
  · have hv : n / 8589934592 = 0 := by
      have h1 := val_lt (digs n)
      rw [val_digs] at h1
      have h2 : 4294967296 ^ (digs n).length ≤ 4294967296 ^ 1 := Nat.pow_le_pow_right (by omega) hs
      omega
    rw [hv]
    have key := stored_trim hz (A := none) (ds := []) (cap := 0) Dig.nil (by simp) (by simp)
    have KEY := Lib.hid key
    clear key
    go_enter Try.func33, Try.ntmps33
    go_wp2_with fail
    refine (shiftRight_short _ _ _ hs _).mono ?_
    rintro e w' ⟨rfl, rfl⟩
    go_wp2_with fail
    refine KEY.out.mono ?_
    intro e w' h
    have H := Lib.hid h
    obtain ⟨rfl, _⟩ := h
    go_wp2_with fail
    go_ret
    exact H.out
  · rcases hds : digs n with _ | ⟨d, l⟩
    · rw [hds] at hs; simp at hs
    · rw [hds] at c1 hcap hd hs hn
      have hl : 1 ≤ l.length := by rw [List.length_cons] at hs; omega
      simp only [List.length_cons] at c1 hcap hn
      obtain ⟨g, cs, u, rfl, hbk, _, _⟩ := hd.at_ (k := 0) (by simp)
      have hx : ∀ (j : Nat) (u : UInt32), l[j]? = some u → W.cell? ⟨g, 1 + j, none⟩ = some (.int .u32 u.toNat) := by
        intro j u hj
        obtain ⟨g', _, u', hg', _, hu', hcc⟩ := hd.at_ (k := 1 + j) (by
          have := List.getElem?_eq_some_iff.1 hj
          obtain ⟨h, _⟩ := this
          simp; omega)
        obtain rfl : g = g' := by injection hg' with hg'; injection hg'
        rw [Nat.add_comm 1 j, List.getElem?_cons_succ, hj] at hu'
        injection hu' with hu'
        subst hu'
        exact hcc
      have hval : val (sr l) = n / 8589934592 := by
        have h1 := val_digs n
        rw [hds, val] at h1
        rw [sr_val]
        have := d.toNat_lt
        omega
      have key := shiftRight_c g cap l d W hl hx hbk.lt hcap (by omega)
      have KEY := Lib.hid key
      have HX := Lib.hid hx
      have HV := Lib.hid hval
      have HDS := Lib.hid hds
      clear key hx hval hds
      go_enter Try.func33, Try.ntmps33
      go_wp2_with fail
      refine KEY.out.mono ?_
      rintro e w1 ⟨G, rfl, hG, hb, hB⟩
      have hz1 := hz.below hb
      obtain ⟨s1, A1, l1, cc1, y0, y1, k0, k1, hlt1⟩ := hz1.facts
      go_wp2_with fail
      refine (stored_trim hz1 (A := some ⟨G, 0, none⟩) (ds := sr l) (cap := (sr l).length) hB.dig (Nat.le_refl _) (by rw [sr_len]; omega)).mono ?_
      intro e w2 h
      have h2 := h.from (only_of_below hb (some z))
      rw [HV.out] at h2
      have H := Lib.hid h2
      obtain ⟨rfl, _⟩ := h
      go_wp2_with fail
      go_ret
      exact H.out
end Go.Proofs.Ytahhgeecikljdaa.Big
