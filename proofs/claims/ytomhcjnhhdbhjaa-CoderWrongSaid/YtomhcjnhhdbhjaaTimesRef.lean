/-
  The reference's CTimes.
-/
import Derived.Test.YtomhcjnhhdbhjaaCurveRef
namespace Go.Proofs.Ytomhcjnhhdbhjaa.Poly
set_option linter.unusedVariables false
open Go.RowKit Gf Mem
attribute [local go_sem] xor8_nat

theorem co_set {l : List UInt8} {k : Nat} (h : k < l.length) (v : UInt8) (j : Nat) : co (l.set k v) j = if j = k then v else co l j := by
  unfold co
  by_cases e : j = k
  · subst e; rw [List.getElem?_set_self h, if_pos rfl]; rfl
  · rw [List.getElem?_set_ne (Ne.symm e), if_neg e]
theorem co_replicate (n k : Nat) : co (List.replicate n 0) k = 0 := by
  unfold co; rw [List.getElem?_replicate]; split <;> rfl

/-- What out holds when its first k places are done, and i terms of place k. -/
def Conv (p q : List UInt8) (k i : Nat) (l : List UInt8) : Prop :=
  l.length = p.length + q.length ∧ (∀ j, j < k → co l j = conv p q j (j + 1)) ∧ co l k = conv p q k i ∧ ∀ j, k < j → co l j = 0
theorem conv_start (p q : List UInt8) : Conv p q 0 0 (List.replicate (p.length + q.length) 0) :=
  ⟨by simp, fun j h => absurd h (by omega), co_replicate _ _, fun j _ => co_replicate _ _⟩
theorem conv_turn {p q l : List UInt8} {k : Nat} (h : Conv p q k (k + 1) l) : Conv p q (k + 1) 0 l :=
  ⟨h.1, fun j hj => by
    by_cases e : j = k
    · subst e; exact h.2.2.1
    · exact h.2.1 j (by omega), h.2.2.2 _ (by omega), fun j hj => h.2.2.2 j (by omega)⟩
theorem conv_skip {p q l : List UInt8} {k i : Nat} (h : Conv p q k i l) (h0 : ¬ (i < p.length ∧ k - i < q.length)) : Conv p q k (i + 1) l :=
  ⟨h.1, h.2.1, by
    rw [h.2.2.1, conv]
    by_cases hi : i < p.length
    · rw [co_of_le (p := q) (k := k - i) (by have := h0; omega), mul_zero, xor_zero']
    · rw [co_of_le (p := p) (k := i) (by omega), zero_mul, xor_zero'], h.2.2.2⟩
theorem conv_step {p q l : List UInt8} {k i : Nat} {x y z : UInt8} (h : Conv p q k i l) (hk : l[k]? = some z) (hx : p[i]? = some x) (hy : q[k - i]? = some y) : Conv p q k (i + 1) (l.set k (xor8 z (mul x y))) := by
  have hkl := (List.getElem?_eq_some_iff.1 hk).1
  refine ⟨by rw [List.length_set]; exact h.1, fun j hj => ?_, ?_, fun j hj => ?_⟩
  · rw [co_set hkl, if_neg (by omega)]; exact h.2.1 j hj
  · rw [co_set hkl, if_pos rfl, conv, ← h.2.2.1, co_of_some hk, co_of_some hx, co_of_some hy]; rfl
  · rw [co_set hkl, if_neg (by omega)]; exact h.2.2.2 j hj
theorem conv_end {p q l : List UInt8} (h : Conv p q (p.length + q.length) 0 l) : trim l = trim (pmul p q) := by
  refine trim_ext fun k => ?_
  by_cases hk : k < p.length + q.length
  · rw [h.2.1 k hk, co_pmul]
  · rw [co_of_le (by rw [h.1]; omega), co_of_le (by have := len_pmul p q; omega)]

theorem trim_take (p : List UInt8) : trim p = p.take (trim p).length := by
  apply ext_co
  · rw [List.length_take]; have := trim_len p; omega
  · intro k hk; rw [co_trim, co_take, if_pos hk]
theorem trim_reads {W : World} {A : Option Addr} {p : List UInt8} (h : Reads W A (p.map byt)) : Reads W A ((trim p).map byt) := by rw [trim_take]; exact h.takeB _
def TimesAt (W : World) (p q : List UInt8) (k i : Nat) (V : World) : Prop := ∃ l, Conv p q k i l ∧ Own V W.heap.size l ∧ Below W.heap.size W V
theorem times_start (W : World) (p q : List UInt8) : TimesAt W p q 0 0 (W.alloc (.cells (Array.replicate (p.length + q.length) (byt 0)) 5)) :=
  ⟨_, conv_start p q, Own.made W _, (Below.refl _ _).alloc (Nat.le_refl _) _⟩

def CallIs (v : UInt8) (W : World) (e : Ending) (W' : World) : Prop := e = .returned (.int .u8 (v.toNat : Int)) ∧ W' = W
theorem bMul_r (a b : UInt8) (W : World) : Calls Try.prog 37 #[.int .u8 a.toNat, .int .u8 b.toNat] W fun e W' => e = .returned (.int .u8 (mul a b).toNat) ∧ W' = W :=
  (bMul_c a b W).mono fun _ _ h => ⟨h.1, h.2.symm⟩

set_option maxRecDepth 100000 in
set_option maxHeartbeats 2000000 in
theorem cTimes_c (A B : Option Addr) (p q : List UInt8) (ca cb : Nat) (hl : p.length + q.length ≤ 281474976710656) (W : World) (hp : Reads W A (p.map byt)) (hq : Reads W B (q.map byt)) :
    Calls Try.prog 40 #[.slice A p.length ca, .slice B q.length cb] W (Gives (trim (pmul p q)) W) := by
  have hmk := make8 (p.length + q.length) hl
  rw [Int.natCast_add] at hmk
  have H0 := Lib.hid (times_start W p q)
  have HP := Lib.hid hp
  have HQ := Lib.hid hq
  clear hp hq
  generalize hN : p.length = n at *
  generalize hM : q.length = m at *
  have HN := Lib.hid hN
  have HM := Lib.hid hM
  clear hN hM
  go_enter Try.func40, Try.ntmps40
  go_wp2
  go_loopw [16] (fun k wr => ∃ kk : Nat, kk ≤ n + m ∧ k = .int .i64 kk ∧ TimesAt W p q kk 0 wr) (fun k _ => n + m - (intOf k).toNat)
  case atStart => exact ⟨0, by omega, rfl, H0.out⟩
  case round =>
    obtain ⟨k, hk, rfl, hT⟩ := hrel
    have HT := Lib.hid hT
    clear hT
    obtain ⟨wo, rfl⟩ : ∃ wo : World, wo = wr := ⟨_, rfl⟩
    by_cases hlt : k < n + m
    · have i4 : (k : Int) < (n : Int) + (m : Int) := by omega
      go_wp2
      go_loopw [7] (fun i wr => ∃ ii : Nat, ii ≤ k + 1 ∧ i = .int .i64 ii ∧ TimesAt W p q k ii wr) (fun i _ => k + 1 - (intOf i).toNat)
      case atStart => exact ⟨0, by omega, rfl, HT.out⟩
      case round =>
        obtain ⟨i, hi, rfl, hT⟩ := hrel
        by_cases hi2 : i ≤ k
        · by_cases hg : i < n ∧ k - i < m
          · obtain ⟨hg1, hg2⟩ := hg
            obtain ⟨l, hC, hO, hB⟩ := hT
            obtain ⟨b, o, x, rfl, ex, cx⟩ := (HP.out.below hB).bytes (k := i) (by rw [HN.out]; exact hg1)
            obtain ⟨b2, o2, y, rfl, ey, cy⟩ := (HQ.out.below hB).bytes (k := k - i) (by rw [HM.out]; exact hg2)
            obtain ⟨z, ez⟩ : ∃ z, l[k]? = some z := ⟨_, List.getElem?_eq_getElem (by rw [hC.1, HN.out, HM.out]; exact hlt)⟩
            have cz := hO.at_ ez
            have fz := hO.free k
            have HC := Lib.hid (conv_step hC ez ex ey)
            have HO := Lib.hid hO
            clear hC ez ex ey hO
            have i1 : ((k : Int) - (i : Int)) < (m : Int) := by omega
            have i2 : (0 : Int) ≤ (k : Int) - (i : Int) := by omega
            have i3 : (i : Int) < (n : Int) := by omega
            have e2 : IntKind.i64.wrap ((k : Int) - (i : Int)) = (k : Int) - (i : Int) := IntWalk.i64_in _ (by omega)
            go_wp2
            have e1 : ((k : Int) - (i : Int)).toNat = k - i := by omega
            refine Mem.region_tail 16 (by kernel_rfl) (by kernel_rfl) ?_
            simp only [List.take_succ_cons, List.take_zero, List.drop_succ_cons, List.drop_zero]
            repeat (first | (refine wpStill_step (fun K hK => ?_); go_simp; (refine ⟨_, bMul_r _ _ _, hK _ ?_⟩); clear hK K) | still_step)
            refine wpStill_nil ?_
            clear e1 e2
            go_wp2
            go_roundw
            case rel => exact ⟨i + 1, by omega, by go_num, _, HC.out, HO.out.drew.put k _, (below_drew hB).setCell (Nat.le_refl _) _⟩
            case measure => simp [intOf]; omega
          · have HT2 := Lib.hid hT
            clear hT
            by_cases hg1 : i < n
            · have hg2 : ¬ k - i < m := fun h => hg ⟨hg1, h⟩
              have i1 : (m : Int) ≤ (k : Int) - (i : Int) := by omega
              have i3 : (i : Int) < (n : Int) := by omega
              have HG := Lib.hid hg
              clear hg
              go_wp2
              go_roundw
              case rel =>
                obtain ⟨l, hC, hO, hB⟩ := HT2.out
                exact ⟨i + 1, by omega, by go_num, l, conv_skip hC (by rw [HN.out, HM.out]; exact HG.out), hO, hB⟩
              case measure => simp [intOf]; omega
            · have HG := Lib.hid hg
              clear hg
              go_wp2
              go_roundw
              case rel =>
                obtain ⟨l, hC, hO, hB⟩ := HT2.out
                exact ⟨i + 1, by omega, by go_num, l, conv_skip hC (by rw [HN.out, HM.out]; exact HG.out), hO, hB⟩
              case measure => simp [intOf]; omega
        · obtain rfl : i = k + 1 := by omega
          have HT2 := Lib.hid hT
          clear hT
          go_wp2
          go_roundw
          case rel =>
            obtain ⟨l, hC, hO, hB⟩ := HT2.out
            exact ⟨k + 1, by omega, by go_num, l, conv_turn hC, hO, hB⟩
          case measure => simp [intOf]; omega
    · obtain rfl : k = n + m := by omega
      obtain ⟨l, hC, hO, hB⟩ := HT.out
      have hl2 : l.length = n + m := by rw [hC.1, HN.out, HM.out]
      have HL := Lib.hid hl2
      have HC := Lib.hid hC
      clear hC hl2
      go_wp2_with fail
      refine (cTrim_n (some ⟨W.heap.size, 0, none⟩) l (n + m) (n + m) HL.out (Nat.le_refl _) (by unfold maxLen; omega) _ hO.reads).mono ?_
      rintro e w' ⟨rfl, rfl⟩
      go_wp2
      go_ret
      have e := conv_end (p := p) (q := q) (l := l) (by rw [HN.out, HM.out]; exact HC.out)
      rw [← e]
      exact ⟨_, n + m, rfl, by have := trim_len l; rw [HL.out] at this; exact this, trim_reads hO.reads, hB, fun a ha => by injection ha with ha; subst ha; exact Nat.le_refl _⟩
end Go.Proofs.Ytomhcjnhhdbhjaa.Poly
