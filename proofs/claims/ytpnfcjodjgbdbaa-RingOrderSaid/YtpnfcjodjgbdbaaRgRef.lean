/-
  The document's own answers on rings: GLess, GRight.
-/
import Derived.Test.YtpnfcjodjgbdbaaRgB
namespace Go.Proofs.Ytpnfcjodjgbdbaa.Ring
set_option linter.unusedVariables false
set_option linter.unusedSimpArgs false
open Go.RowKit Mem

theorem gless_c (x y : Tk) (W : World) : Calls Try.prog 32 #[.agg #[.int .u64 x.1.toNat, .int .i64 x.2], .agg #[.int .u64 y.1.toNat, .int .i64 y.2]] W (Gave (.bool (ltB x y)) W) := by
  have hb : ∀ o1 o2 : Obj, Below W.heap.size W ((W.alloc o1).alloc o2) := fun o1 o2 => ((Below.refl _ _).alloc (Nat.le_refl _) _).alloc (by simp) _
  have HB := Lib.hid hb
  clear hb
  obtain ⟨x0, x1⟩ := x
  obtain ⟨y0, y1⟩ := y
  rcases Nat.lt_trichotomy x0.toNat y0.toNat with h | h | h
  · have E := Lib.hid (show ltB (x0, x1) (y0, y1) = true from ltB_iff.2 (.inl h))
    have i1 : decide (x0.toNat < y0.toNat) = true := decide_eq_true h
    go_enter Try.func32, Try.ntmps32
    go_wp2
    go_ret
    exact ⟨by rw [E.out]; rfl, HB.out _ _⟩
  · have i1 : decide (x0.toNat < y0.toNat) = false := by rw [decide_eq_false_iff_not]; omega
    have i2 : ((x0.toNat : Int) == (y0.toNat : Int)) = true := by simp [h]
    have i3 : (x0.toNat == y0.toNat) = true := by simp [h]
    have HH := Lib.hid h
    clear h
    by_cases h1 : x1 < y1
    · have E := Lib.hid (show ltB (x0, x1) (y0, y1) = true from ltB_iff.2 (.inr ⟨HH.out, h1⟩))
      have i4 : decide (x1 < y1) = true := decide_eq_true h1
      go_enter Try.func32, Try.ntmps32
      go_wp2
      go_ret
      exact ⟨by rw [E.out]; rfl, HB.out _ _⟩
    · have E := Lib.hid (show ltB (x0, x1) (y0, y1) = false from ltB_not.2 (by have := HH.out; simp only; omega))
      have i4 : decide (x1 < y1) = false := decide_eq_false h1
      go_enter Try.func32, Try.ntmps32
      go_wp2
      go_ret
      exact ⟨by rw [E.out]; rfl, HB.out _ _⟩
  · have E := Lib.hid (show ltB (x0, x1) (y0, y1) = false from ltB_not.2 (by simp only; omega))
    have i1 : decide (x0.toNat < y0.toNat) = false := by rw [decide_eq_false_iff_not]; omega
    have i2 : ((x0.toNat : Int) == (y0.toNat : Int)) = false := by simp; omega
    have i3 : (x0.toNat == y0.toNat) = false := by simp; omega
    clear h
    go_enter Try.func32, Try.ntmps32
    go_wp2
    go_ret
    exact ⟨by rw [E.out]; rfl, HB.out _ _⟩

def rgB (n : Nat) (ts : List Tk) : Bool := decide (n ≤ 400) && sortB ts
theorem rgB_right {ts : List Tk} {n : Nat} (hn : ts.length = n) : rgB n ts = decide (Right ts) := by
  subst hn; rw [Bool.eq_iff_iff]; unfold rgB sortB; simp only [Bool.and_eq_true, decide_eq_true_iff]; exact Iff.rfl
theorem rgB_bad {n : Nat} {ts : List Tk} {k : Nat} (h : rgB n (ts.take k) = false) : rgB n (ts.take (k + 1)) = false := by
  unfold rgB at *
  cases h4 : decide (n ≤ 400) with
  | false => rfl
  | true =>
    rw [h4, Bool.true_and] at h
    rw [Bool.true_and]
    refine sortB_no fun hs => ?_
    have : Sorted (ts.take k) := by
      have h5 := hs.sublist (List.take_sublist k _)
      rwa [List.take_take, Nat.min_eq_left (by omega)] at h5
    rw [sortB_yes this] at h; cases h
theorem rgB_less {n : Nat} {ts : List Tk} {m : Nat} {a b : Tk} (ha : ts[m]? = some a) (hb : ts[m + 1]? = some b) (hl : ltB b a = true) : rgB n (ts.take (m + 1 + 1)) = false := by
  unfold rgB
  rw [sortB_no (fun hs => ?_), Bool.and_false]
  have h1 : (ts.take (m + 1 + 1))[m]? = some a := by rw [List.getElem?_take_of_lt (by omega)]; exact ha
  have h2 : (ts.take (m + 1 + 1))[m + 1]? = some b := by rw [List.getElem?_take_of_lt (by omega)]; exact hb
  exact not_sorted h1 h2 hl hs
theorem rgB_next {n : Nat} {ts : List Tk} {m : Nat} {a b : Tk} (ha : ts[m]? = some a) (hb : ts[m + 1]? = some b) (hl : ltB b a = false) (h : rgB n (ts.take (m + 1)) = true) : rgB n (ts.take (m + 1 + 1)) = true := by
  unfold rgB at *
  rw [Bool.and_eq_true] at *
  exact ⟨h.1, sortB_yes (sorted_take_succ ha hb hl (of_decide_eq_true h.2))⟩
set_option maxRecDepth 100000 in
set_option maxHeartbeats 4000000 in
theorem gright_c (A : Option Addr) (ts : List Tk) (n ca : Nat) (W : World) (hn : ts.length = n) (hbig : n ≤ maxLen) (hx : TRds W A ts) :
    Calls Try.prog 14 #[.slice A n ca] W (Gave (.bool (rgB n ts)) W) := by
  unfold maxLen at hbig
  have HX := Lib.hid hx
  have HN := Lib.hid hn
  clear hx hn
  have S0 : Hid (rgB n (ts.take 1) = decide (n ≤ 400)) := show _ = _ by
    unfold rgB; rw [sortB_yes (sorted_short (by rw [List.length_take]; omega)), Bool.and_true]
  have d1 : decide ((n : Int) ≤ 400) = decide (n ≤ 400) := by rw [Bool.eq_iff_iff]; simp; omega
  generalize hb0 : decide (n ≤ 400) = b0 at *
  clear hb0
  go_enter Try.func14, Try.ntmps14
  go_wp2
  go_loopw [3, 4] (fun s3 i wr => ∃ (k : Nat) (b : Bool), 1 ≤ k ∧ (k ≤ n ∨ k = 1) ∧ i = .int .i64 k ∧ s3 = .bool b ∧ rgB n (ts.take k) = b ∧ Below W.heap.size W wr) (fun _ i _ => n - (intOf i).toNat)
  case atStart => exact ⟨1, b0, by omega, by omega, rfl, rfl, S0.out, Below.refl _ _⟩
  case round =>
    obtain ⟨k, b, hk1, hkn, rfl, rfl, hb, hB⟩ := hrel
    have HB := Lib.hid hB
    have HR := Lib.hid hb
    by_cases hlt : k < n
    · obtain ⟨m, hm⟩ : ∃ m, k = m + 1 := ⟨k - 1, by omega⟩
      have k1 : k < ts.length := by rw [HN.out]; exact hlt
      have k0 : m < ts.length := by omega
      obtain ⟨bb, o, rfl, _, x0, x1⟩ := (HX.out.below hB).tk k1
      obtain ⟨b', o', e', _, y0, y1⟩ := (HX.out.below hB).tk k0
      injection e' with e'
      injection e' with e1 e2
      subst e1 e2
      have EX := Lib.hid (show ts[m + 1]? = some ts[k] by rw [← hm]; exact List.getElem?_eq_getElem k1)
      have EY := Lib.hid (show ts[m]? = some ts[m] from List.getElem?_eq_getElem k0)
      generalize hu : ts[k] = u at *
      generalize hv : ts[m] = v at *
      obtain ⟨u0, u1⟩ := u
      obtain ⟨v0, v1⟩ := v
      have e2 : IntKind.i64.wrap ((k : Int) - 1) = (m : Int) := by rw [show (k : Int) - 1 = m by omega]; exact IntWalk.i64_in _ (by omega)
      have i1 : (k : Int) < (n : Int) := by omega
      have i2 : (m : Int) < (n : Int) := by omega
      have HM := Lib.hid hm
      have H1 := Lib.hid (fun V => gless_c (u0, u1) (v0, v1) V)
      clear hu hv hB hb k1 k0 hm d1
      cases b with
      | false =>
        have NX := Lib.hid (rgB_bad HR.out)
        go_wp2
        go_quiet (fail)
        go_wp2
        go_roundw
        case rel => exact ⟨k + 1, false, by omega, by omega, by go_num, rfl, NX.out, below_drewN HB.out _⟩
        case measure => simp [intOf]; omega
      | true =>
        cases hl : ltB (u0, u1) (v0, v1) with
        | true =>
          have NX := Lib.hid (rgB_less (n := n) EY.out EX.out hl)
          rw [hl] at H1
          clear hl
          go_wp2
          refine Mem.region_tail 11 (by kernel_rfl) (by kernel_rfl) ?_
          simp only [List.take_succ_cons, List.take_zero, List.drop_succ_cons, List.drop_zero]
          repeat still_step
          refine wpStill_nil ?_
          go_wp2_with (go_at_call 32; refine (H1.out _).mono ?_; rintro e w' ⟨rfl, hb⟩; have HC := Lib.hid (HB.out.trans ((below_undrew hb).mono HB.out.size)); clear hb)
          go_roundw
          case rel => exact ⟨k + 1, false, by omega, by omega, by go_num, rfl, by have := NX.out; rwa [← HM.out] at this, HC.out⟩
          case measure => simp [intOf]; omega
        | false =>
          have NX := Lib.hid (rgB_next (n := n) EY.out EX.out hl (by have := HR.out; rwa [HM.out] at this))
          rw [hl] at H1
          clear hl
          go_wp2
          refine Mem.region_tail 11 (by kernel_rfl) (by kernel_rfl) ?_
          simp only [List.take_succ_cons, List.take_zero, List.drop_succ_cons, List.drop_zero]
          repeat still_step
          refine wpStill_nil ?_
          go_wp2_with (go_at_call 32; refine (H1.out _).mono ?_; rintro e w' ⟨rfl, hb⟩; have HC := Lib.hid (HB.out.trans ((below_undrew hb).mono HB.out.size)); clear hb)
          go_roundw
          case rel => exact ⟨k + 1, true, by omega, by omega, by go_num, rfl, by have := NX.out; rwa [← HM.out] at this, HC.out⟩
          case measure => simp [intOf]; omega
    · have E := Lib.hid (show rgB n ts = b by have := HR.out; rwa [List.take_of_length_le (by rw [HN.out]; omega)] at this)
      clear hB hb d1
      go_wp2
      go_ret
      exact ⟨by rw [E.out]; rfl, HB.out⟩
end Go.Proofs.Ytpnfcjodjgbdbaa.Ring
