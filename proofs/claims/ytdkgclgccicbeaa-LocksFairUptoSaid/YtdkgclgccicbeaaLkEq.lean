/-
  Package locks: slices.Equal of errors and of nodes; slices.Clone of operations; what the laws try first.
-/
import Derived.Test.YtdkgclgccicbeaaLkSame
import Derived.Test.YtdkgclgccicbeaaGApp
import Derived.Test.YtdkgclgccicbeaaShLk
import Derived.Lib.SliceRun
namespace Go.Proofs.Ytdkgclgccicbeaa.Lk
set_option linter.unusedVariables false
set_option linter.unusedSimpArgs false
open Go.RowKit Mem Gt

def eqI (xs ys : List Int) : Bool := decide (xs = ys)
theorem eqI_len {xs ys : List Int} (h : xs.length ≠ ys.length) : eqI xs ys = false := decide_eq_false (fun e => h (by rw [e]))
theorem eqI_at {xs ys : List Int} {k : Nat} {x y : Int} (hx : xs[k]? = some x) (hy : ys[k]? = some y) (h : x ≠ y) : eqI xs ys = false := decide_eq_false (ne_at hx hy h)
theorem eqI_all {xs ys : List Int} {n : Nat} (h1 : xs.length = n) (h2 : ys.length = n) (h : xs.take n = ys.take n) : eqI xs ys = true := decide_eq_true (by rw [List.take_of_length_le (by omega), List.take_of_length_le (by omega)] at h; exact h)
set_option maxHeartbeats 2000000 in
theorem equalEr_c (A B : Option Addr) (xs ys : List Int) (n m ca cb : Nat) (W : World) (hn : xs.length = n) (hm : ys.length = m) (hbig : n ≤ 9223372036854775807) (hx : Reads W A (ints xs)) (hy : Reads W B (ints ys)) :
    Calls Try.prog 10 #[.slice A n ca, .slice B m cb] W (Gave (.bool (eqI xs ys)) W) := by
  by_cases e : n = m
  · subst e
    have HX := Lib.hid hx
    have HY := Lib.hid hy
    have HN := Lib.hid hn
    have HM := Lib.hid hm
    clear hx hy hn hm
    go_enter Try.func10, Try.ntmps10
    go_wp2
    go_loopw [13] (fun i wr => ∃ k : Nat, k ≤ n ∧ i = .int .i64 k ∧ Drawn W wr ∧ xs.take k = ys.take k) (fun i _ => n - (intOf i).toNat)
    case atStart => exact ⟨0, by omega, rfl, Drawn.refl _, rfl⟩
    case round =>
      obtain ⟨k, hk, rfl, hD, hT⟩ := hrel
      have HD := Lib.hid hD
      have HT := Lib.hid hT
      have hb := hD.below W.heap.size
      have HB := Lib.hid hb
      clear hD hT
      by_cases hlt : k < n
      · have kx : k < xs.length := by rw [HN.out]; exact hlt
        have ky : k < ys.length := by rw [HM.out]; exact hlt
        obtain ⟨u, ex⟩ : ∃ u, xs[k]? = some u := ⟨_, List.getElem?_eq_getElem kx⟩
        obtain ⟨v, ey⟩ : ∃ u, ys[k]? = some u := ⟨_, List.getElem?_eq_getElem ky⟩
        obtain ⟨b1, o1, rfl, _, x0⟩ := int_at (HX.out.below hb) ex
        obtain ⟨b2, o2, rfl, _, y0⟩ := int_at (HY.out.below hb) ey
        have EX := Lib.hid ex
        have EY := Lib.hid ey
        have i1 : (k : Int) < (n : Int) := by omega
        clear ex ey hb kx ky
        by_cases e : u = v
        · have T2 := Lib.hid (eq_take HT.out EX.out (by rw [e]; exact EY.out))
          subst e
          have ne : (u != u) = false := by simp
          go_wp2
          go_quiet (fail)
          go_wp2
          go_roundw
          case rel => exact ⟨k + 1, by omega, by go_num, HD.out.more _, T2.out⟩
          case measure => simp [intOf]; omega
        · have ne : (u != v) = true := by simpa using e
          have HE := Lib.hid (eqI_at EX.out EY.out e)
          clear e
          go_wp2
          go_quiet (fail)
          go_wp2
          go_ret
          exact ⟨by rw [HE.out]; rfl, (HD.out.more _).below _⟩
      · obtain rfl : k = n := by omega
        have HE := Lib.hid (eqI_all HN.out HM.out HT.out)
        clear hb
        go_wp2
        go_ret
        exact ⟨by rw [HE.out]; rfl, HD.out.below _⟩
  · have n1 : ((n : Int) != (m : Int)) = true := by simp; omega
    have E := Lib.hid (eqI_len (xs := xs) (ys := ys) (by omega))
    clear hx hy hn hm e
    go_enter Try.func10, Try.ntmps10
    go_wp2
    go_ret
    exact ⟨by rw [E.out]; rfl, Below.refl _ _⟩
set_option maxHeartbeats 2000000 in
theorem equalZ_c (A B : Option Addr) (xs ys : List Int) (n m ca cb : Nat) (W : World) (hn : xs.length = n) (hm : ys.length = m) (hbig : n ≤ 9223372036854775807) (hx : Reads W A (ints xs)) (hy : Reads W B (ints ys)) :
    Calls Try.prog 23 #[.slice A n ca, .slice B m cb] W (Gave (.bool (eqI xs ys)) W) := by
  by_cases e : n = m
  · subst e
    have HX := Lib.hid hx
    have HY := Lib.hid hy
    have HN := Lib.hid hn
    have HM := Lib.hid hm
    clear hx hy hn hm
    go_enter Try.func23, Try.ntmps23
    go_wp2
    go_loopw [13] (fun i wr => ∃ k : Nat, k ≤ n ∧ i = .int .i64 k ∧ Drawn W wr ∧ xs.take k = ys.take k) (fun i _ => n - (intOf i).toNat)
    case atStart => exact ⟨0, by omega, rfl, Drawn.refl _, rfl⟩
    case round =>
      obtain ⟨k, hk, rfl, hD, hT⟩ := hrel
      have HD := Lib.hid hD
      have HT := Lib.hid hT
      have hb := hD.below W.heap.size
      have HB := Lib.hid hb
      clear hD hT
      by_cases hlt : k < n
      · have kx : k < xs.length := by rw [HN.out]; exact hlt
        have ky : k < ys.length := by rw [HM.out]; exact hlt
        obtain ⟨u, ex⟩ : ∃ u, xs[k]? = some u := ⟨_, List.getElem?_eq_getElem kx⟩
        obtain ⟨v, ey⟩ : ∃ u, ys[k]? = some u := ⟨_, List.getElem?_eq_getElem ky⟩
        obtain ⟨b1, o1, rfl, _, x0⟩ := int_at (HX.out.below hb) ex
        obtain ⟨b2, o2, rfl, _, y0⟩ := int_at (HY.out.below hb) ey
        have EX := Lib.hid ex
        have EY := Lib.hid ey
        have i1 : (k : Int) < (n : Int) := by omega
        clear ex ey hb kx ky
        by_cases e : u = v
        · have T2 := Lib.hid (eq_take HT.out EX.out (by rw [e]; exact EY.out))
          subst e
          have ne : (u != u) = false := by simp
          go_wp2
          go_quiet (fail)
          go_wp2
          go_roundw
          case rel => exact ⟨k + 1, by omega, by go_num, HD.out.more _, T2.out⟩
          case measure => simp [intOf]; omega
        · have ne : (u != v) = true := by simpa using e
          have HE := Lib.hid (eqI_at EX.out EY.out e)
          clear e
          go_wp2
          go_quiet (fail)
          go_wp2
          go_ret
          exact ⟨by rw [HE.out]; rfl, (HD.out.more _).below _⟩
      · obtain rfl : k = n := by omega
        have HE := Lib.hid (eqI_all HN.out HM.out HT.out)
        clear hb
        go_wp2
        go_ret
        exact ⟨by rw [HE.out]; rfl, HD.out.below _⟩
  · have n1 : ((n : Int) != (m : Int)) = true := by simp; omega
    have E := Lib.hid (eqI_len (xs := xs) (ys := ys) (by omega))
    clear hx hy hn hm e
    go_enter Try.func23, Try.ntmps23
    go_wp2
    go_ret
    exact ⟨by rw [E.out]; rfl, Below.refl _ _⟩
set_option maxRecDepth 100000 in
set_option maxHeartbeats 1000000 in
theorem clone_zero_lo (ad : Addr) (c : Nat) (W : World) :
    Calls Try.prog 16 #[.slice (some ad) 0 c] W fun e W' => ∃ A' c', e = .returned (.slice A' 0 c') ∧ Tab loE W' W.heap.size 36 (.slice A' 0 c') [] ∧ Below W.heap.size W W' := by
  have q22 : ∀ (w : World) (a : Option Addr) (n c n' c' : Nat), (binOp .eql 22 (.slice a n c) (.slice none n' c')).run Try.prog w = .ok (.bool a.isNone) w := fun w a n c n' c' => Go.Lib.run_eql_slice_nil w _ _ a n c n' c' Try.underlying22
  go_enter Try.func16, Try.ntmps16
  go_wp2
  go_ret
  exact ⟨some ⟨W.heap.size, 0, none⟩, 0, rfl, World.ownsRow_made W #[] 0 (Nat.le_refl _) (Nat.zero_le _) (by simp), (Below.refl _ W).alloc (Nat.le_refl _) _⟩
set_option maxRecDepth 100000 in
theorem clone_lo (A : Option Addr) (l : List LO) (n c : Nat) (W : World) (hn : l.length = n) (hbig : n ≤ 4398046511104) (hx : Reads W A (flat loE l)) :
    Calls Try.prog 16 #[.slice A n c] W fun e W' => ∃ A' c', e = .returned (.slice A' n c') ∧ Tab loE W' W.heap.size 36 (.slice A' n c') l ∧ Below W.heap.size W W' := by
  rcases Nat.eq_zero_or_pos n with h0 | h0
  · subst h0
    obtain rfl := List.eq_nil_of_length_eq_zero hn
    cases A with
    | none =>
      refine (AnyE.slices_Clone_nil Try.cloneLk 0 c W).mono ?_
      rintro e w ⟨rfl, rfl⟩
      exact ⟨none, 0, rfl, Tab.nil _ _ _, Below.refl _ _⟩
    | some a => exact clone_zero_lo a c W
  · obtain ⟨i, hi, z, hz0, hz1, hz2, hz3⟩ := elLO.hi
    have kl : 0 < l.length := by omega
    obtain ⟨b, o, rfl, _, _⟩ := lo_at hx (List.getElem?_eq_getElem kl)
    refine (AnyE.slices_Clone Try.cloneLk i z 3 24 hi hz0 hz1 hz2 hz3 (by omega) Try.sizeOf36 b o n c (flat loE l) W (by rw [flat_len, hn]) (by unfold maxLen; omega) (by omega) (fun j u hj => ?_) (flat_one loE l)).mono ?_
    · obtain ⟨b', o', e, _, h3⟩ := hx j u hj
      injection e with e
      injection e with e1 e2
      subst e1 e2
      exact h3
    · rintro e w ⟨v, rfl, hr, _, hb⟩
      have hT : Tab loE w W.heap.size 36 v l := by unfold Tab; rw [hn]; exact hr
      obtain ⟨A', c', hv, hc, _⟩ := hT.form
      rw [hn] at hv
      subst hv
      exact ⟨A', c', rfl, hT, hb⟩

/-! ### What the laws try first -/
def ops19 : List LO := [(1, 0, 5), (1, 1, 5), (2, 2, 5), (1, 3, 5), (3, 0, 5)]
def ans19 : List Int := [0, 0, 6, 6, 0]
def lks19 : List Lc := [(5, false, [1], [(2, 2, 5), (1, 3, 5)])]
theorem play19 : errs ops19 = ans19 ∧ locks ops19 = lks19 := ⟨by kernel_rfl, by kernel_rfl⟩
set_option maxRecDepth 100000 in
set_option maxHeartbeats 4000000 in
theorem alive_c (hP : PlaySpec) (V : World) : Calls Try.prog 12 #[] V (Gave (.bool true) V) := by
  have P1 := Lib.hid (fun A ca V (hr : Reads V A (flat loE ops19)) => hP A ops19 5 ca V ans19 lks19 1 rfl (by omega) hr
    (fun o ho => by
      simp only [ops19, List.mem_cons, List.mem_singleton, List.not_mem_nil, or_false] at ho
      unfold FitO Fit
      rcases ho with rfl | rfl | rfl | rfl | rfl <;> simp) play19.1 play19.2 rfl)
  go_enter Try.func12, Try.ntmps12
  go_wp2_with fail
  refine (P1.out _ _ _ (reads_lit V _ rfl)).mono ?_
  rintro e w1 ⟨A, a, B, b, rfl, _, _, ha, hl, hb⟩
  have B1 := Lib.hid ((low_lit V _).trans (hb.mono (by simp)))
  have EA := Lib.hid (fun (X : World) (hX : Below w1.heap.size w1 X) B cb (hr : Reads X B (ints ans19)) => equalEr_c A B _ _ 5 5 a cb X rfl rfl (by omega) (ha.below hX) hr)
  have HL := Lib.hid hl.rds
  clear ha hb hl
  go_wp2_with fail
  refine (EA.out _ (low_lit w1 _) _ _ (reads_lit w1 _ rfl)).mono ?_
  rintro e w3 ⟨rfl, hb⟩
  have B4 := Lib.hid (show Below w1.heap.size w1 w3 from (low_lit w1 _).trans (hb.mono (by simp)))
  clear hb
  have e1 : eqI ans19 ans19 = true := by simp [eqI]
  obtain ⟨g, o, H, nh, ch, S, ns, cs, rfl, _, x0, x1, x2, x3, ix⟩ := (HL.out.below B4.out).at_ (k := 0) rfl
  obtain ⟨-, -, lh, -, rh, lw, -, -⟩ := ix
  obtain rfl : 1 = nh := lh
  obtain rfl : 2 = ns := lw
  have EZ := Lib.hid (fun (X : World) (hX : Below w3.heap.size w3 X) B cb (hr : Reads X B (ints [1])) => equalZ_c H B [1] [1] 1 1 ch cb X rfl rfl (by omega) (rh.below hX) hr)
  clear rh
  simp only [Nat.zero_mul, Nat.add_zero] at x0 x1 x2 x3
  go_wp2_with fail
  refine (EZ.out _ (low_lit w3 _) _ _ (reads_lit w3 _ rfl)).mono ?_
  rintro e w5 ⟨rfl, hb⟩
  have B5 := Lib.hid (show Below w3.heap.size w3 w5 from (low_lit w3 _).trans (hb.mono (by simp)))
  have e2 : eqI [1] [1] = true := by simp [eqI]
  obtain ⟨g', o', H', nh', ch', S', ns', cs', e', _, y0, y1, y2, y3, iy⟩ := (HL.out.below (B4.out.trans (B5.out.mono B4.out.size))).at_ (k := 0) rfl
  injection e' with e'
  injection e' with e3 e4
  subst e3 e4
  have x3' := x3
  clear iy hb
  have y3' := (B5.out.cell (World.block_lt_of_cell? _ _ x3)).trans x3
  simp only [Nat.zero_mul, Nat.add_zero] at y0 y1 y2 y3
  clear y0 y1 y2 y3 x0 x1 x2 x3 x3'
  go_wp2
  go_ret
  exact ⟨by simp [eqI], B1.out.trans ((B4.out.trans (B5.out.mono B4.out.size)).mono B1.out.size)⟩
end Go.Proofs.Ytdkgclgccicbeaa.Lk
