/-
  The law QuorumMakes over what it takes of the program.
-/
import Derived.Test.YteggbepibfpjcaaQrClos
import Derived.Test.YteggbepibfpjcaaLaw
namespace Go.Proofs.Yteggbepibfpjcaa.Qr
set_option linter.unusedVariables false
set_option linter.unusedSimpArgs false
open Go.RowKit Mem
open Go.Lib

/-! ### Grids, place by place -/
def grdf (r c k s : Nat) : Bool := decide (∃ k' ∈ List.range k, gset r c k' = s)
theorem grdf_zero (r c s : Nat) : grdf r c 0 s = false := by unfold grdf; simp
theorem grdf_step (r c k s : Nat) : (if s = gset r c k then true else grdf r c k s) = grdf r c (k + 1) s := by
  unfold grdf
  by_cases e : s = gset r c k
  · rw [if_pos e]
    exact (decide_eq_true ⟨k, by simp, e.symm⟩).symm
  · rw [if_neg e]
    refine decide_eq_decide.2 ⟨fun ⟨k', h1, h2⟩ => ⟨k', by simp at h1 ⊢; omega, h2⟩, fun ⟨k', h1, h2⟩ => ⟨k', ?_, h2⟩⟩
    simp at h1 ⊢
    rcases Nat.lt_or_ge k' k with h | h
    · exact h
    · obtain rfl : k' = k := by omega
      exact absurd h2.symm e
def colTo (c e x : Nat) : Nat := orAll ((List.range x).map (fun x => x * c + e))
def rowTo (r c e gc y : Nat) : Nat := orAll ((List.range r).map (fun x => x * c + e) ++ (List.range y).map (fun y => gc + y))
theorem colTo_step (c e x : Nat) : colTo c e x ||| 2 ^ (x * c + e) = colTo c e (x + 1) := by
  unfold colTo; rw [List.range_succ, List.map_append]; exact (orAll_snoc _ _).symm
theorem rowTo_zero (r c e gc : Nat) : rowTo r c e gc 0 = colTo c e r := by unfold rowTo colTo; simp
theorem rowTo_step (r c e gc y : Nat) : rowTo r c e gc y ||| 2 ^ (gc + y) = rowTo r c e gc (y + 1) := by
  unfold rowTo; rw [List.range_succ, List.map_append, ← List.append_assoc]; exact (orAll_snoc _ _).symm
theorem rowTo_all (r c k : Nat) : rowTo r c (k % c) (k / c * c) c = gset r c k := rfl
theorem colTo_lt {c e x r : Nat} (hc : e < c) (hx : x ≤ r) (h : r * c ≤ 16) : colTo c e x < 65536 := by
  refine Nat.lt_of_lt_of_le (orAll_lt (n := r * c) fun j hj => ?_) (two_pow_16 h)
  obtain ⟨y, hy, rfl⟩ := List.mem_map.1 hj
  have hy := List.mem_range.1 hy
  calc y * c + e < y * c + c := by omega
    _ = (y + 1) * c := by rw [Nat.add_mul, Nat.one_mul]
    _ ≤ r * c := Nat.mul_le_mul_right c (by omega)
theorem rowTo_lt {r c k y : Nat} (hc : 0 < c) (hk : k < r * c) (hy : y ≤ c) (h : r * c ≤ 16) : rowTo r c (k % c) (k / c * c) y < 65536 := by
  refine Nat.lt_of_lt_of_le (orAll_lt (n := r * c) fun j hj => ?_) (two_pow_16 h)
  refine cross_lt hc hk j ?_
  rcases List.mem_append.1 hj with hj | hj
  · exact List.mem_append_left _ hj
  · obtain ⟨z, hz, rfl⟩ := List.mem_map.1 hj
    have hz := List.mem_range.1 hz
    exact List.mem_append_right _ (List.mem_map.2 ⟨z, List.mem_range.2 (by omega), rfl⟩)
theorem place_lt {c e x r : Nat} (hc : e < c) (hx : x < r) (h : r * c ≤ 16) : x * c + e < 16 := by
  have : x * c + e < r * c := calc x * c + e < x * c + c := by omega
    _ = (x + 1) * c := by rw [Nat.add_mul, Nat.one_mul]
    _ ≤ r * c := Nat.mul_le_mul_right c hx
  omega
theorem shl16 {j : Nat} (h : j < 16) : IntKind.u16.wrap (2 ^ j) = ((2 ^ j : Nat) : Int) := by
  rw [show (2 : Int) ^ j = ((2 ^ j : Nat) : Int) by simp]
  exact wrap16 (Nat.pow_lt_pow_right (by decide) h)
theorem pow16 {j : Nat} (h : j < 16) : 2 ^ j < 65536 := Nat.pow_lt_pow_right (a := 2) (n := 16) (by decide) h

/-! ### What meets, pair by pair -/
def rowB (x : Nat) (l : List Nat) : Bool := l.all (fun y => share x y)
def meetT (a b : List Nat) : Bool := a.all (fun x => rowB x b)
def liveT (a : List Nat) (d : Nat) : Bool := a.any (fun x => !share x d)
theorem meetT_all (a b : List Nat) : meetAll a b = meetT a b := by
  unfold meetAll meetT rowB share
  rw [Bool.eq_iff_iff, decide_eq_true_iff, List.all_eq_true]
  simp [List.all_eq_true]
theorem liveT_any (a : List Nat) (d : Nat) : live a d = liveT a d := by
  unfold live liveT share
  rw [Bool.eq_iff_iff, decide_eq_true_iff, List.any_eq_true]
  simp
theorem rowB_step {l : List Nat} {j x y : Nat} (h : l[j]? = some y) : rowB x (l.take (j + 1)) = (rowB x (l.take j) && share x y) := by
  unfold rowB; rw [List.take_add_one, h, List.all_append]; simp
theorem meetT_step {a b : List Nat} {k x : Nat} (h : a[k]? = some x) : meetT (a.take (k + 1)) b = (meetT (a.take k) b && rowB x b) := by
  unfold meetT; rw [List.take_add_one, h, List.all_append]; simp
theorem liveT_step {a : List Nat} {k x d : Nat} (h : a[k]? = some x) : liveT (a.take (k + 1)) d = (liveT (a.take k) d || !share x d) := by
  unfold liveT; rw [List.take_add_one, h, List.any_append]; simp

/-- What the law has at hand behind its four calls. -/
structure Hand (W w4 : World) (m : Int) (A1 : Option Addr) (l1 : List Nat) (A2 : Option Addr) (l2 : List Nat) (A : Option Addr) (a : List Nat) (B : Option Addr) (b : List Nat) : Prop where
  box : w4.cell? ⟨W.heap.size, 0, none⟩ = some (.int .i64 m)
  r1 : Reads w4 A1 (l1.map w16)
  r2 : Reads w4 A2 (l2.map w16)
  ra : Reads w4 A (a.map w16)
  rb : Reads w4 B (b.map w16)
  below : Below W.heap.size W w4
theorem Hand.later {W w4 V : World} {m : Int} {A1 : Option Addr} {l1 : List Nat} {A2 : Option Addr} {l2 : List Nat} {A : Option Addr} {a : List Nat} {B : Option Addr} {b : List Nat} (h : Hand W w4 m A1 l1 A2 l2 A a B b) (hb : Below w4.heap.size w4 V) : Hand W V m A1 l1 A2 l2 A a B b :=
  ⟨(hb.cell (World.block_lt_of_cell? _ _ h.box)).trans h.box, h.r1.below hb, h.r2.below hb, h.ra.below hb, h.rb.below hb, h.below.trans (hb.mono h.below.size)⟩

set_option maxRecDepth 100000 in
set_option maxHeartbeats 32000000 in
theorem makes_w (hMaj : MajSpec) (hGrid : GridSpec) (hMeet : MeetSpec) (hLive : LiveSpec) (m r c : Int) (A : Option Addr) (a : List Nat) (na ca : Nat) (B : Option Addr) (b : List Nat) (nb cb d : Nat) (W : World)
    (hna : a.length = na) (hab : na ≤ 70368744177664) (hA : Reads W A (a.map w16)) (hAf : Fits a) (hnb : b.length = nb) (hbb : nb ≤ 70368744177664) (hB : Reads W B (b.map w16)) (hBf : Fits b) (hd : d < 65536) :
    Calls Try.prog 3 #[.int .i64 m, .int .i64 r, .int .i64 c, .slice A na ca, .slice B nb cb, .int .u16 d] W (Law.Yes W) := by
  obtain ⟨l1, hl1⟩ : ∃ l1, majL m = l1 := ⟨_, rfl⟩
  obtain ⟨n1, hn1⟩ : ∃ n1, l1.length = n1 := ⟨_, rfl⟩
  obtain ⟨k1, hk1⟩ : ∃ k1, majE m = k1 := ⟨_, rfl⟩
  obtain ⟨l2, hl2⟩ : ∃ l2, gridL r c = l2 := ⟨_, rfl⟩
  obtain ⟨n2, hn2⟩ : ∃ n2, l2.length = n2 := ⟨_, rfl⟩
  obtain ⟨k2, hk2⟩ : ∃ k2, gridE r c = k2 := ⟨_, rfl⟩
  obtain ⟨x3, hx3⟩ : ∃ x3, meetB a b = x3 := ⟨_, rfl⟩
  obtain ⟨k3, hk3⟩ : ∃ k3, meetE a b = k3 := ⟨_, rfl⟩
  obtain ⟨x4, hx4⟩ : ∃ x4, liveB a d = x4 := ⟨_, rfl⟩
  obtain ⟨k4, hk4⟩ : ∃ k4, liveE a = k4 := ⟨_, rfl⟩
  have P1 := Lib.hid (fun V => hMaj m V l1 n1 k1 hk1 hl1 hn1)
  have P2 := Lib.hid (fun V => hGrid r c V l2 n2 k2 hk2 hl2 hn2)
  have P3 := Lib.hid (fun V h h' => hMeet A a na ca B b nb cb V x3 k3 hna hab h hAf hnb hbb h' hBf hk3 hx3)
  have P4 := Lib.hid (fun V h => hLive A a na ca d V x4 k4 hna hab h hAf hd hk4 hx4)
  have HA := Lib.hid hA
  have HB := Lib.hid hB
  have b1 : n1 ≤ 252 := by rw [← hn1, ← hl1]; exact majL_len m
  have b2 : n2 ≤ 16 := by rw [← hn2, ← hl2]; exact gridL_len r c
  obtain ⟨bm, hbm⟩ : ∃ bm, decide (m < 1 ∨ 10 < m) = bm := ⟨_, rfl⟩
  obtain ⟨bg, hbg⟩ : ∃ bg, decide (r < 1 ∨ c < 1 ∨ 16 < r ∨ 16 < c ∨ 16 < r * c) = bg := ⟨_, rfl⟩
  have S1 := Lib.hid (show bm = true → k1 = 2 ∧ n1 = 0 from fun h => by
    have h := of_decide_eq_true (hbm.trans h)
    have e : majE m = 2 := if_pos h
    exact ⟨by rw [← hk1, e], by rw [← hn1, ← hl1]; unfold majL; rw [if_neg (by rw [e]; decide)]; rfl⟩)
  have S2 := Lib.hid (show bm = false → k1 = 0 ∧ ∃ j : Nat, m = j ∧ 1 ≤ j ∧ j ≤ 10 ∧ rise 65536 (isMaj j) = l1 from fun h => by
    have h := of_decide_eq_false (hbm.trans h)
    have e : majE m = 0 := if_neg h
    refine ⟨by rw [← hk1, e], m.toNat, by omega, by omega, by omega, ?_⟩
    rw [maj_rise (by omega), ← hl1]
    unfold majL
    rw [if_pos e])
  have G1 := Lib.hid (show bg = true → k2 = 2 ∧ n2 = 0 from fun h => by
    have h := of_decide_eq_true (hbg.trans h)
    have e : gridE r c = 2 := if_pos h
    exact ⟨by rw [← hk2, e], by rw [← hn2, ← hl2]; unfold gridL; rw [if_neg (by rw [e]; decide)]; rfl⟩)
  have G2 := Lib.hid (show bg = false → k2 = 0 ∧ ∃ i j : Nat, r = i ∧ c = j ∧ 1 ≤ i ∧ 1 ≤ j ∧ i * j ≤ 16 ∧ rise 65536 (isGrid i j) = l2 from fun h => by
    have h := of_decide_eq_false (hbg.trans h)
    have e : gridE r c = 0 := if_neg h
    have e2 : ((r.toNat * c.toNat : Nat) : Int) = r * c := by rw [Int.natCast_mul, Int.toNat_of_nonneg (by omega), Int.toNat_of_nonneg (by omega)]
    refine ⟨by rw [← hk2, e], r.toNat, c.toNat, by omega, by omega, by omega, by omega, by omega, ?_⟩
    rw [← hl2]
    unfold gridL
    rw [if_pos e]; rfl)
  have HBM := Lib.hid hbm
  have HBG := Lib.hid hbg
  have E3 := Lib.hid (show (400 < na ∨ 400 < nb) → k3 = 2 ∧ x3 = false from fun h => by
    have e : meetE a b = 2 := by unfold meetE; rw [hna, hnb]; exact if_pos h
    exact ⟨by rw [← hk3, e], by rw [← hx3]; unfold meetB; rw [if_neg (by rw [e]; decide)]⟩)
  have E4 := Lib.hid (show 400 < na → k4 = 2 ∧ x4 = false from fun h => by
    have e : liveE a = 2 := by unfold liveE; rw [hna]; exact if_pos h
    exact ⟨by rw [← hk4, e], by rw [← hx4]; unfold liveB; rw [if_neg (by rw [e]; decide)]⟩)
  have E5 := Lib.hid (show ¬ 400 < na → ¬ 400 < nb → k3 = 0 ∧ x3 = meetT a b ∧ k4 = 0 ∧ x4 = liveT a d from fun h h' => by
    have e : meetE a b = 0 := by unfold meetE; rw [hna, hnb]; exact if_neg (by omega)
    have e' : liveE a = 0 := by unfold liveE; rw [hna]; exact if_neg h
    refine ⟨by rw [← hk3, e], ?_, by rw [← hk4, e'], ?_⟩
    · rw [← hx3]; unfold meetB; rw [if_pos e, meetT_all]
    · rw [← hx4]; unfold liveB; rw [if_pos e', liveT_any])
  have NA := Lib.hid hna
  have NB := Lib.hid hnb
  have FA := Lib.hid hAf
  have FB := Lib.hid hBf
  have N1 := Lib.hid hn1
  have N2 := Lib.hid hn2
  have mk := fun fn first cap w => (show (Instr.makeFunc fn first cap).run Try.prog w = .ok (.func fn first cap) w from rfl)
  have X0 := Lib.hid (show (W.alloc (.cells #[.int .i64 m] 3)).cell? ⟨W.heap.size, 0, none⟩ = some (.int .i64 m) from (Known.made W 3 #[.int .i64 m]).cell 0)
  have B0 := Lib.hid ((Below.refl W.heap.size W).alloc (Nat.le_refl _) (.cells #[.int .i64 m] 3))
  clear hna hA hAf hnb hB hBf hl1 hn1 hk1 hl2 hn2 hk2 hx3 hk3 hx4 hk4 hbm hbg
  go_enter Try.func3, Try.ntmps3
  go_wp2_with fail
  refine (P1.out _).mono ?_
  rintro e w1 ⟨A1, c1, rfl, hr, hb⟩
  have X1 := Lib.hid ((hb.cell (World.block_lt_of_cell? _ _ X0.out)).trans X0.out)
  have R1 := Lib.hid hr
  have B1 := Lib.hid (B0.out.trans (hb.mono B0.out.size))
  clear hr hb X0
  go_wp2_with fail
  refine (P2.out _).mono ?_
  rintro e w2 ⟨A2, c2, rfl, hr, hb⟩
  have X2 := Lib.hid ((hb.cell (World.block_lt_of_cell? _ _ X1.out)).trans X1.out)
  have R1b := Lib.hid (R1.out.below hb)
  have R2 := Lib.hid hr
  have B2 := Lib.hid (B1.out.trans (hb.mono B1.out.size))
  clear hr hb X1 R1
  go_wp2_with fail
  refine (P3.out _ (HA.out.below B2.out) (HB.out.below B2.out)).mono ?_
  rintro e w3 ⟨rfl, hb⟩
  have X3 := Lib.hid ((hb.cell (World.block_lt_of_cell? _ _ X2.out)).trans X2.out)
  have R1c := Lib.hid (R1b.out.below hb)
  have R2b := Lib.hid (R2.out.below hb)
  have B3 := Lib.hid (B2.out.trans (hb.mono B2.out.size))
  clear hb X2 R1b R2
  go_wp2_with fail
  refine (P4.out _ (HA.out.below B3.out)).mono ?_
  rintro e w4 ⟨rfl, hb⟩
  have HH := Lib.hid (show Hand W w4 m A1 l1 A2 l2 A a B b from ⟨(hb.cell (World.block_lt_of_cell? _ _ X3.out)).trans X3.out, R1c.out.below hb, R2b.out.below hb, (HA.out.below B3.out).below hb, (HB.out.below B3.out).below hb, B3.out.trans (hb.mono B3.out.size)⟩)
  clear hb X3 R1c R2b B0 B1 B2 B3 HA HB P1 P2 P3 P4
  have x0 := HH.out.box
  go_upto_region 5 with fail
  go_cut [60] (fun v wx => v = .bool bm ∧ wx = w4)
  case first => as_aux_lemma =>
    by_cases h1 : m < 1
    · have q1 : decide (m < 1) = true := decide_eq_true h1
      have EB := Lib.hid (show bm = true by rw [← HBM.out]; exact decide_eq_true (.inl h1))
      clear h1
      go_wp2_with fail
      go_meet
      exact ⟨by rw [EB.out], rfl⟩
    · have q1 : decide (m < 1) = false := decide_eq_false h1
      by_cases h2 : 10 < m
      · have q2 : decide (10 < m) = true := decide_eq_true h2
        have EB := Lib.hid (show bm = true by rw [← HBM.out]; exact decide_eq_true (.inr h2))
        clear h1 h2
        go_wp2_with fail
        go_meet
        exact ⟨by rw [EB.out], rfl⟩
      · have q2 : decide (10 < m) = false := decide_eq_false h2
        have EB := Lib.hid (show bm = false by rw [← HBM.out]; exact decide_eq_false (by omega))
        clear h1 h2
        go_wp2_with fail
        go_meet
        exact ⟨by rw [EB.out], rfl⟩
  case rest =>
    obtain ⟨rfl, hw⟩ := hcut
    subst wc
    go_upto_if 60 with fail
    clear x0
    go_cut [12] (fun v wx => v = .bool false ∧ Below w4.heap.size w4 wx)
    case first => as_aux_lemma =>
      cases bm with
      | true =>
        obtain ⟨rfl, rfl⟩ := S1.out (by trivial)
        go_wp2_with fail
        go_meet
        exact ⟨rfl, Below.refl _ _⟩
      | false =>
        obtain ⟨rfl, j, rfl, h1, h10, hri⟩ := S2.out (by trivial)
        have MS := Lib.hid (msorted_m W.heap.size (isMaj j) l1 n1 w4 hri N1.out (fun V s hs hb => clos1_c W.heap.size j s V h1 h10 hs ((hb.cell (World.block_lt_of_cell? _ _ HH.out.box)).trans HH.out.box)))
        clear hri
        go_wp2_with fail
        refine MS.out.mono ?_
        rintro e w5 ⟨A5, c5, rfl, hr, hb⟩
        have R5 := Lib.hid hr
        have B5 := Lib.hid hb
        clear hr hb
        go_wp2_with fail
        refine (equal_u _ _ l1 n1 _ _ _ N1.out (by omega) (HH.out.r1.below B5.out) R5.out).mono ?_
        rintro e w6 ⟨rfl, hb⟩
        have B6 := Lib.hid (B5.out.trans (hb.mono B5.out.size))
        clear hb
        go_wp2_with fail
        go_meet
        exact ⟨rfl, B6.out⟩
    case rest =>
      obtain ⟨rfl, hcb⟩ := hcut
      obtain ⟨w5, hw5⟩ : ∃ w : World, w = wc := ⟨_, rfl⟩
      rw [← hw5] at hcb ⊢
      have H5 := Lib.hid (HH.out.later hcb)
      clear hcb hw5 S1 S2 HBM HH
      go_upto_region 10 with fail
      go_cut [96] (fun v wx => v = .bool bg ∧ wx = w5)
      case first => as_aux_lemma =>
        by_cases h1 : r < 1
        · have q1 : decide (r < 1) = true := decide_eq_true h1
          have EB := Lib.hid (show bg = true by rw [← HBG.out]; exact decide_eq_true (.inl h1))
          clear h1
          go_wp2_with fail
          go_meet
          exact ⟨by rw [EB.out], rfl⟩
        · have q1 : decide (r < 1) = false := decide_eq_false h1
          by_cases h2 : c < 1
          · have q2 : decide (c < 1) = true := decide_eq_true h2
            have EB := Lib.hid (show bg = true by rw [← HBG.out]; exact decide_eq_true (.inr (.inl h2)))
            clear h1 h2
            go_wp2_with fail
            go_meet
            exact ⟨by rw [EB.out], rfl⟩
          · have q2 : decide (c < 1) = false := decide_eq_false h2
            by_cases h3 : 16 < r
            · have q3 : decide (16 < r) = true := decide_eq_true h3
              have EB := Lib.hid (show bg = true by rw [← HBG.out]; exact decide_eq_true (.inr (.inr (.inl h3))))
              clear h1 h2 h3
              go_wp2_with fail
              go_meet
              exact ⟨by rw [EB.out], rfl⟩
            · have q3 : decide (16 < r) = false := decide_eq_false h3
              by_cases h4 : 16 < c
              · have q4 : decide (16 < c) = true := decide_eq_true h4
                have EB := Lib.hid (show bg = true by rw [← HBG.out]; exact decide_eq_true (.inr (.inr (.inr (.inl h4)))))
                clear h1 h2 h3 h4
                go_wp2_with fail
                go_meet
                exact ⟨by rw [EB.out], rfl⟩
              · have q4 : decide (16 < c) = false := decide_eq_false h4
                obtain ⟨i, rfl⟩ : ∃ i : Nat, r = i := ⟨r.toNat, by omega⟩
                obtain ⟨j, rfl⟩ : ∃ j : Nat, c = j := ⟨c.toNat, by omega⟩
                obtain ⟨N, hN⟩ : ∃ N, N = i * j := ⟨_, rfl⟩
                have e2 : (i : Int) * (j : Int) = (N : Int) := by rw [hN]; exact (Int.natCast_mul i j).symm
                have NB4 : N ≤ 16 * 16 := by rw [hN]; exact Nat.mul_le_mul (by omega) (by omega)
                have w1 : IntKind.i64.wrap (N : Int) = (N : Int) := IntWalk.i64_in _ (by omega)
                by_cases h5 : 16 < N
                · have q5 : decide ((16 : Int) < (N : Int)) = true := decide_eq_true (by omega)
                  have q5n : decide (16 < N) = true := decide_eq_true h5
                  have EB := Lib.hid (show bg = true by rw [← HBG.out]; exact decide_eq_true (.inr (.inr (.inr (.inr (by rw [e2]; omega))))))
                  clear h1 h2 h3 h4 h5 hN
                  go_wp2_with fail
                  go_meet
                  exact ⟨by rw [EB.out], rfl⟩
                · have q5 : decide ((16 : Int) < (N : Int)) = false := decide_eq_false (by omega)
                  have q5n : decide (16 < N) = false := decide_eq_false h5
                  have EB := Lib.hid (show bg = false by rw [← HBG.out]; exact decide_eq_false (by rw [e2]; omega))
                  clear h1 h2 h3 h4 h5 hN
                  go_wp2_with fail
                  go_meet
                  exact ⟨by rw [EB.out], rfl⟩
      case rest =>
        obtain ⟨rfl, hw⟩ := hcut
        subst wc
        go_upto_if 96 with fail
        go_cut [12] (fun v wx => v = .bool false ∧ Below w5.heap.size w5 wx)
        case first => as_aux_lemma =>
          cases bg with
          | true =>
            obtain ⟨rfl, rfl⟩ := G1.out (by trivial)
            go_wp2_with fail
            go_meet
            exact ⟨rfl, Below.refl _ _⟩
          | false =>
            obtain ⟨rfl, i, j, rfl, rfl, hi, hj, hN, hri⟩ := G2.out (by trivial)
            obtain ⟨N, hN'⟩ : ∃ N, N = i * j := ⟨_, rfl⟩
            have e2 : (i : Int) * (j : Int) = (N : Int) := by rw [hN']; exact (Int.natCast_mul i j).symm
            have N16 : N ≤ 16 := by rw [hN']; exact hN
            have iU : i ≤ 16 := Nat.le_trans (Nat.le_mul_of_pos_right i (by omega)) hN
            have jU : j ≤ 16 := Nat.le_trans (Nat.le_mul_of_pos_left j (by omega)) hN
            have wN : IntKind.i64.wrap (N : Int) = (N : Int) := IntWalk.i64_in _ (by omega)
            have RI := Lib.hid hri
            have hmm := @run_makeMap Try.prog
            have M0 := Lib.hid ((BMap.made w5).alloc (.cells #[.map (some w5.heap.size)] 36))
            have K0 := Known.made (w5.alloc (.map #[] 0)) 36 #[.map (some w5.heap.size)]
            simp only [World.size_alloc] at K0
            have KK := Lib.hid K0
            have B0 := Lib.hid (show Below w5.heap.size w5 ((w5.alloc (.map #[] 0)).alloc (.cells #[.map (some w5.heap.size)] 36)) from ((Below.refl _ _).alloc (Nat.le_refl _) _).alloc (by simp) _)
            have j0 : ((j : Int) == 0) = false := by simp; omega
            have j0n : ¬ j = 0 := by omega
            have HIJ := Lib.hid (show i * j ≤ 16 from hN)
            have HNN := Lib.hid hN'
            clear K0 hri hN hN'
            go_wp2
            clear hmm
            go_loopw [108] (fun i_ wr => ∃ k : Nat, k ≤ N ∧ i_ = .int .i64 k ∧ BMap wr w5.heap.size (grdf i j k) k ∧ Known wr (w5.heap.size + 1) 36 #[.map (some w5.heap.size)] ∧ Below w5.heap.size w5 wr) (fun i_ _ => N - (intOf i_).toNat)
            case atStart => exact ⟨0, by omega, rfl, M0.out.congr (fun s _ => (grdf_zero i j s).symm), KK.out, B0.out⟩
            case round =>
              obtain ⟨k, hk, rfl, hM, hK, hB⟩ := hrel
              have MM := Lib.hid hM
              have K1 := Lib.hid hK
              have BB := Lib.hid hB
              have x1 := hK.cell 0
              clear M0 KK B0 hM hK hB
              by_cases hlt : k < N
              · have i1 : (k : Int) < (N : Int) := by omega
                obtain ⟨e, he⟩ : ∃ e, e = k % j := ⟨_, rfl⟩
                obtain ⟨g, hg⟩ : ∃ g, g = k / j := ⟨_, rfl⟩
                have ej : e < j := by rw [he]; exact Nat.mod_lt k (by omega)
                have gk : g ≤ k := by rw [hg]; exact Nat.div_le_self k j
                obtain ⟨gc, hgc⟩ : ∃ gc, gc = g * j := ⟨_, rfl⟩
                have gk2 : gc ≤ k := by rw [hgc, hg]; exact Nat.div_mul_le_self k j
                have tm : (k : Int).tmod (j : Int) = (e : Int) := by rw [Int.tmod_eq_emod_of_nonneg (by omega), he, Int.natCast_emod]
                have tm2 : (k : Int) % (j : Int) = (e : Int) := by rw [he, Int.natCast_emod]
                have td : (k : Int).tdiv (j : Int) = (g : Int) := by rw [Int.tdiv_eq_ediv_of_nonneg (by omega), hg, Int.natCast_ediv]
                have td2 : (k : Int) / (j : Int) = (g : Int) := by rw [hg, Int.natCast_ediv]
                have mg : (g : Int) * (j : Int) = (gc : Int) := by rw [hgc]; exact (Int.natCast_mul g j).symm
                have wg : IntKind.i64.wrap (g : Int) = (g : Int) := IntWalk.i64_in _ (by omega)
                have wgc : IntKind.i64.wrap (gc : Int) = (gc : Int) := IntWalk.i64_in _ (by omega)
                have RT := Lib.hid (fun y (hy : y ≤ j) => show rowTo i j e gc y < 65536 by rw [he, hgc, hg]; exact rowTo_lt (by omega) (by rw [← HNN.out]; exact hlt) hy HIJ.out)
                have RA := Lib.hid (show rowTo i j e gc j = gset i j k by rw [he, hgc, hg]; exact rowTo_all i j k)
                obtain ⟨wo, hwo⟩ : ∃ wo : World, wo = wr := ⟨_, rfl⟩
                rw [← hwo] at MM K1 BB x1 ⊢
                clear hwo he hg hgc
                have GJ := Lib.hid (show gc + j ≤ 16 ∨ True from .inr trivial)
                go_wp2
                go_loopw [23, 112] (fun v_ x_ wq => ∃ x : Nat, x ≤ i ∧ x_ = .int .i64 x ∧ v_ = .int .u16 (colTo j e x : Nat) ∧ wq = wo) (fun _ x_ _ => i - (intOf x_).toNat)
                case atStart => exact ⟨0, by omega, rfl, rfl, rfl⟩
                case round =>
                  obtain ⟨x, hx, rfl, rfl, hw⟩ := hrel
                  subst wr
                  by_cases hlx : x < i
                  · have i2 : (x : Int) < (i : Int) := by omega
                    obtain ⟨xc, hxc⟩ : ∃ xc, xc = x * j := ⟨_, rfl⟩
                    have mx : (x : Int) * (j : Int) = (xc : Int) := by rw [hxc]; exact (Int.natCast_mul x j).symm
                    have pl := place_lt ej hlx HIJ.out
                    rw [← hxc] at pl
                    have wx : IntKind.i64.wrap (xc : Int) = (xc : Int) := IntWalk.i64_in _ (by omega)
                    obtain ⟨jj, hjj⟩ : ∃ jj, jj = xc + e := ⟨_, rfl⟩
                    have wj : IntKind.i64.wrap ((xc : Int) + (e : Int)) = (jj : Int) := by rw [show (xc : Int) + (e : Int) = (jj : Int) by omega]; exact IntWalk.i64_in _ (by omega)
                    have jj16 : jj < 16 := by omega
                    obtain ⟨q, hq⟩ : ∃ q, q = 2 ^ jj := ⟨_, rfl⟩
                    have w16' : IntKind.u16.wrap (2 ^ jj) = (q : Int) := by rw [hq]; exact shl16 jj16
                    have q16 : q < 65536 := by rw [hq]; exact pow16 jj16
                    obtain ⟨s0, hs0⟩ : ∃ s0, s0 = colTo j e x := ⟨_, rfl⟩
                    obtain ⟨s1, hs1⟩ : ∃ s1, s1 = colTo j e (x + 1) := ⟨_, rfl⟩
                    have or1 : bits .or .u16 (s0 : Int) (q : Int) = (s1 : Int) := by
                      rw [or16 (by rw [hs0]; exact colTo_lt ej (by omega) HIJ.out) q16, hs1, ← colTo_step, ← hxc, ← hjj, ← hq, ← hs0]
                    rw [← hs0]
                    have HS1 := Lib.hid hs1
                    clear hxc hjj hq hs0 hs1 q16
                    go_wp2
                    go_roundw
                    case rel => exact ⟨x + 1, by omega, by go_num, by rw [← HS1.out], by trivial⟩
                    case measure => simp [intOf]; omega
                  · obtain rfl : x = i := by omega
                    have R0 := Lib.hid (rowTo_zero x j e gc)
                    rw [← R0.out]
                    go_wp2
                    go_loopw [23, 127] (fun v_ y_ wq => ∃ y : Nat, y ≤ j ∧ y_ = .int .i64 y ∧ v_ = .int .u16 (rowTo x j e gc y : Nat) ∧ wq = wo) (fun _ y_ _ => j - (intOf y_).toNat)
                    case atStart => exact ⟨0, by omega, rfl, rfl, rfl⟩
                    case round =>
                      obtain ⟨y, hy, rfl, rfl, hw2⟩ := hrel
                      subst wr
                      by_cases hly : y < j
                      · have i3 : (y : Int) < (j : Int) := by omega
                        obtain ⟨jj, hjj⟩ : ∃ jj, jj = gc + y := ⟨_, rfl⟩
                        have j16 : jj < 16 := by
                          have h1 := RT.out (y + 1) (by omega)
                          rw [← rowTo_step, ← hjj] at h1
                          refine Nat.lt_of_not_le fun hge => ?_
                          have h2 : 2 ^ 16 ≤ 2 ^ jj := Nat.pow_le_pow_right (by decide) hge
                          have h3 : 2 ^ jj ≤ rowTo x j e gc y ||| 2 ^ jj := Nat.right_le_or
                          omega
                        have wj : IntKind.i64.wrap ((gc : Int) + (y : Int)) = (jj : Int) := by rw [show (gc : Int) + (y : Int) = (jj : Int) by omega]; exact IntWalk.i64_in _ (by omega)
                        obtain ⟨q, hq⟩ : ∃ q, q = 2 ^ jj := ⟨_, rfl⟩
                        have w16' : IntKind.u16.wrap (2 ^ jj) = (q : Int) := by rw [hq]; exact shl16 j16
                        have q16 : q < 65536 := by rw [hq]; exact pow16 j16
                        obtain ⟨s0, hs0⟩ : ∃ s0, s0 = rowTo x j e gc y := ⟨_, rfl⟩
                        obtain ⟨s1, hs1⟩ : ∃ s1, s1 = rowTo x j e gc (y + 1) := ⟨_, rfl⟩
                        have or1 : bits .or .u16 (s0 : Int) (q : Int) = (s1 : Int) := by
                          rw [or16 (by rw [hs0]; exact RT.out y (by omega)) q16, hs1, ← rowTo_step, ← hjj, ← hq, ← hs0]
                        rw [← hs0]
                        have HS1 := Lib.hid hs1
                        clear hjj hq hs0 hs1 q16
                        go_wp2
                        go_roundw
                        case rel => exact ⟨y + 1, by omega, by go_num, by rw [← HS1.out], by trivial⟩
                        case measure => simp [intOf]; omega
                      · obtain rfl : y = j := by omega
                        have sf := RT.out y (Nat.le_refl _)
                        rw [RA.out] at sf ⊢
                        have GS := Lib.hid (fun s => grdf_step x y k s)
                        obtain ⟨s, hs⟩ : ∃ s, s = gset x y k := ⟨_, rfl⟩
                        rw [← hs] at sf GS ⊢
                        clear hs
                        go_wp2_with (refine wpList_update_b rfl _ _ _ (by rfl) MM.out (by unfold maxLen; omega) s sf true rfl rfl rfl ?_; intro V hS hG; have M2 := Lib.hid (hS.congr (fun z _ => GS.out z)); have B2 := Lib.hid (BB.out.grown hG BB.out.size (fun k hk => by injection hk with hk; subst hk; exact Nat.le_refl _)); have K2 := Lib.hid (show Known V (w5.heap.size + 1) 36 #[.map (some w5.heap.size)] from (hG.block _ K1.out.lt (by simp)).trans K1.out); clear hS hG)
                        go_roundw
                        case rel => exact ⟨k + 1, by omega, by go_num, M2.out, K2.out, B2.out⟩
                        case measure => simp [intOf]; omega
              · obtain rfl : k = N := by omega
                have MA := Lib.hid (show BMap wr w5.heap.size (isGrid i j) k by rw [HNN.out] at MM ⊢; exact MM.out)
                have MS := Lib.hid (msorted_g (w5.heap.size + 1) (isGrid i j) l2 n2 wr RI.out N2.out (fun V s hs hb => clos2_c (w5.heap.size + 1) w5.heap.size (isGrid i j) k s V hs ((K1.out.later hb).cell 0) (MA.out.later hb)))
                go_wp2_with fail
                refine MS.out.mono ?_
                rintro e w7 ⟨A7, c7, rfl, hr, hb⟩
                have R7 := Lib.hid hr
                have B7 := Lib.hid (BB.out.trans (hb.mono BB.out.size))
                clear hr hb
                go_wp2_with fail
                refine (equal_u _ _ l2 n2 _ _ _ N2.out (by omega) (H5.out.r2.below B7.out) R7.out).mono ?_
                rintro e w8 ⟨rfl, hb⟩
                have B8 := Lib.hid (B7.out.trans (hb.mono B7.out.size))
                clear hb
                go_wp2_with fail
                go_meet
                exact ⟨rfl, B8.out⟩
        case rest =>
          obtain ⟨rfl, hcb⟩ := hcut
          obtain ⟨w6, hw6⟩ : ∃ w : World, w = wc := ⟨_, rfl⟩
          rw [← hw6] at hcb ⊢
          have H6 := Lib.hid (H5.out.later hcb)
          clear hcb hw6 G1 G2 HBG H5
          by_cases h3 : 400 < na
          · obtain ⟨rfl, rfl⟩ := E3.out (.inl h3)
            obtain ⟨rfl, rfl⟩ := E4.out h3
            have q1 : decide (400 < na) = true := decide_eq_true h3
            have q2 : decide (na ≤ 400) = false := decide_eq_false (by omega)
            have i1 : (400 : Int) < (na : Int) := by omega
            have i2 : ¬ (na : Int) ≤ (400 : Int) := by omega
            clear h3
            go_wp2_with fail
            go_ret
            exact ⟨rfl, H6.out.below⟩
          · by_cases h4 : 400 < nb
            · obtain ⟨rfl, rfl⟩ := E3.out (.inr h4)
              have q1 : decide (400 < na) = false := decide_eq_false h3
              have q2 : decide (na ≤ 400) = true := decide_eq_true (by omega)
              have q3 : decide (400 < nb) = true := decide_eq_true h4
              have i1 : ¬ (400 : Int) < (na : Int) := by omega
              have i2 : (na : Int) ≤ (400 : Int) := by omega
              have i3 : (400 : Int) < (nb : Int) := by omega
              clear h3 h4
              go_wp2_with fail
              go_ret
              exact ⟨rfl, H6.out.below⟩
            · as_aux_lemma =>
              obtain ⟨rfl, e3, rfl, e4⟩ := E5.out h3 h4
              have X3' := Lib.hid e3
              have X4' := Lib.hid e4
              have q1 : decide (400 < na) = false := decide_eq_false h3
              have q3 : decide (400 < nb) = false := decide_eq_false h4
              have i1 : ¬ (400 : Int) < (na : Int) := by omega
              have i3 : ¬ (400 : Int) < (nb : Int) := by omega
              clear e3 e4 E3 E4 E5
              go_wp2_with fail
              clear q1 q3 i1 i3
              go_loopw [26, 27, 182] (fun v26 v27 i_ wr => ∃ k : Nat, k ≤ na ∧ i_ = .int .i64 k ∧ v26 = .bool (meetT (a.take k) b) ∧ v27 = .bool (liveT (a.take k) d) ∧ Hand W wr m A1 l1 A2 l2 A a B b) (fun _ _ i_ _ => na - (intOf i_).toNat)
              case atStart => exact ⟨0, by omega, rfl, rfl, rfl, H6.out⟩
              case round =>
                obtain ⟨k, hk, rfl, rfl, rfl, hH⟩ := hrel
                have HK := Lib.hid hH
                clear hH
                by_cases hlt : k < na
                · have kl : k < a.length := by rw [NA.out]; exact hlt
                  obtain ⟨x, hx⟩ : ∃ x, a[k]? = some x := ⟨_, List.getElem?_eq_getElem kl⟩
                  obtain ⟨b1, o1, rfl, _, y1⟩ := Reads.at16 HK.out.ra hx
                  have x16 : x < 65536 := FA.out x (List.mem_of_getElem? hx)
                  have MT := Lib.hid (meetT_step (b := b) hx)
                  have LT := Lib.hid (liveT_step (d := d) hx)
                  obtain ⟨M, hM⟩ : ∃ M, M = meetT (a.take k) b := ⟨_, rfl⟩
                  obtain ⟨L, hL⟩ : ∃ L, L = liveT (a.take k) d := ⟨_, rfl⟩
                  rw [← hM] at MT ⊢
                  rw [← hL] at LT ⊢
                  have i1 : (k : Int) < (na : Int) := by omega
                  clear kl hx hM hL
                  go_wp2_with fail
                  clear y1
                  go_loopw [26, 188] (fun v26 i_ wq => ∃ j : Nat, j ≤ nb ∧ i_ = .int .i64 j ∧ v26 = .bool (M && rowB x (b.take j)) ∧ Hand W wq m A1 l1 A2 l2 (some ⟨b1, o1, none⟩) a B b) (fun _ i_ _ => nb - (intOf i_).toNat)
                  case atStart => exact ⟨0, by omega, rfl, by simp [rowB], HK.out⟩
                  case round =>
                    obtain ⟨j, hj, rfl, rfl, hH⟩ := hrel
                    have HJ := Lib.hid hH
                    clear hH
                    by_cases hlj : j < nb
                    · have jl : j < b.length := by rw [NB.out]; exact hlj
                      obtain ⟨y, hy⟩ : ∃ y, b[j]? = some y := ⟨_, List.getElem?_eq_getElem jl⟩
                      obtain ⟨b2, o2, rfl, _, z1⟩ := Reads.at16 HJ.out.rb hy
                      have y16 : y < 65536 := FB.out y (List.mem_of_getElem? hy)
                      have RS := Lib.hid (rowB_step (x := x) hy)
                      obtain ⟨R, hR⟩ : ∃ R, R = rowB x (b.take j) := ⟨_, rfl⟩
                      rw [← hR] at RS ⊢
                      have j1 : (j : Int) < (nb : Int) := by omega
                      clear jl hy hR
                      obtain ⟨Q, hQ⟩ : ∃ Q, Q = (M && R) := ⟨_, rfl⟩
                      have HQ := Lib.hid hQ
                      rw [← hQ]
                      clear hQ
                      cases Q with
                      | true =>
                        obtain ⟨z, hz⟩ : ∃ z, share x y = z := ⟨_, rfl⟩
                        have HZ := Lib.hid hz
                        clear hz
                        go_wp2_with fail
                        refine (mshare_c x y _ x16 y16 z HZ.out).mono ?_
                        rintro e w7 ⟨rfl, hb⟩
                        have HJ2 := Lib.hid (HJ.out.later hb)
                        clear hb z1
                        go_wp2_with fail
                        go_roundw
                        case rel => exact ⟨j + 1, by omega, by go_num, by rw [RS.out, HZ.out, ← Bool.and_assoc, ← HQ.out, Bool.true_and], HJ2.out⟩
                        case measure => simp [intOf]; omega
                      | false =>
                        go_wp2_with fail
                        go_roundw
                        case rel => exact ⟨j + 1, by omega, by go_num, by rw [RS.out, ← Bool.and_assoc, ← HQ.out, Bool.false_and], HJ.out⟩
                        case measure => simp [intOf]; omega
                    · obtain rfl : j = nb := by omega
                      have EJ := Lib.hid (show (M && rowB x (b.take j)) = meetT (a.take (k + 1)) b by rw [MT.out, List.take_of_length_le (by rw [NB.out]; omega)])
                      rw [EJ.out]
                      obtain ⟨M', hM'⟩ : ∃ M', M' = meetT (a.take (k + 1)) b := ⟨_, rfl⟩
                      rw [← hM'] at EJ ⊢
                      have HM' := Lib.hid hM'
                      clear hM'
                      cases L with
                      | true =>
                        go_wp2_with fail
                        go_roundw
                        case rel => exact ⟨k + 1, by omega, by go_num, by rw [← HM'.out], by rw [LT.out, Bool.true_or], HJ.out⟩
                        case measure => simp [intOf]; omega
                      | false =>
                        obtain ⟨z, hz⟩ : ∃ z, share x d = z := ⟨_, rfl⟩
                        have HZ := Lib.hid hz
                        clear hz
                        go_wp2_with fail
                        refine (mshare_c x d _ x16 hd z HZ.out).mono ?_
                        rintro e w7 ⟨rfl, hb⟩
                        have HJ2 := Lib.hid (HJ.out.later hb)
                        clear hb
                        go_wp2_with fail
                        go_roundw
                        case rel => exact ⟨k + 1, by omega, by go_num, by rw [← HM'.out], by rw [LT.out, HZ.out, Bool.false_or], HJ2.out⟩
                        case measure => simp [intOf]; omega
                · obtain rfl : k = na := by omega
                  rw [List.take_of_length_le (show a.length ≤ k by rw [NA.out]; omega), ← X3'.out, ← X4'.out]
                  clear X3' X4'
                  cases x3
                  all_goals
                    cases x4
                    all_goals
                      go_wp2_with fail
                      go_ret
                      exact ⟨rfl, HK.out.below⟩
end Go.Proofs.Yteggbepibfpjcaa.Qr
