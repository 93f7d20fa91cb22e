/-
  Package pair: Who.
-/
import Derived.Test.YtpjopdemhdeelaaPrD
namespace Go.Proofs.Ytpjopdemhdeelaa.Pair
set_option linter.unusedVariables false
open Go.RowKit Gf Mem Poly Cdr
attribute [local go_sem] xor8_nat
attribute [local go_sem ↓] Go.wp_at_zero Go.wp_at_succ

theorem fit_col {rows : List (List UInt8)} {n : Nat} (F : Fit rows n) (i : Nat) : Fit (colRows rows i) 1 := ⟨by rw [colRows_len]; exact F.pos, by rw [colRows_len]; exact F.few, colRows_even, by omega⟩
theorem sum_col {rows : List (List UInt8)} {n : Nat} (F : Fit rows n) (i : Nat) (A : Option Addr) (c : Nat) (W : World) (hR : Rds W A (colRows rows i)) : Calls Try.prog 23 #[.slice A rows.length c, .slice none 0 0] W (NewRowN [sumAt 1 rows i] 1 W) := by
  have h := sum_all A (colRows rows i) c 1 (fit_col F i) W hR
  rwa [par_colRows F.pos, colRows_len] at h
theorem weighted_col {rows : List (List UInt8)} {n : Nat} (F : Fit rows n) (i : Nat) (A : Option Addr) (c : Nat) (W : World) (hR : Rds W A (colRows rows i)) : Calls Try.prog 24 #[.slice A rows.length c, .slice none 0 0] W (NewRowN [sumAt 2 rows i] 1 W) := by
  have h := weighted_all A (colRows rows i) c 1 (fit_col F i) W hR
  rwa [par_colRows F.pos, colRows_len] at h
def WhoPost (rows : List (List UInt8)) (p q : List UInt8) (at_ : Int) (W : World) (e : Ending) (W' : World) : Prop := ∃ k err : Int, e = .returned (.tuple #[.int .i64 k, .int .i64 err]) ∧ Below W.heap.size W W' ∧ WhoIs rows p q at_ k err
theorem who_early (A P Q : Option Addr) (rows : List (List UInt8)) (p q : List UInt8) (ca cp cq : Nat) (at_ k : Int) (W : World) (hw : Calls Try.prog 32 #[.slice A rows.length ca, .slice P p.length cp, .slice Q q.length cq, .int .i64 at_] W (IntIs k W)) (hk : k = 1 ∨ k = 2)
    (hP : WhoIs rows p q at_ 0 k) : Calls Try.prog 17 #[.slice A rows.length ca, .slice P p.length cp, .slice Q q.length cq, .int .i64 at_] W (WhoPost rows p q at_ W) := by
  rcases hk with rfl | rfl
  all_goals
    have HW := Lib.hid hw
    have HP := Lib.hid hP
    clear hw hP
    go_enter Try.func17, Try.ntmps17
    go_wp2_with fail
    refine HW.out.mono ?_
    rintro e w' ⟨rfl, rfl⟩
    go_wp2_with fail
    go_ret2
    exact ⟨0, _, rfl, Below.refl _ _, HP.out⟩
theorem is0 {d : UInt8} (h : d = 0) : ((d.toNat : Int) == 0) = true := by subst h; rfl
theorem isnt0 {d : UInt8} (h : d ≠ 0) : ((d.toNat : Int) == 0) = false := by
  rw [beq_eq_false_iff_ne]; intro e; exact h (UInt8.toNat_inj.1 (by show d.toNat = 0; omega))
set_option maxRecDepth 100000 in
set_option maxHeartbeats 4000000 in
theorem who_main (A P Q : Option Addr) (rows : List (List UInt8)) (p q : List UInt8) (ca cp cq i n : Nat) (W : World) (F : Fit rows n) (hl : rows.length ≤ 5864062014805) (hpn : p.length = n) (hqn : q.length = n) (hi : i < n) (hR : Rds W A rows) (hp : Reads W P (p.map byt)) (hq : Reads W Q (q.map byt))
    (hw : Calls Try.prog 32 #[.slice A rows.length ca, .slice P n cp, .slice Q n cq, .int .i64 i] W (IntIs 0 W)) (X : Int → Int → Prop) (hX : ∀ k err, Finds rows.length (xor8 (sumAt 1 rows i) (co p i)) (xor8 (sumAt 2 rows i) (co q i)) k err → X k err) :
    Calls Try.prog 17 #[.slice A rows.length ca, .slice P n cp, .slice Q n cq, .int .i64 i] W fun e W' => ∃ k err : Int, e = .returned (.tuple #[.int .i64 k, .int .i64 err]) ∧ Below W.heap.size W W' ∧ X k err := by
  obtain ⟨bp, op, x, rfl, ex, cx⟩ := hp.bytes (k := i) (by omega)
  obtain ⟨bq, oq, y, rfl, ey, cy⟩ := hq.bytes (k := i) (by omega)
  have hbp := World.block_lt_of_cell? _ _ cx
  have hbq := World.block_lt_of_cell? _ _ cy
  rw [co_of_some ex, co_of_some ey] at hX
  have hcol := column_c A rows ca i n F.few F.even F.small hi W hR
  have hwho := fun (dx dy : UInt8) => @who_made rows.length dx dy F.few
  have h1 := fun A' c V (hV : Rds V A' (colRows rows i)) => sum_col F i A' c V hV
  have h2 := fun A' c V (hV : Rds V A' (colRows rows i)) => weighted_col F i A' c V hV
  have hdy := fun k V (h : Lies rows.length k) => isDisk_yes A rows.length ca k V h
  have hdn := fun k V (h : ¬ Lies rows.length k) => isDisk_no A rows.length ca k V h
  have hln := colRows_len rows i
  have HW := Lib.hid hw
  have HX := Lib.hid hX
  have HC := Lib.hid hcol
  have HWHO := Lib.hid hwho
  have H1 := Lib.hid h1
  have H2 := Lib.hid h2
  have HDY := Lib.hid hdy
  have HDN := Lib.hid hdn
  have HLN := Lib.hid hln
  have i1 : (i : Int) < (n : Int) := by omega
  have i2 : (0 : Int) ≤ (i : Int) := by omega
  have HSM := Lib.hid F.small
  clear hw hX hcol hwho h1 h2 hdy hdn hln hp hq hR ex ey hpn hqn F
  generalize hN : rows.length = l at *
  clear hN
  go_enter Try.func17, Try.ntmps17
  go_wp2_with fail
  refine HW.out.mono ?_
  rintro e w' ⟨rfl, rfl⟩
  go_wp2_with fail
  refine HC.out.mono ?_
  rintro e w1 ⟨A1, c1, rfl, hc1, hR1, hB1⟩
  rw [HLN.out]
  have R1 := Lib.hid hR1
  have B1 := Lib.hid hB1
  have cx1 : w1.cell? ⟨bp, op + i, none⟩ = some (.int .u8 (x.toNat : Int)) := (hB1.cell (p := ⟨bp, op + i, none⟩) hbp).trans cx
  have cy1 : w1.cell? ⟨bq, oq + i, none⟩ = some (.int .u8 (y.toNat : Int)) := (hB1.cell (p := ⟨bq, oq + i, none⟩) hbq).trans cy
  have hbp1 : bp < w1.heap.size := Nat.lt_of_lt_of_le hbp hB1.size
  have hbq1 : bq < w1.heap.size := Nat.lt_of_lt_of_le hbq hB1.size
  have HS1 := Lib.hid (H1.out A1 c1 w1.drew (hR1.drawn ⟨1, rfl⟩))
  clear hR1 hB1 hc1 cx cy
  go_upto_region 5 with fail
  go_cut [12] (fun v wx => v = .int .u8 ((xor8 (sumAt 1 rows i) x).toNat : Int) ∧ Below w1.heap.size w1 wx)
  case first =>
    go_region_with (first | (go_at_call 23; refine HS1.out.mono ?_; rintro e w2 ⟨g2, rfl, hg2, hO2, hB2⟩; have c02 := hO2.at_ (k := 0) rfl; have cx2 := (hB2.cell (p := ⟨bp, op + i, none⟩) hbp1).trans cx1))
    all_goals go_wp2_with fail
    all_goals go_meet
    all_goals exact ⟨rfl, (below_drew (Below.refl _ _)).trans hB2⟩
  case rest =>
    obtain ⟨rfl, hB2⟩ := hcut
    obtain ⟨w2, rfl⟩ : ∃ w : World, w = wc := ⟨_, rfl⟩
    have hbq2 : bq < w2.heap.size := Nat.lt_of_lt_of_le hbq1 hB2.size
    have cy2 : w2.cell? ⟨bq, oq + i, none⟩ = some (.int .u8 (y.toNat : Int)) := (hB2.cell (p := ⟨bq, oq + i, none⟩) hbq1).trans cy1
    have HS2 := Lib.hid (H2.out A1 c1 w2.drew ((R1.out.below hB2).drawn ⟨1, rfl⟩))
    have B2 := Lib.hid (B1.out.trans (hB2.mono B1.out.size))
    clear hB2 cy1 cx1 HS1
    go_upto_region 6 with fail
    go_cut [13] (fun v wx => v = .int .u8 ((xor8 (sumAt 2 rows i) y).toNat : Int) ∧ Below w2.heap.size w2 wx)
    case first =>
      go_region_with (first | (go_at_call 24; refine HS2.out.mono ?_; rintro e w3 ⟨g3, rfl, hg3, hO3, hB3⟩; have c03 := hO3.at_ (k := 0) rfl; have cy3 := (hB3.cell (p := ⟨bq, oq + i, none⟩) hbq2).trans cy2))
      all_goals go_wp2_with fail
      all_goals go_meet
      all_goals exact ⟨rfl, (below_drew (Below.refl _ _)).trans hB3⟩
    case rest =>
      obtain ⟨rfl, hB3⟩ := hcut
      have B3 := Lib.hid (B2.out.trans (hB3.mono B2.out.size))
      have HX2 := Lib.hid (fun k err => HX.out k err)
      have HWHO2 := Lib.hid (HWHO.out (xor8 (sumAt 1 rows i) x) (xor8 (sumAt 2 rows i) y))
      clear hB3 cy2 HS2 HX HWHO
      generalize xor8 (sumAt 1 rows i) x = dx at *
      generalize xor8 (sumAt 2 rows i) y = dy at *
      by_cases hx : dx = 0
      · by_cases hy : dy = 0
        · have hf := HX2.out 0 3 (.inl ⟨hx, hy, rfl, rfl⟩)
          have HF := Lib.hid hf
          have t1 := is0 hx
          have t2 := is0 hy
          clear hf hx hy
          go_wp2
          go_ret2
          exact ⟨0, 3, rfl, B3.out, HF.out⟩
        · have hf := HX2.out (-2) 0 (.inr (.inr (.inl ⟨hx, hy, rfl, rfl⟩)))
          have HF := Lib.hid hf
          have t1 := is0 hx
          have t2 := isnt0 hy
          clear hf hx hy
          go_wp2
          go_ret2
          exact ⟨-2, 0, rfl, B3.out, HF.out⟩
      · by_cases hy : dy = 0
        · have hf := HX2.out (-1) 0 (.inr (.inl ⟨hx, hy, rfl, rfl⟩))
          have HF := Lib.hid hf
          have t1 := isnt0 hx
          have t2 := is0 hy
          clear hf hx hy
          go_wp2
          go_ret2
          exact ⟨-1, 0, rfl, B3.out, HF.out⟩
        · have t1 := isnt0 hx
          have t2 := isnt0 hy
          obtain ⟨q1, q2⟩ := HWHO2.out hx hy
          have HCO := Lib.hid (fun V => corrupt_c dx dy hx hy V)
          clear hx hy
          generalize log (mul dy (inv dx)) = k at *
          by_cases hk : k < l
          · have HF := Lib.hid (HX2.out k 0 (q1 hk))
            have HI := Lib.hid (fun V => HDY.out (k : Int) V ⟨by omega, by omega⟩)
            clear q1 q2
            go_wp2_with (first | ((with_reducible refine (HCO.out _).mono ?_); rintro e w' ⟨rfl, rfl⟩) | ((with_reducible refine (HI.out _).mono ?_); rintro e w' ⟨rfl, rfl⟩))
            go_ret2
            exact ⟨k, 0, rfl, B3.out, HF.out⟩
          · have HF := Lib.hid (HX2.out 0 7 (q2 hk))
            have HI := Lib.hid (fun V => HDN.out (k : Int) V (fun h => hk (by have := h.2; omega)))
            clear q1 q2
            go_wp2_with (first | ((with_reducible refine (HCO.out _).mono ?_); rintro e w' ⟨rfl, rfl⟩) | ((with_reducible refine (HI.out _).mono ?_); rintro e w' ⟨rfl, rfl⟩))
            go_ret2
            exact ⟨0, 7, rfl, B3.out, HF.out⟩
theorem who_c : WhoSpec := by
  intro A P Q rows p q ca cp cq at_ W hs hc hpl hcp hql hcq wa hR hp hq
  have hw := wrongWho_c A P Q rows ca p.length cp q.length cq at_ hs.1 W hR
  by_cases h : wrongE rows = 0
  · by_cases hn : p.length = wide rows ∧ q.length = wide rows
    · by_cases hL : Lies (wide rows) at_
      · rw [show whoE rows p.length q.length at_ = 0 by unfold whoE; rw [if_neg (by simpa using h), if_neg (fun k => k hn), if_neg (fun k => k hL)]] at hw
        obtain ⟨i, rfl⟩ : ∃ i : Nat, at_ = i := ⟨at_.toNat, by have := hL.1; omega⟩
        rw [hn.1, hn.2] at hw ⊢
        refine (who_main A P Q rows p q ca cp cq i (wide rows) W (fit_of hs h) hs.1 hn.1 hn.2 (by have := hL.2; omega) hR hp hq hw (WhoIs rows p q i) (fun k err hf => .inr (.inr (.inr ⟨h, hn.1, hn.2, hL, by rw [Int.toNat_natCast]; exact hf⟩))))
      · rw [show whoE rows p.length q.length at_ = 2 by unfold whoE; rw [if_neg (by simpa using h), if_neg (fun k => k hn), if_pos hL]] at hw
        exact who_early A P Q rows p q ca cp cq at_ 2 W hw (.inr rfl) (.inr (.inr (.inl ⟨h, hn.1, hn.2, hL, rfl, rfl⟩)))
    · rw [show whoE rows p.length q.length at_ = 1 by unfold whoE; rw [if_neg (by simpa using h), if_pos hn]] at hw
      exact who_early A P Q rows p q ca cp cq at_ 1 W hw (.inl rfl) (.inr (.inl ⟨h, hn, rfl, rfl⟩))
  · rw [show whoE rows p.length q.length at_ = wrongE rows by unfold whoE; rw [if_pos h]] at hw
    exact who_early A P Q rows p q ca cp cq at_ _ W hw (by rcases wrongE_012 rows with k | k | k <;> omega) (.inl ⟨h, rfl, rfl⟩)
end Go.Proofs.Ytpjopdemhdeelaa.Pair
