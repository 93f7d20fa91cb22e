/-
  Package pair: Wrong, isDisk, wrongOne, wrongTwo, wrongWho.
-/
import Derived.Test.YtpjopdemhdeelaaPrPure
namespace Go.Proofs.Ytpjopdemhdeelaa.Pair
set_option linter.unusedVariables false
open Go.RowKit Gf Mem Poly Cdr

def IntIs (k : Int) (W : World) (e : Ending) (W' : World) : Prop := e = .returned (.int .i64 k) ∧ W = W'
theorem wrongE_012 (rows : List (List UInt8)) : wrongE rows = 0 ∨ wrongE rows = 1 ∨ wrongE rows = 2 := by
  unfold wrongE; split
  · exact .inr (.inr rfl)
  · split
    · exact .inl rfl
    · exact .inr (.inl rfl)
set_option maxHeartbeats 2000000 in
theorem wrong_w (A : Option Addr) (rows : List (List UInt8)) (ca : Nat) (hl : rows.length ≤ 5864062014805) (W : World) (hR : Rds W A rows) :
    Calls Try.prog 13 #[.slice A rows.length ca] W (IntIs (wrongE rows) W) := by
  by_cases h0 : rows.length < 1
  · have e : wrongE rows = 2 := by unfold wrongE; rw [if_pos (.inl (by omega))]
    have E := Lib.hid e
    have i1 : (rows.length : Int) < 1 := by omega
    clear e hR
    go_enter Try.func13, Try.ntmps13
    go_wp2
    go_ret
    exact ⟨by rw [E.out]; rfl, rfl⟩
  · by_cases h1 : 255 < rows.length
    · have e : wrongE rows = 2 := by unfold wrongE; rw [if_pos (.inr h1)]
      have E := Lib.hid e
      have i1 : ¬ (rows.length : Int) < 1 := by omega
      have i2 : (255 : Int) < (rows.length : Int) := by omega
      clear e hR
      go_enter Try.func13, Try.ntmps13
      go_wp2
      go_ret
      exact ⟨by rw [E.out]; rfl, rfl⟩
    · have i1 : ¬ (rows.length : Int) < 1 := by omega
      have i2 : ¬ (255 : Int) < (rows.length : Int) := by omega
      have hE : wrongE rows = if evenB rows then 0 else 1 := by unfold wrongE; rw [if_neg (by omega)]
      have HR := Lib.hid hR
      have HE0 := Lib.hid hE
      clear hR hE h0 h1
      generalize hN : rows.length = n at *
      have HN := Lib.hid hN
      clear hN
      go_enter Try.func13, Try.ntmps13
      go_wp2
      go_loop [15] (fun i => ∃ k : Nat, k ≤ n ∧ i = .int .i64 k ∧ (rows.take k).all (fun r => r.length == (rows.headD []).length) = true) (fun i => n - (intOf i).toNat)
      case atStart => exact ⟨0, by omega, rfl, by simp⟩
      case round =>
        obtain ⟨k, hk, rfl, hE⟩ := hrel
        have HE := Lib.hid hE
        clear hE
        by_cases hlt : k < n
        · obtain ⟨b, o, C, c, r, rfl, er, cr, lr, lc, rr⟩ := HR.out.row (k := k) (by rw [HN.out]; exact hlt)
          obtain ⟨b0, o0, C0, c0, r0, ea, er0, cr0, lr0, lc0, rr0⟩ := HR.out.row (k := 0) (by rw [HN.out]; omega)
          injection ea with ea
          injection ea with ea1 ea2
          subst ea1 ea2
          rw [Nat.add_zero] at cr0
          have HER := Lib.hid er
          have HH := Lib.hid (head_of er0)
          have j1 : (0 : Int) < (n : Int) := by omega
          have j2 : (k : Int) < (n : Int) := by omega
          clear er er0 rr rr0 lr lr0
          by_cases e : r.length = r0.length
          · have b1 : ((r.length : Int) != (r0.length : Int)) = false := by simp; omega
            have HE3 := Lib.hid e
            clear e
            go_wp2
            go_round
            case rel => exact ⟨k + 1, by omega, by go_num, even_step HE.out HER.out (by rw [HH.out]; exact HE3.out)⟩
            case measure => simp [intOf]; omega
          · have b1 : ((r.length : Int) != (r0.length : Int)) = true := by simp; omega
            have HE3 := Lib.hid e
            clear e
            go_wp2
            go_ret
            exact ⟨by rw [HE0.out, even_no HER.out (by rw [HH.out]; exact HE3.out)]; rfl, rfl⟩
        · obtain rfl : k = n := by omega
          go_wp2
          go_ret
          have h1 := HE.out
          rw [List.take_of_length_le (by rw [HN.out]; exact Nat.le_refl _)] at h1
          exact ⟨by rw [HE0.out, show evenB rows = true from h1]; rfl, rfl⟩
theorem wrong_k {k : Int} (A : Option Addr) (rows : List (List UInt8)) (ca : Nat) (hl : rows.length ≤ 5864062014805) (W : World) (hR : Rds W A rows) (h : wrongE rows = k) :
    Calls Try.prog 13 #[.slice A rows.length ca] W (IntIs k W) := h ▸ wrong_w A rows ca hl W hR

def BoolIs (b : Bool) (W : World) (e : Ending) (W' : World) : Prop := e = .returned (.bool b) ∧ W = W'
theorem isDisk_yes (A : Option Addr) (n ca : Nat) (i : Int) (W : World) (h : Lies n i) : Calls Try.prog 35 #[.slice A n ca, .int .i64 i] W (BoolIs true W) := by
  obtain ⟨h1, h2⟩ := h
  go_enter Try.func35, Try.ntmps35
  go_wp2
  go_ret
  exact ⟨rfl, rfl⟩
theorem isDisk_no (A : Option Addr) (n ca : Nat) (i : Int) (W : World) (h : ¬ Lies n i) : Calls Try.prog 35 #[.slice A n ca, .int .i64 i] W (BoolIs false W) := by
  by_cases h1 : 0 ≤ i
  · have h2 : ¬ i < (n : Int) := fun h2 => h ⟨h1, h2⟩
    clear h
    go_enter Try.func35, Try.ntmps35
    go_wp2
    go_ret
    exact ⟨rfl, rfl⟩
  · clear h
    go_enter Try.func35, Try.ntmps35
    go_wp2
    go_ret
    exact ⟨rfl, rfl⟩

/-- The first disk, where there is one. -/
theorem first_row {W : World} {A : Option Addr} {rows : List (List UInt8)} (hR : Rds W A rows) (h0 : 0 < rows.length) :
    ∃ b o C c, A = some ⟨b, o, none⟩ ∧ W.cell? ⟨b, o, none⟩ = some (.slice C (wide rows) c) ∧ wide rows ≤ c := by
  obtain ⟨b, o, C, c, r, rfl, er, cr, lr, lc, rr⟩ := hR.row (k := 0) h0
  have e : wide rows = r.length := by unfold wide; rw [head_of er]
  rw [Nat.add_zero] at cr
  exact ⟨b, o, C, c, rfl, by rw [e]; exact cr, by rw [e]; exact lr⟩

instance (n : Nat) (k : Int) : Decidable (Lies n k) := inferInstanceAs (Decidable (0 ≤ k ∧ k < n))
/-- What wrongOne answers. -/
def oneE (rows : List (List UInt8)) (lost : Int) (n : Nat) : Int := if wrongE rows ≠ 0 then wrongE rows else if ¬ Lies rows.length lost then 3 else if n ≠ wide rows then 1 else 0
set_option maxHeartbeats 1000000 in
theorem wrongOne_c (A P : Option Addr) (rows : List (List UInt8)) (ca n cp : Nat) (lost : Int) (hl : rows.length ≤ 5864062014805) (W : World) (hR : Rds W A rows) :
    Calls Try.prog 25 #[.slice A rows.length ca, .int .i64 lost, .slice P n cp] W (IntIs (oneE rows lost n) W) := by
  have hw := wrong_w A rows ca hl W hR
  rcases wrongE_012 rows with h | h | h
  · by_cases hL : Lies rows.length lost
    · have hi := isDisk_yes A rows.length ca lost W hL
      obtain ⟨h0, _, _⟩ := wrongE_ok h
      obtain ⟨b, o, C, c, rfl, cr, _⟩ := first_row hR h0
      have i1 : (0 : Int) < (rows.length : Int) := by omega
      rw [h] at hw
      have HI := Lib.hid hi
      have HW := Lib.hid hw
      by_cases hn : n = wide rows
      · have e : oneE rows lost n = 0 := by unfold oneE; rw [if_neg (by simpa using h), if_neg (fun k => k hL), if_neg (by simpa using hn)]
        have b1 : ((n : Int) != (wide rows : Int)) = false := by simp; omega
        rw [e]
        clear hw hi e hn h hL hR
        generalize rows.length = m at *
        generalize wide rows = L at *
        go_enter Try.func25, Try.ntmps25
        go_wp2_with (first | ((with_reducible refine HW.out.mono ?_); rintro e w' ⟨rfl, rfl⟩) | ((with_reducible refine HI.out.mono ?_); rintro e w' ⟨rfl, rfl⟩))
        go_ret
        exact ⟨rfl, rfl⟩
      · have e : oneE rows lost n = 1 := by unfold oneE; rw [if_neg (by simpa using h), if_neg (fun k => k hL), if_pos hn]
        have b1 : ((n : Int) != (wide rows : Int)) = true := by simp; omega
        rw [e]
        clear hw hi e hn h hL hR
        generalize rows.length = m at *
        generalize wide rows = L at *
        go_enter Try.func25, Try.ntmps25
        go_wp2_with (first | ((with_reducible refine HW.out.mono ?_); rintro e w' ⟨rfl, rfl⟩) | ((with_reducible refine HI.out.mono ?_); rintro e w' ⟨rfl, rfl⟩))
        go_ret
        exact ⟨rfl, rfl⟩
    · have hi := isDisk_no A rows.length ca lost W hL
      have e : oneE rows lost n = 3 := by unfold oneE; rw [if_neg (by simpa using h), if_pos hL]
      rw [h] at hw
      rw [e]
      have HI := Lib.hid hi
      have HW := Lib.hid hw
      clear hw hi e h hL hR
      generalize rows.length = m at *
      go_enter Try.func25, Try.ntmps25
      go_wp2_with (first | ((with_reducible refine HW.out.mono ?_); rintro e w' ⟨rfl, rfl⟩) | ((with_reducible refine HI.out.mono ?_); rintro e w' ⟨rfl, rfl⟩))
      go_ret
      exact ⟨rfl, rfl⟩
  all_goals
    have e : oneE rows lost n = wrongE rows := by unfold oneE; rw [if_pos (by omega)]
    rw [h] at hw e
    rw [e]
    have HW := Lib.hid hw
    clear hw e h hR
    generalize rows.length = m at *
    go_enter Try.func25, Try.ntmps25
    go_wp2_with (((with_reducible refine HW.out.mono ?_); rintro e w' ⟨rfl, rfl⟩))
    go_ret
    exact ⟨rfl, rfl⟩

def twoE (rows : List (List UInt8)) (a b : Int) (n m : Nat) : Int :=
  if wrongE rows ≠ 0 then wrongE rows else if ¬ (Lies rows.length a ∧ Lies rows.length b) then 3 else if a = b then 6 else if ¬ (n = wide rows ∧ m = wide rows) then 1 else 0
set_option maxHeartbeats 2000000 in
theorem wrongTwo_c (A P Q : Option Addr) (rows : List (List UInt8)) (ca n cp m cq : Nat) (a b : Int) (hl : rows.length ≤ 5864062014805) (W : World) (hR : Rds W A rows) :
    Calls Try.prog 27 #[.slice A rows.length ca, .int .i64 a, .int .i64 b, .slice P n cp, .slice Q m cq] W (IntIs (twoE rows a b n m) W) := by
  have hw := wrong_w A rows ca hl W hR
  rcases wrongE_012 rows with h | h | h
  · rw [h] at hw
    have HW := Lib.hid hw
    clear hw
    by_cases hA : Lies rows.length a
    · by_cases hB : Lies rows.length b
      · have HI := Lib.hid (isDisk_yes A rows.length ca a W hA)
        have HJ := Lib.hid (isDisk_yes A rows.length ca b W hB)
        by_cases hab : a = b
        · have e : twoE rows a b n m = 6 := by unfold twoE; rw [if_neg (by simpa using h), if_neg (fun k => k ⟨hA, hB⟩), if_pos hab]
          rw [e]
          subst hab
          clear e h hA hB hR
          generalize rows.length = l at *
          go_enter Try.func27, Try.ntmps27
          go_wp2_with (first | ((with_reducible refine HW.out.mono ?_); rintro e w' ⟨rfl, rfl⟩) | ((with_reducible refine HI.out.mono ?_); rintro e w' ⟨rfl, rfl⟩) | ((with_reducible refine HJ.out.mono ?_); rintro e w' ⟨rfl, rfl⟩))
          go_ret
          exact ⟨rfl, rfl⟩
        · have b0 : (a == b) = false := by simpa using hab
          obtain ⟨h0, _, _⟩ := wrongE_ok h
          obtain ⟨bb, o, C, c, rfl, cr, _⟩ := first_row hR h0
          have i1 : (0 : Int) < (rows.length : Int) := by omega
          by_cases hn : n = wide rows
          · have b1 : ((n : Int) != (wide rows : Int)) = false := by simp; omega
            by_cases hm : m = wide rows
            · have b2 : ((m : Int) != (wide rows : Int)) = false := by simp; omega
              have e : twoE rows a b n m = 0 := by unfold twoE; rw [if_neg (by simpa using h), if_neg (fun k => k ⟨hA, hB⟩), if_neg hab, if_neg (fun k => k ⟨hn, hm⟩)]
              rw [e]
              clear e h hA hB hR hab hn hm
              generalize rows.length = l at *
              generalize wide rows = L at *
              go_enter Try.func27, Try.ntmps27
              go_wp2_with (first | ((with_reducible refine HW.out.mono ?_); rintro e w' ⟨rfl, rfl⟩) | ((with_reducible refine HI.out.mono ?_); rintro e w' ⟨rfl, rfl⟩) | ((with_reducible refine HJ.out.mono ?_); rintro e w' ⟨rfl, rfl⟩))
              go_ret
              exact ⟨rfl, rfl⟩
            · have b2 : ((m : Int) != (wide rows : Int)) = true := by simp; omega
              have e : twoE rows a b n m = 1 := by unfold twoE; rw [if_neg (by simpa using h), if_neg (fun k => k ⟨hA, hB⟩), if_neg hab, if_pos (fun k => hm k.2)]
              rw [e]
              clear e h hA hB hR hab hn hm
              generalize rows.length = l at *
              generalize wide rows = L at *
              go_enter Try.func27, Try.ntmps27
              go_wp2_with (first | ((with_reducible refine HW.out.mono ?_); rintro e w' ⟨rfl, rfl⟩) | ((with_reducible refine HI.out.mono ?_); rintro e w' ⟨rfl, rfl⟩) | ((with_reducible refine HJ.out.mono ?_); rintro e w' ⟨rfl, rfl⟩))
              go_ret
              exact ⟨rfl, rfl⟩
          · have b1 : ((n : Int) != (wide rows : Int)) = true := by simp; omega
            have e : twoE rows a b n m = 1 := by unfold twoE; rw [if_neg (by simpa using h), if_neg (fun k => k ⟨hA, hB⟩), if_neg hab, if_pos (fun k => hn k.1)]
            rw [e]
            clear e h hA hB hR hab hn
            generalize rows.length = l at *
            generalize wide rows = L at *
            go_enter Try.func27, Try.ntmps27
            go_wp2_with (first | ((with_reducible refine HW.out.mono ?_); rintro e w' ⟨rfl, rfl⟩) | ((with_reducible refine HI.out.mono ?_); rintro e w' ⟨rfl, rfl⟩) | ((with_reducible refine HJ.out.mono ?_); rintro e w' ⟨rfl, rfl⟩))
            go_ret
            exact ⟨rfl, rfl⟩
      · have HI := Lib.hid (isDisk_yes A rows.length ca a W hA)
        have HJ := Lib.hid (isDisk_no A rows.length ca b W hB)
        have e : twoE rows a b n m = 3 := by unfold twoE; rw [if_neg (by simpa using h), if_pos (fun k => hB k.2)]
        rw [e]
        clear e h hA hB hR
        generalize rows.length = l at *
        go_enter Try.func27, Try.ntmps27
        go_wp2_with (first | ((with_reducible refine HW.out.mono ?_); rintro e w' ⟨rfl, rfl⟩) | ((with_reducible refine HI.out.mono ?_); rintro e w' ⟨rfl, rfl⟩) | ((with_reducible refine HJ.out.mono ?_); rintro e w' ⟨rfl, rfl⟩))
        go_ret
        exact ⟨rfl, rfl⟩
    · have HI := Lib.hid (isDisk_no A rows.length ca a W hA)
      have e : twoE rows a b n m = 3 := by unfold twoE; rw [if_neg (by simpa using h), if_pos (fun k => hA k.1)]
      rw [e]
      clear e h hA hR
      generalize rows.length = l at *
      go_enter Try.func27, Try.ntmps27
      go_wp2_with (first | ((with_reducible refine HW.out.mono ?_); rintro e w' ⟨rfl, rfl⟩) | ((with_reducible refine HI.out.mono ?_); rintro e w' ⟨rfl, rfl⟩))
      go_ret
      exact ⟨rfl, rfl⟩
  all_goals
    have e : twoE rows a b n m = wrongE rows := by unfold twoE; rw [if_pos (by omega)]
    rw [h] at hw e
    rw [e]
    have HW := Lib.hid hw
    clear hw e h hR
    generalize rows.length = l at *
    go_enter Try.func27, Try.ntmps27
    go_wp2_with (((with_reducible refine HW.out.mono ?_); rintro e w' ⟨rfl, rfl⟩))
    go_ret
    exact ⟨rfl, rfl⟩

def whoE (rows : List (List UInt8)) (n m : Nat) (at_ : Int) : Int :=
  if wrongE rows ≠ 0 then wrongE rows else if ¬ (n = wide rows ∧ m = wide rows) then 1 else if ¬ Lies (wide rows) at_ then 2 else 0
set_option maxHeartbeats 2000000 in
theorem wrongWho_c (A P Q : Option Addr) (rows : List (List UInt8)) (ca n cp m cq : Nat) (at_ : Int) (hl : rows.length ≤ 5864062014805) (W : World) (hR : Rds W A rows) :
    Calls Try.prog 32 #[.slice A rows.length ca, .slice P n cp, .slice Q m cq, .int .i64 at_] W (IntIs (whoE rows n m at_) W) := by
  have hw := wrong_w A rows ca hl W hR
  rcases wrongE_012 rows with h | h | h
  · rw [h] at hw
    have HW := Lib.hid hw
    clear hw
    obtain ⟨h0, _, _⟩ := wrongE_ok h
    obtain ⟨bb, o, C, c, rfl, cr, _⟩ := first_row hR h0
    have i1 : (0 : Int) < (rows.length : Int) := by omega
    by_cases hn : n = wide rows
    · have b1 : ((n : Int) != (wide rows : Int)) = false := by simp; omega
      by_cases hm : m = wide rows
      · have b2 : ((m : Int) != (wide rows : Int)) = false := by simp; omega
        by_cases h1 : at_ < 0
        · have e : whoE rows n m at_ = 2 := by unfold whoE; rw [if_neg (by simpa using h), if_neg (fun k => k ⟨hn, hm⟩), if_pos (fun k => by have := k.1; omega)]
          rw [e]
          clear e h hR hn hm
          generalize rows.length = l at *
          generalize wide rows = L at *
          go_enter Try.func32, Try.ntmps32
          go_wp2_with (((with_reducible refine HW.out.mono ?_); rintro e w' ⟨rfl, rfl⟩))
          go_ret
          exact ⟨rfl, rfl⟩
        · by_cases h2 : (wide rows : Int) ≤ at_
          · have e : whoE rows n m at_ = 2 := by unfold whoE; rw [if_neg (by simpa using h), if_neg (fun k => k ⟨hn, hm⟩), if_pos (fun k => by have := k.2; omega)]
            rw [e]
            clear e h hR hn hm
            generalize rows.length = l at *
            generalize wide rows = L at *
            go_enter Try.func32, Try.ntmps32
            go_wp2_with (((with_reducible refine HW.out.mono ?_); rintro e w' ⟨rfl, rfl⟩))
            go_ret
            exact ⟨rfl, rfl⟩
          · have e : whoE rows n m at_ = 0 := by unfold whoE; rw [if_neg (by simpa using h), if_neg (fun k => k ⟨hn, hm⟩), if_neg (fun k => k ⟨by omega, by omega⟩)]
            rw [e]
            clear e h hR hn hm
            generalize rows.length = l at *
            generalize wide rows = L at *
            go_enter Try.func32, Try.ntmps32
            go_wp2_with (((with_reducible refine HW.out.mono ?_); rintro e w' ⟨rfl, rfl⟩))
            go_ret
            exact ⟨rfl, rfl⟩
      · have b2 : ((m : Int) != (wide rows : Int)) = true := by simp; omega
        have e : whoE rows n m at_ = 1 := by unfold whoE; rw [if_neg (by simpa using h), if_pos (fun k => hm k.2)]
        rw [e]
        clear e h hR hn hm
        generalize rows.length = l at *
        generalize wide rows = L at *
        go_enter Try.func32, Try.ntmps32
        go_wp2_with (((with_reducible refine HW.out.mono ?_); rintro e w' ⟨rfl, rfl⟩))
        go_ret
        exact ⟨rfl, rfl⟩
    · have b1 : ((n : Int) != (wide rows : Int)) = true := by simp; omega
      have e : whoE rows n m at_ = 1 := by unfold whoE; rw [if_neg (by simpa using h), if_pos (fun k => hn k.1)]
      rw [e]
      clear e h hR hn
      generalize rows.length = l at *
      generalize wide rows = L at *
      go_enter Try.func32, Try.ntmps32
      go_wp2_with (((with_reducible refine HW.out.mono ?_); rintro e w' ⟨rfl, rfl⟩))
      go_ret
      exact ⟨rfl, rfl⟩
  all_goals
    have e : whoE rows n m at_ = wrongE rows := by unfold whoE; rw [if_pos (by omega)]
    rw [h] at hw e
    rw [e]
    have HW := Lib.hid hw
    clear hw e h hR
    generalize rows.length = l at *
    go_enter Try.func32, Try.ntmps32
    go_wp2_with (((with_reducible refine HW.out.mono ?_); rintro e w' ⟨rfl, rfl⟩))
    go_ret
    exact ⟨rfl, rfl⟩
theorem wrong_c : WrongSpec := fun A rows ca W hs _ hR => (wrong_w A rows ca hs.1 W hR).mono fun _ _ ⟨h1, h2⟩ => ⟨h1, h2 ▸ Below.refl _ _⟩
end Go.Proofs.Ytpjopdemhdeelaa.Pair
