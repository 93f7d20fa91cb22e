/-
  slices.Sort at []uint16: pdqsortOrdered makes a sorted permutation of its range.
-/
import Derived.Test.YteggbepibfpjcaaQsF
import Derived.Test.YteggbepibfpjcaaQsG
import Derived.Test.YteggbepibfpjcaaQsH
import Derived.Sort.LotB
namespace Go.Proofs.Yteggbepibfpjcaa.Qs
set_option linter.unusedVariables false
set_option linter.unusedSimpArgs false
open Go.RowKit Mem Qr Go.Sort

theorem swoN : SWO ltN where
  irrefl := fun x => by simp [ltN]
  trans := fun x y z h1 h2 => by simp [ltN] at *; omega
  ntrans := fun x y z h1 h2 => by simp [ltN] at *; omega
/-- What a call does: a sorted permutation of the range. -/
def Srt (g o a b : Nat) (d : Array Nat) (W : World) (e : Ending) (W' : World) : Prop :=
  ∃ d' : Array Nat, e = .returned (.tuple #[]) ∧ PermIn a b d d' ∧ SortedIn ltN a b d' ∧ PLay W g o d d' W'
/-- Whatever sorts the rest sorts all. -/
def Owe (a b : Nat) (d : Array Nat) (a1 b1 : Nat) (d1 : Array Nat) : Prop := ∀ R, PermIn a1 b1 d1 R → SortedIn ltN a1 b1 R → PermIn a b d R ∧ SortedIn ltN a b R
theorem Owe.perm {a b a1 b1 : Nat} {d d1 d2 : Array Nat} (h : Owe a b d a1 b1 d1) (hp : PermIn a1 b1 d1 d2) : Owe a b d a1 b1 d2 := fun R h1 h2 => h R (permIn_trans _ _ _ _ _ hp h1) h2
set_option maxRecDepth 100000 in
set_option maxHeartbeats 32000000 in
theorem pdq_step (g o n ca : Nat) (hbig : n ≤ 70368744177664) (K : Nat)
    (ih : ∀ (a b lim : Nat) (d : Array Nat) (W : World), b - a < K → Holds w16 W g o d → d.size = n → a ≤ b → b ≤ n → lim ≤ 100 → Sort.Below ltN a b d →
      Calls Try.prog 42 #[.slice (some ⟨g, o, none⟩) n ca, .int .i64 a, .int .i64 b, .int .i64 lim] W (Srt g o a b d W))
    (a b lim : Nat) (d : Array Nat) (W : World) (hK : b - a ≤ K) (hH : Holds w16 W g o d) (hn : d.size = n) (hab : a ≤ b) (hb : b ≤ n) (hlim : lim ≤ 100) (hB : Sort.Below ltN a b d) :
      Calls Try.prog 42 #[.slice (some ⟨g, o, none⟩) n ca, .int .i64 a, .int .i64 b, .int .i64 lim] W (Srt g o a b d W) := by
  have IH := Lib.hid ih
  have H0 := Lib.hid (PLay.start hH)
  have HN := Lib.hid hn
  have HB := Lib.hid hB
  have OW := Lib.hid (show Owe a b d a b d from fun R h1 h2 => ⟨h1, h2⟩)
  have AA := Lib.hid (show a ≤ b ∧ b ≤ n ∧ b - a ≤ K ∧ lim ≤ 100 from ⟨hab, hb, hK, hlim⟩)
  clear ih hH hn hB hab hb hK hlim
  go_enter Try.func42, Try.ntmps42
  go_wp2
  go_loopw [1, 2, 3, 8, 9] (fun a_ b_ l_ wb_ wp_ V => ∃ (a1 b1 l1 : Nat) (wb wp : Bool) (d1 : Array Nat), a_ = .int .i64 a1 ∧ b_ = .int .i64 b1 ∧ l_ = .int .i64 l1 ∧ wb_ = .bool wb ∧ wp_ = .bool wp ∧ a1 ≤ b1 ∧ b1 ≤ n ∧ b1 - a1 ≤ K ∧ l1 ≤ 100 ∧ Sort.Below ltN a1 b1 d1 ∧ Owe a b d a1 b1 d1 ∧ PLay W g o d d1 V) (fun a_ b_ l_ wb_ wp_ _ => (intOf b_).toNat - (intOf a_).toNat)
  case atStart => exact ⟨a, b, lim, true, true, d, rfl, rfl, rfl, rfl, rfl, AA.out.1, AA.out.2.1, AA.out.2.2.1, AA.out.2.2.2, HB.out, OW.out, H0.out⟩
  case round =>
    obtain ⟨a1, b1, l1, wb, wp, d1, rfl, rfl, rfl, rfl, rfl, hab, hb, hK, hlim, hB, hO, hL⟩ := hrel
    have BB := Lib.hid hB
    have OO := Lib.hid hO
    have LL := Lib.hid hL
    have D1 := Lib.hid (hL.1.trans HN.out)
    obtain ⟨l, hl⟩ : ∃ l, l = b1 - a1 := ⟨_, rfl⟩
    have wl : IntKind.i64.wrap ((b1 : Int) - (a1 : Int)) = (l : Int) := by rw [show (b1 : Int) - (a1 : Int) = (l : Int) by omega]; exact IntWalk.i64_in _ (by omega)
    have AB := Lib.hid (show a1 ≤ b1 ∧ b1 ≤ n ∧ b1 - a1 ≤ K ∧ l1 ≤ 100 ∧ l = b1 - a1 from ⟨hab, hb, hK, hlim, hl⟩)
    clear hab hb hK hlim hB hO hL hl H0 HB OW AA
    by_cases h12 : l ≤ 12
    · have i1 : (l : Int) ≤ 12 := by omega
      have IC := Lib.hid (insertion_c g o n ca a1 b1 d1 wr LL.out.2.1 D1.out hbig AB.out.1 AB.out.2.1)
      have IS := Lib.hid (insertionSort_holds (lt := ltN) swoN d1 a1 b1 AB.out.1 (by rw [D1.out]; exact AB.out.2.1))
      clear h12
      go_wp2_with fail
      refine IC.out.mono ?_
      rintro e w2 ⟨rfl, hL⟩
      have L2 := Lib.hid (LL.out.trans hL.p)
      clear hL
      go_wp2
      first | go_end0 | refine bodyPost_ret (results_none rfl _ _ _) rfl ?_
      exact ⟨_, rfl, (OO.out _ IS.out.1 IS.out.2).1, (OO.out _ IS.out.1 IS.out.2).2, L2.out⟩
    · have i1 : ¬ (l : Int) ≤ 12 := by omega
      by_cases hl0 : l1 = 0
      · subst hl0
        have HC := Lib.hid (heap_c g o n ca a1 b1 d1 wr LL.out.2.1 D1.out hbig AB.out.1 AB.out.2.1)
        have IS := Lib.hid (heapSort_holds (lt := ltN) swoN d1 a1 b1 AB.out.1 (by rw [D1.out]; exact AB.out.2.1))
        clear h12
        go_wp2_with fail
        refine HC.out.mono ?_
        rintro e w2 ⟨rfl, hL⟩
        have L2 := Lib.hid (LL.out.trans hL.p)
        clear hL
        go_wp2
        first | go_end0 | refine bodyPost_ret (results_none rfl _ _ _) rfl ?_
        exact ⟨_, rfl, (OO.out _ IS.out.1 IS.out.2).1, (OO.out _ IS.out.1 IS.out.2).2, L2.out⟩
      · have e0 : ((l1 : Int) == 0) = false := by simp; omega
        have LP := Lib.hid (show 12 < l ∧ 1 ≤ l1 by omega)
        clear h12 hl0
        go_upto_if 35 with fail
        go_cut [3] (fun v wx => ∃ (l2 : Nat) (d2 : Array Nat), v = .int .i64 l2 ∧ l2 ≤ 100 ∧ PermIn a1 b1 d1 d2 ∧ PLay W g o d d2 wx)
        case first =>
          cases wb with
          | true =>
            go_wp2_with fail
            go_meet
            exact ⟨l1, d1, rfl, AB.out.2.2.2.1, permIn_refl _ _ _, LL.out⟩
          | false =>
            have BC := Lib.hid (break_c g o n ca a1 b1 d1 wr LL.out.2.1 D1.out hbig (by have := LP.out; have := AB.out; omega) AB.out.2.1)
            obtain ⟨l2, hl2⟩ : ∃ l2, l2 + 1 = l1 := ⟨l1 - 1, by have := LP.out; omega⟩
            have w2 : IntKind.i64.wrap ((l1 : Int) - 1) = (l2 : Int) := by rw [show (l1 : Int) - 1 = (l2 : Int) by omega]; exact IntWalk.i64_in _ (by have := AB.out; omega)
            have L2 := Lib.hid (show l2 ≤ 100 by have := AB.out; omega)
            clear hl2
            go_wp2_with fail
            refine BC.out.mono ?_
            rintro e w2 ⟨d2, rfl, hp, hL⟩
            have L3 := Lib.hid (LL.out.trans hL)
            have P3 := Lib.hid hp
            clear hL hp
            go_wp2
            go_meet
            exact ⟨l2, d2, rfl, L2.out, P3.out, L3.out⟩
        case rest =>
          obtain ⟨l2, d2, rfl, hl2, hp, hL⟩ := hcut
          have L2 := Lib.hid hL
          have P2 := Lib.hid hp
          have LM := Lib.hid hl2
          have O2 := Lib.hid (OO.out.perm hp)
          have D2 := Lib.hid (hp.1.trans D1.out)
          have B2 := Lib.hid (BB.out.perm (by rw [D1.out]; exact AB.out.2.1) hp)
          obtain ⟨V2, hV⟩ : ∃ V : World, V = wc := ⟨_, rfl⟩
          rw [← hV] at L2 ⊢
          clear hL hp hl2 hV LL OO BB P2
          have PC := Lib.hid (pivot_c g o n ca a1 b1 d2 V2 L2.out.2.1 D2.out hbig (by have := LP.out; have := AB.out; omega) AB.out.2.1)
          go_wp2_with fail
          refine PC.out.mono ?_
          rintro e w2 ⟨p, h, hp1, hp2, hh, rfl, hb⟩
          have L3 := Lib.hid (show PLay W g o d d2 w2 from L2.out.trans ⟨rfl, holds_grown L2.out.2.1 (grown_below hb none) (by simp), grown_below hb _⟩)
          have PP := Lib.hid (show a1 ≤ p ∧ p < b1 ∧ b1 ≤ n ∧ b1 ≤ d2.size ∧ a1 < b1 by rw [D2.out]; have := AB.out; omega)
          clear hp1 hp2 hb L2 PC
          go_upto_if 50 with fail
          go_cut [11, 12] (fun v h_ wx => ∃ (p2 h2 : Nat) (d3 : Array Nat), v = .int .i64 p2 ∧ h_ = .int .i64 h2 ∧ a1 ≤ p2 ∧ p2 < b1 ∧ (h2 = 0 ∨ h2 = 1) ∧ PermIn a1 b1 d2 d3 ∧ PLay W g o d d3 wx)
          case first =>
            rcases hh with rfl | rfl | rfl
            · go_wp2_with fail
              go_meet
              exact ⟨p, 0, d2, rfl, rfl, PP.out.1, PP.out.2.1, .inl rfl, permIn_refl _ _ _, L3.out⟩
            · go_wp2_with fail
              go_meet
              exact ⟨p, 1, d2, rfl, rfl, PP.out.1, PP.out.2.1, .inr rfl, permIn_refl _ _ _, L3.out⟩
            · have RC := Lib.hid (reverse_c g o n ca a1 b1 d2 w2 L3.out.2.1 D2.out hbig PP.out.2.2.2.2 PP.out.2.2.1)
              have RH := Lib.hid (reverseRange_holds (α := Nat) d2 a1 b1 (by have := PP.out; omega) PP.out.2.2.2.1)
              obtain ⟨bm, hbm⟩ : ∃ bm, bm = b1 - 1 := ⟨_, rfl⟩
              obtain ⟨pa, hpa⟩ : ∃ pa, pa = p - a1 := ⟨_, rfl⟩
              obtain ⟨p2, hp2⟩ : ∃ p2, p2 = bm - pa := ⟨_, rfl⟩
              have w3 : IntKind.i64.wrap ((b1 : Int) - 1) = (bm : Int) := by rw [show (b1 : Int) - 1 = (bm : Int) by have := PP.out; omega]; exact IntWalk.i64_in _ (by have := PP.out; omega)
              have w4 : IntKind.i64.wrap ((p : Int) - (a1 : Int)) = (pa : Int) := by rw [show (p : Int) - (a1 : Int) = (pa : Int) by have := PP.out; omega]; exact IntWalk.i64_in _ (by have := PP.out; omega)
              have w5 : IntKind.i64.wrap ((bm : Int) - (pa : Int)) = (p2 : Int) := by rw [show (bm : Int) - (pa : Int) = (p2 : Int) by have := PP.out; omega]; exact IntWalk.i64_in _ (by have := PP.out; omega)
              have P2 := Lib.hid (show a1 ≤ p2 ∧ p2 < b1 by have := PP.out; omega)
              clear hbm hpa hp2
              go_wp2_with fail
              refine RC.out.mono ?_
              rintro e w3 ⟨rfl, hL⟩
              have L4 := Lib.hid (L3.out.trans hL.p)
              clear hL
              go_wp2
              go_meet
              exact ⟨p2, 1, _, rfl, rfl, P2.out.1, P2.out.2, .inr rfl, RH.out, L4.out⟩
          case rest =>
            obtain ⟨p2, h2, d3, rfl, rfl, hp1, hp2, hh2, hp, hL⟩ := hcut
            have L4 := Lib.hid hL
            have O3 := Lib.hid (O2.out.perm hp)
            have D3 := Lib.hid (hp.1.trans D2.out)
            have B3 := Lib.hid (B2.out.perm PP.out.2.2.2.1 hp)
            have P2 := Lib.hid (show a1 ≤ p2 ∧ p2 < b1 from ⟨hp1, hp2⟩)
            obtain ⟨V3, hV⟩ : ∃ V : World, V = wc := ⟨_, rfl⟩
            rw [← hV] at L4 ⊢
            clear hL hp hV hp1 hp2 L3 O2 B2
            go_upto_region 15 with fail
            go_cut [68] (fun v wx => ∃ c : Bool, v = .bool c ∧ wx = V3)
            case first =>
              cases wb
              all_goals
                cases wp
                all_goals
                  rcases hh2 with rfl | rfl
                  all_goals
                    go_wp2_with fail
                    go_meet
                    exact ⟨_, rfl, rfl⟩
            case rest =>
              obtain ⟨c, rfl, hV⟩ := hcut
              rw [hV]
              clear hV
              go_upto_if 68 with fail
              go_cut [11] (fun v wx => v = .int .i64 p2 ∧ ∃ d4, PermIn a1 b1 d3 d4 ∧ PLay W g o d d4 wx)
              case first =>
                cases c with
                | false =>
                  go_wp2_with fail
                  go_meet
                  exact ⟨rfl, d3, permIn_refl _ _ _, L4.out⟩
                | true =>
                  obtain ⟨⟨d4, ok⟩, hR⟩ : ∃ r, partialInsertionSort ltN d3 a1 b1 = r := ⟨_, rfl⟩
                  have PI := Lib.hid (partial_c g o n ca a1 b1 d3 V3 L4.out.2.1 D3.out hbig PP.out.2.2.2.2 PP.out.2.2.1 ok d4 hR)
                  have PH := Lib.hid (show PermIn a1 b1 d3 d4 ∧ (ok = true → SortedIn ltN a1 b1 d4) from by
                    have := partialInsertionSort_holds (lt := ltN) swoN d3 a1 b1 PP.out.2.2.2.2 (by rw [D3.out]; exact PP.out.2.2.1) B3.out
                    rw [hR] at this
                    exact this)
                  clear hR
                  cases ok with
                  | true =>
                    go_wp2_with fail
                    refine PI.out.mono ?_
                    rintro e w3 ⟨rfl, hL⟩
                    have L5 := Lib.hid (L4.out.trans hL.p)
                    clear hL
                    go_wp2
                    first | go_end0 | refine bodyPost_ret (results_none rfl _ _ _) rfl ?_
                    exact ⟨_, rfl, (O3.out _ PH.out.1 (PH.out.2 trivial)).1, (O3.out _ PH.out.1 (PH.out.2 trivial)).2, L5.out⟩
                  | false =>
                    go_wp2_with fail
                    refine PI.out.mono ?_
                    rintro e w3 ⟨rfl, hL⟩
                    have L5 := Lib.hid (L4.out.trans hL.p)
                    clear hL
                    go_wp2
                    go_meet
                    exact ⟨rfl, d4, PH.out.1, L5.out⟩
              case rest =>
                obtain ⟨rfl, d4, hp, hL⟩ := hcut
                have L5 := Lib.hid hL
                have O4 := Lib.hid (O3.out.perm hp)
                have D4 := Lib.hid (hp.1.trans D3.out)
                have B4 := Lib.hid (B3.out.perm (by rw [D3.out]; exact PP.out.2.2.1) hp)
                obtain ⟨V4, hV⟩ : ∃ V : World, V = wc := ⟨_, rfl⟩
                rw [← hV] at L5 ⊢
                clear hL hp hV L4 O3 B3
                go_upto_region 17 with fail
                go_cut [87] (fun v wx => ∃ c : Bool, v = .bool c ∧ (c = true → 0 < a1 ∧ ltN d4[a1 - 1]! d4[p2]! = false) ∧ PLay W g o d d4 wx)
                case first =>
                  by_cases ha0 : 0 < a1
                  · have i2 : (0 : Int) < (a1 : Int) := by omega
                    have i3 : decide ((0 : Int) < (a1 : Int)) = true := decide_eq_true i2
                    have i3n : decide (0 < a1) = true := decide_eq_true ha0
                    obtain ⟨am, ham⟩ : ∃ am, am = a1 - 1 := ⟨_, rfl⟩
                    have wm : IntKind.i64.wrap ((a1 : Int) - 1) = (am : Int) := by rw [show (a1 : Int) - 1 = (am : Int) by omega]; exact IntWalk.i64_in _ (by have := PP.out; omega)
                    have j1 : (am : Int) < (n : Int) := by have := PP.out; omega
                    have j2 : (p2 : Int) < (n : Int) := by have := PP.out; have := P2.out; omega
                    have c1 := (L5.out.2.1 am (by rw [D4.out]; have := PP.out; omega)).1
                    have c2 := (L5.out.2.1 p2 (by rw [D4.out]; have := PP.out; have := P2.out; omega)).1
                    obtain ⟨u, hu⟩ : ∃ u, d4[am]! = u := ⟨_, rfl⟩
                    obtain ⟨v, hv⟩ : ∃ v, d4[p2]! = v := ⟨_, rfl⟩
                    rw [hu] at c1
                    rw [hv] at c2
                    unfold w16 at c1 c2
                    obtain ⟨t, ht⟩ : ∃ t, ltN u v = t := ⟨_, rfl⟩
                    have HE := Lib.hid (show 0 < a1 ∧ ltN d4[a1 - 1]! d4[p2]! = t from ⟨ha0, by rw [← ham, hu, hv, ht]⟩)
                    have HB := Lib.hid (show decide (u < v) = t from ht)
                    clear ham hu hv ht ha0
                    cases t with
                    | true =>
                      go_quiet ((go_at_call 53; exact Calls.quiet_of_same (less_c u v _ true HB.out)))
                      go_wp2_with fail
                      go_meet
                      exact ⟨_, rfl, fun h => by simp at h, by first | exact L5.out | exact L5.out.drewN _⟩
                    | false =>
                      go_quiet ((go_at_call 53; exact Calls.quiet_of_same (less_c u v _ false HB.out)))
                      go_wp2_with fail
                      go_meet
                      exact ⟨_, rfl, fun _ => HE.out, by first | exact L5.out | exact L5.out.drewN _⟩
                  · have i2 : ¬ (0 : Int) < (a1 : Int) := by omega
                    have i3 : decide ((0 : Int) < (a1 : Int)) = false := decide_eq_false i2
                    have i3n : decide (0 < a1) = false := decide_eq_false ha0
                    go_quiet (fail)
                    go_wp2_with fail
                    go_meet
                    exact ⟨_, rfl, fun h => by simp at h, by first | exact L5.out | exact L5.out.drewN _⟩
                case rest =>
                  obtain ⟨c, rfl, hc, hL⟩ := hcut
                  have L6 := Lib.hid hL
                  obtain ⟨V5, hV⟩ : ∃ V : World, V = wc := ⟨_, rfl⟩
                  rw [← hV] at L6 ⊢
                  clear hL hV L5
                  cases c with
                  | true =>
                    obtain ⟨⟨mid, d5⟩, hR⟩ : ∃ r, partitionEqual ltN d4 a1 b1 p2 = r := ⟨_, rfl⟩
                    have PE := Lib.hid (partEq_c g o n ca a1 b1 p2 d4 V5 L6.out.2.1 D4.out hbig P2.out.1 P2.out.2 PP.out.2.2.1 mid d5 hR)
                    have RE := Lib.hid (round_eq swoN (partitionEqual_holds ltN) (hc rfl).1 P2.out.1 P2.out.2 (by rw [D4.out]; exact PP.out.2.2.1) B4.out (hc rfl).2 hR)
                    clear hR hc
                    go_wp2_with fail
                    refine PE.out.mono ?_
                    rintro e w3 ⟨rfl, hL⟩
                    have L7 := Lib.hid (L6.out.trans hL.p)
                    clear hL
                    go_wp2
                    go_roundw
                    case rel => exact ⟨mid, b1, l2, wb, wp, d5, rfl, rfl, rfl, rfl, rfl, RE.out.2.1, PP.out.2.2.1, by have := RE.out.1; have := AB.out; omega, LM.out, RE.out.2.2.2.1, fun R h1 h2 => O4.out R (RE.out.2.2.2.2 R h1 h2).1 (RE.out.2.2.2.2 R h1 h2).2, L7.out⟩
                    case measure => have := RE.out.1; have := RE.out.2.1; simp [intOf] <;> omega
                  | false =>
                    obtain ⟨⟨mid, ap, d5⟩, hR⟩ : ∃ r, partition ltN d4 a1 b1 p2 = r := ⟨_, rfl⟩
                    have PT := Lib.hid (part_c g o n ca a1 b1 p2 d4 V5 L6.out.2.1 D4.out hbig P2.out.1 P2.out.2 PP.out.2.2.1 mid ap d5 hR)
                    have RP := Lib.hid (round_part swoN (partition_holds ltN) P2.out.1 P2.out.2 (by rw [D4.out]; exact PP.out.2.2.1) B4.out hR)
                    have MM := Lib.hid (show a1 ≤ mid ∧ mid < b1 from ⟨RP.out.1, RP.out.2.1⟩)
                    obtain ⟨ll, hll⟩ : ∃ ll, ll = mid - a1 := ⟨_, rfl⟩
                    obtain ⟨rr, hrr⟩ : ∃ rr, rr = b1 - mid := ⟨_, rfl⟩
                    obtain ⟨q, hq⟩ : ∃ q, q = l / 8 := ⟨_, rfl⟩
                    have w3 : IntKind.i64.wrap ((mid : Int) - (a1 : Int)) = (ll : Int) := by rw [show (mid : Int) - (a1 : Int) = (ll : Int) by have := MM.out; omega]; exact IntWalk.i64_in _ (by have := PP.out; have := MM.out; omega)
                    have w4 : IntKind.i64.wrap ((b1 : Int) - (mid : Int)) = (rr : Int) := by rw [show (b1 : Int) - (mid : Int) = (rr : Int) by have := MM.out; omega]; exact IntWalk.i64_in _ (by have := PP.out; have := MM.out; omega)
                    have w5 : IntKind.i64.wrap ((mid : Int) + 1) = ((mid + 1 : Nat) : Int) := by rw [show (mid : Int) + 1 = ((mid + 1 : Nat) : Int) by omega]; exact IntWalk.i64_in _ (by have := PP.out; have := MM.out; omega)
                    have t1 : (l : Int).tdiv 8 = (q : Int) := by rw [Int.tdiv_eq_ediv_of_nonneg (by omega)]; omega
                    have t2 : (l : Int) / 8 = (q : Int) := by omega
                    have w6 : IntKind.i64.wrap (q : Int) = (q : Int) := IntWalk.i64_in _ (by have := AB.out; omega)
                    obtain ⟨m1, hm1⟩ : ∃ m1, m1 = mid + 1 := ⟨_, rfl⟩
                    rw [← hm1] at w5
                    have RP2 := Lib.hid (show Sort.Below ltN m1 b1 d5 ∧ (∀ L, PermIn a1 mid d5 L → SortedIn ltN a1 mid L → Sort.Below ltN m1 b1 L ∧ ∀ R, PermIn m1 b1 L R → SortedIn ltN m1 b1 R → PermIn a1 b1 d4 R ∧ SortedIn ltN a1 b1 R) ∧ (∀ L, PermIn m1 b1 d5 L → SortedIn ltN m1 b1 L → Sort.Below ltN a1 mid L ∧ ∀ R, PermIn a1 mid L R → SortedIn ltN a1 mid R → PermIn a1 b1 d4 R ∧ SortedIn ltN a1 b1 R) by
                      rw [hm1]; exact ⟨RP.out.2.2.2.2.1, RP.out.2.2.2.2.2.1, RP.out.2.2.2.2.2.2⟩)
                    have M1 := Lib.hid (show m1 = mid + 1 ∧ ll = mid - a1 ∧ rr = b1 - mid from ⟨hm1, hll, hrr⟩)
                    clear hR hc hll hrr hq hm1
                    go_wp2_with fail
                    refine PT.out.mono ?_
                    rintro e w3 ⟨rfl, hL⟩
                    have D5 := Lib.hid (hL.size.trans D4.out)
                    have L7 := Lib.hid (L6.out.trans hL.p)
                    clear hL
                    by_cases hlt : ll < rr
                    · have i2 : (ll : Int) < (rr : Int) := by omega
                      have RC := Lib.hid (IH.out a1 mid l2 d5 w3 (by have := AB.out; have := MM.out; omega) L7.out.2.1 D5.out MM.out.1 (by have := PP.out; have := MM.out; omega) LM.out RP.out.2.2.2.1)
                      clear hlt
                      go_wp2_with fail
                      refine RC.out.mono ?_
                      rintro e w4 ⟨d6, rfl, hp, hs, hL⟩
                      have L8 := Lib.hid (L7.out.trans hL)
                      have G1 := Lib.hid (RP2.out.2.1 d6 hp hs)
                      clear hL hp hs
                      go_wp2
                      go_roundw
                      case rel => exact ⟨m1, b1, l2, decide (q ≤ ll), ap, d6, rfl, rfl, rfl, rfl, rfl, by have := M1.out; have := MM.out; omega, PP.out.2.2.1, by have := M1.out; have := MM.out; have := AB.out; omega, LM.out, G1.out.1, fun R h1 h2 => O4.out R (G1.out.2 R h1 h2).1 (G1.out.2 R h1 h2).2, L8.out⟩
                      case measure => have := M1.out; have := MM.out; simp [intOf] <;> omega
                    · have i2 : ¬ (ll : Int) < (rr : Int) := by omega
                      have RC := Lib.hid (IH.out m1 b1 l2 d5 w3 (by have := AB.out; have := MM.out; have := M1.out; omega) L7.out.2.1 D5.out (by have := M1.out; have := MM.out; omega) PP.out.2.2.1 LM.out RP2.out.1)
                      clear hlt
                      go_wp2_with fail
                      refine RC.out.mono ?_
                      rintro e w4 ⟨d6, rfl, hp, hs, hL⟩
                      have L8 := Lib.hid (L7.out.trans hL)
                      have G1 := Lib.hid (RP2.out.2.2 d6 hp hs)
                      clear hL hp hs
                      go_wp2
                      go_roundw
                      case rel => exact ⟨a1, mid, l2, decide (q ≤ rr), ap, d6, rfl, rfl, rfl, rfl, rfl, MM.out.1, by have := PP.out; have := MM.out; omega, by have := MM.out; have := AB.out; omega, LM.out, G1.out.1, fun R h1 h2 => O4.out R (G1.out.2 R h1 h2).1 (G1.out.2 R h1 h2).2, L8.out⟩
                      case measure => have := M1.out; have := MM.out; simp [intOf] <;> omega
theorem pdq_c (g o n ca : Nat) (hbig : n ≤ 70368744177664) : ∀ (K a b lim : Nat) (d : Array Nat) (W : World), b - a < K → Holds w16 W g o d → d.size = n → a ≤ b → b ≤ n → lim ≤ 100 → Sort.Below ltN a b d →
      Calls Try.prog 42 #[.slice (some ⟨g, o, none⟩) n ca, .int .i64 a, .int .i64 b, .int .i64 lim] W (Srt g o a b d W)
  | 0, _, _, _, _, _, h, _, _, _, _, _, _ => absurd h (by omega)
  | K + 1, a, b, lim, d, W, h, h1, h2, h3, h4, h5, h6 => pdq_step g o n ca hbig K (pdq_c g o n ca hbig K) a b lim d W (by omega) h1 h2 h3 h4 h5 h6
end Go.Proofs.Yteggbepibfpjcaa.Qs
