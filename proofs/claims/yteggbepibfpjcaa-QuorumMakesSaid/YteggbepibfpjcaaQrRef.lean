/-
  The document's own answer: MHas, MShare, MWithin.
-/
import Derived.Test.YteggbepibfpjcaaQrMem
import Derived.BigQuiet
namespace Go.Proofs.Yteggbepibfpjcaa.Qr
set_option linter.unusedVariables false
set_option linter.unusedSimpArgs false
open Go.RowKit Mem
open Stripe (ITab nat64)

/-- Whom a set has. -/
def has (s : Nat) : List Nat := (List.range 16).filter (fun k => s.testBit k)
theorem mem_has {s k : Nat} (hs : s < 65536) : k ∈ has s ↔ s.testBit k = true := by
  unfold has
  rw [List.mem_filter, List.mem_range]
  refine ⟨fun h => h.2, fun h => ⟨?_, h⟩⟩
  rcases Nat.lt_or_ge k 16 with hk | hk
  · exact hk
  · rw [Nat.testBit_lt_two_pow (Nat.lt_of_lt_of_le hs (Nat.pow_le_pow_right (n := 2) (by decide) hk))] at h; cases h
theorem has_le (s : Nat) : (has s).length ≤ 16 := by have := List.length_filter_le (fun k => s.testBit k) (List.range 16); simpa [has] using this
theorem bit_and (s k : Nat) : (s &&& 2 ^ k = 0) ↔ s.testBit k = false := by
  constructor
  · intro h
    have := congrArg (fun x => x.testBit k) h
    simpa [Nat.testBit_and, Nat.testBit_two_pow] using this
  · intro h
    apply Nat.eq_of_testBit_eq
    intro i
    rw [Nat.testBit_and, Nat.testBit_two_pow]
    by_cases e : k = i
    · subst e; simp [h]
    · simp [e]
def hasTo (s k : Nat) : List Nat := (List.range k).filter (fun k => s.testBit k)
theorem hasTo_succ (s k : Nat) : (s.testBit k = true → hasTo s (k + 1) = hasTo s k ++ [k]) ∧ (s.testBit k = false → hasTo s (k + 1) = hasTo s k) := by
  unfold hasTo
  rw [List.range_succ, List.filter_append]
  exact ⟨fun h => by simp [h], fun h => by simp [h]⟩
theorem hasTo_len (s k : Nat) : (hasTo s k).length ≤ k := by have := List.length_filter_le (fun k => s.testBit k) (List.range k); simpa [hasTo] using this
set_option maxRecDepth 100000 in
set_option maxHeartbeats 4000000 in
theorem mhas_c (s : Nat) (W : World) (hs : s < 65536) :
    Calls Try.prog 17 #[.int .u16 s] W fun e W' => ∃ A c, e = .returned (.slice A (has s).length c) ∧ ITab W' W.heap.size (.slice A (has s).length c) (has s) ∧ Below W.heap.size W W' := by
  have HT := Lib.hid (fun k => hasTo_succ s k)
  have HL := Lib.hid (fun k => hasTo_len s k)
  have HB := Lib.hid (bit_and s)
  go_enter Try.func17, Try.ntmps17
  go_wp2
  go_loopw [3, 5] (fun v i wr => ∃ (k n : Nat) (A : Option Addr) (c : Nat), k ≤ 16 ∧ n ≤ k ∧ i = .int .i64 k ∧ v = .slice A n c ∧ (hasTo s k).length = n ∧ ITab wr W.heap.size (.slice A n c) (hasTo s k) ∧ Below W.heap.size W wr) (fun _ i _ => 16 - (intOf i).toNat)
  case atStart => exact ⟨0, 0, none, 0, by omega, by omega, rfl, rfl, rfl, ITab.nil _ _, Below.refl _ _⟩
  case round =>
    obtain ⟨k, n, A, c, hk, hnk, rfl, rfl, hl, hT, hB⟩ := hrel
    by_cases hlt : k < 16
    · have i1 : (k : Int) < 16 := by omega
      obtain ⟨p, hp⟩ : ∃ p, p = 2 ^ k := ⟨_, rfl⟩
      have p1 : p < 65536 := by rw [hp]; exact Nat.pow_lt_pow_right (a := 2) (m := k) (n := 16) (by decide) hlt
      have w1 : IntKind.u16.wrap (2 ^ k) = (p : Int) := by rw [show (2 : Int) ^ k = (p : Int) by rw [hp]; simp]; exact wrap16 p1
      obtain ⟨x, hx⟩ : ∃ x, x = s &&& p := ⟨_, rfl⟩
      have a1 : bits .and .u16 (s : Int) (p : Int) = (x : Int) := by rw [hx]; exact and16 hs p1
      have BX := Lib.hid (show x = 0 ↔ s.testBit k = false by rw [hx, hp]; exact HB.out k)
      obtain ⟨t1, t2⟩ := HT.out k
      have DL := Lib.hid hl
      have ZT := Lib.hid hT
      have BB := Lib.hid hB
      clear hp p1 hx hl hT hB
      cases hb : s.testBit k with
      | false =>
        have x0 : ((x : Int) != 0) = false := by have := BX.out.2 hb; simp [this]
        have EQ := Lib.hid (t2 hb)
        clear t1 t2 hb
        go_wp2
        go_roundw
        case rel => exact ⟨k + 1, n, A, c, by omega, by omega, by go_num, rfl, by rw [EQ.out]; exact DL.out, by rw [EQ.out]; exact ZT.out, BB.out⟩
        case measure => simp [intOf]; omega
      | true =>
        have x0 : ((x : Int) != 0) = true := by
          have : x ≠ 0 := fun e => by have := BX.out.1 e; rw [hb] at this; cases this
          simpa using this
        have EQ := Lib.hid (t1 hb)
        clear t1 t2 hb
        go_wp2_with (refine Stripe.wpList_append_int rfl _ _ (by rfl) (y := (k : Int)) k rfl (B := W.heap.size) (v := .slice A n c) (l := hasTo s k) (n := n) rfl rfl ZT.out DL.out (by omega) BB.out.size BB.out (Nat.le_refl _) ?_; intro A3 c3 w3 Z3 G3 B3)
        go_roundw
        case rel => exact ⟨k + 1, n + 1, A3, c3, by omega, by omega, by go_num, rfl, by rw [EQ.out, List.length_append, DL.out]; rfl, by rw [EQ.out]; exact Z3.out, B3.out⟩
        case measure => simp [intOf]; omega
    · obtain rfl : k = 16 := by omega
      have e : hasTo s 16 = has s := rfl
      rw [e] at hl hT
      have ZT := Lib.hid hT
      have BB := Lib.hid hB
      have DL := Lib.hid hl
      clear hl hT hB e
      go_wp2
      go_ret
      rw [DL.out]
      exact ⟨A, c, rfl, ZT.out, BB.out⟩
/-- The letters of its answer. -/
theorem mhas_n (s : Nat) (n : Nat) (W : World) (hs : s < 65536) (hn : (has s).length = n) :
    Calls Try.prog 17 #[.int .u16 s] W fun e W' => ∃ A c, e = .returned (.slice A n c) ∧ Reads W' A ((has s).map nat64) ∧ Below W.heap.size W W' := by
  subst hn
  refine (mhas_c s W hs).mono ?_
  rintro e w ⟨A, c, rfl, hT, hb⟩
  exact ⟨A, c, rfl, hT.reads, hb⟩

/-! ### MShare -/
def share (a b : Nat) : Bool := decide (a &&& b ≠ 0)
theorem share_iff {a b : Nat} (ha : a < 65536) : share a b = true ↔ ∃ k, k ∈ has a ∧ k ∈ has b := by
  unfold share
  rw [decide_eq_true_iff]
  constructor
  · intro h
    refine Classical.byContradiction fun hn => h ?_
    apply Nat.eq_of_testBit_eq
    intro i
    rw [Nat.testBit_and, Nat.zero_testBit]
    cases h1 : a.testBit i with
    | false => rfl
    | true =>
      cases h2 : b.testBit i with
      | false => rfl
      | true =>
        have hi := (mem_has ha).2 h1
        exact absurd ⟨i, hi, by unfold has at hi ⊢; rw [List.mem_filter] at hi ⊢; exact ⟨hi.1, h2⟩⟩ hn
  · rintro ⟨k, h1, h2⟩ e
    unfold has at h1 h2
    have h1 := (List.mem_filter.1 h1).2
    have h2 := (List.mem_filter.1 h2).2
    have : (a &&& b).testBit k = true := by rw [Nat.testBit_and, show a.testBit k = true from h1, show b.testBit k = true from h2]; rfl
    rw [e] at this
    simp at this
/-- Nobody of the first so many of a list is in another one. -/
def Free (l m : List Nat) : Prop := ∀ x ∈ l, ¬ x ∈ m
theorem Free.snoc {l m : List Nat} {k : Nat} {x : Nat} (h : Free (l.take k) m) (hk : l[k]? = some x) (hx : ¬ x ∈ m) : Free (l.take (k + 1)) m := fun y hy => by
  rw [List.take_add_one, hk] at hy
  rcases List.mem_append.1 hy with hy | hy
  · exact h y hy
  · simp at hy; subst hy; exact hx
theorem not_mem_snoc {m : List Nat} {j : Nat} {x y : Nat} (h : ¬ x ∈ m.take j) (hy : m[j]? = some y) (hne : x ≠ y) : ¬ x ∈ m.take (j + 1) := fun hm => by
  rw [List.take_add_one, hy] at hm
  rcases List.mem_append.1 hm with hm | hm
  · exact h hm
  · simp at hm; exact hne hm
set_option maxRecDepth 100000 in
set_option maxHeartbeats 8000000 in
theorem mshare_c (a b : Nat) (W : World) (ha : a < 65536) (hb : b < 65536) (r : Bool) (hr : share a b = r) :
    Calls Try.prog 19 #[.int .u16 a, .int .u16 b] W (Gave (.bool r) W) := by
  have SI := Lib.hid (share_iff (b := b) ha)
  have HR := Lib.hid hr
  obtain ⟨n, hn⟩ : ∃ n, (has a).length = n := ⟨_, rfl⟩
  obtain ⟨m, hm⟩ : ∃ m, (has b).length = m := ⟨_, rfl⟩
  have n16 : n ≤ 16 := by rw [← hn]; exact has_le a
  have m16 : m ≤ 16 := by rw [← hm]; exact has_le b
  have HA := Lib.hid (fun V => mhas_n a n V ha hn)
  have HB := Lib.hid (fun V => mhas_n b m V hb hm)
  have HN := Lib.hid hn
  have HM := Lib.hid hm
  obtain ⟨la, hla⟩ : ∃ la, la = has a := ⟨_, rfl⟩
  obtain ⟨lb, hlb⟩ : ∃ lb, lb = has b := ⟨_, rfl⟩
  rw [← hla, ← hlb] at SI
  rw [← hla] at HA HN
  rw [← hlb] at HB HM
  clear hr hn hm hla hlb ha hb
  go_enter Try.func19, Try.ntmps19
  go_wp2_with fail
  refine (HA.out _).mono ?_
  rintro e w1 ⟨A1, c1, rfl, hr1, hb1⟩
  have R1 := Lib.hid hr1
  have B1 := Lib.hid hb1
  clear hr1 hb1
  go_wp2
  go_loopw [12] (fun i wr => ∃ k : Nat, k ≤ n ∧ i = .int .i64 k ∧ Free (la.take k) lb ∧ Below w1.heap.size w1 wr) (fun i _ => n - (intOf i).toNat)
  case atStart => exact ⟨0, by omega, rfl, fun x hx => by simp at hx, Below.refl _ _⟩
  case round =>
    obtain ⟨k, hk, rfl, hF, hB⟩ := hrel
    have FF := Lib.hid hF
    have BB := Lib.hid hB
    by_cases hlt : k < n
    · have kl : k < la.length := by rw [HN.out]; exact hlt
      obtain ⟨x, hx⟩ : ∃ x, la[k]? = some x := ⟨_, List.getElem?_eq_getElem kl⟩
      obtain ⟨b1, o1, rfl, _, y1⟩ := (R1.out.below hB) k (.int .i64 (x : Int)) (by rw [List.getElem?_map, hx]; rfl)
      have HX := Lib.hid hx
      have i1 : (k : Int) < (n : Int) := by omega
      clear kl hx hF hB
      go_wp2_with fail
      refine (HB.out _).mono ?_
      rintro e w2 ⟨A2, c2, rfl, hr2, hb2⟩
      have R2 := Lib.hid hr2
      have B2 := Lib.hid (BB.out.trans (hb2.mono BB.out.size))
      clear hr2 hb2
      go_wp2
      clear y1
      go_loopw [19] (fun i wq => ∃ j : Nat, j ≤ m ∧ i = .int .i64 j ∧ ¬ x ∈ lb.take j ∧ Below w2.heap.size w2 wq) (fun i _ => m - (intOf i).toNat)
      case atStart => exact ⟨0, by omega, rfl, by simp, Below.refl _ _⟩
      case round =>
        obtain ⟨j, hj, rfl, hN, hB'⟩ := hrel
        have NN := Lib.hid hN
        have BQ := Lib.hid (B2.out.trans (hB'.mono B2.out.size))
        have BJ := Lib.hid hB'
        by_cases hlj : j < m
        · have jl : j < lb.length := by rw [HM.out]; exact hlj
          obtain ⟨y, hy⟩ : ∃ y, lb[j]? = some y := ⟨_, List.getElem?_eq_getElem jl⟩
          obtain ⟨b2, o2, rfl, _, z1⟩ := (R2.out.below hB') j (.int .i64 (y : Int)) (by rw [List.getElem?_map, hy]; rfl)
          have HY := Lib.hid hy
          have j1 : (j : Int) < (m : Int) := by omega
          clear jl hy hN hB'
          by_cases hxy : x = y
          · have q0 : ((x : Int) == (y : Int)) = true := by simp [hxy]
            have q0n : (x == y) = true := by simp [hxy]
            have RT := Lib.hid (show r = true by rw [← HR.out]; exact SI.out.2 ⟨x, List.mem_of_getElem? HX.out, by rw [hxy]; exact List.mem_of_getElem? HY.out⟩)
            clear hxy
            go_wp2
            go_ret
            exact ⟨by rw [RT.out]; rfl, B1.out.trans (BQ.out.mono B1.out.size)⟩
          · have q0 : ((x : Int) == (y : Int)) = false := by simp; omega
            have q0n : (x == y) = false := by simpa using hxy
            have NS := Lib.hid (not_mem_snoc NN.out HY.out hxy)
            clear hxy
            go_wp2
            go_roundw
            case rel => exact ⟨j + 1, by omega, by go_num, NS.out, BJ.out⟩
            case measure => simp [intOf]; omega
        · obtain rfl : j = m := by omega
          have NA := Lib.hid (show ¬ x ∈ lb by have := NN.out; rwa [List.take_of_length_le (by rw [HM.out]; omega)] at this)
          have FS2 := Lib.hid (FF.out.snoc HX.out NA.out)
          clear hN hB'
          go_wp2
          go_roundw
          case rel => exact ⟨k + 1, by omega, by go_num, FS2.out, BQ.out⟩
          case measure => simp [intOf]; omega
    · obtain rfl : k = n := by omega
      have RF := Lib.hid (show r = false by
        rw [← HR.out]
        rw [List.take_of_length_le (by rw [HN.out]; omega)] at hF
        cases hs : share a b with
        | false => rfl
        | true =>
          obtain ⟨x, h1, h2⟩ := SI.out.1 hs
          exact absurd h2 (hF x h1))
      clear hF hB
      go_wp2
      go_ret
      exact ⟨by rw [RF.out]; rfl, B1.out.trans (BB.out.mono B1.out.size)⟩

/-! ### MWithin -/
theorem or_part {a b : Nat} : a ||| b = b ↔ a &&& b = a := by
  constructor
  · intro h
    apply Nat.eq_of_testBit_eq
    intro i
    have := congrArg (fun x => x.testBit i) h
    simp only [Nat.testBit_or] at this
    rw [Nat.testBit_and]
    revert this
    cases a.testBit i <;> cases b.testBit i <;> simp
  · intro h
    apply Nat.eq_of_testBit_eq
    intro i
    have := congrArg (fun x => x.testBit i) h
    simp only [Nat.testBit_and] at this
    rw [Nat.testBit_or]
    revert this
    cases a.testBit i <;> cases b.testBit i <;> simp
theorem mwithin_c (a b : Nat) (W : World) (ha : a < 65536) (hb : b < 65536) (r : Bool) (hr : decide (Within a b) = r) :
    Calls Try.prog 40 #[.int .u16 a, .int .u16 b] W (fun e W' => e = .returned (.bool r) ∧ W = W') := by
  obtain ⟨x, hx⟩ : ∃ x, x = a ||| b := ⟨_, rfl⟩
  have a1 : bits .or .u16 (a : Int) (b : Int) = (x : Int) := by rw [hx]; exact or16 ha hb
  by_cases h1 : x = b
  · have h3 := or_part.1 (hx ▸ h1)
    have q1 : ((x : Int) == (b : Int)) = true := by simp [h1]
    have q1n : (x == b) = true := by simp [h1]
    by_cases h2 : a = b
    · have q2 : ((a : Int) != (b : Int)) = false := by simp [h2]
      have q2n : (a != b) = false := by simp [h2]
      obtain rfl : r = false := by rw [← hr]; exact decide_eq_false fun h => h.2 h2
      clear hr h1 h2 h3 hx
      go_enter Try.func40, Try.ntmps40
      go_wp2
      go_ret
      exact ⟨rfl, rfl⟩
    · have q2 : ((a : Int) != (b : Int)) = true := by simp; omega
      have q2n : (a != b) = true := by simpa using h2
      obtain rfl : r = true := by rw [← hr]; exact decide_eq_true ⟨h3, h2⟩
      clear hr h1 h2 h3 hx
      go_enter Try.func40, Try.ntmps40
      go_wp2
      go_ret
      exact ⟨rfl, rfl⟩
  · have q1 : ((x : Int) == (b : Int)) = false := by simp; omega
    have q1n : (x == b) = false := by simpa using h1
    obtain rfl : r = false := by rw [← hr]; exact decide_eq_false fun h => h1 (hx.trans (or_part.2 h.1))
    clear hr h1 hx
    go_enter Try.func40, Try.ntmps40
    go_wp2
    go_ret
    exact ⟨rfl, rfl⟩
end Go.Proofs.Yteggbepibfpjcaa.Qr
