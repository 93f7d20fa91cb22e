/-
  Contracts of package ring: Right, start, Find.
-/
import Derived.Test.YtpnfcjodjgbdbaaRgB
import Derived.Test.YtpnfcjodjgbdbaaMix
import Derived.Test.YtpnfcjodjgbdbaaShSearch
namespace Go.Proofs.Ytpnfcjodjgbdbaa.Ring
set_option linter.unusedVariables false
set_option linter.unusedSimpArgs false
open Go.RowKit Mem
open Go.Sort (grow alloc_eq_grow grow_grow)

theorem right_yes (A : Option Addr) (ts : List Tk) (n ca : Nat) (W : World) (hn : ts.length = n) (hx : TRds W A ts) (h : Right ts) :
    Calls Try.prog 13 #[.slice A n ca] W (Gave (.bool true) W) := by
  have h4 : n ≤ 400 := by rw [← hn]; exact h.1
  have H := isSorted_c A ts n ca W hn (by omega) hx
  rw [sortB_yes h.2] at H
  have HH := Lib.hid H
  clear H hn hx h
  go_enter Try.func13, Try.ntmps13
  go_wp2_with (go_at_call 33; refine HH.out.mono ?_; rintro e w' ⟨rfl, hb⟩; have HB := Lib.hid hb; clear hb)
  go_ret
  exact ⟨rfl, HB.out⟩
theorem right_no (A : Option Addr) (ts : List Tk) (n ca : Nat) (W : World) (hn : ts.length = n) (hbig : n ≤ maxLen) (hx : TRds W A ts) (h : ¬ Right ts) :
    Calls Try.prog 13 #[.slice A n ca] W (Gave (.bool false) W) := by
  unfold maxLen at hbig
  by_cases h4 : n ≤ 400
  · have hs : ¬ Sorted ts := fun hs => h ⟨by omega, hs⟩
    have H := isSorted_c A ts n ca W hn (by omega) hx
    rw [sortB_no hs] at H
    have HH := Lib.hid H
    clear H hn hx h hs
    go_enter Try.func13, Try.ntmps13
    go_wp2_with (go_at_call 33; refine HH.out.mono ?_; rintro e w' ⟨rfl, hb⟩; have HB := Lib.hid hb; clear hb)
    go_ret
    exact ⟨rfl, HB.out⟩
  · clear hn hx h
    go_enter Try.func13, Try.ntmps13
    go_wp2
    go_ret
    exact ⟨rfl, Below.refl _ _⟩

def pAt (p : UInt64) (ts : List Tk) (i : Nat) : Bool := decide (p.toNat ≤ (ts.toArray[i]!).1.toNat)
theorem pAt_at {p : UInt64} {ts : List Tk} {i : Nat} {t : Tk} (h : ts[i]? = some t) : pAt p ts i = decide (p.toNat ≤ t.1.toNat) := by
  unfold pAt
  obtain ⟨h1, rfl⟩ := List.getElem?_eq_some_iff.1 h
  rw [getElem!_pos ts.toArray i (by simpa using h1)]; simp
theorem pAt_count (p : UInt64) (ts : List Tk) : (List.range ts.length).countP (fun i => !pAt p ts i) = ahd p ts := by
  have := Lib.countP_range ts.toArray (fun t : Tk => !decide (p.toNat ≤ t.1.toNat))
  simpa [pAt, ahd] using this
theorem pAt_mono {p : UInt64} {ts : List Tk} (h : Sorted ts) (a b : Nat) (hab : a ≤ b) (hb : b < ts.length) (ha : pAt p ts a = true) : pAt p ts b = true := by
  rcases Nat.lt_or_ge a b with h1 | h1
  · have e1 := List.getElem?_eq_getElem (show a < ts.length by omega)
    have e2 := List.getElem?_eq_getElem hb
    rw [pAt_at e1] at ha
    rw [pAt_at e2]
    have := ltB_not.1 (sorted_at h e1 e2 h1)
    have ha' := of_decide_eq_true ha
    exact decide_eq_true (by omega)
  · obtain rfl : a = b := by omega
    exact ha
theorem clos_c (b1 b2 : Nat) (A : Option Addr) (ts : List Tk) (n ca : Nat) (p : UInt64) (i : Nat) (V : World) (h1 : V.cell? ⟨b1, 0, none⟩ = some (.slice A n ca)) (h2 : V.cell? ⟨b2, 0, none⟩ = some (.int .u64 p.toNat)) (hx : TRds V A ts) (hn : ts.length = n) (hi : i < n) :
    Calls Try.prog 51 #[.int .i64 i, .pointer (some ⟨b1, 0, none⟩), .pointer (some ⟨b2, 0, none⟩)] V fun e w' => e = .returned (.bool (pAt p ts i)) ∧ ∃ q, w' = V.drewN q := by
  have k1 : i < ts.length := by omega
  obtain ⟨b, o, rfl, _, x0, x1⟩ := hx.tk k1
  have EX := Lib.hid (pAt_at (p := p) (show ts[i]? = some ts[i] from List.getElem?_eq_getElem k1))
  generalize hu : ts[i] = u at *
  obtain ⟨u0, u1⟩ := u
  have i1 : (i : Int) < (n : Int) := by omega
  clear hu hx hn k1
  by_cases hp : p.toNat ≤ u0.toNat
  · have E := Lib.hid (show pAt p ts i = true by rw [EX.out]; exact decide_eq_true hp)
    clear EX
    have i2 : (p.toNat : Int) ≤ (u0.toNat : Int) := by omega
    go_enter Try.func51, Try.ntmps51
    go_wp2
    go_quiet (fail)
    go_wp2
    go_ret
    exact ⟨by rw [E.out]; rfl, nq, rfl⟩
  · have E := Lib.hid (show pAt p ts i = false by rw [EX.out]; exact decide_eq_false hp)
    clear EX
    have i2 : ¬ (p.toNat : Int) ≤ (u0.toNat : Int) := by omega
    go_enter Try.func51, Try.ntmps51
    go_wp2
    go_quiet (fail)
    go_wp2
    go_ret
    exact ⟨by rw [E.out]; rfl, nq, rfl⟩
theorem search_c (b1 b2 : Nat) (A : Option Addr) (ts : List Tk) (n ca : Nat) (p : UInt64) (V : World) (h1 : V.cell? ⟨b1, 0, none⟩ = some (.slice A n ca)) (h2 : V.cell? ⟨b2, 0, none⟩ = some (.int .u64 p.toNat)) (hx : TRds V A ts) (hn : ts.length = n) (h4 : n ≤ 400) (hs : Sorted ts) :
    Calls Try.prog 50 #[.int .i64 n, .func (.func 51) #[] #[.pointer (some ⟨b1, 0, none⟩), .pointer (some ⟨b2, 0, none⟩)]] V (Gave (.int .i64 (ahd p ts)) V) := by
  have H := Any.sort_Search Try.search 51 #[.pointer (some ⟨b1, 0, none⟩), .pointer (some ⟨b2, 0, none⟩)] n (pAt p ts) V (enters_of Try.func51 (by kernel_rfl) rfl) (by omega)
    (fun m os i hi => by
      have hb : Below V.heap.size V (grow (V.drewN m) os) := below_grow (Below.refl _ _) (Nat.le_refl _) m os
      have c1 := (hb.cell (p := ⟨b1, 0, none⟩) (World.block_lt_of_cell? _ _ h1)).trans h1
      have c2 := (hb.cell (p := ⟨b2, 0, none⟩) (World.block_lt_of_cell? _ _ h2)).trans h2
      exact (clos_c b1 b2 A ts n ca p i _ c1 c2 (hx.below hb) hn hi).mono fun _ _ ⟨e, q, hw⟩ => ⟨e, q, #[], by rw [hw, Sort.grow_empty]⟩)
    (fun a b hab hb ha => pAt_mono hs a b hab (by omega) ha)
  refine H.mono ?_
  rintro e w' ⟨rfl, q, os, rfl⟩
  refine ⟨?_, below_grow (Below.refl _ _) (Nat.le_refl _) q os⟩
  rw [← hn, pAt_count]
end Go.Proofs.Ytpnfcjodjgbdbaa.Ring
