/-
  The check of a few known values that the statements about package curve begin with: it answers true.
-/
import Derived.Test.YtjfaadelhkjpfaaCurveSpec
import Derived.Test.YtjfaadelhkjpfaaBytesFns
import Derived.Test.YtjfaadelhkjpfaaLaw

namespace Go.Proofs.Ytjfaadelhkjpfaa.Poly
set_option linter.unusedVariables false
open Go.RowKit Gf Mem

theorem bytes_lit (W : World) (l : List UInt8) : Reads (W.alloc (.cells (l.map byt).toArray 5)) (some ⟨W.heap.size, 0, none⟩) (l.map byt) := (Own.new W l).reads
theorem bytes_at (W : World) (k : Nat) (l : List UInt8) (h : W.heap.size = k) : Reads (W.alloc (.cells (l.map byt).toArray 5)) (some ⟨k, 0, none⟩) (l.map byt) := by subst h; exact bytes_lit W l
theorem thru_555 : Thru [0, 1, 2] [5, 5, 5] [5] := ⟨by decide, by decide, fun i x y hx hy => by
  rcases i with _ | _ | _ | i <;> simp at hx hy <;> subst hx hy <;> decide +kernel⟩
theorem nodup_012 : ([0, 1, 2] : List UInt8).Nodup := by decide
theorem sq_11 : trim (pmul [1, 1] [1, 1]) = [1, 0, 1] := by decide +kernel
theorem sum_77 : trim (padd [7] [7]) = [] := by decide +kernel
theorem at_123 : ev [1, 2, 3] 1 = 0 := by decide +kernel

set_option maxHeartbeats 1000000 in
theorem alive_c (hAt : AtSpec) (hSum : SumSpec) (hTimes : TimesSpec) (hThru : ThruSpec) (W : World) :
    Calls Try.prog 19 #[] W (Law.Yes W) := by
  have HA := Lib.hid hAt
  have HS := Lib.hid hSum
  have HT := Lib.hid hTimes
  have HH := Lib.hid hThru
  clear hAt hSum hTimes hThru
  go_enter Try.func19, Try.ntmps19
  go_wp2_with fail
  have r1 := bytes_at W W.heap.size [0, 1, 2] rfl
  have r2 := bytes_at (W.alloc (.cells (([0, 1, 2] : List UInt8).map byt).toArray 5)) (W.heap.size + 1) [5, 5, 5] (by simp)
  refine (HH.out (some ⟨W.heap.size, 0, none⟩) (some ⟨W.heap.size + 1, 0, none⟩) [0, 1, 2] [5, 5, 5] 3 3 _ (by decide) (by decide) (r1.alloc _) r2).mono ?_
  rintro e w1 ⟨A1, c1, r, err, rfl, hR, hB, hcase⟩
  rcases hcase with ⟨h1, _⟩ | ⟨_, h2, _⟩ | ⟨_, h2, rfl, h3⟩
  · exact absurd rfl h1
  · exact absurd nodup_012 h2
  · obtain rfl : r = [5] := thru_unique (xs := [0, 1, 2]) (ys := [5, 5, 5]) nodup_012 rfl h3 thru_555
    have HB := Lib.hid ((((Below.refl _ _).alloc (Nat.le_refl _) _).alloc (by simp) _).trans (hB.mono (by simp; omega)) : Below W.heap.size W w1)
    have HR := Lib.hid hR
    clear hR hB r1 r2 h3 h2
    go_wp2_with fail
    have r3 := bytes_at w1 w1.heap.size [5] rfl
    refine (equal_same A1 (some ⟨w1.heap.size, 0, none⟩) [5] [5] _ _ _ (HR.out.alloc _) r3 rfl).mono ?_
    rintro e w' ⟨rfl, rfl⟩
    clear r3
    go_wp2_with fail
    have hA := HA.out (some ⟨w1.heap.size + 1, 0, none⟩) [1, 2, 3] 3 1 _ (by decide) (bytes_at (w1.alloc (.cells #[byt 5] 5)) (w1.heap.size + 1) [1, 2, 3] (by simp))
    rw [at_123] at hA
    refine hA.mono ?_
    rintro e w2 ⟨rfl, hd2⟩
    have HB2 := Lib.hid (((HB.out.alloc HB.out.size _).alloc (by simp; have := HB.out.size; omega) _).trans (hd2.below _) : Below W.heap.size W w2)
    clear hA hd2
    go_wp2_with fail
    have hT := HT.out (some ⟨w2.heap.size, 0, none⟩) (some ⟨w2.heap.size + 1, 0, none⟩) [1, 1] [1, 1] 2 2 _ (by decide) (by decide) (by decide) (by decide) ((bytes_at w2 w2.heap.size [1, 1] rfl).alloc _) (bytes_at (w2.alloc (.cells #[byt 1, byt 1] 5)) (w2.heap.size + 1) [1, 1] (by simp))
    rw [sq_11] at hT
    refine hT.mono ?_
    rintro e w3 ⟨A3, c3, rfl, hR3, hB3⟩
    have HB3 := Lib.hid (((HB2.out.alloc HB2.out.size _).alloc (by simp; have := HB2.out.size; omega) _).trans (hB3.mono (by simp; have := HB2.out.size; omega)) : Below W.heap.size W w3)
    have HR3 := Lib.hid hR3
    clear hT hR3 hB3
    go_wp2_with fail
    refine (equal_same A3 (some ⟨w3.heap.size, 0, none⟩) [1, 0, 1] [1, 0, 1] _ _ _ (HR3.out.alloc _) (bytes_at w3 w3.heap.size [1, 0, 1] rfl) rfl).mono ?_
    rintro e w' ⟨rfl, rfl⟩
    go_wp2_with fail
    have hS := HS.out (some ⟨w3.heap.size + 1, 0, none⟩) (some ⟨w3.heap.size + 2, 0, none⟩) [7] [7] 1 1 _ (by decide) (by decide) ((bytes_at (w3.alloc (.cells #[byt 1, byt 0, byt 1] 5)) (w3.heap.size + 1) [7] (by simp)).alloc _) (bytes_at ((w3.alloc (.cells #[byt 1, byt 0, byt 1] 5)).alloc (.cells #[byt 7] 5)) (w3.heap.size + 2) [7] (by simp))
    rw [sum_77] at hS
    refine hS.mono ?_
    rintro e w4 ⟨A4, c4, rfl, hR4, hB4⟩
    have HB4 := Lib.hid ((((HB3.out.alloc HB3.out.size _).alloc (by simp; have := HB3.out.size; omega) _).alloc (by simp; have := HB3.out.size; omega) _).trans (hB4.mono (by simp; have := HB3.out.size; omega)) : Below W.heap.size W w4)
    clear hS hR4 hB4
    go_wp2_with fail
    go_ret
    exact ⟨rfl, HB4.out⟩
end Go.Proofs.Ytjfaadelhkjpfaa.Poly
