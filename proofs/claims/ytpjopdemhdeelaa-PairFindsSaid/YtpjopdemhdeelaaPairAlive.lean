/-
  The check of a few known values that the statements about package pair begin with: it answers true.
-/
import Derived.Test.YtpjopdemhdeelaaPairSpec
namespace Go.Proofs.Ytpjopdemhdeelaa.Pair
set_option linter.unusedVariables false
open Go.RowKit Gf Mem Poly Cdr

theorem rds_made (W : World) (us : List Value) (rows : List (List UInt8)) (h : AreRows W us rows) : Rds (W.alloc (.cells us.toArray 23)) (some ⟨W.heap.size, 0, none⟩) rows := by
  have k := Known.made W 23 us.toArray
  refine ⟨us, fun j v hv => ⟨W.heap.size, 0, rfl, k.lt, ?_⟩, h.below ((Below.refl _ _).alloc (Nat.le_refl _) _)⟩
  rw [Nat.zero_add, k.cell]; simpa using hv
theorem row_made (W : World) (k : Nat) (l : List UInt8) (h : W.heap.size = k) (hl : l.length ≤ 9223372036854775807) : IsRow (W.alloc (.cells (l.map byt).toArray 5)) (.slice (some ⟨k, 0, none⟩) l.length l.length) l := by
  subst h; exact ⟨_, _, rfl, Nat.le_refl _, hl, (Own.new W l).reads⟩
theorem reads_made (W : World) (k : Nat) (l : List UInt8) (h : W.heap.size = k) : Reads (W.alloc (.cells (l.map byt).toArray 5)) (some ⟨k, 0, none⟩) (l.map byt) := by
  subst h; exact (Own.new W l).reads
def r124 : List (List UInt8) := [[1], [2], [4]]
theorem r124_sane : Sane r124 := ⟨by decide, by decide⟩
theorem r124_ok : wrongE r124 = 0 := by decide
theorem r124_p : par 1 r124 = [7] := by decide +kernel
theorem r124_q : par 2 r124 = [21] := by decide +kernel
def lit124 (W : World) : World := (((W.alloc (.cells #[byt 1] 5)).alloc (.cells #[byt 2] 5)).alloc (.cells #[byt 4] 5)).alloc (.cells #[.slice (some ⟨W.heap.size, 0, none⟩) 1 1, .slice (some ⟨W.heap.size + 1, 0, none⟩) 1 1, .slice (some ⟨W.heap.size + 2, 0, none⟩) 1 1] 23)
theorem lit124_below (W : World) : Below W.heap.size W (lit124 W) := ((((Below.refl _ _).alloc (Nat.le_refl _) _).alloc (by simp) _).alloc (by simp; omega) _).alloc (by simp; omega) _
theorem lit124_rds (W : World) : Rds (lit124 W) (some ⟨W.heap.size + 3, 0, none⟩) r124 := by
  have h1 := row_made W W.heap.size [1] rfl (by decide)
  have h2 := row_made (W.alloc (.cells #[byt 1] 5)) (W.heap.size + 1) [2] (by simp) (by decide)
  have h3 := row_made ((W.alloc (.cells #[byt 1] 5)).alloc (.cells #[byt 2] 5)) (W.heap.size + 2) [4] (by simp) (by decide)
  have al : ∀ (V : World) (o : Obj), Below V.heap.size V (V.alloc o) := fun V o => (Below.refl _ _).alloc (Nat.le_refl _) _
  have h1' := (h1.below (al _ (.cells #[byt 2] 5))).below (al _ (.cells #[byt 4] 5))
  have h2' := h2.below (al _ (.cells #[byt 4] 5))
  have h := rds_made _ _ _ (((AreRows.nil.snoc h1').snoc h2').snoc h3)
  have e : (((W.alloc (.cells #[byt 1] 5)).alloc (.cells #[byt 2] 5)).alloc (.cells #[byt 4] 5)).heap.size = W.heap.size + 3 := by simp
  rw [show (((W.alloc (.cells (([1] : List UInt8).map byt).toArray 5)).alloc (.cells #[byt 2] 5)).alloc (.cells #[byt 4] 5)).heap.size = W.heap.size + 3 by simp] at h
  exact h

set_option maxRecDepth 100000 in
set_option maxHeartbeats 4000000 in
theorem alive_c (hMake : MakeSpec) (hTwo : TwoSpec) (W : World) :
    Calls Try.prog 19 #[] W (Law.Yes W) := by
  have h1 := hMake (some ⟨W.heap.size + 3, 0, none⟩) r124 3 (lit124 W) r124_sane (by decide) (lit124_rds W)
  have H1 := Lib.hid h1
  have H2 := Lib.hid hTwo
  have HR := Lib.hid (lit124_rds W)
  clear h1 hMake hTwo
  go_enter Try.func19, Try.ntmps19
  go_wp2_with fail
  refine H1.out.mono ?_
  rintro e w1 ⟨A1, D1, c1, d1, p, q, err, rfl, _, _, hRP, hRQ, hB1, hm⟩
  obtain ⟨rfl, rfl, rfl⟩ := make_ok hm r124_ok
  rw [r124_p] at hRP ⊢
  rw [r124_q] at hRQ ⊢
  have RP := Lib.hid hRP
  have RQ := Lib.hid hRQ
  have B1 := Lib.hid ((lit124_below W).trans (hB1.mono (lit124_below W).size))
  have HR1 := Lib.hid (HR.out.below hB1)
  clear hm hRP hRQ hB1
  go_wp2_with fail
  have al : ∀ (V : World) (o : Obj), Below V.heap.size V (V.alloc o) := fun V o => (Below.refl _ _).alloc (Nat.le_refl _) _
  have x1 := reads_made w1 w1.heap.size [7] rfl
  have x2 := reads_made (w1.alloc (.cells #[byt 7] 5)) (w1.heap.size + 1) [21] (by simp)
  have h2 := H2.out (some ⟨W.heap.size + 3, 0, none⟩) (some ⟨w1.heap.size, 0, none⟩) (some ⟨w1.heap.size + 1, 0, none⟩) r124 [7] [21] 3 1 1 0 2 _ r124_sane (by decide) (by decide) (by decide) (by decide) (by decide) (by decide) (by decide)
    ((HR1.out.below (al _ _)).below (al _ _)) (x1.below (al _ _)) x2
  refine h2.mono ?_
  clear x1 x2 h2
  rintro e w2 ⟨A2, D2, c2, d2, u, v, err, rfl, _, _, hRU, hRV, hB2, ht⟩
  obtain ⟨rfl, hu, hv, e1, e2⟩ := two_ok (a := 0) (b := 2) ht r124_ok (by decide) (by decide) (by decide) (by decide) (by decide)
  obtain ⟨rfl, rfl⟩ := two_unique (rows := r124) (a := 0) (b := 2) (d := [1]) (c := [4]) (by decide) rfl rfl (by decide) (by decide) (by decide) hu hv (by rw [e1, r124_p]) (by rw [e2, r124_q])
  have RU := Lib.hid hRU
  have RV := Lib.hid hRV
  have RP2 := Lib.hid (((RP.out.below (al _ (.cells #[byt 7] 5))).below (al _ (.cells #[byt 21] 5))).below hB2)
  have RQ2 := Lib.hid (((RQ.out.below (al _ (.cells #[byt 7] 5))).below (al _ (.cells #[byt 21] 5))).below hB2)
  have B2 := Lib.hid (((B1.out.alloc B1.out.size _).alloc (by simp; have := B1.out.size; omega) _).trans (hB2.mono (by simp; have := B1.out.size; omega)) : Below W.heap.size W w2)
  clear ht hu hv e1 e2 hRU hRV hB2 al
  go_wp2_with fail
  refine (equal_same A1 (some ⟨w2.heap.size, 0, none⟩) [7] [7] _ _ _ (RP2.out.alloc _) (reads_made w2 w2.heap.size [7] rfl) rfl).mono ?_
  rintro e w' ⟨rfl, rfl⟩
  go_wp2_with fail
  refine (equal_same D1 (some ⟨w2.heap.size + 1, 0, none⟩) [21] [21] _ _ _ ((RQ2.out.alloc _).alloc _) (reads_made (w2.alloc (.cells #[byt 7] 5)) (w2.heap.size + 1) [21] (by simp)) rfl).mono ?_
  rintro e w' ⟨rfl, rfl⟩
  go_wp2_with fail
  refine (equal_same A2 (some ⟨w2.heap.size + 2, 0, none⟩) [1] [1] _ _ _ (((RU.out.alloc _).alloc _).alloc _) (reads_made ((w2.alloc (.cells #[byt 7] 5)).alloc (.cells #[byt 21] 5)) (w2.heap.size + 2) [1] (by simp)) rfl).mono ?_
  rintro e w' ⟨rfl, rfl⟩
  go_wp2_with fail
  refine (equal_same D2 (some ⟨w2.heap.size + 3, 0, none⟩) [4] [4] _ _ _ ((((RV.out.alloc _).alloc _).alloc _).alloc _) (reads_made (((w2.alloc (.cells #[byt 7] 5)).alloc (.cells #[byt 21] 5)).alloc (.cells #[byt 1] 5)) (w2.heap.size + 3) [4] (by simp)) rfl).mono ?_
  rintro e w' ⟨rfl, rfl⟩
  go_wp2_with fail
  go_ret
  exact ⟨rfl, (((B2.out.alloc B2.out.size _).alloc (by simp; have := B2.out.size; omega) _).alloc (by simp; have := B2.out.size; omega) _).alloc (by simp; have := B2.out.size; omega) _⟩
end Go.Proofs.Ytpjopdemhdeelaa.Pair
