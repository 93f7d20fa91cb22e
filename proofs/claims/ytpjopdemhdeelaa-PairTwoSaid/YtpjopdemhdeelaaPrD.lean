/-
  Package pair: Make, One, Two, Who.
-/
import Derived.Test.YtpjopdemhdeelaaPrC
import Derived.Deep.RegionHeld3
import Derived.Deep.DrawnRows
namespace Go.Proofs.Ytpjopdemhdeelaa.Pair
set_option linter.unusedVariables false
open Go.RowKit Gf Mem Poly Cdr
attribute [local go_sem] xor8_nat
attribute [local go_sem ↓] Go.wp_at_zero Go.wp_at_succ

/-- A row of n bytes of the call's own. -/
def NewRowN (l : List UInt8) (n : Nat) (W : World) (e : Ending) (W' : World) : Prop := ∃ g, e = .returned (.slice (some ⟨g, 0, none⟩) n n) ∧ W.heap.size ≤ g ∧ Own W' g l ∧ Below W.heap.size W W'
theorem newRowN {l : List UInt8} {n : Nat} {W : World} {e : Ending} {W' : World} (h : NewRow l W e W') (hn : l.length = n) : NewRowN l n W e W' := by subst hn; exact h
/-- Disks of n bytes each. -/
structure Fit (rows : List (List UInt8)) (n : Nat) : Prop where
  pos : 0 < rows.length
  few : rows.length ≤ 255
  even : ∀ (k : Nat) (r : List UInt8), rows[k]? = some r → r.length = n
  small : n ≤ 140737488351232
theorem Fit.wide {rows : List (List UInt8)} {n : Nat} (F : Fit rows n) : Pair.wide rows = n := wide_of F.pos F.even
theorem fit_of {rows : List (List UInt8)} (hs : Sane rows) (h : wrongE rows = 0) : Fit rows (Pair.wide rows) := by
  obtain ⟨h0, hbig, hev⟩ := wrongE_ok h
  exact ⟨h0, hbig, fun k r => even_len hev, hs.head⟩
theorem sum_all (A : Option Addr) (rows : List (List UInt8)) (ca n : Nat) (F : Fit rows n) (W : World) (hR : Rds W A rows) : Calls Try.prog 23 #[.slice A rows.length ca, .slice none 0 0] W (NewRowN (par 1 rows) n W) := by
  have h := sum_c A none rows [] ca 0 0 n F.pos F.few F.even F.small rfl (by simp) W hR Reads.nil
  rw [lose_nil] at h
  exact h.mono fun e w' k => newRowN k (by rw [par_len, wide_of F.pos F.even])
theorem weighted_all (A : Option Addr) (rows : List (List UInt8)) (ca n : Nat) (F : Fit rows n) (W : World) (hR : Rds W A rows) : Calls Try.prog 24 #[.slice A rows.length ca, .slice none 0 0] W (NewRowN (par 2 rows) n W) := by
  have h := weightedSum_c A none rows [] ca 0 0 n F.pos F.few F.even F.small rfl (by simp) W hR Reads.nil
  rw [lose_nil] at h
  exact h.mono fun e w' k => newRowN k (by rw [par_len, wide_of F.pos F.even])
theorem sum_one (A : Option Addr) (rows : List (List UInt8)) (ca n : Nat) (F : Fit rows n) (W : World) (hR : Rds W A rows) (a : Nat) (L : Option Addr) (hL : Reads W L [Value.int .i64 (a : Int)]) : Calls Try.prog 23 #[.slice A rows.length ca, .slice L 1 1] W (NewRowN (par 1 (rows.set a (List.replicate n 0))) n W) := by
  have h := sum_c A L rows [(a : Int)] ca 1 1 n F.pos F.few F.even F.small rfl (by simp) W hR hL
  rw [lose_one rows a F.even] at h
  exact h.mono fun e w' k => newRowN k (by rw [par_len, wide_set (by rw [List.length_replicate, wide_of F.pos F.even]), wide_of F.pos F.even])
theorem sum_two (A : Option Addr) (rows : List (List UInt8)) (ca n : Nat) (F : Fit rows n) (W : World) (hR : Rds W A rows) (a b : Nat) (L : Option Addr) (hL : Reads W L [Value.int .i64 (a : Int), Value.int .i64 (b : Int)]) : Calls Try.prog 23 #[.slice A rows.length ca, .slice L 2 2] W (NewRowN (par 1 ((rows.set a (List.replicate n 0)).set b (List.replicate n 0))) n W) := by
  have h := sum_c A L rows [(a : Int), (b : Int)] ca 2 2 n F.pos F.few F.even F.small rfl (by simp) W hR hL
  rw [lose_two rows a b F.even] at h
  have hz : (List.replicate n (0 : UInt8)).length = wide rows := by rw [List.length_replicate, wide_of F.pos F.even]
  exact h.mono fun e w' k => newRowN k (by rw [par_len, wide_set (by rw [wide_set hz]; exact hz), wide_set hz, wide_of F.pos F.even])
theorem weighted_two (A : Option Addr) (rows : List (List UInt8)) (ca n : Nat) (F : Fit rows n) (W : World) (hR : Rds W A rows) (a b : Nat) (L : Option Addr) (hL : Reads W L [Value.int .i64 (a : Int), Value.int .i64 (b : Int)]) : Calls Try.prog 24 #[.slice A rows.length ca, .slice L 2 2] W (NewRowN (par 2 ((rows.set a (List.replicate n 0)).set b (List.replicate n 0))) n W) := by
  have h := weightedSum_c A L rows [(a : Int), (b : Int)] ca 2 2 n F.pos F.few F.even F.small rfl (by simp) W hR hL
  rw [lose_two rows a b F.even] at h
  have hz : (List.replicate n (0 : UInt8)).length = wide rows := by rw [List.length_replicate, wide_of F.pos F.even]
  exact h.mono fun e w' k => newRowN k (by rw [par_len, wide_set (by rw [wide_set hz]; exact hz), wide_set hz, wide_of F.pos F.even])
theorem sane_wide {rows : List (List UInt8)} (h : Sane rows) : wide rows ≤ 140737488351232 := h.head

set_option maxHeartbeats 1000000 in
theorem make_c : MakeSpec := by
  intro A rows ca W hs hc hR
  have hw := wrong_w A rows ca hs.1 W hR
  rcases wrongE_012 rows with h | h | h
  · have F := fit_of hs h
    have hn := F.small
    rw [h] at hw
    have HW := Lib.hid hw
    have H1 := Lib.hid (sum_all A rows ca (wide rows) F W hR)
    have H2 := Lib.hid (fun V hV => weighted_all A rows ca (wide rows) F V hV)
    have HR := Lib.hid hR
    have HE := Lib.hid h
    clear hw hR hs h F
    generalize hN : rows.length = l at *
    generalize hWd : wide rows = n at *
    have HWd := Lib.hid hWd
    clear hN hWd
    go_enter Try.func9, Try.ntmps9
    go_wp2_with fail
    refine HW.out.mono ?_
    rintro e w' ⟨rfl, rfl⟩
    go_wp2_with fail
    refine H1.out.mono ?_
    rintro e w1 ⟨g, rfl, hg, hO, hB⟩
    have HO := Lib.hid hO
    have HB := Lib.hid hB
    clear hO hB
    go_wp2_with fail
    refine (H2.out w1 (HR.out.below HB.out)).mono ?_
    rintro e w2 ⟨g2, rfl, hg2, hO2, hB2⟩
    have HO2 := Lib.hid hO2
    have HB2 := Lib.hid hB2
    clear hO2 hB2
    go_wp2_with fail
    have l1 : (par 1 rows).length = n := by rw [par_len, HWd.out]
    have l2 : (par 2 rows).length = n := by rw [par_len, HWd.out]
    have e3 : Ending.returned (.tuple #[.slice (some ⟨g, 0, none⟩) n n, .slice (some ⟨g2, 0, none⟩) n n, .int .i64 0]) = .returned (.tuple #[.slice (some ⟨g, 0, none⟩) (par 1 rows).length n, .slice (some ⟨g2, 0, none⟩) (par 2 rows).length n, .int .i64 0]) := by rw [l1, l2]
    have E3 := Lib.hid e3
    have L1 := Lib.hid l1
    have L2 := Lib.hid l2
    clear e3 l1 l2
    go_ret3
    exact ⟨some ⟨g, 0, none⟩, some ⟨g2, 0, none⟩, n, n, par 1 rows, par 2 rows, 0, E3.out, by rw [L1.out]; exact Nat.le_refl _, by rw [L2.out]; exact Nat.le_refl _, (HO.out.later HB2.out).reads, HO2.out.reads, HB.out.trans (HB2.out.mono HB.out.size), HE.out.symm, fun h => absurd rfl h, fun _ => ⟨rfl, rfl⟩⟩
  all_goals
    have HW := Lib.hid hw
    have HE := Lib.hid h
    have hw2 := hw
    rw [h] at hw2
    have HW2 := Lib.hid hw2
    clear hw hw2 h hR hs
    generalize rows.length = l at *
    go_enter Try.func9, Try.ntmps9
    go_wp2_with fail
    refine HW2.out.mono ?_
    rintro e w' ⟨rfl, rfl⟩
    go_wp2_with fail
    go_ret3
    exact ⟨none, none, 0, 0, [], [], _, rfl, Nat.le_refl _, Nat.le_refl _, Reads.nil, Reads.nil, Below.refl _ _, HE.out.symm, fun _ => ⟨rfl, rfl⟩, fun h => absurd h (by decide)⟩

/-- As OneErr; what is answered lies in new memory. -/
def OneErrF (P : List UInt8 → Int → Prop) (W : World) (e : Ending) (W' : World) : Prop :=
  ∃ (A : Option Addr) (ca : Nat) (p : List UInt8) (err : Int), e = .returned (.tuple #[.slice A p.length ca, .int .i64 err]) ∧ p.length ≤ ca ∧ Reads W' A (p.map byt) ∧ Below W.heap.size W W' ∧ P p err ∧ ∀ a, A = some a → W.heap.size ≤ a.block
theorem one_early (A P : Option Addr) (rows : List (List UInt8)) (p : List UInt8) (ca cp : Nat) (lost k : Int) (W : World) (hw : Calls Try.prog 25 #[.slice A rows.length ca, .int .i64 lost, .slice P p.length cp] W (IntIs k W)) (hk : k = 1 ∨ k = 2 ∨ k = 3)
    (hP : OneIs rows lost p [] k) : Calls Try.prog 10 #[.slice A rows.length ca, .int .i64 lost, .slice P p.length cp] W (OneErrF (OneIs rows lost p) W) := by
  rcases hk with rfl | rfl | rfl
  all_goals
    have HW := Lib.hid hw
    have HP := Lib.hid hP
    clear hw hP
    go_enter Try.func10, Try.ntmps10
    go_wp2_with fail
    refine HW.out.mono ?_
    rintro e w' ⟨rfl, rfl⟩
    go_wp2_with fail
    go_ret2
    exact ⟨none, 0, [], _, rfl, Nat.le_refl _, Reads.nil, Below.refl _ _, HP.out, fun a ha => by cases ha⟩
set_option maxHeartbeats 1000000 in
theorem one_f (A P : Option Addr) (rows : List (List UInt8)) (p : List UInt8) (ca cp : Nat) (lost : Int) (W : World) (hs : Sane rows) (hc : rows.length ≤ ca) (hpl : p.length ≤ 140737488351232) (hcp : p.length ≤ cp) (wl : (Lit.int .i64 lost).wf = true) (hR : Rds W A rows) (hp : Reads W P (p.map byt)) :
    Calls Try.prog 10 #[.slice A rows.length ca, .int .i64 lost, .slice P p.length cp] W (OneErrF (OneIs rows lost p) W) := by
  have hw := wrongOne_c A P rows ca p.length cp lost hs.1 W hR
  by_cases h : wrongE rows = 0
  · by_cases hL : Lies rows.length lost
    · by_cases hn : p.length = wide rows
      · rw [show oneE rows lost p.length = 0 by unfold oneE; rw [if_neg (by simpa using h), if_neg (fun k => k hL), if_neg (by simpa using hn)]] at hw
        obtain ⟨a, rfl⟩ : ∃ a : Nat, lost = a := ⟨lost.toNat, by have := hL.1; omega⟩
        have ha : a < rows.length := by have := hL.2; omega
        have F := fit_of hs h
        have hlit : ∀ V : World, Reads (V.alloc (.cells #[.int .i64 (a : Int)] 3)) (some ⟨V.heap.size, 0, none⟩) [Value.int .i64 (a : Int)] := fun V k v hv => by
          have kn := Known.made V 3 #[.int .i64 (a : Int)]
          exact ⟨V.heap.size, 0, rfl, kn.lt, by rw [Nat.zero_add, kn.cell]; simpa using hv⟩
        have hsum := sum_one A rows ca (wide rows) F (W.alloc (.cells #[.int .i64 (a : Int)] 3)) (hR.below ((Below.refl _ _).alloc (Nat.le_refl _) _)) a _ (hlit W)
        have hal : Below W.heap.size W (W.alloc (.cells #[.int .i64 (a : Int)] 3)) := (Below.refl _ _).alloc (Nat.le_refl _) _
        have hzl : (List.replicate (wide rows) (0 : UInt8)).length = wide rows := List.length_replicate
        have hlen : (par 1 (rows.set a (List.replicate (wide rows) 0))).length = wide rows := by rw [par_len, wide_set hzl]
        have hfin : OneIs rows a p (plus (par 1 (rows.set a (List.replicate (wide rows) 0))) p) 0 := .inr (.inr (.inr ⟨h, hL, hn, rfl, by rw [plus_len, hlen], by rw [Int.toNat_natCast]; exact one_made ha hn⟩))
        have hpb : ∀ b, W.heap.size ≤ b → p ≠ [] → ∀ ad, P = some ad → ad.block ≠ b := fun b hb hne ad had e => by have := reads_lt hp hne ad had; omega
        have hsz := hal.size
        have HW := Lib.hid hw
        have HS := Lib.hid hsum
        have HF := Lib.hid hfin
        have HP := Lib.hid hp
        have HPB := Lib.hid hpb
        have HAL := Lib.hid hal
        have HLEN := Lib.hid hlen
        have HN := Lib.hid hn
        have HSM := Lib.hid F.small
        clear hw hs hR hp hpb hal hlit hsum hfin hzl hlen hn hpl h hL F wl ha hc hcp
        generalize hQ : par 1 (rows.set a (List.replicate (wide rows) 0)) = Q at *
        rw [HN.out]
        have hPL : p.length = wide rows := HN.out
        have HW2 := Lib.hid (show Calls Try.prog 25 #[.slice A rows.length ca, .int .i64 a, .slice P (wide rows) cp] W (IntIs 0 W) from hPL ▸ HW.out)
        clear hQ hPL HW
        generalize hWd : wide rows = n at *
        generalize rows.length = l at *
        clear hWd
        go_enter Try.func10, Try.ntmps10
        go_wp2_with fail
        refine HW2.out.mono ?_
        rintro e w' ⟨rfl, rfl⟩
        go_wp2_with fail
        refine HS.out.mono ?_
        rintro e w1 ⟨g, rfl, hg, hO, hB⟩
        have hg2 : W.heap.size ≤ g := Nat.le_trans hsz hg
        have HB := Lib.hid (HAL.out.trans (hB.mono hsz))
        have hadd := add_c g Q p n n P cp w1 hO (HP.out.below HB.out) (HPB.out g hg2) HLEN.out HN.out HSM.out
        have HA := Lib.hid hadd
        clear hO hB hadd
        go_wp2_with fail
        refine HA.out.mono ?_
        rintro e w2 ⟨rfl, hO2, hG2⟩
        have HO2 := Lib.hid hO2
        have HB2 := Lib.hid (HB.out.grown hG2 HB.out.size (fun a ha => by injection ha with ha; omega))
        clear hO2 hG2
        go_wp2_with fail
        have e3 : Ending.returned (.tuple #[.slice (some ⟨g, 0, none⟩) n n, .int .i64 0]) = .returned (.tuple #[.slice (some ⟨g, 0, none⟩) (plus Q p).length n, .int .i64 0]) := by rw [plus_len, HLEN.out]
        have E3 := Lib.hid e3
        clear e3
        go_ret2
        exact ⟨some ⟨g, 0, none⟩, n, plus Q p, 0, E3.out, by rw [plus_len, HLEN.out]; exact Nat.le_refl _, HO2.out.reads, HB2.out, HF.out, fun ad had => by injection had with had; subst had; exact hg2⟩
      · rw [show oneE rows lost p.length = 1 by unfold oneE; rw [if_neg (by simpa using h), if_neg (fun k => k hL), if_pos hn]] at hw
        exact one_early A P rows p ca cp lost 1 W hw (.inl rfl) (.inr (.inr (.inl ⟨h, hL, hn, rfl, rfl⟩)))
    · rw [show oneE rows lost p.length = 3 by unfold oneE; rw [if_neg (by simpa using h), if_pos hL]] at hw
      exact one_early A P rows p ca cp lost 3 W hw (.inr (.inr rfl)) (.inr (.inl ⟨h, hL, rfl, rfl⟩))
  · rw [show oneE rows lost p.length = wrongE rows by unfold oneE; rw [if_pos h]] at hw
    exact one_early A P rows p ca cp lost _ W hw (by rcases wrongE_012 rows with k | k | k <;> omega) (.inl ⟨h, rfl, rfl⟩)
theorem one_c : OneSpec := fun A P rows p ca cp lost W hs hc hpl hcp wl hR hp => (one_f A P rows p ca cp lost W hs hc hpl hcp wl hR hp).mono fun _ _ ⟨B, c, q, err, h1, h2, h3, h4, h5, _⟩ => ⟨B, c, q, err, h1, h2, h3, h4, h5⟩

theorem two_early (A P Q : Option Addr) (rows : List (List UInt8)) (p q : List UInt8) (ca cp cq : Nat) (a b k : Int) (W : World) (hw : Calls Try.prog 27 #[.slice A rows.length ca, .int .i64 a, .int .i64 b, .slice P p.length cp, .slice Q q.length cq] W (IntIs k W)) (hk : k = 1 ∨ k = 2 ∨ k = 3 ∨ k = 6)
    (hP : TwoIs rows a b p q [] [] k) : Calls Try.prog 11 #[.slice A rows.length ca, .int .i64 a, .int .i64 b, .slice P p.length cp, .slice Q q.length cq] W (TwoErr (TwoIs rows a b p q) W) := by
  rcases hk with rfl | rfl | rfl | rfl
  all_goals
    have HW := Lib.hid hw
    have HP := Lib.hid hP
    clear hw hP
    go_enter Try.func11, Try.ntmps11
    go_wp2_with fail
    refine HW.out.mono ?_
    rintro e w' ⟨rfl, rfl⟩
    go_wp2_with fail
    go_ret3
    exact ⟨none, none, 0, 0, [], [], _, rfl, Nat.le_refl _, Nat.le_refl _, Reads.nil, Reads.nil, Below.refl _ _, HP.out⟩
set_option maxRecDepth 100000 in
set_option maxHeartbeats 2000000 in
theorem two_c : TwoSpec := by
  intro A P Q rows p q ca cp cq a b W hs hc hpl hcp hql hcq wa wb hR hp hq
  have hw := wrongTwo_c A P Q rows ca p.length cp q.length cq a b hs.1 W hR
  by_cases h : wrongE rows = 0
  · by_cases hL : Lies rows.length a ∧ Lies rows.length b
    · by_cases hab : a = b
      · rw [show twoE rows a b p.length q.length = 6 by unfold twoE; rw [if_neg (by simpa using h), if_neg (fun k => k hL), if_pos hab]] at hw
        exact two_early A P Q rows p q ca cp cq a b 6 W hw (.inr (.inr (.inr rfl))) (.inr (.inr (.inl ⟨h, hL.1, hL.2, hab, rfl, rfl, rfl⟩)))
      · by_cases hn : p.length = wide rows ∧ q.length = wide rows
        · rw [show twoE rows a b p.length q.length = 0 by unfold twoE; rw [if_neg (by simpa using h), if_neg (fun k => k hL), if_neg hab, if_neg (fun k => k hn)]] at hw
          obtain ⟨x, rfl⟩ : ∃ x : Nat, a = x := ⟨a.toNat, by have := hL.1.1; omega⟩
          obtain ⟨y, rfl⟩ : ∃ y : Nat, b = y := ⟨b.toNat, by have := hL.2.1; omega⟩
          have hx : x < rows.length := by have := hL.1.2; omega
          have hy : y < rows.length := by have := hL.2.2; omega
          have hxy : x ≠ y := fun e => hab (by rw [e])
          have F := fit_of hs h
          have hlit : ∀ V : World, Reads (V.alloc (.cells #[.int .i64 (x : Int), .int .i64 (y : Int)] 3)) (some ⟨V.heap.size, 0, none⟩) [Value.int .i64 (x : Int), Value.int .i64 (y : Int)] := fun V k v hv => by
            have kn := Known.made V 3 #[.int .i64 (x : Int), .int .i64 (y : Int)]
            exact ⟨V.heap.size, 0, rfl, kn.lt, by rw [Nat.zero_add, kn.cell]; simpa using hv⟩
          have hal : ∀ V : World, Below V.heap.size V (V.alloc (.cells #[.int .i64 (x : Int), .int .i64 (y : Int)] 3)) := fun V => (Below.refl _ _).alloc (Nat.le_refl _) _
          have hzl : (List.replicate (wide rows) (0 : UInt8)).length = wide rows := List.length_replicate
          have hws : wide ((rows.set x (List.replicate (wide rows) 0)).set y (List.replicate (wide rows) 0)) = wide rows := by rw [wide_set (by rw [wide_set hzl]; exact hzl), wide_set hzl]
          have hfin : ∀ U V : List UInt8, U = apX (pow 2 x) (pow 2 y) (plus (par 1 ((rows.set x (List.replicate (wide rows) 0)).set y (List.replicate (wide rows) 0))) p) (plus (par 2 ((rows.set x (List.replicate (wide rows) 0)).set y (List.replicate (wide rows) 0))) q) (wide rows) →
              V = apY (pow 2 x) (pow 2 y) (plus (par 1 ((rows.set x (List.replicate (wide rows) 0)).set y (List.replicate (wide rows) 0))) p) (plus (par 2 ((rows.set x (List.replicate (wide rows) 0)).set y (List.replicate (wide rows) 0))) q) (wide rows) →
              U.length = wide rows ∧ V.length = wide rows ∧ TwoIs rows x y p q U V 0 := fun U V hU hV => by
            have hpl : (plus (par 1 ((rows.set x (List.replicate (wide rows) 0)).set y (List.replicate (wide rows) 0))) p).length = wide rows := by rw [plus_len, par_len, hws]
            obtain ⟨k1, k2, k3, k4⟩ := two_made hxy hx hy F.few hn.1 hn.2 rfl rfl rfl (hU.trans (by rw [hpl])) (hV.trans (by rw [hpl]))
            exact ⟨k1, k2, .inr (.inr (.inr (.inr ⟨h, hL.1, hL.2, hab, hn.1, hn.2, rfl, k1, k2, by simpa using k3, by simpa using k4⟩)))⟩
          have h1 := fun V (hV : Rds V A rows) => sum_two A rows ca (wide rows) F _ (hV.below (hal V)) x y _ (hlit V)
          have h2 := fun V (hV : Rds V A rows) => weighted_two A rows ca (wide rows) F _ (hV.below (hal V)) x y _ (hlit V)
          have hl1 : (par 1 ((rows.set x (List.replicate (wide rows) 0)).set y (List.replicate (wide rows) 0))).length = wide rows := by rw [par_len, hws]
          have hl2 : (par 2 ((rows.set x (List.replicate (wide rows) 0)).set y (List.replicate (wide rows) 0))).length = wide rows := by rw [par_len, hws]
          have hpb : ∀ b, W.heap.size ≤ b → p ≠ [] → ∀ ad, P = some ad → ad.block ≠ b := fun b hb hne ad had e => by have := reads_lt hp hne ad had; omega
          have hqb : ∀ b, W.heap.size ≤ b → q ≠ [] → ∀ ad, Q = some ad → ad.block ≠ b := fun b hb hne ad had e => by have := reads_lt hq hne ad had; omega
          have hw1 := fun V => weight_c x (by have := F.few; omega) V
          have hw2 := fun V => weight_c y (by have := F.few; omega) V
          have huv : pow 2 x ≠ pow 2 y := fun e => hxy (pow2_inj (by have := F.few; omega) (by have := F.few; omega) e)
          obtain ⟨hpn, hqn⟩ := hn
          rw [hpn, hqn] at hw
          rw [hpn, hqn]
          have HW := Lib.hid hw
          have H1 := Lib.hid h1
          have H2 := Lib.hid h2
          have HF := Lib.hid hfin
          have HL1 := Lib.hid hl1
          have HL2 := Lib.hid hl2
          have HP := Lib.hid hp
          have HQ := Lib.hid hq
          have HPB := Lib.hid hpb
          have HQB := Lib.hid hqb
          have HW1 := Lib.hid hw1
          have HW2 := Lib.hid hw2
          have HUV := Lib.hid huv
          have HPN := Lib.hid hpn
          have HQN := Lib.hid hqn
          have HAL := Lib.hid hal
          have HR := Lib.hid hR
          have HSM := Lib.hid F.small
          clear hw h1 h2 hfin hl1 hl2 hp hq hpb hqb hw1 hw2 huv hpn hqn hal hR hs hlit hzl hws h hL hab hx hy hxy F hpl hql hc hcp hcq wa wb
          generalize par 1 ((rows.set x (List.replicate (wide rows) 0)).set y (List.replicate (wide rows) 0)) = S1 at *
          generalize par 2 ((rows.set x (List.replicate (wide rows) 0)).set y (List.replicate (wide rows) 0)) = S2 at *
          generalize hWd : wide rows = n at *
          clear hWd
          generalize hN : rows.length = l at *
          clear hN
          go_enter Try.func11, Try.ntmps11
          go_wp2_with fail
          refine HW.out.mono ?_
          rintro e w' ⟨rfl, rfl⟩
          go_wp2_with fail
          refine (H1.out W HR.out).mono ?_
          rintro e w1 ⟨g1, rfl, hg1, hO1, hB1⟩
          have hgs1 : W.heap.size ≤ g1 := Nat.le_trans (HAL.out W).size hg1
          have B1 := Lib.hid ((HAL.out W).trans (hB1.mono (HAL.out W).size))
          have O1 := Lib.hid hO1
          clear hO1 hB1 hg1
          go_wp2_with fail
          refine (H2.out w1 (HR.out.below B1.out)).mono ?_
          rintro e w2 ⟨g2, rfl, hg2, hO2, hB2⟩
          have hlt1 := O1.out.lt
          have hgs2 : w1.heap.size ≤ g2 := Nat.le_trans (HAL.out w1).size hg2
          have B12 := Lib.hid ((HAL.out w1).trans (hB2.mono (HAL.out w1).size))
          have B2 := Lib.hid (B1.out.trans (B12.out.mono B1.out.size))
          have O2 := Lib.hid hO2
          have O12 := Lib.hid (O1.out.later B12.out)
          have hgs3 : W.heap.size ≤ g2 := Nat.le_trans B1.out.size hgs2
          have hadd := add_c g1 S1 p n n P cp w2 O12.out (HP.out.below B2.out) (HPB.out g1 hgs1) HL1.out HPN.out HSM.out
          have HA := Lib.hid hadd
          clear hO2 hB2 hg2 hadd
          go_wp2_with fail
          refine HA.out.mono ?_
          rintro e w3 ⟨rfl, hO3, hG3⟩
          have O3 := Lib.hid hO3
          have O23 := Lib.hid (show Own w3 g2 S2 from known_grown (g := g2) O2.out hG3 (fun e => by injection e with e; omega))
          have B3 := Lib.hid (B2.out.grown hG3 B2.out.size (fun a ha => by injection ha with ha; omega))
          have hadd := add_c g2 S2 q n n Q cq w3 O23.out (HQ.out.below B3.out) (HQB.out g2 hgs3) HL2.out HQN.out HSM.out
          have HA2 := Lib.hid hadd
          clear hO3 hG3 hadd HA
          go_wp2_with fail
          refine HA2.out.mono ?_
          rintro e w4 ⟨rfl, hO4, hG4⟩
          have O4 := Lib.hid hO4
          have O34 := Lib.hid (show Own w4 g1 (plus S1 p) from known_grown (g := g1) O3.out hG4 (fun e => by injection e with e; omega))
          have B4 := Lib.hid (B3.out.grown hG4 B3.out.size (fun a ha => by injection ha with ha; omega))
          clear hO4 hG4 HA2
          have hap := apart_c (some ⟨g1, 0, none⟩) (some ⟨g2, 0, none⟩) (plus S1 p) (plus S2 q) n n n (pow 2 x) (pow 2 y) HUV.out HSM.out (by rw [plus_len]; exact HL1.out) (by rw [plus_len]; exact HL2.out) w4 O34.out.reads O4.out.reads
          have HAP := Lib.hid hap
          clear hap
          go_wp2_with fail
          refine (HW1.out w4).mono ?_
          rintro e w' ⟨rfl, rfl⟩
          go_wp2_with fail
          refine (HW2.out w4).mono ?_
          rintro e w' ⟨rfl, rfl⟩
          go_wp2_with fail
          refine HAP.out.mono ?_
          rintro e w5 ⟨g5, h5, rfl, hg5, hh5, hO5, hP5, hB5⟩
          have O5 := Lib.hid hO5
          have P5 := Lib.hid hP5
          have B5 := Lib.hid (B4.out.trans (hB5.mono B4.out.size))
          obtain ⟨k1, k2, k3⟩ := HF.out _ _ rfl rfl
          have e3 : Ending.returned (.tuple #[.slice (some ⟨g5, 0, none⟩) n n, .slice (some ⟨h5, 0, none⟩) n n, .int .i64 0]) = .returned (.tuple #[.slice (some ⟨g5, 0, none⟩) (apX (pow 2 x) (pow 2 y) (plus S1 p) (plus S2 q) n).length n, .slice (some ⟨h5, 0, none⟩) (apY (pow 2 x) (pow 2 y) (plus S1 p) (plus S2 q) n).length n, .int .i64 0]) := by rw [k1, k2]
          have E3 := Lib.hid e3
          have K1 := Lib.hid k1
          have K2 := Lib.hid k2
          have K3 := Lib.hid k3
          clear hO5 hP5 hB5 k1 k2 k3 e3
          go_wp2_with fail
          go_ret3
          exact ⟨some ⟨g5, 0, none⟩, some ⟨h5, 0, none⟩, n, n, _, _, 0, E3.out, by rw [K1.out]; exact Nat.le_refl _, by rw [K2.out]; exact Nat.le_refl _, O5.out.reads, P5.out.reads, B5.out, K3.out⟩
        · rw [show twoE rows a b p.length q.length = 1 by unfold twoE; rw [if_neg (by simpa using h), if_neg (fun k => k hL), if_neg hab, if_pos hn]] at hw
          exact two_early A P Q rows p q ca cp cq a b 1 W hw (.inl rfl) (.inr (.inr (.inr (.inl ⟨h, hL.1, hL.2, hab, hn, rfl, rfl, rfl⟩))))
    · rw [show twoE rows a b p.length q.length = 3 by unfold twoE; rw [if_neg (by simpa using h), if_pos hL]] at hw
      exact two_early A P Q rows p q ca cp cq a b 3 W hw (.inr (.inr (.inl rfl))) (.inr (.inl ⟨h, hL, rfl, rfl, rfl⟩))
  · rw [show twoE rows a b p.length q.length = wrongE rows by unfold twoE; rw [if_pos h]] at hw
    exact two_early A P Q rows p q ca cp cq a b _ W hw (by rcases wrongE_012 rows with k | k | k <;> omega) (.inl ⟨h, rfl, rfl, rfl⟩)
end Go.Proofs.Ytpjopdemhdeelaa.Pair
