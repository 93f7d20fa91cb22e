/-
  Package vector, the program: relation, isNewest, Compare.
-/
import Derived.Test.YtkflngdahnpmbaaVeProgA
import Derived.Test.YtkflngdahnpmbaaVeTellsW
namespace Go.Proofs.Ytkflngdahnpmbaa.Ve
set_option linter.unusedVariables false
set_option linter.unusedSimpArgs false
open Go.RowKit Mem Gt
open Jump (Gave equalZ_c)

set_option maxRecDepth 100000 in
set_option maxHeartbeats 8000000 in
theorem relation_d (A B : Option Addr) (a b : Ve) (n ca cb : Nat) (V : World) (c : Int) (hn : a.length = n) (hm : b.length = n) (hbig : n ≤ 140737488355328) (hx : Reads V A (a.map (Value.int .i64))) (hy : Reads V B (b.map (Value.int .i64))) (hc : cmp a b = c) :
    Calls Try.prog 22 #[.slice A n ca, .slice B n cb] V (GaveD (.int .i64 c) V) := by
  have HX := Lib.hid hx
  have HY := Lib.hid hy
  have HN := Lib.hid hn
  have HM := Lib.hid hm
  have HC := Lib.hid hc
  clear hx hy hn hm hc
  go_enter Try.func22, Try.ntmps22
  go_wp2_with fail
  go_loopw [5, 6, 10] (fun u v i wr => ∃ (k : Nat) (p q : Bool), k ≤ n ∧ i = .int .i64 k ∧ u = .bool p ∧ v = .bool q ∧ under (b.take k) (a.take k) = !p ∧ under (a.take k) (b.take k) = !q ∧ Drawn V wr) (fun _ _ i _ => n - (Go.RowKit.intOf i).toNat)
  case atStart => exact ⟨0, false, false, by omega, rfl, rfl, rfl, by simp [under], by simp [under], Drawn.refl _⟩
  case round =>
    obtain ⟨k, p, q, hk, rfl, rfl, rfl, hp, hq, hB⟩ := hrel
    have HP := Lib.hid hp
    have HQ := Lib.hid hq
    have BB := Lib.hid hB
    clear hp hq
    by_cases hlt : k < n
    · have kl : k < a.length := by rw [HN.out]; exact hlt
      have km : k < b.length := by rw [HM.out]; exact hlt
      obtain ⟨x, hx⟩ : ∃ x, a[k]? = some x := ⟨_, List.getElem?_eq_getElem kl⟩
      obtain ⟨y, hy⟩ : ∃ y, b[k]? = some y := ⟨_, List.getElem?_eq_getElem km⟩
      obtain ⟨b1, o1, rfl, _, c1⟩ := int_at (HX.out.drawn hB) hx
      obtain ⟨b2, o2, rfl, _, c2⟩ := int_at (HY.out.drawn hB) hy
      have S1 := Lib.hid (under_step (show b.length = a.length by rw [HN.out, HM.out]) hy hx)
      have S2 := Lib.hid (under_step (show a.length = b.length by rw [HN.out, HM.out]) hx hy)
      rw [HP.out] at S1
      rw [HQ.out] at S2
      have j1 : (k : Int) < (n : Int) := by omega
      clear kl km hx hy hB
      have K1 := Lib.hid (fun (p' : Bool) (h : (p || decide (x < y)) = p') => (show under (b.take (k + 1)) (a.take (k + 1)) = !p' by
        rw [S1.out, ← h, Bool.not_or]
        by_cases e1 : x < y
        · rw [decide_eq_true e1, decide_eq_false (show ¬ y ≤ x by omega)]; rfl
        · rw [decide_eq_false e1, decide_eq_true (show y ≤ x by omega)]; rfl))
      have K2 := Lib.hid (fun (q' : Bool) (h : (q || decide (y < x)) = q') => (show under (a.take (k + 1)) (b.take (k + 1)) = !q' by
        rw [S2.out, ← h, Bool.not_or]
        by_cases e1 : y < x
        · rw [decide_eq_true e1, decide_eq_false (show ¬ x ≤ y by omega)]; rfl
        · rw [decide_eq_false e1, decide_eq_true (show x ≤ y by omega)]; rfl))
      clear S1 S2
      cases p <;> cases q <;> by_cases h1 : x < y
      all_goals
        by_cases h2 : y < x
        · go_wp2_with fail
          go_quiet (fail)
          go_wp2
          go_quiet (fail)
          go_wp2
          go_roundw
          case rel =>
            refine ⟨k + 1, _, _, by omega, by go_num, rfl, rfl, ?_, ?_, BB.out.more _⟩
            · exact K1.out _ (by simp [h1])
            · exact K2.out _ (by simp [h2])
          case measure => simp [Go.RowKit.intOf]; omega
        · go_wp2_with fail
          go_quiet (fail)
          go_wp2
          go_quiet (fail)
          go_wp2
          go_roundw
          case rel =>
            refine ⟨k + 1, _, _, by omega, by go_num, rfl, rfl, ?_, ?_, BB.out.more _⟩
            · exact K1.out _ (by simp [h1])
            · exact K2.out _ (by simp [h2])
          case measure => simp [Go.RowKit.intOf]; omega
    · obtain rfl : k = n := by omega
      have E := Lib.hid (show c = if p = true then (if q = true then 4 else 2) else (if q = true then 3 else 1) by
        have h1 := HP.out
        have h2 := HQ.out
        rw [List.take_of_length_le (Nat.le_of_eq HN.out), List.take_of_length_le (Nat.le_of_eq HM.out)] at h1 h2
        rw [← HC.out]
        unfold cmp
        rw [h1, h2]
        cases p <;> cases q <;> rfl)
      clear hB HP HQ
      cases p <;> cases q
      all_goals
        simp only [if_true, if_false, Bool.false_eq_true, ite_true, ite_false] at E
        go_wp2
        rw [E.out]
        go_ret
        exact ⟨rfl, BB.out⟩
set_option maxRecDepth 100000 in
set_option maxHeartbeats 8000000 in
theorem isnewest_d (A : Option Addr) (ls : List Ve) (n ca i : Nat) (a : Ve) (m : Nat) (V : World) (r : Bool) (hn : ls.length = n) (hbig : n ≤ 140737488355328) (hx : VRds V A ls) (hw : ∀ v ∈ ls, v.length = m) (ha : ls[i]? = some a) (hr : (topTo ls a && newTo (newsTo ls i) a) = r) :
    Calls Try.prog 23 #[.slice A n ca, .int .i64 i] V (GaveD (.bool r) V) := by
  have HX := Lib.hid hx
  have HN := Lib.hid hn
  have HW := Lib.hid hw
  have HA := Lib.hid ha
  have HR := Lib.hid hr
  have ha' := hw a (List.mem_of_getElem? ha)
  have LA := Lib.hid ha'
  have F1 := Lib.hid (fun (t : Nat) (b : Ve) (ht : ls[t]? = some b) (hc : cmp a b = 2) => (show false = r by rw [← hr, isnew_false1 hw ha' ht hc]))
  have F2 := Lib.hid (fun (t : Nat) (b : Ve) (ht : ls[t]? = some b) (hc : cmp a b = 1) (hi : t < i) => (show false = r by rw [← hr, isnew_false2 hw ha' ht hc hi]))
  have F3 := Lib.hid (fun hc => (show true = r by rw [← hr]; exact (isnew_true (i := i) hw ha' hc).symm))
  have i0 : i < n := by rw [← hn]; exact (List.getElem?_eq_some_iff.1 ha).1
  have i1 : (i : Int) < (n : Int) := by omega
  clear hx hn hw ha hr ha'
  go_enter Try.func23, Try.ntmps23
  go_wp2_with fail
  go_loopw [10] (fun j wr => ∃ k : Nat, k ≤ n ∧ j = .int .i64 k ∧ (∀ (t : Nat) (b : Ve), t < k → ls[t]? = some b → cmp a b ≠ 2 ∧ (cmp a b = 1 → i ≤ t)) ∧ Drawn V wr) (fun j _ => n - (Go.RowKit.intOf j).toNat)
  case atStart => exact ⟨0, by omega, rfl, fun t b h => absurd h (Nat.not_lt_zero _), Drawn.refl _⟩
  case round =>
    obtain ⟨k, hk, rfl, ht, hB⟩ := hrel
    have HT := Lib.hid ht
    have BB := Lib.hid hB
    clear ht
    by_cases hlt : k < n
    · have kl : k < ls.length := by rw [HN.out]; exact hlt
      obtain ⟨b, hb⟩ : ∃ b, ls[k]? = some b := ⟨_, List.getElem?_eq_getElem kl⟩
      have HV := Lib.hid (HX.out.below (hB.below _))
      obtain ⟨b1, o1, C, c, rfl, _, y1, hlc, hc, hrd⟩ := HV.out.row hb
      obtain ⟨b2, o2, C2, c2, e2, _, y2, hlc2, hc2, hrd2⟩ := HV.out.row HA.out
      injection e2 with e2
      injection e2 with e3 e4
      subst e3 e4
      have hbl := HW.out b (List.mem_of_getElem? hb)
      rw [hbl] at y1 hlc hc
      rw [LA.out] at y2 hlc2 hc2
      obtain ⟨r2, hr2⟩ : ∃ r2, cmp a b = r2 := ⟨_, rfl⟩
      have P := Lib.hid (relation_d C2 C a b m c2 c wr r2 LA.out hbl hc hrd2 hrd hr2)
      have G1 := Lib.hid (F1.out k b hb)
      have G2 := Lib.hid (F2.out k b hb)
      have G3 := Lib.hid (show r2 ≠ 2 → (r2 = 1 → i ≤ k) → ∀ (t : Nat) (b : Ve), t < k + 1 → ls[t]? = some b → cmp a b ≠ 2 ∧ (cmp a b = 1 → i ≤ t) from fun h1 h2 t b' hlt' hb' => by
        by_cases e : t < k
        · exact HT.out t b' e hb'
        · obtain rfl : t = k := by omega
          rw [hb] at hb'
          injection hb' with hb'
          subst hb'
          rw [hr2]
          exact ⟨h1, h2⟩)
      rw [hr2] at G1 G2
      have j1 : (k : Int) < (n : Int) := by omega
      clear kl hb hbl hr2 hrd hrd2 hB
      by_cases h1 : r2 = 2
      · subst h1
        have E := Lib.hid (G1.out rfl)
        clear G1 G2 G3
        go_wp2_with fail
        refine P.out.mono ?_
        rintro e w2 ⟨rfl, hd⟩
        have D2 := Lib.hid (BB.out.trans hd)
        clear hd
        go_wp2
        rw [← E.out]
        go_ret
        exact ⟨rfl, D2.out⟩
      · by_cases h2 : r2 = 1
        · subst h2
          by_cases h3 : k < i
          · have E := Lib.hid (G2.out rfl h3)
            have j2 : (k : Int) < (i : Int) := by omega
            clear G1 G2 G3 h1
            go_wp2_with fail
            refine P.out.mono ?_
            rintro e w2 ⟨rfl, hd⟩
            have D2 := Lib.hid (BB.out.trans hd)
            clear hd
            go_wp2
            rw [← E.out]
            go_ret
            exact ⟨rfl, D2.out⟩
          · have E := Lib.hid (G3.out h1 (fun _ => by omega))
            have j2 : ¬ (k : Int) < (i : Int) := by omega
            clear G1 G2 G3 h1
            go_wp2_with fail
            refine P.out.mono ?_
            rintro e w2 ⟨rfl, hd⟩
            have D2 := Lib.hid (BB.out.trans hd)
            clear hd
            go_wp2
            go_roundw
            case rel => exact ⟨k + 1, by omega, by go_num, E.out, D2.out⟩
            case measure => simp [Go.RowKit.intOf]; omega
        · have E := Lib.hid (G3.out h1 (fun h => absurd h h2))
          have q1 : (r2 == 2) = false := by simpa using h1
          have q2 : (r2 == 1) = false := by simpa using h2
          clear G1 G2 G3 h1 h2
          go_wp2_with fail
          refine P.out.mono ?_
          rintro e w2 ⟨rfl, hd⟩
          have D2 := Lib.hid (BB.out.trans hd)
          clear hd
          go_wp2
          go_roundw
          case rel => exact ⟨k + 1, by omega, by go_num, E.out, D2.out⟩
          case measure => simp [Go.RowKit.intOf]; omega
    · obtain rfl : k = n := by omega
      have E := Lib.hid (F3.out fun t b hb => HT.out t b (by have := (List.getElem?_eq_some_iff.1 hb).1; have := HN.out; omega) hb)
      clear hB
      go_wp2
      rw [← E.out]
      go_ret
      exact ⟨rfl, BB.out⟩
set_option maxRecDepth 100000 in
set_option maxHeartbeats 8000000 in
theorem compareSpec : CompareSpec := fun A B a b n m ca cb V c e hn hm ka kb h1 h2 hx hy he hc => by
  have P := Lib.hid (wrong_c (some ⟨V.heap.size, 0, none⟩) [a, b] 2 2 (V.alloc (.cells #[.slice A n ca, .slice B m cb] 22)) e rfl (by omega) (lit2v V (isv_of hn ka (by omega) hx) (isv_of hm kb (by omega) hy)) he)
  have BL := Lib.hid (low_lit V (.cells #[.slice A n ca, .slice B m cb] 22))
  by_cases h0 : e = 0
  · subst h0
    obtain ⟨q, hq⟩ := wrongE_zero.1 he
    have fa := hq a (by simp)
    have fb := hq b (by simp)
    obtain rfl : n = q := hn.symm.trans fa.1
    obtain rfl : n = m := fb.1.symm.trans hm
    rw [if_pos rfl] at hc
    have R := Lib.hid (relation_d A B a b n ca cb (V.alloc (.cells #[.slice A n ca, .slice B n cb] 22)) c hn hm h1 (hx.below BL.out) (hy.below BL.out) hc)
    clear hn hm ka kb hx hy he hc fa fb hq
    go_enter Try.func8, Try.ntmps8
    go_wp2_with fail
    refine P.out.mono ?_
    rintro e w1 ⟨rfl, hw⟩
    rw [hw]
    clear hw
    go_wp2_with fail
    refine R.out.mono ?_
    rintro e w2 ⟨rfl, hd⟩
    have B2 := Lib.hid (BL.out.trans (hd.below V.heap.size))
    clear hd
    go_wp2
    go_ret2
    exact ⟨rfl, B2.out⟩
  · rw [if_neg h0] at hc
    subst hc
    have q1 : (e != 0) = true := by simpa using h0
    clear hn hm ka kb hx hy he h0
    go_enter Try.func8, Try.ntmps8
    go_wp2_with fail
    refine P.out.mono ?_
    rintro e w1 ⟨rfl, hw⟩
    rw [hw]
    clear hw
    go_wp2
    go_ret2
    exact ⟨rfl, BL.out⟩
end Go.Proofs.Ytkflngdahnpmbaa.Ve
