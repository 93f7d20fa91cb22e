/-
  Package vector, the program: Wrong; pure facts of isNewest and relation.
-/
import Derived.Test.YtkflngdahnpmbaaVeNewW
import Derived.Test.YtkflngdahnpmbaaGInts
import Derived.Test.YtkflngdahnpmbaaGVTab
import Derived.Deep.CutRange
namespace Go.Proofs.Ytkflngdahnpmbaa.Ve
set_option linter.unusedVariables false
set_option linter.unusedSimpArgs false
open Go.RowKit Mem Gt
open Jump (Gave equalZ_c)

/-! ### Pure: what isNewest looks for -/
theorem news_mem {n : Nat} {ls : List Ve} (h : ∀ v ∈ ls, v.length = n) (k : Nat) (v : Ve) : v ∈ newsTo ls k ↔ v ∈ ls.take k ∧ topIn ls v = true := by
  obtain ⟨_, h2, _⟩ := new_inv (l := ls) (ls.take k) (fun v hv => h v (List.mem_of_mem_take hv)) [] (fun v hv => by simp at hv) List.nodup_nil
  unfold newsTo
  rw [h2 v]; simp
theorem isnew_true {n i : Nat} {ls : List Ve} {a : Ve} (h : ∀ v ∈ ls, v.length = n) (ha : a.length = n) (hc : ∀ (t : Nat) (b : Ve), ls[t]? = some b → cmp a b ≠ 2 ∧ (cmp a b = 1 → i ≤ t)) : (topTo ls a && newTo (newsTo ls i) a) = true := by
  have h1 : topTo ls a = true := topIn_iff.2 fun b hb hu => by
    obtain ⟨t, ht⟩ := List.mem_iff_getElem?.1 hb
    have hl : a.length = b.length := ha.trans (h b hb).symm
    have h2 := (hc t b ht).1
    rcases Classical.em (a = b) with e | e
    · subst e; exact hu
    · exact absurd ((cmp_two hl).2 ⟨hu, e⟩) h2
  have h2 : newTo (newsTo ls i) a = true := by
    unfold newTo
    rw [List.all_eq_true]
    intro b hb
    rw [decide_eq_true_eq]
    intro e
    obtain ⟨hb, _⟩ := (news_mem h i b).1 hb
    obtain ⟨t, ht⟩ := List.mem_iff_getElem?.1 hb
    rw [List.getElem?_take] at ht
    split at ht
    · have := (hc t b ht).2 e
      omega
    · cases ht
  rw [h1, h2]; rfl
theorem isnew_false1 {n i t : Nat} {ls : List Ve} {a b : Ve} (h : ∀ v ∈ ls, v.length = n) (ha : a.length = n) (ht : ls[t]? = some b) (hc : cmp a b = 2) : (topTo ls a && newTo (newsTo ls i) a) = false := by
  have hb := List.mem_of_getElem? ht
  have hl : a.length = b.length := ha.trans (h b hb).symm
  obtain ⟨h1, h2⟩ := (cmp_two hl).1 hc
  cases e : topTo ls a with
  | false => rfl
  | true => exact absurd (under_anti hl h1 (topIn_iff.1 e b hb h1)) h2
theorem isnew_false2 {n i t : Nat} {ls : List Ve} {a b : Ve} (h : ∀ v ∈ ls, v.length = n) (ha : a.length = n) (ht : ls[t]? = some b) (hc : cmp a b = 1) (hi : t < i) : (topTo ls a && newTo (newsTo ls i) a) = false := by
  have hb := List.mem_of_getElem? ht
  have hl : a.length = b.length := ha.trans (h b hb).symm
  obtain rfl := (cmp_one hl).1 hc
  cases e : topTo ls a with
  | false => rfl
  | true =>
    have hm : a ∈ newsTo ls i := (news_mem h i a).2 ⟨List.mem_of_getElem? (i := t) (by rw [List.getElem?_take, if_pos hi]; exact ht), e⟩
    rw [Bool.true_and]
    cases e2 : newTo (newsTo ls i) a with
    | false => rfl
    | true =>
      unfold newTo at e2
      have := List.all_eq_true.1 e2 a hm
      rw [decide_eq_true_eq] at this
      exact absurd hc this
theorem under_step {a b : Ve} {k : Nat} {x y : Int} (hl : a.length = b.length) (hx : a[k]? = some x) (hy : b[k]? = some y) : under (a.take (k + 1)) (b.take (k + 1)) = (under (a.take k) (b.take k) && decide (x ≤ y)) := by
  cases h : under (a.take k) (b.take k) with
  | false =>
    rw [Bool.false_and]
    cases e : under (a.take (k + 1)) (b.take (k + 1)) with
    | false => rfl
    | true =>
      have h2 : under (a.take k) (b.take k) = true := (under_iff (by rw [List.length_take, List.length_take, hl])).2 fun j u v hu hv => by
        rw [List.getElem?_take] at hu hv
        split at hu
        · rename_i hj
          rw [if_pos hj] at hv
          exact (under_iff (by rw [List.length_take, List.length_take, hl])).1 e j u v (by rw [List.getElem?_take, if_pos (by omega)]; exact hu) (by rw [List.getElem?_take, if_pos (by omega)]; exact hv)
        · cases hu
      rw [h2] at h; cases h
  | true =>
    rw [Bool.true_and]
    by_cases hxy : x ≤ y
    · rw [decide_eq_true hxy]; exact under_take hl hx hy h hxy
    · rw [decide_eq_false hxy]
      exact under_no (by rw [List.length_take, List.length_take, hl]) (show (a.take (k + 1))[k]? = some x by rw [List.getElem?_take, if_pos (by omega)]; exact hx) (by rw [List.getElem?_take, if_pos (by omega)]; exact hy) hxy

/-! ### Wrong -/
set_option maxRecDepth 100000 in
set_option maxHeartbeats 4000000 in
theorem outside_c (x : Int) (V : World) : Calls Try.prog 25 #[.int .i64 x] V (fun e W' => e = .returned (.bool (!okX x)) ∧ W' = V) := by
  by_cases h1 : x < 0
  · have E : (!okX x) = true := by unfold okX; rw [decide_eq_false (by omega)]; rfl
    rw [E]
    clear E
    go_enter Try.func25, Try.ntmps25
    go_wp2
    go_ret
    exact ⟨rfl, rfl⟩
  · by_cases h2 : 1099511627776 < x
    · have E : (!okX x) = true := by unfold okX; rw [decide_eq_false (show ¬ x ≤ 1099511627776 by omega), Bool.and_false]; rfl
      rw [E]
      clear E
      go_enter Try.func25, Try.ntmps25
      go_wp2
      go_ret
      exact ⟨rfl, rfl⟩
    · have E : (!okX x) = false := by unfold okX; rw [decide_eq_true (show x ≤ 1099511627776 by omega), decide_eq_true (show 0 ≤ x by omega)]; rfl
      rw [E]
      clear E
      go_enter Try.func25, Try.ntmps25
      go_wp2
      go_ret
      exact ⟨rfl, rfl⟩
set_option maxRecDepth 100000 in
set_option maxHeartbeats 4000000 in
theorem index_out (A : Option Addr) (l : List Int) (n ca : Nat) (W : World) (hn : l.length = n) (hbig : n ≤ 140737488355328) (hx : Reads W A (l.map (Value.int .i64))) (r : Bool) (hr : l.any (fun x => !okX x) = r) :
    Calls Try.prog 28 #[.slice A n ca, .func (.func 25) #[] #[]] W (fun e W' => ∃ k : Int, decide (0 ≤ k) = r ∧ e = .returned (.int .i64 k) ∧ W' = W) := by
  have HX := Lib.hid hx
  have HN := Lib.hid hn
  have HR := Lib.hid hr
  clear hx hn hr
  go_enter Try.func28, Try.ntmps28
  go_wp2
  go_loopw [8] (fun i wr => ∃ k : Nat, k ≤ n ∧ i = .int .i64 k ∧ (l.take k).any (fun x => !okX x) = false ∧ wr = W) (fun i _ => n - (intOf i).toNat)
  case atStart => exact ⟨0, by omega, rfl, by simp, rfl⟩
  case round =>
    obtain ⟨k, hk, rfl, ha, rfl⟩ := hrel
    have TA := Lib.hid ha
    clear ha
    by_cases hlt : k < n
    · have kl : k < l.length := by rw [HN.out]; exact hlt
      obtain ⟨x, hx⟩ : ∃ x, l[k]? = some x := ⟨_, List.getElem?_eq_getElem kl⟩
      obtain ⟨b1, o1, rfl, _, y0⟩ := int_at HX.out hx
      have EX := Lib.hid hx
      have i1 : (k : Int) < (n : Int) := by omega
      have CC0 := outside_c x wr
      clear kl hx
      cases hb : okX x with
      | false =>
        rw [hb] at CC0
        have CC := Lib.hid CC0
        have RT := Lib.hid (show r = true by rw [← HR.out]; exact any_of EX.out (by rw [hb]; rfl))
        clear hb CC0
        go_wp2_with fail
        refine CC.out.mono ?_
        rintro e w2 ⟨rfl, hw⟩
        rw [hw]
        clear hw
        go_wp2
        go_ret
        exact ⟨k, by rw [RT.out]; exact decide_eq_true (by omega), rfl, rfl⟩
      | true =>
        rw [hb] at CC0
        have CC := Lib.hid CC0
        have TN := Lib.hid (show (l.take (k + 1)).any (fun x => !okX x) = false by rw [any_take EX.out, TA.out, hb]; rfl)
        clear hb CC0
        go_wp2_with fail
        refine CC.out.mono ?_
        rintro e w2 ⟨rfl, hw⟩
        rw [hw]
        clear hw
        go_wp2
        go_roundw
        case rel => exact ⟨k + 1, by omega, by go_num, TN.out, trivial⟩
        case measure => simp [intOf]; omega
    · obtain rfl : k = n := by omega
      have RF := Lib.hid (show r = false by rw [← HR.out, ← TA.out, List.take_of_length_le (by rw [HN.out]; exact Nat.le_refl _)])
      go_wp2
      go_ret
      exact ⟨-1, by rw [RF.out]; rfl, rfl, rfl⟩
set_option maxRecDepth 100000 in
theorem contains_out (A : Option Addr) (l : List Int) (n ca : Nat) (W : World) (hn : l.length = n) (hbig : n ≤ 140737488355328) (hx : Reads W A (l.map (Value.int .i64))) (r : Bool) (hr : l.any (fun x => !okX x) = r) :
    Calls Try.prog 24 #[.slice A n ca, .func (.func 25) #[] #[]] W (fun e W' => e = .returned (.bool r) ∧ W' = W) := by
  have IC := Lib.hid (index_out A l n ca W hn hbig hx r hr)
  clear hx hn hr
  go_enter Try.func24, Try.ntmps24
  go_wp2_with fail
  refine IC.out.mono ?_
  rintro e w2 ⟨k, hk, rfl, hw⟩
  rw [hw]
  clear hw
  go_wp2
  go_ret
  exact ⟨by simp [hk], rfl⟩
theorem any_all (v : Ve) : v.any (fun x => !okX x) = !v.all okX := by rw [List.not_all_eq_any_not]
set_option maxRecDepth 100000 in
set_option maxHeartbeats 8000000 in
theorem wrong_c (A : Option Addr) (ls : List Ve) (n ca : Nat) (V : World) (e : Int) (hn : ls.length = n) (hbig : n ≤ 140737488355328) (hx : VRds V A ls) (he : wrongE ls = e) :
    Calls Try.prog 13 #[.slice A n ca] V (fun x W' => x = .returned (.int .i64 e) ∧ W' = V) := by
  obtain ⟨n0, h0⟩ : ∃ n0, ∀ v0, ls[0]? = some v0 → v0.length = n0 := by
    cases ls with
    | nil => exact ⟨0, fun v h => by simp at h⟩
    | cons a l => exact ⟨a.length, fun v h => by simp at h; rw [h]⟩
  have HX := Lib.hid hx
  have HN := Lib.hid hn
  have H0 := Lib.hid h0
  have HE := Lib.hid he
  clear hx hn h0 he
  go_enter Try.func13, Try.ntmps13
  go_wp2_with fail
  go_loopw [7] (fun i wr => ∃ k : Nat, k ≤ n ∧ i = .int .i64 k ∧ wrongTo n0 (ls.take k) = 0 ∧ wr = V) (fun i _ => n - (intOf i).toNat)
  case atStart => exact ⟨0, by omega, rfl, rfl, rfl⟩
  case round =>
    obtain ⟨k, hk, rfl, ht, rfl⟩ := hrel
    have HT := Lib.hid ht
    clear ht
    by_cases hlt : k < n
    · have kl : k < ls.length := by rw [HN.out]; exact hlt
      have k0 : 0 < ls.length := by omega
      obtain ⟨v, hv⟩ : ∃ v, ls[k]? = some v := ⟨_, List.getElem?_eq_getElem kl⟩
      obtain ⟨v0, hv0⟩ : ∃ v, ls[0]? = some v := ⟨_, List.getElem?_eq_getElem k0⟩
      have W1 := Lib.hid (fun hw => wrong_at hv0 (H0.out v0 hv0) hv HT.out hw)
      have W0 := Lib.hid (fun hw => wrongTo_step hv HT.out hw)
      obtain ⟨b1, o1, C, c, rfl, _, y1, hlc, hc, hrd⟩ := HX.out.row hv
      obtain ⟨b2, o2, C2, c2, e2, _, y2, hlc2, hc2, _⟩ := HX.out.row hv0
      injection e2 with e2
      injection e2 with e3 e4
      subst e3 e4
      rw [H0.out v0 hv0] at y2 hlc2 hc2
      simp only [Nat.add_zero] at y2
      obtain ⟨q, hq⟩ : ∃ q, v.length = q := ⟨_, rfl⟩
      rw [hq] at y1 hlc hc
      have j1 : (k : Int) < (n : Int) := by omega
      have j0 : (0 : Int) < (n : Int) := by omega
      have HQ := Lib.hid hq
      have HV := Lib.hid hv
      have CC0 := fun r hr => contains_out C v q c wr hq hc hrd r hr
      clear kl k0 hv hv0 hrd hq
      by_cases h16 : 16 < q
      · have j2 : (16 : Int) < (q : Int) := by omega
        have E := Lib.hid (show e = 1 by
          have h1 : wrong1 n0 v = 1 := by unfold wrong1; rw [if_pos (by rw [HQ.out]; omega)]
          rw [← HE.out, W1.out (by rw [h1]; decide), h1])
        clear h16 CC0
        go_wp2
        rw [E.out]
        go_ret
        exact ⟨rfl, rfl⟩
      have j2 : ¬ (16 : Int) < (q : Int) := by omega
      by_cases hq0 : q = n0
      · subst hq0
        cases hb : v.all okX with
        | false =>
          have CC := Lib.hid (CC0 true (by rw [any_all, hb]; rfl))
          have E := Lib.hid (show e = 2 by
            have hh : wrong1 q v = 2 := by unfold wrong1; rw [if_neg (by rw [HQ.out]; omega), if_neg (by rw [hb]; decide)]
            rw [← HE.out, W1.out (by rw [hh]; decide), hh])
          clear CC0 hb
          go_wp2_with fail
          refine CC.out.mono ?_
          rintro e w2 ⟨rfl, hw⟩
          rw [hw]
          clear hw
          go_wp2
          rw [E.out]
          go_ret
          exact ⟨rfl, rfl⟩
        | true =>
          have CC := Lib.hid (CC0 false (by rw [any_all, hb]; rfl))
          have T2 := Lib.hid (W0.out (by unfold wrong1; rw [if_neg (by rw [HQ.out]; omega), if_pos hb]))
          clear CC0 hb
          go_wp2_with fail
          refine CC.out.mono ?_
          rintro e w2 ⟨rfl, hw⟩
          rw [hw]
          clear hw
          go_wp2
          go_roundw
          case rel => exact ⟨k + 1, by omega, by go_num, T2.out, trivial⟩
          case measure => simp [intOf]; omega
      · have j3 : ¬ (q : Int) = (n0 : Int) := by omega
        have E := Lib.hid (show e = 1 by
          have h1 : wrong1 n0 v = 1 := by unfold wrong1; rw [if_pos (by rw [HQ.out]; exact .inr hq0)]
          rw [← HE.out, W1.out (by rw [h1]; decide), h1])
        clear CC0
        go_wp2
        rw [E.out]
        go_ret
        exact ⟨rfl, rfl⟩
    · obtain rfl : k = n := by omega
      have E := Lib.hid (show e = 0 by
        have := HT.out
        rw [List.take_of_length_le (Nat.le_of_eq HN.out)] at this
        rw [← HE.out, wrong_none H0.out this])
      go_wp2
      rw [E.out]
      go_ret
      exact ⟨rfl, rfl⟩
theorem wrongSpec : WrongSpec := fun A ls n ca V e hn hbig hx he => (wrong_c A ls n ca V e hn hbig hx he).mono fun _ _ ⟨h1, h2⟩ => ⟨h1, by rw [h2]; exact Below.refl _ _⟩
end Go.Proofs.Ytkflngdahnpmbaa.Ve
