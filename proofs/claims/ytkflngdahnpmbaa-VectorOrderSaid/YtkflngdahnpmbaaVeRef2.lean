/-
  The document's own answers of package vector: PWrong, SameLists.
-/
import Derived.Test.YtkflngdahnpmbaaVeRef
namespace Go.Proofs.Ytkflngdahnpmbaa.Ve
set_option linter.unusedVariables false
set_option linter.unusedSimpArgs false
open Go.RowKit Mem Gt
open Jump (Gave equalZ_c)

theorem wrong_at {ls : List Ve} {k n0 : Nat} {v v0 : Ve} (h0 : ls[0]? = some v0) (hn : v0.length = n0) (hk : ls[k]? = some v) (ht : wrongTo n0 (ls.take k) = 0) (hw : wrong1 n0 v ≠ 0) : wrongE ls = wrong1 n0 v := by
  have e : wrongE ls = wrongTo n0 ls := by
    cases ls with
    | nil => simp at h0
    | cons a l => simp at h0; subst h0; rw [← hn]; rfl
  have hlt := (List.getElem?_eq_some_iff.1 hk).1
  have es : ls = ls.take k ++ (v :: ls.drop (k + 1)) := by
    conv => lhs; rw [← List.take_append_drop k ls]
    rw [List.drop_eq_getElem_cons hlt, (List.getElem?_eq_some_iff.1 hk).2]
  rw [e]
  conv => lhs; rw [es]
  rw [wrongTo_app, if_pos ht, wrongTo, if_neg hw]
theorem wrong_none {ls : List Ve} {n0 : Nat} (h0 : ∀ v0, ls[0]? = some v0 → v0.length = n0) (ht : wrongTo n0 ls = 0) : wrongE ls = 0 := by
  cases ls with
  | nil => rfl
  | cons a l => rw [← h0 a rfl] at ht; exact ht
theorem wrongTo_step {ls : List Ve} {k n0 : Nat} {v : Ve} (hk : ls[k]? = some v) (ht : wrongTo n0 (ls.take k) = 0) (hw : wrong1 n0 v = 0) : wrongTo n0 (ls.take (k + 1)) = 0 := by
  rw [List.take_add_one, hk, wrongTo_app, if_pos ht]
  show wrongTo n0 [v] = 0
  rw [wrongTo, if_pos hw]; rfl
theorem okX_take {v : Ve} {j : Nat} {x : Int} (hx : v[j]? = some x) (h : (v.take j).all okX = true) (h1 : 0 ≤ x) (h2 : x ≤ 1099511627776) : (v.take (j + 1)).all okX = true := by
  rw [List.take_add_one, hx, List.all_append, h]
  simp [okX, h1, h2]
theorem okX_not {v : Ve} {j : Nat} {x : Int} (hx : v[j]? = some x) (h : ¬ (0 ≤ x ∧ x ≤ 1099511627776)) : v.all okX ≠ true := fun h' => h (by
  have := List.all_eq_true.1 h' x (List.mem_of_getElem? hx)
  unfold okX at this
  rw [Bool.and_eq_true, decide_eq_true_eq, decide_eq_true_eq] at this
  exact this)
set_option maxRecDepth 100000 in
set_option maxHeartbeats 8000000 in
theorem pwrong_c (A : Option Addr) (ls : List Ve) (n ca : Nat) (V : World) (e : Int) (hn : ls.length = n) (hbig : n ≤ 140737488355328) (hx : VRds V A ls) (he : wrongE ls = e) :
    Calls Try.prog 12 #[.slice A n ca] V (Gave (.int .i64 e) V) := by
  obtain ⟨n0, h0⟩ : ∃ n0, ∀ v0, ls[0]? = some v0 → v0.length = n0 := by
    cases ls with
    | nil => exact ⟨0, fun v h => by simp at h⟩
    | cons a l => exact ⟨a.length, fun v h => by simp at h; rw [h]⟩
  have HX := Lib.hid hx
  have HN := Lib.hid hn
  have H0 := Lib.hid h0
  have HE := Lib.hid he
  clear hx hn h0 he
  go_enter Try.func12, Try.ntmps12
  go_wp2_with fail
  go_loopw [9] (fun i wr => ∃ k : Nat, k ≤ n ∧ i = .int .i64 k ∧ wrongTo n0 (ls.take k) = 0 ∧ Below V.heap.size V wr) (fun i _ => n - (intOf i).toNat)
  case atStart => exact ⟨0, by omega, rfl, rfl, Below.refl _ _⟩
  case round =>
    obtain ⟨k, hk, rfl, ht, hB⟩ := hrel
    obtain ⟨wo, rfl⟩ : ∃ wo : World, wo = wr := ⟨_, rfl⟩
    have HT := Lib.hid ht
    have BB := Lib.hid hB
    clear ht
    by_cases hlt : k < n
    · have kl : k < ls.length := by rw [HN.out]; exact hlt
      have k0 : 0 < ls.length := by omega
      obtain ⟨v, hv⟩ : ∃ v, ls[k]? = some v := ⟨_, List.getElem?_eq_getElem kl⟩
      obtain ⟨v0, hv0⟩ : ∃ v, ls[0]? = some v := ⟨_, List.getElem?_eq_getElem k0⟩
      have W1 := Lib.hid (fun hw => wrong_at hv0 (H0.out v0 hv0) hv HT.out hw)
      have W0 := Lib.hid (fun hw => wrongTo_step hv HT.out hw)
      obtain ⟨b1, o1, C, c, rfl, _, y1, hlc, hc, hrd⟩ := (HX.out.below hB).row hv
      obtain ⟨b2, o2, C2, c2, e2, _, y2, hlc2, hc2, _⟩ := (HX.out.below hB).row hv0
      injection e2 with e2
      injection e2 with e3 e4
      subst e3 e4
      rw [H0.out v0 hv0] at y2 hlc2 hc2
      simp only [Nat.add_zero] at y2
      obtain ⟨q, hq⟩ : ∃ q, v.length = q := ⟨_, rfl⟩
      rw [hq] at y1 hlc hc
      have j1 : (k : Int) < (n : Int) := by omega
      have HQ := Lib.hid hq
      have HR := Lib.hid hrd
      have HV := Lib.hid hv
      clear kl k0 hv hv0 hrd hq hB
      by_cases h16 : 16 < q
      · have j2 : (16 : Int) < (q : Int) := by omega
        have E := Lib.hid (show e = 1 by
          have h1 : wrong1 n0 v = 1 := by unfold wrong1; rw [if_pos (by rw [HQ.out]; omega)]
          rw [← HE.out, W1.out (by rw [h1]; decide), h1])
        clear h16
        go_wp2
        rw [E.out]
        go_ret
        exact ⟨rfl, BB.out⟩
      have j2 : ¬ (16 : Int) < (q : Int) := by omega
      by_cases hq0 : q = n0
      · subst hq0
        go_wp2_with fail
        go_loopw [27] (fun i wr => ∃ j : Nat, j ≤ q ∧ i = .int .i64 j ∧ (v.take j).all okX = true ∧ wr = wo) (fun i _ => q - (intOf i).toNat)
        case atStart => exact ⟨0, by omega, rfl, by simp, rfl⟩
        case round =>
          obtain ⟨j, hj, rfl, ha, rfl⟩ := hrel
          have HA := Lib.hid ha
          clear ha
          by_cases hlt2 : j < q
          · have jl : j < v.length := by rw [HQ.out]; exact hlt2
            obtain ⟨x, hx⟩ : ∃ x, v[j]? = some x := ⟨_, List.getElem?_eq_getElem jl⟩
            obtain ⟨b3, o3, rfl, _, y3⟩ := int_at HR.out hx
            have j3 : (j : Int) < (q : Int) := by omega
            have HXX := Lib.hid hx
            clear jl hx
            by_cases h1 : x < 0
            · have E := Lib.hid (show e = 2 by
                have hh : wrong1 q v = 2 := by unfold wrong1; rw [if_neg (by rw [HQ.out]; omega), if_neg (okX_not HXX.out (by omega))]
                rw [← HE.out, W1.out (by rw [hh]; decide), hh])
              go_wp2
              rw [E.out]
              go_ret
              exact ⟨rfl, BB.out⟩
            · by_cases h2 : 1099511627776 < x
              · have E := Lib.hid (show e = 2 by
                  have hh : wrong1 q v = 2 := by unfold wrong1; rw [if_neg (by rw [HQ.out]; omega), if_neg (okX_not HXX.out (by omega))]
                  rw [← HE.out, W1.out (by rw [hh]; decide), hh])
                go_wp2
                rw [E.out]
                go_ret
                exact ⟨rfl, BB.out⟩
              · have A2 := Lib.hid (okX_take HXX.out HA.out (by omega) (by omega))
                go_wp2
                go_roundw
                case rel => exact ⟨j + 1, by omega, by go_num, A2.out, trivial⟩
                case measure => simp [intOf]; omega
          · obtain rfl : j = q := by omega
            have T2 := Lib.hid (W0.out (by
              have := HA.out
              rw [List.take_of_length_le (Nat.le_of_eq HQ.out)] at this
              unfold wrong1
              rw [if_neg (by rw [HQ.out]; omega), if_pos this]))
            go_wp2
            go_roundw
            case rel => exact ⟨k + 1, by omega, by go_num, T2.out, BB.out⟩
            case measure => simp [intOf]; omega
      · have j3 : ¬ (q : Int) = (n0 : Int) := by omega
        have E := Lib.hid (show e = 1 by
          have h1 : wrong1 n0 v = 1 := by unfold wrong1; rw [if_pos (by rw [HQ.out]; exact .inr hq0)]
          rw [← HE.out, W1.out (by rw [h1]; decide), h1])
        go_wp2
        rw [E.out]
        go_ret
        exact ⟨rfl, BB.out⟩
    · obtain rfl : k = n := by omega
      have E := Lib.hid (show e = 0 by
        have := HT.out
        rw [List.take_of_length_le (Nat.le_of_eq HN.out)] at this
        rw [← HE.out, wrong_none H0.out this])
      go_wp2
      rw [E.out]
      go_ret
      exact ⟨rfl, BB.out⟩
end Go.Proofs.Ytkflngdahnpmbaa.Ve
