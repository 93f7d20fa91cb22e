/-
  VectorNewest, walked over what the laws take of the program.
-/
import Derived.Test.YtkflngdahnpmbaaVeAlive
import Derived.Test.YtkflngdahnpmbaaVeRef4
namespace Go.Proofs.Ytkflngdahnpmbaa.Ve
set_option linter.unusedVariables false
set_option linter.unusedSimpArgs false
open Go.RowKit Mem Gt
open Jump (Gave equalZ_c)

theorem any_take {α : Type} {p : α → Bool} {l : List α} {k : Nat} {x : α} (h : l[k]? = some x) : (l.take (k + 1)).any p = ((l.take k).any p || p x) := by
  rw [List.take_add_one, h, List.any_append]; simp
theorem any_of {α : Type} {p : α → Bool} {l : List α} {k : Nat} {x : α} (h : l[k]? = some x) (hp : p x = true) : l.any p = true := List.any_eq_true.2 ⟨x, List.mem_of_getElem? h, hp⟩
theorem under_cmp (a b : Ve) : under a b = decide (cmp a b = 1 ∨ cmp a b = 2) := by
  unfold cmp
  cases under a b <;> cases under b a <;> simp
theorem fine_two {q : Nat} {a b : Ve} (fa : Fine q a) (fb : Fine q b) : wrongE [a, b] = 0 := wrongE_zero.2 ⟨q, fun v hv => by
  simp at hv
  rcases hv with rfl | rfl
  · exact fa
  · exact fb⟩
set_option maxRecDepth 100000 in
set_option maxHeartbeats 4000000 in
theorem clos_c (hC : CompareSpec) (bx : Nat) (C D : Option Addr) (a b : Ve) (q ca cb : Nat) (V : World) (fa : Fine q a) (fb : Fine q b) (ka : q ≤ ca ∧ ca ≤ 9223372036854775807) (kb : q ≤ cb ∧ cb ≤ 9223372036854775807) (ra : Reads V C (a.map (Value.int .i64))) (rb : Reads V D (b.map (Value.int .i64)))
    (hx : V.cell? ⟨bx, 0, none⟩ = some (.slice C q ca)) (r : Bool) (hr : under a b = r) :
    Calls Try.prog 21 #[.slice D q cb, .pointer (some ⟨bx, 0, none⟩)] V (Gave (.bool r) V) := by
  obtain ⟨c, hc⟩ : ∃ c, cmp a b = c := ⟨_, rfl⟩
  have P := Lib.hid (hC C D a b q q ca cb V c 0 fa.1 fb.1 ka kb (by have := fa.2.1; omega) (by have := fa.2.1; omega) ra rb (fine_two fa fb) (by rw [if_pos rfl]; exact hc))
  have hv := cmp_vals a b
  rw [under_cmp] at hr
  rw [hc] at hv hr
  clear fa fb ra rb hc ka kb
  rcases hv with rfl | rfl | rfl | rfl
  all_goals
    simp at hr
    subst hr
    go_enter Try.func21, Try.ntmps21
    go_wp2_with (refine P.out.mono ?_; rintro e w2 ⟨rfl, hb⟩)
    go_ret
    exact ⟨rfl, hb⟩
set_option maxRecDepth 100000 in
set_option maxHeartbeats 4000000 in
theorem index_v (bx : Nat) (p : Ve → Bool) (A : Option Addr) (l : List Ve) (n ca : Nat) (W : World) (hn : l.length = n) (hbig : n ≤ 70368744177664) (hx : VRds W A l) (r : Bool) (hr : l.any p = r)
    (hc : ∀ (V : World) (b : Ve) (D : Option Addr) (cb q : Nat) (s : Bool), b ∈ l → b.length = q → Below W.heap.size W V → (q ≤ cb ∧ cb ≤ 9223372036854775807) → Reads V D (b.map (Value.int .i64)) → p b = s → Calls Try.prog 21 #[.slice D q cb, .pointer (some ⟨bx, 0, none⟩)] V (Gave (.bool s) V)) :
    Calls Try.prog 27 #[.slice A n ca, .func (.func 21) #[] #[.pointer (some ⟨bx, 0, none⟩)]] W
      (fun e W' => ∃ k : Int, decide (0 ≤ k) = r ∧ e = .returned (.int .i64 k) ∧ Below W.heap.size W W') := by
  have HC := Lib.hid hc
  have HX := Lib.hid hx
  have HN := Lib.hid hn
  have HR := Lib.hid hr
  clear hx hn hc hr
  go_enter Try.func27, Try.ntmps27
  go_wp2
  go_loopw [8] (fun i wr => ∃ k : Nat, k ≤ n ∧ i = .int .i64 k ∧ (l.take k).any p = false ∧ Below W.heap.size W wr) (fun i _ => n - (intOf i).toNat)
  case atStart => exact ⟨0, by omega, rfl, by simp, Below.refl _ _⟩
  case round =>
    obtain ⟨k, hk, rfl, ha, hB⟩ := hrel
    have BB := Lib.hid hB
    have TA := Lib.hid ha
    clear ha
    by_cases hlt : k < n
    · have kl : k < l.length := by rw [HN.out]; exact hlt
      obtain ⟨x, hx⟩ : ∃ x, l[k]? = some x := ⟨_, List.getElem?_eq_getElem kl⟩
      obtain ⟨b1, o1, D, cb, rfl, _, y0, h1, h2, hr⟩ := (HX.out.below hB).row hx
      obtain ⟨q, hq⟩ : ∃ q, x.length = q := ⟨_, rfl⟩
      rw [hq] at y0 h1 h2
      have EX := Lib.hid hx
      have i1 : (k : Int) < (n : Int) := by omega
      have CC0 := fun s (hs : p x = s) => HC.out wr x D cb q s (List.mem_of_getElem? hx) hq BB.out h1 hr hs
      clear kl hx hB hr h1 h2 hq
      cases hb : p x with
      | true =>
        have CC := Lib.hid (CC0 true hb)
        have RT := Lib.hid (show r = true by rw [← HR.out]; exact any_of EX.out hb)
        clear hb CC0
        go_wp2_with fail
        refine CC.out.mono ?_
        rintro e w2 ⟨rfl, hb⟩
        have B2 := Lib.hid (BB.out.trans (hb.mono BB.out.size))
        clear hb
        go_wp2
        go_ret
        exact ⟨k, by rw [RT.out]; exact decide_eq_true (by omega), rfl, B2.out⟩
      | false =>
        have CC := Lib.hid (CC0 false hb)
        have TN := Lib.hid (show (l.take (k + 1)).any p = false by rw [any_take EX.out, TA.out, hb]; rfl)
        clear hb CC0
        go_wp2_with fail
        refine CC.out.mono ?_
        rintro e w2 ⟨rfl, hb⟩
        have B2 := Lib.hid (BB.out.trans (hb.mono BB.out.size))
        clear hb
        go_wp2
        go_roundw
        case rel => exact ⟨k + 1, by omega, by go_num, TN.out, B2.out⟩
        case measure => simp [intOf]; omega
    · obtain rfl : k = n := by omega
      have RF := Lib.hid (show r = false by rw [← HR.out, ← TA.out, List.take_of_length_le (by rw [HN.out]; exact Nat.le_refl _)])
      clear hB
      go_wp2
      go_ret
      exact ⟨-1, by rw [RF.out]; rfl, rfl, BB.out⟩
set_option maxRecDepth 100000 in
theorem contains_v (bx : Nat) (p : Ve → Bool) (A : Option Addr) (l : List Ve) (n ca : Nat) (W : World) (hn : l.length = n) (hbig : n ≤ 70368744177664) (hx : VRds W A l) (r : Bool) (hr : l.any p = r)
    (hc : ∀ (V : World) (b : Ve) (D : Option Addr) (cb q : Nat) (s : Bool), b ∈ l → b.length = q → Below W.heap.size W V → (q ≤ cb ∧ cb ≤ 9223372036854775807) → Reads V D (b.map (Value.int .i64)) → p b = s → Calls Try.prog 21 #[.slice D q cb, .pointer (some ⟨bx, 0, none⟩)] V (Gave (.bool s) V)) :
    Calls Try.prog 20 #[.slice A n ca, .func (.func 21) #[] #[.pointer (some ⟨bx, 0, none⟩)]] W (Gave (.bool r) W) := by
  have IC := Lib.hid (index_v bx p A l n ca W hn hbig hx r hr hc)
  clear hx hn hc hr
  go_enter Try.func20, Try.ntmps20
  go_wp2_with fail
  refine IC.out.mono ?_
  rintro e w2 ⟨k, hk, rfl, hb⟩
  have B2 := Lib.hid hb
  clear hb
  go_wp2
  go_ret
  exact ⟨by simp [hk], B2.out⟩
set_option maxRecDepth 100000 in
set_option maxHeartbeats 16000000 in
theorem newest_w (hC : CompareSpec) (hJ : JoinSpec) (hT : TickSpec) (hN : NewestSpec) (A : Option Addr) (ls : List Ve) (n ca : Nat) (W : World) (hn : ls.length = n) (kc : n ≤ ca ∧ ca ≤ 9223372036854775807) (hbig : n ≤ 5864062014805) (hx : VRds W A ls) :
    Calls Try.prog 7 #[.slice A n ca] W (Law.Yes W) := by
  have AL := Lib.hid (alive_c hC hJ hT hN W)
  obtain ⟨e, he⟩ : ∃ e, newE ls = e := ⟨_, rfl⟩
  by_cases he0 : e = 0
  · subst he0
    obtain ⟨outs, ho⟩ : ∃ outs, newest ls = outs := ⟨_, rfl⟩
    obtain ⟨m, hm⟩ : ∃ m, outs.length = m := ⟨_, rfl⟩
    have P1 := Lib.hid (fun V (hV : Below W.heap.size W V) => hN A ls n ca V outs m 0 hn kc (by omega) (hx.below hV) he (by rw [if_pos rfl]; exact ho) hm)
    have h400 : ls.length ≤ 400 := by
      unfold newE at he
      split at he
      · cases he
      · omega
    have hwe : wrongE ls = 0 := by
      unfold newE at he
      rw [if_neg (by omega)] at he
      exact he
    obtain ⟨q, hfine⟩ := wrongE_zero.1 hwe
    have hlen : ∀ v ∈ ls, v.length = q := fun v hv => (hfine v hv).1
    have hof : ∀ v ∈ outs, Fine q v := fun v hv => hfine v (newest_sub hlen (by rw [ho]; exact hv))
    have hm4 : m ≤ 400 := by
      have := newest_len (n := q) (l := ls) ls []
      simp at this
      have h2 : (newest ls).length = m := by rw [ho, hm]
      unfold newest at h2
      omega
    have hnd := (newest_facts hlen).1
    rw [ho] at hnd
    have APT := Lib.hid (show ∀ (j k : Nat) (a b : Ve), j < k → outs[k]? = some a → outs[j]? = some b → cmp a b = 4 from fun j k a b hjk ha hb => newest_apart hlen (by rw [ho]; exact List.mem_of_getElem? ha) (by rw [ho]; exact List.mem_of_getElem? hb) (fun e => by
      subst e
      obtain ⟨ha1, ha2⟩ := List.getElem?_eq_some_iff.1 ha
      obtain ⟨hb1, hb2⟩ := List.getElem?_eq_some_iff.1 hb
      have := (List.getElem_inj hnd).1 (ha2.trans hb2.symm)
      omega))
    have OVR := Lib.hid (show ∀ a ∈ ls, outs.any (under a) = true from fun a ha => by
      obtain ⟨b, hb, hu⟩ := newest_over hlen ha
      rw [ho] at hb
      exact List.any_eq_true.2 ⟨b, hb, hu⟩)
    have P2 := Lib.hid (fun A2 c2 V (k2 : m ≤ c2 ∧ c2 ≤ 9223372036854775807) (h : VRds V A2 outs) => hN A2 outs m c2 V outs m 0 hm k2 (by omega) h (by
      unfold newE
      rw [if_neg (by omega)]
      exact wrongE_zero.2 ⟨q, hof⟩) (by rw [if_pos rfl, ← ho]; exact newest_again hlen) hm)
    have CP := Lib.hid hC
    have HX := Lib.hid hx
    have HN := Lib.hid hn
    have HM := Lib.hid hm
    have HFI := Lib.hid hfine
    have HOF := Lib.hid hof
    clear hx hn he ho hm h400 hwe hfine hlen hof hnd hC hJ hT hN
    go_enter Try.func7, Try.ntmps7
    go_wp2_with fail
    refine AL.out.mono ?_
    rintro u w1 ⟨rfl, hb⟩
    have B1 := Lib.hid hb
    have E1 := Lib.hid (P1.out w1 hb)
    clear hb AL P1
    go_wp2_with fail
    refine E1.out.mono ?_
    rintro u w2 ⟨A2, c2, rfl, k2, hr, hb⟩
    have B2 := Lib.hid (B1.out.trans (hb.mono B1.out.size))
    have R2 := Lib.hid hr
    clear hb hr E1 B1
    go_wp2_with fail
    go_loopw [29] (fun i wr => ∃ k : Nat, k ≤ m ∧ i = .int .i64 k ∧ Below w2.heap.size w2 wr) (fun i _ => m - (intOf i).toNat)
    case atStart => exact ⟨0, by omega, rfl, Below.refl _ _⟩
    case round =>
      obtain ⟨k, hk, rfl, hB⟩ := hrel
      obtain ⟨wo, rfl⟩ : ∃ wo : World, wo = wr := ⟨_, rfl⟩
      have BB := Lib.hid hB
      by_cases hlt : k < m
      · have kl : k < outs.length := by rw [HM.out]; exact hlt
        obtain ⟨a, ha⟩ : ∃ a, outs[k]? = some a := ⟨_, List.getElem?_eq_getElem kl⟩
        obtain ⟨b1, o1, C, ac, rfl, _, y0, h1, h2, hra⟩ := (R2.out.below hB).row ha
        rw [(HOF.out a (List.mem_of_getElem? ha)).1] at y0 h1 h2
        have HA := Lib.hid ha
        have FA := Lib.hid (HOF.out a (List.mem_of_getElem? ha))
        have RA := Lib.hid hra
        have i1 : (k : Int) < (m : Int) := by omega
        clear kl ha hra hB
        go_wp2_with fail
        go_loopw [38] (fun i wr => ∃ j : Nat, j ≤ k ∧ i = .int .i64 j ∧ Below wo.heap.size wo wr) (fun i _ => k - (intOf i).toNat)
        case atStart => exact ⟨0, by omega, rfl, Below.refl _ _⟩
        case round =>
          obtain ⟨j, hj, rfl, hB⟩ := hrel
          have B3 := Lib.hid hB
          by_cases hlt2 : j < k
          · have jl : j < outs.length := by rw [HM.out]; omega
            obtain ⟨b, hb⟩ : ∃ b, outs[j]? = some b := ⟨_, List.getElem?_eq_getElem jl⟩
            obtain ⟨b2, o2, D, bc, e2, _, z0, g1, g2, hrb⟩ := ((R2.out.below BB.out).below hB).row hb
            injection e2 with e2
            injection e2 with e3 e4
            subst e3 e4
            have fb := HOF.out b (List.mem_of_getElem? hb)
            rw [fb.1] at z0 g1 g2
            have C3 := Lib.hid (CP.out C D a b q q ac bc wr 4 0 FA.out.1 fb.1 h1 g1 (by omega) (by omega) (RA.out.below hB) hrb (fine_two FA.out fb) (by rw [if_pos rfl]; exact APT.out j k a b hlt2 HA.out hb))
            have j1 : (j : Int) < (k : Int) := by omega
            clear jl hb hrb fb hB
            go_wp2_with fail
            refine C3.out.mono ?_
            rintro u w3 ⟨rfl, hb⟩
            have B4 := Lib.hid (B3.out.trans (hb.mono B3.out.size))
            clear hb
            go_wp2
            go_roundw
            case rel => exact ⟨j + 1, by omega, by go_num, B4.out⟩
            case measure => simp [intOf]; omega
          · obtain rfl : j = k := by omega
            have B4 := Lib.hid (BB.out.trans (hB.mono BB.out.size))
            clear hB
            go_wp2
            go_roundw
            case rel => exact ⟨j + 1, by omega, by go_num, B4.out⟩
            case measure => simp [intOf]; omega
      · obtain rfl : k = m := by omega
        have R3 := Lib.hid (R2.out.below hB)
        have B3 := Lib.hid (B2.out.trans (hB.mono B2.out.size))
        clear hB BB R2 B2
        go_wp2_with fail
        go_loopw [58] (fun i wr => ∃ j : Nat, j ≤ n ∧ i = .int .i64 j ∧ Below wo.heap.size wo wr) (fun i _ => n - (intOf i).toNat)
        case atStart => exact ⟨0, by omega, rfl, Below.refl _ _⟩
        case round =>
          obtain ⟨j, hj, rfl, hB⟩ := hrel
          have BB := Lib.hid hB
          by_cases hlt2 : j < n
          · have jl : j < ls.length := by rw [HN.out]; exact hlt2
            obtain ⟨a, ha⟩ : ∃ a, ls[j]? = some a := ⟨_, List.getElem?_eq_getElem jl⟩
            obtain ⟨b1, o1, C, ac, rfl, _, y0, h1, h2, hra⟩ := ((HX.out.below B3.out).below hB).row ha
            have fa := HFI.out a (List.mem_of_getElem? ha)
            rw [fa.1] at y0 h1 h2
            have kn := Mem.Known.made wr 22 #[.slice C q ac]
            have B4 := Lib.hid (show Below wo.heap.size wo (wr.alloc (.cells #[.slice C q ac] 22)) from hB.trans ((low_lit wr _).mono hB.size))
            have CT := Lib.hid (contains_v wr.heap.size (under a) A2 outs k c2 (wr.alloc (.cells #[.slice C q ac] 22)) HM.out (by omega) (R3.out.below B4.out) true (OVR.out a (List.mem_of_getElem? ha)) (fun V b D cb p s hb hp hV kb hrb hs => by
              have fb := HOF.out b hb
              obtain rfl : q = p := fb.1.symm.trans hp
              exact clos_c CP.out wr.heap.size C D a b q ac cb V fa fb h1 kb ((hra.below (low_lit wr _)).below hV) hrb ((hV.cell (p := ⟨wr.heap.size, 0, none⟩) (by simp)).trans (kn.cell 0)) s hs))
            have j1 : (j : Int) < (n : Int) := by omega
            clear jl ha hra fa hB kn
            go_wp2_with fail
            refine CT.out.mono ?_
            rintro u w3 ⟨rfl, hb⟩
            have B5 := Lib.hid (B4.out.trans (hb.mono B4.out.size))
            clear hb
            go_wp2
            go_roundw
            case rel => exact ⟨j + 1, by omega, by go_num, B5.out⟩
            case measure => simp [intOf]; omega
          · obtain rfl : j = n := by omega
            have E2 := Lib.hid (P2.out A2 c2 wr k2 (R3.out.below hB))
            have R4 := Lib.hid (R3.out.below hB)
            have B4 := Lib.hid (B3.out.trans (hB.mono B3.out.size))
            clear hB
            go_wp2_with fail
            refine E2.out.mono ?_
            rintro u w3 ⟨A3, c3, rfl, k3, hr, hb⟩
            have B5 := Lib.hid (B4.out.trans (hb.mono B4.out.size))
            have SL0 := samelists_c A3 A2 outs outs k k c3 c2 w3 HM.out HM.out (by omega) (by omega) hr (R4.out.below hb)
            rw [decide_eq_true rfl] at SL0
            have SL := Lib.hid SL0
            clear hb hr SL0 E2
            go_wp2_with fail
            refine SL.out.mono ?_
            rintro u w4 ⟨rfl, hd⟩
            have B6 := Lib.hid (B5.out.trans (hd.below _))
            clear hd
            go_wp2
            go_ret
            exact ⟨rfl, B6.out⟩
  · have P1 := Lib.hid (fun V (hV : Below W.heap.size W V) => hN A ls n ca V [] 0 e hn kc (by omega) (hx.below hV) he (by rw [if_neg he0]) rfl)
    have e1 : (e != 0) = true := by simp [he0]
    clear hx hn he
    go_enter Try.func7, Try.ntmps7
    go_wp2_with fail
    refine AL.out.mono ?_
    rintro u w1 ⟨rfl, hb⟩
    have B1 := Lib.hid hb
    have E1 := Lib.hid (P1.out w1 hb)
    clear hb AL P1
    go_wp2_with fail
    refine E1.out.mono ?_
    rintro u w2 ⟨A2, c2, rfl, k2, hr, hb⟩
    have B2 := Lib.hid (B1.out.trans (hb.mono B1.out.size))
    clear hb hr
    go_wp2
    go_ret
    exact ⟨rfl, B2.out⟩
end Go.Proofs.Ytkflngdahnpmbaa.Ve
