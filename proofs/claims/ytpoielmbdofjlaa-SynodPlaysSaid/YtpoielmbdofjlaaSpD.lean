/-
  Package synod: accept.
-/
import Derived.Test.YtpoielmbdofjlaaSpC
namespace Go.Proofs.Ytpoielmbdofjlaa.Syn
set_option linter.unusedVariables false
set_option linter.unusedSimpArgs false
open Go.RowKit Mem Gt
open Jump (Gave equalZ_c)

theorem puts_seen (b now : Nat) (p : PS) : ∀ k, ((List.range k).foldl (putIf b now) p).seen = p.seen ∧ ((List.range k).foldl (putIf b now) p).ab = p.ab
  | 0 => ⟨rfl, rfl⟩
  | k + 1 => by
    rw [fold_suc, ← (puts_seen b now p k).1, ← (puts_seen b now p k).2]
    unfold putIf
    split <;> exact ⟨rfl, rfl⟩
set_option maxRecDepth 100000 in
set_option maxHeartbeats 16000000 in
theorem acc_c (B n b oc : Nat) (od : Int) (p : PS) (g : Nat → Nat) (V : World) (hn : n ≤ 16) (h1 : 1 ≤ b) (h4 : b ≤ 400) (ho : oc < 65536) (h : Co B n p g V) :
    Calls Try.prog 22 #[.pointer (some ⟨B + 2, 0, none⟩), .agg #[.int .i64 2, .int .i64 b, .int .u16 oc, .int .i64 od]] V (OpOut B n p g V (pacc n p b oc).2 (pacc n p b oc).1) := by
  have S0 := Lib.hid (Mi.start (o := (2, (b : Int), oc, od)) h)
  obtain ⟨w0, hw0⟩ : ∃ w0, w0 = (V.alloc (.cells (opC (2, (b : Int), oc, od)) tOp)).alloc (.cells (anC (0, 0, 0)) tAn) := ⟨_, rfl⟩
  rw [← hw0] at S0
  have HW := Lib.hid (show w0 = (V.alloc (.cells #[.int .i64 2, .int .i64 b, .int .u16 oc, .int .i64 od] 37)).alloc (.cells #[.int .i64 0, .int .u16 0, .int .i64 0] 31) from hw0)
  clear hw0
  have y1 := S0.out.o1
  have c1 := S0.out.co.c1
  simp only at y1
  obtain ⟨u, hu⟩ : ∃ u, Value.pointer u = ptrV g p b := by unfold ptrV; split <;> exact ⟨_, rfl⟩
  have LK : ∀ q, (Instr.lookup 45 (.map (some (B + 1))) (.int .i64 (b : Int)) false).run Try.prog (w0.drewN q) = .ok (.pointer u) (w0.drewN q) := fun q => by rw [hu]; exact (S0.out.co.drewN q).look h4
  have HU := Lib.hid hu
  clear h hu
  go_enter Try.func22, Try.ntmps22
  go_upto_region 1 with fail
  rw [← HW.out]
  clear HW
  go_quiet (fail)
  have M1 := Lib.hid (S0.out.drewN nq)
  obtain ⟨w1, hw1⟩ : ∃ w1, w1 = w0.drewN nq := ⟨_, rfl⟩
  rw [← hw1] at M1
  rw [← hw1]
  clear hw1 S0 LK y1 c1
  cases hs : p.seen b with
  | false =>
    have e1 : u = none := by have e := HU.out.trans (ptr_none hs); injection e
    subst e1
    have E := Lib.hid (show pacc n p b oc = (p, 8, 0, 0) by unfold pacc; rw [if_neg (by simp [hs])])
    obtain ⟨a0, a1, a2, f0, f1, f2⟩ := M1.out.a
    simp only at a0 a1 a2
    have M3 := Lib.hid (M1.out.put3 (8, 0, 0))
    clear hs
    go_wp2
    rw [E.out]
    refine bodyPost_ret (v := .agg (anC (8, 0, 0))) ?_ rfl ⟨rfl, g, M3.out.co, M3.out.mv, fun c hc => (M3.out.nw c hc).imp id (fun h => by omega)⟩
    exact M3.out.ret rfl _ rfl
  | true =>
    obtain ⟨G, hG⟩ : ∃ G, G = g b := ⟨_, rfl⟩
    have e1 : u = some ⟨G, 0, none⟩ := by rw [hG]; have e := HU.out.trans (ptr_seen hs); injection e
    subst e1
    obtain ⟨hg4, hp16, ha16, hkn⟩ := M1.out.co.ba b hs
    obtain ⟨pbv, hpbv⟩ : ∃ x, x = p.pb b := ⟨_, rfl⟩
    have z2 : w1.cell? ⟨G, 2, none⟩ = some (.int .u16 (pbv : Nat)) := by rw [hG, hpbv]; exact hkn.cell 2
    obtain ⟨t, ht⟩ : ∃ t, t = ptest n (p.pb b) := ⟨_, rfl⟩
    have MJ := Lib.hid (show Calls Try.prog 25 #[.pointer (some ⟨B + 2, 0, none⟩), .int .u16 (pbv : Nat)] w1 (fun e W' => e = .returned (.bool t) ∧ ∃ j, W' = w1.drewN j) by rw [ht, hpbv]; exact maj_c B n (p.pb b) p g w1 hn hp16 M1.out.co)
    have PS1 := Lib.hid hs
    have HG := Lib.hid hG
    have HA := Lib.hid ha16
    have EP := Lib.hid (show pacc n p b oc = if t = true then (let q := pfix p b; let now := upTo q.prom n b oc; let r := padd ((List.range n).foldl (putIf b now) q) b now; (r, 0, now, r.value b)) else (p, 8, 0, 0) by
      unfold pacc
      by_cases h : t = true
      · rw [if_pos ⟨hs, by rw [← ht]; exact h⟩, if_pos h]
      · rw [if_neg (fun h' => h (by rw [ht]; exact h'.2)), if_neg h])
    clear hkn hg4 hpbv ht hs hG hp16 ha16 HU
    cases t with
    | false =>
      have E := Lib.hid (show pacc n p b oc = (p, 8, 0, 0) by rw [EP.out, if_neg (by simp)])
      clear EP
      go_upto_region 3 with (go_at_call 25; refine MJ.out.mono ?_; rintro e w2 ⟨rfl, j, rfl⟩)
      have M2 := Lib.hid (M1.out.drewN j)
      obtain ⟨a0, a1, a2, f0, f1, f2⟩ := M2.out.a
      simp only at a0 a1 a2
      have M3 := Lib.hid (M2.out.put3 (8, 0, 0))
      clear z2 MJ
      go_wp2
      rw [E.out]
      refine bodyPost_ret (v := .agg (anC (8, 0, 0))) ?_ rfl ⟨rfl, g, M3.out.co, M3.out.mv, fun c hc => (M3.out.nw c hc).imp id (fun h => by omega)⟩
      exact M3.out.ret rfl _ rfl
    | true =>
      go_upto_region 4 with (go_at_call 25; refine MJ.out.mono ?_; rintro e w2 ⟨rfl, j, rfl⟩)
      have M2 := Lib.hid (M1.out.drewN j)
      obtain ⟨w2, hw2⟩ : ∃ w2, w2 = w1.drewN j := ⟨_, rfl⟩
      rw [← hw2] at M2
      rw [← hw2]
      clear hw2 MJ z2 M1
      obtain ⟨q, hq⟩ : ∃ q, q = pfix p b := ⟨_, rfl⟩
      have z4 : w2.cell? ⟨G, 4, none⟩ = some (.bool (p.fixed b)) := by rw [HG.out]; exact (M2.out.co.ba b PS1.out).2.2.2.cell 4
      have f4 : w2.frozen? ⟨G, 4, none⟩ = false := by rw [HG.out]; exact (M2.out.co.ba b PS1.out).2.2.2.free 4
      have M3 := Lib.hid (show Mi B n p g V (2, (b : Int), oc, od) (0, 0, 0) q g (w2.setCell ⟨G, 4, none⟩ (.bool true)) by
        rw [HG.out, hq]
        refine M2.out.bal PS1.out ?_ rfl
        refine M2.out.co.bal PS1.out _ rfl rfl rfl (fun c hc => ?_) ?_ (M2.out.co.ba b PS1.out).2.1 HA.out
        · have e : (pfix p b).fixed c = p.fixed c := upd_other _ _ hc
          exact ⟨by unfold balC; rw [e]; rfl, rfl, rfl⟩
        · have e : (pfix p b).fixed b = true := upd_same _ _ _
          unfold balC; rw [e]; rfl)
      have QS := Lib.hid (show q.seen b = true by rw [hq]; exact PS1.out)
      have QA := Lib.hid (show q.ab b < 65536 by rw [hq]; exact HA.out)
      obtain ⟨now, hnow⟩ : ∃ now, now = upTo q.prom n b oc := ⟨_, rfl⟩
      have NL := Lib.hid (show now < 65536 by rw [hnow]; exact upto_lt _ _ _ ho n)
      have E := Lib.hid (show pacc n p b oc = (padd ((List.range n).foldl (putIf b now) q) b now, 0, now, (padd ((List.range n).foldl (putIf b now) q) b now).value b) by rw [EP.out, hnow, hq]; rfl)
      clear EP hq
      go_upto_region 5 with fail
      obtain ⟨w3, hw3⟩ : ∃ w3, w3 = w2.setCell ⟨G, 4, none⟩ (.bool true) := ⟨_, rfl⟩
      rw [← hw3] at M3
      rw [← hw3]
      clear hw3 z4 f4 M2
      have UC := Lib.hid (show Calls Try.prog 26 #[.pointer (some ⟨B + 2, 0, none⟩), .int .i64 b, .int .u16 oc] w3 (Gave (.int .u16 (now : Nat)) w3) by rw [hnow]; exact upto_c B n b oc q g w3 hn ho M3.out.co)
      have o1 := M3.out.o1
      have o2 := M3.out.o2
      simp only at o1 o2
      clear hnow
      go_upto_region 6 with (go_at_call 26; refine UC.out.mono ?_; rintro e w4 ⟨rfl, hB4⟩)
      have M4 := Lib.hid (M3.out.later hB4)
      clear hB4 UC o1 o2 M3
      have c0 := M4.out.co.c0
      go_wp2_with fail
      clear c0
      go_loopw [41] (fun i wr => ∃ (k : Nat) (r : PS), k ≤ n ∧ i = .int .i64 k ∧ r = (List.range k).foldl (putIf b now) q ∧ Mi B n p g V (2, (b : Int), oc, od) (0, 0, 0) r g wr) (fun i _ => n - (intOf i).toNat)
      case atStart => exact ⟨0, q, by omega, rfl, rfl, M4.out⟩
      case round =>
        obtain ⟨k, r, hk, rfl, hr, hM⟩ := hrel
        clear M4
        have FO := Lib.hid (fold_suc (putIf b now) q k)
        rw [← hr] at FO
        have RS := Lib.hid (show r.seen b = true by rw [hr, (puts_seen b now q k).1]; exact QS.out)
        have RA := Lib.hid (show r.ab b < 65536 by rw [hr, (puts_seen b now q k).2]; exact QA.out)
        have HR := Lib.hid hr
        have MM := Lib.hid hM
        clear hr hM
        by_cases hlt : k < n
        · have i1 : (k : Int) < (n : Int) := by omega
          obtain ⟨s, hs16, e1, a1⟩ := bit_shift now k NL.out
          have i3 : k < 16 := by omega
          cases hb : now.testBit k with
          | true =>
            rw [hb, if_pos rfl] at a1
            have E2 := Lib.hid (show putIf b now r k = { { r with prom := upd r.prom k b } with last := upd r.last k b } by unfold putIf; rw [if_pos hb])
            clear hb
            go_upto_region 10 with fail
            have o1 := MM.out.o1
            simp only at o1
            have c0 := MM.out.co.c0
            obtain ⟨v0, v1, v2, v3⟩ := MM.out.co.vo k hlt
            have MS := Lib.hid (fun j => show Mi B n p g V (2, (b : Int), oc, od) (0, 0, 0) { { r with prom := upd r.prom k b } with last := upd r.last k b } g (((wr.drewN j).setCell ⟨B, k * 2, none⟩ (.int .i64 (b : Nat))).setCell ⟨B, k * 2 + 1, none⟩ (.int .i64 (b : Nat))) from
              (MM.out.drewN j).move ((((MM.out.drewN j).co.prom1 (b := b) hlt)).last1 hlt RS.out) (((Mv.refl B r g _).grown (gr_set _ B (k * 2) _) (.inl rfl)).grown (gr_set _ B (k * 2 + 1) _) (.inl rfl)) (Nw.refl _ _ _))
            go_region
            all_goals
              go_wp2
              go_roundw
              case rel => first | exact ⟨k + 1, _, by omega, by go_num, by rw [FO.out, E2.out], MS.out 0⟩ | exact ⟨k + 1, _, by omega, by go_num, by rw [FO.out, E2.out], MS.out 1⟩
              case measure => simp [intOf]; omega
          | false =>
            rw [hb, if_neg (by simp)] at a1
            have E2 := Lib.hid (show putIf b now r k = r by unfold putIf; rw [if_neg (by simp [hb])])
            clear hb
            go_wp2
            go_roundw
            case rel => exact ⟨k + 1, r, by omega, by go_num, by rw [FO.out, E2.out], MM.out⟩
            case measure => simp [intOf]; omega
        · obtain rfl : k = n := by omega
          obtain ⟨x, hx⟩ : ∃ x, x = r.ab b := ⟨_, rfl⟩
          have hkn := (MM.out.co.ba b RS.out).2.2.2
          have z3 : wr.cell? ⟨G, 3, none⟩ = some (.int .u16 (x : Nat)) := by rw [HG.out, hx]; exact hkn.cell 3
          have f3 : wr.frozen? ⟨G, 3, none⟩ = false := by rw [HG.out]; exact hkn.free 3
          have xl : x < 65536 := by rw [hx]; exact RA.out
          have o1 : Go.bits .or .u16 (x : Int) (now : Int) = ((x ||| now : Nat) : Int) := or16u xl NL.out
          have ol : x ||| now < 65536 := Nat.or_lt_two_pow (n := 16) xl NL.out
          obtain ⟨z, hz⟩ : ∃ z, z = x ||| now := ⟨_, rfl⟩
          rw [← hz] at o1
          have M5 := Lib.hid (show Mi B k p g V (2, (b : Int), oc, od) (0, 0, 0) (padd r b now) g (wr.setCell ⟨G, 3, none⟩ (.int .u16 (z : Nat))) by
            rw [HG.out, hz, hx]
            have ol' : r.ab b ||| now < 65536 := by rw [← hx]; exact ol
            refine MM.out.bal RS.out ?_ rfl
            refine MM.out.co.bal RS.out _ rfl rfl rfl (fun c hc => ?_) ?_ (MM.out.co.ba b RS.out).2.1 (by show upd r.ab b _ b < _; rw [upd_same]; exact ol')
            · have e : (padd r b now).ab c = r.ab c := upd_other _ _ hc
              exact ⟨by unfold balC; rw [e]; rfl, rfl, e⟩
            · have e : (padd r b now).ab b = (r.ab b ||| now) := upd_same _ _ _
              unfold balC; rw [e]; rfl)
          have RV := Lib.hid (show pacc k p b oc = (padd r b now, 0, now, r.value b) by rw [E.out, ← HR.out]; rfl)
          have PSn := Lib.hid (show (padd r b now).seen b = true from RS.out)
          have PV := Lib.hid (show (padd r b now).value b = r.value b from rfl)
          clear hkn hx xl ol hz E HR
          go_upto_region 13 with fail
          obtain ⟨w5, hw5⟩ : ∃ w5, w5 = wr.setCell ⟨G, 3, none⟩ (.int .u16 (z : Nat)) := ⟨_, rfl⟩
          rw [← hw5] at M5
          rw [← hw5]
          clear hw5 z3 f3 o1
          obtain ⟨a0, a1, a2, f0, f1, f2⟩ := M5.out.a
          simp only at a0 a1 a2
          have z0 : w5.cell? ⟨G, 0, none⟩ = some (.int .i64 (r.value b)) := by rw [HG.out, ← PV.out]; exact (M5.out.co.ba b PSn.out).2.2.2.cell 0
          have M6 := Lib.hid (M5.out.put3 (0, now, r.value b))
          go_wp2
          rw [RV.out]
          refine bodyPost_ret (v := .agg (anC (0, now, r.value b))) ?_ rfl ⟨rfl, g, M6.out.co, M6.out.mv, fun c hc => (M6.out.nw c hc).imp id (fun h => by omega)⟩
          exact M6.out.ret rfl _ rfl
end Go.Proofs.Ytpoielmbdofjlaa.Syn
