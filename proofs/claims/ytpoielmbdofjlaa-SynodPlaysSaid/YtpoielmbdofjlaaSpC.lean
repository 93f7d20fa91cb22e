/-
  Package synod: prepare.
-/
import Derived.Test.YtpoielmbdofjlaaSpMi
namespace Go.Proofs.Ytpoielmbdofjlaa.Syn
set_option linter.unusedVariables false
set_option linter.unusedSimpArgs false
open Go.RowKit Mem Gt
open Jump (Gave equalZ_c)

def OpOut (B n : Nat) (p : PS) (g : Nat → Nat) (V : World) (x : An) (q : PS) (e : Ending) (W' : World) : Prop :=
  e = .returned (.agg (anC x)) ∧ ∃ g', Co B n q g' W' ∧ Mv B p g V W' ∧ Nw p g V.heap.size q g'
theorem takes_seen (b now : Nat) (p : PS) : ∀ k, ((List.range k).foldl (takeIf b now) p).seen = p.seen
  | 0 => rfl
  | k + 1 => by
    rw [fold_suc, ← takes_seen b now p k]
    unfold takeIf
    split
    · exact (take_ab _ _ _).2.2.1
    · rfl
theorem bit_shift (x k : Nat) (hx : x < 65536) : ∃ s : Nat, s < 65536 ∧ (x : Int) / 2 ^ k = (s : Int) ∧ Go.bits .and .u16 (s : Int) 1 = (if x.testBit k = true then 1 else 0) := by
  refine ⟨x / 2 ^ k, Nat.lt_of_le_of_lt (Nat.div_le_self _ _) hx, by simp, ?_⟩
  have h := and16u (a := x / 2 ^ k) (b := 1) (Nat.lt_of_le_of_lt (Nat.div_le_self _ _) hx) (by omega)
  rw [show ((1 : Nat) : Int) = 1 from rfl] at h
  rw [h, Nat.and_one_is_mod, Nat.testBit_eq_decide_div_mod_eq]
  split
  · rename_i h; have := of_decide_eq_true h; rw [this]; rfl
  · rename_i h; have : ¬ x / 2 ^ k % 2 = 1 := fun e => h (decide_eq_true e); have : x / 2 ^ k % 2 = 0 := by omega
    rw [this]; rfl
set_option maxRecDepth 100000 in
set_option maxHeartbeats 16000000 in
theorem prep_c (B n b oc : Nat) (od : Int) (p : PS) (g : Nat → Nat) (V : World) (hn : n ≤ 16) (h1 : 1 ≤ b) (h4 : b ≤ 400) (ho : oc < 65536) (h : Co B n p g V) :
    Calls Try.prog 21 #[.pointer (some ⟨B + 2, 0, none⟩), .agg #[.int .i64 1, .int .i64 b, .int .u16 oc, .int .i64 od]] V (OpOut B n p g V (pprep n p b oc od).2 (pprep n p b oc od).1) := by
  have S0 := Lib.hid (Mi.start (o := (1, (b : Int), oc, od)) h)
  obtain ⟨w0, hw0⟩ : ∃ w0, w0 = (V.alloc (.cells (opC (1, (b : Int), oc, od)) tOp)).alloc (.cells (anC (0, 0, 0)) tAn) := ⟨_, rfl⟩
  rw [← hw0] at S0
  have HW := Lib.hid (show w0 = (V.alloc (.cells #[.int .i64 1, .int .i64 b, .int .u16 oc, .int .i64 od] 37)).alloc (.cells #[.int .i64 0, .int .u16 0, .int .i64 0] 31) from hw0)
  clear hw0
  have y1 := S0.out.o1
  have c1 := S0.out.co.c1
  simp only at y1
  obtain ⟨u, hu⟩ : ∃ u, Value.pointer u = ptrV g p b := by unfold ptrV; split <;> exact ⟨_, rfl⟩
  have LK : ∀ q, (Instr.lookup 45 (.map (some (B + 1))) (.int .i64 (b : Int)) false).run Try.prog (w0.drewN q) = .ok (.pointer u) (w0.drewN q) := fun q => by rw [hu]; exact (S0.out.co.drewN q).look h4
  have HU := Lib.hid hu
  clear h hu
  go_enter Try.func21, Try.ntmps21
  go_upto_region 1 with fail
  rw [← HW.out]
  clear HW
  go_quiet (fail)
  have M1 := Lib.hid (S0.out.drewN nq)
  obtain ⟨w1, hw1⟩ : ∃ w1, w1 = w0.drewN nq := ⟨_, rfl⟩
  rw [← hw1] at M1
  rw [← hw1]
  clear hw1 S0 LK y1 c1
  have Y1 := Lib.hid M1.out.o1
  have Y3 := Lib.hid M1.out.o3
  have C1 := Lib.hid M1.out.co.c1
  go_upto_if 16 with fail
  go_cut [5] (fun v wx => ∃ g' : Nat → Nat, v = .pointer (some ⟨g' b, 0, none⟩) ∧ Mi B n p g V (1, (b : Int), oc, od) (0, 0, 0) (pname p b od) g' wx)
  case first =>
    cases hs : p.seen b with
    | true =>
      have e1 : u = some ⟨g b, 0, none⟩ := by have e := HU.out.trans (ptr_seen hs); injection e
      have EN := Lib.hid (show pname p b od = p by unfold pname; rw [if_pos hs])
      subst e1
      clear hs
      go_wp2_with fail
      go_meet
      exact ⟨g, rfl, by rw [EN.out]; exact M1.out⟩
    | false =>
      have e1 : u = none := by have e := HU.out.trans (ptr_none hs); injection e
      subst e1
      have y3 := Y3.out
      simp only at y3
      have wb : (Lit.int .i64 (b : Int)).wf = true := wf_of (by unfold Fit; omega)
      have bA := low_lit w1 (.cells #[.int .i64 od, .int .i64 0, .int .u16 0, .int .u16 0, .bool false] tB)
      have bD : Below w1.heap.size w1 (w1.alloc (.cells #[.int .i64 od, .int .i64 0, .int .u16 0, .int .u16 0, .bool false] tB)).drew := Mem.below_drew bA
      have hD := M1.out.later bD
      have kD : Known (w1.alloc (.cells #[.int .i64 od, .int .i64 0, .int .u16 0, .int .u16 0, .bool false] tB)).drew w1.heap.size tB #[.int .i64 od, .int .i64 0, .int .u16 0, .int .u16 0, .bool false] := Known.made w1 tB _
      obtain ⟨ks, hk, hin, hm⟩ := hD.co.mp
      obtain ⟨V2, r2, p2, g2⟩ := hm.upd Try.underlying45 (by have := hk.len; omega) b wb (.pointer (some ⟨w1.heap.size, 0, none⟩))
      have hs4 := M1.out.co.size
      have hlt : ∀ c, p.seen c = true → g c < w1.heap.size := fun c hc => (M1.out.co.ba c hc).2.2.2.lt
      have CN := hD.co.name (v := od) hs h1 h4 kD hs4 (fun c hc e => by have := hlt c hc; omega) hk hin p2 g2
      have M2 := Lib.hid (M1.out.move CN (((Mv.refl B p g w1).later bD).grown g2 (.inr (.inl rfl))) (fun c hc => by
        by_cases e : c = b
        · subst e; right; rw [upd_same]; exact Nat.le_refl _
        · left
          refine ⟨?_, upd_other _ _ e⟩
          unfold pname at hc
          rw [if_neg (by simp [hs])] at hc
          have hc : upd p.seen b true c = true := hc
          rwa [upd_other _ _ e] at hc))
      have UG := Lib.hid (show upd g b w1.heap.size b = w1.heap.size from upd_same _ _ _)
      have SD := Lib.hid (And.intro hD.co.c1 hD.o1)
      have S2 := Lib.hid (And.intro M2.out.co.c1 M2.out.o1)
      clear hs hk hin hm p2 g2 CN hs4 hlt kD hD bD bA wb
      go_upto_region 4 with fail
      go_region_held3 (fun u => u.cell? ⟨B + 2, 1, none⟩ = some (.map (some (B + 1))) ∧ u.cell? ⟨V.heap.size, 1, none⟩ = some (.int .i64 (b : Int)))
        (first | exact SD.out | exact S2.out | go_keep)
        (fail)
      all_goals
        go_wp2
        go_meet
        exact ⟨_, by rw [UG.out], M2.out⟩
  case rest =>
    obtain ⟨g', rfl, hM⟩ := hcut
    clear M1 Y1 Y3 C1 HU
    obtain ⟨w2, rfl⟩ : ∃ w2 : World, w2 = wc := ⟨_, rfl⟩
    obtain ⟨q, hq⟩ : ∃ q, q = pname p b od := ⟨_, rfl⟩
    rw [← hq] at hM
    have HQ := Lib.hid hq
    have hqs : q.seen b = true := by
      rw [hq]; unfold pname; split
      · assumption
      · exact upd_same _ _ _
    obtain ⟨G, hG⟩ : ∃ G, G = g' b := ⟨_, rfl⟩
    obtain ⟨hg4, hp16, ha16, hkn⟩ := hM.co.ba b hqs
    have z4 : w2.cell? ⟨G, 4, none⟩ = some (.bool (q.fixed b)) := by rw [hG]; exact hkn.cell 4
    have EP := Lib.hid (show pprep n p b oc od = if q.fixed b = true then (q, 6, 0, 0) else (let now := upTo q.prom n (b - 1) oc; let r := (List.range n).foldl (takeIf b now) q; (r, 0, now, r.value b)) by rw [hq]; rfl)
    have MM := Lib.hid hM
    have QS := Lib.hid hqs
    have HG := Lib.hid hG
    rw [← hG]
    clear hkn hg4 hp16 ha16 hq hqs hM hG
    cases hf : q.fixed b with
    | true =>
      rw [hf] at z4
      have E := Lib.hid (show pprep n p b oc od = (q, 6, 0, 0) by rw [EP.out, if_pos hf])
      obtain ⟨a0, a1, a2, f0, f1, f2⟩ := MM.out.a
      simp only at a0 a1 a2
      have M3 := Lib.hid (MM.out.put3 (6, 0, 0))
      clear hf EP
      go_wp2
      rw [E.out]
      refine bodyPost_ret (v := .agg (anC (6, 0, 0))) ?_ rfl ⟨rfl, g', M3.out.co, M3.out.mv, fun c hc => (M3.out.nw c hc).imp id (fun h => by omega)⟩
      exact M3.out.ret rfl _ rfl
    | false =>
      rw [hf] at z4
      obtain ⟨m, hm⟩ : ∃ m, m = b - 1 := ⟨_, rfl⟩
      obtain ⟨now, hnow⟩ : ∃ now, now = upTo q.prom n m oc := ⟨_, rfl⟩
      have E := Lib.hid (show pprep n p b oc od = ((List.range n).foldl (takeIf b now) q, 0, now, ((List.range n).foldl (takeIf b now) q).value b) by rw [EP.out, if_neg (by simp [hf]), hnow, hm])
      have UC := Lib.hid (show Calls Try.prog 26 #[.pointer (some ⟨B + 2, 0, none⟩), .int .i64 m, .int .u16 oc] w2 (Gave (.int .u16 (now : Nat)) w2) by rw [hnow]; exact upto_c B n m oc q g' w2 hn ho MM.out.co)
      have NL := Lib.hid (show now < 65536 by rw [hnow]; exact upto_lt _ _ _ ho n)
      have o1 := MM.out.o1
      have o2 := MM.out.o2
      have w1 : IntKind.i64.wrap ((b : Int) - 1) = (m : Int) := by rw [IntWalk.i64_in _ (by omega)]; omega
      simp only at o1 o2
      have c0 := MM.out.co.c0
      clear hf EP hnow hm
      go_upto_region 8 with (go_at_call 26; refine UC.out.mono ?_; rintro e w3 ⟨rfl, hB3⟩)
      have M3 := Lib.hid (MM.out.later hB3)
      clear hB3 UC o1 o2 w1 c0 MM z4
      have c0 := M3.out.co.c0
      go_wp2_with fail
      clear c0
      go_loopw [45] (fun i wr => ∃ (k : Nat) (r : PS), k ≤ n ∧ i = .int .i64 k ∧ r = (List.range k).foldl (takeIf b now) q ∧ Mi B n p g V (1, (b : Int), oc, od) (0, 0, 0) r g' wr) (fun i _ => n - (intOf i).toNat)
      case atStart => exact ⟨0, q, by omega, rfl, rfl, M3.out⟩
      case round =>
        obtain ⟨k, r, hk, rfl, hr, hM⟩ := hrel
        clear M3
        have FO := Lib.hid (fold_suc (takeIf b now) q k)
        rw [← hr] at FO
        have RS := Lib.hid (show r.seen b = true by rw [hr, takes_seen]; exact QS.out)
        have HR := Lib.hid hr
        have MM := Lib.hid hM
        clear hr hM
        by_cases hlt : k < n
        · have i1 : (k : Int) < (n : Int) := by omega
          obtain ⟨s, hs16, e1, a1⟩ := bit_shift now k NL.out
          have i3 : k < 16 := by omega
          cases hb : now.testBit k with
          | true =>
            rw [hb, if_pos rfl] at a1
            have o1 := MM.out.o1
            simp only at o1
            have TC := Lib.hid (take_c B n k b r g' wr hn hlt RS.out MM.out.co)
            have E2 := Lib.hid (show takeIf b now r k = take1 b r k by unfold takeIf; rw [if_pos hb])
            clear hb
            go_wp2_with (go_at_call 27; refine TC.out.mono ?_; rintro e w4 ⟨⟨v4, rfl⟩, hC4, hM4⟩)
            have M4 := Lib.hid (MM.out.move hC4 hM4 (fun c hc => .inl ⟨by rw [← (take_ab b r k).2.2.1]; exact hc, rfl⟩))
            clear hC4 hM4
            go_roundw
            case rel => exact ⟨k + 1, _, by omega, by go_num, by rw [FO.out, E2.out], M4.out⟩
            case measure => simp [intOf]; omega
          | false =>
            rw [hb, if_neg (by simp)] at a1
            have E2 := Lib.hid (show takeIf b now r k = r by unfold takeIf; rw [if_neg (by simp [hb])])
            clear hb
            go_wp2
            go_roundw
            case rel => exact ⟨k + 1, r, by omega, by go_num, by rw [FO.out, E2.out], MM.out⟩
            case measure => simp [intOf]; omega
        · obtain rfl : k = n := by omega
          obtain ⟨a0, a1, a2, f0, f1, f2⟩ := MM.out.a
          simp only at a0 a1 a2
          have z0 : wr.cell? ⟨G, 0, none⟩ = some (.int .i64 (r.value b)) := by rw [HG.out]; exact (MM.out.co.ba b RS.out).2.2.2.cell 0
          have M5 := Lib.hid (MM.out.put3 (0, now, r.value b))
          go_wp2
          rw [E.out, ← HR.out]
          refine bodyPost_ret (v := .agg (anC (0, now, r.value b))) ?_ rfl ⟨rfl, g', M5.out.co, M5.out.mv, fun c hc => (M5.out.nw c hc).imp id (fun h => by omega)⟩
          exact M5.out.ret rfl _ rfl
end Go.Proofs.Ytpoielmbdofjlaa.Syn
