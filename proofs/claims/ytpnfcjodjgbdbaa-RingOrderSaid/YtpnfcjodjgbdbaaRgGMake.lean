/-
  The document's own answer on the ring of nodes: GMake, its walk.
-/
import Derived.Test.YtpnfcjodjgbdbaaRgMakeRef
namespace Go.Proofs.Ytpnfcjodjgbdbaa.Ring
set_option linter.unusedVariables false
set_option linter.unusedSimpArgs false
open Go.RowKit Mem

/-- The ring of nodes, or none. -/
def gl (ids : List Int) (each : Int) : List Tk := if makeE ids each = 0 then srt (raw ids each.toNat) else []
/-- A ring and what is wrong. -/
def RingErr (l : List Tk) (k : Int) (W : World) (e : Ending) (W' : World) : Prop :=
  ∃ A c, e = .returned (.tuple #[.slice A l.length c, .int .i64 k]) ∧ TRds W' A l ∧ Below W.heap.size W W'
theorem gl_bad {ids : List Int} {each : Int} {e : Int} (h : makeE ids each = e) (he : e ≠ 0) : gl ids each = [] := by unfold gl; rw [h, if_neg he]
theorem gl_good {ids : List Int} {each : Int} (h : makeE ids each = 0) : gl ids each = srt (raw ids each.toNat) := by unfold gl; rw [if_pos h]
theorem ringErr_nil {ids : List Int} {each e : Int} {W W' : World} (h : makeE ids each = e) (he : e ≠ 0) (hb : Below W.heap.size W W') : RingErr (gl ids each) (makeE ids each) W (.returned (.tuple #[.slice none 0 0, .int .i64 e])) W' := by
  rw [gl_bad h he, h]; exact ⟨none, 0, rfl, TRds.nil, hb⟩
theorem make_c (A : Option Addr) (ids : List Int) (n ca : Nat) (each : Int) (W : World) (hn : ids.length = n) (hca : n ≤ ca) (hbig : n ≤ maxLen) (hx : Reads W A (ids.map (Value.int .i64))) :
    Calls Try.prog 9 #[.slice A n ca, .int .i64 each] W (RingErr (gl ids each) (makeE ids each) W) := by
  by_cases h : makeE ids each = 0
  · obtain ⟨g1, _, _⟩ := makeE_zero.1 h
    obtain ⟨_, h2, _⟩ := size_no g1
    obtain ⟨k, rfl⟩ : ∃ k : Nat, each = k := ⟨each.toNat, by omega⟩
    rw [gl_good h, h]
    exact make_ok A ids n ca k W hn hca hx h
  · have hv := makeE_vals ids each
    refine (make_bad A ids n ca each _ W hn hca hbig hx rfl (by omega)).mono ?_
    rintro e w ⟨rfl, hb⟩
    exact ringErr_nil rfl h hb
theorem gmake_size (A : Option Addr) (ids : List Int) (n ca : Nat) (each : Int) (W : World) (hn : ids.length = n) (hbig : n ≤ maxLen) (h : BadSize n each) :
    Calls Try.prog 10 #[.slice A n ca, .int .i64 each] W (RingErr (gl ids each) (makeE ids each) W) := by
  have E := Lib.hid (show makeE ids each = 2 by unfold makeE; rw [hn, if_pos h])
  unfold BadSize at h
  unfold maxLen at hbig
  clear hn
  by_cases h1 : 16 < n
  · have i1 : (16 : Int) < (n : Int) := by omega
    clear h
    go_enter Try.func10, Try.ntmps10
    go_wp2
    go_ret2
    exact ringErr_nil E.out (by omega) (Below.refl _ _)
  by_cases h2 : each < 1
  · have i1 : decide ((16 : Int) < (n : Int)) = false := by rw [decide_eq_false_iff_not]; omega
    clear h
    go_enter Try.func10, Try.ntmps10
    go_wp2
    go_ret2
    exact ringErr_nil E.out (by omega) (Below.refl _ _)
  · have h3 : 20 < each := by omega
    have i1 : decide ((16 : Int) < (n : Int)) = false := by rw [decide_eq_false_iff_not]; omega
    have i2 : decide (each < 1) = false := by rw [decide_eq_false_iff_not]; omega
    clear h
    go_enter Try.func10, Try.ntmps10
    go_wp2
    go_ret2
    exact ringErr_nil E.out (by omega) (Below.refl _ _)
/-- What stands in GMake's outer loop. -/
def GAt (W : World) (ids : List Int) (each g k m : Nat) (A : Option Addr) (c : Nat) (wr : World) : Prop :=
  ∃ S, (srt (raw (ids.take k) each)).length = m ∧ TTab wr W.heap.size (.slice A m c) (srt (raw (ids.take k) each)) ∧ IntSet wr g S ∧ S.length = k ∧ (∀ x, x ∈ S ↔ x ∈ ids.take k) ∧ Below W.heap.size W wr
/-- What stands in the loop over a node's tokens. -/
def NAt (W : World) (l : List Tk) (x : Int) (S : List Int) (g j q : Nat) (A : Option Addr) (c : Nat) (wr : World) : Prop :=
  (srt (l ++ (List.range j).map (tok x))).length = q ∧ TTab wr W.heap.size (.slice A q c) (srt (l ++ (List.range j).map (tok x))) ∧ IntSet wr g S ∧ Below W.heap.size W wr
theorem take_mem {ids : List Int} {k : Nat} {x : Int} (h : ids[k]? = some x) {S : List Int} (hS : ∀ y, y ∈ S ↔ y ∈ ids.take k) (y : Int) : y ∈ x :: S ↔ y ∈ ids.take (k + 1) := by
  rw [List.take_add_one, h, List.mem_cons, List.mem_append, hS]
  simp [or_comm]
set_option maxRecDepth 100000 in
set_option maxHeartbeats 8000000 in
theorem gmake_scan (A : Option Addr) (ids : List Int) (n ca : Nat) (each : Nat) (W : World) (hn : ids.length = n) (hx : Reads W A (ids.map (Value.int .i64))) (hwf : ∀ x ∈ ids, (Lit.int .i64 x).wf = true) (h : ¬ BadSize n (each : Int)) :
    Calls Try.prog 10 #[.slice A n ca, .int .i64 each] W (RingErr (gl ids each) (makeE ids each) W) := by
  obtain ⟨h1, h2, h3⟩ := size_no h
  have i1 : decide ((16 : Int) < (n : Int)) = false := by rw [decide_eq_false_iff_not]; omega
  have i2 : decide ((each : Int) < 1) = false := by rw [decide_eq_false_iff_not]; omega
  have i3 : decide ((20 : Int) < (each : Int)) = false := by rw [decide_eq_false_iff_not]; omega
  have h4 : 1 ≤ each := by omega
  have h5 : each ≤ 20 := by omega
  have HX := Lib.hid hx
  have HN := Lib.hid hn
  have HW := Lib.hid hwf
  have E := Lib.hid (show makeE ids each = scan [] ids by unfold makeE; rw [hn, if_neg h])
  have hcb : n * each ≤ 16 * 20 := Nat.mul_le_mul h1 h5
  have PL := Lib.hid (fun k (h : k < n) => part_le (e := each) h)
  generalize hc : n * each = c at *
  have hmm := @run_makeMap Try.prog
  clear hc hx hn hwf h h2 h3
  go_enter Try.func10, Try.ntmps10
  go_wp2
  have IS0 := Lib.hid (IntSet.made W)
  have B0 := Lib.hid ((Below.refl W.heap.size W).alloc (Nat.le_refl _) (.map #[] 0))
  clear hmm i1 i2 i3
  go_loopw [6, 27] (fun s6 i wr => ∃ (k m : Nat) (A2 : Option Addr) (c2 : Nat), k ≤ n ∧ m ≤ c ∧ i = .int .i64 k ∧ s6 = .slice A2 m c2 ∧ scan [] ids = scan (ids.take k) (ids.drop k) ∧ GAt W ids each W.heap.size k m A2 c2 wr) (fun _ i _ => n - (intOf i).toNat)
  case atStart => exact ⟨0, 0, none, 0, by omega, by omega, rfl, rfl, rfl, [], by simp [raw, srt], by simpa [raw, srt] using TTab.nil _ _, IS0.out, rfl, fun x => by simp, B0.out⟩
  case round =>
    obtain ⟨k, m, A2, c2, hk, hmc, rfl, rfl, hsc, S, hm, hT, hS, hSl, hSm, hB⟩ := hrel
    have HSC := Lib.hid hsc
    have HM := Lib.hid hm
    have HT := Lib.hid hT
    have IS := Lib.hid hS
    have SL := Lib.hid hSl
    have SM := Lib.hid hSm
    have HB := Lib.hid hB
    clear IS0 B0 hsc hm hT hS hSl hSm
    by_cases hlt : k < n
    · have k1 : k < ids.length := by rw [HN.out]; exact hlt
      obtain ⟨b, o, rfl, hbl, x0⟩ := reads_z HX.out k1
      have x1 := (hB.cell (p := ⟨b, o + k, none⟩) hbl).trans x0
      have EX := Lib.hid (show ids[k]? = some ids[k] from List.getElem?_eq_getElem k1)
      have WX := Lib.hid (HW.out ids[k] (List.getElem_mem k1))
      have hpl := PL.out k hlt
      have hmk : m = k * each := by rw [← HM.out, (srt_perm _).length_eq, raw_len, List.length_take, Nat.min_eq_left (by omega)]
      generalize hp : k * each = p at *
      generalize hu : ids[k] = x at *
      have j1 : (k : Int) < (n : Int) := by omega
      subst hmk
      clear hu hp k1 x0 hB
      by_cases hr : x < 0 ∨ 1099511627776 < x
      · have E2 := Lib.hid (scan_range EX.out hr)
        by_cases h0 : x < 0
        · clear hr
          go_wp2
          go_ret2
          exact ringErr_nil (by rw [E.out, HSC.out, E2.out]) (by omega) HB.out
        · have h6 : 1099511627776 < x := by omega
          clear hr
          go_wp2
          go_ret2
          exact ringErr_nil (by rw [E.out, HSC.out, E2.out]) (by omega) HB.out
      · have r0 : ¬ x < 0 := by omega
        have r1 : ¬ 1099511627776 < x := by omega
        by_cases hin : x ∈ ids.take k
        · have E2 := Lib.hid (scan_held EX.out hr hin)
          have HC := Lib.hid (show decide (x ∈ S) = true from decide_eq_true ((SM.out x).2 hin))
          clear hr hin
          go_wp2_with (refine wpList_lookup_set rfl _ _ (by rfl) IS.out x WX.out rfl rfl true HC.out ?_)
          go_ret2
          exact ringErr_nil (by rw [E.out, HSC.out, E2.out]) (by omega) HB.out
        · have E2 := Lib.hid (scan_next EX.out hr hin)
          have HC := Lib.hid (show decide (x ∈ S) = false from decide_eq_false (fun h => hin ((SM.out x).1 h)))
          have SS := Lib.hid (show S.length < maxLen by rw [SL.out]; unfold maxLen; omega)
          have SM2 := Lib.hid (take_mem EX.out SM.out)
          have RN := Lib.hid (raw_next EX.out each)
          clear hr hin
          go_wp2_with (first | (refine wpList_lookup_set rfl _ _ (by rfl) IS.out x WX.out rfl rfl false HC.out ?_) | (refine wpList_update_set rfl _ _ _ (by rfl) IS.out SS.out x WX.out rfl rfl rfl ?_; intro V hS hG; have IS2 := Lib.hid hS; have T2 := Lib.hid (HT.out.kept hG (.inr (fun e => by obtain ⟨cur, hc⟩ := Grows.typed' HT.out W.heap.size e; exact set_cells IS.out hc))); have B2 := Lib.hid (HB.out.grown hG HB.out.size (fun k hk => by injection hk with hk; subst hk; exact Nat.le_refl _)); clear hS hG))
          have L0 := Lib.hid (show raw (ids.take k) each ++ (List.range 0).map (tok x) = raw (ids.take k) each by simp)
          go_loopw [6, 43] (fun s6 i wr => ∃ (j q : Nat) (A3 : Option Addr) (c3 : Nat), j ≤ each ∧ q = m + j ∧ i = .int .i64 j ∧ s6 = .slice A3 q c3 ∧ NAt W (raw (ids.take k) each) x (x :: S) W.heap.size j q A3 c3 wr) (fun _ i _ => each - (intOf i).toNat)
          case atStart => exact ⟨0, m, A2, c2, by omega, by omega, rfl, rfl, by rw [L0.out]; exact HM.out, by rw [L0.out]; exact T2.out, IS2.out, B2.out⟩
          case round =>
            obtain ⟨j, q, A3, c3, hj, hq, rfl, rfl, hm3, hT3, hS3, hB3⟩ := hrel
            have HM3 := Lib.hid hm3
            have HT3 := Lib.hid hT3
            have HS3 := Lib.hid hS3
            have HB3 := Lib.hid hB3
            have HQ := Lib.hid hq
            by_cases hlj : j < each
            · have wx : IntKind.u64.wrap x = x := by rw [IntKind.wrap_u64]; omega
              have wj : IntKind.u64.wrap (j : Int) = j := by rw [IntKind.wrap_u64]; omega
              have wx2 : x % 18446744073709551616 = x := by omega
              have TV := Lib.hid (tok_val x j)
              have A1 := Lib.hid (fun V => aone_i x (by omega) (by omega) V)
              have ej : ((UInt64.ofNat j).toNat : Int) = j := by rw [UInt64.toNat_ofNat', Nat.mod_eq_of_lt (by omega)]
              generalize ha : Mix.one (UInt64.ofNat x.toNat) = av at *
              have ws : IntKind.u64.wrap ((av.toNat : Int) + (j : Int)) = ((Words.add av (UInt64.ofNat j)).toNat : Int) := by have := Words.add64 av (UInt64.ofNat j); rwa [ej] at this
              have ws2 : ((av.toNat : Int) + (j : Int)) % 18446744073709551616 = ((Words.add av (UInt64.ofNat j)).toNat : Int) := by rw [← ws, IntKind.wrap_u64]
              generalize hb : Words.add av (UInt64.ofNat j) = bv at *
              have A22 := Lib.hid (fun V => Big.aOne_c bv V)
              generalize hd : Mix.one bv = dv at *
              have TS := Lib.hid (show raw (ids.take k) each ++ (List.range (j + 1)).map (tok x) = (raw (ids.take k) each ++ (List.range j).map (tok x)) ++ [(dv, x)] by rw [toks_succ, ← List.append_assoc, TV.out])
              have hq1 : q + 1 ≤ c := by omega
              generalize hl : raw (ids.take k) each ++ (List.range j).map (tok x) = xs at *
              clear ha hb hd ej hm3 hT3 hS3 hB3 hq TV hl
              go_wp2_with (first | ((with_reducible refine (A1.out _).mono ?_); rintro e w1 ⟨rfl, hb⟩; have T4 := Lib.hid (HT3.out.later hb); have S4 := Lib.hid (HS3.out.later hb); have B4 := Lib.hid (HB3.out.trans (hb.mono HB3.out.size)); clear hb) | ((with_reducible refine (A22.out _).mono ?_); rintro e w2 ⟨rfl, hb⟩; have d0 := (boxT w2 (.int .u64 dv.toNat) (.int .i64 x)).1; have d1 := (boxT w2 (.int .u64 dv.toNat) (.int .i64 x)).2; have T5 := Lib.hid ((T4.out.later hb).alloc (.cells #[.int .u64 dv.toNat, .int .i64 x] 31)); have T6 := Lib.hid (T4.out.later hb); have S5 := Lib.hid ((S4.out.later hb).alloc (.cells #[.int .u64 dv.toNat, .int .i64 x] 31)); have B6 := Lib.hid (B4.out.trans (hb.mono B4.out.size)); have B5 := Lib.hid ((B4.out.trans (hb.mono B4.out.size)).alloc (B4.out.trans (hb.mono B4.out.size)).size (.cells #[.int .u64 dv.toNat, .int .i64 x] 31)); clear hb) | (refine wpList_append_tk2 rfl _ _ (by rfl) (dv, x) rfl rfl rfl rfl (by simp) T5.out HM3.out (by omega) B5.out.size B5.out (Nat.le_refl _) ?_; intro g2 c4 w4 Z4 G4 O4 B7))
              have HA0 := Lib.hid (HAt.start T6.out HM3.out d0 d1 S5.out Z4.out G4.out O4.out B7.out)
              generalize hbx : w2.heap.size = bx at *
              have Q2 : q + 1 ≤ 400 := by omega
              clear d0 d1 T4 T5 T6 S4 S5 B4 B5 B6 Z4 G4 O4 B7 hbx A1 A22 wx wj wx2 ws ws2
              go_loopw [12] (fun s12 wr => ∃ kk : Nat, kk ≤ q ∧ s12 = .int .i64 kk ∧ HAt W wr W.heap.size bx g2 q c4 (srt xs) (dv, x) (x :: S) kk) (fun s12 _ => (intOf s12).toNat)
              case atStart => exact ⟨q, Nat.le_refl _, rfl, HA0.out⟩
              case round =>
                obtain ⟨kk, hkk, rfl, hH⟩ := hrel
                have HH := Lib.hid hH
                obtain ⟨bx0, bx1⟩ := hH.box
                rcases Nat.eq_zero_or_pos kk with hz | hz
                · subst hz
                  obtain ⟨y, y0, y1, y2, y3⟩ := hH.here
                  simp only [Nat.zero_mul, Nat.zero_add] at y0 y1 y2 y3
                  have ii : (0 : Int) < (q : Int) + 1 := by omega
                  clear hH HA0
                  go_wp2
                  go_quiet (fail)
                  have HL := Lib.hid ((HH.out.later (below_drewN (Below.refl _ _) nq)).last (xs := xs) rfl (fun a _ h0 => absurd h0 (Nat.lt_irrefl 0)))
                  go_wp2
                  go_roundw
                  case rel => exact ⟨j + 1, q + 1, some ⟨g2, 0, none⟩, c4, by omega, by have := HQ.out; omega, by go_num, rfl, by rw [TS.out, (srt_perm _).length_eq, List.length_append, ← (srt_perm xs).length_eq, HM3.out]; rfl, by rw [TS.out]; exact HL.out.1, HL.out.2.1, HL.out.2.2⟩
                  case measure => simp [intOf]; omega
                · obtain ⟨mu, hmu⟩ : ∃ mu, kk = mu + 1 := ⟨kk - 1, by omega⟩
                  obtain ⟨y, hy, y0, y1⟩ := hH.prev' hmu
                  have HY := Lib.hid hy
                  have e2 : IntKind.i64.wrap ((kk : Int) - 1) = (mu : Int) := by rw [show (kk : Int) - 1 = mu by omega]; exact IntWalk.i64_in _ (by omega)
                  have ii : (kk : Int) < (q : Int) + 1 := by omega
                  have ii2 : (mu : Int) < (q : Int) + 1 := by omega
                  have ii3 : (0 : Int) < (kk : Int) := by omega
                  have g1 := fun V => gless_c (dv, x) y V
                  have AF := Lib.hid (fun V (hb : Below wr.heap.size wr V) => (HH.out.later hb))
                  have HMU := Lib.hid hmu
                  obtain ⟨u0, u1⟩ := y
                  clear hH HA0 hy hmu
                  cases hl : ltB (dv, x) (u0, u1) with
                  | true =>
                    rw [hl] at g1
                    have H1 := Lib.hid g1
                    have HLT := Lib.hid hl
                    clear g1 hl
                    go_wp2
                    refine Mem.region_tail 9 (by kernel_rfl) (by kernel_rfl) ?_
                    simp only [List.take_succ_cons, List.take_zero, List.drop_succ_cons, List.drop_zero]
                    repeat still_step
                    refine wpStill_nil ?_
                    have ii4 : (kk : Int) - 1 = (mu : Int) := by have := HMU.out; omega
                    go_wp2_with (go_at_call 32; refine (H1.out _).mono ?_; rintro e w5 ⟨rfl, hb⟩; have H5 := Lib.hid (AF.out _ (below_undrew hb)); obtain ⟨z, z0, z1, z2, z3⟩ := H5.out.here; obtain ⟨v, v2, v0, v1⟩ := H5.out.prev' HMU.out; have HV := Lib.hid v2; clear hb v2)
                    have EV : v = (u0, u1) := by have h1 := HV.out; have h2 := HY.out; rw [h2] at h1; injection h1 with h1; exact h1.symm
                    subst EV
                    go_roundw
                    case rel => exact ⟨mu, by have := HMU.out; omega, rfl, H5.out.step' HMU.out HV.out HLT.out⟩
                    case measure => simp [intOf]; have := HMU.out; omega
                  | false =>
                    rw [hl] at g1
                    have H1 := Lib.hid g1
                    have HLT := Lib.hid hl
                    clear g1 hl
                    go_wp2
                    refine Mem.region_tail 9 (by kernel_rfl) (by kernel_rfl) ?_
                    simp only [List.take_succ_cons, List.take_zero, List.drop_succ_cons, List.drop_zero]
                    repeat still_step
                    refine wpStill_nil ?_
                    go_wp2_with (go_at_call 32; refine (H1.out _).mono ?_; rintro e w5 ⟨rfl, hb⟩; have H5 := Lib.hid (AF.out _ (below_undrew hb)); obtain ⟨z, z0, z1, z2, z3⟩ := H5.out.here; obtain ⟨p0, p1⟩ := H5.out.box; clear hb)
                    have HL := Lib.hid (H5.out.last (xs := xs) rfl (fun a ha h0 => by rw [HMU.out, Nat.add_sub_cancel, HY.out] at ha; injection ha with ha; subst ha; exact HLT.out))
                    go_roundw
                    case rel => exact ⟨j + 1, q + 1, some ⟨g2, 0, none⟩, c4, by omega, by have := HQ.out; omega, by go_num, rfl, by rw [TS.out, (srt_perm _).length_eq, List.length_append, ← (srt_perm xs).length_eq, HM3.out]; rfl, by rw [TS.out]; exact HL.out.1, HL.out.2.1, HL.out.2.2⟩
                    case measure => simp [intOf]; omega
            · obtain rfl : j = each := by omega
              have hq1 : q ≤ c := by omega
              clear hm3 hT3 hS3 hB3 hq
              go_wp2
              go_roundw
              case rel => exact ⟨k + 1, q, A3, c3, by omega, hq1, by go_num, rfl, by rw [HSC.out, E2.out], x :: S, by rw [RN.out]; exact HM3.out, by rw [RN.out]; exact HT3.out, HS3.out, by simp [SL.out], SM2.out, HB3.out⟩
              case measure => simp [intOf]; omega
    · obtain rfl : k = n := by omega
      have E2 := Lib.hid (show makeE ids each = 0 by rw [E.out, HSC.out, List.drop_of_length_le (by rw [HN.out]; omega)]; rfl)
      have TK := Lib.hid (show srt (raw (ids.take k) each) = gl ids each by rw [gl_good E2.out, List.take_of_length_le (by rw [HN.out]; omega)]; rfl)
      clear hB
      go_wp2
      go_ret2
      have q1 := HM.out
      have q2 := HT.out
      rw [TK.out] at q1 q2
      rw [E2.out]
      exact ⟨A2, c2, by rw [q1]; rfl, q2.rds, HB.out⟩
theorem gmake_c (A : Option Addr) (ids : List Int) (n ca : Nat) (each : Int) (W : World) (hn : ids.length = n) (hbig : n ≤ maxLen) (hx : Reads W A (ids.map (Value.int .i64))) (hwf : ∀ x ∈ ids, (Lit.int .i64 x).wf = true) :
    Calls Try.prog 10 #[.slice A n ca, .int .i64 each] W (RingErr (gl ids each) (makeE ids each) W) := by
  by_cases h : BadSize n each
  · exact gmake_size A ids n ca each W hn hbig h
  · obtain ⟨_, h2, _⟩ := size_no h
    obtain ⟨k, rfl⟩ : ∃ k : Nat, each = k := ⟨each.toNat, by omega⟩
    exact gmake_scan A ids n ca k W hn hx hwf h
end Go.Proofs.Ytpnfcjodjgbdbaa.Ring
