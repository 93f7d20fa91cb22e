/-
  PairSmall: for every slice of byte rows, all integers who and at and every byte x, the law PairSmall answers true (one byte that is written changes both rows by it), and its arguments read afterwards as before. No condition.
-/
import Derived.Test.YtpjopdemhdeelaaTab
import Derived.Test.YtpjopdemhdeelaaOwnT
import Derived.Test.YtpjopdemhdeelaaPairAlive
namespace Go.Proofs.Ytpjopdemhdeelaa.pairSmall
open Go.ChangeShapes Go.WideShapes Go.ChangeAt Go.RowKit
open Gf Mem Poly Cdr Pair
set_option linter.unusedVariables false
attribute [local go_sem] xor8_nat

set_option maxRecDepth 100000 in
set_option maxHeartbeats 4000000 in
theorem early (A : Option Addr) (rows : List (List UInt8)) (ca : Nat) (who at_ : Int) (x : UInt8) (W : World) (hs : Sane rows) (hc : rows.length ≤ ca) (hR : Rds W A rows) (h : wrongE rows ≠ 0 ∨ (wrongE rows = 0 ∧ (who < 0 ∨ (rows.length : Int) ≤ who ∨ at_ < 0 ∨ (wide rows : Int) ≤ at_))) :
    Calls Try.prog 7 #[.slice A rows.length ca, .int .i64 who, .int .i64 at_, .int .u8 x.toNat] W (Law.Yes W) := by
  have h1 := alive_c make_c two_c W
  have H1 := Lib.hid h1
  rcases h with h | ⟨h, hb⟩
  · have h2 := fun k (hk : wrongE rows = k) V (hb : Below W.heap.size W V) => make_no A rows ca rows.length k rfl hs hc hk (by rw [← hk]; exact h) V (hR.below hb)
    have hk : wrongE rows = 1 ∨ wrongE rows = 2 := by rcases wrongE_012 rows with k | k | k; exact absurd k h; exact .inl k; exact .inr k
    rcases hk with hk | hk
    all_goals
      have H2 := Lib.hid (h2 _ hk)
      clear h1 h2 hk h hs hc hR
      generalize rows.length = l at *
      go_enter Try.func7, Try.ntmps7
      go_wp2_with fail
      refine H1.out.mono ?_
      rintro e w1 ⟨rfl, hb1⟩
      have B1 := Lib.hid hb1
      clear hb1
      go_wp2_with fail
      refine (H2.out w1 B1.out).mono ?_
      rintro e w2 ⟨A2, B2, c2, d2, rfl, _, _, _, _, hb2⟩
      have B2 := Lib.hid (B1.out.trans (hb2.mono B1.out.size))
      clear hb2
      go_wp2
      go_ret
      exact ⟨rfl, B2.out⟩
  · have h2 := fun V (hb : Below W.heap.size W V) => make_n A rows ca rows.length (wide rows) rfl rfl hs hc h V (hR.below hb)
    have H2 := Lib.hid h2
    clear h1 h2 h hs hc hR
    generalize rows.length = l at *
    generalize wide rows = n at *
    by_cases k1 : who < 0
    · clear hb
      go_enter Try.func7, Try.ntmps7
      go_wp2_with fail
      refine H1.out.mono ?_
      rintro e w1 ⟨rfl, hb1⟩
      have B1 := Lib.hid hb1
      clear hb1
      go_wp2_with fail
      refine (H2.out w1 B1.out).mono ?_
      rintro e w2 ⟨A2, B2, c2, d2, rfl, _, _, _, _, hb2⟩
      have B2 := Lib.hid (B1.out.trans (hb2.mono B1.out.size))
      clear hb2
      go_wp2
      go_ret
      exact ⟨rfl, B2.out⟩
    · by_cases k2 : (l : Int) ≤ who
      · clear hb
        go_enter Try.func7, Try.ntmps7
        go_wp2_with fail
        refine H1.out.mono ?_
        rintro e w1 ⟨rfl, hb1⟩
        have B1 := Lib.hid hb1
        clear hb1
        go_wp2_with fail
        refine (H2.out w1 B1.out).mono ?_
        rintro e w2 ⟨A2, B2, c2, d2, rfl, _, _, _, _, hb2⟩
        have B2 := Lib.hid (B1.out.trans (hb2.mono B1.out.size))
        clear hb2
        go_wp2
        go_ret
        exact ⟨rfl, B2.out⟩
      · by_cases k3 : at_ < 0
        · clear hb
          go_enter Try.func7, Try.ntmps7
          go_wp2_with fail
          refine H1.out.mono ?_
          rintro e w1 ⟨rfl, hb1⟩
          have B1 := Lib.hid hb1
          clear hb1
          go_wp2_with fail
          refine (H2.out w1 B1.out).mono ?_
          rintro e w2 ⟨A2, B2, c2, d2, rfl, _, _, _, _, hb2⟩
          have B2 := Lib.hid (B1.out.trans (hb2.mono B1.out.size))
          clear hb2
          go_wp2
          go_ret
          exact ⟨rfl, B2.out⟩
        · have k4 : (n : Int) ≤ at_ := by omega
          clear hb
          go_enter Try.func7, Try.ntmps7
          go_wp2_with fail
          refine H1.out.mono ?_
          rintro e w1 ⟨rfl, hb1⟩
          have B1 := Lib.hid hb1
          clear hb1
          go_wp2_with fail
          refine (H2.out w1 B1.out).mono ?_
          rintro e w2 ⟨A2, B2, c2, d2, rfl, _, _, _, _, hb2⟩
          have B2 := Lib.hid (B1.out.trans (hb2.mono B1.out.size))
          clear hb2
          go_wp2
          go_ret
          exact ⟨rfl, B2.out⟩
set_option maxRecDepth 100000 in
set_option maxHeartbeats 8000000 in
theorem main (A : Option Addr) (rows : List (List UInt8)) (ca who at_ : Nat) (x : UInt8) (W : World) (hs : Sane rows) (hc : rows.length ≤ ca) (hR : Rds W A rows) (h : wrongE rows = 0) (hwho : who < rows.length) (hat : at_ < wide rows) :
    Calls Try.prog 7 #[.slice A rows.length ca, .int .i64 who, .int .i64 at_, .int .u8 x.toNat] W (Law.Yes W) := by
  have h1 := alive_c make_c two_c W
  have h2 := fun V (hb : Below W.heap.size W V) => make_n A rows ca rows.length (wide rows) rfl rfl hs hc h V (hR.below hb)
  obtain ⟨h0, hbig, hev⟩ := wrongE_ok h
  obtain ⟨us, hus, har⟩ := hR
  obtain ⟨r, hr⟩ : ∃ r, rows[who]? = some r := ⟨rows[who], List.getElem?_eq_getElem hwho⟩
  obtain ⟨u, hu⟩ : ∃ u, us[who]? = some u := ⟨us[who]'(by rw [har.1]; exact hwho), List.getElem?_eq_getElem _⟩
  obtain ⟨C, c, rfl, hCc, _, hC⟩ := har.2 who u r hu hr
  have hrl := even_len hev hr
  have hn := hs.head
  have hw2 := wrongE_set (a := who) h (r := r.set at_ x) (by rw [List.length_set]; exact hrl)
  have hwd := wide_set (rows := rows) (a := who) (r := r.set at_ x) (by rw [List.length_set]; exact hrl)
  have hs2 : Sane (rows.set who (r.set at_ x)) := ⟨by rw [List.length_set]; exact hs.1, fun q hq => by
    rcases List.mem_or_eq_of_mem_set hq with k | rfl
    · exact hs.2 q k
    · rw [List.length_set, hrl]; exact hn⟩
  have e1 := small_par hr hrl hat x 1
  have e2 := small_par hr hrl hat x 2
  rw [pow_one, one_mul] at e1
  have l1 := par_len 1 rows
  have l2 := par_len 2 rows
  have c1 := co_par (x := 1) hat
  have c2 := co_par (x := 2) hat
  have hpw : ∀ V, Calls Try.prog 21 #[.int .u8 2, .int .i64 who] V fun e W' => e = .returned (.tuple #[.int .u8 (pow 2 who).toNat, .int .i64 0]) ∧ V = W' := fun V => pow_c 2 who (by omega) V
  have d1 : decide (rows.length ≤ who) = false := by simpa using hwho
  have d2 : decide (wide rows ≤ at_) = false := by simpa using hat
  have i1 : (who : Int) < (rows.length : Int) := by omega
  have i2 : (at_ : Int) < (wide rows : Int) := by omega
  have H1 := Lib.hid h1
  have H2 := Lib.hid h2
  have US := Lib.hid hus
  have AR := Lib.hid har
  have HU := Lib.hid hu
  have HC := Lib.hid hC
  have HRL := Lib.hid hrl
  have HN : Hid (wide rows ≤ 140737488351232) := Lib.hid hn
  have HW2 := Lib.hid hw2
  have HWD := Lib.hid hwd
  have HS2 := Lib.hid hs2
  have E1 := Lib.hid e1
  have E2 := Lib.hid e2
  have L1 := Lib.hid l1
  have L2 := Lib.hid l2
  have C1 := Lib.hid c1
  have C2 := Lib.hid c2
  have HPW := Lib.hid hpw
  have HUL := Lib.hid har.1
  have HSL := Lib.hid hs.1
  have HWL := Lib.hid hwho
  have HAL := Lib.hid hat
  clear h1 h2 h hs hus har hu hC hev hn hw2 hwd hs2 e1 e2 l1 l2 c1 c2 hpw h0 hc hr
  rw [hrl] at HU hCc
  clear hrl
  generalize hl : rows.length = l at *
  have HL := Lib.hid hl
  generalize hnn : wide rows = n at *
  have HNN := Lib.hid hnn
  clear hl hnn
  go_enter Try.func7, Try.ntmps7
  go_wp2_with fail
  refine H1.out.mono ?_
  rintro e w1 ⟨rfl, hb1⟩
  have B1 := Lib.hid hb1
  clear hb1
  go_wp2_with fail
  refine (H2.out w1 B1.out).mono ?_
  rintro e w2 ⟨A2, B2, c2, d2', rfl, hc2, hd2, hx2, hy2, hb2⟩
  have K2 := Lib.hid (B1.out.trans (hb2.mono B1.out.size))
  have X2 := Lib.hid hx2
  have Y2 := Lib.hid hy2
  clear hx2 hy2 hb2 H1 H2
  go_wp2_with (at_builtin; refine wpList_append_cells rfl (.tmp 49) (.tmp 50) rfl rfl rfl HUL.out (rows_one AR.out) (US.out.below K2.out) HSL.out (Below.refl w2.heap.size w2) (Nat.le_refl _) ?_; intro A3 c3 w3 hT3 hB3; obtain ⟨g3, rfl, hg3, hlt3, hc3, hf3, _⟩ := hT3.out.at_ HWL.out; rw [HU.out] at hc3; have T3 := Lib.hid hT3.out; have K3 := Lib.hid (K2.out.trans (hB3.out.mono K2.out.size)); have S3 := Lib.hid hB3.out; clear hT3 hB3)
  refine (clone_l C r n c w3 HRL.out HN.out (HC.out.below K3.out)).mono ?_
  rintro e w4 ⟨A4, c4, rfl, hc4, hM4, hB4⟩
  obtain ⟨g4, rfl, hg4, hlt4, cz, fz⟩ := Mine.co_at hM4 (k := at_) (by rw [HRL.out]; exact HAL.out)
  have hne : g4 ≠ g3 := by omega
  obtain ⟨g3', e3, _, _, hc4', hf4', hput⟩ := (T3.out.later hB4).at_ HWL.out
  injection e3 with e3
  injection e3 with e3
  subst e3
  rw [HU.out] at hc4'
  have cz5 : (w4.setCell ⟨g3, who, none⟩ (.slice (some ⟨g4, 0, none⟩) n c4)).cell? ⟨g4, at_, none⟩ = some (.int .u8 ((co r at_).toNat : Int)) := (World.cell?_setCell_other w4 ⟨g3, who, none⟩ ⟨g4, at_, none⟩ _ (fun e => hne (by injection e with e; exact e.symm))).trans cz
  have hK4 := K3.out.trans (hB4.mono K3.out.size)
  have hK6 := (hK4.setCell (p := ⟨g3, who, none⟩) (by show W.heap.size ≤ g3; have := K2.out.size; omega) (.slice (some ⟨g4, 0, none⟩) n c4)).setCell (p := ⟨g4, at_, none⟩) (by show W.heap.size ≤ g4; have := K3.out.size; omega) (.int .u8 (x.toNat : Int))
  have hM6 := (Mine.off hM4 (p := ⟨g3, who, none⟩) (fun a ha => by injection ha with ha; subst ha; exact hne) (.slice (some ⟨g4, 0, none⟩) n c4)).put (g := g4) (k := at_) rfl x
  have hT6 := (hput (.slice (some ⟨g4, 0, none⟩) n c4)).off (p := ⟨g4, at_, none⟩) (fun a ha => by injection ha with ha; subst ha; exact Ne.symm hne) (.int .u8 (x.toNat : Int))
  have hR6 := hT6.rds (AR.out.set hK6 (mine_row hM6 (by rw [List.length_set]; exact HRL.out) hc4 HN.out))
  have hmk := make_n (some ⟨g3, 0, none⟩) (rows.set who (r.set at_ x)) c3 l n (by rw [List.length_set]; exact HL.out) HWD.out HS2.out T3.out.le HW2.out _ hR6
  have K6 := Lib.hid hK6
  have HMK := Lib.hid hmk
  have SZ4 := Lib.hid (hB4.size)
  have hB26 := ((S3.out.trans (hB4.mono S3.out.size)).setCell (p := ⟨g3, who, none⟩) hg3 (.slice (some ⟨g4, 0, none⟩) n c4)).setCell (p := ⟨g4, at_, none⟩) (by show w2.heap.size ≤ g4; have := S3.out.size; omega) (.int .u8 (x.toNat : Int))
  have X6 := Lib.hid (X2.out.below hB26)
  have Y6 := Lib.hid (Y2.out.below hB26)
  clear hM4 hB4 hput hK4 hK6 hM6 hT6 hR6 hmk hB26
  go_wp2_with fail
  refine HMK.out.mono ?_
  rintro e w7 ⟨A7, B7, c7, d7, rfl, _, _, hx7, hy7, hB7⟩
  have K7 := Lib.hid (K6.out.trans (hB7.mono K6.out.size))
  have X7 := Lib.hid (X6.out.below hB7)
  have Y7 := Lib.hid (Y6.out.below hB7)
  have U7 := Lib.hid hx7
  have V7 := Lib.hid hy7
  clear hx7 hy7 hB7 HMK T3 S3 X6 Y6 X2 Y2 cz cz5 fz hc4' hf4' hc3 hf3
  go_wp2_with fail
  refine (HPW.out w7).mono ?_
  rintro e w' ⟨rfl, rfl⟩
  go_wp2_with fail
  refine (clone_l A2 (par 1 rows) n c2 w7 L1.out HN.out X7.out).mono ?_
  rintro e w8 ⟨A8, c8, rfl, hc8, hM8, hB8⟩
  have M8 := Lib.hid hM8
  have K8 := Lib.hid (K7.out.trans (hB8.mono K7.out.size))
  have Y8 := Lib.hid (Y7.out.below hB8)
  have U8 := Lib.hid (U7.out.below hB8)
  have V8 := Lib.hid (V7.out.below hB8)
  have Z8 := Lib.hid hB8
  clear hM8 hB8
  go_wp2_with fail
  refine (clone_l B2 (par 2 rows) n d2' w8 L2.out HN.out Y8.out).mono ?_
  rintro e w9 ⟨A9, c9, rfl, hc9, hM9, hB9⟩
  have hM89 := M8.out.later hB9
  obtain ⟨g8, rfl, hg8, hlt8, cp, fp⟩ := Mine.co_at hM89 (k := at_) (by rw [L1.out]; exact HAL.out)
  obtain ⟨g9, rfl, hg9, hlt9, cq, fq⟩ := Mine.co_at hM9 (k := at_) (by rw [L2.out]; exact HAL.out)
  rw [C1.out] at cp
  rw [C2.out] at cq
  have h8lt : g8 < w8.heap.size := by
    obtain ⟨g8', e8, _, h8, _⟩ := Mine.co_at M8.out (k := at_) (by rw [L1.out]; exact HAL.out)
    injection e8 with e8; injection e8 with e8; omega
  have hne2 : g9 ≠ g8 := by omega
  have K9 := Lib.hid (K8.out.trans (hB9.mono K8.out.size))
  have U9 := Lib.hid (U8.out.below hB9)
  have V9 := Lib.hid (V8.out.below hB9)
  generalize hby : xor8 (co r at_) x = by_ at *
  have BY := Lib.hid hby
  have hM10 := hM89.put (g := g8) (k := at_) rfl (xor8 (sumAt 1 rows at_) by_)
  rw [← E1.out] at hM10
  have hM910 := Mine.off hM9 (p := ⟨g8, at_, none⟩) (fun a ha => by injection ha with ha; subst ha; exact hne2) (.int .u8 ((xor8 (sumAt 1 rows at_) by_).toNat : Int))
  have cq10 : (w9.setCell ⟨g8, at_, none⟩ (.int .u8 ((xor8 (sumAt 1 rows at_) by_).toNat : Int))).cell? ⟨g9, at_, none⟩ = some (.int .u8 ((sumAt 2 rows at_).toNat : Int)) := (World.cell?_setCell_other w9 ⟨g8, at_, none⟩ ⟨g9, at_, none⟩ _ (fun e => hne2 (by injection e with e; exact e.symm))).trans cq
  have hM11 := hM910.put (g := g9) (k := at_) rfl (xor8 (sumAt 2 rows at_) (mul (pow 2 who) by_))
  rw [← E2.out] at hM11
  have hR8 := (Mine.off hM10.drew (p := ⟨g9, at_, none⟩) (fun a ha => by injection ha with ha; subst ha; exact Ne.symm hne2) (.int .u8 ((xor8 (sumAt 2 rows at_) (mul (pow 2 who) by_)).toNat : Int))).reads
  have hR9 := hM11.drew.reads
  have hub := below_drew ((((Z8.out.trans (hB9.mono Z8.out.size)).setCell (p := ⟨g8, at_, none⟩) hg8 (.int .u8 ((xor8 (sumAt 1 rows at_) by_).toNat : Int))).setCell (p := ⟨g9, at_, none⟩) (by show w7.heap.size ≤ g9; have := Z8.out.size; omega) (.int .u8 ((xor8 (sumAt 2 rows at_) (mul (pow 2 who) by_)).toNat : Int))))
  have U11 := Lib.hid (U7.out.below hub)
  have V11 := Lib.hid (V7.out.below hub)
  have K11 := Lib.hid (K7.out.trans (hub.mono K7.out.size))
  have R8 := Lib.hid hR8
  have R9 := Lib.hid hR9
  clear hby hM89 hM9 hB9 hub hM10 hM910 hM11 cq hR8 hR9
  go_wp2_with fail
  refine Mem.region_tail 8 (by kernel_rfl) (by kernel_rfl) ?_
  simp only [List.take_succ_cons, List.take_zero, List.drop_succ_cons, List.drop_zero]
  repeat (first | (refine wpStill_step (fun K hK => ?_); go_simp; (refine ⟨_, mul_r _ _ _, hK _ ?_⟩); clear hK K) | still_step)
  refine wpStill_nil ?_
  go_wp2_with fail
  refine (equal_n A7 (some ⟨g8, 0, none⟩) (par 1 (rows.set who (r.set at_ x))) (par 1 (rows.set who (r.set at_ x))) c7 c8 n n _ (by rw [par_len, HWD.out]) (by rw [par_len, HWD.out]) U11.out R8.out rfl).mono ?_
  rintro e w' ⟨rfl, rfl⟩
  go_wp2_with fail
  refine (equal_n B7 (some ⟨g9, 0, none⟩) (par 2 (rows.set who (r.set at_ x))) (par 2 (rows.set who (r.set at_ x))) d7 c9 n n _ (by rw [par_len, HWD.out]) (by rw [par_len, HWD.out]) V11.out R9.out rfl).mono ?_
  rintro e w' ⟨rfl, rfl⟩
  go_wp2
  go_ret
  exact ⟨rfl, K11.out⟩
theorem words (A : Option Addr) (rows : List (List UInt8)) (ca : Nat) (who at_ : Int) (x : UInt8) (W : World) (hs : Sane rows) (hc : rows.length ≤ ca) (hR : Rds W A rows) :
    Calls Try.prog 7 #[.slice A rows.length ca, .int .i64 who, .int .i64 at_, .int .u8 x.toNat] W (Law.Yes W) := by
  by_cases h : wrongE rows = 0
  · by_cases hb : who < 0 ∨ (rows.length : Int) ≤ who ∨ at_ < 0 ∨ (wide rows : Int) ≤ at_
    · exact early A rows ca who at_ x W hs hc hR (.inr ⟨h, hb⟩)
    · obtain ⟨w, rfl⟩ : ∃ k : Nat, who = k := ⟨who.toNat, by omega⟩
      obtain ⟨a, rfl⟩ : ∃ k : Nat, at_ = k := ⟨at_.toNat, by omega⟩
      exact main A rows ca w a x W hs hc hR h (by omega) (by omega)
  · exact early A rows ca who at_ x W hs hc hR (.inl h)
theorem walk {H : Type} {enc : TypeId × Value → H} {base : Nat} {W : World} {v0 : Value} {d0 : DataW H} {p0 : List MemPlace}
    (o0 : Value.okWide Try.prog W .any base 22 v0) (h0 : DataW.Trod enc Try.prog W 0 (fun _ => true) true 22 v0 d0 p0) (a1 : Int) (w1 : (Lit.int .i64 a1).wf = true) (a2 : Int) (w2 : (Lit.int .i64 a2).wf = true) (a3 : Int) (w3 : (Lit.int .u8 a3).wf = true)
    (hz : (DataW.weightsEach Try.prog [22, 3, 3, 5] [d0, .lit (.int .i64 a1), .lit (.int .i64 a2), .lit (.int .u8 a3)]).all (· ≤ reachBytes) = true) :
    Calls Try.prog 7 #[v0, .int .i64 a1, .int .i64 a2, .int .u8 a3] W (Law.Yes W) := by
  obtain ⟨A0, c0, l0, rfl, z0, k0, _, r0, s0⟩ := open_rowsZ Try.underlying22 Try.underlying23 Try.underlying5 (by kernel_rfl) (by kernel_rfl) (by kernel_rfl) (by kernel_rfl) o0 h0 hz (j := 0) rfl rfl
  obtain ⟨b, rfl⟩ := Words.of_wf8 w3
  exact words A0 l0 c0 a1 a2 b W ⟨z0, s0⟩ k0 r0
theorem own : ownKnob Try.prog.godebug = none := by kernel_rfl
theorem laid : laidOutB Try.prog = true := by kernel_rfl
theorem pars : ∀ t ∈ Try.f7.params.toList, Try.prog.readableRec t = true ∧ t < Try.prog.types.size := by
  have h : Try.f7.params.toList.all (fun t => Try.prog.readableRec t && decide (t < Try.prog.types.size)) = true := by kernel_rfl
  intro t ht; have := List.all_eq_true.1 h t ht; simpa using this
theorem calls (H : Type) (enc : TypeId × Value → H) (W : World) (base : Nat) (args : Array Value) (ds : List (DataW H)) (before : List MemPlace)
    (hval : ∀ (j : Nat) t v, Try.f7.params[j]? = some t → args[j]? = some v → Value.okWide Try.prog W .any base t v)
    (hA : DataW.TrodAll enc Try.prog W 0 (fun _ => true) true Try.f7.params.toList args.toList ds before) (hz : (DataW.weightsEach Try.prog Try.f7.params.toList ds).all (· ≤ reachBytes) = true) :
    Calls Try.prog 7 args W (Law.Yes W) := by
  rw [Try.params7] at hA hval hz
  obtain ⟨v0, vs0, d0, ds0, p0, q0, hargs, rfl, rfl, h0, r0⟩ := trodAll_cons hA
  obtain ⟨v1, vs1, d1, ds1, p1, q1, rfl, rfl, rfl, h1, r1⟩ := trodAll_cons r0
  obtain ⟨v2, vs2, d2, ds2, p2, q2, rfl, rfl, rfl, h2, r2⟩ := trodAll_cons r1
  obtain ⟨v3, vs3, d3, ds3, p3, q3, rfl, rfl, rfl, h3, r3⟩ := trodAll_cons r2
  obtain ⟨rfl, rfl, rfl⟩ := trodAll_nil r3
  obtain rfl : args = #[v0, v1, v2, v3] := by cases args; simp_all
  obtain ⟨a1, rfl, rfl, rfl, w1⟩ := open_int Try.underlying3 (hval 1 3 v1 rfl rfl) h1
  obtain ⟨a2, rfl, rfl, rfl, w2⟩ := open_int Try.underlying3 (hval 2 3 v2 rfl rfl) h2
  obtain ⟨a3, rfl, rfl, rfl, w3⟩ := open_int Try.underlying5 (hval 3 5 v3 rfl rfl) h3
  exact walk (W := W) (hval 0 22 v0 rfl rfl) h0 a1 w1 a2 w2 a3 w3 hz
theorem fnOf (H : Type) : ∀ ds : List (DataW H), ds.length = Try.f7.params.toList.length → Rows.pairSmallSpec.fn H ds = { results := [.lit (.bool true)], args := ds } := by
  intro ds h
  have h : ds.length = 4 := h
  obtain _ | ⟨x0, ds⟩ := ds
  · simp at h
  obtain _ | ⟨x1, ds⟩ := ds
  · simp at h
  obtain _ | ⟨x2, ds⟩ := ds
  · simp at h
  obtain _ | ⟨x3, ds⟩ := ds
  · simp at h
  obtain rfl : ds = [] := List.eq_nil_of_length_eq_zero (by simpa using h)
  rfl
set_option maxRecDepth 100000 in
theorem lifted (os : Os) (started : os.Started) (H : Type) (enc : TypeId × Value → H) :
    ReturnsInHanded {} Try.checked os 7 .any (Rows.pairSmallSpec.pre6 enc Try.prog Try.f7 Rows.pairSmallRow.domain false) (Rows.pairSmallSpec.post enc Try.prog Try.f7 false true false false) := by
  refine returnsInHanded_of_change_sized (C := Try.checked) own started (by kernel_rfl) Try.func7
    (ChangeSpec.witness6 (enc := enc) (C := Try.checked) false ⟨#[], #[.slice none 0 0, .int .i64 0, .int .i64 0, .int .u8 0], []⟩ 8 (by kernel_rfl) (by kernel_rfl) (by kernel_rfl) (by kernel_rfl)) ?_
  intro W base args ds gs before hval hW _ hz _
  obtain ⟨p, q, hA, hV, rfl, hfz, hnd⟩ := id hW
  obtain ⟨rfl, rfl⟩ := trodVars_none hV
  simp only [List.append_nil] at hz
  have hz2 : (DataW.weightsEach Try.prog Try.f7.params.toList ds).all (· ≤ reachBytes) = true := hz
  exact Law.ending (C := Try.checked) (s := Rows.pairSmallSpec) laid pars rfl Try.underlying4 rfl (fnOf H) hW (calls H enc W base args ds p hval hA hz2)
theorem over : Rows.pairSmallRow.holds Try.pinned (OpenSpec.ofChange Rows.pairSmallSpec) :=
  OpenClaim.holds_of_wide 7 Try.f7 rfl rfl rfl rfl rfl rfl rfl ⟨rfl, rfl, rfl, rfl, rfl⟩ rfl rfl rfl rfl rfl (by kernel_rfl) Try.func7 (by kernel_rfl)
    (of_decide_eq_true (by kernel_rfl)) (by unfold Func.isWrapper; first | (rw [if_pos (by decide +kernel)]; kernel_rfl) | (rw [if_neg (by decide +kernel)]; exact ⟨rfl, rfl⟩))
    (fun os started H enc _ => lifted os started H enc)
theorem proved : Rows.PairSmallSaid := over
end Go.Proofs.Ytpjopdemhdeelaa.pairSmall
