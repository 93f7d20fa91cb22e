/-
  PairFinds: for every slice of byte rows, all integers who and at and every byte by, the law PairFinds answers true (one that is spoilt is found, wherever and whichever, and mended by what is wrong), and its arguments read afterwards as before. No condition.
-/
import Derived.Test.YtpjopdemhdeelaaTab
import Derived.Test.YtpjopdemhdeelaaPairAlive
namespace Go.Proofs.Ytpjopdemhdeelaa.pairFinds
open Go.ChangeShapes Go.WideShapes Go.ChangeAt Go.RowKit
open Gf Mem Poly Cdr Pair
set_option linter.unusedVariables false
attribute [local go_sem] xor8_nat

theorem who_n (A P Q : Option Addr) (rows : List (List UInt8)) (p q : List UInt8) (ca cp cq at_ l n : Nat) (W : World) (hl : rows.length = l) (hp : p.length = n) (hq : q.length = n) (hw : wide rows = n) (h0 : wrongE rows = 0) (hs : Sane rows) (hc : l ≤ ca) (hcp : n ≤ cp) (hcq : n ≤ cq) (hm : n ≤ 140737488351232) (hat : at_ < n)
    (hR : Rds W A rows) (hP : Reads W P (p.map byt)) (hQ : Reads W Q (q.map byt)) :
    Calls Try.prog 17 #[.slice A l ca, .slice P n cp, .slice Q n cq, .int .i64 at_] W fun e W' => ∃ k err : Int, e = .returned (.tuple #[.int .i64 k, .int .i64 err]) ∧ Below W.heap.size W W' ∧ Finds l (xor8 (sumAt 1 rows at_) (co p at_)) (xor8 (sumAt 2 rows at_) (co q at_)) k err := by
  subst hl hw
  have h := who_c A P Q rows p q ca cp cq (at_ : Int) W hs hc (by omega) (by omega) (by omega) (by omega) (by simp [Lit.wf, IntKind.min, IntKind.max, IntKind.bits, IntKind.signed]; omega) hR hP hQ
  rw [hp, hq] at h
  refine h.mono ?_
  rintro e w' ⟨k, err, rfl, hb, hi⟩
  refine ⟨k, err, rfl, hb, ?_⟩
  rcases hi with ⟨h1, _⟩ | ⟨_, h1, _⟩ | ⟨_, _, _, h1, _⟩ | ⟨_, _, _, _, h1⟩
  · exact absurd h0 h1
  · exact absurd ⟨hp, hq⟩ h1
  · exact absurd ⟨by omega, by omega⟩ h1
  · rwa [Int.toNat_natCast] at h1
theorem one_n (A P : Option Addr) (rows : List (List UInt8)) (p : List UInt8) (ca cp lost l n : Nat) (W : World) (hl : rows.length = l) (hp : p.length = n) (hw : wide rows = n) (h0 : wrongE rows = 0) (hs : Sane rows) (hc : l ≤ ca) (hcp : n ≤ cp) (hm : n ≤ 140737488351232) (hlost : lost < l)
    (hR : Rds W A rows) (hP : Reads W P (p.map byt)) :
    Calls Try.prog 10 #[.slice A l ca, .int .i64 lost, .slice P n cp] W fun e W' => ∃ (B : Option Addr) (c : Nat) (q : List UInt8), e = .returned (.tuple #[.slice B n c, .int .i64 0]) ∧ n ≤ c ∧ q.length = n ∧ Reads W' B (q.map byt) ∧ Below W.heap.size W W' ∧ par 1 (rows.set lost q) = p := by
  subst hl hw
  have h := one_c A P rows p ca cp (lost : Int) W hs hc (by omega) (by omega) (by have := (wrongE_ok h0).2.1; simp [Lit.wf, IntKind.min, IntKind.max, IntKind.bits, IntKind.signed]; omega) hR hP
  rw [hp] at h
  refine h.mono ?_
  rintro e w' ⟨B, c, q, err, rfl, hc', hr, hb, hi⟩
  obtain ⟨rfl, h1, h2⟩ := one_ok hi h0 hlost hp
  rw [h1] at hc' ⊢
  exact ⟨B, c, q, rfl, hc', h1, hr, hb, h2⟩
theorem x_self (a b : UInt8) : xor8 a (xor8 a b) = b := by show a ^^^ (a ^^^ b) = b; rw [← UInt8.xor_assoc, xor_self', zero_xor']
theorem x_back (a b : UInt8) : xor8 (xor8 a b) a = b := by show a ^^^ b ^^^ a = b; rw [UInt8.xor_comm, ← UInt8.xor_assoc, xor_self', zero_xor']
theorem x_same (a : UInt8) : xor8 a a = 0 := xor_self' a
theorem co_put {l : List UInt8} {k : Nat} (h : k < l.length) (v : UInt8) : co (l.set k v) k = v := co_of_some (by rw [List.getElem?_set, if_pos rfl, if_pos h])
theorem f_first {n : Nat} {dx : UInt8} {k err : Int} (h : Finds n dx 0 k err) (hx : dx ≠ 0) : err = 0 ∧ k = -1 := by
  rcases h with ⟨h, _⟩ | ⟨_, _, h1, h2⟩ | ⟨h, _⟩ | ⟨_, h, _⟩ | ⟨_, h, _⟩
  · exact absurd h hx
  · exact ⟨h1, h2⟩
  · exact absurd h hx
  · exact absurd rfl h
  · exact absurd rfl h
theorem f_second {n : Nat} {dy : UInt8} {k err : Int} (h : Finds n 0 dy k err) (hy : dy ≠ 0) : err = 0 ∧ k = -2 := by
  rcases h with ⟨_, h, _⟩ | ⟨h, _⟩ | ⟨_, _, h1, h2⟩ | ⟨h, _⟩ | ⟨h, _⟩
  · exact absurd h hy
  · exact absurd rfl h
  · exact ⟨h1, h2⟩
  · exact absurd rfl h
  · exact absurd rfl h
theorem f_disk {n w : Nat} {dx : UInt8} {k err : Int} (hn : n ≤ 255) (hw : w < n) (h : Finds n dx (mul (pow 2 w) dx) k err) (hx : dx ≠ 0) : err = 0 ∧ k = w := by
  have hy : mul (pow 2 w) dx ≠ 0 := fun e => by
    rcases no_zero e with e | e
    · exact pow2_nz w e
    · exact hx e
  rcases h with ⟨h, _⟩ | ⟨_, h, _⟩ | ⟨h, _⟩ | ⟨_, _, i, h1, h2, h3, h4⟩ | ⟨_, _, h1, _⟩
  · exact absurd h hx
  · exact absurd h hy
  · exact absurd h hx
  · have := finds_one hn h1 hw hx h2; subst this; exact ⟨h3, h4⟩
  · exact absurd rfl (h1 w hw)
set_option maxRecDepth 100000 in
set_option maxHeartbeats 4000000 in
theorem early (A : Option Addr) (rows : List (List UInt8)) (ca : Nat) (who at_ : Int) (by_ : UInt8) (W : World) (hs : Sane rows) (hc : rows.length ≤ ca) (hR : Rds W A rows) (h : wrongE rows ≠ 0 ∨ (wrongE rows = 0 ∧ (by_ = 0 ∨ at_ < 0 ∨ (wide rows : Int) ≤ at_ ∨ who < -2 ∨ (rows.length : Int) ≤ who))) :
    Calls Try.prog 6 #[.slice A rows.length ca, .int .i64 who, .int .i64 at_, .int .u8 by_.toNat] W (Law.Yes W) := by
  have h1 := alive_c make_c two_c W
  have H1 := Lib.hid h1
  rcases h with h | ⟨h, hb⟩
  · have h2 := fun k (hk : wrongE rows = k) V (hb : Below W.heap.size W V) => make_no A rows ca rows.length k rfl hs hc hk (by rw [← hk]; exact h) V (hR.below hb)
    have hk : wrongE rows = 1 ∨ wrongE rows = 2 := by rcases wrongE_012 rows with k | k | k; exact absurd k h; exact .inl k; exact .inr k
    rcases hk with hk | hk
    all_goals
      have H2 := Lib.hid (h2 _ hk)
      clear h1 h2 hk h hs hc hR
      generalize rows.length = l at *
      go_enter Try.func6, Try.ntmps6
      go_wp2_with fail
      refine H1.out.mono ?_
      rintro e w1 ⟨rfl, hb1⟩
      have B1 := Lib.hid hb1
      clear hb1
      go_wp2_with fail
      refine (H2.out w1 B1.out).mono ?_
      rintro e w2 ⟨A2, B2, c2, d2, rfl, _, _, _, _, hb2⟩
      have B2 := Lib.hid (B1.out.trans (hb2.mono B1.out.size))
      clear hb2
      go_wp2
      go_ret
      exact ⟨rfl, B2.out⟩
  · have h2 := fun V (hb : Below W.heap.size W V) => make_n A rows ca rows.length (wide rows) rfl rfl hs hc h V (hR.below hb)
    have H2 := Lib.hid h2
    clear h1 h2 h hs hc hR
    generalize rows.length = l at *
    generalize wide rows = n at *
    by_cases k0 : by_ = 0
    · subst k0
      clear hb
      go_enter Try.func6, Try.ntmps6
      go_wp2_with fail
      refine H1.out.mono ?_
      rintro e w1 ⟨rfl, hb1⟩
      have B1 := Lib.hid hb1
      clear hb1
      go_wp2_with fail
      refine (H2.out w1 B1.out).mono ?_
      rintro e w2 ⟨A2, B2, c2, d2, rfl, _, _, _, _, hb2⟩
      have B2 := Lib.hid (B1.out.trans (hb2.mono B1.out.size))
      clear hb2
      go_wp2
      go_ret
      exact ⟨rfl, B2.out⟩
    · have t0 : ((by_.toNat : Int) == 0) = false := by rw [beq_eq_false_iff_ne]; intro e; exact k0 (UInt8.toNat_inj.1 (by show by_.toNat = 0; omega))
      by_cases k1 : at_ < 0
      · clear hb k0
        go_enter Try.func6, Try.ntmps6
        go_wp2_with fail
        refine H1.out.mono ?_
        rintro e w1 ⟨rfl, hb1⟩
        have B1 := Lib.hid hb1
        clear hb1
        go_wp2_with fail
        refine (H2.out w1 B1.out).mono ?_
        rintro e w2 ⟨A2, B2, c2, d2, rfl, _, _, _, _, hb2⟩
        have B2 := Lib.hid (B1.out.trans (hb2.mono B1.out.size))
        clear hb2
        go_wp2
        go_ret
        exact ⟨rfl, B2.out⟩
      · by_cases k2 : (n : Int) ≤ at_
        · clear hb k0
          go_enter Try.func6, Try.ntmps6
          go_wp2_with fail
          refine H1.out.mono ?_
          rintro e w1 ⟨rfl, hb1⟩
          have B1 := Lib.hid hb1
          clear hb1
          go_wp2_with fail
          refine (H2.out w1 B1.out).mono ?_
          rintro e w2 ⟨A2, B2, c2, d2, rfl, _, _, _, _, hb2⟩
          have B2 := Lib.hid (B1.out.trans (hb2.mono B1.out.size))
          clear hb2
          go_wp2
          go_ret
          exact ⟨rfl, B2.out⟩
        · by_cases k3 : who < -2
          · clear hb k0
            go_enter Try.func6, Try.ntmps6
            go_wp2_with fail
            refine H1.out.mono ?_
            rintro e w1 ⟨rfl, hb1⟩
            have B1 := Lib.hid hb1
            clear hb1
            go_wp2_with fail
            refine (H2.out w1 B1.out).mono ?_
            rintro e w2 ⟨A2, B2, c2, d2, rfl, _, _, _, _, hb2⟩
            have B2 := Lib.hid (B1.out.trans (hb2.mono B1.out.size))
            clear hb2
            go_wp2
            go_ret
            exact ⟨rfl, B2.out⟩
          · have k4 : (l : Int) ≤ who := by
              rcases hb with hb | hb | hb | hb | hb
              · exact absurd hb k0
              all_goals omega
            clear hb k0
            go_enter Try.func6, Try.ntmps6
            go_wp2_with fail
            refine H1.out.mono ?_
            rintro e w1 ⟨rfl, hb1⟩
            have B1 := Lib.hid hb1
            clear hb1
            go_wp2_with fail
            refine (H2.out w1 B1.out).mono ?_
            rintro e w2 ⟨A2, B2, c2, d2, rfl, _, _, _, _, hb2⟩
            have B2 := Lib.hid (B1.out.trans (hb2.mono B1.out.size))
            clear hb2
            go_wp2
            go_ret
            exact ⟨rfl, B2.out⟩
set_option maxRecDepth 100000 in
set_option maxHeartbeats 8000000 in
theorem first (A : Option Addr) (rows : List (List UInt8)) (ca at_ : Nat) (by_ : UInt8) (W : World) (hs : Sane rows) (hc : rows.length ≤ ca) (hR : Rds W A rows) (h : wrongE rows = 0) (hby : by_ ≠ 0) (hat : at_ < wide rows) :
    Calls Try.prog 6 #[.slice A rows.length ca, .int .i64 (-1), .int .i64 at_, .int .u8 by_.toNat] W (Law.Yes W) := by
  have h1 := alive_c make_c two_c W
  have h2 := fun V (hb : Below W.heap.size W V) => make_n A rows ca rows.length (wide rows) rfl rfl hs hc h V (hR.below hb)
  obtain ⟨h0, hbig, hev⟩ := wrongE_ok h
  obtain ⟨us, hus, har⟩ := hR
  have l1 := par_len 1 rows
  have l2 := par_len 2 rows
  have c1 := co_par (x := 1) hat
  have c2 := co_par (x := 2) hat
  have t0 : ((by_.toNat : Int) == 0) = false := by rw [beq_eq_false_iff_ne]; intro e; exact hby (UInt8.toNat_inj.1 (by show by_.toNat = 0; omega))
  have d2 : decide (wide rows ≤ at_) = false := by simpa using hat
  have i2 : (at_ : Int) < (wide rows : Int) := by omega
  have H1 := Lib.hid h1
  have H2 := Lib.hid h2
  have HS := Lib.hid hs
  have US := Lib.hid hus
  have AR := Lib.hid har
  have HN : Hid (wide rows ≤ 140737488351232) := Lib.hid hs.head
  have HE := Lib.hid h
  have L1 := Lib.hid l1
  have L2 := Lib.hid l2
  have C1 := Lib.hid c1
  have C2 := Lib.hid c2
  have HUL := Lib.hid har.1
  have HSL := Lib.hid hs.1
  have HAL := Lib.hid hat
  have HBY := Lib.hid hby
  have iw : ¬ (rows.length : Int) ≤ (-1) := by omega
  clear h1 h2 h hs hus har hev hat l1 l2 c1 c2 h0 hc hby
  generalize hl : rows.length = l at *
  have HL := Lib.hid hl
  generalize hnn : wide rows = n at *
  have HNN := Lib.hid hnn
  clear hl hnn
  go_enter Try.func6, Try.ntmps6
  go_wp2_with fail
  refine H1.out.mono ?_
  rintro e w1 ⟨rfl, hb1⟩
  have B1 := Lib.hid hb1
  clear hb1
  go_wp2_with fail
  refine (H2.out w1 B1.out).mono ?_
  rintro e w2 ⟨A2, B2, c2, d2', rfl, hc2, hd2, hx2, hy2, hb2⟩
  have K2 := Lib.hid (B1.out.trans (hb2.mono B1.out.size))
  have X2 := Lib.hid hx2
  have Y2 := Lib.hid hy2
  clear hx2 hy2 hb2 H1 H2
  go_wp2_with (at_builtin; refine wpList_append_cells rfl (.tmp 51) (.tmp 52) rfl rfl rfl HUL.out (rows_one AR.out) (US.out.below K2.out) HSL.out (Below.refl w2.heap.size w2) (Nat.le_refl _) ?_; intro A3 c3 w3 hT3 hB3; have T3 := Lib.hid hT3.out; have K3 := Lib.hid (K2.out.trans (hB3.out.mono K2.out.size)); have X3 := Lib.hid (X2.out.below hB3.out); have Y3 := Lib.hid (Y2.out.below hB3.out); clear hT3 hB3 X2 Y2)
  refine (clone_l A2 (par 1 rows) n c2 w3 L1.out HN.out X3.out).mono ?_
  rintro e w4 ⟨A4, c4, rfl, hc4, hM4, hB4⟩
  obtain ⟨g4, rfl, hg4, hlt4, cz, fz⟩ := Mine.co_at hM4 (k := at_) (by rw [L1.out]; exact HAL.out)
  rw [C1.out] at cz
  have hM5 := hM4.put (g := g4) (k := at_) rfl (xor8 (sumAt 1 rows at_) by_)
  have hb5 : Below w3.heap.size w3 (w4.setCell ⟨g4, at_, none⟩ (.int .u8 ((xor8 (sumAt 1 rows at_) by_).toNat : Int))) := hB4.setCell (p := ⟨g4, at_, none⟩) hg4 _
  have hK5 := K3.out.trans (hb5.mono K3.out.size)
  have hw := who_n A3 (some ⟨g4, 0, none⟩) B2 rows ((par 1 rows).set at_ (xor8 (sumAt 1 rows at_) by_)) (par 2 rows) c3 c4 d2' at_ l n _ HL.out (by rw [List.length_set]; exact L1.out) L2.out HNN.out HE.out HS.out T3.out.le hc4 hd2 HN.out HAL.out ((T3.out.later hb5).rds (AR.out.below hK5)) hM5.reads (Y3.out.below hb5)
  rw [co_put (by rw [L1.out]; exact HAL.out), C2.out, x_self, x_same] at hw
  have HW := Lib.hid hw
  have K5 := Lib.hid hK5
  clear hM4 hB4 hM5 hb5 hK5 hw
  go_wp2_with fail
  refine HW.out.mono ?_
  rintro e w6 ⟨k, err, rfl, hb6, hf⟩
  obtain ⟨rfl, rfl⟩ := f_first hf HBY.out
  have K6 := Lib.hid (K5.out.trans (hb6.mono K5.out.size))
  clear hb6 hf
  go_wp2
  go_ret
  exact ⟨rfl, K6.out⟩
set_option maxRecDepth 100000 in
set_option maxHeartbeats 8000000 in
theorem second (A : Option Addr) (rows : List (List UInt8)) (ca at_ : Nat) (by_ : UInt8) (W : World) (hs : Sane rows) (hc : rows.length ≤ ca) (hR : Rds W A rows) (h : wrongE rows = 0) (hby : by_ ≠ 0) (hat : at_ < wide rows) :
    Calls Try.prog 6 #[.slice A rows.length ca, .int .i64 (-2), .int .i64 at_, .int .u8 by_.toNat] W (Law.Yes W) := by
  have h1 := alive_c make_c two_c W
  have h2 := fun V (hb : Below W.heap.size W V) => make_n A rows ca rows.length (wide rows) rfl rfl hs hc h V (hR.below hb)
  obtain ⟨h0, hbig, hev⟩ := wrongE_ok h
  obtain ⟨us, hus, har⟩ := hR
  have l1 := par_len 1 rows
  have l2 := par_len 2 rows
  have c1 := co_par (x := 1) hat
  have c2 := co_par (x := 2) hat
  have t0 : ((by_.toNat : Int) == 0) = false := by rw [beq_eq_false_iff_ne]; intro e; exact hby (UInt8.toNat_inj.1 (by show by_.toNat = 0; omega))
  have d2 : decide (wide rows ≤ at_) = false := by simpa using hat
  have i2 : (at_ : Int) < (wide rows : Int) := by omega
  have H1 := Lib.hid h1
  have H2 := Lib.hid h2
  have HS := Lib.hid hs
  have US := Lib.hid hus
  have AR := Lib.hid har
  have HN : Hid (wide rows ≤ 140737488351232) := Lib.hid hs.head
  have HE := Lib.hid h
  have L1 := Lib.hid l1
  have L2 := Lib.hid l2
  have C1 := Lib.hid c1
  have C2 := Lib.hid c2
  have HUL := Lib.hid har.1
  have HSL := Lib.hid hs.1
  have HAL := Lib.hid hat
  have HBY := Lib.hid hby
  have iw : ¬ (rows.length : Int) ≤ (-2) := by omega
  clear h1 h2 h hs hus har hev hat l1 l2 c1 c2 h0 hc hby
  generalize hl : rows.length = l at *
  have HL := Lib.hid hl
  generalize hnn : wide rows = n at *
  have HNN := Lib.hid hnn
  clear hl hnn
  go_enter Try.func6, Try.ntmps6
  go_wp2_with fail
  refine H1.out.mono ?_
  rintro e w1 ⟨rfl, hb1⟩
  have B1 := Lib.hid hb1
  clear hb1
  go_wp2_with fail
  refine (H2.out w1 B1.out).mono ?_
  rintro e w2 ⟨A2, B2, c2, d2', rfl, hc2, hd2, hx2, hy2, hb2⟩
  have K2 := Lib.hid (B1.out.trans (hb2.mono B1.out.size))
  have X2 := Lib.hid hx2
  have Y2 := Lib.hid hy2
  clear hx2 hy2 hb2 H1 H2
  go_wp2_with (at_builtin; refine wpList_append_cells rfl (.tmp 51) (.tmp 52) rfl rfl rfl HUL.out (rows_one AR.out) (US.out.below K2.out) HSL.out (Below.refl w2.heap.size w2) (Nat.le_refl _) ?_; intro A3 c3 w3 hT3 hB3; have T3 := Lib.hid hT3.out; have K3 := Lib.hid (K2.out.trans (hB3.out.mono K2.out.size)); have X3 := Lib.hid (X2.out.below hB3.out); have Y3 := Lib.hid (Y2.out.below hB3.out); clear hT3 hB3 X2 Y2)
  refine (clone_l B2 (par 2 rows) n d2' w3 L2.out HN.out Y3.out).mono ?_
  rintro e w4 ⟨A4, c4, rfl, hc4, hM4, hB4⟩
  obtain ⟨g4, rfl, hg4, hlt4, cz, fz⟩ := Mine.co_at hM4 (k := at_) (by rw [L2.out]; exact HAL.out)
  rw [C2.out] at cz
  have hM5 := hM4.put (g := g4) (k := at_) rfl (xor8 (sumAt 2 rows at_) by_)
  have hb5 : Below w3.heap.size w3 (w4.setCell ⟨g4, at_, none⟩ (.int .u8 ((xor8 (sumAt 2 rows at_) by_).toNat : Int))) := hB4.setCell (p := ⟨g4, at_, none⟩) hg4 _
  have hK5 := K3.out.trans (hb5.mono K3.out.size)
  have hw := who_n A3 A2 (some ⟨g4, 0, none⟩) rows (par 1 rows) ((par 2 rows).set at_ (xor8 (sumAt 2 rows at_) by_)) c3 c2 c4 at_ l n _ HL.out L1.out (by rw [List.length_set]; exact L2.out) HNN.out HE.out HS.out T3.out.le hc2 hc4 HN.out HAL.out ((T3.out.later hb5).rds (AR.out.below hK5)) (X3.out.below hb5) hM5.reads
  rw [co_put (by rw [L2.out]; exact HAL.out), C1.out, x_self, x_same] at hw
  have HW := Lib.hid hw
  have K5 := Lib.hid hK5
  clear hM4 hB4 hM5 hb5 hK5 hw
  go_wp2_with fail
  refine HW.out.mono ?_
  rintro e w6 ⟨k, err, rfl, hb6, hf⟩
  obtain ⟨rfl, rfl⟩ := f_second hf HBY.out
  have K6 := Lib.hid (K5.out.trans (hb6.mono K5.out.size))
  clear hb6 hf
  go_wp2
  go_ret
  exact ⟨rfl, K6.out⟩
set_option maxRecDepth 100000 in
set_option maxHeartbeats 8000000 in
theorem disk (A : Option Addr) (rows : List (List UInt8)) (ca who at_ : Nat) (by_ : UInt8) (W : World) (hs : Sane rows) (hc : rows.length ≤ ca) (hR : Rds W A rows) (h : wrongE rows = 0) (hby : by_ ≠ 0) (hwho : who < rows.length) (hat : at_ < wide rows) :
    Calls Try.prog 6 #[.slice A rows.length ca, .int .i64 who, .int .i64 at_, .int .u8 by_.toNat] W (Law.Yes W) := by
  have h1 := alive_c make_c two_c W
  have h2 := fun V (hb : Below W.heap.size W V) => make_n A rows ca rows.length (wide rows) rfl rfl hs hc h V (hR.below hb)
  obtain ⟨h0, hbig, hev⟩ := wrongE_ok h
  obtain ⟨us, hus, har⟩ := hR
  obtain ⟨r, hr⟩ : ∃ r, rows[who]? = some r := ⟨rows[who], List.getElem?_eq_getElem hwho⟩
  obtain ⟨u, hu⟩ : ∃ u, us[who]? = some u := ⟨us[who]'(by rw [har.1]; exact hwho), List.getElem?_eq_getElem _⟩
  obtain ⟨C, c, rfl, hCc, _, hC⟩ := har.2 who u r hu hr
  have hrl := even_len hev hr
  have hn := hs.head
  have hw2 := wrongE_set (a := who) h (r := r.set at_ (xor8 (co r at_) by_)) (by rw [List.length_set]; exact hrl)
  have hwd := wide_set (rows := rows) (a := who) (r := r.set at_ (xor8 (co r at_) by_)) (by rw [List.length_set]; exact hrl)
  have hs2 : Sane (rows.set who (r.set at_ (xor8 (co r at_) by_))) := ⟨by rw [List.length_set]; exact hs.1, fun q hq => by
    rcases List.mem_or_eq_of_mem_set hq with k | rfl
    · exact hs.2 q k
    · rw [List.length_set, hrl]; exact hn⟩
  have hsum : ∀ x, sumAt x (rows.set who (r.set at_ (xor8 (co r at_) by_))) at_ = xor8 (sumAt x rows at_) (mul (pow x who) by_) := fun x => by
    rw [sum_set hr, co_put (by rw [hrl]; exact hat)]
    show sumAt x rows at_ ^^^ mul (pow x who) (co r at_ ^^^ by_ ^^^ co r at_) = sumAt x rows at_ ^^^ mul (pow x who) by_
    rw [show co r at_ ^^^ by_ ^^^ co r at_ = by_ from x_back _ _]
  have s1 := hsum 1
  have s2 := hsum 2
  rw [pow_one, one_mul] at s1
  have hfin : ∀ o : List UInt8, o.length = wide rows → par 1 ((rows.set who (r.set at_ (xor8 (co r at_) by_))).set who o) = par 1 rows → o = r := fun o ho he => by
    rw [List.set_set] at he
    exact one_unique hr hrl ho he
  have l1 := par_len 1 rows
  have l2 := par_len 2 rows
  have c1 := co_par (x := 1) hat
  have c2 := co_par (x := 2) hat
  have t0 : ((by_.toNat : Int) == 0) = false := by rw [beq_eq_false_iff_ne]; intro e; exact hby (UInt8.toNat_inj.1 (by show by_.toNat = 0; omega))
  have d2 : decide (wide rows ≤ at_) = false := by simpa using hat
  have i2 : (at_ : Int) < (wide rows : Int) := by omega
  have H1 := Lib.hid h1
  have H2 := Lib.hid h2
  have HS := Lib.hid hs
  have US := Lib.hid hus
  have AR := Lib.hid har
  have HN : Hid (wide rows ≤ 140737488351232) := Lib.hid hs.head
  have HE := Lib.hid h
  have L1 := Lib.hid l1
  have L2 := Lib.hid l2
  have C1 := Lib.hid c1
  have C2 := Lib.hid c2
  have HUL := Lib.hid har.1
  have HSL := Lib.hid hs.1
  have HAL := Lib.hid hat
  have HBY := Lib.hid hby
  have d1 : decide (rows.length ≤ who) = false := by simpa using hwho
  have i1 : (who : Int) < (rows.length : Int) := by omega
  have i3 : ¬ (who : Int) < -2 := by omega
  have t1 : ((who : Int) == -1) = false := by rw [beq_eq_false_iff_ne]; omega
  have t2 : ((who : Int) == -2) = false := by rw [beq_eq_false_iff_ne]; omega
  have HU := Lib.hid hu
  have HC := Lib.hid hC
  have HRL := Lib.hid hrl
  have HW2 := Lib.hid hw2
  have HWD := Lib.hid hwd
  have HS2 := Lib.hid hs2
  have S1 := Lib.hid s1
  have S2 := Lib.hid s2
  have HWL := Lib.hid hwho
  have HFIN := Lib.hid hfin
  clear h1 h2 h hs hus har hu hC hev hn hw2 hwd hs2 hsum s1 s2 l1 l2 c1 c2 h0 hc hr hat hby hfin
  rw [hrl] at HU hCc
  clear hrl
  generalize hl : rows.length = l at *
  have HL := Lib.hid hl
  generalize hnn : wide rows = n at *
  have HNN := Lib.hid hnn
  clear hl hnn
  go_enter Try.func6, Try.ntmps6
  go_wp2_with fail
  refine H1.out.mono ?_
  rintro e w1 ⟨rfl, hb1⟩
  have B1 := Lib.hid hb1
  clear hb1
  go_wp2_with fail
  refine (H2.out w1 B1.out).mono ?_
  rintro e w2 ⟨A2, B2, c2, d2', rfl, hc2, hd2, hx2, hy2, hb2⟩
  have K2 := Lib.hid (B1.out.trans (hb2.mono B1.out.size))
  have X2 := Lib.hid hx2
  have Y2 := Lib.hid hy2
  clear hx2 hy2 hb2 H1 H2
  go_wp2_with (at_builtin; refine wpList_append_cells rfl (.tmp 51) (.tmp 52) rfl rfl rfl HUL.out (rows_one AR.out) (US.out.below K2.out) HSL.out (Below.refl w2.heap.size w2) (Nat.le_refl _) ?_; intro A3 c3 w3 hT3 hB3; obtain ⟨g3, rfl, hg3, hlt3, hc3, hf3, _⟩ := hT3.out.at_ HWL.out; rw [HU.out] at hc3; have T3 := Lib.hid hT3.out; have K3 := Lib.hid (K2.out.trans (hB3.out.mono K2.out.size)); have S3 := Lib.hid hB3.out; clear hT3 hB3)
  refine (clone_l C r n c w3 HRL.out HN.out (HC.out.below K3.out)).mono ?_
  rintro e w4 ⟨A4, c4, rfl, hc4, hM4, hB4⟩
  obtain ⟨g4, rfl, hg4, hlt4, cz, fz⟩ := Mine.co_at hM4 (k := at_) (by rw [HRL.out]; exact HAL.out)
  have hne : g4 ≠ g3 := by omega
  obtain ⟨g3', e3, _, _, hc4', hf4', hput⟩ := (T3.out.later hB4).at_ HWL.out
  injection e3 with e3
  injection e3 with e3
  subst e3
  rw [HU.out] at hc4'
  have cz5 : (w4.setCell ⟨g3, who, none⟩ (.slice (some ⟨g4, 0, none⟩) n c4)).cell? ⟨g4, at_, none⟩ = some (.int .u8 ((co r at_).toNat : Int)) := (World.cell?_setCell_other w4 ⟨g3, who, none⟩ ⟨g4, at_, none⟩ _ (fun e => hne (by injection e with e; exact e.symm))).trans cz
  have hK4 := K3.out.trans (hB4.mono K3.out.size)
  have hK6 := (hK4.setCell (p := ⟨g3, who, none⟩) (by show W.heap.size ≤ g3; have := K2.out.size; omega) (.slice (some ⟨g4, 0, none⟩) n c4)).setCell (p := ⟨g4, at_, none⟩) (by show W.heap.size ≤ g4; have := K3.out.size; omega) (.int .u8 ((xor8 (co r at_) by_).toNat : Int))
  have hM6 := (Mine.off hM4 (p := ⟨g3, who, none⟩) (fun a ha => by injection ha with ha; subst ha; exact hne) (.slice (some ⟨g4, 0, none⟩) n c4)).put (g := g4) (k := at_) rfl (xor8 (co r at_) by_)
  have hT6 := (hput (.slice (some ⟨g4, 0, none⟩) n c4)).off (p := ⟨g4, at_, none⟩) (fun a ha => by injection ha with ha; subst ha; exact Ne.symm hne) (.int .u8 ((xor8 (co r at_) by_).toNat : Int))
  have hR6 := hT6.rds (AR.out.set hK6 (mine_row hM6 (by rw [List.length_set]; exact HRL.out) hc4 HN.out))
  have hB26 := ((S3.out.trans (hB4.mono S3.out.size)).setCell (p := ⟨g3, who, none⟩) hg3 (.slice (some ⟨g4, 0, none⟩) n c4)).setCell (p := ⟨g4, at_, none⟩) (by show w2.heap.size ≤ g4; have := S3.out.size; omega) (.int .u8 ((xor8 (co r at_) by_).toNat : Int))
  have hX6 := X2.out.below hB26
  have hY6 := Y2.out.below hB26
  have hwn := who_n (some ⟨g3, 0, none⟩) A2 B2 (rows.set who (r.set at_ (xor8 (co r at_) by_))) (par 1 rows) (par 2 rows) c3 c2 d2' at_ l n _ (by rw [List.length_set]; exact HL.out) L1.out L2.out HWD.out HW2.out HS2.out T3.out.le hc2 hd2 HN.out HAL.out hR6 hX6 hY6
  rw [S1.out, S2.out, C1.out, C2.out, x_back, x_back] at hwn
  have HWN := Lib.hid hwn
  have K6 := Lib.hid hK6
  have R6 := Lib.hid hR6
  have X6 := Lib.hid hX6
  have LE3 := Lib.hid T3.out.le
  clear hM4 hB4 hput hK4 hK6 hM6 hT6 hR6 hB26 hX6 hY6 hwn
  go_wp2_with fail
  refine HWN.out.mono ?_
  rintro e w7 ⟨k, err, rfl, hb7, hf⟩
  obtain ⟨rfl, rfl⟩ := f_disk hbig HWL.out hf HBY.out
  have K7 := Lib.hid (K6.out.trans (hb7.mono K6.out.size))
  have hon := one_n (some ⟨g3, 0, none⟩) A2 (rows.set who (r.set at_ (xor8 (co r at_) by_))) (par 1 rows) c3 c2 who l n w7 (by rw [List.length_set]; exact HL.out) L1.out HWD.out HW2.out HS2.out LE3.out hc2 HN.out HWL.out (R6.out.below hb7) (X6.out.below hb7)
  have HON := Lib.hid hon
  clear hb7 hf hon T3 S3 X2 Y2 X6 R6 HWN cz cz5 fz hc4' hf4' hc3 hf3
  have j0 : ¬ (who : Int) < 0 := by omega
  go_wp2_with fail
  refine HON.out.mono ?_
  rintro e w8 ⟨A8, c8, q, rfl, hc8, hql, hq, hb8, hpar⟩
  obtain rfl := HFIN.out q hql hpar
  have K8 := Lib.hid (K7.out.trans (hb8.mono K7.out.size))
  have Q8 := Lib.hid hq
  obtain ⟨b0, o0, ea, hb0, cu⟩ := US.out who _ HU.out
  subst ea
  have cu8 := (K8.out.cell (p := ⟨b0, o0 + who, none⟩) hb0).trans cu
  clear hq hb8 hpar HON cu hql
  go_wp2_with fail
  refine (equal_n A8 C q q c8 c n n w8 HRL.out HRL.out Q8.out (HC.out.below K8.out) rfl).mono ?_
  rintro e w' ⟨rfl, rfl⟩
  go_wp2
  go_ret
  exact ⟨rfl, K8.out⟩
theorem words (A : Option Addr) (rows : List (List UInt8)) (ca : Nat) (who at_ : Int) (by_ : UInt8) (W : World) (hs : Sane rows) (hc : rows.length ≤ ca) (hR : Rds W A rows) :
    Calls Try.prog 6 #[.slice A rows.length ca, .int .i64 who, .int .i64 at_, .int .u8 by_.toNat] W (Law.Yes W) := by
  by_cases h : wrongE rows = 0
  · by_cases hb : by_ = 0 ∨ at_ < 0 ∨ (wide rows : Int) ≤ at_ ∨ who < -2 ∨ (rows.length : Int) ≤ who
    · exact early A rows ca who at_ by_ W hs hc hR (.inr ⟨h, hb⟩)
    · have hby : by_ ≠ 0 := fun e => hb (.inl e)
      obtain ⟨a, rfl⟩ : ∃ k : Nat, at_ = k := ⟨at_.toNat, by omega⟩
      by_cases h1 : who = -1
      · subst h1; exact first A rows ca a by_ W hs hc hR h hby (by omega)
      · by_cases h2 : who = -2
        · subst h2; exact second A rows ca a by_ W hs hc hR h hby (by omega)
        · obtain ⟨w, rfl⟩ : ∃ k : Nat, who = k := ⟨who.toNat, by omega⟩
          exact disk A rows ca w a by_ W hs hc hR h hby (by omega) (by omega)
  · exact early A rows ca who at_ by_ W hs hc hR (.inl h)
theorem walk {H : Type} {enc : TypeId × Value → H} {base : Nat} {W : World} {v0 : Value} {d0 : DataW H} {p0 : List MemPlace}
    (o0 : Value.okWide Try.prog W .any base 22 v0) (h0 : DataW.Trod enc Try.prog W 0 (fun _ => true) true 22 v0 d0 p0) (a1 : Int) (w1 : (Lit.int .i64 a1).wf = true) (a2 : Int) (w2 : (Lit.int .i64 a2).wf = true) (a3 : Int) (w3 : (Lit.int .u8 a3).wf = true)
    (hz : (DataW.weightsEach Try.prog [22, 3, 3, 5] [d0, .lit (.int .i64 a1), .lit (.int .i64 a2), .lit (.int .u8 a3)]).all (· ≤ reachBytes) = true) :
    Calls Try.prog 6 #[v0, .int .i64 a1, .int .i64 a2, .int .u8 a3] W (Law.Yes W) := by
  obtain ⟨A0, c0, l0, rfl, z0, k0, _, r0, s0⟩ := open_rowsZ Try.underlying22 Try.underlying23 Try.underlying5 (by kernel_rfl) (by kernel_rfl) (by kernel_rfl) (by kernel_rfl) o0 h0 hz (j := 0) rfl rfl
  obtain ⟨b, rfl⟩ := Words.of_wf8 w3
  exact words A0 l0 c0 a1 a2 b W ⟨z0, s0⟩ k0 r0
theorem own : ownKnob Try.prog.godebug = none := by kernel_rfl
theorem laid : laidOutB Try.prog = true := by kernel_rfl
theorem pars : ∀ t ∈ Try.f6.params.toList, Try.prog.readableRec t = true ∧ t < Try.prog.types.size := by
  have h : Try.f6.params.toList.all (fun t => Try.prog.readableRec t && decide (t < Try.prog.types.size)) = true := by kernel_rfl
  intro t ht; have := List.all_eq_true.1 h t ht; simpa using this
theorem calls (H : Type) (enc : TypeId × Value → H) (W : World) (base : Nat) (args : Array Value) (ds : List (DataW H)) (before : List MemPlace)
    (hval : ∀ (j : Nat) t v, Try.f6.params[j]? = some t → args[j]? = some v → Value.okWide Try.prog W .any base t v)
    (hA : DataW.TrodAll enc Try.prog W 0 (fun _ => true) true Try.f6.params.toList args.toList ds before) (hz : (DataW.weightsEach Try.prog Try.f6.params.toList ds).all (· ≤ reachBytes) = true) :
    Calls Try.prog 6 args W (Law.Yes W) := by
  rw [Try.params6] at hA hval hz
  obtain ⟨v0, vs0, d0, ds0, p0, q0, hargs, rfl, rfl, h0, r0⟩ := trodAll_cons hA
  obtain ⟨v1, vs1, d1, ds1, p1, q1, rfl, rfl, rfl, h1, r1⟩ := trodAll_cons r0
  obtain ⟨v2, vs2, d2, ds2, p2, q2, rfl, rfl, rfl, h2, r2⟩ := trodAll_cons r1
  obtain ⟨v3, vs3, d3, ds3, p3, q3, rfl, rfl, rfl, h3, r3⟩ := trodAll_cons r2
  obtain ⟨rfl, rfl, rfl⟩ := trodAll_nil r3
  obtain rfl : args = #[v0, v1, v2, v3] := by cases args; simp_all
  obtain ⟨a1, rfl, rfl, rfl, w1⟩ := open_int Try.underlying3 (hval 1 3 v1 rfl rfl) h1
  obtain ⟨a2, rfl, rfl, rfl, w2⟩ := open_int Try.underlying3 (hval 2 3 v2 rfl rfl) h2
  obtain ⟨a3, rfl, rfl, rfl, w3⟩ := open_int Try.underlying5 (hval 3 5 v3 rfl rfl) h3
  exact walk (W := W) (hval 0 22 v0 rfl rfl) h0 a1 w1 a2 w2 a3 w3 hz
theorem fnOf (H : Type) : ∀ ds : List (DataW H), ds.length = Try.f6.params.toList.length → Rows.pairFindsSpec.fn H ds = { results := [.lit (.bool true)], args := ds } := by
  intro ds h
  have h : ds.length = 4 := h
  obtain _ | ⟨x0, ds⟩ := ds
  · simp at h
  obtain _ | ⟨x1, ds⟩ := ds
  · simp at h
  obtain _ | ⟨x2, ds⟩ := ds
  · simp at h
  obtain _ | ⟨x3, ds⟩ := ds
  · simp at h
  obtain rfl : ds = [] := List.eq_nil_of_length_eq_zero (by simpa using h)
  rfl
set_option maxRecDepth 100000 in
theorem lifted (os : Os) (started : os.Started) (H : Type) (enc : TypeId × Value → H) :
    ReturnsInHanded {} Try.checked os 6 .any (Rows.pairFindsSpec.pre6 enc Try.prog Try.f6 Rows.pairFindsRow.domain false) (Rows.pairFindsSpec.post enc Try.prog Try.f6 false true false false) := by
  refine returnsInHanded_of_change_sized (C := Try.checked) own started (by kernel_rfl) Try.func6
    (ChangeSpec.witness6 (enc := enc) (C := Try.checked) false ⟨#[], #[.slice none 0 0, .int .i64 0, .int .i64 0, .int .u8 0], []⟩ 8 (by kernel_rfl) (by kernel_rfl) (by kernel_rfl) (by kernel_rfl)) ?_
  intro W base args ds gs before hval hW _ hz _
  obtain ⟨p, q, hA, hV, rfl, hfz, hnd⟩ := id hW
  obtain ⟨rfl, rfl⟩ := trodVars_none hV
  simp only [List.append_nil] at hz
  have hz2 : (DataW.weightsEach Try.prog Try.f6.params.toList ds).all (· ≤ reachBytes) = true := hz
  exact Law.ending (C := Try.checked) (s := Rows.pairFindsSpec) laid pars rfl Try.underlying4 rfl (fnOf H) hW (calls H enc W base args ds p hval hA hz2)
theorem over : Rows.pairFindsRow.holds Try.pinned (OpenSpec.ofChange Rows.pairFindsSpec) :=
  OpenClaim.holds_of_wide 6 Try.f6 rfl rfl rfl rfl rfl rfl rfl ⟨rfl, rfl, rfl, rfl, rfl⟩ rfl rfl rfl rfl rfl (by kernel_rfl) Try.func6 (by kernel_rfl)
    (of_decide_eq_true (by kernel_rfl)) (by unfold Func.isWrapper; first | (rw [if_pos (by decide +kernel)]; kernel_rfl) | (rw [if_neg (by decide +kernel)]; exact ⟨rfl, rfl⟩))
    (fun os started H enc _ => lifted os started H enc)
theorem proved : Rows.PairFindsSaid := over
end Go.Proofs.Ytpjopdemhdeelaa.pairFinds
