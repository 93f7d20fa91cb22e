/-
  PairTwo: for every slice of byte rows, all integers a and b and every byte x, the law PairTwo answers true (any two that are lost come back, whatever stands in their places, and any one by the first row), and its arguments read afterwards as before. No condition.
-/
import Derived.Test.YtpjopdemhdeelaaTab
import Derived.Test.YtpjopdemhdeelaaPairAlive
import Derived.Test.YtpjopdemhdeelaaRepeat
namespace Go.Proofs.Ytpjopdemhdeelaa.pairTwo
open Go.ChangeShapes Go.WideShapes Go.ChangeAt Go.RowKit
open Gf Mem Poly Cdr Pair
set_option linter.unusedVariables false

theorem one_n (A P : Option Addr) (rows : List (List UInt8)) (p : List UInt8) (ca cp lost l n : Nat) (W : World) (hl : rows.length = l) (hp : p.length = n) (hw : wide rows = n) (h0 : wrongE rows = 0) (hs : Sane rows) (hc : l ≤ ca) (hcp : n ≤ cp) (hm : n ≤ 140737488351232) (hlost : lost < l)
    (hR : Rds W A rows) (hP : Reads W P (p.map byt)) :
    Calls Try.prog 10 #[.slice A l ca, .int .i64 lost, .slice P n cp] W fun e W' => ∃ (B : Option Addr) (c : Nat) (q : List UInt8), e = .returned (.tuple #[.slice B n c, .int .i64 0]) ∧ n ≤ c ∧ q.length = n ∧ Reads W' B (q.map byt) ∧ Below W.heap.size W W' ∧ par 1 (rows.set lost q) = p ∧ ∀ a, B = some a → W.heap.size ≤ a.block := by
  subst hl hw
  have h := one_f A P rows p ca cp (lost : Int) W hs hc (by omega) (by omega) (by have := (wrongE_ok h0).2.1; simp [Lit.wf, IntKind.min, IntKind.max, IntKind.bits, IntKind.signed]; omega) hR hP
  rw [hp] at h
  refine h.mono ?_
  rintro e w' ⟨B, c, q, err, rfl, hc', hr, hb, hi, hf⟩
  obtain ⟨rfl, h1, h2⟩ := one_ok hi h0 hlost hp
  rw [h1] at hc' ⊢
  exact ⟨B, c, q, rfl, hc', h1, hr, hb, h2, hf⟩
theorem two_n (A P Q : Option Addr) (rows : List (List UInt8)) (p q : List UInt8) (ca cp cq a b l n : Nat) (W : World) (hl : rows.length = l) (hp : p.length = n) (hq : q.length = n) (hw : wide rows = n) (h0 : wrongE rows = 0) (hs : Sane rows) (hc : l ≤ ca) (hcp : n ≤ cp) (hcq : n ≤ cq) (hm : n ≤ 140737488351232) (ha : a < l) (hb : b < l) (hab : a ≠ b)
    (hR : Rds W A rows) (hP : Reads W P (p.map byt)) (hQ : Reads W Q (q.map byt)) :
    Calls Try.prog 11 #[.slice A l ca, .int .i64 a, .int .i64 b, .slice P n cp, .slice Q n cq] W fun e W' => ∃ (B D : Option Addr) (c d : Nat) (u v : List UInt8), e = .returned (.tuple #[.slice B n c, .slice D n d, .int .i64 0]) ∧ u.length = n ∧ v.length = n ∧ Reads W' B (u.map byt) ∧ Reads W' D (v.map byt) ∧ Below W.heap.size W W' ∧
      par 1 ((rows.set a u).set b v) = p ∧ par 2 ((rows.set a u).set b v) = q := by
  subst hl hw
  have hfew := (wrongE_ok h0).2.1
  have wf : ∀ k : Nat, k < 255 → (Lit.int .i64 (k : Int)).wf = true := fun k hk => by simp [Lit.wf, IntKind.min, IntKind.max, IntKind.bits, IntKind.signed]; omega
  have h := two_c A P Q rows p q ca cp cq (a : Int) (b : Int) W hs hc (by omega) (by omega) (by omega) (by omega) (wf a (by omega)) (wf b (by omega)) hR hP hQ
  rw [hp, hq] at h
  refine h.mono ?_
  rintro e w' ⟨B, D, c, d, u, v, err, rfl, _, _, hr, hr2, hb', hi⟩
  obtain ⟨rfl, h1, h2, h3, h4⟩ := two_ok hi h0 ha hb hab hp hq
  rw [h1, h2]
  exact ⟨B, D, c, d, u, v, rfl, h1, h2, hr, hr2, hb', h3, h4⟩
theorem set_sane {rows : List (List UInt8)} {a : Nat} {r : List UInt8} (hs : Sane rows) (hr : r.length = wide rows) : Sane (rows.set a r) := ⟨by rw [List.length_set]; exact hs.1, fun q hq => by
  rcases List.mem_or_eq_of_mem_set hq with k | rfl
  · exact hs.2 q k
  · rw [hr]; exact hs.head⟩
theorem set_four {rows : List (List UInt8)} {a b : Nat} (hab : a ≠ b) (r s u v : List UInt8) : (((rows.set a r).set b s).set a u).set b v = (rows.set a u).set b v := by
  rw [List.set_comm s u (Ne.symm hab), List.set_set, List.set_set]
/-- What is laid in a disk's place. -/
theorem rep_row {w V : World} {A : Option Addr} {n c g k : Nat} {x : UInt8} (hr : Reads w A ((List.replicate n x).map byt)) (hc : n ≤ c) (hn : n ≤ 140737488351232) (hg : ∀ a, A = some a → a.block ≠ g) (u : Value) : IsRow (w.setCell ⟨g, k, none⟩ u) (.slice A n c) (List.replicate n x) :=
  ⟨A, c, by rw [List.length_replicate], by rw [List.length_replicate]; exact hc, by rw [List.length_replicate]; omega, hr.off (fun a ha => hg a ha) u⟩
theorem row_off {w : World} {A : Option Addr} {n c g k : Nat} {x : UInt8} (h : IsRow w (.slice A n c) (List.replicate n x)) (hg : ∀ a, A = some a → a.block ≠ g) (u : Value) : IsRow (w.setCell ⟨g, k, none⟩ u) (.slice A n c) (List.replicate n x) := by
  obtain ⟨C, c', e, h1, h2, h3⟩ := h
  injection e with e1 e2 e3
  subst e1 e3
  exact ⟨A, c, by rw [List.length_replicate], h1, h2, h3.off (fun a ha => hg a ha) u⟩
set_option maxRecDepth 100000 in
set_option maxHeartbeats 4000000 in
theorem early (A : Option Addr) (rows : List (List UInt8)) (ca : Nat) (a b : Int) (x : UInt8) (W : World) (hs : Sane rows) (hc : rows.length ≤ ca) (hR : Rds W A rows) (h : wrongE rows ≠ 0 ∨ (wrongE rows = 0 ∧ (a < 0 ∨ b < 0 ∨ (rows.length : Int) ≤ a ∨ (rows.length : Int) ≤ b ∨ a = b))) :
    Calls Try.prog 5 #[.slice A rows.length ca, .int .i64 a, .int .i64 b, .int .u8 x.toNat] W (Law.Yes W) := by
  have h1 := alive_c make_c two_c W
  have H1 := Lib.hid h1
  rcases h with h | ⟨h, hb⟩
  · have h2 := fun k (hk : wrongE rows = k) V (hb : Below W.heap.size W V) => make_no A rows ca rows.length k rfl hs hc hk (by rw [← hk]; exact h) V (hR.below hb)
    have hk : wrongE rows = 1 ∨ wrongE rows = 2 := by rcases wrongE_012 rows with k | k | k; exact absurd k h; exact .inl k; exact .inr k
    rcases hk with hk | hk
    all_goals
      have H2 := Lib.hid (h2 _ hk)
      clear h1 h2 hk h hs hc hR
      generalize rows.length = l at *
      go_enter Try.func5, Try.ntmps5
      go_wp2_with fail
      refine H1.out.mono ?_
      rintro e w1 ⟨rfl, hb1⟩
      have B1 := Lib.hid hb1
      clear hb1
      go_wp2_with fail
      refine (H2.out w1 B1.out).mono ?_
      rintro e w2 ⟨A2, B2, c2, d2, rfl, _, _, _, _, hb2⟩
      have B2 := Lib.hid (B1.out.trans (hb2.mono B1.out.size))
      clear hb2
      go_wp2
      go_ret
      exact ⟨rfl, B2.out⟩
  · have h2 := fun V (hb : Below W.heap.size W V) => make_n A rows ca rows.length (wide rows) rfl rfl hs hc h V (hR.below hb)
    have H2 := Lib.hid h2
    clear h1 h2 h hs hc hR
    generalize rows.length = l at *
    generalize wide rows = n at *
    by_cases k0 : a < 0
    · clear hb
      go_enter Try.func5, Try.ntmps5
      go_wp2_with fail
      refine H1.out.mono ?_
      rintro e w1 ⟨rfl, hb1⟩
      have B1 := Lib.hid hb1
      clear hb1
      go_wp2_with fail
      refine (H2.out w1 B1.out).mono ?_
      rintro e w2 ⟨A2, B2, c2, d2, rfl, _, _, _, _, hb2⟩
      have B2 := Lib.hid (B1.out.trans (hb2.mono B1.out.size))
      clear hb2
      go_wp2
      go_ret
      exact ⟨rfl, B2.out⟩
    · by_cases k1 : b < 0
      · clear hb
        go_enter Try.func5, Try.ntmps5
        go_wp2_with fail
        refine H1.out.mono ?_
        rintro e w1 ⟨rfl, hb1⟩
        have B1 := Lib.hid hb1
        clear hb1
        go_wp2_with fail
        refine (H2.out w1 B1.out).mono ?_
        rintro e w2 ⟨A2, B2, c2, d2, rfl, _, _, _, _, hb2⟩
        have B2 := Lib.hid (B1.out.trans (hb2.mono B1.out.size))
        clear hb2
        go_wp2
        go_ret
        exact ⟨rfl, B2.out⟩
      · by_cases k2 : (l : Int) ≤ a
        · clear hb
          go_enter Try.func5, Try.ntmps5
          go_wp2_with fail
          refine H1.out.mono ?_
          rintro e w1 ⟨rfl, hb1⟩
          have B1 := Lib.hid hb1
          clear hb1
          go_wp2_with fail
          refine (H2.out w1 B1.out).mono ?_
          rintro e w2 ⟨A2, B2, c2, d2, rfl, _, _, _, _, hb2⟩
          have B2 := Lib.hid (B1.out.trans (hb2.mono B1.out.size))
          clear hb2
          go_wp2
          go_ret
          exact ⟨rfl, B2.out⟩
        · by_cases k3 : (l : Int) ≤ b
          · clear hb
            go_enter Try.func5, Try.ntmps5
            go_wp2_with fail
            refine H1.out.mono ?_
            rintro e w1 ⟨rfl, hb1⟩
            have B1 := Lib.hid hb1
            clear hb1
            go_wp2_with fail
            refine (H2.out w1 B1.out).mono ?_
            rintro e w2 ⟨A2, B2, c2, d2, rfl, _, _, _, _, hb2⟩
            have B2 := Lib.hid (B1.out.trans (hb2.mono B1.out.size))
            clear hb2
            go_wp2
            go_ret
            exact ⟨rfl, B2.out⟩
          · have k4 : a = b := by omega
            subst k4
            clear hb
            go_enter Try.func5, Try.ntmps5
            go_wp2_with fail
            refine H1.out.mono ?_
            rintro e w1 ⟨rfl, hb1⟩
            have B1 := Lib.hid hb1
            clear hb1
            go_wp2_with fail
            refine (H2.out w1 B1.out).mono ?_
            rintro e w2 ⟨A2, B2, c2, d2, rfl, _, _, _, _, hb2⟩
            have B2 := Lib.hid (B1.out.trans (hb2.mono B1.out.size))
            clear hb2
            go_wp2
            go_ret
            exact ⟨rfl, B2.out⟩
set_option maxRecDepth 100000 in
set_option maxHeartbeats 8000000 in
theorem main (A : Option Addr) (rows : List (List UInt8)) (ca a b : Nat) (x y : UInt8) (hy : y = x + 1) (W : World) (hs : Sane rows) (hc : rows.length ≤ ca) (hR : Rds W A rows) (h : wrongE rows = 0) (ha : a < rows.length) (hb : b < rows.length) (hab : a ≠ b) :
    Calls Try.prog 5 #[.slice A rows.length ca, .int .i64 a, .int .i64 b, .int .u8 x.toNat] W (Law.Yes W) := by
  have h1 := alive_c make_c two_c W
  have h2 := fun V (hb : Below W.heap.size W V) => make_n A rows ca rows.length (wide rows) rfl rfl hs hc h V (hR.below hb)
  obtain ⟨h0, hbig, hev⟩ := wrongE_ok h
  obtain ⟨us, hus, har⟩ := hR
  obtain ⟨r, hr⟩ : ∃ r, rows[a]? = some r := ⟨rows[a], List.getElem?_eq_getElem ha⟩
  obtain ⟨u0, hu⟩ : ∃ u, us[a]? = some u := ⟨us[a]'(by rw [har.1]; exact ha), List.getElem?_eq_getElem _⟩
  obtain ⟨C, c, rfl, hCc, _, hC⟩ := har.2 a u0 r hu hr
  obtain ⟨s, hsr⟩ : ∃ s, rows[b]? = some s := ⟨rows[b], List.getElem?_eq_getElem hb⟩
  obtain ⟨v0, hv⟩ : ∃ u, us[b]? = some u := ⟨us[b]'(by rw [har.1]; exact hb), List.getElem?_eq_getElem _⟩
  obtain ⟨D, d, rfl, hDd, _, hD⟩ := har.2 b v0 s hv hsr
  have hrl := even_len hev hr
  have hsl := even_len hev hsr
  have hn := hs.head
  have hxl : (List.replicate (wide rows) x).length = wide rows := List.length_replicate
  have hyl : (List.replicate (wide rows) y).length = wide rows := List.length_replicate
  have w1 := wrongE_set (a := a) h hxl
  have e1 := wide_set (rows := rows) (a := a) hxl
  have w2 := wrongE_set (a := b) w1 (hyl.trans e1.symm)
  have e2 := (wide_set (rows := rows.set a (List.replicate (wide rows) x)) (a := b) (hyl.trans e1.symm)).trans e1
  have s1 := set_sane (a := a) hs hxl
  have s2 := set_sane (a := b) s1 (hyl.trans e1.symm)
  have hf1 : ∀ o : List UInt8, o.length = wide rows → par 1 ((rows.set a (List.replicate (wide rows) x)).set a o) = par 1 rows → o = r := fun o ho he => by
    rw [List.set_set] at he
    exact one_unique hr hrl ho he
  have hf2 : ∀ u v : List UInt8, u.length = wide rows → v.length = wide rows → par 1 ((((rows.set a (List.replicate (wide rows) x)).set b (List.replicate (wide rows) y)).set a u).set b v) = par 1 rows → par 2 ((((rows.set a (List.replicate (wide rows) x)).set b (List.replicate (wide rows) y)).set a u).set b v) = par 2 rows → u = r ∧ v = s := fun u v hu hv p1 p2 => by
    rw [set_four hab] at p1 p2
    exact two_unique hab hr hsr hbig hrl hsl hu hv p1 p2
  have l1 := par_len 1 rows
  have l2 := par_len 2 rows
  have d1 : decide (rows.length ≤ a) = false := by simpa using ha
  have d2 : decide (rows.length ≤ b) = false := by simpa using hb
  have d3 : ((a : Int) == (b : Int)) = false := by rw [beq_eq_false_iff_ne]; omega
  have d4 : (a == b) = false := by rw [beq_eq_false_iff_ne]; exact hab
  have i1 : (a : Int) < (rows.length : Int) := by omega
  have i2 : (b : Int) < (rows.length : Int) := by omega
  have hyn : ((x.toNat : Int) + 1) % 256 = (y.toNat : Int) := by rw [hy, UInt8.toNat_add]; have := x.toNat_lt; simp
  have H1 := Lib.hid h1
  have H2 := Lib.hid h2
  have US := Lib.hid hus
  have AR := Lib.hid har
  have HU := Lib.hid hu
  have HV := Lib.hid hv
  have HC := Lib.hid hC
  have HD := Lib.hid hD
  have HRL := Lib.hid hrl
  have HSL := Lib.hid hsl
  have HN : Hid (wide rows ≤ 140737488351232) := Lib.hid hn
  have W1 := Lib.hid w1
  have E1 := Lib.hid e1
  have W2 := Lib.hid w2
  have E2 := Lib.hid e2
  have S1 := Lib.hid s1
  have S2 := Lib.hid s2
  have F1 := Lib.hid hf1
  have F2 := Lib.hid hf2
  have L1 := Lib.hid l1
  have L2 := Lib.hid l2
  have HYN := Lib.hid hyn
  have HUL := Lib.hid har.1
  have HSZ := Lib.hid hs.1
  have HAL := Lib.hid ha
  have HBL := Lib.hid hb
  have HAB := Lib.hid hab
  rw [hrl] at HU hCc
  rw [hsl] at HV hDd
  clear h1 h2 h hs hus har hu hv hC hD hev hn hxl hyl w1 e1 w2 e2 s1 s2 hf1 hf2 l1 l2 h0 hc hr hsr hrl hsl hyn hy ha hb hab
  generalize hl : rows.length = l at *
  have HL := Lib.hid hl
  generalize hnn : wide rows = n at *
  have HNN := Lib.hid hnn
  clear hl hnn
  go_enter Try.func5, Try.ntmps5
  go_wp2_with fail
  refine H1.out.mono ?_
  rintro e w1 ⟨rfl, hb1⟩
  have B1 := Lib.hid hb1
  clear hb1
  go_wp2_with fail
  refine (H2.out w1 B1.out).mono ?_
  rintro e w2 ⟨A2, B2, c2, d2', rfl, hc2, hd2, hx2, hy2, hb2⟩
  have K2 := Lib.hid (B1.out.trans (hb2.mono B1.out.size))
  have X2 := Lib.hid hx2
  have Y2 := Lib.hid hy2
  clear hx2 hy2 hb2 H1 H2
  go_wp2_with (at_builtin; refine wpList_append_cells rfl (.tmp 53) (.tmp 54) rfl rfl rfl HUL.out (rows_one AR.out) (US.out.below K2.out) HSZ.out (Below.refl w2.heap.size w2) (Nat.le_refl _) ?_; intro A3 c3 w3 hT3 hB3; obtain ⟨g3, rfl, hg3, hlt3, hc3, hf3, _⟩ := hT3.out.at_ HAL.out; have T3 := Lib.hid hT3.out; have K3 := Lib.hid (K2.out.trans (hB3.out.mono K2.out.size)); have S3 := Lib.hid hB3.out; clear hT3 hB3)
  clear hc3 hf3
  refine (repeat_c w3.heap.size x n HN.out _ (Own.new w3 [x])).mono ?_
  rintro e w4 ⟨A4, c4, rfl, hc4, hR4, hB4, hfr4⟩
  have hB34 : Below w3.heap.size w3 w4 := ((Below.refl _ _).alloc (Nat.le_refl _) (.cells #[byt x] 5)).trans (hB4.mono (by simp))
  have hne4 : ∀ ad, A4 = some ad → ad.block ≠ g3 := fun ad had e => by have h1 := hfr4 ad had; simp at h1; omega
  obtain ⟨g3', e3, _, _, hc4', hf4', hput⟩ := (T3.out.later hB34).at_ HAL.out
  injection e3 with e3
  injection e3 with e3
  subst e3
  rw [HU.out] at hc4'
  have hK5 := (K3.out.trans (hB34.mono K3.out.size)).setCell (p := ⟨g3, a, none⟩) (by show W.heap.size ≤ g3; have := K2.out.size; omega) (.slice A4 n c4)
  have hB25 := (S3.out.trans (hB34.mono S3.out.size)).setCell (p := ⟨g3, a, none⟩) hg3 (.slice A4 n c4)
  have hrow := rep_row (V := w4) (k := a) hR4 hc4 HN.out hne4 (.slice A4 n c4)
  have hT5 := hput (.slice A4 n c4)
  have hR5 := hT5.rds (AR.out.set hK5 hrow)
  have hon := one_n (some ⟨g3, 0, none⟩) A2 (rows.set a (List.replicate n x)) (par 1 rows) c3 c2 a l n _ (by rw [List.length_set]; exact HL.out) L1.out E1.out W1.out S1.out T3.out.le hc2 HN.out HAL.out hR5 (X2.out.below hB25)
  have K5 := Lib.hid hK5
  have T5 := Lib.hid hT5
  have B25 := Lib.hid hB25
  have ROW1 := Lib.hid hrow
  have NE4 := Lib.hid hne4
  have HON := Lib.hid hon
  have LE3 := Lib.hid T3.out.le
  have hsz5 : (w4.setCell ⟨g3, a, none⟩ (.slice A4 n c4)).heap.size = w4.heap.size := by simp
  have HSZ5 := Lib.hid hsz5
  have hlt4 : g3 < w4.heap.size := Nat.lt_of_lt_of_le hlt3 hB34.size
  clear hR4 hB4 hfr4 hB34 hne4 hput hK5 hB25 hrow hT5 hR5 hon T3 hsz5
  go_wp2_with fail
  refine HON.out.mono ?_
  rintro e w6 ⟨A6, c6, q, rfl, hc6, hql, hq, hb6, hpar, hfr6⟩
  obtain rfl := F1.out q hql hpar
  have K6 := Lib.hid (K5.out.trans (hb6.mono K5.out.size))
  have T6 := Lib.hid (T5.out.later hb6)
  have O6 := Lib.hid hq
  have ROW16 := Lib.hid (ROW1.out.below hb6)
  have B26 := Lib.hid (B25.out.trans (hb6.mono B25.out.size))
  have hlt6 : g3 < w6.heap.size := Nat.lt_of_lt_of_le hlt4 (by have := hb6.size; rw [HSZ5.out] at this; exact this)
  have NE6 := Lib.hid (show ∀ ad, A6 = some ad → ad.block ≠ g3 from fun ad had e => by have h1 := hfr6 ad had; rw [HSZ5.out] at h1; omega)
  clear hfr6 hql hq hb6 hpar T5 K5 B25 ROW1 HON hc4' hf4'
  go_wp2_with fail
  rw [HYN.out]
  refine (repeat_c w6.heap.size y n HN.out _ (Own.new w6 [y])).mono ?_
  rintro e w7 ⟨A7, c7, rfl, hc7, hR7, hB7, hfr7⟩
  have hB67 : Below w6.heap.size w6 w7 := ((Below.refl _ _).alloc (Nat.le_refl _) (.cells #[byt y] 5)).trans (hB7.mono (by simp))
  have hne7 : ∀ ad, A7 = some ad → ad.block ≠ g3 := fun ad had e => by have h1 := hfr7 ad had; simp at h1; omega
  obtain ⟨g3', e3, _, _, hc7', hf7', hput⟩ := (T6.out.later hB67).at_ HBL.out
  injection e3 with e3
  injection e3 with e3
  subst e3
  have hcv : ((us.set a (.slice A4 n c4))[b]?) = some (.slice D n d) := by rw [List.getElem?_set, if_neg HAB.out]; exact HV.out
  rw [hcv] at hc7'
  have hK8 := (K6.out.trans (hB67.mono K6.out.size)).setCell (p := ⟨g3, b, none⟩) (by show W.heap.size ≤ g3; have := K2.out.size; omega) (.slice A7 n c7)
  have hB28 := (B26.out.trans (hB67.mono B26.out.size)).setCell (p := ⟨g3, b, none⟩) hg3 (.slice A7 n c7)
  have hrow1 := row_off (k := b) (ROW16.out.below hB67) NE4.out (.slice A7 n c7)
  have hrow2 := rep_row (V := w7) (k := b) hR7 hc7 HN.out hne7 (.slice A7 n c7)
  have hT8 := hput (.slice A7 n c7)
  have hR8 := hT8.rds ((AR.out.set hK8 hrow1).set (Below.refl _ _) hrow2)
  have htw := two_n (some ⟨g3, 0, none⟩) A2 B2 ((rows.set a (List.replicate n x)).set b (List.replicate n y)) (par 1 rows) (par 2 rows) c3 c2 d2' a b l n _ (by rw [List.length_set, List.length_set]; exact HL.out) L1.out L2.out E2.out W2.out S2.out LE3.out hc2 hd2 HN.out HAL.out HBL.out HAB.out hR8 (X2.out.below hB28) (Y2.out.below hB28)
  have K8 := Lib.hid hK8
  have HTW := Lib.hid htw
  have O8 := Lib.hid ((O6.out.below hB67).off (p := ⟨g3, b, none⟩) NE6.out (.slice A7 n c7))
  clear hR7 hB7 hfr7 hB67 hne7 hput hcv hK8 hB28 hrow1 hrow2 hT8 hR8 htw T6 B26 ROW16 K6 X2 Y2
  go_wp2_with fail
  refine HTW.out.mono ?_
  rintro e w9 ⟨A9, B9, c9, d9, u, v, rfl, hul, hvl, hu9, hv9, hb9, p1, p2⟩
  obtain ⟨rfl, rfl⟩ := F2.out u v hul hvl p1 p2
  have K9 := Lib.hid (K8.out.trans (hb9.mono K8.out.size))
  have U9 := Lib.hid hu9
  have V9 := Lib.hid hv9
  have O9 := Lib.hid (O8.out.below hb9)
  obtain ⟨b0, o0, ea, hb0, cu⟩ := US.out a _ HU.out
  subst ea
  obtain ⟨b0', o0', ea, _, cv⟩ := US.out b _ HV.out
  injection ea with ea
  injection ea with ea1 ea2
  subst ea1 ea2
  have cu9 := (K9.out.cell (p := ⟨b0, o0 + a, none⟩) hb0).trans cu
  have cv9 := (K9.out.cell (p := ⟨b0, o0 + b, none⟩) hb0).trans cv
  clear hul hvl hu9 hv9 hb9 p1 p2 HTW cu cv O8 hc7' hf7' K8
  go_wp2_with fail
  refine (equal_n A9 C u u c9 c n n w9 HRL.out HRL.out U9.out (HC.out.below K9.out) rfl).mono ?_
  rintro e w' ⟨rfl, rfl⟩
  go_wp2_with fail
  refine (equal_n B9 D v v d9 d n n w9 HSL.out HSL.out V9.out (HD.out.below K9.out) rfl).mono ?_
  rintro e w' ⟨rfl, rfl⟩
  go_wp2_with fail
  refine (equal_n A6 C u u c6 c n n w9 HRL.out HRL.out O9.out (HC.out.below K9.out) rfl).mono ?_
  rintro e w' ⟨rfl, rfl⟩
  go_wp2
  go_ret
  exact ⟨rfl, K9.out⟩
theorem words (A : Option Addr) (rows : List (List UInt8)) (ca : Nat) (a b : Int) (x : UInt8) (W : World) (hs : Sane rows) (hc : rows.length ≤ ca) (hR : Rds W A rows) :
    Calls Try.prog 5 #[.slice A rows.length ca, .int .i64 a, .int .i64 b, .int .u8 x.toNat] W (Law.Yes W) := by
  by_cases h : wrongE rows = 0
  · by_cases hb : a < 0 ∨ b < 0 ∨ (rows.length : Int) ≤ a ∨ (rows.length : Int) ≤ b ∨ a = b
    · exact early A rows ca a b x W hs hc hR (.inr ⟨h, hb⟩)
    · obtain ⟨a, rfl⟩ : ∃ k : Nat, a = k := ⟨a.toNat, by omega⟩
      obtain ⟨b, rfl⟩ : ∃ k : Nat, b = k := ⟨b.toNat, by omega⟩
      exact main A rows ca a b x (x + 1) rfl W hs hc hR h (by omega) (by omega) (by omega)
  · exact early A rows ca a b x W hs hc hR (.inl h)
theorem walk {H : Type} {enc : TypeId × Value → H} {base : Nat} {W : World} {v0 : Value} {d0 : DataW H} {p0 : List MemPlace}
    (o0 : Value.okWide Try.prog W .any base 22 v0) (h0 : DataW.Trod enc Try.prog W 0 (fun _ => true) true 22 v0 d0 p0) (a1 : Int) (w1 : (Lit.int .i64 a1).wf = true) (a2 : Int) (w2 : (Lit.int .i64 a2).wf = true) (a3 : Int) (w3 : (Lit.int .u8 a3).wf = true)
    (hz : (DataW.weightsEach Try.prog [22, 3, 3, 5] [d0, .lit (.int .i64 a1), .lit (.int .i64 a2), .lit (.int .u8 a3)]).all (· ≤ reachBytes) = true) :
    Calls Try.prog 5 #[v0, .int .i64 a1, .int .i64 a2, .int .u8 a3] W (Law.Yes W) := by
  obtain ⟨A0, c0, l0, rfl, z0, k0, _, r0, s0⟩ := open_rowsZ Try.underlying22 Try.underlying23 Try.underlying5 (by kernel_rfl) (by kernel_rfl) (by kernel_rfl) (by kernel_rfl) o0 h0 hz (j := 0) rfl rfl
  obtain ⟨b, rfl⟩ := Words.of_wf8 w3
  exact words A0 l0 c0 a1 a2 b W ⟨z0, s0⟩ k0 r0
theorem own : ownKnob Try.prog.godebug = none := by kernel_rfl
theorem laid : laidOutB Try.prog = true := by kernel_rfl
theorem pars : ∀ t ∈ Try.f5.params.toList, Try.prog.readableRec t = true ∧ t < Try.prog.types.size := by
  have h : Try.f5.params.toList.all (fun t => Try.prog.readableRec t && decide (t < Try.prog.types.size)) = true := by kernel_rfl
  intro t ht; have := List.all_eq_true.1 h t ht; simpa using this
theorem calls (H : Type) (enc : TypeId × Value → H) (W : World) (base : Nat) (args : Array Value) (ds : List (DataW H)) (before : List MemPlace)
    (hval : ∀ (j : Nat) t v, Try.f5.params[j]? = some t → args[j]? = some v → Value.okWide Try.prog W .any base t v)
    (hA : DataW.TrodAll enc Try.prog W 0 (fun _ => true) true Try.f5.params.toList args.toList ds before) (hz : (DataW.weightsEach Try.prog Try.f5.params.toList ds).all (· ≤ reachBytes) = true) :
    Calls Try.prog 5 args W (Law.Yes W) := by
  rw [Try.params5] at hA hval hz
  obtain ⟨v0, vs0, d0, ds0, p0, q0, hargs, rfl, rfl, h0, r0⟩ := trodAll_cons hA
  obtain ⟨v1, vs1, d1, ds1, p1, q1, rfl, rfl, rfl, h1, r1⟩ := trodAll_cons r0
  obtain ⟨v2, vs2, d2, ds2, p2, q2, rfl, rfl, rfl, h2, r2⟩ := trodAll_cons r1
  obtain ⟨v3, vs3, d3, ds3, p3, q3, rfl, rfl, rfl, h3, r3⟩ := trodAll_cons r2
  obtain ⟨rfl, rfl, rfl⟩ := trodAll_nil r3
  obtain rfl : args = #[v0, v1, v2, v3] := by cases args; simp_all
  obtain ⟨a1, rfl, rfl, rfl, w1⟩ := open_int Try.underlying3 (hval 1 3 v1 rfl rfl) h1
  obtain ⟨a2, rfl, rfl, rfl, w2⟩ := open_int Try.underlying3 (hval 2 3 v2 rfl rfl) h2
  obtain ⟨a3, rfl, rfl, rfl, w3⟩ := open_int Try.underlying5 (hval 3 5 v3 rfl rfl) h3
  exact walk (W := W) (hval 0 22 v0 rfl rfl) h0 a1 w1 a2 w2 a3 w3 hz
theorem fnOf (H : Type) : ∀ ds : List (DataW H), ds.length = Try.f5.params.toList.length → Rows.pairTwoSpec.fn H ds = { results := [.lit (.bool true)], args := ds } := by
  intro ds h
  have h : ds.length = 4 := h
  obtain _ | ⟨x0, ds⟩ := ds
  · simp at h
  obtain _ | ⟨x1, ds⟩ := ds
  · simp at h
  obtain _ | ⟨x2, ds⟩ := ds
  · simp at h
  obtain _ | ⟨x3, ds⟩ := ds
  · simp at h
  obtain rfl : ds = [] := List.eq_nil_of_length_eq_zero (by simpa using h)
  rfl
set_option maxRecDepth 100000 in
theorem lifted (os : Os) (started : os.Started) (H : Type) (enc : TypeId × Value → H) :
    ReturnsInHanded {} Try.checked os 5 .any (Rows.pairTwoSpec.pre6 enc Try.prog Try.f5 Rows.pairTwoRow.domain false) (Rows.pairTwoSpec.post enc Try.prog Try.f5 false true false false) := by
  refine returnsInHanded_of_change_sized (C := Try.checked) own started (by kernel_rfl) Try.func5
    (ChangeSpec.witness6 (enc := enc) (C := Try.checked) false ⟨#[], #[.slice none 0 0, .int .i64 0, .int .i64 0, .int .u8 0], []⟩ 8 (by kernel_rfl) (by kernel_rfl) (by kernel_rfl) (by kernel_rfl)) ?_
  intro W base args ds gs before hval hW _ hz _
  obtain ⟨p, q, hA, hV, rfl, hfz, hnd⟩ := id hW
  obtain ⟨rfl, rfl⟩ := trodVars_none hV
  simp only [List.append_nil] at hz
  have hz2 : (DataW.weightsEach Try.prog Try.f5.params.toList ds).all (· ≤ reachBytes) = true := hz
  exact Law.ending (C := Try.checked) (s := Rows.pairTwoSpec) laid pars rfl Try.underlying4 rfl (fnOf H) hW (calls H enc W base args ds p hval hA hz2)
theorem over : Rows.pairTwoRow.holds Try.pinned (OpenSpec.ofChange Rows.pairTwoSpec) :=
  OpenClaim.holds_of_wide 5 Try.f5 rfl rfl rfl rfl rfl rfl rfl ⟨rfl, rfl, rfl, rfl, rfl⟩ rfl rfl rfl rfl rfl (by kernel_rfl) Try.func5 (by kernel_rfl)
    (of_decide_eq_true (by kernel_rfl)) (by unfold Func.isWrapper; first | (rw [if_pos (by decide +kernel)]; kernel_rfl) | (rw [if_neg (by decide +kernel)]; exact ⟨rfl, rfl⟩))
    (fun os started H enc _ => lifted os started H enc)
theorem proved : Rows.PairTwoSaid := over
end Go.Proofs.Ytpjopdemhdeelaa.pairTwo
