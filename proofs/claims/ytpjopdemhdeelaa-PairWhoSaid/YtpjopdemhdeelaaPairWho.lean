/-
  PairWho: for every slice of byte rows, all byte rows p and q and every integer at, the law PairWho answers true (package pair's Who answers as the document says), and its arguments read afterwards as before. No condition.
-/
import Derived.Test.YtpjopdemhdeelaaPairRefN
namespace Go.Proofs.Ytpjopdemhdeelaa.pairWho
open Go.ChangeShapes Go.WideShapes Go.ChangeAt Go.RowKit
open Gf Mem Poly Cdr Pair
set_option linter.unusedVariables false
attribute [local go_sem] xor8_nat

theorem byte_co {W : World} {A : Option Addr} {l : List UInt8} {k : Nat} (h : Reads W A (l.map byt)) (hk : k < l.length) : ∃ b o, A = some ⟨b, o, none⟩ ∧ b < W.heap.size ∧ W.cell? ⟨b, o + k, none⟩ = some (.int .u8 ((co l k).toNat : Int)) := by
  obtain ⟨b, o, x, h1, h2, h3⟩ := h.bytes hk
  exact ⟨b, o, h1, World.block_lt_of_cell? _ _ h3, by rw [co_of_some h2]; exact h3⟩
theorem ePut_k (A R : Option Addr) (rows : List (List UInt8)) (r : List UInt8) (ca cr l n k : Nat) (hll : rows.length = l) (hn : r.length = n) (hk : k < l) (hl : l ≤ 255) (hc : n ≤ cr) (hm : n ≤ 9223372036854775807) (W : World) (hR : Rds W A rows) (hr : Reads W R (r.map byt)) :
    Calls Try.prog 16 #[.slice A l ca, .int .i64 k, .slice R n cr] W (RowsN (rows.set k r) l W) := by
  have h := ePut_n A R rows r ca cr l n (k : Int) hll hn ⟨by omega, by omega⟩ hl hc hm W hR hr
  rwa [Int.toNat_natCast] at h
theorem clone_n2 (A : Option Addr) (r : List UInt8) (n c : Nat) (W : World) (hn : r.length = n) (hl : n ≤ 140737488351232) (hA : Reads W A (r.map byt)) :
    Calls Try.prog 18 #[.slice A n c] W fun e W' => ∃ (A' : Option Addr) (c' : Nat), e = .returned (.slice A' n c') ∧ n ≤ c' ∧ Mine W' W.heap.size A' r ∧ Below W.heap.size W W' := by
  subst hn; exact clone_c A r c W hl hA
theorem byte_ne {x y : UInt8} (h : x ≠ y) : ((x.toNat : Int) == (y.toNat : Int)) = false := by
  rw [beq_eq_false_iff_ne]; intro e; exact h (UInt8.toNat_inj.1 (by omega))
theorem byte_same {x y : UInt8} (h : x = y) : ((x.toNat : Int) == (y.toNat : Int)) = true := by subst h; exact beq_self_eq_true _
theorem xor8_zero {x y : UInt8} : xor8 x y = 0 ↔ x = y := ⟨fun h => xor_eq_zero h, fun h => by subst h; exact xor_self' _⟩
/-- What the reference's second sum is with disk i changed. -/
theorem who_sum {rows : List (List UInt8)} {i k : Nat} {r : List UInt8} (h : rows[i]? = some r) (hk : k < r.length) (s : UInt8) : sumAt 2 (rows.set i (r.set k (xor8 (co r k) s))) k = xor8 (sumAt 2 rows k) (mul (pow 2 i) s) := by
  rw [sum_set h]
  have : co (r.set k (xor8 (co r k) s)) k ^^^ co r k = s := by
    rw [co_of_some (x := xor8 (co r k) s) (by rw [List.getElem?_set, if_pos rfl, if_pos hk])]
    show co r k ^^^ s ^^^ co r k = s
    rw [UInt8.xor_comm, ← UInt8.xor_assoc, xor_self', zero_xor']
  rw [this]; rfl
theorem who_eq {t m q : UInt8} : xor8 t m = q ↔ m = xor8 t q := by
  constructor
  · intro h; rw [← h]; show m = t ^^^ (t ^^^ m); rw [← UInt8.xor_assoc, xor_self', zero_xor']
  · intro h; rw [h]; show t ^^^ (t ^^^ q) = q; rw [← UInt8.xor_assoc, xor_self', zero_xor']
/-- The number at which the search ends. -/
theorem finds_at {n : Nat} {dx dy : UInt8} {k err : Int} (hn : n ≤ 255) (hx : dx ≠ 0) (hy : dy ≠ 0) (h : Finds n dx dy k err) :
    ∃ i0, i0 ≤ n ∧ (∀ j, j < i0 → mul (pow 2 j) dx ≠ dy) ∧ (i0 < n → mul (pow 2 i0) dx = dy ∧ err = 0 ∧ k = i0) ∧ (i0 = n → err = 7 ∧ k = 0) := by
  rcases h with ⟨h, _⟩ | ⟨_, h, _⟩ | ⟨h, _⟩ | ⟨_, _, i, h1, h2, h3, h4⟩ | ⟨_, _, h1, h2, h3⟩
  · exact absurd h hx
  · exact absurd h hy
  · exact absurd h hx
  · exact ⟨i, by omega, fun j hj e => by have := finds_one hn (by omega) h1 hx (e.trans h2.symm); omega, fun _ => ⟨h2, h3, h4⟩, fun e => by omega⟩
  · exact ⟨n, Nat.le_refl _, h1, fun h => by omega, fun _ => ⟨h2, h3⟩⟩
section
variable (A P Q : Option Addr) (rows : List (List UInt8)) (p q : List UInt8) (ca cp cq : Nat) (at_ : Int) (W : World)
/-- What the arguments are. -/
structure Args : Prop where
  sane : Sane rows
  ca : rows.length ≤ ca
  pl : p.length ≤ 140737488351232
  cp : p.length ≤ cp
  ql : q.length ≤ 140737488351232
  cq : q.length ≤ cq
  wf : (Lit.int .i64 at_).wf = true
  rd : Rds W A rows
  rp : Reads W P (p.map byt)
  rq : Reads W Q (q.map byt)
end
set_option maxRecDepth 100000 in
set_option maxHeartbeats 4000000 in
theorem bad (k : Int) (hk : k = 1 ∨ k = 2) {A P Q : Option Addr} {rows : List (List UInt8)} {p q : List UInt8} {ca cp cq : Nat} {at_ : Int} {W : World} (G : Args A P Q rows p q ca cp cq at_ W) (h : wrongE rows = k) :
    Calls Try.prog 4 #[.slice A rows.length ca, .slice P p.length cp, .slice Q q.length cq, .int .i64 at_] W (Law.Yes W) := by
  have h1 := who_c A P Q rows p q ca cp cq at_ W G.sane G.ca G.pl G.cp G.ql G.cq G.wf G.rd G.rp G.rq
  have h2 := fun V (hb : Below W.heap.size W V) => eWrong_c A rows ca G.sane.1 V (G.rd.below hb)
  rw [h] at h2
  have hk0 : k ≠ 0 := by omega
  have ho : ∀ j err, WhoIs rows p q at_ j err → err = k ∧ j = 0 := fun j err ho => by
    rcases ho with ⟨_, h1, h2⟩ | ⟨h1, _⟩ | ⟨h1, _⟩ | ⟨h1, _⟩
    · exact ⟨h1.trans h, h2⟩
    all_goals exact absurd (h.symm.trans h1) hk0
  have H1 := Lib.hid h1
  have H2 := Lib.hid h2
  have HO := Lib.hid ho
  clear h1 h2 ho h G
  rcases hk with rfl | rfl
  all_goals
    clear hk0
    go_enter Try.func4, Try.ntmps4
    go_wp2_with fail
    refine H1.out.mono ?_
    rintro e w1 ⟨j, err, rfl, hB1, hi⟩
    obtain ⟨rfl, rfl⟩ := HO.out _ _ hi
    have K1 := Lib.hid hB1
    clear hB1 hi
    go_wp2_with fail
    refine (H2.out w1 K1.out).mono ?_
    rintro e w2 ⟨rfl, hd⟩
    have K2 := Lib.hid (K1.out.trans ((hd.below _).mono K1.out.size))
    clear hd
    go_wp2
    go_ret
    exact ⟨rfl, K2.out⟩
set_option maxRecDepth 100000 in
set_option maxHeartbeats 4000000 in
theorem early {A P Q : Option Addr} {rows : List (List UInt8)} {p q : List UInt8} {ca cp cq : Nat} {at_ : Int} {W : World} (G : Args A P Q rows p q ca cp cq at_ W) (h : wrongE rows = 0) (hn : ¬ (p.length = wide rows ∧ q.length = wide rows) ∨ (p.length = wide rows ∧ q.length = wide rows ∧ ¬ Lies (wide rows) at_)) :
    Calls Try.prog 4 #[.slice A rows.length ca, .slice P p.length cp, .slice Q q.length cq, .int .i64 at_] W (Law.Yes W) := by
  have h1 := who_c A P Q rows p q ca cp cq at_ W G.sane G.ca G.pl G.cp G.ql G.cq G.wf G.rd G.rp G.rq
  have h2 := fun V (hb : Below W.heap.size W V) => eWrong_c A rows ca G.sane.1 V (G.rd.below hb)
  rw [h] at h2
  obtain ⟨h0, hbig, hev⟩ := wrongE_ok h
  obtain ⟨b0, o0, C0, c0, rfl, cr, _⟩ := first_row G.rd h0
  have hb0 := World.block_lt_of_cell? _ _ cr
  have i0 : (0 : Int) < (rows.length : Int) := by omega
  have ho : ∀ j err, WhoIs rows p q at_ j err → j = 0 ∧ (¬ (p.length = wide rows ∧ q.length = wide rows) ∧ err = 1 ∨ p.length = wide rows ∧ q.length = wide rows ∧ ¬ Lies (wide rows) at_ ∧ err = 2) := fun j err ho => by
    rcases ho with ⟨h1, _⟩ | ⟨_, h1, h2, h3⟩ | ⟨_, h1, h2, h3, h4, h5⟩ | ⟨_, h1, h2, h3, _⟩
    · exact absurd h h1
    · exact ⟨h3, .inl ⟨h1, h2⟩⟩
    · exact ⟨h5, .inr ⟨h1, h2, h3, h4⟩⟩
    · rcases hn with hn | ⟨_, _, hn⟩
      · exact absurd ⟨h1, h2⟩ hn
      · exact absurd h3 hn
  have H1 := Lib.hid h1
  have H2 := Lib.hid h2
  have HO := Lib.hid ho
  clear h1 h2 ho h G hn hev hbig h0
  generalize rows.length = l at *
  generalize p.length = m at *
  generalize q.length = k at *
  generalize wide rows = n at *
  go_enter Try.func4, Try.ntmps4
  go_wp2_with fail
  refine H1.out.mono ?_
  rintro e w1 ⟨j, err, rfl, hB1, hi⟩
  have K1 := Lib.hid hB1
  obtain ⟨rfl, hj⟩ := HO.out _ _ hi
  have HJ := Lib.hid hj
  clear hB1 hi hj
  go_wp2_with fail
  refine (H2.out w1 K1.out).mono ?_
  rintro e w2 ⟨rfl, hd⟩
  have K2 := Lib.hid (K1.out.trans ((hd.below _).mono K1.out.size))
  have c2 : w2.cell? ⟨b0, o0, none⟩ = some (.slice C0 n c0) := (K2.out.cell (p := ⟨b0, o0, none⟩) hb0).trans cr
  clear hd cr H1 H2 HO
  rcases HJ.out with ⟨hi, rfl⟩ | ⟨hp, hq, hi, rfl⟩
  all_goals clear HJ
  · by_cases hp : m = n
    · have hq : ¬ k = n := fun h => hi ⟨hp, h⟩
      subst hp
      have b2 : ((k : Int) != (m : Int)) = true := by simp; omega
      clear hi hq
      go_wp2
      go_ret
      exact ⟨rfl, K2.out⟩
    · have b1 : ((m : Int) != (n : Int)) = true := by simp; omega
      clear hi hp
      go_wp2
      go_ret
      exact ⟨rfl, K2.out⟩
  · subst hq
    subst hp
    by_cases h1 : at_ < 0
    · clear hi
      go_wp2
      go_ret
      exact ⟨rfl, K2.out⟩
    · have h2 : (m : Int) ≤ at_ := by
        rcases Int.lt_or_le at_ m with h2 | h2
        · exact absurd ⟨by omega, h2⟩ hi
        · exact h2
      clear hi
      go_wp2
      go_ret
      exact ⟨rfl, K2.out⟩
set_option maxRecDepth 100000 in
set_option maxHeartbeats 8000000 in
theorem main {A P Q : Option Addr} {rows : List (List UInt8)} {p q : List UInt8} {ca cp cq i : Nat} {W : World} (G : Args A P Q rows p q ca cp cq (i : Int) W) (h : wrongE rows = 0) (hp : p.length = wide rows) (hq : q.length = wide rows) (hi : i < wide rows) :
    Calls Try.prog 4 #[.slice A rows.length ca, .slice P p.length cp, .slice Q q.length cq, .int .i64 i] W (Law.Yes W) := by
  have h1 := who_c A P Q rows p q ca cp cq i W G.sane G.ca G.pl G.cp G.ql G.cq G.wf G.rd G.rp G.rq
  have h2 := fun V (hb : Below W.heap.size W V) => eWrong_c A rows ca G.sane.1 V (G.rd.below hb)
  have h3 := fun V (hb : Below W.heap.size W V) => eMake_n A rows ca rows.length (wide rows) rfl rfl h G.sane.head V (G.rd.below hb)
  rw [h] at h2
  obtain ⟨h0, hbig, hev⟩ := wrongE_ok h
  obtain ⟨b0, o0, C0, c0, rfl, cr, _⟩ := first_row G.rd h0
  have hb0 := World.block_lt_of_cell? _ _ cr
  obtain ⟨bp, op, rfl, hbp, cx⟩ := byte_co G.rp (k := i) (by omega)
  obtain ⟨bq, oq, rfl, hbq, cy⟩ := byte_co G.rq (k := i) (by omega)
  have ho : ∀ j err, WhoIs rows p q i j err → Finds rows.length (xor8 (sumAt 1 rows i) (co p i)) (xor8 (sumAt 2 rows i) (co q i)) j err := fun j err ho => by
    rcases ho with ⟨h1, _⟩ | ⟨_, h1, _⟩ | ⟨_, _, _, h1, _⟩ | ⟨_, _, _, _, h1⟩
    · exact absurd h h1
    · exact absurd ⟨hp, hq⟩ h1
    · exact absurd ⟨by omega, by omega⟩ h1
    · rwa [Int.toNat_natCast] at h1
  have hc1 : co (par 1 rows) i = sumAt 1 rows i := co_par hi
  have hc2 : co (par 2 rows) i = sumAt 2 rows i := co_par hi
  have i0 : (0 : Int) < (rows.length : Int) := by omega
  have i1 : (i : Int) < (wide rows : Int) := by omega
  have H1 := Lib.hid h1
  have H2 := Lib.hid h2
  have H3 := Lib.hid h3
  have HO := Lib.hid ho
  have HR := Lib.hid G.rd
  have HE := Lib.hid h
  have C1 := Lib.hid hc1
  have C2 := Lib.hid hc2
  have HEV := Lib.hid (fun k r => @even_len rows hev k r)
  have HL := Lib.hid G.sane.head
  have L1 := Lib.hid (par_len 1 rows)
  have L2 := Lib.hid (par_len 2 rows)
  rw [hp, hq] at H1 ⊢
  clear h1 h2 h3 ho h G hev h0 hp hq hc1 hc2
  generalize hN : rows.length = l at *
  have HN := Lib.hid hN
  generalize hWd : wide rows = n at *
  have HW := Lib.hid hWd
  have HL2 : Hid (n ≤ 140737488351232) := Lib.hid (by rw [← HW.out]; exact HL.out)
  clear hN hWd HL
  generalize co p i = px at *
  generalize co q i = qx at *
  go_enter Try.func4, Try.ntmps4
  go_wp2_with fail
  refine H1.out.mono ?_
  rintro e w1 ⟨j, err, rfl, hB1, hw⟩
  have K1 := Lib.hid hB1
  have HF := Lib.hid (HO.out _ _ hw)
  clear hB1 hw
  go_wp2_with fail
  refine (H2.out w1 K1.out).mono ?_
  rintro e w2 ⟨rfl, hd⟩
  have K2 := Lib.hid (K1.out.trans ((hd.below _).mono K1.out.size))
  have c2 : w2.cell? ⟨b0, o0, none⟩ = some (.slice C0 n c0) := (K2.out.cell (p := ⟨b0, o0, none⟩) hb0).trans cr
  clear hd H1 H2 HO
  go_wp2_with fail
  refine (H3.out w2 K2.out).mono ?_
  rintro e w3 ⟨A3, B3, c3, d3, rfl, _, _, hx3, hy3, hB3⟩
  have K3 := Lib.hid (K2.out.trans (hB3.mono K2.out.size))
  obtain ⟨bx, ox, rfl, hbx, ex⟩ := byte_co hx3 (k := i) (by rw [L1.out]; exact hi)
  obtain ⟨by_, oy, rfl, hby, ey⟩ := byte_co hy3 (k := i) (by rw [L2.out]; exact hi)
  rw [C1.out] at ex
  rw [C2.out] at ey
  have cx3 : w3.cell? ⟨bp, op + i, none⟩ = some (.int .u8 (px.toNat : Int)) := (K3.out.cell (p := ⟨bp, op + i, none⟩) hbp).trans cx
  have cy3 : w3.cell? ⟨bq, oq + i, none⟩ = some (.int .u8 (qx.toNat : Int)) := (K3.out.cell (p := ⟨bq, oq + i, none⟩) hbq).trans cy
  clear hx3 hy3 hB3 c2 H3
  generalize hs : sumAt 1 rows i = s at *
  generalize ht : sumAt 2 rows i = t at *
  have HS := Lib.hid hs
  have HT := Lib.hid ht
  clear hs ht
  by_cases e1 : s = px
  · have f1 := byte_same e1
    by_cases e2 : t = qx
    · have f2 := byte_same e2
      have hj : err = 3 ∧ j = 0 := by
        rcases HF.out with ⟨_, _, h1, h2⟩ | ⟨h1, _⟩ | ⟨_, h1, _⟩ | ⟨h1, _⟩ | ⟨h1, _⟩
        · exact ⟨h1, h2⟩
        · exact absurd (xor8_zero.2 e1) h1
        · exact absurd (xor8_zero.2 e2) h1
        · exact absurd (xor8_zero.2 e1) h1
        · exact absurd (xor8_zero.2 e1) h1
      obtain ⟨rfl, rfl⟩ := hj
      clear e1 e2
      go_wp2_with fail
      go_quiet (fail)
      go_wp2
      go_ret
      exact ⟨rfl, below_drewN K3.out _⟩
    · have f2 := byte_ne e2
      have hj : err = 0 ∧ j = -2 := by
        rcases HF.out with ⟨_, h1, _⟩ | ⟨h1, _⟩ | ⟨_, _, h1, h2⟩ | ⟨h1, _⟩ | ⟨h1, _⟩
        · exact absurd (xor8_zero.1 h1) e2
        · exact absurd (xor8_zero.2 e1) h1
        · exact ⟨h1, h2⟩
        · exact absurd (xor8_zero.2 e1) h1
        · exact absurd (xor8_zero.2 e1) h1
      obtain ⟨rfl, rfl⟩ := hj
      clear e1 e2
      go_wp2_with fail
      go_quiet (fail)
      go_wp2
      go_ret
      exact ⟨rfl, below_drewN K3.out _⟩
  · have f1 := byte_ne e1
    by_cases e2 : t = qx
    · have f2 := byte_same e2
      have hj : err = 0 ∧ j = -1 := by
        rcases HF.out with ⟨h1, _⟩ | ⟨_, _, h1, h2⟩ | ⟨h1, _⟩ | ⟨_, h1, _⟩ | ⟨_, h1, _⟩
        · exact absurd (xor8_zero.1 h1) e1
        · exact ⟨h1, h2⟩
        · exact absurd (xor8_zero.1 h1) e1
        · exact absurd (xor8_zero.2 e2) h1
        · exact absurd (xor8_zero.2 e2) h1
      obtain ⟨rfl, rfl⟩ := hj
      clear e1 e2
      go_wp2_with fail
      go_quiet (fail)
      go_wp2
      go_ret
      exact ⟨rfl, below_drewN K3.out _⟩
    · have f2 := byte_ne e2
      obtain ⟨m, hm1, hm2, hm3, hm4⟩ := finds_at hbig (fun h => e1 (xor8_zero.1 h)) (fun h => e2 (xor8_zero.1 h)) HF.out
      have M2 := Lib.hid hm2
      have M3 := Lib.hid hm3
      have M4 := Lib.hid hm4
      clear e1 e2 HF hm2 hm3 hm4
      go_wp2_with fail
      go_quiet (fail)
      go_wp2
      go_loopw [115] (fun k wr => ∃ x : Nat, x ≤ m ∧ k = .int .i64 x ∧ Below w3.heap.size w3 wr) (fun k _ => m - (intOf k).toNat)
      case atStart => exact ⟨0, by omega, rfl, below_drewN (Below.refl _ _) _⟩
      case round =>
        obtain ⟨x, hx, rfl, hB⟩ := hrel
        obtain ⟨wo, rfl⟩ : ∃ w : World, w = wr := ⟨_, rfl⟩
        have HB := Lib.hid hB
        clear hB f1 f2
        by_cases hxl : x < l
        · obtain ⟨b', o', D, d, r, ea, er, cr', lr, lc, rr⟩ := (HR.out.below (K3.out.trans (HB.out.mono K3.out.size))).row (k := x) (by rw [HN.out]; exact hxl)
          injection ea with ea
          injection ea with ea1 ea2
          subst ea1 ea2
          have hrl := HEV.out x r er
          rw [hrl] at cr' lr
          have hcl := clone_n2 D r n d wo hrl HL2.out rr
          have HCL := Lib.hid hcl
          have ER := Lib.hid er
          have HRL := Lib.hid hrl
          have jx : (x : Int) < (l : Int) := by omega
          have cx4 : wo.cell? ⟨bp, op + i, none⟩ = some (.int .u8 (px.toNat : Int)) := (HB.out.cell (p := ⟨bp, op + i, none⟩) (Nat.lt_of_lt_of_le hbp K3.out.size)).trans cx3
          have cy4 : wo.cell? ⟨bq, oq + i, none⟩ = some (.int .u8 (qx.toNat : Int)) := (HB.out.cell (p := ⟨bq, oq + i, none⟩) (Nat.lt_of_lt_of_le hbq K3.out.size)).trans cy3
          have ex4 : wo.cell? ⟨bx, ox + i, none⟩ = some (.int .u8 (s.toNat : Int)) := (HB.out.cell (p := ⟨bx, ox + i, none⟩) hbx).trans ex
          have hso := HB.out.size
          have hwo := K3.out.size
          clear er hrl rr lc hcl
          go_wp2_with fail
          refine HCL.out.mono ?_
          rintro e w5 ⟨A5, c5, rfl, hc5, hM, hB5⟩
          obtain ⟨g5, z, rfl, hg5, hgl5, ez, cz, fz⟩ := hM.at_ (k := i) (by rw [HRL.out]; exact hi)
          have cx5 : w5.cell? ⟨bp, op + i, none⟩ = some (.int .u8 (px.toNat : Int)) := (hB5.cell (p := ⟨bp, op + i, none⟩) (by show bp < wo.heap.size; omega)).trans cx4
          have ex5 : w5.cell? ⟨bx, ox + i, none⟩ = some (.int .u8 (s.toNat : Int)) := (hB5.cell (p := ⟨bx, ox + i, none⟩) (by show bx < wo.heap.size; omega)).trans ex4
          have M5 := Lib.hid hM
          have B5 := Lib.hid hB5
          have EZ := Lib.hid ez
          clear cx4 ex4 hM hB5 ez
          go_wp2_with fail
          refine Mem.region_tail 14 (by kernel_rfl) (by kernel_rfl) ?_
          simp only [List.take_succ_cons, List.take_zero, List.drop_succ_cons, List.drop_zero]
          repeat still_step
          refine wpStill_nil ?_
          have B6 := Lib.hid (show Below wo.heap.size wo (w5.setCell ⟨g5, i, none⟩ (.int .u8 ((xor8 z (xor8 s px)).toNat : Int))).drew from below_drew (B5.out.setCell (p := ⟨g5, i, none⟩) hg5 _))
          have K6 := Lib.hid (K3.out.trans ((HB.out.trans (B6.out.mono HB.out.size)).mono K3.out.size))
          have M6 := Lib.hid (M5.out.put (g := g5) (k := i) rfl (xor8 z (xor8 s px))).drew
          have hrl6 : (r.set i (xor8 z (xor8 s px))).length = n := by rw [List.length_set]; exact HRL.out
          have hput := ePut_k (some ⟨b0, o0, none⟩) (some ⟨g5, 0, none⟩) rows (r.set i (xor8 z (xor8 s px))) ca c5 l n x HN.out hrl6 hxl hbig hc5 (by have := HL2.out; omega) _ (HR.out.below K6.out) M6.out.reads
          have hws := wrongE_set (a := x) HE.out (hrl6.trans HW.out.symm)
          have hwd := (wide_set (rows := rows) (a := x) (hrl6.trans HW.out.symm)).trans HW.out
          have hsum := who_sum ER.out (k := i) (by rw [HRL.out]; exact hi) (xor8 s px)
          rw [co_of_some EZ.out, HT.out] at hsum
          have HPUT := Lib.hid hput
          have HWS := Lib.hid hws
          have HWD := Lib.hid hwd
          have HSUM := Lib.hid hsum
          clear hput hws hwd hsum hrl6 cx5 ex5
          go_wp2_with fail
          refine HPUT.out.mono ?_
          rintro e w7 ⟨A7, c7, rfl, hc7, hR7, hB7⟩
          have B7 := Lib.hid (B6.out.trans (hB7.mono B6.out.size))
          have R7 := Lib.hid hR7
          clear hR7 hB7 HPUT M6 M5 B6 B5 K6
          go_wp2_with fail
          refine (eMake_n A7 _ c7 l n (by rw [List.length_set]; exact HN.out) HWD.out HWS.out HL2.out w7 R7.out).mono ?_
          rintro e w8 ⟨A8, B8, c8, d8, rfl, _, _, hx8, hy8, hB8⟩
          have B9 := Lib.hid (B7.out.trans (hB8.mono B7.out.size))
          obtain ⟨bz, oz, rfl, hbz, cz8⟩ := byte_co hy8 (k := i) (by rw [par_len, HWD.out]; exact hi)
          rw [co_par (by rw [HWD.out]; exact hi), HSUM.out] at cz8
          have cy8 : w8.cell? ⟨bq, oq + i, none⟩ = some (.int .u8 (qx.toNat : Int)) := (B9.out.cell (p := ⟨bq, oq + i, none⟩) (by show bq < wo.heap.size; omega)).trans cy4
          have B10 := Lib.hid (HB.out.trans (B9.out.mono HB.out.size))
          clear hx8 hy8 hB8 R7 B7 HSUM HWS HWD cz fz
          by_cases hxm : x < m
          · have f3 := byte_ne (x := xor8 t (mul (pow 2 x) (xor8 s px))) (y := qx) (fun h => M2.out x hxm (who_eq.1 h))
            clear M2 M3 M4
            go_wp2_with fail
            go_quiet (fail)
            go_wp2
            go_roundw
            case rel => exact ⟨x + 1, by omega, by go_num, below_drewN B10.out _⟩
            case measure => simp [intOf]; omega
          · obtain rfl : x = m := by omega
            obtain ⟨h1, rfl, rfl⟩ := M3.out hxl
            have f3 := byte_same (who_eq.2 h1)
            clear M2 M3 M4 h1
            go_wp2_with fail
            go_quiet (fail)
            go_wp2
            go_ret
            exact ⟨rfl, below_drewN (K3.out.trans (B10.out.mono K3.out.size)) _⟩
        · obtain rfl : x = l := by omega
          obtain ⟨rfl, rfl⟩ := M4.out (by omega)
          clear M2 M3 M4
          go_wp2
          go_ret
          exact ⟨rfl, K3.out.trans (HB.out.mono K3.out.size)⟩
theorem words {A P Q : Option Addr} {rows : List (List UInt8)} {p q : List UInt8} {ca cp cq : Nat} {at_ : Int} {W : World} (G : Args A P Q rows p q ca cp cq at_ W) :
    Calls Try.prog 4 #[.slice A rows.length ca, .slice P p.length cp, .slice Q q.length cq, .int .i64 at_] W (Law.Yes W) := by
  rcases wrongE_012 rows with h | h | h
  · by_cases hp : p.length = wide rows ∧ q.length = wide rows
    · by_cases hi : Lies (wide rows) at_
      · obtain ⟨i, rfl⟩ : ∃ i : Nat, at_ = i := ⟨at_.toNat, by have := hi.1; omega⟩
        exact main G h hp.1 hp.2 (by have := hi.2; omega)
      · exact early G h (.inr ⟨hp.1, hp.2, hi⟩)
    · exact early G h (.inl hp)
  · exact bad 1 (.inl rfl) G h
  · exact bad 2 (.inr rfl) G h
theorem walk {H : Type} {enc : TypeId × Value → H} {base : Nat} {W : World} {v0 v1 v2 : Value} {d0 d1 d2 : DataW H} {p0 p1 p2 : List MemPlace}
    (o0 : Value.okWide Try.prog W .any base 22 v0) (h0 : DataW.Trod enc Try.prog W 0 (fun _ => true) true 22 v0 d0 p0)
    (o1 : Value.okWide Try.prog W .any base 23 v1) (h1 : DataW.Trod enc Try.prog W 0 (fun _ => true) true 23 v1 d1 p1) (o2 : Value.okWide Try.prog W .any base 23 v2) (h2 : DataW.Trod enc Try.prog W 0 (fun _ => true) true 23 v2 d2 p2) (a3 : Int) (w3 : (Lit.int .i64 a3).wf = true)
    (hz : (DataW.weightsEach Try.prog [22, 23, 23, 3] [d0, d1, d2, .lit (.int .i64 a3)]).all (· ≤ reachBytes) = true) :
    Calls Try.prog 4 #[v0, v1, v2, .int .i64 a3] W (Law.Yes W) := by
  obtain ⟨A0, c0, l0, rfl, z0, k0, _, r0, s0⟩ := open_rowsZ Try.underlying22 Try.underlying23 Try.underlying5 (by kernel_rfl) (by kernel_rfl) (by kernel_rfl) (by kernel_rfl) o0 h0 hz (j := 0) rfl rfl
  obtain ⟨A1, c1, l1, rfl, z1, r1, k1, _⟩ := open_bytesZ Try.underlying23 Try.underlying5 (by kernel_rfl) (by kernel_rfl) o1 h1 hz (j := 1) rfl rfl
  obtain ⟨A2, c2, l2, rfl, z2, r2, k2, _⟩ := open_bytesZ Try.underlying23 Try.underlying5 (by kernel_rfl) (by kernel_rfl) o2 h2 hz (j := 2) rfl rfl
  exact words ⟨⟨z0, s0⟩, k0, z1, k1, z2, k2, w3, r0, r1, r2⟩
theorem own : ownKnob Try.prog.godebug = none := by kernel_rfl
theorem laid : laidOutB Try.prog = true := by kernel_rfl
theorem pars : ∀ t ∈ Try.f4.params.toList, Try.prog.readableRec t = true ∧ t < Try.prog.types.size := by
  have h : Try.f4.params.toList.all (fun t => Try.prog.readableRec t && decide (t < Try.prog.types.size)) = true := by kernel_rfl
  intro t ht; have := List.all_eq_true.1 h t ht; simpa using this
theorem calls (H : Type) (enc : TypeId × Value → H) (W : World) (base : Nat) (args : Array Value) (ds : List (DataW H)) (before : List MemPlace)
    (hval : ∀ (j : Nat) t v, Try.f4.params[j]? = some t → args[j]? = some v → Value.okWide Try.prog W .any base t v)
    (hA : DataW.TrodAll enc Try.prog W 0 (fun _ => true) true Try.f4.params.toList args.toList ds before) (hz : (DataW.weightsEach Try.prog Try.f4.params.toList ds).all (· ≤ reachBytes) = true) :
    Calls Try.prog 4 args W (Law.Yes W) := by
  rw [Try.params4] at hA hval hz
  obtain ⟨v0, vs0, d0, ds0, p0, q0, hargs, rfl, rfl, h0, r0⟩ := trodAll_cons hA
  obtain ⟨v1, vs1, d1, ds1, p1, q1, rfl, rfl, rfl, h1, r1⟩ := trodAll_cons r0
  obtain ⟨v2, vs2, d2, ds2, p2, q2, rfl, rfl, rfl, h2, r2⟩ := trodAll_cons r1
  obtain ⟨v3, vs3, d3, ds3, p3, q3, rfl, rfl, rfl, h3, r3⟩ := trodAll_cons r2
  obtain ⟨rfl, rfl, rfl⟩ := trodAll_nil r3
  obtain rfl : args = #[v0, v1, v2, v3] := by cases args; simp_all
  obtain ⟨a3, rfl, rfl, rfl, w3⟩ := open_int Try.underlying3 (hval 3 3 v3 rfl rfl) h3
  exact walk (W := W) (hval 0 22 v0 rfl rfl) h0 (hval 1 23 v1 rfl rfl) h1 (hval 2 23 v2 rfl rfl) h2 a3 w3 hz
theorem fnOf (H : Type) : ∀ ds : List (DataW H), ds.length = Try.f4.params.toList.length → Rows.pairWhoSpec.fn H ds = { results := [.lit (.bool true)], args := ds } := by
  intro ds h
  have h : ds.length = 4 := h
  obtain _ | ⟨x0, ds⟩ := ds
  · simp at h
  obtain _ | ⟨x1, ds⟩ := ds
  · simp at h
  obtain _ | ⟨x2, ds⟩ := ds
  · simp at h
  obtain _ | ⟨x3, ds⟩ := ds
  · simp at h
  obtain rfl : ds = [] := List.eq_nil_of_length_eq_zero (by simpa using h)
  rfl
set_option maxRecDepth 100000 in
theorem lifted (os : Os) (started : os.Started) (H : Type) (enc : TypeId × Value → H) :
    ReturnsInHanded {} Try.checked os 4 .any (Rows.pairWhoSpec.pre6 enc Try.prog Try.f4 Rows.pairWhoRow.domain false) (Rows.pairWhoSpec.post enc Try.prog Try.f4 false true false false) := by
  refine returnsInHanded_of_change_sized (C := Try.checked) own started (by kernel_rfl) Try.func4
    (ChangeSpec.witness6 (enc := enc) (C := Try.checked) false ⟨#[], #[.slice none 0 0, .slice none 0 0, .slice none 0 0, .int .i64 0], []⟩ 8 (by kernel_rfl) (by kernel_rfl) (by kernel_rfl) (by kernel_rfl)) ?_
  intro W base args ds gs before hval hW _ hz _
  obtain ⟨p, q, hA, hV, rfl, hfz, hnd⟩ := id hW
  obtain ⟨rfl, rfl⟩ := trodVars_none hV
  simp only [List.append_nil] at hz
  have hz2 : (DataW.weightsEach Try.prog Try.f4.params.toList ds).all (· ≤ reachBytes) = true := hz
  exact Law.ending (C := Try.checked) (s := Rows.pairWhoSpec) laid pars rfl Try.underlying4 rfl (fnOf H) hW (calls H enc W base args ds p hval hA hz2)
theorem over : Rows.pairWhoRow.holds Try.pinned (OpenSpec.ofChange Rows.pairWhoSpec) :=
  OpenClaim.holds_of_wide 4 Try.f4 rfl rfl rfl rfl rfl rfl rfl ⟨rfl, rfl, rfl, rfl, rfl⟩ rfl rfl rfl rfl rfl (by kernel_rfl) Try.func4 (by kernel_rfl)
    (of_decide_eq_true (by kernel_rfl)) (by unfold Func.isWrapper; first | (rw [if_pos (by decide +kernel)]; kernel_rfl) | (rw [if_neg (by decide +kernel)]; exact ⟨rfl, rfl⟩))
    (fun os started H enc _ => lifted os started H enc)
theorem proved : Rows.PairWhoSaid := over
end Go.Proofs.Ytpjopdemhdeelaa.pairWho
