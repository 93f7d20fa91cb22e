/-
  CoderSum: for all slices of byte rows a and b and every integer more, the law CoderSum answers true (of rows that are sums what is added is the sum), and its arguments read afterwards as before. No condition.
-/
import Derived.Test.YtomhcjnhhdbhjaaCoderAlive
import Derived.Test.YtomhcjnhhdbhjaaCoderRt
import Derived.Test.YtomhcjnhhdbhjaaLaw
import Derived.Test.YtomhcjnhhdbhjaaInts
import Derived.Test.YtomhcjnhhdbhjaaSumPure
import Derived.Test.YtomhcjnhhdbhjaaClone
namespace Go.Proofs.Ytomhcjnhhdbhjaa.coderSum
open Go.ChangeShapes Go.WideShapes Go.ChangeAt Go.RowKit
open Gf Mem Poly Cdr
set_option linter.unusedVariables false

def xto (a b : List (List UInt8)) (k : Nat) : List (List UInt8) := (xrows a b).take k
theorem xto_len {a b : List (List UInt8)} {k : Nat} (h : a.length ≤ b.length) (hk : k ≤ a.length) : (xto a b k).length = k := Poly.take_len (by rw [xrows_len h]; exact hk)
theorem xto_next {a b : List (List UInt8)} {k : Nat} {p q : List UInt8} (hp : a[k]? = some p) (hq : b[k]? = some q) : xto a b (k + 1) = xto a b k ++ [xr p q] := Poly.take_next (xrows_at hp hq)
/-- The first j places are summed. -/
def part (p q : List UInt8) (j : Nat) : List UInt8 := (xr p q).take j ++ p.drop j
theorem part_zero (p q : List UInt8) : part p q 0 = p := by simp [part]
theorem part_len {p q : List UInt8} (h : p.length ≤ q.length) {j : Nat} (hj : j ≤ p.length) : (part p q j).length = p.length := by
  unfold part; rw [List.length_append, Poly.take_len (by rw [xr_len h]; exact hj), List.length_drop]; omega
theorem part_at {p q : List UInt8} (h : p.length ≤ q.length) {j : Nat} (hj : j ≤ p.length) : (part p q j)[j]? = p[j]? := by
  have hl : ((xr p q).take j).length = j := Poly.take_len (by rw [xr_len h]; exact hj)
  unfold part; rw [List.getElem?_append_right (by omega), hl, List.getElem?_drop]; simp
theorem part_next {p q : List UInt8} (h : p.length ≤ q.length) {j : Nat} {x y : UInt8} (hx : p[j]? = some x) (hy : q[j]? = some y) : (part p q j).set j (x ^^^ y) = part p q (j + 1) := by
  have hj := (List.getElem?_eq_some_iff.1 hx).1
  have hl : ((xr p q).take j).length = j := Poly.take_len (by rw [xr_len h]; omega)
  unfold part
  rw [List.set_append_right _ _ (by omega), hl, Nat.sub_self, Poly.take_next (xr_at hx hy), List.append_assoc]
  congr 1
  rw [List.drop_eq_getElem_cons hj]
  rfl
theorem part_all {p q : List UInt8} (h : p.length ≤ q.length) : part p q p.length = xr p q := by
  unfold part; rw [List.drop_length, List.append_nil, List.take_of_length_le (by rw [xr_len h]; exact Nat.le_refl _)]
set_option maxRecDepth 100000 in
set_option maxHeartbeats 4000000 in
theorem sum_c (A B : Option Addr) (a b : List (List UInt8)) (ca cb : Nat) (W : World) (hl : a.length ≤ b.length) (hs : Sane a) (hq : ∀ (i : Nat) (p q : List UInt8), a[i]? = some p → b[i]? = some q → p.length ≤ q.length) (hA : Rds W A a) (hB : Rds W B b) :
    Calls Try.prog 18 #[.slice A a.length ca, .slice B b.length cb] W fun e W' => ∃ (A' : Option Addr) (c' : Nat), e = .returned (.slice A' a.length c') ∧ a.length ≤ c' ∧ Rds W' A' (xrows a b) ∧ Below W.heap.size W W' := by
  have HA := Lib.hid hA
  have HB := Lib.hid hB
  have HL := Lib.hid hl
  have HS := Lib.hid hs
  have HQ := Lib.hid hq
  clear hA hB hq hs hl
  generalize hN : a.length = n at *
  generalize hM : b.length = m at *
  have HN := Lib.hid hN
  have HM := Lib.hid hM
  clear hN hM
  go_enter Try.func18, Try.ntmps18
  go_wp2
  go_loopw [5, 11] (fun s i wr => ∃ (k : Nat) (A2 : Option Addr) (c2 : Nat), k ≤ n ∧ i = .int .i64 k ∧ s = .slice A2 k c2 ∧ Table wr W.heap.size s (xto a b k) ∧ Below W.heap.size W wr) (fun _ i _ => n - (intOf i).toNat)
  case atStart => exact ⟨0, none, 0, by omega, rfl, rfl, Table.nil _ _, Below.refl _ _⟩
  case round =>
    obtain ⟨k, A2, c2, hk, rfl, rfl, hT, hB⟩ := hrel
    obtain ⟨wo, rfl⟩ : ∃ wo : World, wo = wr := ⟨_, rfl⟩
    have HT := Lib.hid hT
    have HBw := Lib.hid hB
    clear hT hB
    by_cases hlt : k < n
    · have HLT := Lib.hid hlt
      obtain ⟨b1, o1, C, c, r, rfl, er, cr, lr, lc, rr⟩ := (HA.out.below HBw.out).row (k := k) (by rw [HN.out]; exact hlt)
      obtain ⟨b2, o2, C0, c0, r0, rfl, er0, cr0, lr0, lc0, rr0⟩ := (HB.out.below HBw.out).row (k := k) (by rw [HM.out]; exact Nat.lt_of_lt_of_le hlt HL.out)
      have h140 := HS.out.2 r (List.mem_of_getElem? er)
      have hrr0 := HQ.out k r r0 er er0
      have CL := Lib.hid (clone_c C r c wo h140 rr)
      have ER := Lib.hid er
      have ER0 := Lib.hid er0
      have CR0 := Lib.hid cr0
      have RR0 := Lib.hid rr0
      have hkm : k < m := Nat.lt_of_lt_of_le hlt HL.out
      clear er er0 rr rr0 lr lr0 cr0
      go_wp2_with fail
      refine CL.out.mono ?_
      rintro e w2 ⟨A3, c3, rfl, hc3, hM3, hB3⟩
      have M3 := Lib.hid hM3
      have B3 := Lib.hid hB3
      clear hM3 hB3 CL
      go_wp2
      go_loopw [21] (fun i wv => ∃ j : Nat, j ≤ r.length ∧ i = .int .i64 j ∧ Mine wv wo.heap.size A3 (part r r0 j) ∧ Below wo.heap.size wo wv) (fun i _ => r.length - (intOf i).toNat)
      case atStart => exact ⟨0, by omega, rfl, by rw [part_zero]; exact M3.out, B3.out⟩
      case round =>
        obtain ⟨j, hj, rfl, hM, hBv⟩ := hrel
        by_cases hj2 : j < r.length
        · obtain ⟨g, z, rfl, hg, hgl, ez, cz, fz⟩ := hM.at_ (k := j) (by rw [part_len hrr0 (by omega)]; exact hj2)
          rw [part_at hrr0 (by omega)] at ez
          obtain ⟨b3, o3, y, rfl, ey, cy⟩ := (RR0.out.below hBv).bytes (k := j) (by omega)
          have cq := (World.cell?_of_block (a := ⟨b2, o2 + k, none⟩) (hBv.block b2 (World.block_lt_of_cell? _ _ CR0.out))).trans CR0.out
          have hput := fun x => hM.put (g := g) (k := j) rfl x
          have NX := Lib.hid (part_next hrr0 ez ey)
          have HP := Lib.hid hput
          have HV := Lib.hid hBv
          have hj3 : j < r0.length := by omega
          clear hM hput hBv ez ey
          go_wp2
          go_region
          go_wp2
          go_roundw
          case rel => exact ⟨j + 1, by omega, by go_num, by rw [xor8_nat, ← NX.out]; exact (HP.out (xor8 z y)).drew, below_drew (HV.out.setCell (p := ⟨g, j, none⟩) hg _)⟩
          case measure => simp [intOf]; omega
        · obtain rfl : j = r.length := by omega
          rw [part_all hrr0] at hM
          have hM' := Lib.hid hM
          have HV := Lib.hid hBv
          clear hM hBv
          have FAR : ∀ g, (Value.slice A2 k c2).ownBlock = some g → g < wo.heap.size := fun g hg => (HT.out.lt g hg).2
          have HO := Lib.hid (show RowOff wr (Value.slice A2 k c2).ownBlock (.slice A3 r.length c3) (xr r r0) from by
            refine ⟨A3, c3, by rw [xr_len hrr0], by rw [xr_len hrr0]; exact hc3, by rw [xr_len hrr0]; omega, hM'.out.reads, fun hne a ha => ⟨fun e => ?_, reads_lt hM'.out.reads hne a ha⟩⟩
            rcases hM'.out with h | ⟨g, cs, h1, h2, _⟩
            · exact hne h
            · rw [ha] at h1; injection h1 with h1; subst h1
              have := FAR g e.symm
              omega)
          have HTw := Lib.hid (HT.out.later HV.out)
          go_wp2_with (at_builtin; refine wpList_append_row rfl (.tmp 38) (.tmp 40) rfl rfl rfl HTw.out HO.out ?c3 (Nat.le_trans HBw.out.size HV.out.size) (HBw.out.trans (HV.out.mono HBw.out.size)) (Nat.le_refl _) ?_)
          case c3 => rw [xto_len (by rw [HN.out, HM.out]; exact HL.out) (by rw [HN.out]; exact hk)]; have := HS.out.1; rw [HN.out] at this; omega
          intro v' w5 hT5 hB5
          obtain ⟨A5, c5, hv, _, _⟩ := hT5.out.form
          rw [← xto_next ER.out ER0.out, xto_len (by rw [HN.out, HM.out]; exact HL.out) (by rw [HN.out]; exact hlt)] at hv
          subst hv
          have HT5 := Lib.hid (show Table w5 W.heap.size (.slice A5 (k + 1) c5) (xto a b (k + 1)) by have := hT5.out; rwa [← xto_next ER.out ER0.out] at this)
          have HB5 := Lib.hid hB5
          clear hT5 hB5
          have hn9 := HS.out.1
          rw [HN.out] at hn9
          have hlt9 := HLT.out
          go_wp2
          go_roundw
          case rel => exact ⟨k + 1, A5, c5, HLT.out, by go_num, rfl, HT5.out, HB5.out⟩
          case measure => have := HLT.out; simp [intOf]; omega
    · obtain rfl : k = n := by omega
      have hE : xto a b k = xrows a b := by rw [← HN.out]; exact List.take_of_length_le (by rw [xrows_len (by rw [HN.out, HM.out]; exact HL.out)]; exact Nat.le_refl _)
      have HE := Lib.hid hE
      clear hE
      obtain ⟨A4, c4, he, hcc, _⟩ := HT.out.form
      rw [HE.out, xrows_len (by rw [HN.out, HM.out]; exact HL.out), HN.out] at he hcc
      injection he with he1 _ he
      subst he he1
      go_wp2
      go_ret
      exact ⟨_, _, rfl, hcc, by have := HT.out.rds; rwa [HE.out] at this, HBw.out⟩

set_option maxRecDepth 100000 in
set_option maxHeartbeats 400000 in
theorem main (hMore : MoreSpec) (hBack : BackSpec) (A B : Option Addr) (a b : List (List UInt8)) (ca cb : Nat) (m : Int) (W : World) (hsa : Sane a) (hsb : Sane b) (wm : (Lit.int .i64 m).wf = true) (hA : Rds W A a) (hB : Rds W B b) :
    Calls Try.prog 7 #[.slice A a.length ca, .slice B b.length cb, .int .i64 m] W (Law.Yes W) := by
  have h1 := alive_c hMore hBack W
  have h2 := fun V (h : Rds V A a) => hMore A a ca m V hsa wm h
  have h3 := fun V (h : Rds V B b) => hMore B b cb m V hsb wm h
  have H1 := Lib.hid h1
  have H2 := Lib.hid h2
  have H3 := Lib.hid h3
  have HA := Lib.hid hA
  have HB := Lib.hid hB
  have HSA := Lib.hid hsa
  have HSB := Lib.hid hsb
  have HM := Lib.hid hMore
  clear h1 h2 h3 hA hB hsa hsb hMore hBack
  go_enter Try.func7, Try.ntmps7
  go_wp2_with fail
  refine H1.out.mono ?_
  rintro e w1 ⟨rfl, hb1⟩
  have B1 := Lib.hid hb1
  clear hb1
  go_wp2_with fail
  refine (H2.out w1 (HA.out.below B1.out)).mono ?_
  rintro e w2 ⟨A2, c2, x, e2, rfl, hc2, hR2, hB2, hP2⟩
  have R2 := Lib.hid hR2
  have B2 := Lib.hid (B1.out.trans (hB2.mono B1.out.size))
  have P2 := Lib.hid hP2
  clear hR2 hB2 hP2
  go_wp2_with fail
  refine (H3.out w2 (HB.out.below B2.out)).mono ?_
  rintro e w3 ⟨A3, c3, y, e3, rfl, hc3, hR3, hB3, hP3⟩
  have R23 := Lib.hid (R2.out.below hB3)
  have R3 := Lib.hid hR3
  have B3 := Lib.hid (B2.out.trans (hB3.mono B2.out.size))
  have P3 := Lib.hid hP3
  clear hR3 hB3 hP3 R2
  have d2 := P2.out
  rcases d2 with ⟨_, rfl, _⟩ | ⟨_, _, rfl, _⟩ | ⟨hb2, hea, rfl, had2⟩
  · go_wp2_with fail
    go_quiet (fail)
    go_wp2
    go_ret
    exact ⟨rfl, below_drewN B3.out _⟩
  · go_wp2_with fail
    go_quiet (fail)
    go_wp2
    go_ret
    exact ⟨rfl, below_drewN B3.out _⟩
  · have d3 := P3.out
    rcases d3 with ⟨_, rfl, _⟩ | ⟨_, _, rfl, _⟩ | ⟨hb3, heb, rfl, had3⟩
    · go_wp2_with fail
      go_quiet (fail)
      go_wp2
      go_ret
      exact ⟨rfl, below_drewN B3.out _⟩
    · go_wp2_with fail
      go_quiet (fail)
      go_wp2
      go_ret
      exact ⟨rfl, below_drewN B3.out _⟩
    · have hpos : 0 < a.length := by unfold badMore at hb2; omega
      have hposb : 0 < b.length := by unfold badMore at hb3; omega
      obtain ⟨m', rfl⟩ : ∃ k : Nat, m = k := ⟨m.toNat, by unfold badMore at hb2; omega⟩
      have hm100 : m' ≤ 100 := by unfold badMore at hb2; omega
      have hn100 : a.length ≤ 100 := by unfold badMore at hb2; omega
      rw [Int.toNat_natCast] at had2 had3
      obtain ⟨b1, o1, C, c, r, rfl, er, cr, lr, lc, rr⟩ := (HA.out.below B3.out).row (k := 0) hpos
      obtain ⟨b2, o2, C0, c0, r0, rfl, er0, cr0, lr0, lc0, rr0⟩ := (HB.out.below B3.out).row (k := 0) hposb
      rw [Nat.add_zero] at cr cr0
      by_cases hlen : a.length = b.length
      · by_cases hhead : r.length = r0.length
        · have hal : Shaped a b := ⟨hpos, hlen, hea, heb, by
            rw [head_at hpos] at er; rw [head_at hposb] at er0
            injection er with er; injection er0 with er0
            rw [er, er0]; exact hhead⟩
          have hrh : (a.headD []).length = r.length := by rw [head_at hpos] at er; injection er with er; rw [er]
          have AL := Lib.hid hal
          have AD2 := Lib.hid had2
          have AD3 := Lib.hid had3
          have NB := Lib.hid hb2
          have CR := Lib.hid cr
          have HR0 := Lib.hid hrh
          have lx : x.length = m' := had2.1
          have ly : y.length = m' := had3.1
          have t1 : ((r.length : Int) == (r0.length : Int)) = true := by rw [hhead]; exact beq_self_eq_true _
          clear hal had2 had3 hb2 hb3 hea heb rr rr0 er er0 hrh
          rw [← hlen, lx, ly]
          have HLN := Lib.hid hlen
          have LX := Lib.hid lx
          have LY := Lib.hid ly
          clear hlen lx ly
          go_wp2_with fail
          go_quiet (fail)
          go_wp2
          go_loopw [65] (fun i wr => ∃ k : Nat, k ≤ m' ∧ i = .int .i64 k ∧ Drawn w3 wr) (fun i _ => m' - (intOf i).toNat)
          case atStart => exact ⟨0, by omega, rfl, (Drawn.refl _).more _⟩
          case round =>
            obtain ⟨k, hk, rfl, hd⟩ := hrel
            have HD := Lib.hid hd
            clear hd
            by_cases hlt : k < m'
            · obtain ⟨b3, o3, D, d, q, rfl, eq, cq, lq, ld, qq⟩ := (R23.out.drawn HD.out).row (k := k) (by rw [LX.out]; exact hlt)
              obtain ⟨b4, o4, D0, d0, q0, rfl, eq0, cq0, lq0, ld0, qq0⟩ := (R3.out.drawn HD.out).row (k := k) (by rw [LY.out]; exact hlt)
              have cr' := (World.cell?_of_block (a := ⟨b1, o1, none⟩) (((HD.out.below w3.heap.size).block b1 (World.block_lt_of_cell? _ _ CR.out)))).trans CR.out
              have l1 : q.length = r.length := ((AD2.out.2 k q eq).1).trans HR0.out
              have l2 : q0.length = r.length := ((AD3.out.2 k q0 eq0).1).trans (AL.out.head.symm.trans HR0.out)
              rw [l1] at cq
              rw [l2] at cq0
              clear eq eq0 qq qq0 l1 l2 lq lq0
              go_wp2
              go_quiet (fail)
              go_wp2
              go_roundw
              case rel => exact ⟨k + 1, by omega, by go_num, HD.out.more _⟩
              case measure => simp [intOf]; omega
            · obtain rfl : k = m' := by omega
              have hBw : Below W.heap.size W wr := B3.out.trans ((HD.out.below _).mono B3.out.size)
              have su := sum_c (some ⟨b1, o1, none⟩) (some ⟨b2, o2, none⟩) a b ca cb wr (by have := AL.out.len; omega) HSA.out (fun i p q hp hq => by have := (AL.out.row hp hq).2; omega) (HA.out.below hBw) (HB.out.below hBw)
              rw [← HLN.out] at su
              have HBW := Lib.hid hBw
              have SU := Lib.hid su
              clear hBw su
              go_wp2_with fail
              refine SU.out.mono ?_
              rintro e w4 ⟨A4, c4, rfl, hc4, hR4, hB4⟩
              have xl : (xrows a b).length = a.length := xrows_len (by have := AL.out.len; omega)
              have mo := HM.out A4 (xrows a b) c4 k w4 ⟨by rw [xl]; omega, fun q hq => by
                obtain ⟨i, hi⟩ := List.mem_iff_getElem?.1 hq
                obtain ⟨p', q', hp', hq', rfl⟩ := xrows_of hi
                rw [xr_len (by have := (AL.out.row hp' hq').2; omega)]
                exact HSA.out.2 p' (List.mem_of_getElem? hp')⟩ wm hR4
              rw [xl] at mo
              have MO := Lib.hid mo
              have B4 := Lib.hid (HBW.out.trans (hB4.mono HBW.out.size))
              have B34 := Lib.hid ((HD.out.below w3.heap.size).trans (hB4.mono (HD.out.below w3.heap.size).size))
              clear xl mo hR4 hB4 SU
              go_wp2_with fail
              refine MO.out.mono ?_
              rintro e w5 ⟨A5, c5, z, e5, rfl, hc5, hR5, hB5, hP5⟩
              obtain ⟨rfl, rfl⟩ := more_sum AL.out NB.out (by rw [Int.toNat_natCast]; exact AD2.out) (by rw [Int.toNat_natCast]; exact AD3.out) hP5
              have B5 := Lib.hid (B4.out.trans (hB5.mono B4.out.size))
              have B35 := Lib.hid (B34.out.trans (hB5.mono B34.out.size))
              have R5 := Lib.hid hR5
              have xl : (xrows x y).length = k := (xrows_len (by rw [LX.out, LY.out]; exact Nat.le_refl _)).trans LX.out
              have su := sum_c A2 A3 x y c2 c3 w5 (by rw [LX.out, LY.out]; exact Nat.le_refl _) ⟨by rw [LX.out]; omega, fun q hq => by
                obtain ⟨i, hi⟩ := List.mem_iff_getElem?.1 hq
                rw [(AD2.out.2 i q hi).1]
                exact HSA.out.head⟩ (fun i p q hp hq => by rw [(AD2.out.2 i p hp).1, (AD3.out.2 i q hq).1, AL.out.head]; exact Nat.le_refl _) (R23.out.below B35.out) (R3.out.below B35.out)
              rw [LX.out, LY.out] at su
              have SU := Lib.hid su
              have XL := Lib.hid xl
              rw [xl]
              clear su xl hP5 hR5 hB5 hc5 MO
              go_wp2_with fail
              refine SU.out.mono ?_
              rintro e w6 ⟨A6, c6, rfl, hc6, hR6, hB6⟩
              have sa := same_c A5 A6 (xrows x y) (xrows x y) c5 c6 (by rw [XL.out]; omega) (by rw [XL.out]; omega) w6 (R5.out.below hB6) hR6
              rw [XL.out, beq_self_eq_true] at sa
              have SA := Lib.hid sa
              have B6 := Lib.hid (B5.out.trans (hB6.mono B5.out.size))
              clear sa hR6 hB6
              go_wp2_with fail
              refine SA.out.mono ?_
              rintro e w7 ⟨rfl, hd7⟩
              have B7 := Lib.hid (B6.out.trans ((hd7.below _).mono B6.out.size))
              clear hd7
              go_wp2
              go_ret
              exact ⟨rfl, B7.out⟩
        · have t1 : ((r.length : Int) == (r0.length : Int)) = false := by rw [beq_eq_false_iff_ne]; omega
          clear rr rr0 er er0
          rw [← hlen]
          go_wp2_with fail
          go_quiet (fail)
          go_wp2
          go_ret
          exact ⟨rfl, below_drewN B3.out _⟩
      · have t1 : ((a.length : Int) == (b.length : Int)) = false := by rw [beq_eq_false_iff_ne]; omega
        have t2 : ((a.length : Int) != (b.length : Int)) = true := by rw [bne, t1]; rfl
        clear rr rr0 er er0 hlen
        go_wp2_with fail
        go_quiet (fail)
        go_wp2
        go_ret
        exact ⟨rfl, below_drewN B3.out _⟩
theorem walk {H : Type} {enc : TypeId × Value → H} {base : Nat} {W : World} {v0 v1 : Value} {d0 d1 : DataW H} {p0 p1 : List MemPlace}
    (o0 : Value.okWide Try.prog W .any base 22 v0) (h0 : DataW.Trod enc Try.prog W 0 (fun _ => true) true 22 v0 d0 p0) (o1 : Value.okWide Try.prog W .any base 22 v1) (h1 : DataW.Trod enc Try.prog W 0 (fun _ => true) true 22 v1 d1 p1) (a2 : Int) (w2 : (Lit.int .i64 a2).wf = true)
    (hz : (DataW.weightsEach Try.prog [22, 22, 3] [d0, d1, .lit (.int .i64 a2)]).all (· ≤ reachBytes) = true) :
    Calls Try.prog 7 #[v0, v1, .int .i64 a2] W (Law.Yes W) := by
  obtain ⟨A0, c0, l0, rfl, z0, k0, _, r0, s0⟩ := open_rowsZ Try.underlying22 Try.underlying33 Try.underlying5 (by kernel_rfl) (by kernel_rfl) (by kernel_rfl) (by kernel_rfl) o0 h0 hz (j := 0) rfl rfl
  obtain ⟨A1, c1, l1, rfl, z1, k1, _, r1, s1⟩ := open_rowsZ Try.underlying22 Try.underlying33 Try.underlying5 (by kernel_rfl) (by kernel_rfl) (by kernel_rfl) (by kernel_rfl) o1 h1 hz (j := 1) rfl rfl
  exact main more_c back_c A0 A1 l0 l1 c0 c1 a2 W ⟨z0, s0⟩ ⟨z1, s1⟩ w2 r0 r1
theorem own : ownKnob Try.prog.godebug = none := by kernel_rfl
theorem laid : laidOutB Try.prog = true := by kernel_rfl
theorem pars : ∀ t ∈ Try.f7.params.toList, Try.prog.readableRec t = true ∧ t < Try.prog.types.size := by
  have h : Try.f7.params.toList.all (fun t => Try.prog.readableRec t && decide (t < Try.prog.types.size)) = true := by kernel_rfl
  intro t ht; have := List.all_eq_true.1 h t ht; simpa using this
theorem calls (H : Type) (enc : TypeId × Value → H) (W : World) (base : Nat) (args : Array Value) (ds : List (DataW H)) (before : List MemPlace)
    (hval : ∀ (j : Nat) t v, Try.f7.params[j]? = some t → args[j]? = some v → Value.okWide Try.prog W .any base t v)
    (hA : DataW.TrodAll enc Try.prog W 0 (fun _ => true) true Try.f7.params.toList args.toList ds before) (hz : (DataW.weightsEach Try.prog Try.f7.params.toList ds).all (· ≤ reachBytes) = true) :
    Calls Try.prog 7 args W (Law.Yes W) := by
  rw [Try.params7] at hA hval hz
  obtain ⟨v0, vs0, d0, ds0, p0, q0, hargs, rfl, rfl, h0, r0⟩ := trodAll_cons hA
  obtain ⟨v1, vs1, d1, ds1, p1, q1, rfl, rfl, rfl, h1, r1⟩ := trodAll_cons r0
  obtain ⟨v2, vs2, d2, ds2, p2, q2, rfl, rfl, rfl, h2, r2⟩ := trodAll_cons r1
  obtain ⟨rfl, rfl, rfl⟩ := trodAll_nil r2
  obtain rfl : args = #[v0, v1, v2] := by cases args; simp_all
  obtain ⟨a2, rfl, rfl, rfl, w2⟩ := open_int Try.underlying3 (hval 2 3 v2 rfl rfl) h2
  exact walk (W := W) (hval 0 22 v0 rfl rfl) h0 (hval 1 22 v1 rfl rfl) h1 a2 w2 hz
theorem fnOf (H : Type) : ∀ ds : List (DataW H), ds.length = Try.f7.params.toList.length → Rows.coderSumSpec.fn H ds = { results := [.lit (.bool true)], args := ds } := by
  intro ds h
  have h : ds.length = 3 := h
  obtain _ | ⟨x0, ds⟩ := ds
  · simp at h
  obtain _ | ⟨x1, ds⟩ := ds
  · simp at h
  obtain _ | ⟨x2, ds⟩ := ds
  · simp at h
  obtain rfl : ds = [] := List.eq_nil_of_length_eq_zero (by simpa using h)
  rfl
set_option maxRecDepth 100000 in
theorem lifted (os : Os) (started : os.Started) (H : Type) (enc : TypeId × Value → H) :
    ReturnsInHanded {} Try.checked os 7 .any (Rows.coderSumSpec.pre6 enc Try.prog Try.f7 Rows.coderSumRow.domain false) (Rows.coderSumSpec.post enc Try.prog Try.f7 false true false false) := by
  refine returnsInHanded_of_change_sized (C := Try.checked) own started (by kernel_rfl) Try.func7
    (ChangeSpec.witness6 (enc := enc) (C := Try.checked) false ⟨#[], #[.slice none 0 0, .slice none 0 0, .int .i64 0], []⟩ 8 (by kernel_rfl) (by kernel_rfl) (by kernel_rfl) (by kernel_rfl)) ?_
  intro W base args ds gs before hval hW _ hz _
  obtain ⟨p, q, hA, hV, rfl, hfz, hnd⟩ := id hW
  obtain ⟨rfl, rfl⟩ := trodVars_none hV
  simp only [List.append_nil] at hz
  have hz2 : (DataW.weightsEach Try.prog Try.f7.params.toList ds).all (· ≤ reachBytes) = true := hz
  exact Law.ending (C := Try.checked) (s := Rows.coderSumSpec) laid pars rfl Try.underlying4 rfl (fnOf H) hW (calls H enc W base args ds p hval hA hz2)
theorem over : Rows.coderSumRow.holds Try.pinned (OpenSpec.ofChange Rows.coderSumSpec) :=
  OpenClaim.holds_of_wide 7 Try.f7 rfl rfl rfl rfl rfl rfl rfl ⟨rfl, rfl, rfl, rfl, rfl⟩ rfl rfl rfl rfl rfl (by kernel_rfl) Try.func7 (by kernel_rfl)
    (of_decide_eq_true (by kernel_rfl)) (by unfold Func.isWrapper; first | (rw [if_pos (by decide +kernel)]; kernel_rfl) | (rw [if_neg (by decide +kernel)]; exact ⟨rfl, rfl⟩))
    (fun os started H enc _ => lifted os started H enc)
theorem proved : Rows.CoderSumSaid := over
end Go.Proofs.Ytomhcjnhhdbhjaa.coderSum
