/-
  Package curve: Sum, Times, vanishing.
-/
import Derived.Test.YtjfaadelhkjpfaaCurveB
import Derived.Test.YtjfaadelhkjpfaaMine
namespace Go.Proofs.Ytjfaadelhkjpfaa.Poly
set_option linter.unusedVariables false
open Go.RowKit Gf Mem
attribute [local go_sem] xor8_nat

theorem clone_n (A : Option Addr) (r : List UInt8) (n c : Nat) (W : World) (hn : r.length = n) (hl : n ≤ 140737488351232) (hA : Reads W A (r.map byt)) :
    Calls Try.prog 24 #[.slice A n c] W fun e W' => ∃ (A' : Option Addr) (c' : Nat), e = .returned (.slice A' n c') ∧ n ≤ c' ∧ Mine W' W.heap.size A' r ∧ Below W.heap.size W W' := by
  subst hn; exact clone_c A r c W hl hA
theorem trimmed_n (A : Option Addr) (p : List UInt8) (n cap : Nat) (hn : p.length = n) (hl : n ≤ cap) (hc : n ≤ 281474976710656) (W : World) (hp : Reads W A (p.map byt)) :
    Calls Try.prog 25 #[.slice A n cap] W (Trims A p cap W) := by
  subst hn; exact trimmed_c A p cap hl hc W hp
set_option maxRecDepth 100000 in
set_option maxHeartbeats 4000000 in
theorem sum_c : SumSpec := by
  intro A B p q ca cb W lp lq hp hq
  have HP := Lib.hid hp
  have HQ := Lib.hid hq
  clear hp hq
  generalize hN : p.length = n at *
  generalize hM : q.length = m at *
  have HN := Lib.hid hN
  have HM := Lib.hid hM
  clear hN hM
  go_enter Try.func12, Try.ntmps12
  by_cases hlt : n < m
  · have b1 : decide ((n : Int) < (m : Int)) = true := by simpa using hlt
    have e1 := HM.out
    go_wp2_with fail
    refine (clone_n B q m cb W e1 (by omega) HQ.out).mono ?_
    rintro e w1 ⟨A1, c1, rfl, hc1, hMi, hB⟩
    have HMI := Lib.hid hMi
    have HB1 := Lib.hid hB
    have E1 := Lib.hid e1
    clear hMi hB e1
    have hle : p.length ≤ q.length := by rw [HM.out, HN.out]; omega
    have HLE := Lib.hid hle
    clear hle
    go_wp2
    go_loopw [19] (fun i wr => ∃ k : Nat, k ≤ n ∧ i = .int .i64 k ∧ Mine wr W.heap.size A1 (Poly.part q p k) ∧ Below W.heap.size W wr) (fun i _ => n - (intOf i).toNat)
    case atStart => exact ⟨0, by omega, rfl, by rw [part_zero]; exact HMI.out, HB1.out⟩
    case round =>
      obtain ⟨k, hk, rfl, hMi, hB⟩ := hrel
      have HMI2 := Lib.hid hMi
      have HB2 := Lib.hid hB
      clear hMi hB
      by_cases hlt : k < n
      · obtain ⟨b, o, c, rfl, ec, cc⟩ := (HP.out.below HB2.out).bytes (k := k) (by rw [HN.out]; exact hlt)
        obtain ⟨g, y, rfl, _, _, ey, cy, fy⟩ := HMI2.out.at_ (k := k) (by rw [part_len HLE.out, HM.out]; omega)
        rw [part_at HLE.out (by rw [HN.out]; exact hlt)] at ey
        injection ey with ey
        subst ey
        have EC := Lib.hid (part_next (l := q) (one := p) HLE.out ec)
        have i1 : (k : Int) < (m : Int) := by omega
        clear ec
        go_wp2
        go_roundw
        case rel => exact ⟨k + 1, by omega, by go_num, by rw [← EC.out]; exact HMI2.out.put rfl _, HB2.out.setCell (by assumption) _⟩
        case measure => simp [intOf]; omega
      · obtain rfl : k = n := by omega
        have ep : Poly.part q p k = padd q p := by rw [← HN.out]; exact part_all _ _
        have hMi := HMI2.out
        rw [ep] at hMi
        have HMI3 := Lib.hid hMi
        have hl2 : (padd q p).length = m := by rw [len_padd, HM.out, HN.out]; omega
        have HL2 := Lib.hid hl2
        clear hMi hl2 ep
        go_wp2_with fail
        refine (trimmed_n A1 (padd q p) m c1 HL2.out hc1 (by omega) _ HMI3.out.reads).mono ?_
        rintro e w' ⟨rfl, rfl⟩
        go_wp2
        go_ret
        rw [padd_comm p q]
        exact ⟨A1, c1, rfl, trim_reads HMI3.out.reads, HB2.out⟩
  · have b1 : decide ((n : Int) < (m : Int)) = false := by simp; omega
    have e1 := HN.out
    go_wp2_with fail
    refine (clone_n A p n ca W e1 (by omega) HP.out).mono ?_
    rintro e w1 ⟨A1, c1, rfl, hc1, hMi, hB⟩
    have HMI := Lib.hid hMi
    have HB1 := Lib.hid hB
    have E1 := Lib.hid e1
    clear hMi hB e1
    have hle : q.length ≤ p.length := by rw [HN.out, HM.out]; omega
    have HLE := Lib.hid hle
    clear hle
    go_wp2
    go_loopw [19] (fun i wr => ∃ k : Nat, k ≤ m ∧ i = .int .i64 k ∧ Mine wr W.heap.size A1 (Poly.part p q k) ∧ Below W.heap.size W wr) (fun i _ => m - (intOf i).toNat)
    case atStart => exact ⟨0, by omega, rfl, by rw [part_zero]; exact HMI.out, HB1.out⟩
    case round =>
      obtain ⟨k, hk, rfl, hMi, hB⟩ := hrel
      have HMI2 := Lib.hid hMi
      have HB2 := Lib.hid hB
      clear hMi hB
      by_cases hlt : k < m
      · obtain ⟨b, o, c, rfl, ec, cc⟩ := (HQ.out.below HB2.out).bytes (k := k) (by rw [HM.out]; exact hlt)
        obtain ⟨g, y, rfl, _, _, ey, cy, fy⟩ := HMI2.out.at_ (k := k) (by rw [part_len HLE.out, HN.out]; omega)
        rw [part_at HLE.out (by rw [HM.out]; exact hlt)] at ey
        injection ey with ey
        subst ey
        have EC := Lib.hid (part_next (l := p) (one := q) HLE.out ec)
        have i1 : (k : Int) < (n : Int) := by omega
        clear ec
        go_wp2
        go_roundw
        case rel => exact ⟨k + 1, by omega, by go_num, by rw [← EC.out]; exact HMI2.out.put rfl _, HB2.out.setCell (by assumption) _⟩
        case measure => simp [intOf]; omega
      · obtain rfl : k = m := by omega
        have ep : Poly.part p q k = padd p q := by rw [← HM.out]; exact part_all _ _
        have hMi := HMI2.out
        rw [ep] at hMi
        have HMI3 := Lib.hid hMi
        have hl2 : (padd p q).length = n := by rw [len_padd, HN.out, HM.out]; omega
        have HL2 := Lib.hid hl2
        clear hMi hl2 ep
        go_wp2_with fail
        refine (trimmed_n A1 (padd p q) n c1 HL2.out hc1 (by omega) _ HMI3.out.reads).mono ?_
        rintro e w' ⟨rfl, rfl⟩
        go_wp2
        go_ret
        exact ⟨A1, c1, rfl, trim_reads HMI3.out.reads, HB2.out⟩

theorem lt_of_reads {W : World} {A : Option Addr} {l : List UInt8} (h : Reads W A (l.map byt)) (h0 : 0 < l.length) : ∀ a, A = some a → a.block < W.heap.size := fun a ha => by
  obtain ⟨b, o, h1, h2, _⟩ := h 0 (byt l[0]) (by rw [List.getElem?_map, List.getElem?_eq_getElem h0]; rfl)
  rw [ha] at h1; injection h1 with h1; subst h1; exact h2
set_option maxRecDepth 100000 in
set_option maxHeartbeats 4000000 in
theorem times_g (A B : Option Addr) (p q : List UInt8) (ca cb : Nat) (W : World) (lp : p.length ≤ 140737488351232) (lq : q.length ≤ 140737488351232) (kp : p.length ≤ ca) (kq : q.length ≤ cb) (hp : Reads W A (p.map byt)) (hq : Reads W B (q.map byt)) :
    Calls Try.prog 14 #[.slice A p.length ca, .slice B q.length cb] W (Gives (trim (pmul p q)) W) := by
  have h1 := trimmed_c A p ca kp (by omega) W hp
  have h2 := trimmed_c B q cb kq (by omega) W hq
  have hlp := trim_len p
  have hlq := trim_len q
  have HP := Lib.hid (trim_reads hp)
  have HQ := Lib.hid (trim_reads hq)
  have hno := @pmul_none p q
  have hst := rows_start (trim p) (trim q)
  have hnx := fun l k c => @rows_next (trim p) (trim q) l k c
  have hen := fun l => @rows_end p q l
  have hlt := lt_of_reads (trim_reads hq)
  have HT1 := Lib.hid h1
  have HT2 := Lib.hid h2
  have HNO := Lib.hid hno
  have HST := Lib.hid hst
  have HNX := Lib.hid hnx
  have HEN := Lib.hid hen
  have HLT := Lib.hid hlt
  clear h1 h2 hp hq hno hst hnx hen hlt
  go_enter Try.func14, Try.ntmps14
  go_wp2_with fail
  refine HT1.out.mono ?_
  rintro e w' ⟨rfl, rfl⟩
  go_wp2_with fail
  refine HT2.out.mono ?_
  rintro e w' ⟨rfl, rfl⟩
  generalize trim p = tp at *
  generalize trim q = tq at *
  generalize hN : tp.length = n at *
  generalize hM : tq.length = m at *
  have HN := Lib.hid hN
  have HM := Lib.hid hM
  clear hN hM
  by_cases hn0 : n = 0
  · subst hn0
    have e := HNO.out (.inl (List.eq_nil_of_length_eq_zero HN.out))
    have E := Lib.hid e
    clear e
    go_wp2
    go_ret
    rw [E.out]
    exact ⟨none, 0, rfl, Nat.le_refl _, Reads.nil, Below.refl _ _, fun a ha => by cases ha⟩
  · have b1 : ((n : Int) == 0) = false := by rw [beq_eq_false_iff_ne]; omega
    by_cases hm0 : m = 0
    · subst hm0
      have e := HNO.out (.inr (List.eq_nil_of_length_eq_zero HM.out))
      have E := Lib.hid e
      clear e
      go_wp2
      go_ret
      rw [E.out]
      exact ⟨none, 0, rfl, Nat.le_refl _, Reads.nil, Below.refl _ _, fun a ha => by cases ha⟩
    · have b2 : ((m : Int) == 0) = false := by rw [beq_eq_false_iff_ne]; omega
      have hmk := make8 (n + m - 1) (by omega)
      have e0 : ((n + m - 1 : Nat) : Int) = (n : Int) + (m : Int) - 1 := by omega
      rw [e0] at hmk
      clear e0
      have hsize : 0 < n := by omega
      have hsize2 : 0 < m := by omega
      have HN0 := Lib.hid hn0
      have HM0 := Lib.hid hm0
      clear hn0 hm0
      have HLT2 := Lib.hid (HLT.out hsize2)
      go_wp2
      go_loopw [29] (fun i wr => ∃ (k : Nat) (l : List UInt8), k ≤ n ∧ i = .int .i64 k ∧ Rows tp tq k l ∧ Own wr W.heap.size l ∧ Below W.heap.size W wr) (fun i _ => n - (intOf i).toNat)
      case atStart => exact ⟨0, _, by omega, rfl, HST.out, Own.made W _, (Below.refl _ _).alloc (Nat.le_refl _) _⟩
      case round =>
        obtain ⟨k, l, hk, rfl, hR, hO, hB⟩ := hrel
        have HR := Lib.hid hR
        have HO := Lib.hid hO
        have HB := Lib.hid hB
        clear hR hO hB
        by_cases hlt : k < n
        · obtain ⟨b, o, c, rfl, ec, cc⟩ := (HP.out.below HB.out).bytes (k := k) (by rw [HN.out]; exact hlt)
          have EC := Lib.hid (HNX.out l k c HR.out ec hsize2)
          have hll : l.length = n + m - 1 := by rw [HR.out.1, HN.out, HM.out]
          have hadd := addm_c W.heap.size k 5 l tq (n + m - 1 - k) (n + m - 1 - k) B cb c wr HO.out (HQ.out.below HB.out) (fun a ha e => by have := HLT2.out a ha; omega) (by rw [HM.out]; omega) (by rw [HM.out, hll]; omega) (by omega)
          rw [HM.out] at hadd
          have HADD := Lib.hid hadd
          have i1 : (k : Int) ≤ ((n + m - 1 : Nat) : Int) := by omega
          have i2 : k ≤ n + m - 1 := by omega
          have i3 : ¬ n + m - 1 = k := by omega
          clear ec hll hadd
          go_wp2_with fail
          refine HADD.out.mono ?_
          rintro e w2 ⟨rfl, hO2, hG2⟩
          have HO2 : Hid (Own w2 W.heap.size (addm l k tq c)) := Lib.hid hO2
          have HB2 := Lib.hid (HB.out.grown hG2 HB.out.size (fun a ha => by injection ha with ha; omega))
          clear hO2 hG2
          go_wp2
          go_roundw
          case rel => exact ⟨k + 1, _, by omega, by go_num, EC.out, HO2.out, HB2.out⟩
          case measure => simp [intOf]; omega
        · obtain rfl : k = n := by omega
          have e := HEN.out l HR.out hsize hsize2
          have hll : l.length = k + m - 1 := by rw [HR.out.1, HN.out, HM.out]
          have HLL := Lib.hid hll
          have E := Lib.hid e
          clear e hll
          go_wp2
          go_ret
          rw [← E.out]
          exact ⟨some ⟨W.heap.size, 0, none⟩, k + m - 1, by rw [HLL.out]; rfl, by rw [HLL.out]; exact Nat.le_refl _, HO.out.reads, HB.out, fun a ha => by injection ha with ha; subst ha; exact Nat.le_refl _⟩
theorem times_c : TimesSpec := fun A B p q ca cb W lp lq kp kq hp hq => (times_g A B p q ca cb W lp lq kp kq hp hq).mono fun _ _ h => Gives.brings h

/-- What vanishing returns. -/
def Vans (xs : List UInt8) (W : World) (e : Ending) (W' : World) : Prop :=
  ∃ (A' : Option Addr) (c' : Nat) (r : List UInt8), e = .returned (.slice A' r.length c') ∧ r.length ≤ c' ∧ Van xs xs.length r ∧ Reads W' A' (r.map byt) ∧ Below W.heap.size W W' ∧ ∀ a, A' = some a → W.heap.size ≤ a.block
set_option maxRecDepth 100000 in
set_option maxHeartbeats 4000000 in
theorem van_c (A : Option Addr) (xs : List UInt8) (cap : Nat) (hl : xs.length ≤ 256) (W : World) (hp : Reads W A (xs.map byt)) :
    Calls Try.prog 32 #[.slice A xs.length cap] W (Vans xs W) := by
  have HP := Lib.hid hp
  clear hp
  generalize hN : xs.length = n at *
  have HN := Lib.hid hN
  clear hN
  go_enter Try.func32, Try.ntmps32
  go_wp2
  go_loopw [3, 9] (fun s i wr => ∃ (k : Nat) (C : Option Addr) (r : List UInt8) (cc : Nat), k ≤ n ∧ i = .int .i64 k ∧ s = .slice C r.length cc ∧ r.length ≤ cc ∧ Van xs k r ∧ Reads wr C (r.map byt) ∧ Below W.heap.size W wr ∧ ∀ a, C = some a → W.heap.size ≤ a.block) (fun _ i _ => n - (intOf i).toNat)
  case atStart => exact ⟨0, some ⟨W.heap.size, 0, none⟩, [1], 1, by omega, rfl, rfl, by simp, van_start xs, (Own.new W [1]).reads, (Below.refl _ _).alloc (Nat.le_refl _) _, fun a ha => by injection ha with ha; subst ha; exact Nat.le_refl _⟩
  case round =>
    obtain ⟨k, C, r, cc, hk, rfl, rfl, hcc, hV, hR, hB, hF⟩ := hrel
    have HV := Lib.hid hV
    have HR := Lib.hid hR
    have HB := Lib.hid hB
    have HF := Lib.hid hF
    have hrl : r.length ≤ 257 := by rw [hV.1]; omega
    clear hV hR hB hF
    by_cases hlt : k < n
    · obtain ⟨b, o, x, rfl, ex, cx⟩ := (HP.out.below HB.out).bytes (k := k) (by rw [HN.out]; exact hlt)
      have EV := Lib.hid (van_next HV.out ex)
      clear ex
      go_wp2_with fail
      refine (times_g C (some ⟨wr.heap.size, 0, none⟩) r [x, 1] cc 2 _ (by omega) (by simp) hcc (by simp) (HR.out.alloc _) (Own.new wr [x, 1]).reads).mono ?_
      rintro e w2 ⟨A2, c2, rfl, hc2, hR2, hB2, hF2⟩
      have HR2 := Lib.hid hR2
      have HB2 := Lib.hid ((HB.out.alloc HB.out.size _).trans (hB2.mono (by simp; have := HB.out.size; omega)))
      have hF3 : ∀ a, A2 = some a → W.heap.size ≤ a.block := fun a ha => by have h1 := hF2 a ha; have h2 := HB.out.size; simp at h1; omega
      have HF2 := Lib.hid hF3
      clear hR2 hB2 hF2 hF3
      go_wp2
      go_roundw
      case rel => exact ⟨k + 1, A2, _, c2, by omega, by go_num, rfl, hc2, EV.out, HR2.out, HB2.out, HF2.out⟩
      case measure => simp [intOf]; omega
    · obtain rfl : k = n := by omega
      go_wp2
      go_ret
      exact ⟨C, cc, r, rfl, hcc, by rw [HN.out]; exact HV.out, HR.out, HB.out, HF.out⟩
end Go.Proofs.Ytjfaadelhkjpfaa.Poly
