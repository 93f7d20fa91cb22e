/-
  The reference's EWrong, EMake, EPut.
-/
import Derived.Test.YtpjopdemhdeelaaPairPure
import Derived.Test.YtpjopdemhdeelaaTablePut
namespace Go.Proofs.Ytpjopdemhdeelaa.Pair
set_option linter.unusedVariables false
open Go.RowKit Gf Mem Poly Cdr
attribute [local go_sem] xor8_nat

theorem quiet_m {P : Program} {f : FuncId} {args : Array Value} {w : World} {n : Nat} {v : Value}
    (h : Calls P f args (w.drewN n) fun e w' => e = .returned v ∧ w.drewN n = w') : Calls P f args (w.drewN n) fun e w'' => e = .returned v ∧ ∃ m, w'' = w.drewN m :=
  h.mono fun _ _ ⟨he, hm⟩ => ⟨he, n, hm.symm⟩
def IntDrawn (k : Int) (W : World) (e : Ending) (W' : World) : Prop := e = .returned (.int .i64 k) ∧ Drawn W W'
set_option maxHeartbeats 1000000 in
theorem eWrong_c (A : Option Addr) (rows : List (List UInt8)) (ca : Nat) (hl : rows.length ≤ 5864062014805) (W : World) (hR : Rds W A rows) :
    Calls Try.prog 12 #[.slice A rows.length ca] W (IntDrawn (wrongE rows) W) := by
  have hE := dEven_c A rows ca hl W hR
  by_cases h0 : rows.length = 0
  · have e : wrongE rows = 2 := by unfold wrongE; rw [if_pos (.inl h0)]
    rw [e, h0]
    clear hE e
    go_enter Try.func12, Try.ntmps12
    go_wp2
    go_ret
    exact ⟨rfl, Drawn.refl _⟩
  · have b1 : ((rows.length : Int) == 0) = false := by rw [beq_eq_false_iff_ne]; omega
    by_cases h1 : 255 < rows.length
    · have e : wrongE rows = 2 := by unfold wrongE; rw [if_pos (.inr h1)]
      have E := Lib.hid e
      have i1 : (255 : Int) < (rows.length : Int) := by omega
      clear hE e h0
      go_enter Try.func12, Try.ntmps12
      go_wp2
      go_ret
      exact ⟨by rw [E.out]; rfl, Drawn.refl _⟩
    · have i1 : (rows.length : Int) ≤ 255 := by omega
      have i2 : decide ((255 : Int) < (rows.length : Int)) = false := by simp; omega
      cases he : evenB rows with
      | false =>
        have e : wrongE rows = 1 := by unfold wrongE; rw [if_neg (by omega), he]; rfl
        rw [he] at hE
        have HE := Lib.hid hE
        have E := Lib.hid e
        clear hE e he
        go_enter Try.func12, Try.ntmps12
        go_wp2_with fail
        refine HE.out.mono ?_
        rintro e w1 ⟨rfl, hd⟩
        go_wp2
        go_ret
        exact ⟨by rw [E.out]; rfl, hd⟩
      | true =>
        have e : wrongE rows = 0 := by unfold wrongE; rw [if_neg (by omega), he]; rfl
        rw [he] at hE
        have HE := Lib.hid hE
        have E := Lib.hid e
        clear hE e he
        go_enter Try.func12, Try.ntmps12
        go_wp2_with fail
        refine HE.out.mono ?_
        rintro e w1 ⟨rfl, hd⟩
        go_wp2
        go_ret
        exact ⟨by rw [E.out]; rfl, hd⟩

/-- Two slices of the call's own lie apart. -/
def Sep (v u : Value) : Prop := v.ownBlock = none ∨ u.ownBlock = none ∨ v.ownBlock ≠ u.ownBlock
theorem Sep.symm {v u : Value} (h : Sep v u) : Sep u v := by rcases h with h | h | h; exact .inr (.inl h); exact .inl h; exact .inr (.inr (Ne.symm h))
theorem Sep.kept {v u : Value} (h : Sep v u) : u.ownBlock = none ∨ u.ownBlock ≠ v.ownBlock := by
  rcases h with h | h | h
  · cases e : u.ownBlock with
    | none => exact .inl rfl
    | some k => exact .inr (by rw [h]; exact fun e => by cases e)
  · exact .inl h
  · exact .inr (Ne.symm h)
theorem Sep.grown {v v' u : Value} {n : Nat} (h : Sep v u) (hg : v'.ownBlock = v.ownBlock ∨ v'.ownBlock = some n) (hu : ∀ k, u.ownBlock = some k → k < n) : Sep v' u := by
  rcases hg with hg | hg
  · unfold Sep; rw [hg]; exact h
  · cases e : u.ownBlock with
    | none => exact .inr (.inl e)
    | some k => exact .inr (.inr (by rw [hg, e]; intro h1; injection h1 with h1; have := hu k e; omega))

/-- Both sums, in new memory. -/
def Both (p q : List UInt8) (W : World) (e : Ending) (W' : World) : Prop :=
  ∃ (A B : Option Addr) (ca cb : Nat), e = .returned (.tuple #[.slice A p.length ca, .slice B q.length cb]) ∧ p.length ≤ ca ∧ q.length ≤ cb ∧ Reads W' A (p.map byt) ∧ Reads W' B (q.map byt) ∧ Below W.heap.size W W'
theorem bMul2_c (a : UInt8) (W : World) : Calls Try.prog 31 #[.int .u8 a.toNat, .int .u8 2] W fun e W' => e = .returned (.int .u8 (mul a 2).toNat) ∧ W = W' := bMul_c a 2 W
set_option maxRecDepth 100000 in
set_option maxHeartbeats 4000000 in
theorem eMake_c (A : Option Addr) (rows : List (List UInt8)) (ca : Nat) (hw : wrongE rows = 0) (hL : wide rows ≤ 140737488351232) (W : World) (hR : Rds W A rows) :
    Calls Try.prog 14 #[.slice A rows.length ca] W (Both (par 1 rows) (par 2 rows) W) := by
  obtain ⟨h0, h255, hev⟩ := wrongE_ok hw
  have HR := Lib.hid hR
  have hen := fun k r => @even_len rows hev k r
  have HEV := Lib.hid hen
  obtain ⟨b, o, C0, c0, r0, rfl, er0, cr0, lr0, lc0, rr0⟩ := hR.row (k := 0) h0
  rw [Nat.add_zero, HEV.out 0 r0 er0] at cr0
  clear hR hw hev hen er0 lr0 lc0 rr0 r0
  generalize hN : rows.length = n at *
  have HN := Lib.hid hN
  clear hN
  generalize hLL : wide rows = L at *
  have HL := Lib.hid hLL
  have i0 : (0 : Int) < (n : Int) := by omega
  clear hLL
  go_enter Try.func14, Try.ntmps14
  go_wp2
  go_loopw [4, 5, 14] (fun s u i wr => ∃ (k : Nat) (A1 : Option Addr) (c1 : Nat) (A2 : Option Addr) (c2 : Nat), k ≤ L ∧ i = .int .i64 k ∧ s = .slice A1 k c1 ∧ u = .slice A2 k c2 ∧
    Grows wr W.heap.size 5 (.slice A1 k c1) ((parTo 1 rows k).map byt) ∧ Grows wr W.heap.size 5 (.slice A2 k c2) ((parTo 2 rows k).map byt) ∧ Sep (.slice A1 k c1) (.slice A2 k c2) ∧ Below W.heap.size W wr) (fun _ _ i _ => L - (intOf i).toNat)
  case atStart => exact ⟨0, none, 0, none, 0, by omega, rfl, rfl, rfl, Grows.nil _ _ _, Grows.nil _ _ _, .inl rfl, Below.refl _ _⟩
  case round =>
    obtain ⟨i, A1, c1, A2, c2, hi, rfl, rfl, rfl, hG1, hG2, hS, hB⟩ := hrel
    obtain ⟨wo, rfl⟩ : ∃ wo : World, wo = wr := ⟨_, rfl⟩
    have HG1 := Lib.hid hG1
    have HG2 := Lib.hid hG2
    have HS := Lib.hid hS
    have HB := Lib.hid hB
    clear hG1 hG2 hS hB
    by_cases hlt : i < L
    · have i4 : (i : Int) < (L : Int) := by omega
      have hz1 := sumFrom_all 1 rows i
      have hz2 := sumFrom_all 2 rows i
      rw [HN.out] at hz1 hz2
      have HZ1 := Lib.hid hz1
      have HZ2 := Lib.hid hz2
      clear hz1 hz2
      go_wp2
      go_loopw [7, 8, 9] (fun x y k wr => ∃ j : Nat, j ≤ n ∧ x = .int .u8 (sumFrom 1 rows i j).toNat ∧ y = .int .u8 (sumFrom 2 rows i j).toNat ∧ k = .int .i64 ((j : Int) - 1) ∧ Drawn wo wr) (fun _ _ k _ => (intOf k + 1).toNat)
      case atStart => exact ⟨n, by omega, by rw [HZ1.out]; rfl, by rw [HZ2.out]; rfl, rfl, Drawn.refl _⟩
      case round =>
        obtain ⟨j, hj, rfl, rfl, hk, hd⟩ := hrel
        have HD := Lib.hid hd
        clear hd
        rcases j with _ | j
        · have hk2 : _ = Value.int .i64 (-1) := hk
          clear hk
          subst hk2
          rw [sumFrom_zero, sumFrom_zero]
          have G1 := Lib.hid (HG1.out.drawn HD.out)
          have G2 := Lib.hid (HG2.out.drawn HD.out)
          have B1 := Lib.hid (HB.out.trans (HD.out.below _))
          have hl1 : ((parTo 1 rows i).map byt).length = i := by rw [List.length_map, parTo_len]
          have hl2 : ((parTo 2 rows i).map byt).length = i := by rw [List.length_map, parTo_len]
          have HL1 := Lib.hid hl1
          have HL2 := Lib.hid hl2
          clear hl1 hl2
          go_wp2_with (with_reducible refine wpList_append_at elem8 rfl (.tmp 43) (.tmp 45) rfl rfl rfl rfl G1.out ?c1 ?c2 B1.out.size ?_)
          case c1 => rw [HL1.out]; unfold maxLen; omega
          case c2 => rw [HL1.out]; omega
          intro v1 w1 g1 g2 g3
          obtain ⟨A3, c3, hv, _, _⟩ := g1.form
          rw [List.length_append, HL1.out] at hv
          have hS1 := HS.out.grown g3 (fun k hk => Nat.lt_succ_of_lt (G2.out.lt k hk).2)
          have hG2' := (G2.out.alloc _).kept g2 HS.out.kept
          have hB1 := (G1.out.alloc _).below g2 (B1.out.alloc B1.out.size _) (Nat.le_refl _) (by simp; have := B1.out.size; omega)
          subst hv
          have GA := Lib.hid g1
          have GB := Lib.hid hG2'
          have SS := Lib.hid hS1
          have BB := Lib.hid hB1
          clear g1 g2 g3 hS1 hG2' hB1
          go_wp2_with (with_reducible refine wpList_append_at elem8 rfl (.tmp 47) (.tmp 49) rfl rfl rfl rfl GB.out ?c3 ?c4 BB.out.size ?_)
          case c3 => rw [HL2.out]; unfold maxLen; omega
          case c4 => rw [HL2.out]; omega
          intro v2 w2 g1 g2 g3
          obtain ⟨A4, c4, hv, _, _⟩ := g1.form
          rw [List.length_append, HL2.out] at hv
          have hS1 := (SS.out.symm.grown g3 (fun k hk => Nat.lt_succ_of_lt (GA.out.lt k hk).2)).symm
          have hG1' := (GA.out.alloc _).kept g2 SS.out.symm.kept
          have hB1 := (GB.out.alloc _).below g2 (BB.out.alloc BB.out.size _) (Nat.le_refl _) (by simp; have := BB.out.size; omega)
          subst hv
          have KA := Lib.hid hG1'
          have KB := Lib.hid g1
          have KS := Lib.hid hS1
          have KK := Lib.hid hB1
          clear g1 g2 g3 hS1 hG1' hB1
          go_wp2
          go_roundw
          case rel =>
            refine ⟨i + 1, A3, c3, A4, c4, by omega, by go_num, rfl, rfl, ?_, ?_, KS.out, KK.out⟩
            · rw [parTo_succ, List.map_append]; exact KA.out
            · rw [parTo_succ, List.map_append]; exact KB.out
          case measure => simp [intOf]; omega
        · have hk2 : _ = Value.int .i64 (j : Int) := hk.trans (by congr 1; omega)
          clear hk
          subst hk2
          obtain ⟨b', o', C, c, r, ea, er, cr, lr, lc, rr⟩ := (HR.out.below (HB.out.trans (HD.out.below _))).row (k := j) (by rw [HN.out]; omega)
          injection ea with ea
          injection ea with ea1 ea2
          subst ea1 ea2
          have hrl := HEV.out j r er
          obtain ⟨b3, o3, x, rfl, ex, cx⟩ := rr.bytes (k := i) (by rw [hrl]; exact hlt)
          rw [hrl] at cr lr
          have E1 := Lib.hid (sumFrom_one er ex)
          have E2 := Lib.hid (sumFrom_next (x := 2) er ex)
          have i5 : (j : Int) < (n : Int) := by omega
          clear er ex hrl rr
          go_wp2
          go_quiet ((go_at_call 31; exact quiet_m (bMul2_c _ _)))
          go_wp2
          go_roundw
          case rel => exact ⟨j, by omega, by rw [E1.out], by rw [E2.out], rfl, HD.out.more _⟩
          case measure => simp [intOf]
    · obtain rfl : i = L := by omega
      go_wp2
      go_ret2
      obtain ⟨_, _, hv1, h6, _⟩ := HG1.out.form
      obtain ⟨_, _, hv2, h7, _⟩ := HG2.out.form
      injection hv1 with hv1a hv1b hv1c
      injection hv2 with hv2a hv2b hv2c
      have e1 : parTo 1 rows i = par 1 rows := by rw [← HL.out]; rfl
      have e2 : parTo 2 rows i = par 2 rows := by rw [← HL.out]; rfl
      have l1 : (par 1 rows).length = i := by rw [par_len, HL.out]
      have l2 : (par 2 rows).length = i := by rw [par_len, HL.out]
      have k1 := HG1.out.reads
      have k2 := HG2.out.reads
      rw [List.length_map, parTo_len] at h6 h7
      rw [e1] at k1
      rw [e2] at k2
      refine ⟨A1, A2, c1, c2, by rw [l1, l2]; rfl, by rw [l1]; omega, by rw [l2]; omega, k1, k2, HB.out⟩

/-- Rows in new memory. -/
def RowsAre (rows : List (List UInt8)) (W : World) (e : Ending) (W' : World) : Prop :=
  ∃ (A : Option Addr) (c : Nat), e = .returned (.slice A rows.length c) ∧ rows.length ≤ c ∧ Rds W' A rows ∧ Below W.heap.size W W'
set_option maxHeartbeats 2000000 in
theorem ePut_c (A R : Option Addr) (rows : List (List UInt8)) (r : List UInt8) (ca cr k : Nat) (hk : k < rows.length) (hl : rows.length ≤ 255) (hc : r.length ≤ cr) (hm : r.length ≤ 9223372036854775807) (W : World) (hR : Rds W A rows) (hr : Reads W R (r.map byt)) :
    Calls Try.prog 16 #[.slice A rows.length ca, .int .i64 k, .slice R r.length cr] W (RowsAre (rows.set k r) W) := by
  have HR := Lib.hid hR
  have Hr := Lib.hid hr
  have HLT := Lib.hid (reads_lt hr)
  have hk2 : (k : Int) < (rows.length : Int) := by omega
  have hk3 : ¬ (rows.length : Int) ≤ (k : Int) := by omega
  clear hR hr
  go_enter Try.func16, Try.ntmps16
  go_wp2_with (at_builtin; refine wpList_append_rows rfl (.tmp 8) (.tmp 9) rfl rfl rfl rfl (Table.empty W) HR.out ((Below.refl _ _).alloc (Nat.le_refl _) _) (Nat.le_refl _) ?c1 ?c2 ?_)
  case c1 => omega
  intro A' c' w1 hT hB
  obtain ⟨_, _, hf, hcc, _⟩ := hT.out.form
  injection hf with hf1 hf2 hf3
  subst hf3
  clear hf1 hf2
  have hu : RowOff w1 (Value.ownBlock (.slice A' rows.length c')) (.slice R r.length cr) r := by
    refine ⟨R, cr, rfl, hc, hm, Hr.out.below hB.out, fun hne a ha => ⟨fun e => ?_, Nat.lt_of_lt_of_le (HLT.out hne a ha) hB.out.size⟩⟩
    have h1 := (hT.out.lt _ e.symm).1
    have h2 := HLT.out hne a ha
    omega
  obtain ⟨g, u0, rfl, hg, cg, fg, hT2⟩ := hT.out.put hk hu
  have HT2 := Lib.hid hT2
  have hcc2 := hcc
  clear hT hT2 hu hcc
  go_wp2
  go_ret
  refine ⟨_, c', by rw [List.length_set]; rfl, by rw [List.length_set]; exact hcc2, HT2.out.rds, hB.out.setCell hg _⟩
end Go.Proofs.Ytpjopdemhdeelaa.Pair
