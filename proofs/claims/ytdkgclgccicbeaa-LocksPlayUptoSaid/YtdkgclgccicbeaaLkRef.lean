/-
  The document's own answer of package locks: SPlay.
-/
import Derived.Test.YtdkgclgccicbeaaLkRn
import Derived.Test.YtdkgclgccicbeaaGApp1
import Derived.Deep.CutRange
import Derived.Deep.DeepCutAuto
import Derived.Deep.CutBlock
import Derived.Deep.RegionHeld3
import Derived.Deep.RegionLaw
import Derived.BigQuiet
namespace Go.Proofs.Ytdkgclgccicbeaa.Lk
set_option linter.unusedVariables false
set_option linter.unusedSimpArgs false
open Go.RowKit Mem Gt

theorem box_sw {w : World} (x : SW) : let w' := w.alloc (.cells #[.int .i64 x.1.1, .int .i64 x.1.2.1, .int .i64 x.1.2.2, .bool x.2] tSw)
    w'.cell? ⟨w.heap.size, 0, none⟩ = some (.int .i64 x.1.1) ∧ w'.cell? ⟨w.heap.size, 1, none⟩ = some (.int .i64 x.1.2.1) ∧ w'.cell? ⟨w.heap.size, 2, none⟩ = some (.int .i64 x.1.2.2) ∧ w'.cell? ⟨w.heap.size, 3, none⟩ = some (.bool x.2) := by
  have kn := Known.made w tSw #[.int .i64 x.1.1, .int .i64 x.1.2.1, .int .i64 x.1.2.2, .bool x.2]
  exact ⟨kn.cell 0, kn.cell 1, kn.cell 2, kn.cell 3⟩
theorem sw_at {W : World} {A : Option Addr} {l : List SW} (h : Reads W A (flat swE l)) {k : Nat} {x : SW} (hk : l[k]? = some x) :
    ∃ b o, A = some ⟨b, o, none⟩ ∧ b < W.heap.size ∧ W.cell? ⟨b, o + k * 4, none⟩ = some (.int .i64 x.1.1) ∧ W.cell? ⟨b, o + k * 4 + 1, none⟩ = some (.int .i64 x.1.2.1) ∧ W.cell? ⟨b, o + k * 4 + 2, none⟩ = some (.int .i64 x.1.2.2) ∧ W.cell? ⟨b, o + k * 4 + 3, none⟩ = some (.bool x.2) := by
  obtain ⟨b, o, e, hb, hc⟩ := rds_at swE (by decide) h hk
  exact ⟨b, o, e, hb, hc 0 _ rfl, hc 1 _ rfl, hc 2 _ rfl, hc 3 _ rfl⟩
/-- What the switch leaves. -/
def Sw (r : List LO) (o : LO) (e1 : Int) (rx : List SW) : Prop :=
  (e1 = 0 ∧ rx.map (·.1) = stepL r o ∧ ((o.1 = 3 ∧ errL r o = 0) ∨ (o.1 < 3 ∧ stepL r o = r ++ [o] ∧ errL r o = if has (r ++ [o]) r.length = true then 0 else 6))) ∨ (e1 ≠ 0 ∧ e1 = errL r o ∧ stepL r o = r ∧ rx = rowF r)
def rowsOf (l : List LO) : Int → List SW := fun x => rowF (st l x)
theorem rows_step {l : List LO} {o : LO} : ∀ x, setR (rowsOf l) o.2.2 (rowF (stepL (st l o.2.2) o)) x = rowsOf (l ++ [o]) x := fun x => by
  unfold rowsOf setR
  rw [st_snoc]
  by_cases h : x = o.2.2
  · subst h; rw [if_pos rfl, if_pos rfl]
  · rw [if_neg h, if_neg (fun e => h e.symm)]
theorem MSt.next {V w w9 : World} {l : List LO} {k : Nat} {f : Int → Value} {ks : List Int} {A5 A9 : Option Addr} {c5 c9 : Nat} {rw' : Int → List SW} {o : LO} {E : Int} (h : MSt V w f ks rw' (.slice A5 k c5) (errs (l.take k)) (k + 1)) (hr : ∀ x, rw' x = rowsOf (l.take (k + 1)) x) (ht : l[k]? = some o) (hE : E = errL (st (l.take k) o.2.2) o)
    (T9 : Tab erE w9 (V.heap.size + 1) tEr (.slice A9 (k + 1) c9) (errs (l.take k) ++ [E])) (G9 : (w.alloc (.cells #[.int .i64 E] tEr)).grownBy w9 (Value.slice A5 k c5).ownBlock) (U9 : (Value.slice A9 (k + 1) c9).ownBlock = (Value.slice A5 k c5).ownBlock ∨ (Value.slice A9 (k + 1) c9).ownBlock = some (w.heap.size + 1)) :
    MSt V w9 f ks (rowsOf (l.take (k + 1))) (.slice A9 (k + 1) c9) (errs (l.take (k + 1))) (k + 1) := by
  have e : errs (l.take (k + 1)) = errs (l.take k) ++ [E] := by rw [List.take_add_one, ht, hE]; exact errs_snoc _ _
  rw [e]
  refine ((h.later (low_lit w (.cells #[.int .i64 E] tEr))).congr hr).err G9 T9 (fun g hg => ?_)
  rcases U9 with u | u
  · left; rw [← u]; exact hg
  · right; rw [hg] at u; injection u with u; simp; omega
theorem flag_at {lr : List LO} {m : Nat} {x0 x : LO} (h0 : lr[0]? = some x0) (hx : lr[m + 1]? = some x) : has lr (m + 1) = (decide (x0.1 = 1) && decide (x.1 = 1) && has lr m) := by
  cases lr with
  | nil => simp at h0
  | cons o r =>
    simp at h0
    subst h0
    exact has_succ hx
theorem lk_drew {w W : World} {B b r : Nat} {vo z : Value} {xs : List L4} {ls : List Lc} {P : Prop} {f : Int → Value} {ks : List Int} {left : Lit → Bool} {cnt N : Nat} (h1 : LT w B vo xs ls) (h2 : P) (h3 : Below N W w) (h4 : NRange w b r z f ks left cnt) (h5 : N + 1 ≤ w.heap.size) : LT w.drew B vo xs ls ∧ P ∧ Below N W w.drew ∧ NRange w.drew b r z f ks left cnt ∧ N + 1 ≤ w.drew.heap.size :=
  ⟨h1.later (Mem.below_drew (Below.refl _ _)), h2, Mem.below_drew h3, h4.later (Mem.below_drew (Below.refl _ _)), h5⟩
theorem take_snoc {l : List LO} {k : Nat} {o : LO} (h : l[k]? = some o) : l.take (k + 1) = l.take k ++ [o] := by rw [List.take_add_one, h]; rfl

set_option maxRecDepth 100000 in
set_option maxHeartbeats 64000000 in
theorem splay_c (A : Option Addr) (l : List LO) (n ca : Nat) (V : World) (hl : l.length = n) (hbig : n ≤ 4194304) (hx : Reads V A (flat loE l)) (hf : FitOs l) (kl : Nat) (hkl : (locks l).length = kl) :
    Calls Try.prog 9 #[.slice A n ca] V (PlayOut (errs l) n (locks l) kl V) := by
  have HL := Lib.hid hl
  have HX := Lib.hid hx
  have HF := Lib.hid hf
  have HBIG := Lib.hid hbig
  have HKL := Lib.hid hkl
  have hmm := @run_makeMap Try.prog
  have M0 := Lib.hid (MSt.start V)
  clear hl hbig hx hf hkl
  go_enter Try.func9, Try.ntmps9
  go_wp2_with fail
  clear hmm
  go_loopw [5, 26] (fun v5 i wr => ∃ (k : Nat) (f : Int → Value) (ks : List Int) (A5 : Option Addr) (c5 : Nat), k ≤ n ∧ i = .int .i64 k ∧ v5 = .slice A5 k c5 ∧ MSt V wr f ks (rowsOf (l.take k)) (.slice A5 k c5) (errs (l.take k)) k) (fun _ i _ => n - (intOf i).toNat)
  case atStart => exact ⟨0, _, _, none, 0, by omega, rfl, rfl, M0.out⟩
  case round =>
    obtain ⟨k, f, ks, A5, c5, hk, rfl, rfl, hM⟩ := hrel
    obtain ⟨wo, rfl⟩ : ∃ wo : World, wo = wr := ⟨_, rfl⟩
    have MM := Lib.hid hM
    by_cases hlt : k < n
    · obtain ⟨⟨kd, nd, ky⟩, ht⟩ : ∃ x, l[k]? = some x := ⟨_, List.getElem?_eq_getElem (by rw [HL.out]; exact hlt)⟩
      obtain ⟨b1, o1, hA1, _, x0, x1, x2⟩ := lo_at (HX.out.below hM.below) ht
      obtain ⟨d0, d1, d2⟩ := box_lo (w := wo) (kd, nd, ky)
      obtain ⟨w1, hw1⟩ : ∃ W, wo.alloc (.cells #[.int .i64 kd, .int .i64 nd, .int .i64 ky] 36) = W := ⟨_, rfl⟩
      have M1 := Lib.hid (show MSt V w1 f ks (rowsOf (l.take k)) (.slice A5 k c5) (errs (l.take k)) k from hw1 ▸ hM.later (low_lit wo _))
      rw [hw1] at d0 d1 d2
      obtain ⟨bo, hbo⟩ : ∃ b, wo.heap.size = b := ⟨_, rfl⟩
      rw [hbo] at d0 d1 d2
      have DB := Lib.hid (show V.heap.size + 1 ≤ bo ∧ bo < w1.heap.size ∧ ∀ x g, (f x).ownBlock = some g → g < bo from ⟨hbo ▸ hM.lt, by rw [← hw1, ← hbo]; simp, fun x g hg => hbo ▸ (hM.own x hg).2⟩)
      have SK := Lib.hid (show ∀ w, Below w1.heap.size w1 w → w.cell? ⟨bo, 0, none⟩ = some (.int .i64 kd) ∧ w.cell? ⟨bo, 1, none⟩ = some (.int .i64 nd) ∧ w.cell? ⟨bo, 2, none⟩ = some (.int .i64 ky) from fun w hb =>
        ⟨(hb.cell (World.block_lt_of_cell? _ _ d0)).trans d0, (hb.cell (World.block_lt_of_cell? _ _ d1)).trans d1, (hb.cell (World.block_lt_of_cell? _ _ d2)).trans d2⟩)
      have HT := Lib.hid ht
      have FO := Lib.hid (HF.out _ (List.mem_of_getElem? ht))
      have i1 : (k : Int) < (n : Int) := by omega
      obtain ⟨rr, hrr⟩ : ∃ r, st (l.take k) ky = r := ⟨_, rfl⟩
      obtain ⟨n0, hn0⟩ : ∃ n0, rr.length = n0 := ⟨_, rfl⟩
      have HRR := Lib.hid hrr
      have HN0 := Lib.hid hn0
      have OKR := Lib.hid (show Ok ky rr from hrr ▸ st_ok ky (l.take k))
      have N16 := Lib.hid (show n0 ≤ 16 from hn0 ▸ row_len OKR.out)
      obtain ⟨A0, c0, hf0, hnc, hcm, hR0, hA0⟩ := M1.out.form ky (n := n0) (by unfold rowsOf; rw [hrr, rowF_len]; exact hn0)
      have LK := M1.out.look ky FO.out.2.2
      rw [hf0] at LK
      have HF0 := Lib.hid hf0
      have HNC := Lib.hid (show n0 ≤ c0 ∧ c0 ≤ maxLen from ⟨hnc, hcm⟩)
      have RR0 := Lib.hid (show Reads w1 A0 (flat swE (rowF rr)) by have := hR0; unfold rowsOf at this; rwa [hrr] at this)
      have HA0 := Lib.hid hA0
      simp only at x0 x1 x2 d0 d1 d2
      subst hA1
      clear ht hM hrr hn0 hf0 hnc hcm hR0 hA0
      go_wp2_with fail
      clear hw1 hbo x0 x1 x2
      go_loopw [9, 35] (fun v9 v35 w => ∃ j : Nat, j ≤ n0 ∧ v35 = .int .i64 j ∧ v9 = .int .i64 (atR rr nd j) ∧ Below w1.heap.size w1 w) (fun _ v35 _ => n0 - (intOf v35).toNat)
      case atStart => exact ⟨0, by omega, rfl, rfl, Below.refl _ _⟩
      case round =>
        obtain ⟨j, hj, rfl, rfl, hB⟩ := hrel
        have BB := Lib.hid hB
        by_cases hjl : j < n0
        · obtain ⟨o, ho⟩ : ∃ o, rr[j]? = some o := ⟨_, List.getElem?_eq_getElem (by rw [HN0.out]; exact hjl)⟩
          obtain ⟨⟨oa, ob, oc⟩, hoo⟩ : ∃ q, q = o := ⟨_, rfl⟩
          obtain ⟨g, o2, hA0, _, y0, y1, y2, y3⟩ := sw_at (RR0.out.below hB) (rowF_at ho)
          rw [← hoo] at y0 y1 y2
          obtain ⟨fl, hfl⟩ : ∃ fl, has rr j = fl := ⟨_, rfl⟩
          rw [hfl] at y3
          obtain ⟨z0, z1, z2, z3⟩ := box_sw (w := wr) ((oa, ob, oc), fl)
          have BW := Lib.hid (show Below w1.heap.size w1 (wr.alloc (.cells #[.int .i64 oa, .int .i64 ob, .int .i64 oc, .bool fl] tSw)) from hB.alloc hB.size _)
          obtain ⟨d0', d1', d2'⟩ := SK.out _ BW.out
          have E := Lib.hid (atR_suc (nd := nd) ho)
          rw [← hoo] at E
          have i2 : (j : Int) < (n0 : Int) := by omega
          have i3 := N16.out
          simp only at y0 y1 y2 y3 z0 z1 z2 z3
          subst hA0
          clear ho hoo hfl hB d0 d1 d2 LK
          by_cases he : ob = nd
          · subst he
            have e1 : (ob == ob) = true := by simp
            go_wp2_with fail
            go_roundw
            case rel => exact ⟨j + 1, by omega, by go_num, by rw [E.out]; simp, BW.out⟩
            case measure => simp [intOf]; omega
          · have e1 : (ob == nd) = false := by simpa using he
            go_wp2_with fail
            go_roundw
            case rel => exact ⟨j + 1, by omega, by go_num, by rw [E.out]; simp only; rw [if_neg he], BW.out⟩
            case measure => simp [intOf]; omega
        · obtain rfl : j = n0 := by omega
          obtain ⟨w2, rfl⟩ : ∃ w2 : World, w2 = wr := ⟨_, rfl⟩
          have M2 := Lib.hid (M1.out.later hB)
          obtain ⟨d0, d1, d2⟩ := SK.out _ hB
          have ATA := atR_all rr nd
          rw [HN0.out] at ATA
          have AT := Lib.hid ATA
          obtain ⟨at_, hat⟩ : ∃ a, atR rr nd j = a := ⟨_, rfl⟩
          rw [hat] at AT ⊢
          have RR2 := Lib.hid (RR0.out.below hB)
          have B2 := Lib.hid hB
          clear LK hB ATA hat hj hjl
          go_upto_block 4 with fail
          go_cut [8, 12] from 48 to 108 (fun v8 v12 wx => ∃ (e1 : Int) (f' : Int → Value) (ks' : List Int) (rx : List SW), v8 = .int .i64 e1 ∧ MSt V wx f' ks' (setR (rowsOf (l.take k)) ky rx) (.slice A5 k c5) (errs (l.take k)) (k + 1) ∧ Sw rr (kd, nd, ky) e1 rx ∧
            wx.cell? ⟨bo, 0, none⟩ = some (.int .i64 kd) ∧ wx.cell? ⟨bo, 1, none⟩ = some (.int .i64 nd) ∧ wx.cell? ⟨bo, 2, none⟩ = some (.int .i64 ky) ∧ ∀ g, (f' ky).ownBlock = some g → g ≠ bo)
          case first => as_aux_lemma =>
            have MS := Lib.hid (show MSt V w2 f ks (setR (rowsOf (l.take k)) ky (rowF rr)) (.slice A5 k c5) (errs (l.take k)) (k + 1) from (M2.out.more (Nat.le_succ _)).congr (fun x => by
              unfold setR
              split
              · rename_i e; subst e; show rowF (st (l.take k) x) = _; rw [HRR.out]
              · rfl))
            by_cases h1 : kd < 1
            · have he := e_kind (l := rr) (ky := ky) (kd := kd) (nd := nd) (.inl h1)
              have HE := Lib.hid he
              have HS := Lib.hid (s_same he (by decide) (by decide))
              clear he
              go_wp2
              go_meet
              exact ⟨5, f, ks, _, rfl, MS.out, .inr ⟨by decide, HE.out.symm, HS.out, rfl⟩, d0, d1, d2, fun g hg => by have := DB.out.2.2 ky g hg; omega⟩
            by_cases h2 : 3 < kd
            · have he := e_kind (l := rr) (ky := ky) (kd := kd) (nd := nd) (.inr h2)
              have HE := Lib.hid he
              have HS := Lib.hid (s_same he (by decide) (by decide))
              clear he
              go_wp2
              go_meet
              exact ⟨5, f, ks, _, rfl, MS.out, .inr ⟨by decide, HE.out.symm, HS.out, rfl⟩, d0, d1, d2, fun g hg => by have := DB.out.2.2 ky g hg; omega⟩
            have hk : ¬ (kd < 1 ∨ 3 < kd) := by omega
            by_cases h3 : nd < 0
            · have he := e_node (l := rr) (ky := ky) hk (.inl h3)
              have HE := Lib.hid he
              have HS := Lib.hid (s_same he (by decide) (by decide))
              clear he
              clear hk
              go_wp2
              go_meet
              exact ⟨2, f, ks, _, rfl, MS.out, .inr ⟨by decide, HE.out.symm, HS.out, rfl⟩, d0, d1, d2, fun g hg => by have := DB.out.2.2 ky g hg; omega⟩
            by_cases h4 : 15 < nd
            · have he := e_node (l := rr) (ky := ky) hk (.inr h4)
              have HE := Lib.hid he
              have HS := Lib.hid (s_same he (by decide) (by decide))
              clear he
              clear hk
              go_wp2
              go_meet
              exact ⟨2, f, ks, _, rfl, MS.out, .inr ⟨by decide, HE.out.symm, HS.out, rfl⟩, d0, d1, d2, fun g hg => by have := DB.out.2.2 ky g hg; omega⟩
            have hd : ¬ (nd < 0 ∨ 15 < nd) := by omega
            have ATO := AT.out
            by_cases h5 : kd = 3
            · have e5 : (kd == 3) = true := by simpa using h5
              rcases ATO with ⟨ha, hno⟩ | ⟨i, o, hij, ha, hio, hin, hyes⟩
              · subst ha
                have he := e_none (l := rr) (ky := ky) hk hd h5 hno
                have HE := Lib.hid he
                have HS := Lib.hid (s_same he (by decide) (by decide))
                clear he
                clear hk hd hno AT
                subst h5
                go_wp2
                go_meet
                exact ⟨3, f, ks, _, rfl, MS.out, .inr ⟨by decide, HE.out.symm, HS.out, rfl⟩, d0, d1, d2, fun g hg => by have := DB.out.2.2 ky g hg; omega⟩
              · subst ha
                subst h5
                obtain ⟨q, hq⟩ : ∃ q, q = i + 1 := ⟨_, rfl⟩
                have HQ := Lib.hid hq
                clear hq
                have HST := Lib.hid (show stepL rr (3, nd, ky) = rr.take i ++ rr.drop q by rw [HQ.out, s_free (l := rr) (ky := ky) hk hd rfl hyes, ← hin]; exact without_at OKR.out.nd hio)
                have HEE := Lib.hid (e_free (l := rr) (ky := ky) hk hd rfl hyes)
                obtain ⟨g0, hA0, _, _⟩ := HA0.out (by omega)
                subst hA0
                have LK2 := M2.out.look ky FO.out.2.2
                rw [HF0.out] at LK2
                have mt := Try.underlying49
                have WK := Lib.hid (wf_of FO.out.2.2)
                have KB := Lib.hid (show ks.length < 8388608 by have := M2.out.kl; have := HBIG.out; omega)
                have i5 : ¬ (i : Int) < 0 := by omega
                clear hk hd hyes AT hin hio
                by_cases hc : c0 = q
                · obtain rfl : q = j := by have := HNC.out; have := HQ.out; omega
                  have hc2 := hc.symm
                  clear hc
                  subst hc2
                  have i6 : ((i : Nat) : Int) < ((q : Nat) : Int) := by have := HQ.out; omega
                  have i7 : i < q := by have := HQ.out; omega
                  have i8 : q ≤ q := by have := HQ.out; omega
                  have i9 : q ≤ q := by have := HNC.out; omega
                  have i10 : q ≤ q := by have := HNC.out; have := HQ.out; omega
                  have i11 : ((q : Nat) : Int) ≤ ((q : Nat) : Int) := by omega
                  have i14 : ((q : Nat) : Int) ≤ ((q : Nat) : Int) := by omega
                  have i15 : (0 : Int) ≤ ((q : Nat) : Int) := by omega
                  have i16 : (0 : Int) ≤ ((i : Nat) : Int) := by omega
                  have i12 : i ≤ q := by omega
                  have i13 : ((i : Nat) : Int) ≤ ((q : Nat) : Int) := by omega
                  have w7 : IntKind.i64.wrap ((i : Int) + 1) = ((q : Nat) : Int) := by rw [show (i : Int) + 1 = ((q : Nat) : Int) by have := HQ.out; omega]; exact IntWalk.i64_in _ (by have := N16.out; omega)
                  have LN1 := Lib.hid (show (([] : List SW)).length = 0 from rfl)
                  have LN2 := Lib.hid (show ((rowF rr).take i).length = 0 + i by rw [List.length_take, rowF_len]; have := HN0.out; have := HQ.out; omega)
                  have LN3 := Lib.hid (show ((rowF rr).take i).length = i by rw [List.length_take, rowF_len]; have := HN0.out; have := HQ.out; omega)
                  have LN4 := Lib.hid (show ((rowF rr).drop q).length = 0 by rw [List.length_drop, rowF_len]; have := HN0.out; have := HQ.out; omega)
                  have T0 := Lib.hid (show Tab swE (w2.drew.alloc (.cells #[] tSw)) w2.heap.size tSw (.slice (some ⟨w2.heap.size, 0, none⟩) 0 0) [] from World.ownsRow_made w2.drew #[] 0 (Nat.le_refl _) (Nat.zero_le _) (by simp))
                  have DBD := Lib.hid (show Below w2.heap.size w2 (w2.drew.alloc (.cells #[] tSw)) from (Mem.below_drew (Below.refl _ _)).alloc (Nat.le_refl _) _)
                  have SZ1 := Lib.hid (show w2.heap.size ≤ ((w2.drew.alloc (.cells #[] tSw))).heap.size from DBD.out.size)
                  have R1 := Lib.hid (show ∀ w, Below w2.heap.size w2 w → Reads w (some ⟨g0, 0, none⟩) (flat swE ((rowF rr).take i)) from fun w hb => rds_take swE (by decide) (RR2.out.below hb) i)
                  have R2 := Lib.hid (show ∀ w, Below w2.heap.size w2 w → Reads w (some ⟨g0, 0, none⟩) (flat swE ((rowF rr).drop q)) from fun w hb => by rw [show (rowF rr).drop q = [] from List.drop_eq_nil_of_le (by rw [rowF_len]; have := HN0.out; have := HQ.out; omega)]; exact Reads.nil)
                  have CM := Lib.hid (show ∀ w w' : World, (w.cell? ⟨bo, 0, none⟩ = some (.int .i64 3) ∧ w.cell? ⟨bo, 1, none⟩ = some (.int .i64 nd) ∧ w.cell? ⟨bo, 2, none⟩ = some (.int .i64 ky)) → w.grownBy w' (some V.heap.size) → (w'.cell? ⟨bo, 0, none⟩ = some (.int .i64 3) ∧ w'.cell? ⟨bo, 1, none⟩ = some (.int .i64 nd) ∧ w'.cell? ⟨bo, 2, none⟩ = some (.int .i64 ky)) from fun w w' h hg => by
                    have hne : some bo ≠ some V.heap.size := fun e => by injection e with e; have := DB.out.1; omega
                    exact ⟨hg.cell h.1 hne, hg.cell h.2.1 hne, hg.cell h.2.2 hne⟩)
                  have CB := Lib.hid (show ∀ w : World, Below w2.heap.size w2 w → (w.cell? ⟨bo, 0, none⟩ = some (.int .i64 3) ∧ w.cell? ⟨bo, 1, none⟩ = some (.int .i64 nd) ∧ w.cell? ⟨bo, 2, none⟩ = some (.int .i64 ky)) from fun w hb => SK.out _ (B2.out.trans (hb.mono B2.out.size)))
                  have CL := Lib.hid (CB.out _ DBD.out)
                  have SD := Lib.hid (show w2.drew.cell? ⟨bo, 0, none⟩ = some (.int .i64 3) ∧ w2.drew.cell? ⟨bo, 1, none⟩ = some (.int .i64 nd) ∧ w2.drew.cell? ⟨bo, 2, none⟩ = some (.int .i64 ky) from CB.out _ (Mem.below_drew (Below.refl _ _)))
                  have SN := Lib.hid (show (w2.alloc (.cells #[] tSw)).cell? ⟨bo, 0, none⟩ = some (.int .i64 3) ∧ (w2.alloc (.cells #[] tSw)).cell? ⟨bo, 1, none⟩ = some (.int .i64 nd) ∧ (w2.alloc (.cells #[] tSw)).cell? ⟨bo, 2, none⟩ = some (.int .i64 ky) from CL.out)
                  go_upto_region 23 with fail
                  clear h1 h2 h3 h4 e5 LK2
                  go_region_held3 (fun w : World => w.cell? ⟨bo, 0, none⟩ = some (.int .i64 3) ∧ w.cell? ⟨bo, 1, none⟩ = some (.int .i64 nd) ∧ w.cell? ⟨bo, 2, none⟩ = some (.int .i64 ky)) (first | exact SD.out | exact CL.out | exact SN.out | exact K4.out | exact K5.out | exact K6.out | go_keep) (first
                      | (refine step_append_g elSw (by decide) (B := w2.heap.size) (n := 0) (m := i) (c := q) (b := g0) (o' := 0) (v := .slice (some ⟨w2.heap.size, 0, none⟩) 0 0) (es := []) (ys := (rowF rr).take i) (AD := some ⟨g0, 0, none⟩) (by rfl) _ _ (by rfl) rfl rfl rfl T0.out LN1.out (R1.out _ DBD.out) LN3.out (by unfold maxLen; have := N16.out; omega) (by have := N16.out; omega) SZ1.out ?_; intro A6 c6 w4 T4 G4; have B4 := Lib.hid (T0.out.below G4.out DBD.out (Nat.le_refl _) SZ1.out); have K4 := Lib.hid (CB.out _ B4.out); have TT4 := Lib.hid (show Tab swE w4 w2.heap.size tSw (.slice A6 (0 + i) c6) ((rowF rr).take i) by have := T4.out; rwa [List.nil_append] at this); have SZ4 := Lib.hid (show w2.heap.size ≤ w4.heap.size from B4.out.size))
                      | (refine step_append_g elSw (by decide) (B := w2.heap.size) (n := 0 + i) (m := 0) (c := 0) (b := g0) (o' := 0) (v := .slice A6 (0 + i) c6) (es := (rowF rr).take i) (ys := (rowF rr).drop q) (AD := some ⟨g0, 0, none⟩) (by rfl) _ _ (by rfl) rfl rfl rfl TT4.out LN2.out (R2.out _ B4.out) LN4.out (by unfold maxLen; have := N16.out; omega) (by have := N16.out; omega) SZ4.out ?_; intro A7 c7 w5 T5 G5; have B5 := Lib.hid (TT4.out.below G5.out B4.out (Nat.le_refl _) SZ4.out); have K5 := Lib.hid (CB.out _ B5.out); have T7 := Lib.hid (show Tab swE w5 w2.heap.size tSw (.slice A7 i c7) ((rowF rr).take i ++ (rowF rr).drop q) by have := T5.out; rwa [show 0 + i + 0 = i by omega] at this); obtain ⟨w6, hu6, n6, gg6⟩ := (M2.out.mp1 (x := ky) (.inl rfl) (grow_of_below B5.out)).upd mt KB.out ky WK.out (.slice A7 i c7); have N6 := Lib.hid n6; have G6 := Lib.hid gg6; clear n6 gg6; have K6 := Lib.hid (CM.out _ _ K5.out G6.out)))
                  all_goals
                    go_wp2
                    go_meet
                    refine ⟨0, _, _, (rowF rr).take i ++ (rowF rr).drop q, rfl, M2.out.upd FO.out.2.2 (.inl rfl) (grow_of_below B5.out) (T7.out.down M2.out.lt) (fun g hg => .inr (T7.out.lt g hg).1) N6.out G6.out, .inl ⟨rfl, ?_, .inl ⟨rfl, HEE.out⟩⟩, K6.out.1, K6.out.2.1, K6.out.2.2, fun g hg => by rw [setI_same] at hg; have h0 := (T7.out.lt g hg).1; have h1 := DB.out.2.1; have h2 := B2.out.size; omega⟩
                    rw [HST.out, List.map_append, List.map_take, List.map_drop, rowF_fst]
                · have hcf : (c0 = q) = False := by simpa using hc
                  have i6 : ((i : Nat) : Int) < ((j : Nat) : Int) := by have := HQ.out; omega
                  have i7 : i < j := by have := HQ.out; omega
                  have i8 : q ≤ j := by have := HQ.out; omega
                  have i9 : j ≤ c0 := by have := HNC.out; omega
                  have i10 : q ≤ c0 := by have := HNC.out; have := HQ.out; omega
                  have i11 : ((q : Nat) : Int) ≤ ((j : Nat) : Int) := by omega
                  have i14 : ((q : Nat) : Int) ≤ ((c0 : Nat) : Int) := by omega
                  have i15 : (0 : Int) ≤ ((q : Nat) : Int) := by omega
                  have i16 : (0 : Int) ≤ ((i : Nat) : Int) := by omega
                  have i12 : i ≤ c0 := by omega
                  have i13 : ((i : Nat) : Int) ≤ ((c0 : Nat) : Int) := by omega
                  have w7 : IntKind.i64.wrap ((i : Int) + 1) = ((q : Nat) : Int) := by rw [show (i : Int) + 1 = ((q : Nat) : Int) by have := HQ.out; omega]; exact IntWalk.i64_in _ (by have := N16.out; omega)
                  have LN1 := Lib.hid (show (([] : List SW)).length = 0 from rfl)
                  have LN2 := Lib.hid (show ((rowF rr).take i).length = 0 + i by rw [List.length_take, rowF_len]; have := HN0.out; have := HQ.out; omega)
                  have LN3 := Lib.hid (show ((rowF rr).take i).length = i by rw [List.length_take, rowF_len]; have := HN0.out; have := HQ.out; omega)
                  have LN4 := Lib.hid (show ((rowF rr).drop q).length = (j - q) by rw [List.length_drop, rowF_len]; have := HN0.out; have := HQ.out; omega)
                  have T0 := Lib.hid (show Tab swE (w2.drew.alloc (.cells #[] tSw)) w2.heap.size tSw (.slice (some ⟨w2.heap.size, 0, none⟩) 0 0) [] from World.ownsRow_made w2.drew #[] 0 (Nat.le_refl _) (Nat.zero_le _) (by simp))
                  have DBD := Lib.hid (show Below w2.heap.size w2 (w2.drew.alloc (.cells #[] tSw)) from (Mem.below_drew (Below.refl _ _)).alloc (Nat.le_refl _) _)
                  have SZ1 := Lib.hid (show w2.heap.size ≤ ((w2.drew.alloc (.cells #[] tSw))).heap.size from DBD.out.size)
                  have R1 := Lib.hid (show ∀ w, Below w2.heap.size w2 w → Reads w (some ⟨g0, 0, none⟩) (flat swE ((rowF rr).take i)) from fun w hb => rds_take swE (by decide) (RR2.out.below hb) i)
                  have R2 := Lib.hid (show ∀ w, Below w2.heap.size w2 w → Reads w (some ⟨g0, q * 4, none⟩) (flat swE ((rowF rr).drop q)) from fun w hb => by have := rds_drop swE (by decide) (RR2.out.below hb) q; rwa [Nat.zero_add] at this)
                  have CM := Lib.hid (show ∀ w w' : World, (w.cell? ⟨bo, 0, none⟩ = some (.int .i64 3) ∧ w.cell? ⟨bo, 1, none⟩ = some (.int .i64 nd) ∧ w.cell? ⟨bo, 2, none⟩ = some (.int .i64 ky)) → w.grownBy w' (some V.heap.size) → (w'.cell? ⟨bo, 0, none⟩ = some (.int .i64 3) ∧ w'.cell? ⟨bo, 1, none⟩ = some (.int .i64 nd) ∧ w'.cell? ⟨bo, 2, none⟩ = some (.int .i64 ky)) from fun w w' h hg => by
                    have hne : some bo ≠ some V.heap.size := fun e => by injection e with e; have := DB.out.1; omega
                    exact ⟨hg.cell h.1 hne, hg.cell h.2.1 hne, hg.cell h.2.2 hne⟩)
                  have CB := Lib.hid (show ∀ w : World, Below w2.heap.size w2 w → (w.cell? ⟨bo, 0, none⟩ = some (.int .i64 3) ∧ w.cell? ⟨bo, 1, none⟩ = some (.int .i64 nd) ∧ w.cell? ⟨bo, 2, none⟩ = some (.int .i64 ky)) from fun w hb => SK.out _ (B2.out.trans (hb.mono B2.out.size)))
                  have CL := Lib.hid (CB.out _ DBD.out)
                  have SD := Lib.hid (show w2.drew.cell? ⟨bo, 0, none⟩ = some (.int .i64 3) ∧ w2.drew.cell? ⟨bo, 1, none⟩ = some (.int .i64 nd) ∧ w2.drew.cell? ⟨bo, 2, none⟩ = some (.int .i64 ky) from CB.out _ (Mem.below_drew (Below.refl _ _)))
                  have SN := Lib.hid (show (w2.alloc (.cells #[] tSw)).cell? ⟨bo, 0, none⟩ = some (.int .i64 3) ∧ (w2.alloc (.cells #[] tSw)).cell? ⟨bo, 1, none⟩ = some (.int .i64 nd) ∧ (w2.alloc (.cells #[] tSw)).cell? ⟨bo, 2, none⟩ = some (.int .i64 ky) from CL.out)
                  go_upto_region 23 with fail
                  clear h1 h2 h3 h4 e5 LK2
                  go_region_held3 (fun w : World => w.cell? ⟨bo, 0, none⟩ = some (.int .i64 3) ∧ w.cell? ⟨bo, 1, none⟩ = some (.int .i64 nd) ∧ w.cell? ⟨bo, 2, none⟩ = some (.int .i64 ky)) (first | exact SD.out | exact CL.out | exact SN.out | exact K4.out | exact K5.out | exact K6.out | go_keep) (first
                      | (refine step_append_g elSw (by decide) (B := w2.heap.size) (n := 0) (m := i) (c := c0) (b := g0) (o' := 0) (v := .slice (some ⟨w2.heap.size, 0, none⟩) 0 0) (es := []) (ys := (rowF rr).take i) (AD := some ⟨g0, 0, none⟩) (by rfl) _ _ (by rfl) rfl rfl rfl T0.out LN1.out (R1.out _ DBD.out) LN3.out (by unfold maxLen; have := N16.out; omega) (by have := N16.out; omega) SZ1.out ?_; intro A6 c6 w4 T4 G4; have B4 := Lib.hid (T0.out.below G4.out DBD.out (Nat.le_refl _) SZ1.out); have K4 := Lib.hid (CB.out _ B4.out); have TT4 := Lib.hid (show Tab swE w4 w2.heap.size tSw (.slice A6 (0 + i) c6) ((rowF rr).take i) by have := T4.out; rwa [List.nil_append] at this); have SZ4 := Lib.hid (show w2.heap.size ≤ w4.heap.size from B4.out.size))
                      | (refine step_append_g elSw (by decide) (B := w2.heap.size) (n := 0 + i) (m := (j - q)) (c := (c0 - q)) (b := g0) (o' := q * 4) (v := .slice A6 (0 + i) c6) (es := (rowF rr).take i) (ys := (rowF rr).drop q) (AD := some ⟨g0, q * 4, none⟩) (by rfl) _ _ (by rfl) rfl rfl rfl TT4.out LN2.out (R2.out _ B4.out) LN4.out (by unfold maxLen; have := N16.out; omega) (by have := N16.out; omega) SZ4.out ?_; intro A7 c7 w5 T5 G5; have B5 := Lib.hid (TT4.out.below G5.out B4.out (Nat.le_refl _) SZ4.out); have K5 := Lib.hid (CB.out _ B5.out); have T7 := Lib.hid (show Tab swE w5 w2.heap.size tSw (.slice A7 (i + (j - q)) c7) ((rowF rr).take i ++ (rowF rr).drop q) by have := T5.out; rwa [show 0 + i + (j - q) = (i + (j - q)) by omega] at this); obtain ⟨w6, hu6, n6, gg6⟩ := (M2.out.mp1 (x := ky) (.inl rfl) (grow_of_below B5.out)).upd mt KB.out ky WK.out (.slice A7 (i + (j - q)) c7); have N6 := Lib.hid n6; have G6 := Lib.hid gg6; clear n6 gg6; have K6 := Lib.hid (CM.out _ _ K5.out G6.out)))
                  all_goals
                    go_wp2
                    go_meet
                    refine ⟨0, _, _, (rowF rr).take i ++ (rowF rr).drop q, rfl, M2.out.upd FO.out.2.2 (.inl rfl) (grow_of_below B5.out) (T7.out.down M2.out.lt) (fun g hg => .inr (T7.out.lt g hg).1) N6.out G6.out, .inl ⟨rfl, ?_, .inl ⟨rfl, HEE.out⟩⟩, K6.out.1, K6.out.2.1, K6.out.2.2, fun g hg => by rw [setI_same] at hg; have h0 := (T7.out.lt g hg).1; have h1 := DB.out.2.1; have h2 := B2.out.size; omega⟩
                    rw [HST.out, List.map_append, List.map_take, List.map_drop, rowF_fst]
            · have e5 : (kd == 3) = false := by simpa using h5
              rcases ATO with ⟨ha, hno⟩ | ⟨i, o, hij, ha, hio, hin, hyes⟩
              · subst ha
                have HST := Lib.hid (s_ask (l := rr) (ky := ky) hk hd h5 hno)
                have HEE := Lib.hid (e_ask (l := rr) (ky := ky) hk hd h5 hno)
                have K3 := Lib.hid (show kd < 3 by omega)
                have MD := Lib.hid (M2.out.later (Mem.below_drew (Below.refl _ _)))
                have DBD := Lib.hid (show Below w2.heap.size w2 (w2.drew.alloc (.cells #[.int .i64 kd, .int .i64 nd, .int .i64 ky, .bool false] tSw)) from (Mem.below_drew (Below.refl _ _)).alloc (Nat.le_refl _) _)
                have ML := Lib.hid (M2.out.later DBD.out)
                have LKd := MD.out.look ky FO.out.2.2
                have LKl := ML.out.look ky FO.out.2.2
                rw [HF0.out] at LKd LKl
                have LKm : (Instr.lookup 49 (.map (some V.heap.size)) (.int .i64 ky) false).run Try.prog (w2.alloc (.cells #[.int .i64 kd, .int .i64 nd, .int .i64 ky, .bool false] tSw)).drew = .ok (.slice A0 j c0) (w2.alloc (.cells #[.int .i64 kd, .int .i64 nd, .int .i64 ky, .bool false] tSw)).drew := LKl
                have KL := Lib.hid (show Known (w2.drew.alloc (.cells #[.int .i64 kd, .int .i64 nd, .int .i64 ky, .bool false] tSw)) w2.heap.size tSw #[.int .i64 kd, .int .i64 nd, .int .i64 ky, .bool false] from Known.made w2.drew _ _)
                have TL := Lib.hid (show Tab swE (w2.drew.alloc (.cells #[.int .i64 kd, .int .i64 nd, .int .i64 ky, .bool false] tSw)) (V.heap.size + 1) tSw (.slice A0 j c0) (rowF rr) by have := ML.out.row ky; rw [HF0.out] at this; unfold rowsOf at this; rwa [HRR.out] at this)
                have LN := Lib.hid (show (rowF rr).length = j by rw [rowF_len]; exact HN0.out)
                have SZ := Lib.hid (show V.heap.size + 1 ≤ (w2.drew.alloc (.cells #[.int .i64 kd, .int .i64 nd, .int .i64 ky, .bool false] tSw)).heap.size from ML.out.lt)
                have mt := Try.underlying49
                have WK := Lib.hid (wf_of FO.out.2.2)
                have KB := Lib.hid (show ks.length < 8388608 by have := M2.out.kl; have := HBIG.out; omega)
                have CK := Lib.hid (show ∀ w w' : World, (w.cell? ⟨bo, 0, none⟩ = some (.int .i64 kd) ∧ w.cell? ⟨bo, 1, none⟩ = some (.int .i64 nd) ∧ w.cell? ⟨bo, 2, none⟩ = some (.int .i64 ky)) → w.grownBy w' (Value.slice A0 j c0).ownBlock → (w'.cell? ⟨bo, 0, none⟩ = some (.int .i64 kd) ∧ w'.cell? ⟨bo, 1, none⟩ = some (.int .i64 nd) ∧ w'.cell? ⟨bo, 2, none⟩ = some (.int .i64 ky)) from fun w w' h hg => by
                  have hne : some bo ≠ (Value.slice A0 j c0).ownBlock := fun e => by have := DB.out.2.2 ky bo (by rw [HF0.out]; exact e.symm); omega
                  exact ⟨hg.cell h.1 hne, hg.cell h.2.1 hne, hg.cell h.2.2 hne⟩)
                have CM := Lib.hid (show ∀ w w' : World, (w.cell? ⟨bo, 0, none⟩ = some (.int .i64 kd) ∧ w.cell? ⟨bo, 1, none⟩ = some (.int .i64 nd) ∧ w.cell? ⟨bo, 2, none⟩ = some (.int .i64 ky)) → w.grownBy w' (some V.heap.size) → (w'.cell? ⟨bo, 0, none⟩ = some (.int .i64 kd) ∧ w'.cell? ⟨bo, 1, none⟩ = some (.int .i64 nd) ∧ w'.cell? ⟨bo, 2, none⟩ = some (.int .i64 ky)) from fun w w' h hg => by
                  have hne : some bo ≠ some V.heap.size := fun e => by injection e with e; have := DB.out.1; omega
                  exact ⟨hg.cell h.1 hne, hg.cell h.2.1 hne, hg.cell h.2.2 hne⟩)
                have CL := Lib.hid (SK.out _ (B2.out.trans (DBD.out.mono B2.out.size)))
                have HFO := Lib.hid (show (Value.slice A0 j c0).ownBlock = (f ky).ownBlock by rw [HF0.out])
                have SD := Lib.hid (show w2.drew.cell? ⟨bo, 0, none⟩ = some (.int .i64 kd) ∧ w2.drew.cell? ⟨bo, 1, none⟩ = some (.int .i64 nd) ∧ w2.drew.cell? ⟨bo, 2, none⟩ = some (.int .i64 ky) from SK.out _ (B2.out.trans ((Mem.below_drew (Below.refl _ _)).mono B2.out.size)))
                have SN := Lib.hid (show (w2.alloc (.cells #[.int .i64 kd, .int .i64 nd, .int .i64 ky, .bool false] tSw)).cell? ⟨bo, 0, none⟩ = some (.int .i64 kd) ∧ (w2.alloc (.cells #[.int .i64 kd, .int .i64 nd, .int .i64 ky, .bool false] tSw)).cell? ⟨bo, 1, none⟩ = some (.int .i64 nd) ∧ (w2.alloc (.cells #[.int .i64 kd, .int .i64 nd, .int .i64 ky, .bool false] tSw)).cell? ⟨bo, 2, none⟩ = some (.int .i64 ky) from CL.out)
                clear hk hd hno AT
                go_upto_region 14 with fail
                clear h1 h2 h3 h4 e5
                go_region_held3 (fun w : World => w.cell? ⟨bo, 0, none⟩ = some (.int .i64 kd) ∧ w.cell? ⟨bo, 1, none⟩ = some (.int .i64 nd) ∧ w.cell? ⟨bo, 2, none⟩ = some (.int .i64 ky)) (first | exact SD.out | exact CL.out | exact SN.out | exact K4.out | exact K5.out | go_keep) (first
                    | (refine step_append_1 elSw (by decide) (B := V.heap.size + 1) (n := j) (b := w2.heap.size) (v := .slice A0 j c0) (es := rowF rr) (y := ((kd, nd, ky), false)) (cs := #[.int .i64 kd, .int .i64 nd, .int .i64 ky, .bool false]) (by rfl) _ _ (by rfl) rfl rfl TL.out LN.out rfl KL.out (by unfold maxLen; have := N16.out; omega) (by have := N16.out; omega) SZ.out ?_; intro g4 c4 w4 T4 G4 U4; have K4 := Lib.hid (CK.out _ _ CL.out G4.out); have L4 := Lib.hid (show (Instr.lookup 49 (.map (some V.heap.size)) (.int .i64 ky) false).run Try.prog w4 = .ok (.slice A0 j c0) w4 by rw [← HF0.out]; exact (ML.out.mp1 (x := ky) (.inr HFO.out) G4.out).look mt (zeroSl _) ky WK.out); obtain ⟨w5, hu5, n5, gg5⟩ := (ML.out.mp1 (x := ky) (.inr HFO.out) G4.out).upd mt KB.out ky WK.out (.slice (some ⟨g4, 0, none⟩) (j + 1) c4); have N5 := Lib.hid n5; have G5 := Lib.hid gg5; clear n5 gg5; have K5 := Lib.hid (CM.out _ _ K4.out G5.out); obtain ⟨q0, q1, q2⟩ := K4.out))
                all_goals
                  go_wp2
                  go_meet
                  refine ⟨0, _, _, rowF rr ++ [((kd, nd, ky), false)], rfl, ML.out.upd FO.out.2.2 (.inr HFO.out) G4.out T4.out (fun g hg => ?_) N5.out G5.out, .inl ⟨rfl, ?_, .inr ⟨K3.out, HST.out, HEE.out⟩⟩, K5.out.1, K5.out.2.1, K5.out.2.2, fun g hg => ?_⟩
                  · have e : g4 = g := by simpa [Value.ownBlock] using hg
                    subst e
                    rcases U4.out with u | u
                    · left; rw [← HFO.out]; exact u
                    · right; rw [u]; exact Nat.le_refl _
                  · rw [HST.out, List.map_append, rowF_fst]; rfl
                  · rw [setI_same] at hg
                    have e : g4 = g := by simpa [Value.ownBlock] using hg
                    subst e
                    rcases U4.out with u | u
                    · have := DB.out.2.2 ky g4 (by rw [← HFO.out]; exact u); omega
                    · have h1 := DB.out.2.1
                      have h2 := B2.out.size
                      have h3 : g4 = w2.heap.size + 1 := by rw [u]; simp
                      omega
              · subst ha
                have i5 : (0 : Int) ≤ (i : Int) := by omega
                have he := e_form (l := rr) (ky := ky) hk hd h5 hyes
                have HE := Lib.hid he
                have HS := Lib.hid (s_same he (by decide) (by decide))
                clear he
                clear hk hd hyes AT hio hin hij
                go_wp2
                go_meet
                exact ⟨1, f, ks, _, rfl, MS.out, .inr ⟨by decide, HE.out.symm, HS.out, rfl⟩, d0, d1, d2, fun g hg => by have := DB.out.2.2 ky g hg; omega⟩
          case rest =>
            obtain ⟨e1, f3, ks3, rx, rfl, hM3, hSw, d0, d1, d2, hgn⟩ := hcut
            rcases hSw with ⟨rfl, hrx, hcase⟩ | ⟨hne, he1, hst, rfl⟩
            · obtain ⟨n3, hn3⟩ : ∃ n3, rx.length = n3 := ⟨_, rfl⟩
              obtain ⟨lr, hlr⟩ : ∃ lr, stepL rr (kd, nd, ky) = lr := ⟨_, rfl⟩
              have HLR := Lib.hid hlr
              have HCA := Lib.hid hcase
              rw [hlr] at hrx
              have HLN := Lib.hid (show lr.length = n3 by rw [← hrx, List.length_map]; exact hn3)
              have N17 := Lib.hid (show n3 ≤ 17 by
                have h1 : Ok ky lr := by have := OKR.out.step (o := (kd, nd, ky)); rwa [hlr] at this
                have := row_len h1
                rw [HLN.out] at this; omega)
              obtain ⟨A3, c3, hf3, hnc3, hcm3, _, hA3⟩ := hM3.form ky (n := n3) (by rw [setR_same]; exact hn3)
              have LK3 := hM3.look ky FO.out.2.2
              rw [hf3] at LK3
              have HF3 := Lib.hid hf3
              have HA3 := Lib.hid hA3
              have HNC3 := Lib.hid hnc3
              have HGN := Lib.hid hgn
              have M3 := Lib.hid hM3
              have U3 := Lib.hid (Upto.zero hrx)
              have L3 := Lib.hid hn3
              clear hM3 hrx hcase hn3 hlr hf3 hA3 hnc3 hcm3 hgn
              go_wp2_with fail
              go_loopw [117] (fun v wr => ∃ (i : Nat) (rx2 : List SW), i ≤ n3 ∧ v = .int .i64 i ∧ MSt V wr f3 ks3 (setR (rowsOf (l.take k)) ky rx2) (.slice A5 k c5) (errs (l.take k)) (k + 1) ∧ Upto lr i rx2 ∧ rx2.length = n3 ∧ wr.cell? ⟨bo, 0, none⟩ = some (.int .i64 kd) ∧ wr.cell? ⟨bo, 1, none⟩ = some (.int .i64 nd) ∧ wr.cell? ⟨bo, 2, none⟩ = some (.int .i64 ky)) (fun v _ => n3 - (intOf v).toNat)
              case atStart => exact ⟨0, rx, by omega, rfl, M3.out, U3.out, L3.out, d0, d1, d2⟩
              case round =>
                obtain ⟨i, rx2, hi, rfl, hM6, hU, hLX, e0', e1', e2'⟩ := hrel
                have LX := Lib.hid hLX
                clear LK3 d0 d1 d2 hLX
                have d0 := e0'
                have d1 := e1'
                have d2 := e2'
                clear e0' e1' e2'
                by_cases hil : i < n3
                · obtain ⟨g, hgA, _, _⟩ := HA3.out (by omega)
                  subst hgA
                  obtain ⟨x, hx⟩ : ∃ x, rx2[i]? = some x := ⟨_, List.getElem?_eq_getElem (by rw [LX.out]; exact hil)⟩
                  have hRx : Reads wr (some ⟨g, 0, none⟩) (flat swE rx2) := by
                    have ht := hM6.row ky
                    rw [HF3.out, setR_same] at ht
                    exact ht.reads
                  obtain ⟨g', o', e', _, y0, y1, y2, y3⟩ := sw_at hRx hx
                  injection e' with e'
                  injection e' with e1' e2'
                  subst e1' e2'
                  have yf : wr.frozen? ⟨g, i * 4 + 3, none⟩ = false := by
                    have ht := hM6.row ky
                    rw [HF3.out, setR_same] at ht
                    exact ht.free LX.out.symm _
                  obtain ⟨x1, hx1⟩ : ∃ q, q = x.1.1 := ⟨_, rfl⟩
                  rw [← hx1] at y0
                  have HLR := Lib.hid (hU.op hx)
                  obtain ⟨b, hb⟩ : ∃ b, has lr i = b := ⟨_, rfl⟩
                  have HB := Lib.hid hb
                  have HU1 := Lib.hid (hU.put hx)
                  rw [hb] at HU1
                  have HM1 := Lib.hid (show MSt V (wr.setCell ⟨g, i * 4 + 3, none⟩ (.bool b)) f3 ks3 (setR (rowsOf (l.take k)) ky (rx2.set i (x.1, b))) (.slice A5 k c5) (errs (l.take k)) (k + 1) from
                    (hM6.flag HF3.out (by rw [setR_same]; exact LX.out.symm) (by rw [setR_same]; exact hx) b).congr (fun z => by
                      unfold setR
                      split
                      · simp
                      · rfl))
                  have LX1 := Lib.hid (show (rx2.set i (x.1, b)).length = n3 by rw [List.length_set]; exact LX.out)
                  have GB := Lib.hid (show g ≠ bo from HGN.out g (by rw [HF3.out]; rfl))
                  have C1 := Lib.hid (show (wr.setCell ⟨g, i * 4 + 3, none⟩ (.bool b)).cell? ⟨bo, 0, none⟩ = some (.int .i64 kd) ∧ (wr.setCell ⟨g, i * 4 + 3, none⟩ (.bool b)).cell? ⟨bo, 1, none⟩ = some (.int .i64 nd) ∧ (wr.setCell ⟨g, i * 4 + 3, none⟩ (.bool b)).cell? ⟨bo, 2, none⟩ = some (.int .i64 ky) from by
                    refine ⟨?_, ?_, ?_⟩
                    · rw [World.cell?_setCell_other _ _ _ _ (fun e => GB.out (by injection e))]; exact d0
                    · rw [World.cell?_setCell_other _ _ _ _ (fun e => GB.out (by injection e))]; exact d1
                    · rw [World.cell?_setCell_other _ _ _ _ (fun e => GB.out (by injection e))]; exact d2)
                  have i2 : (i : Int) < (n3 : Int) := by omega
                  have i3 : n3 ≤ 17 := N17.out
                  simp only [Nat.zero_add] at y0 y1 y2 y3
                  have HX1 := Lib.hid hx1
                  clear hb hx1
                  by_cases h0 : i = 0
                  · subst h0
                    obtain rfl : true = b := by rw [← HB.out]; exact (has_zero (by intro e; have := HLR.out; rw [e] at this; simp at this)).symm
                    have z1 : (((0 : Nat) : Int) == 0) = true := by simp
                    have i5 : (0 : Int) < (n3 : Int) := by omega
                    simp only [Nat.zero_mul, Nat.zero_add] at y0 y1 y2 y3 yf HM1 C1
                    clear hU hM6 hRx
                    go_wp2_with fail
                    go_roundw
                    case rel => exact ⟨1, rx2.set 0 (x.1, true), by omega, by go_num, HM1.out, HU1.out, LX1.out, C1.out.1, C1.out.2.1, C1.out.2.2⟩
                    case measure => simp [intOf]; omega
                  · obtain ⟨m, hm⟩ : ∃ m, i = m + 1 := ⟨i - 1, by omega⟩
                    obtain ⟨xo, hxo⟩ : ∃ x, rx2[0]? = some x := ⟨_, List.getElem?_eq_getElem (by rw [LX.out]; omega)⟩
                    obtain ⟨xm, hxm⟩ : ∃ x, rx2[m]? = some x := ⟨_, List.getElem?_eq_getElem (by rw [LX.out]; omega)⟩
                    obtain ⟨g', o', e', _, u0, _, _, _⟩ := sw_at hRx hxo
                    injection e' with e'
                    injection e' with e1' e2'
                    subst e1' e2'
                    obtain ⟨g', o', e', _, _, _, _, u3⟩ := sw_at hRx hxm
                    injection e' with e'
                    injection e' with e1' e2'
                    subst e1' e2'
                    obtain ⟨a0, ha0⟩ : ∃ q, q = xo.1.1 := ⟨_, rfl⟩
                    obtain ⟨bm, hbm⟩ : ∃ q, q = xm.2 := ⟨_, rfl⟩
                    rw [← ha0] at u0
                    rw [← hbm] at u3
                    have EB := Lib.hid (show b = (decide (a0 = 1) && decide (x1 = 1) && bm) by
                      rw [← HB.out, hm, flag_at (hU.op hxo) (by rw [← hm]; exact hU.op hx), ha0, HX1.out, hbm, hU.2 m xm (by omega) hxm])
                    have z1 : ((i : Int) == 0) = false := by simpa using h0
                    have i5 : (0 : Int) < (n3 : Int) := by omega
                    have i6 : (m : Int) < (n3 : Int) := by omega
                    have w8 : IntKind.i64.wrap ((i : Int) - 1) = (m : Int) := by rw [show (i : Int) - 1 = (m : Int) by omega]; exact IntWalk.i64_in _ (by omega)
                    simp only [Nat.zero_add, Nat.zero_mul] at u0 u3
                    have HM := Lib.hid hm
                    clear hU hM6 hRx ha0 hbm hxo hxm hx hm y1 y2
                    by_cases c1 : a0 = 1
                    · have q1 : (a0 == 1) = true := by simpa using c1
                      by_cases c2 : x1 = 1
                      · have q2 : (x1 == 1) = true := by simpa using c2
                        obtain rfl : bm = b := by rw [EB.out, decide_eq_true c1, decide_eq_true c2]; rfl
                        clear c1 c2
                        cases bm with
                        | true =>
                          go_wp2_with fail
                          go_roundw
                          case rel => exact ⟨i + 1, rx2.set i (x.1, true), by omega, by go_num, HM1.out, HU1.out, LX1.out, C1.out.1, C1.out.2.1, C1.out.2.2⟩
                          case measure => simp [intOf]; omega
                        | false =>
                          go_wp2_with fail
                          go_roundw
                          case rel => exact ⟨i + 1, rx2.set i (x.1, false), by omega, by go_num, HM1.out, HU1.out, LX1.out, C1.out.1, C1.out.2.1, C1.out.2.2⟩
                          case measure => simp [intOf]; omega
                      · have q2 : (x1 == 1) = false := by simpa using c2
                        obtain rfl : false = b := by rw [EB.out, decide_eq_false c2]; simp
                        clear c1 c2
                        go_wp2_with fail
                        go_roundw
                        case rel => exact ⟨i + 1, rx2.set i (x.1, false), by omega, by go_num, HM1.out, HU1.out, LX1.out, C1.out.1, C1.out.2.1, C1.out.2.2⟩
                        case measure => simp [intOf]; omega
                    · have q1 : (a0 == 1) = false := by simpa using c1
                      obtain rfl : false = b := by rw [EB.out, decide_eq_false c1]; rfl
                      clear c1
                      go_wp2_with fail
                      go_roundw
                      case rel => exact ⟨i + 1, rx2.set i (x.1, false), by omega, by go_num, HM1.out, HU1.out, LX1.out, C1.out.1, C1.out.2.1, C1.out.2.2⟩
                      case measure => simp [intOf]; omega
                · obtain rfl : i = n3 := by omega
                  obtain ⟨w6, rfl⟩ : ∃ w6 : World, w6 = wr := ⟨_, rfl⟩
                  obtain rfl : rx2 = rowF lr := Upto.all (by rw [HLN.out]; exact hU)
                  have M6 := Lib.hid hM6
                  clear hM6 hU
                  rcases HCA.out with ⟨hk3, he3⟩ | ⟨hk3, hs3, he3⟩
                  · have hk3 : kd = 3 := hk3
                    subst hk3
                    have ML9 := Lib.hid (M6.out.er.alloc (.cells #[.int .i64 (0 : Int)] tEr))
                    have LE9 := Lib.hid (show (errs (l.take k)).length = k by rw [errs_len, List.length_take, HL.out]; omega)
                    have SZ9 := Lib.hid (show V.heap.size + 1 ≤ w6.heap.size from M6.out.lt)
                    have BG9 := Lib.hid (show (k + 1) * 8 ≤ 140737488355328 ∧ k + 1 ≤ maxLen from ⟨by have := HBIG.out; omega, by unfold maxLen; have := HBIG.out; omega⟩)
                    have i19 : k < 4194304 := by have := HBIG.out; omega
                    have HE9 := Lib.hid (show (0 : Int) = errL (st (l.take k) ky) (3, nd, ky) from by rw [HRR.out]; exact he3.symm)
                    have HR9 := Lib.hid (show ∀ x, setR (rowsOf (l.take k)) ky (rowF lr) x = rowsOf (l.take (k + 1)) x from fun x => by rw [take_snoc HT.out, ← rows_step x]; simp only; rw [HRR.out, HLR.out])
                    go_wp2_with (at_builtin; refine wpList_append_g (E := erE) elEr rfl _ _ (by rfl) (cs := #[.int .i64 (0 : Int)]) ((0 : Int)) rfl (by decide) (by rfl) (by rfl) M6.out.er LE9.out BG9.out.2 BG9.out.1 SZ9.out ?_; intro A9 c9 w9 T9 G9 U9)
                    go_roundw
                    case rel => exact ⟨k + 1, _, _, A9, c9, by omega, by go_num, rfl, M6.out.next HR9.out HT.out HE9.out T9.out G9.out U9.out⟩
                    case measure => simp [intOf]; omega
                  · have hk3 : kd < 3 := hk3
                    obtain ⟨p, hp⟩ : ∃ p, rr.length = p := ⟨_, rfl⟩
                    have hpn : i = p + 1 := by rw [← HLN.out, ← HLR.out, hs3]; simp [hp]
                    obtain ⟨g', hg', _, _⟩ := HA3.out (by omega)
                    obtain ⟨op, hop⟩ : ∃ o, lr[p]? = some o := ⟨_, List.getElem?_eq_getElem (by rw [HLN.out]; omega)⟩
                    have hRx : Reads w6 A3 (flat swE (rowF lr)) := by
                      have ht := M6.out.row ky
                      rw [HF3.out, setR_same] at ht
                      exact ht.reads
                    obtain ⟨g2, o2, e2, _, _, _, _, u3⟩ := sw_at hRx (rowF_at hop)
                    rw [hg'] at e2
                    injection e2 with e2
                    injection e2 with e21 e22
                    subst e21 e22 hg'
                    obtain ⟨b, hb⟩ : ∃ b, has lr p = b := ⟨_, rfl⟩
                    have HE3 := Lib.hid (show errL rr (kd, nd, ky) = if b = true then 0 else 6 by rw [he3, ← hs3, HLR.out, hp, hb])
                    have w8 : IntKind.i64.wrap ((i : Int) - 1) = (p : Int) := by rw [show (i : Int) - 1 = (p : Int) by omega]; exact IntWalk.i64_in _ (by have := N17.out; omega)
                    have i6 : (p : Int) < (i : Int) := by omega
                    simp only [Nat.zero_add] at u3
                    rw [hb] at u3
                    have i7 : i ≤ 17 := N17.out
                    clear hRx hop hb hs3 he3 hp hpn
                    cases b with
                    | true =>
                      have ML9 := Lib.hid (M6.out.er.alloc (.cells #[.int .i64 (0 : Int)] tEr))
                      have LE9 := Lib.hid (show (errs (l.take k)).length = k by rw [errs_len, List.length_take, HL.out]; omega)
                      have SZ9 := Lib.hid (show V.heap.size + 1 ≤ w6.heap.size from M6.out.lt)
                      have BG9 := Lib.hid (show (k + 1) * 8 ≤ 140737488355328 ∧ k + 1 ≤ maxLen from ⟨by have := HBIG.out; omega, by unfold maxLen; have := HBIG.out; omega⟩)
                      have i19 : k < 4194304 := by have := HBIG.out; omega
                      have HE9 := Lib.hid (show (0 : Int) = errL (st (l.take k) ky) (kd, nd, ky) from by rw [HRR.out]; exact HE3.out.symm)
                      have HR9 := Lib.hid (show ∀ x, setR (rowsOf (l.take k)) ky (rowF lr) x = rowsOf (l.take (k + 1)) x from fun x => by rw [take_snoc HT.out, ← rows_step x]; simp only; rw [HRR.out, HLR.out])
                      go_wp2_with (at_builtin; refine wpList_append_g (E := erE) elEr rfl _ _ (by rfl) (cs := #[.int .i64 (0 : Int)]) ((0 : Int)) rfl (by decide) (by rfl) (by rfl) M6.out.er LE9.out BG9.out.2 BG9.out.1 SZ9.out ?_; intro A9 c9 w9 T9 G9 U9)
                      go_roundw
                      case rel => exact ⟨k + 1, _, _, A9, c9, by omega, by go_num, rfl, M6.out.next HR9.out HT.out HE9.out T9.out G9.out U9.out⟩
                      case measure => simp [intOf]; omega
                    | false =>
                      have ML9 := Lib.hid (M6.out.er.alloc (.cells #[.int .i64 (6 : Int)] tEr))
                      have LE9 := Lib.hid (show (errs (l.take k)).length = k by rw [errs_len, List.length_take, HL.out]; omega)
                      have SZ9 := Lib.hid (show V.heap.size + 1 ≤ w6.heap.size from M6.out.lt)
                      have BG9 := Lib.hid (show (k + 1) * 8 ≤ 140737488355328 ∧ k + 1 ≤ maxLen from ⟨by have := HBIG.out; omega, by unfold maxLen; have := HBIG.out; omega⟩)
                      have i19 : k < 4194304 := by have := HBIG.out; omega
                      have HE9 := Lib.hid (show (6 : Int) = errL (st (l.take k) ky) (kd, nd, ky) from by rw [HRR.out]; exact HE3.out.symm)
                      have HR9 := Lib.hid (show ∀ x, setR (rowsOf (l.take k)) ky (rowF lr) x = rowsOf (l.take (k + 1)) x from fun x => by rw [take_snoc HT.out, ← rows_step x]; simp only; rw [HRR.out, HLR.out])
                      go_wp2_with (at_builtin; refine wpList_append_g (E := erE) elEr rfl _ _ (by rfl) (cs := #[.int .i64 (6 : Int)]) ((6 : Int)) rfl (by decide) (by rfl) (by rfl) M6.out.er LE9.out BG9.out.2 BG9.out.1 SZ9.out ?_; intro A9 c9 w9 T9 G9 U9)
                      go_roundw
                      case rel => exact ⟨k + 1, _, _, A9, c9, by omega, by go_num, rfl, M6.out.next HR9.out HT.out HE9.out T9.out G9.out U9.out⟩
                      case measure => simp [intOf]; omega
            · have e0 : (e1 == 0) = false := by simpa using hne
              have M3 := Lib.hid hM3
              have HE1 := Lib.hid he1
              have HS1 := Lib.hid hst
              clear hne he1 hst hM3
              have ML9 := Lib.hid (M3.out.er.alloc (.cells #[.int .i64 e1] tEr))
              have LE9 := Lib.hid (show (errs (l.take k)).length = k by rw [errs_len, List.length_take, HL.out]; omega)
              have SZ9 := Lib.hid (show V.heap.size + 1 ≤ wc.heap.size from M3.out.lt)
              have BG9 := Lib.hid (show (k + 1) * 8 ≤ 140737488355328 ∧ k + 1 ≤ maxLen from ⟨by have := HBIG.out; omega, by unfold maxLen; have := HBIG.out; omega⟩)
              have i19 : k < 4194304 := by have := HBIG.out; omega
              have HE9 := Lib.hid (show e1 = errL (st (l.take k) ky) (kd, nd, ky) from by rw [HRR.out]; exact HE1.out)
              have HR9 := Lib.hid (show ∀ x, setR (rowsOf (l.take k)) ky (rowF rr) x = rowsOf (l.take (k + 1)) x from fun x => by rw [take_snoc HT.out, ← rows_step x]; simp only; rw [HRR.out, HS1.out])
              go_wp2_with (at_builtin; refine wpList_append_g (E := erE) elEr rfl _ _ (by rfl) (cs := #[.int .i64 e1]) (e1) rfl (by decide) (by rfl) (by rfl) M3.out.er LE9.out BG9.out.2 BG9.out.1 SZ9.out ?_; intro A9 c9 w9 T9 G9 U9)
              go_roundw
              case rel => exact ⟨k + 1, _, _, A9, c9, by omega, by go_num, rfl, M3.out.next HR9.out HT.out HE9.out T9.out G9.out U9.out⟩
              case measure => simp [intOf]; omega
    · obtain rfl : n = k := by omega
      have E := Lib.hid (show l.take n = l from List.take_of_length_le (Nat.le_of_eq HL.out))
      rw [E.out] at MM
      obtain ⟨wz, rfl⟩ : ∃ wz : World, wz = wo := ⟨_, rfl⟩
      clear hM hlt hk
      go_wp2_with (at_range; refine wpList_range_n Try.underlying49 rfl _ rfl rfl MM.out.mp ?_; intro w0 left0 cnt0 NR0 LF0 B0 SZ0)
      go_frame
      have OS0 := Lib.hid (OutSt.start (l := l) LF0.out MM.out.kf)
      go_loopw [16] (fun v16 wr => ∃ (left : Lit → Bool) (cnt : Nat) (xs : List L4) (ls : List Lc) (A6 : Option Addr) (q c6 : Nat), NRange wr V.heap.size wz.heap.size (.slice none 0 0) f ks left cnt ∧ LT wr (wz.heap.size + 1) (.slice A6 q c6) xs ls ∧ OutSt l ks left ls ∧ v16 = .slice A6 q c6 ∧ ls.length = q ∧ Below wz.heap.size wz wr ∧ wz.heap.size + 1 ≤ wr.heap.size) (fun _ wr => wr.rangeLeft V.heap.size wz.heap.size)
      case atStart => exact ⟨_, _, [], [], none, 0, 0, NR0.out, LT.nil _ _, OS0.out, rfl, rfl, B0.out, Nat.le_of_eq SZ0.out.symm⟩
      case round =>
        obtain ⟨left, cnt, xs, ls, A6, q, c6, hNR, hT, hO, rfl, hq, hB, hsz⟩ := hrel
        clear NR0 LF0 B0 SZ0 OS0
        go_wp2_with (at_next; refine wpList_next_n rfl _ rfl rfl hNR ?_ ?_)
        · intro hdone
          have hls : ls = locks l := hO.done hdone.out (fun x hx => by
            have := MM.out.no x hx
            unfold rowsOf at this
            exact List.eq_nil_iff_length_eq_zero.2 (by rw [← rowF_len, this]; rfl))
          subst hls
          obtain rfl : q = kl := by rw [← hq]; exact HKL.out
          have MF := Lib.hid (MM.out.later hB)
          have LF9 := Lib.hid hT
          clear hT hO hNR hdone hB hq
          go_wp2
          go_ret2
          obtain ⟨A5', c5', e5, p1, p2⟩ := MF.out.er.form
          rw [show (errs l).length = n by rw [errs_len]; exact HL.out] at e5 p1
          injection e5 with e51 e52 e53
          subst e51 e53
          obtain ⟨A6', c6', e6, p3, p4⟩ := LF9.out.tab.form
          injection e6 with e61 e62 e63
          subst e61 e63
          rw [← e62] at p3
          have r5 := MF.out.er.reads
          rw [flat_er] at r5
          exact ⟨A5, c5, A6, c6, rfl, ⟨p1, by unfold maxLen at p2; omega⟩, ⟨p3, by unfold maxLen at p4; omega⟩, r5, LF9.out.new (by have := MM.out.lt; omega), MF.out.below⟩
        · intro x w4 cnt1 WX HLX HIN NR1 HLT G1 SZ1 hen
          have HNR := Lib.hid hNR
          have SZW := Lib.hid hsz
          have B1 := Lib.hid (show Below wz.heap.size wz w4 from hB.grown G1.out hB.size (fun j hj => by cases hj; exact Nat.le_refl _))
          have LT1 := Lib.hid (hT.other G1.out (Nat.lt_succ_self _))
          obtain ⟨nx, hnx⟩ : ∃ n, (st l x).length = n := ⟨_, rfl⟩
          have HNX := Lib.hid hnx
          have NX16 := Lib.hid (show nx ≤ 16 from hnx ▸ row_len (st_ok x l))
          obtain ⟨AX, cx, hfx, _, _, hRX, hAXp⟩ := (MM.out.later B1.out).form x (n := nx) (by unfold rowsOf; rw [rowF_len]; exact hnx)
          rw [hfx] at hen ⊢
          clear hnx hfx hsz hT hNR
          by_cases hx0 : nx = 0
          · have hs0 : st l x = [] := List.eq_nil_iff_length_eq_zero.2 (by rw [HNX.out]; exact hx0)
            have OS := Lib.hid (hO.skip hs0)
            have n0' : ((nx : Int) == 0) = true := by simp [hx0]
            clear hs0 hO hB hRX hAXp
            go_wp2_with fail
            go_roundw
            case rel => exact ⟨_, cnt1, xs, ls, A6, q, c6, NR1.out, LT1.out, OS.out, rfl, hq, B1.out, by have := SZW.out; have := SZ1.out; omega⟩
            case measure => rw [NR1.out.left_eq, HNR.out.left_eq]; exact HLT.out
          · obtain ⟨h, hh⟩ : ∃ h, held (st l x) = h := ⟨_, rfl⟩
            have HH := Lib.hid hh
            obtain ⟨o0, ho0⟩ : ∃ o, (st l x)[0]? = some o := ⟨_, List.getElem?_eq_getElem (by rw [HNX.out]; omega)⟩
            obtain ⟨a0, ha0⟩ : ∃ q, q = o0.1 := ⟨_, rfl⟩
            have RX := Lib.hid (show Reads w4 AX (flat swE (rowF (st l x))) from hRX)
            obtain ⟨gx, ox, hAX, _, y0, _, _, _⟩ := sw_at hRX (rowF_at ho0)
            simp only at y0
            rw [← ha0] at y0
            obtain ⟨gx', hAX', _, _⟩ := hAXp (by omega)
            rw [hAX'] at hAX
            injection hAX with hAX
            injection hAX with hg1 hg2
            subst hg1 hg2 hAX'
            obtain ⟨al, hal⟩ : ∃ b, (a0 == 2) = b := ⟨_, rfl⟩
            have HAL := Lib.hid (show decide ((st l x).head?.map (·.1) = some 2) = al by
              rw [← hal, ha0, List.head?_eq_getElem?, ho0]
              by_cases e : o0.1 = 2
              · simp [e]
              · simp [e])
            have X0 := Lib.hid (XM.start w4 x al)
            have n0' : ((nx : Int) == 0) = false := by simpa using hx0
            have i1 : (0 : Int) < (nx : Int) := by omega
            simp only [Nat.zero_mul, Nat.add_zero] at y0
            clear hh ho0 ha0 hRX hAXp
            go_wp2_with fail
            clear y0 hal
            go_loopw [191] (fun v wr => ∃ (j : Nat) (H : Option Addr) (nh ch : Nat) (S : Option Addr) (ns cs : Nat), j ≤ nx ∧ v = .int .i64 j ∧ XM w4 wr H nh ch S ns cs x al ((((st l x).take j).take h).map (·.2.1)) (((st l x).take j).drop h)) (fun v _ => nx - (intOf v).toNat)
            case atStart => exact ⟨0, none, 0, 0, none, 0, 0, by omega, rfl, by simpa using X0.out⟩
            case round =>
              obtain ⟨j, H, nh, ch, S, ns, cs, hj, rfl, hX⟩ := hrel
              by_cases hjl : j < nx
              · obtain ⟨o, ho⟩ : ∃ o, (st l x)[j]? = some o := ⟨_, List.getElem?_eq_getElem (by rw [HNX.out]; exact hjl)⟩
                obtain ⟨⟨oa, ob, oc⟩, hoo⟩ : ∃ q, q = o := ⟨_, rfl⟩
                obtain ⟨g', o', e', _, y0, y1, y2, y3⟩ := sw_at (RX.out.below hX.bel) (rowF_at ho)
                injection e' with e'
                injection e' with e1' e2'
                subst e1' e2'
                rw [← hoo] at y0 y1 y2
                obtain ⟨fl, hfl⟩ : ∃ fl, has (st l x) j = fl := ⟨_, rfl⟩
                rw [hfl] at y3
                obtain ⟨z0, z1, z2, z3⟩ := box_sw (w := wr) ((oa, ob, oc), fl)
                have XL := Lib.hid (hX.later (low_lit wr (.cells #[.int .i64 oa, .int .i64 ob, .int .i64 oc, .bool fl] tSw)))
                have i2 : (j : Int) < (nx : Int) := by omega
                have i3 : nx ≤ 16 := NX16.out
                simp only [Nat.zero_add] at y0 y1 y2 y3 z0 z1 z2 z3
                clear hX
                cases fl with
                | true =>
                  have hjh : j < h := by unfold has at hfl; rw [HH.out] at hfl; exact of_decide_eq_true hfl
                  have hob : o.2.1 = ob := by rw [← hoo]
                  rw [← hoo] at ho
                  have XA := Lib.hid (XL.out.later (low_lit _ (.cells #[.int .i64 ob] tIn)))
                  have KL := Lib.hid (known_lit2 wr (.cells #[.int .i64 oa, .int .i64 ob, .int .i64 oc, .bool true] tSw) tIn #[.int .i64 ob])
                  have SZ9 := Lib.hid XA.out.lt
                  have bc := XL.out.box.cell 2
                  have PH := Lib.hid (parts_has (h := h) ho hjh)
                  have LH := Lib.hid XL.out.lh
                  have i9 : nh ≤ 17 := by
                    have h1 := XL.out.lh
                    simp only [List.length_map, List.length_drop, List.length_take] at h1
                    have := NX16.out; omega
                  clear ho hjh hfl
                  go_wp2_with (at_builtin; refine wpList_append_1 (E := erE) elIn (by decide) rfl _ _ (by rfl) (n := nh) (b := wr.heap.size + 1) (v := .slice H nh ch) (y := ob) (cs := #[.int .i64 ob]) (by rfl) (by rfl) XA.out.th LH.out rfl KL.out (by unfold maxLen; omega) (by omega) SZ9.out ?_; intro g9 c9 w9 T9 G9 U9; have kb := known_grown XA.out.box G9.out (fun e => by have := (XA.out.th.lt _ e.symm).1; omega); have s2 := kb.cell 2; have s2f := kb.free 2; clear kb)
                  go_roundw
                  case rel =>
                    refine ⟨j + 1, some ⟨g9, 0, none⟩, nh + 1, c9, S, ns, cs, by omega, by go_num, ?_⟩
                    have := XA.out.putH G9.out T9.out (by rw [List.length_append, LH.out]; rfl) (fun g hg => by
                      have e : g9 = g := by simpa [Value.ownBlock] using hg
                      subst e
                      rcases U9.out with u | u
                      · left; exact u
                      · right; rw [u]; exact Nat.le_refl _)
                    rw [PH.out.1, PH.out.2]
                    exact this
                  case measure => simp [intOf]; omega
                | false =>
                  have hjh : ¬ j < h := by unfold has at hfl; rw [HH.out] at hfl; exact of_decide_eq_false hfl
                  rw [← hoo] at ho
                  have XA := Lib.hid (XL.out.later (low_lit _ (.cells #[.int .i64 oa, .int .i64 ob, .int .i64 oc] tLo)))
                  have KL := Lib.hid (known_lit2 wr (.cells #[.int .i64 oa, .int .i64 ob, .int .i64 oc, .bool false] tSw) tLo #[.int .i64 oa, .int .i64 ob, .int .i64 oc])
                  have SZ9 := Lib.hid XA.out.lt
                  have bc := XL.out.box.cell 3
                  have PH := Lib.hid (parts_wait (h := h) ho hjh)
                  have LH := Lib.hid XL.out.lw
                  have i9 : ns ≤ 17 := by
                    have h1 := XL.out.lw
                    simp only [List.length_map, List.length_drop, List.length_take] at h1
                    have := NX16.out; omega
                  clear ho hjh hfl
                  go_wp2_with (at_builtin; refine wpList_append_1 (E := loE) elLO (by decide) rfl _ _ (by rfl) (n := ns) (b := wr.heap.size + 1) (v := .slice S ns cs) (y := (oa, ob, oc)) (cs := #[.int .i64 oa, .int .i64 ob, .int .i64 oc]) (by rfl) (by rfl) XA.out.tw LH.out rfl KL.out (by unfold maxLen; omega) (by omega) SZ9.out ?_; intro g9 c9 w9 T9 G9 U9; have kb := known_grown XA.out.box G9.out (fun e => by have := (XA.out.tw.lt _ e.symm).1; omega); have s2 := kb.cell 3; have s2f := kb.free 3; clear kb)
                  go_roundw
                  case rel =>
                    refine ⟨j + 1, H, nh, ch, some ⟨g9, 0, none⟩, ns + 1, c9, by omega, by go_num, ?_⟩
                    have := XA.out.putW G9.out T9.out (by rw [List.length_append, LH.out]; rfl) (fun g hg => by
                      have e : g9 = g := by simpa [Value.ownBlock] using hg
                      subst e
                      rcases U9.out with u | u
                      · left; exact u
                      · right; rw [u]; exact Nat.le_refl _)
                    rw [PH.out.1, PH.out.2]
                    exact this
                  case measure => simp [intOf]; omega
              · obtain rfl : j = nx := by omega
                obtain ⟨w5, rfl⟩ : ∃ w5 : World, w5 = wr := ⟨_, rfl⟩
                have ET := Lib.hid (show (st l x).take j = st l x from List.take_of_length_le (Nat.le_of_eq HNX.out))
                rw [ET.out] at hX
                have XE := Lib.hid hX
                have LT5 := Lib.hid (LT1.out.later hX.bel)
                have LTL := Lib.hid (LT5.out.later (low_lit w5 (.cells #[.int .i64 x, .bool al, .slice H nh ch, .slice S ns cs] tLk)))
                have XLL := Lib.hid (hX.later (low_lit w5 (.cells #[.int .i64 x, .bool al, .slice H nh ch, .slice S ns cs] tLk)))
                have b0 := hX.box.cell 0
                have b1 := hX.box.cell 1
                have b2 := hX.box.cell 2
                have b3 := hX.box.cell 3
                have W45 := Lib.hid (show w4.heap.size + 1 ≤ w5.heap.size from hX.lt)
                have WZ4 := Lib.hid (show wz.heap.size + 1 ≤ w4.heap.size by have := SZW.out; have := SZ1.out; omega)
                have KL := Lib.hid (show Known (w5.alloc (.cells #[.int .i64 x, .bool al, .slice H nh ch, .slice S ns cs] tLk)) w5.heap.size tLk #[.int .i64 x, .bool al, .slice H nh ch, .slice S ns cs] from Known.made w5 _ _)
                have LEN := Lib.hid (show xs.length = q by rw [LT5.out.len]; exact hq)
                have QB := Lib.hid (show q ≤ 4194304 by have := hO.len; have := MM.out.kl; have := HBIG.out; omega)
                have SZ9 := Lib.hid (show wz.heap.size + 1 ≤ (w5.alloc (.cells #[.int .i64 x, .bool al, .slice H nh ch, .slice S ns cs] tLk)).heap.size by have := WZ4.out; have := W45.out; simp; omega)
                obtain ⟨yl, hyl⟩ : ∃ y, y = lockOf x (st l x) := ⟨_, rfl⟩
                have HYL := Lib.hid hyl
                have LCX := Lib.hid (show LcT (w5.alloc (.cells #[.int .i64 x, .bool al, .slice H nh ch, .slice S ns cs] tLk)) (wz.heap.size + 1) (.slice A6 q c6) (x, al, (H, nh, ch), (S, ns, cs)) yl by
                  have h1 := XLL.out.th.down (show wz.heap.size + 1 ≤ w4.heap.size + 1 by have := WZ4.out; omega)
                  have h2 := XLL.out.tw.down (show wz.heap.size + 1 ≤ w4.heap.size + 1 by have := WZ4.out; omega)
                  rw [hyl]
                  unfold lockOf
                  rw [HH.out, HAL.out]
                  refine ⟨rfl, rfl, h1, h2, fun g hg e => ?_⟩
                  have hlow := (LT1.out.tab.lt g e).2
                  rcases hg with hg | hg
                  · have := (XLL.out.th.lt g hg).1; omega
                  · have := (XLL.out.tw.lt g hg).1; omega)
                have HO2 := Lib.hid hO
                have HQ := Lib.hid hq
                have i20 : q ≤ 4194304 := QB.out
                have B5 := Lib.hid (show Below wz.heap.size wz w5 from B1.out.trans (hX.bel.mono B1.out.size))
                have NR5 := Lib.hid (NR1.out.later hX.bel)
                clear hX hO hB hq hyl hj
                go_wp2_with (at_builtin; refine wpList_append_1 (E := l4E) elL4 (by decide) rfl _ _ (by rfl) (n := q) (b := w5.heap.size) (v := .slice A6 q c6) (y := (x, al, (H, nh, ch), (S, ns, cs))) (cs := #[.int .i64 x, .bool al, .slice H nh ch, .slice S ns cs]) (by rfl) (by rfl) LTL.out.tab LEN.out rfl KL.out (by unfold maxLen; omega) (by omega) SZ9.out ?_; intro g7 c7 w7 T7 G7 U7)
                have BL5 := Lib.hid (B5.out.alloc B5.out.size (.cells #[.int .i64 x, .bool al, .slice H nh ch, .slice S ns cs] tLk))
                have B7 := Lib.hid (show Below wz.heap.size wz w7 from LTL.out.tab.below G7.out BL5.out (by omega) (by have := SZ9.out; omega))
                have NR7 := Lib.hid (show NRange w7 V.heap.size wz.heap.size (.slice none 0 0) f ks (strike left x) cnt1 from (NR5.out.later (low_lit w5 (.cells #[.int .i64 x, .bool al, .slice H nh ch, .slice S ns cs] tLk))).kept G7.out (fun e => by have := (LTL.out.tab.lt _ e.symm).1; have := MM.out.lt; omega) (fun e => by have := (LTL.out.tab.lt _ e.symm).1; omega))
                have LT7 := Lib.hid (show LT w7 (wz.heap.size + 1) (.slice (some ⟨g7, 0, none⟩) (q + 1) c7) (insAt xs q (x, al, (H, nh, ch), (S, ns, cs))) (insAt ls q yl) by
                  have := LTL.out.push LCX.out G7.out T7.out (fun g hg => by
                    have e : g7 = g := by simpa [Value.ownBlock] using hg
                    subst e
                    rcases U7.out with u | u
                    · left; exact u
                    · right; rw [u]; exact Nat.le_refl _)
                  have e1 : insAt xs q (x, al, (H, nh, ch), (S, ns, cs)) = xs ++ [(x, al, (H, nh, ch), (S, ns, cs))] := by rw [← LEN.out]; exact insAt_all _ _
                  have e2 : insAt ls q yl = ls ++ [yl] := by rw [← HQ.out]; exact insAt_all _ _
                  rw [e1, e2]
                  exact this)
                have S7 := Lib.hid (show wz.heap.size + 1 ≤ w7.heap.size from Nat.le_trans SZ9.out G7.out.size)
                obtain ⟨q1, hq1⟩ : ∃ q1, q1 = q + 1 := ⟨_, rfl⟩
                have HQ1 := Lib.hid hq1
                have LT8 := Lib.hid (show LT w7 (wz.heap.size + 1) (.slice (some ⟨g7, 0, none⟩) q1 c7) (insAt xs q (x, al, (H, nh, ch), (S, ns, cs))) (insAt ls q yl) by rw [hq1]; exact LT7.out)
                have G7L := Lib.hid (show wz.heap.size + 1 ≤ g7 from (LT7.out.tab.lt g7 rfl).1)
                rw [← hq1]
                clear hq1 b0 b1 b2 b3 T7 G7 U7 LT7 LTL XLL XE LT5 KL BL5
                go_loopw [22] (fun v wr => ∃ (m : Nat), m ≤ q ∧ v = .int .i64 m ∧ LT wr (wz.heap.size + 1) (.slice (some ⟨g7, 0, none⟩) q1 c7) (insAt xs m (x, al, (H, nh, ch), (S, ns, cs))) (insAt ls m yl) ∧ (∀ z ∈ ls.drop m, x < z.1) ∧ Below wz.heap.size wz wr ∧ NRange wr V.heap.size wz.heap.size (.slice none 0 0) f ks (strike left x) cnt1 ∧ wz.heap.size + 1 ≤ wr.heap.size) (fun v _ => (intOf v).toNat)
                case atStart => exact ⟨q, Nat.le_refl _, rfl, LT8.out, fun z hz => by rw [List.drop_of_length_le (Nat.le_of_eq HQ.out)] at hz; simp at hz, B7.out, NR7.out, S7.out⟩
                case round =>
                  obtain ⟨m, hm, rfl, hT, hD, hB, hN, hS⟩ := hrel
                  have TT := Lib.hid hT
                  have DD := Lib.hid hD
                  have BB := Lib.hid hB
                  have NN := Lib.hid hN
                  have SS := Lib.hid hS
                  have FIN := Lib.hid (show (∀ z ∈ ls.take m, z.1 < x) → OutSt l ks (strike left x) (insAt ls m yl) from fun h => by
                    rw [HYL.out]
                    refine HO2.out.add HIN.out (fun e => hx0 (by rw [← HNX.out, e]; rfl)) (rise_insAt HO2.out.rise ?_ ?_)
                    · exact hD
                    · exact h)
                  clear hT hD hB hN hS LT8 B7 NR7 S7
                  by_cases hm0 : m = 0
                  · subst hm0
                    have OF := Lib.hid (FIN.out (fun z hz => by simp at hz))
                    have i3 : ¬ (0 : Int) < ((0 : Nat) : Int) := by omega
                    go_wp2_with fail
                    go_roundw
                    case rel => exact ⟨_, cnt1, insAt xs 0 (x, al, (H, nh, ch), (S, ns, cs)), insAt ls 0 yl, some ⟨g7, 0, none⟩, q1, c7, NN.out, TT.out, OF.out, rfl, by rw [insAt_len, HQ.out, HQ1.out], BB.out, SS.out⟩
                    case measure => rw [NN.out.left_eq, HNR.out.left_eq]; exact HLT.out
                  · obtain ⟨p, hp⟩ : ∃ p, m = p + 1 := ⟨m - 1, by omega⟩
                    obtain ⟨bp, hbp⟩ : ∃ b, ls[p]? = some b := ⟨_, List.getElem?_eq_getElem (by rw [HQ.out]; omega)⟩
                    obtain ⟨⟨p0, p1, ⟨PH, pn, pc⟩, ⟨PS, pm, pd⟩⟩, hxp⟩ : ∃ b, xs[p]? = some b := ⟨_, List.getElem?_eq_getElem (by rw [LEN.out]; omega)⟩
                    have hat : (insAt xs m (x, al, (H, nh, ch), (S, ns, cs)))[p]? = some (p0, p1, (PH, pn, pc), (PS, pm, pd)) := by rw [insAt_at (by rw [LEN.out]; omega), if_pos (by omega)]; exact hxp
                    have hal2 : (insAt ls m yl)[p]? = some bp := by rw [insAt_at (by rw [HQ.out]; omega), if_pos (by omega)]; exact hbp
                    have hxm : (insAt xs m (x, al, (H, nh, ch), (S, ns, cs)))[m]? = some (x, al, (H, nh, ch), (S, ns, cs)) := by rw [insAt_at (by rw [LEN.out]; omega), if_neg (by omega), if_pos rfl]
                    obtain ⟨e1, -, -, -, -⟩ := TT.out.lc p _ _ hat hal2
                    have e1 : p0 = bp.1 := e1
                    have RD := TT.out.tab.reads
                    obtain ⟨g', o', e', _, y0, y1, y2, y3⟩ := l4_at RD hat
                    injection e' with e'
                    injection e' with e1' e2'
                    subst e1' e2'
                    simp only [Nat.zero_add, slV] at y0 y1 y2 y3
                    have i3 : (0 : Int) < (m : Int) := by omega
                    have i4 : (p : Int) < (q1 : Int) := by have := HQ1.out; omega
                    have i5 : (m : Int) < (q1 : Int) := by have := HQ1.out; omega
                    have w8 : IntKind.i64.wrap ((m : Int) - 1) = (p : Int) := by rw [show (m : Int) - 1 = (p : Int) by omega]; exact IntWalk.i64_in _ (by omega)
                    have HP := Lib.hid hp
                    have HBP := Lib.hid hbp
                    have HXP := Lib.hid hxp
                    have E1 := Lib.hid e1
                    have HXM := Lib.hid hxm
                    have HAT := Lib.hid hat
                    clear hp hbp hxp e1 hat hal2
                    by_cases hgt : x < p0
                    · obtain ⟨g', o', e', _, x0, x1, x2, x3⟩ := l4_at RD hxm
                      injection e' with e'
                      injection e' with e1' e2'
                      subst e1' e2'
                      simp only [Nat.zero_add, slV] at x0 x1 x2 x3
                      have fz := fun i => TT.out.tab.free (g := g7) (n := q1) (cap := c7) (by rw [insAt_len, LEN.out]; exact HQ1.out) i
                      have f0 := fz (m * 4)
                      have f1 := fz (m * 4 + 1)
                      have f2 := fz (m * 4 + 2)
                      have f3 := fz (m * 4 + 3)
                      have f4 := fz (p * 4)
                      have f5 := fz (p * 4 + 1)
                      have f6 := fz (p * 4 + 2)
                      have f7 := fz (p * 4 + 3)
                      have HGT := Lib.hid hgt
                      clear fz hxm RD FIN
                      go_upto_region 55 with fail
                      have ne00 : ¬ (m * 4 = p * 4) := by have := HP.out; omega
                      have nf00 : ¬ (p * 4 = m * 4) := by have := HP.out; omega
                      have ne01 : ¬ (m * 4 + 1 = p * 4) := by have := HP.out; omega
                      have nf01 : ¬ (p * 4 = m * 4 + 1) := by have := HP.out; omega
                      have ne02 : ¬ (m * 4 + 2 = p * 4) := by have := HP.out; omega
                      have nf02 : ¬ (p * 4 = m * 4 + 2) := by have := HP.out; omega
                      have ne03 : ¬ (m * 4 + 3 = p * 4) := by have := HP.out; omega
                      have nf03 : ¬ (p * 4 = m * 4 + 3) := by have := HP.out; omega
                      have ne10 : ¬ (m * 4 = p * 4 + 1) := by have := HP.out; omega
                      have nf10 : ¬ (p * 4 + 1 = m * 4) := by have := HP.out; omega
                      have ne11 : ¬ (m * 4 + 1 = p * 4 + 1) := by have := HP.out; omega
                      have nf11 : ¬ (p * 4 + 1 = m * 4 + 1) := by have := HP.out; omega
                      have ne12 : ¬ (m * 4 + 2 = p * 4 + 1) := by have := HP.out; omega
                      have nf12 : ¬ (p * 4 + 1 = m * 4 + 2) := by have := HP.out; omega
                      have ne13 : ¬ (m * 4 + 3 = p * 4 + 1) := by have := HP.out; omega
                      have nf13 : ¬ (p * 4 + 1 = m * 4 + 3) := by have := HP.out; omega
                      have ne20 : ¬ (m * 4 = p * 4 + 2) := by have := HP.out; omega
                      have nf20 : ¬ (p * 4 + 2 = m * 4) := by have := HP.out; omega
                      have ne21 : ¬ (m * 4 + 1 = p * 4 + 2) := by have := HP.out; omega
                      have nf21 : ¬ (p * 4 + 2 = m * 4 + 1) := by have := HP.out; omega
                      have ne22 : ¬ (m * 4 + 2 = p * 4 + 2) := by have := HP.out; omega
                      have nf22 : ¬ (p * 4 + 2 = m * 4 + 2) := by have := HP.out; omega
                      have ne23 : ¬ (m * 4 + 3 = p * 4 + 2) := by have := HP.out; omega
                      have nf23 : ¬ (p * 4 + 2 = m * 4 + 3) := by have := HP.out; omega
                      have ne30 : ¬ (m * 4 = p * 4 + 3) := by have := HP.out; omega
                      have nf30 : ¬ (p * 4 + 3 = m * 4) := by have := HP.out; omega
                      have ne31 : ¬ (m * 4 + 1 = p * 4 + 3) := by have := HP.out; omega
                      have nf31 : ¬ (p * 4 + 3 = m * 4 + 1) := by have := HP.out; omega
                      have ne32 : ¬ (m * 4 + 2 = p * 4 + 3) := by have := HP.out; omega
                      have nf32 : ¬ (p * 4 + 3 = m * 4 + 2) := by have := HP.out; omega
                      have ne33 : ¬ (m * 4 + 3 = p * 4 + 3) := by have := HP.out; omega
                      have nf33 : ¬ (p * 4 + 3 = m * 4 + 3) := by have := HP.out; omega
                      go_region
                      all_goals
                        clear ne00 nf00 ne01 nf01 ne02 nf02 ne03 nf03 ne10 nf10 ne11 nf11 ne12 nf12 ne13 nf13 ne20 nf20 ne21 nf21 ne22 nf22 ne23 nf23 ne30 nf30 ne31 nf31 ne32 nf32 ne33 nf33
                        go_wp2
                        go_roundw
                        case rel =>
                          refine ⟨p, by have := HP.out; omega, rfl, ?_⟩
                          have NE := Lib.hid (show p ≠ m by have := HP.out; omega)
                          have TG := Lib.hid (show LT ((((((((wr.setCell ⟨g7, m * 4, none⟩ (.int .i64 p0)).setCell ⟨g7, m * 4 + 1, none⟩ (.bool p1)).setCell ⟨g7, m * 4 + 2, none⟩ (.slice PH pn pc)).setCell ⟨g7, m * 4 + 3, none⟩ (.slice PS pm pd)).setCell ⟨g7, p * 4, none⟩ (.int .i64 x)).setCell ⟨g7, p * 4 + 1, none⟩ (.bool al)).setCell ⟨g7, p * 4 + 2, none⟩ (.slice H nh ch)).setCell ⟨g7, p * 4 + 3, none⟩ (.slice S ns cs)) (wz.heap.size + 1) (.slice (some ⟨g7, 0, none⟩) q1 c7) (insAt xs p (x, al, (H, nh, ch), (S, ns, cs))) (insAt ls p yl) by
                            have hl : q1 = (insAt xs m (x, al, (H, nh, ch), (S, ns, cs))).length := by rw [insAt_len, LEN.out]; exact HQ1.out
                            have t1 := put4 (a := (p0, p1, (PH, pn, pc), (PS, pm, pd))) TT.out.tab hl HXM.out
                            have t2 := put4 (k := p) (z := (p0, p1, (PH, pn, pc), (PS, pm, pd))) (a := (x, al, (H, nh, ch), (S, ns, cs))) t1 (by rw [List.length_set]; exact hl) (by rw [List.getElem?_set_ne (fun e => NE.out e.symm)]; exact HAT.out)
                            have es : ((insAt xs m (x, al, (H, nh, ch), (S, ns, cs))).set m (p0, p1, (PH, pn, pc), (PS, pm, pd))).set p (x, al, (H, nh, ch), (S, ns, cs)) = insAt xs p (x, al, (H, nh, ch), (S, ns, cs)) := by rw [HP.out]; exact insAt_swap HXP.out
                            rw [es] at t2
                            refine TT.out.turn ((gr4 _ g7 _ _ _ _ _ _ _ _).trans (gr4 _ g7 _ _ _ _ _ _ _ _)) t2 (by rw [insAt_len, insAt_len, LEN.out, HQ.out]) (fun j a b ha hb => ?_)
                            rw [insAt_at (by rw [LEN.out]; have := HP.out; omega)] at ha
                            rw [insAt_at (by rw [HQ.out]; have := HP.out; omega)] at hb
                            by_cases c1 : j < p
                            · rw [if_pos c1] at ha hb
                              exact ⟨j, by rw [insAt_at (by rw [LEN.out]; omega), if_pos (by have := HP.out; omega)]; exact ha, by rw [insAt_at (by rw [HQ.out]; omega), if_pos (by have := HP.out; omega)]; exact hb⟩
                            · rw [if_neg c1] at ha hb
                              by_cases c2 : j = p
                              · rw [if_pos c2] at ha hb
                                exact ⟨m, by rw [insAt_at (by rw [LEN.out]; omega), if_neg (by omega), if_pos rfl]; exact ha, by rw [insAt_at (by rw [HQ.out]; omega), if_neg (by omega), if_pos rfl]; exact hb⟩
                              · rw [if_neg c2] at ha hb
                                by_cases c3 : j = m
                                · exact ⟨p, by rw [insAt_at (by rw [LEN.out]; omega), if_pos (by have := HP.out; omega)]; rwa [show j - 1 = p by have := HP.out; omega] at ha, by rw [insAt_at (by rw [HQ.out]; omega), if_pos (by have := HP.out; omega)]; rwa [show j - 1 = p by have := HP.out; omega] at hb⟩
                                · exact ⟨j, by rw [insAt_at (by rw [LEN.out]; omega), if_neg (by have := HP.out; omega), if_neg c3]; exact ha, by rw [insAt_at (by rw [HQ.out]; omega), if_neg (by have := HP.out; omega), if_neg c3]; exact hb⟩)
                          have GG := Lib.hid (show wr.grownBy ((((((((wr.setCell ⟨g7, m * 4, none⟩ (.int .i64 p0)).setCell ⟨g7, m * 4 + 1, none⟩ (.bool p1)).setCell ⟨g7, m * 4 + 2, none⟩ (.slice PH pn pc)).setCell ⟨g7, m * 4 + 3, none⟩ (.slice PS pm pd)).setCell ⟨g7, p * 4, none⟩ (.int .i64 x)).setCell ⟨g7, p * 4 + 1, none⟩ (.bool al)).setCell ⟨g7, p * 4 + 2, none⟩ (.slice H nh ch)).setCell ⟨g7, p * 4 + 3, none⟩ (.slice S ns cs)) (some g7) from (gr4 _ g7 _ _ _ _ _ _ _ _).trans (gr4 _ g7 _ _ _ _ _ _ _ _))
                          have BG := Lib.hid (show Below wz.heap.size wz ((((((((wr.setCell ⟨g7, m * 4, none⟩ (.int .i64 p0)).setCell ⟨g7, m * 4 + 1, none⟩ (.bool p1)).setCell ⟨g7, m * 4 + 2, none⟩ (.slice PH pn pc)).setCell ⟨g7, m * 4 + 3, none⟩ (.slice PS pm pd)).setCell ⟨g7, p * 4, none⟩ (.int .i64 x)).setCell ⟨g7, p * 4 + 1, none⟩ (.bool al)).setCell ⟨g7, p * 4 + 2, none⟩ (.slice H nh ch)).setCell ⟨g7, p * 4 + 3, none⟩ (.slice S ns cs)) from BB.out.grown GG.out BB.out.size (fun j hj => by injection hj with hj; have := G7L.out; omega))
                          have NG := Lib.hid (show NRange ((((((((wr.setCell ⟨g7, m * 4, none⟩ (.int .i64 p0)).setCell ⟨g7, m * 4 + 1, none⟩ (.bool p1)).setCell ⟨g7, m * 4 + 2, none⟩ (.slice PH pn pc)).setCell ⟨g7, m * 4 + 3, none⟩ (.slice PS pm pd)).setCell ⟨g7, p * 4, none⟩ (.int .i64 x)).setCell ⟨g7, p * 4 + 1, none⟩ (.bool al)).setCell ⟨g7, p * 4 + 2, none⟩ (.slice H nh ch)).setCell ⟨g7, p * 4 + 3, none⟩ (.slice S ns cs)) V.heap.size wz.heap.size (.slice none 0 0) f ks (strike left x) cnt1 from NN.out.kept GG.out (fun e => by injection e with e; have := G7L.out; have := MM.out.lt; omega) (fun e => by injection e with e; have := G7L.out; omega))
                          have SG := Lib.hid (show wz.heap.size + 1 ≤ ((((((((wr.setCell ⟨g7, m * 4, none⟩ (.int .i64 p0)).setCell ⟨g7, m * 4 + 1, none⟩ (.bool p1)).setCell ⟨g7, m * 4 + 2, none⟩ (.slice PH pn pc)).setCell ⟨g7, m * 4 + 3, none⟩ (.slice PS pm pd)).setCell ⟨g7, p * 4, none⟩ (.int .i64 x)).setCell ⟨g7, p * 4 + 1, none⟩ (.bool al)).setCell ⟨g7, p * 4 + 2, none⟩ (.slice H nh ch)).setCell ⟨g7, p * 4 + 3, none⟩ (.slice S ns cs)).heap.size from Nat.le_trans SS.out GG.out.size)
                          have DG := Lib.hid (show ∀ z ∈ ls.drop p, x < z.1 from fun z hz => by
                            have e : ls.drop p = bp :: ls.drop m := by rw [HP.out]; exact List.drop_eq_getElem?_toList_append.trans (by rw [HBP.out]; rfl)
                            rw [e] at hz
                            rcases List.mem_cons.1 hz with rfl | hz
                            · rw [← E1.out]; exact HGT.out
                            · exact DD.out z hz)
                          exact lk_drew TG.out DG.out BG.out NG.out SG.out
                        case measure => simp [intOf]; have := HP.out; omega
                    · have OF := Lib.hid (FIN.out (fun z hz => by
                        rw [HP.out] at hz
                        have hne := HO2.out.fresh HLX.out bp (List.mem_of_getElem? HBP.out)
                        exact take_lt HO2.out.rise HBP.out (by have := E1.out; omega) z hz))
                      have i6 : ¬ x < p0 := hgt
                      clear hxm RD
                      go_wp2_with fail
                      go_roundw
                      case rel => exact ⟨_, cnt1, insAt xs m (x, al, (H, nh, ch), (S, ns, cs)), insAt ls m yl, some ⟨g7, 0, none⟩, q1, c7, NN.out, TT.out, OF.out, rfl, by rw [insAt_len, HQ.out, HQ1.out], BB.out, SS.out⟩
                      case measure => rw [NN.out.left_eq, HNR.out.left_eq]; exact HLT.out
end Go.Proofs.Ytdkgclgccicbeaa.Lk
