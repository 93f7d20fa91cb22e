/-
  The document's own placement: KPlace.
-/
import Derived.Test.YtcbecpgllebepaaCrRef
import Derived.Test.YtcbecpgllebepaaCrSpec
import Derived.Test.YtcbecpgllebepaaCrTab
import Derived.Test.YtcbecpgllebepaaSwAll
namespace Go.Proofs.Ytcbecpgllebepaa.Crush
set_option linter.unusedVariables false
set_option linter.unusedSimpArgs false
open Go.RowKit Mem Straw

/-! ### Spots appended in a region -/
set_option maxRecDepth 100000 in
theorem step_append_spot {ops : Array Oper} {o : Oper} {a : Act} {w : World} {K : Act → World → Prop} {Q : Exit → Act → World → Prop} {E : Prop} (hgd : o.guard = none) (s x : Operand)
    (ho : o.op = .call { callee := .builtin .append, args := #[s, x], argTypes := #[24, 24] }) {B n m c b o' : Nat} {v : Value} {es ys : List It} {AD : Option Addr} (hs : a.eval s = v) (hx : a.eval x = .slice AD m c) (had : AD = some ⟨b, o', none⟩)
    (hg : STab w B v es) (hn : es.length = n) (hr : WRds w (some ⟨b, o', none⟩) ys) (hy : ys.length = m) (hl : (n + m) * 16 ≤ 140737488355328) (hB : B ≤ w.heap.size)
    (h : ∀ A' c' w', Hid (STab w' B (.slice A' (n + m) c') (es ++ ys)) → Hid (w.grownBy w' v.ownBlock) → K (a.put o.dst (.slice A' (n + m) c')) w') :
    if Region.wanted o (yielded ops a.tmps) = true then Oper.wp Try.prog o a w K Q else E := by
  subst hn hy had
  have hw : Region.wanted o (yielded ops a.tmps) = true := by simp [Region.wanted, hgd]
  rw [if_pos hw]
  obtain ⟨i, hi, z, hz0, hz1, hz2, hz3⟩ := info_spot
  obtain ⟨v', w', hrun, h2, h3, _, _⟩ := run_append_own_at (P := Try.prog) w B 24 o.type 31 i z 2 16 Try.underlying24 hi hz0 hz1 hz2 hz3 (by decide) v es.length (flat es) hg ⟨b, o', none⟩ ys.length c (flat ys) (flat_len ys)
    (fun j u hj => by
      obtain ⟨b', q, e, _, h3⟩ := wrds_reads hr j u hj
      injection e with e
      injection e with e1 e2
      subst e1 e2
      rw [Addr.add_lit]; exact h3) (flat_one ys) (by unfold maxLen; omega) hl hB
  have hT : STab w' B v' (es ++ ys) := by
    unfold STab
    rw [List.length_append, flat_app]
    exact h2
  obtain ⟨A', c', hv, _, _⟩ := hT.form
  rw [List.length_append] at hv
  subst hv
  unfold Oper.wp execOp
  simp only [ho, resolve, invoke, builtin, Sem.run_bind, Sem.run_pure, Result.andThen_ok, List.map_toArray, List.map_cons, List.map_nil, hs, hx, hrun]
  exact h A' c' w' hT h3
theorem one_spot (w : World) (a b : Int) : WRds (w.alloc (.cells #[.int .i64 a, .int .i64 b] 31)) (some ⟨w.heap.size, 0, none⟩) [(a, b)] := fun k z hk => by
  rcases k with _ | k
  · simp at hk; subst hk
    exact ⟨_, 0, rfl, by simp, (Known.made w _ #[.int .i64 a, .int .i64 b]).cell 0, (Known.made w _ #[.int .i64 a, .int .i64 b]).cell 1⟩
  · simp at hk
theorem stab_grown {w0 w3 w4 : World} {B : Nat} {v : Value} {es : List It} {o : Obj} (hb : Below B w0 w3) (hs : B ≤ w3.heap.size) (hT : STab w3 B v es) (hg : (w3.alloc o).grownBy w4 v.ownBlock) : Below B w0 w4 :=
  (hb.alloc hs o).grown hg (by simp; omega) fun k hk => (hT.lt k hk).1

theorem undrewK {B : Nat} {W V : World} (h : Below B W.drew V) : Below B W V := ⟨h.os, h.tape, h.output, h.size, h.block⟩
/-! ### Where an id's host lies -/
theorem host_one {key : UInt64} {hs : List Ht} (hg : Good hs) {id : Int} (hi : id ∈ ids key (wts hs)) : ∃ (i : Nat) (x : Ht), hs[i]? = some x ∧ x.1 = id ∧ Valid x.2 ∧ (∀ (m : Nat) (y : Ht), hs[m]? = some y → y.1 = id → m = i) ∧ (spot key hs id).2 = dev key id x.2 ∧ ∃ rest, ids (sub key id) x.2 = (spot key hs id).2 :: rest := by
  obtain ⟨x, hx, rfl, hw0⟩ := ids_host hg hi
  obtain ⟨i, hi⟩ := List.mem_iff_getElem?.1 hx
  have sp := spot_host (key := key) hg hx
  obtain ⟨rest, hr⟩ := dev_mem (key := key) hg hx hw0
  refine ⟨i, x, hi, rfl, hg.1 x hx, fun m y hy e => ?_, by rw [sp], rest, by rw [sp]; exact hr⟩
  have hp := List.pairwise_iff_getElem.1 (show (hs.map (·.1)).Pairwise (· ≠ ·) from good_once hg)
  obtain ⟨a1, a2⟩ := List.getElem?_eq_some_iff.1 hy
  obtain ⟨b1, b2⟩ := List.getElem?_eq_some_iff.1 hi
  rcases Nat.lt_trichotomy m i with h | h | h
  · have := hp m i (by simpa using a1) (by simpa using b1) h
    simp only [List.getElem_map] at this
    rw [a2, b2] at this
    exact absurd e this
  · exact h
  · have := hp i m (by simpa using b1) (by simpa using a1) h
    simp only [List.getElem_map] at this
    rw [a2, b2] at this
    exact absurd e.symm this
theorem sub_eq (key : UInt64) (id : Int) : sub key id = Mix.one (Words.add (Mix.one key) (word id)) := rfl

/-! ### KPlace -/
set_option maxRecDepth 100000 in
set_option maxHeartbeats 8000000 in
theorem kplace_ok (key : UInt64) (A : Option Addr) (hs : List Ht) (n ca j : Nat) (W : World) (hn : hs.length = n) (hca : n ≤ ca) (hx : HRds W A hs) (hf : FitsH hs) (h0 : plE key hs j = 0) :
    Calls Try.prog 10 #[.int .u64 key.toNat, .slice A n ca, .int .i64 j] W (SpotsErr (plL key hs j) 0 W) := by
  obtain ⟨hg, hj, hl⟩ := plE_zero.1 h0
  have h16 : n ≤ 16 := by rw [← hn]; exact good_len hg
  have KW0 := kwrong_c A hs n ca W hn (by omega) hx hf
  rw [krE_zero.2 hg] at KW0
  have KW := Lib.hid KW0
  have KH := Lib.hid (fun V (hB : Below W.heap.size W V) => khosts_c A hs n ca V hn (by omega) (hx.below hB) hg.1)
  have HA := Lib.hid (fun V A2 c2 (hT : WRds V A2 (wts hs)) => hall_c key A2 (wts hs) n c2 V (by rw [wts_len, hn]) hg.2 hT)
  have PL := Lib.hid (plL_ok h0)
  have LJ := Lib.hid (show ((ids key (wts hs)).take j).length = j by rw [List.length_take]; omega)
  have PN := Lib.hid (plL_len h0)
  have SP := Lib.hid (fun (k : Nat) (id : Int) (hk : ((ids key (wts hs)).take j)[k]? = some id) => host_one (key := key) hg (List.mem_of_mem_take (List.mem_of_getElem? hk)))
  have RT := Lib.hid (fun (k : Nat) (id : Int) (hk : ((ids key (wts hs)).take j)[k]? = some id) => show (ids key (wts hs))[k]? = some id by rw [List.getElem?_take] at hk; split at hk; exact hk; cases hk)
  have NX := Lib.hid (fun (k : Nat) (id : Int) (hk : ((ids key (wts hs)).take j)[k]? = some id) => show (plL key hs j).take (k + 1) = (plL key hs j).take k ++ [(id, (spot key hs id).2)] by
    rw [plL_ok h0, List.take_add_one, List.getElem?_map, hk]; rfl)
  obtain ⟨p, hp⟩ : ∃ p, p = (ids key (wts hs)).length := ⟨_, rfl⟩
  have hp16 : p ≤ 16 := by rw [hp, ids_len]; exact Nat.le_trans (List.length_filter_le _ _) (by rw [wts_len]; omega)
  rw [← hp] at HA hl
  obtain ⟨IL, hIL⟩ : ∃ IL, IL = ids key (wts hs) := ⟨_, rfl⟩
  rw [← hIL] at HA LJ SP RT NX
  obtain ⟨L, hL⟩ : ∃ L, L = IL.take j := ⟨_, rfl⟩
  rw [← hL] at LJ SP RT NX
  obtain ⟨S, hS⟩ : ∃ S, S = plL key hs j := ⟨_, rfl⟩
  rw [← hS] at NX PN ⊢
  have A1 := Lib.hid (fun V => Big.aOne_c key V)
  have SE := Lib.hid (sub_eq key)
  obtain ⟨av, hav⟩ : ∃ av, av = Mix.one key := ⟨_, rfl⟩
  rw [← hav] at A1 SE
  have HX := Lib.hid hx
  have HN := Lib.hid hn
  have hj16 : j ≤ 16 := by omega
  have jp : j ≤ p := by omega
  have q1 : decide ((j : Int) < 0) = false := decide_eq_false (by omega)
  have q2 : decide ((16 : Int) < (j : Int)) = false := decide_eq_false (by omega)
  have q3 : decide ((p : Int) < (j : Int)) = false := decide_eq_false (by omega)
  have q4 : ¬ (p : Int) < (j : Int) := by omega
  have q5 : (0 : Int) ≤ (j : Int) := by omega
  have q7 : decide (p < j) = false := decide_eq_false (by omega)
  clear KW0 hg hj hl hx hn hf h0 hp hIL hL hS hav PL
  go_enter Try.func10, Try.ntmps10
  go_wp2_with fail
  refine KW.out.mono ?_
  rintro e w1 ⟨rfl, hb1⟩
  have B1 := Lib.hid hb1
  clear hb1
  go_wp2_with fail
  refine (KH.out _ B1.out).mono ?_
  rintro e w2 ⟨A2, c2, rfl, hT2, hc2, hb2⟩
  have B2 := Lib.hid (B1.out.trans (hb2.mono B1.out.size))
  have H2 := Lib.hid (HA.out w2 A2 c2 hT2.rds)
  clear hb2 hT2
  go_wp2_with fail
  refine H2.out.mono ?_
  rintro e w3 ⟨A3, c3, rfl, hc3, hr3, hb3⟩
  have B3 := Lib.hid (B2.out.trans (hb3.mono B2.out.size))
  have R3 := Lib.hid hr3
  have q6 : (j : Int) ≤ (c3 : Int) := by omega
  clear hb3 hr3 H2
  go_wp2
  go_loopw [10, 38] (fun v i wr => ∃ (k : Nat) (A4 : Option Addr) (c4 : Nat), k ≤ j ∧ i = .int .i64 k ∧ v = .slice A4 k c4 ∧ STab wr w3.heap.size (.slice A4 k c4) (S.take k) ∧ Below w3.heap.size w3 wr) (fun _ i _ => j - (intOf i).toNat)
  case atStart => exact ⟨0, none, 0, by omega, rfl, rfl, STab.nil _ _, Below.refl _ _⟩
  case round =>
    obtain ⟨wo, rfl⟩ : ∃ w : World, w = wr := ⟨_, rfl⟩
    obtain ⟨k, A4, c4, hk, rfl, rfl, hT, hB⟩ := hrel
    have HT := Lib.hid hT
    have HB := Lib.hid hB
    clear hT hB
    by_cases hlt : k < j
    · have kl : k < L.length := by rw [LJ.out]; exact hlt
      obtain ⟨id, hid⟩ : ∃ id, L[k]? = some id := ⟨_, List.getElem?_eq_getElem kl⟩
      obtain ⟨b, o, rfl, hbl, q0⟩ := (R3.out.below HB.out) k (.int .i64 id) (by rw [List.getElem?_map, RT.out k id hid]; rfl)
      obtain ⟨i, x, hi, hxi, hv, hone, hdev, rest, hrest⟩ := SP.out k id hid
      have NK := Lib.hid (NX.out k id hid)
      have SI := Lib.hid (SE.out id)
      have wid := word_val id
      have wid2 : id % 18446744073709551616 = ((word id).toNat : Int) := by rw [← wid, IntKind.wrap_u64]
      have ws := Words.add64 av (word id)
      have ws2 := Words.add64m av (word id)
      obtain ⟨dv, hdv⟩ : ∃ dv, dv = (spot key hs id).2 := ⟨_, rfl⟩
      rw [← hdv] at NK hrest
      obtain ⟨sk, hsk⟩ : ∃ sk, sk = sub key id := ⟨_, rfl⟩
      rw [← hsk] at SI hrest
      obtain ⟨wv, hwv⟩ : ∃ wv, wv = word id := ⟨_, rfl⟩
      rw [← hwv] at SI wid wid2 ws ws2
      obtain ⟨bv, hbv⟩ : ∃ bv, bv = Words.add av wv := ⟨_, rfl⟩
      rw [← hbv] at SI ws ws2
      have A2c := Lib.hid (fun V => Big.aOne_c bv V)
      rw [← SI.out] at A2c
      have HD := Lib.hid (fun V D m dc (hm : x.2.length = m) (hD : WRds V D x.2) => hall_c sk D x.2 m dc V hm hv hD)
      have RS := Lib.hid hrest
      have HI := Lib.hid hi
      have XI := Lib.hid hxi
      have ONE := Lib.hid hone
      have i1 : (k : Int) < (j : Int) := by omega
      have i2 : (k : Int) < (c3 : Int) := by omega
      have iN : i < n := by rw [← HN.out]; exact (List.getElem?_eq_some_iff.1 hi).1
      clear hid kl hdv hsk hwv hbv hi hxi hone hdev hv SI hrest
      go_wp2
      go_loopw [10, 44] (fun v i2 wr => ∃ (m q : Nat) (A5 : Option Addr) (c5 : Nat), m ≤ n ∧ i2 = .int .i64 m ∧ v = .slice A5 q c5 ∧ STab wr w3.heap.size (.slice A5 q c5) (S.take q) ∧ Below w3.heap.size w3 wr ∧ (m ≤ i ∧ q = k ∨ i < m ∧ q = k + 1)) (fun _ i2 _ => n - (intOf i2).toNat)
      case atStart => exact ⟨0, k, A4, c4, by omega, rfl, rfl, HT.out, HB.out, .inl ⟨by omega, rfl⟩⟩
      case round =>
        obtain ⟨wi, rfl⟩ : ∃ w : World, w = wr := ⟨_, rfl⟩
        obtain ⟨m, q, A5, c5, hm, rfl, rfl, hT5, hB5, hq⟩ := hrel
        have HT5 := Lib.hid hT5
        have HB5 := Lib.hid hB5
        clear hT5 hB5
        by_cases hmn : m < n
        · have ml : m < hs.length := by rw [HN.out]; exact hmn
          obtain ⟨y, hy⟩ : ∃ y, hs[m]? = some y := ⟨_, List.getElem?_eq_getElem ml⟩
          obtain ⟨b5, o5, D, md, dc, rfl, hbl5, y0, y1, hym, hmc, hmb, hD⟩ := (HX.out.below (B3.out.trans (HB5.out.mono B3.out.size))).host hy
          obtain ⟨d0, d1⟩ := boxH wi (.int .i64 y.1) (.slice D md dc)
          have BA := Lib.hid (show Below wi.heap.size wi (wi.alloc (.cells #[.int .i64 y.1, .slice D md dc] 43)) from (Below.refl _ _).alloc (Nat.le_refl _) _)
          have TA := Lib.hid (HT5.out.alloc (.cells #[.int .i64 y.1, .slice D md dc] 43))
          have BA3 := Lib.hid (HB5.out.trans (BA.out.mono HB5.out.size))
          have DA := Lib.hid (hD.below BA.out)
          have j1 : (m : Int) < (n : Int) := by omega
          by_cases hmi : m = i
          · have e1 : y = x := by
              have := HI.out
              rw [← hmi, hy] at this
              injection this
            subst e1
            have e2 := XI.out
            obtain ⟨yi, hyi⟩ : ∃ yi, yi = y.1 := ⟨_, rfl⟩
            rw [← hyi] at e2 y0 d0 d1 BA TA BA3 DA
            subst e2
            obtain rfl : q = k := by omega
            have n1 : (yi == yi) = true := by simp
            have L1 := World.block_lt_of_cell? _ _ d1
            obtain ⟨wh, hwh⟩ : ∃ wh : World, wh = wi.alloc (.cells #[.int .i64 yi, .slice D md dc] 43) := ⟨_, rfl⟩
            rw [← hwh] at d0 d1 BA TA BA3 DA L1
            have HDD := Lib.hid (fun V (hB : Below wh.heap.size wh V) => show Calls Try.prog 29 #[.int .u64 sk.toNat, .slice D md dc] V fun e w' => ∃ b' o' r c', e = .returned (.slice (some ⟨b', o', none⟩) r c') ∧ 0 < r ∧ w'.cell? ⟨b', o', none⟩ = some (.int .i64 dv) ∧ Below V.heap.size V w' from
              (HD.out V D md dc hym (DA.out.below hB)).mono (by
                rintro e w' ⟨A', c', rfl, hc, hr, hb⟩
                obtain ⟨b', o', rfl, _, h⟩ := hr 0 (.int .i64 dv) (by rw [RS.out]; rfl)
                exact ⟨b', o', _, c', rfl, by rw [RS.out]; simp, h, hb⟩))
            have SK := Lib.hid (fun w (hb : Below wh.heap.size wh w) => (hb.cell (p := ⟨wi.heap.size, 1, none⟩) L1).trans d1)
            have W3 := Lib.hid (show w3.heap.size ≤ wh.heap.size from BA3.out.size)
            have TL := Lib.hid (show (S.take q).length = q by rw [List.length_take, PN.out]; omega)
            have NKq := Lib.hid NK.out
            have OB := Lib.hid (fun k h => (HT5.out.lt k h).2)
            have MI := Lib.hid hmi
            clear hq hmi hy ml hD hyi HD DA RS
            go_wp2_with fail
            rw [← hwh]
            obtain ⟨bx, hbx⟩ : ∃ bx, bx = wi.heap.size := ⟨_, rfl⟩
            rw [← hbx] at d0 d1 SK L1 OB ⊢
            clear hwh hbx BA y0 y1
            have WHL := Lib.hid L1
            go_region_law (first
              | (go_simp; go_at_call 31; (with_reducible refine (A1.out _).mono ?_); rintro e w5 ⟨rfl, hb⟩; have K1 := Lib.hid (show Below wh.heap.size wh w5 from undrewK hb); have f1 := SK.out _ K1.out; clear hb)
              | (go_simp; go_at_call 31; (with_reducible refine (A2c.out _).mono ?_); rintro e w6 ⟨rfl, hb⟩; have K2 := Lib.hid (K1.out.trans (hb.mono K1.out.size)); have f2 := SK.out _ K2.out; clear hb f1)
              | (go_simp; go_at_call 29; refine (HDD.out _ K2.out).mono ?_; rintro e w7 ⟨b7, o7, r7, c7, rfl, hr7, z7, hb⟩; have i7 : (0 : Int) < (r7 : Int) := (by omega); have K3 := Lib.hid (K2.out.trans (hb.mono K2.out.size)); have T3 := Lib.hid (TA.out.later K3.out); clear hb)
              | (refine step_append_spot (n := q) (m := 1) (c := 1) (b := w7.heap.size) (o' := 0) (v := .slice A5 q c5) (es := S.take q) (ys := [(yi, dv)]) (AD := some ⟨w7.heap.size, 0, none⟩) (by rfl) _ _ (by rfl) rfl rfl rfl (T3.out.alloc _) TL.out (one_spot w7 yi dv) rfl (by omega) (Nat.le_trans W3.out (Nat.le_trans K3.out.size (by simp))) ?_; intro A8 c8 w8 Z8 G8; have K4 := Lib.hid (stab_grown (BA3.out.trans (K3.out.mono W3.out)) (Nat.le_trans W3.out K3.out.size) T3.out G8.out); clear G8))
            all_goals
              have T9 := Lib.hid (show STab w8 w3.heap.size (.slice A8 (q + 1) c8) (S.take (q + 1)) by rw [NKq.out]; exact Z8.out)
              go_wp2
              go_roundw
              case rel => exact ⟨m + 1, q + 1, A8, c8, by omega, by go_num, rfl, T9.out, K4.out, .inr ⟨by have := MI.out; omega, rfl⟩⟩
              case measure => simp [intOf]; omega
          · have n1 : (y.1 == id) = false := by
              rw [beq_eq_false_iff_ne]
              exact fun e => hmi (ONE.out m y hy e)
            obtain ⟨yi, hyi⟩ : ∃ yi, yi = y.1 := ⟨_, rfl⟩
            rw [← hyi] at n1 y0 d0 d1 BA TA BA3
            clear hy ml hD hyi DA hym
            go_wp2
            go_roundw
            case rel => exact ⟨m + 1, q, A5, c5, by omega, by go_num, rfl, TA.out, BA3.out, by omega⟩
            case measure => simp [intOf]; omega
        · obtain rfl : m = n := by omega
          obtain rfl : q = k + 1 := by omega
          clear hq
          go_wp2
          go_roundw
          case rel => exact ⟨k + 1, A5, c5, by omega, by go_num, rfl, HT5.out, HB5.out⟩
          case measure => simp [intOf]; omega
    · obtain rfl : k = j := by omega
      have HT2 := Lib.hid (show STab wo w3.heap.size (.slice A4 k c4) S by have := HT.out; rwa [List.take_of_length_le (by rw [PN.out]; exact Nat.le_refl _)] at this)
      go_wp2
      go_ret2
      exact ⟨A4, c4, by rw [PN.out]; rfl, by rw [PN.out]; have := HT2.out.form; obtain ⟨_, _, e, h1, _⟩ := this; injection e with e1 e2 e3; rw [PN.out] at h1; omega, HT2.out.rds, B3.out.trans (HB.out.mono B3.out.size)⟩
end Go.Proofs.Ytcbecpgllebepaa.Crush
