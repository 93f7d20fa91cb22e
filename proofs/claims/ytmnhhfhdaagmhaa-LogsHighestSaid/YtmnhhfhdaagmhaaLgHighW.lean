/-
  LogsHighest, walked over what the laws take of the program.
-/
import Derived.Test.YtmnhhfhdaagmhaaLgAgainW
import Derived.Deep.RegionHeld3
import Derived.Deep.CutRange
namespace Go.Proofs.Ytmnhhfhdaagmhaa.Lg
set_option linter.unusedVariables false
set_option linter.unusedSimpArgs false
open Go.RowKit Mem Gt
open Jump (Gave equalZ_c)

theorem last_one {y : List En} {q : Nat} (h : y.length = q + 1) : ∃ u, y[q]? = some u ∧ y.getLast? = some u := by
  have hq : q < y.length := by omega
  exact ⟨y[q], List.getElem?_eq_getElem hq, by rw [List.getLast?_eq_getElem?, h]; exact List.getElem?_eq_getElem hq⟩
def slE : Enc (Option Addr × Nat × Nat) 1 := ⟨fun s => [.slice s.1 s.2.1 s.2.2], fun _ => rfl, fun x v hv => by simp at hv; subst hv; rfl⟩
theorem elLg : El 22 23 1 24 := El.of Try.underlying22 (by kernel_rfl)
theorem flat_sl (ss : List (Option Addr × Nat × Nat)) : flat slE ss = ss.map (fun s => Value.slice s.1 s.2.1 s.2.2) := by
  induction ss with
  | nil => rfl
  | cons a l ih => rw [flat_cons, ih]; rfl
theorem reads_kept {W V : World} {A : Option Addr} {l : List Value} {r : Option Nat} (h : Reads W A l) (hg : W.grownBy V r) (hr : ∀ a, A = some a → r ≠ some a.block) : Reads V A l := fun k v hv => by
  obtain ⟨b, o, e, hb, hc⟩ := h k v hv
  refine ⟨b, o, e, Nat.lt_of_lt_of_le hb hg.size, ?_⟩
  exact hg.cell hc (fun e' => hr _ e e'.symm)
/-- The logs that have been brought there: all the same. -/
structure Same (W : World) (B : Nat) (v : Value) (j : Nat) (top : List En) (ss : List (Option Addr × Nat × Nat)) : Prop where
  tab : Tab slE W B 23 v ss
  len : ss.length = j
  all : ∀ s ∈ ss, s.2.1 = top.length ∧ s.2.1 ≤ s.2.2 ∧ s.2.2 ≤ 9223372036854775807 ∧ Reads W s.1 (flat enE top) ∧ ∀ a, s.1 = some a → v.ownBlock ≠ some a.block
theorem Same.later {W V : World} {B j : Nat} {v : Value} {top : List En} {ss : List (Option Addr × Nat × Nat)} (h : Same W B v j top ss) (hb : Below W.heap.size W V) : Same V B v j top ss := ⟨h.tab.later hb, h.len, fun s hs => by
  obtain ⟨h1, h2, h3, h4, h5⟩ := h.all s hs
  exact ⟨h1, h2, h3, h4.below hb, h5⟩⟩
theorem Same.rds {W : World} {B j c : Nat} {A : Option Addr} {top : List En} {ss : List (Option Addr × Nat × Nat)} (h : Same W B (.slice A j c) j top ss) (hl : top.length ≤ 400) : GRds enE W A (List.replicate j top) :=
  ⟨flat slE ss, h.tab.reads, by rw [flat_sl, List.length_map, h.len, List.length_replicate], fun k u l hu hl' => by
    rw [List.getElem?_replicate] at hl'
    split at hl'
    · injection hl' with hl'
      subst hl'
      rw [flat_sl] at hu
      obtain ⟨s, hs, rfl⟩ := List.mem_map.1 (List.mem_of_getElem? hu)
      obtain ⟨h1, h2, h3, h4, _⟩ := h.all s hs
      exact ⟨s.1, s.2.2, by rw [h1], by rw [← h1]; exact ⟨h2, h3⟩, by omega, h4⟩
    · cases hl'⟩
/-- One more. -/
theorem Same.more {W w' : World} {B j n' c' c1 nt : Nat} {v : Value} {A' A1 : Option Addr} {top : List En} {ss : List (Option Addr × Nat × Nat)} (h : Same W B v j top ss) (hnt : top.length = nt) (hb1 : nt ≤ c1) (hb2 : c1 ≤ 9223372036854775807) (hr : Reads W A1 (flat enE top)) (hne : ∀ a, A1 = some a → v.ownBlock ≠ some a.block) (h0 : top ≠ [])
    (T : Tab slE w' B 23 (.slice A' n' c') (ss ++ [(A1, nt, c1)])) (hg : (W.alloc (.cells #[.slice A1 nt c1] 23)).grownBy w' v.ownBlock) (ho : (Value.slice A' n' c').ownBlock = v.ownBlock ∨ (Value.slice A' n' c').ownBlock = some (W.heap.size + 1)) :
    Same w' B (.slice A' n' c') (j + 1) top (ss ++ [(A1, nt, c1)]) := by
  have lt : ∀ (C : Option Addr), Reads W C (flat enE top) → ∀ a, C = some a → a.block < W.heap.size := fun C hC a ha => by
    cases top with
    | nil => exact absurd rfl h0
    | cons x l =>
      obtain ⟨b, o, e, hb, _⟩ := rds_at enE (by decide) hC (k := 0) (x := x) rfl
      rw [ha] at e; injection e with e; rw [e]; exact hb
  have key : ∀ (C : Option Addr), Reads W C (flat enE top) → (∀ a, C = some a → v.ownBlock ≠ some a.block) → Reads w' C (flat enE top) ∧ ∀ a, C = some a → (Value.slice A' n' c').ownBlock ≠ some a.block := fun C hC hne => by
    refine ⟨reads_kept (hC.below (low_lit W _)) hg hne, fun a ha => ?_⟩
    rcases ho with ho | ho
    · rw [ho]; exact hne a ha
    · rw [ho]
      intro e
      injection e with e
      have := lt C hC a ha
      omega
  refine ⟨T, by rw [List.length_append, h.len]; rfl, fun s hs => ?_⟩
  rcases List.mem_append.1 hs with hs | hs
  · obtain ⟨h1, h2, h3, h4, h5⟩ := h.all s hs
    obtain ⟨k1, k2⟩ := key s.1 h4 h5
    exact ⟨h1, h2, h3, k1, k2⟩
  · simp only [List.mem_singleton] at hs
    subst hs
    obtain ⟨k1, k2⟩ := key A1 hr hne
    exact ⟨hnt.symm, hb1, hb2, k1, k2⟩
theorem not_higher {u t : En} (h : higher u t = false) : ¬ t.1 < u.1 ∧ ((u.1 == t.1) = false ∨ u.1 = t.1 ∧ ¬ t.2.1 < u.2.1) := by
  simp only [higher, Bool.or_eq_false_iff, Bool.and_eq_false_iff, decide_eq_false_iff_not] at h
  refine ⟨by omega, ?_⟩
  by_cases e : u.1 = t.1
  · right; exact ⟨e, by omega⟩
  · left; simpa using e
set_option maxRecDepth 100000 in
set_option maxHeartbeats 16000000 in
theorem highest_w (hB : BestSpec) (hM : MergeSpec) (A : Option Addr) (ls : List (List En)) (n ca : Nat) (W : World) (hn : ls.length = n) (hbig : n ≤ 5864062014805) (hx : GRds enE W A ls) (hf : ∀ l ∈ ls, FitL l) :
    Calls Try.prog 7 #[.slice A n ca] W (Law.Yes W) := by
  have AL := Lib.hid (alive_c hB hM W)
  obtain ⟨kk, hkk⟩ : ∃ kk, bestK ls = kk := ⟨_, rfl⟩
  obtain ⟨e, he⟩ : ∃ e, bestE ls = e := ⟨_, rfl⟩
  have P1 := Lib.hid (fun V (hV : Below W.heap.size W V) => hB A ls n ca V kk e hn (by omega) (hx.below hV) hkk he)
  by_cases he0 : e = 0
  · subst he0
    obtain ⟨top, htop, hist, hlt, _⟩ := best_facts he
    rw [hkk] at htop hlt
    obtain ⟨h16, hoks⟩ := best_ok he
    obtain ⟨t, htl, hmax⟩ := isTop_iff.1 hist
    obtain ⟨nt, hnt⟩ : ∃ nt, top.length = nt := ⟨_, rfl⟩
    have hok := hoks top (List.mem_of_getElem? htop)
    have hne : top ≠ [] := fun e => by rw [e] at htl; simp at htl
    have hnt0 : 0 < nt := by
      rcases Nat.eq_zero_or_pos nt with h | h
      · exact absurd (List.eq_nil_of_length_eq_zero (hnt.trans h)) hne
      · exact h
    obtain ⟨pt, hpt⟩ : ∃ pt, nt = pt + 1 := ⟨nt - 1, by omega⟩
    obtain ⟨t', ht1, ht2⟩ := last_one (hnt.trans hpt)
    rw [htl] at ht2
    injection ht2 with ht2
    subst ht2
    have hn16 : n ≤ 16 := by omega
    have n0 : 0 < n := by omega
    obtain ⟨b1, o1, D, d, rfl, _, zW, hld, hd2, hrt⟩ := hx.row htop
    rw [hnt] at zW hld hd2
    obtain ⟨b2, o2, rfl, hb2, _, _, _⟩ := en_at hrt ht1
    have ZW := Lib.hid zW
    have RT := Lib.hid hrt
    have HX := Lib.hid hx
    have HN := Lib.hid hn
    have HT := Lib.hid htop
    have HTL := Lib.hid ht1
    have HNT := Lib.hid hnt
    have MX := Lib.hid hmax
    have HOK := Lib.hid hoks
    have HF := Lib.hid hf
    have OKT := Lib.hid hok
    have P2 := Lib.hid (fun A ss cb B V (h : Same V B (.slice A n cb) n top ss) => hB A (List.replicate n top) n cb V 0 0 (by rw [List.length_replicate]) (by omega) (h.rds (okL_len hok)) (best_same n0 hn16 hok hne).2 (best_same n0 hn16 hok hne).1)
    have MM := Lib.hid hM
    have k0 : ¬ (kk : Int) < 0 := by omega
    have k1 : ¬ (n : Int) ≤ (kk : Int) := by omega
    have k2 : (kk : Int) < (n : Int) := by omega
    have k3 : ¬ n ≤ kk := by omega
    have nt1 : ((nt : Int) == 0) = false := by simp; omega
    have wt : IntKind.i64.wrap ((nt : Int) - 1) = (pt : Int) := by
      have := okL_len hok
      rw [IntWalk.i64_in _ (by omega)]; omega
    have ptn : (pt : Int) < (nt : Int) := by omega
    obtain ⟨t0, t1, t2⟩ := t
    have NEM := Lib.hid hne
    clear hx hn hf hkk he htop hist hlt h16 hoks htl hmax hnt hok hne hpt ht1 zW hrt
    go_enter Try.func7, Try.ntmps7
    go_wp2_with fail
    refine AL.out.mono ?_
    rintro u w1 ⟨rfl, hb⟩
    have B1 := Lib.hid hb
    have E1 := Lib.hid (P1.out w1 hb)
    clear hb AL P1
    go_wp2_with fail
    refine E1.out.mono ?_
    rintro u w2 ⟨rfl, hb⟩
    have B2 := Lib.hid (B1.out.trans (hb.mono B1.out.size))
    clear hb E1 B1
    go_wp2_with fail
    go_loopw [5, 44] (fun v i wr => ∃ (j : Nat) (A5 : Option Addr) (c5 : Nat) (ss : List (Option Addr × Nat × Nat)), j ≤ n ∧ i = .int .i64 j ∧ v = .slice A5 j c5 ∧ Same wr w2.heap.size (.slice A5 j c5) j top ss ∧ Below w2.heap.size w2 wr) (fun _ i _ => n - (intOf i).toNat)
    case atStart => exact ⟨0, none, 0, [], by omega, rfl, rfl, ⟨Tab.nil _ _ _, rfl, fun u hu => by simp at hu⟩, Below.refl _ _⟩
    case round =>
      obtain ⟨j, A5, c5, ss, hj, rfl, rfl, hS, hbw⟩ := hrel
      have SS := Lib.hid hS
      have BW := Lib.hid hbw
      clear hS
      by_cases hlt : j < n
      · have jl : j < ls.length := by rw [HN.out]; exact hlt
        obtain ⟨y, hy⟩ : ∃ y, ls[j]? = some y := ⟨_, List.getElem?_eq_getElem jl⟩
        have hX := HX.out.below (B2.out.trans (hbw.mono B2.out.size))
        obtain ⟨b1', o1', C, c, e2, _, y0, hlc, hl2, hrd⟩ := hX.row hy
        injection e2 with e2
        injection e2 with e3 e4
        subst e3 e4
        have hWr := B2.out.trans (hbw.mono B2.out.size)
        have z0 := (hWr.cell (World.block_lt_of_cell? _ _ ZW.out)).trans ZW.out
        have hrt := RT.out.below hWr
        obtain ⟨q, hq⟩ : ∃ q, y.length = q := ⟨_, rfl⟩
        rw [hq] at y0 hlc hl2
        have hoky := HOK.out y (List.mem_of_getElem? hy)
        obtain ⟨ks, hks⟩ : ∃ ks, keysOf (rest2 y top) = ks := ⟨_, rfl⟩
        obtain ⟨wrr, hwr⟩ : ∃ wrr, y.drop (com y top) = wrr := ⟨_, rfl⟩
        obtain ⟨nk, hnk⟩ : ∃ nk, ks.length = nk := ⟨_, rfl⟩
        obtain ⟨nw, hnw⟩ : ∃ nw, wrr.length = nw := ⟨_, rfl⟩
        have E2 := Lib.hid (MM.out C (some ⟨b2, o2, none⟩) y top q nt c d wr top wrr ks nt nk nw 0 hq HNT.out hlc.1 hld.1 hl2 hd2 hlc.2 hld.2 hrd hrt (HF.out y (List.mem_of_getElem? hy)) (HF.out top (List.mem_of_getElem? HT.out)) (by unfold lgE; rw [if_pos ⟨hoky, OKT.out⟩]) rfl hks hwr HNT.out hnk hnw)
        have j1 : (j : Int) < (n : Int) := by omega
        have HRD := Lib.hid hrd
        have HYL := Lib.hid hq
        have HY := Lib.hid hy
        clear jl hy hX hlc hrd hrt hWr hoky hks hwr hnk hnw hq hbw
        go_wp2_with fail
        refine E2.out.mono ?_
        rintro u w3 ⟨A1, c1, K1, d1, D1, q1, rfl, ⟨hc1, hc2, hfr⟩, hr, _, _, hb⟩
        have B3 := Lib.hid (BW.out.trans (hb.mono BW.out.size))
        have S3 := Lib.hid (SS.out.later hb)
        have HR := Lib.hid hr
        have RY := Lib.hid (HRD.out.below hb)
        have NE := Lib.hid (show ∀ a, A1 = some a → (Value.slice A5 j c5).ownBlock ≠ some a.block from fun a ha e => by
          obtain ⟨g1, g2⟩ := SS.out.tab.lt _ e
          rcases hfr a ha with h | h
          · omega
          · rw [ha] at h
            injection h with h
            have hb2' : a.block = b2 := by rw [h]
            have := B2.out.size
            omega)
        clear hb hr E2 SS BW HRD hfr
        by_cases hq0 : q = 0
        · subst hq0
          have sj : j < 1000 := by omega
          have S3b := S3.out
          have B3s := Lib.hid B3.out.size
          go_wp2_with (refine wpList_append_g (E := slE) elLg rfl _ _ (by rfl) (A1, nt, c1) rfl (by decide) (by rfl) (by rfl) S3.out.tab S3.out.len (by unfold maxLen; omega) (by omega) B3s.out ?_; intro A6 c6 w6 T6 G6 O6)
          go_roundw
          case rel => exact ⟨j + 1, A6, c6, _, by omega, by go_num, rfl, S3.out.more HNT.out hc1 hc2 HR.out NE.out NEM.out T6.out G6.out O6.out, (S3.out.tab.alloc _).below G6.out (B3.out.alloc B3.out.size _) (Nat.le_refl _) (Nat.le_trans B3.out.size (by simp))⟩
          case measure => simp [intOf]; omega
        · obtain ⟨r, hr⟩ : ∃ r, q = r + 1 := ⟨q - 1, by omega⟩
          obtain ⟨v, hv, hvl⟩ := last_one (HYL.out.trans hr)
          obtain ⟨b3, o3, rfl, _, x0, x1, x2⟩ := en_at RY.out hv
          obtain ⟨b4, o4, rfl, _, m0, m1, m2⟩ := en_at HR.out HTL.out
          have NH := Lib.hid (not_higher (MX.out y (List.mem_of_getElem? HY.out) v hvl))
          obtain ⟨v0, v1, v2⟩ := v
          simp only at x0 x1 x2 m0 m1 m2 NH
          have q0 : (0 : Int) < (q : Int) := by omega
          have wq : IntKind.i64.wrap ((q : Int) - 1) = (r : Int) := by rw [IntWalk.i64_in _ (by omega)]; omega
          have rq : (r : Int) < (q : Int) := by omega
          clear hr hv hvl
          go_upto_region 15 with fail
          go_cut [13, 14] from 70 to 80 (fun v u wx => ∃ g h : Nat, v = .pointer (some ⟨g, 0, none⟩) ∧ u = .pointer (some ⟨h, 0, none⟩) ∧ wx.cell? ⟨g, 0, none⟩ = some (.int .i64 v0) ∧ wx.cell? ⟨g, 1, none⟩ = some (.int .i64 v1) ∧ wx.cell? ⟨h, 0, none⟩ = some (.int .i64 t0) ∧ wx.cell? ⟨h, 1, none⟩ = some (.int .i64 t1) ∧ Below w3.heap.size w3 wx)
          case first =>
            have K1 := Mem.Known.made w3 tE #[.int .i64 v0, .int .i64 v1, .int .i64 v2]
            have K2 := Mem.Known.made (w3.alloc (.cells #[.int .i64 v0, .int .i64 v1, .int .i64 v2] tE)) tE #[.int .i64 t0, .int .i64 t1, .int .i64 t2]
            have K3 := Mem.Known.made w3 tE #[.int .i64 t0, .int .i64 t1, .int .i64 t2]
            have K4 := Mem.Known.made (w3.alloc (.cells #[.int .i64 t0, .int .i64 t1, .int .i64 t2] tE)) tE #[.int .i64 v0, .int .i64 v1, .int .i64 v2]
            have Q1 := Lib.hid (K1.alloc (.cells #[.int .i64 t0, .int .i64 t1, .int .i64 t2] tE))
            rw [show (w3.alloc (.cells #[.int .i64 v0, .int .i64 v1, .int .i64 v2] tE)).heap.size = w3.heap.size + 1 by simp] at K2
            have Q2 := Lib.hid K2
            have Q3 := Lib.hid (K3.alloc (.cells #[.int .i64 v0, .int .i64 v1, .int .i64 v2] tE))
            rw [show (w3.alloc (.cells #[.int .i64 t0, .int .i64 t1, .int .i64 t2] tE)).heap.size = w3.heap.size + 1 by simp] at K4
            have Q4 := Lib.hid K4
            have BL1 := Lib.hid (show Below w3.heap.size w3 ((w3.alloc (.cells #[.int .i64 v0, .int .i64 v1, .int .i64 v2] tE)).alloc (.cells #[.int .i64 t0, .int .i64 t1, .int .i64 t2] tE)).drew from Mem.below_drew ((low_lit w3 _).alloc (by simp) _))
            have BL2 := Lib.hid (show Below w3.heap.size w3 ((w3.alloc (.cells #[.int .i64 t0, .int .i64 t1, .int .i64 t2] tE)).alloc (.cells #[.int .i64 v0, .int .i64 v1, .int .i64 v2] tE)).drew from Mem.below_drew ((low_lit w3 _).alloc (by simp) _))
            clear K1 K2 K3 K4
            go_region
            all_goals
              go_wp2
              go_meet
              first
                | exact ⟨_, _, rfl, rfl, Q1.out.cell 0, Q1.out.cell 1, Q2.out.cell 0, Q2.out.cell 1, BL1.out⟩
                | exact ⟨_, _, rfl, rfl, Q4.out.cell 0, Q4.out.cell 1, Q3.out.cell 0, Q3.out.cell 1, BL2.out⟩
          case rest =>
            obtain ⟨g, h, rfl, rfl, g0, g1, h0, h1, hb⟩ := hcut
            have B4 := Lib.hid (B3.out.trans (hb.mono B3.out.size))
            have S4 := Lib.hid (S3.out.later hb)
            have R4 := Lib.hid (HR.out.below hb)
            have B4s := Lib.hid B4.out.size
            have sj : j < 1000 := by omega
            clear hb x0 x1 x2 m0 m1 m2
            obtain ⟨w4, rfl⟩ : ∃ w4 : World, w4 = wc := ⟨_, rfl⟩
            obtain ⟨nh1, nh2⟩ := NH.out
            rcases nh2 with nh2 | ⟨rfl, nh2⟩
            · go_upto_region 18 with fail
              go_wp2_with (refine wpList_append_g (E := slE) elLg rfl _ _ (by rfl) (some ⟨b4, o4, none⟩, nt, c1) rfl (by decide) (by rfl) (by rfl) S4.out.tab S4.out.len (by unfold maxLen; omega) (by omega) B4s.out ?_; intro A6 c6 w6 T6 G6 O6)
              go_roundw
              case rel => exact ⟨j + 1, A6, c6, _, by omega, by go_num, rfl, S4.out.more HNT.out hc1 hc2 R4.out NE.out NEM.out T6.out G6.out O6.out, (S4.out.tab.alloc _).below G6.out (B4.out.alloc B4.out.size _) (Nat.le_refl _) (Nat.le_trans B4.out.size (by simp))⟩
              case measure => simp [intOf]; omega
            · have nh3 : (v0 == v0) = true := by simp
              go_upto_region 18 with fail
              go_wp2_with (refine wpList_append_g (E := slE) elLg rfl _ _ (by rfl) (some ⟨b4, o4, none⟩, nt, c1) rfl (by decide) (by rfl) (by rfl) S4.out.tab S4.out.len (by unfold maxLen; omega) (by omega) B4s.out ?_; intro A6 c6 w6 T6 G6 O6)
              go_roundw
              case rel => exact ⟨j + 1, A6, c6, _, by omega, by go_num, rfl, S4.out.more HNT.out hc1 hc2 R4.out NE.out NEM.out T6.out G6.out O6.out, (S4.out.tab.alloc _).below G6.out (B4.out.alloc B4.out.size _) (Nat.le_refl _) (Nat.le_trans B4.out.size (by simp))⟩
              case measure => simp [intOf]; omega
      · obtain rfl : j = n := by omega
        have hWr := B2.out.trans (hbw.mono B2.out.size)
        have E2 := Lib.hid (P2.out A5 ss c5 _ wr SS.out)
        have BR := Lib.hid hWr
        clear hbw hWr BW
        go_wp2_with fail
        refine E2.out.mono ?_
        rintro u w3 ⟨rfl, hb⟩
        have B3 := Lib.hid (BR.out.trans (hb.mono BR.out.size))
        have hrow := (SS.out.later hb).rds (okL_len OKT.out)
        obtain ⟨b3, o3, D3, d3, rfl, _, y0, _, _, hr3⟩ := hrow.row (k := 0) (l := top) (by rw [List.getElem?_replicate, if_pos n0])
        rw [HNT.out] at y0
        have z0 := (B3.out.cell (World.block_lt_of_cell? _ _ ZW.out)).trans ZW.out
        have EQ := Lib.hid (fun q => show Calls Try.prog 18 #[.slice D3 nt d3, .slice (some ⟨b2, o2, none⟩) nt d] (w3.drewN q) (fun e W' => e = .returned (.bool true) ∧ ∃ m, W' = (w3.drewN q).drewN m) from by
          have := equalEn_d D3 (some ⟨b2, o2, none⟩) top top nt nt d3 d (w3.drewN q) HNT.out HNT.out (by omega) (hr3.below (Mem.below_drewN (Below.refl _ _) q)) ((RT.out.below B3.out).below (Mem.below_drewN (Below.refl _ _) q))
          rwa [show eqEn top top = true by unfold eqEn; simp] at this)
        have kn0 : (0 : Int) < (j : Int) := by omega
        clear hb hrow hr3 E2 SS
        simp only [Nat.add_zero] at y0
        go_upto_region 21 with fail
        go_quiet ((go_at_call 18; exact quiet_of_drawn (EQ.out _)))
        go_wp2
        go_ret
        exact ⟨rfl, Mem.below_drewN B3.out _⟩
  · have hk0 : kk = 0 := by rw [← hkk]; unfold bestK; rw [he, if_neg he0]
    subst hk0
    have e1 : (e != 0) = true := by simp [he0]
    clear hx hf hn hkk he
    go_enter Try.func7, Try.ntmps7
    go_wp2_with fail
    refine AL.out.mono ?_
    rintro u w1 ⟨rfl, hb⟩
    have B1 := Lib.hid hb
    have E1 := Lib.hid (P1.out w1 hb)
    clear hb AL P1
    go_wp2_with fail
    refine E1.out.mono ?_
    rintro u w2 ⟨rfl, hb⟩
    have B2 := Lib.hid (B1.out.trans (hb.mono B1.out.size))
    clear hb
    go_wp2
    go_ret
    exact ⟨rfl, B2.out⟩
end Go.Proofs.Ytmnhhfhdaagmhaa.Lg
