/-
  What OrsetLattice asks first: bags of one history.
-/
import Derived.Test.YthebilmeehnkpaaOrAddsW
import Derived.Test.YthebilmeehnkpaaGKMap
import Derived.Lib.QuietBelow
namespace Go.Proofs.Ythebilmeehnkpaa.Ors
set_option linter.unusedVariables false
set_option linter.unusedSimpArgs false
open Go.RowKit Mem Gt
open Jump (Gave equalZ_c)
open Go.Sort (grow)

/-! ### Pure -/
def Clash (t u : Tg) : Prop := t.1 = u.1 ∧ t.2.1 = u.2.1 ∧ t.2.2 ≠ u.2.2
def clash (t u : Tg) : Bool := decide (t.1 = u.1) && decide (t.2.1 = u.2.1) && !decide (t.2.2 = u.2.2)
theorem clash_iff {t u : Tg} : clash t u = true ↔ Clash t u := by simp [clash, Clash, and_assoc]
def clear_ (l : List Tg) : Bool := l.all (fun t => l.all (fun u => !clash t u))
theorem clear_iff {l : List Tg} : clear_ l = true ↔ ∀ t ∈ l, ∀ u ∈ l, ¬ Clash t u := by
  unfold clear_
  rw [List.all_eq_true]
  refine forall_congr' fun t => forall_congr' fun _ => ?_
  rw [List.all_eq_true]
  refine forall_congr' fun u => forall_congr' fun _ => ?_
  rw [← clash_iff]
  cases clash t u <;> simp
def lenOf (bs : List Bg) : Nat := ((bs.head?).map (fun b => b.2.length)).getD 0
def tags (bs : List Bg) : List Tg := bs.flatMap (·.1)
def tog (bs : List Bg) : Bool := bs.all okB && bs.all (fun b => decide (b.2.length = lenOf bs)) && clear_ (tags bs)
theorem tog_iff {bs : List Bg} : tog bs = true ↔ (∀ b ∈ bs, OkB b) ∧ (∀ b ∈ bs, b.2.length = lenOf bs) ∧ ∀ t ∈ tags bs, ∀ u ∈ tags bs, ¬ Clash t u := by
  unfold tog
  rw [Bool.and_eq_true, Bool.and_eq_true, clear_iff, List.all_eq_true, List.all_eq_true, and_assoc]
  simp only [okB_iff, decide_eq_true_eq]
/-- What the map knows of the tags that have been seen. -/
structure Seen (f : Int → Int → Int) (ks : List (Int × Int)) (seen : List Tg) : Prop where
  keys : ∀ x y, (x, y) ∈ ks ↔ ∃ t ∈ seen, t.1 = x ∧ t.2.1 = y
  val : ∀ t ∈ seen, f t.1 t.2.1 = t.2.2
  many : ks.length ≤ seen.length
theorem Seen.nil : Seen (fun _ _ => 0) [] [] := ⟨fun x y => by simp, fun t h => by simp at h, Nat.le_refl _⟩
theorem Seen.step {f : Int → Int → Int} {ks : List (Int × Int)} {seen : List Tg} {t : Tg} (h : Seen f ks seen) (hk : (t.1, t.2.1) ∈ ks → f t.1 t.2.1 = t.2.2) : Seen (setK f t.1 t.2.1 t.2.2) (addP ks (t.1, t.2.1)) (seen ++ [t]) := by
  refine ⟨fun x y => ?_, fun u hu => ?_, ?_⟩
  · rw [mem_addP, h.keys]
    constructor
    · rintro (e | ⟨u, hu, h1, h2⟩)
      · injection e with e1 e2
        exact ⟨t, by simp, e1.symm, e2.symm⟩
      · exact ⟨u, by simp [hu], h1, h2⟩
    · rintro ⟨u, hu, rfl, rfl⟩
      rcases List.mem_append.1 hu with hu | hu
      · exact .inr ⟨u, hu, rfl, rfl⟩
      · simp at hu; subst hu; exact .inl rfl
  · unfold setK
    split
    · rename_i e
      rcases List.mem_append.1 hu with hu | hu
      · have h1 := h.val u hu
        rw [e.1, e.2] at h1
        rw [← h1]
        exact (hk ((h.keys _ _).2 ⟨u, hu, e.1, e.2⟩)).symm
      · simp at hu; subst hu; rfl
    · rename_i e
      rcases List.mem_append.1 hu with hu | hu
      · exact h.val u hu
      · simp at hu; subst hu; exact absurd ⟨rfl, rfl⟩ e
  · rw [List.length_append]
    exact Nat.le_trans (addP_len _ _) (Nat.add_le_add_right h.many _)
/-- A clash: it is not so. -/
theorem Seen.bad {f : Int → Int → Int} {ks : List (Int × Int)} {seen : List Tg} {t : Tg} (h : Seen f ks seen) (hk : (t.1, t.2.1) ∈ ks) (hne : f t.1 t.2.1 ≠ t.2.2) : ∃ u ∈ seen, Clash u t := by
  obtain ⟨u, hu, h1, h2⟩ := (h.keys _ _).1 hk
  refine ⟨u, hu, h1, h2, fun e => hne ?_⟩
  have := h.val u hu
  rw [h1, h2] at this
  rw [this, e]
theorem Seen.fine {f : Int → Int → Int} {ks : List (Int × Int)} {seen : List Tg} {t : Tg} (h : Seen f ks seen) (hf : ∀ u ∈ seen, ¬ Clash u t) (hk : (t.1, t.2.1) ∈ ks) : f t.1 t.2.1 = t.2.2 := by
  by_cases e : f t.1 t.2.1 = t.2.2
  · exact e
  · obtain ⟨u, hu, hc⟩ := h.bad hk e
    exact absurd hc (hf u hu)
def upTags (bs : List Bg) (k : Nat) : List Tg := tags (bs.take k)
theorem upTags_step {bs : List Bg} {k : Nat} {b : Bg} (hk : bs[k]? = some b) : upTags bs (k + 1) = upTags bs k ++ b.1 := by
  unfold upTags tags
  rw [List.take_add_one, hk, List.flatMap_append]
  simp
theorem upTags_in {bs : List Bg} {k : Nat} {t : Tg} (h : t ∈ upTags bs k) : t ∈ tags bs := by
  unfold upTags tags at *
  rw [List.mem_flatMap] at h ⊢
  obtain ⟨b, hb, ht⟩ := h
  exact ⟨b, List.mem_of_mem_take hb, ht⟩
theorem tags_at {bs : List Bg} {k : Nat} {b : Bg} {t : Tg} (hk : bs[k]? = some b) (ht : t ∈ b.1) : t ∈ tags bs := List.mem_flatMap.2 ⟨b, List.mem_of_getElem? hk, ht⟩
theorem tog_no_ok {bs : List Bg} {k : Nat} {b : Bg} (hk : bs[k]? = some b) (h : okB b = false) : tog bs = false := by
  cases e : tog bs with
  | false => rfl
  | true =>
    have := okB_iff.2 ((tog_iff.1 e).1 b (List.mem_of_getElem? hk))
    rw [h] at this; cases this
theorem tog_no_len {bs : List Bg} {k : Nat} {b b0 : Bg} (hk : bs[k]? = some b) (h0 : bs[0]? = some b0) (h : b.2.length ≠ b0.2.length) : tog bs = false := by
  cases e : tog bs with
  | false => rfl
  | true =>
    have h1 := (tog_iff.1 e).2.1 b (List.mem_of_getElem? hk)
    have h2 := (tog_iff.1 e).2.1 b0 (List.mem_of_getElem? h0)
    exact absurd (h1.trans h2.symm) h
theorem tog_no_clash {bs : List Bg} {k : Nat} {b : Bg} {t u : Tg} (hk : bs[k]? = some b) (ht : t ∈ b.1) (hu : u ∈ tags bs) (h : Clash u t) : tog bs = false := by
  cases e : tog bs with
  | false => rfl
  | true => exact absurd h ((tog_iff.1 e).2.2 u hu t (tags_at hk ht))
theorem clash_symm {t u : Tg} (h : Clash t u) : Clash u t := ⟨h.1.symm, h.2.1.symm, fun e => h.2.2 e.symm⟩
theorem clash_self (t : Tg) : ¬ Clash t t := fun h => h.2.2 rfl
/-- So far no clash. -/
def Calm (l : List Tg) : Prop := ∀ t ∈ l, ∀ u ∈ l, ¬ Clash t u
theorem Calm.snoc {l : List Tg} {t : Tg} (h : Calm l) (hf : ∀ u ∈ l, ¬ Clash u t) : Calm (l ++ [t]) := fun x hx y hy => by
  rcases List.mem_append.1 hx with kx | kx <;> rcases List.mem_append.1 hy with ky | ky
  · exact h x kx y ky
  · simp at ky; rw [ky]; exact hf x kx
  · simp at kx; rw [kx]; exact fun c => hf y ky (clash_symm c)
  · simp at kx ky; rw [kx, ky]; exact clash_self _
theorem tog_yes {bs : List Bg} {n : Nat} {b0 : Bg} (hn : bs.length = n) (h0 : bs[0]? = some b0) (h1 : ∀ (k : Nat) (b : Bg), k < n → bs[k]? = some b → OkB b ∧ b.2.length = b0.2.length) (hc : Calm (upTags bs n)) : tog bs = true := by
  have hl : lenOf bs = b0.2.length := by unfold lenOf; rw [List.head?_eq_getElem?, h0]; rfl
  have key : ∀ b ∈ bs, OkB b ∧ b.2.length = b0.2.length := fun b hb => by
    obtain ⟨k, hk⟩ := List.mem_iff_getElem?.1 hb
    exact h1 k b (by rw [← hn]; exact (List.getElem?_eq_some_iff.1 hk).1) hk
  refine tog_iff.2 ⟨fun b hb => (key b hb).1, fun b hb => by rw [hl]; exact (key b hb).2, ?_⟩
  unfold upTags at hc
  rw [List.take_of_length_le (Nat.le_of_eq hn)] at hc
  exact hc
/-! ### In memory -/
/-- A slice of bags lies in block g. -/
def BL (W : World) (g : Nat) (bs : List Bg) : Prop := ∀ (k : Nat) (b : Bg), bs[k]? = some b → ∃ (H S : Option Addr) (nh ch ns cs : Nat), W.cell? ⟨g, k * 2, none⟩ = some (.slice H nh ch) ∧ W.cell? ⟨g, k * 2 + 1, none⟩ = some (.slice S ns cs) ∧ HB W H S nh ch ns cs b
theorem BL.below {W V : World} {g : Nat} {bs : List Bg} (h : BL W g bs) (hb : Below W.heap.size W V) : BL V g bs := fun k b hk => by
  obtain ⟨H, S, nh, ch, ns, cs, h1, h2, h3⟩ := h k b hk
  exact ⟨H, S, nh, ch, ns, cs, (hb.cell (World.block_lt_of_cell? _ _ h1)).trans h1, (hb.cell (World.block_lt_of_cell? _ _ h2)).trans h2, h3.below hb⟩
theorem wf_who {b : Bg} {t : Tg} (h : OkB b) (ht : t ∈ b.1) : WfI t.1 ∧ WfI t.2.1 := by
  obtain ⟨h1, h2, h3, h4⟩ := h.tags t ht
  have hw := h.wide
  have hs : sawAt b.2 t.1 ≤ 1099511627776 := by
    obtain ⟨k, hk⟩ : ∃ k : Nat, t.1 = k := ⟨t.1.toNat, by omega⟩
    rw [hk]
    exact (h.saw _ (List.mem_of_getElem? (saw_get (by rw [hk] at h2; omega)))).2
  exact ⟨wf_of ⟨by omega, by omega⟩, wf_of ⟨by omega, by omega⟩⟩
theorem box2 {w : World} (x y : Int) : let w' := w.alloc (.cells #[.int .i64 x, .int .i64 y] 73)
    w'.cell? ⟨w.heap.size, 0, none⟩ = some (.int .i64 x) ∧ w'.cell? ⟨w.heap.size, 1, none⟩ = some (.int .i64 y) := by
  have kn := Known.made w 73 #[.int .i64 x, .int .i64 y]
  exact ⟨kn.cell 0, kn.cell 1⟩
theorem upB {gm : Nat} {W V U : World} (hg : W.heap.size = gm) (h : Below gm W V) (k : Below V.heap.size V U) : Below gm W U := h.trans (k.mono (hg ▸ h.size))
set_option maxRecDepth 100000 in
set_option maxHeartbeats 16000000 in
theorem together_c (hR : RightSpec) (g n ca : Nat) (bs : List Bg) (W : World) (r : Bool) (hn : bs.length = n) (h3 : n ≤ 3) (h : BL W g bs) (hr : tog bs = r) (h0 : 0 < n) :
    Calls Try.prog 23 #[.slice (some ⟨g, 0, none⟩) n ca] W (Gave (.bool r) W) := by
  have mt := Try.underlying72
  have hmm := @run_makeMap Try.prog
  obtain ⟨b0, hb0⟩ : ∃ b, bs[0]? = some b := ⟨_, List.getElem?_eq_getElem (by omega)⟩
  have HB0 := Lib.hid hb0
  have HN := Lib.hid hn
  have HLW := Lib.hid h
  have HR := Lib.hid hr
  obtain ⟨gm, hgm⟩ : ∃ gm, W.heap.size = gm := ⟨_, rfl⟩
  have M0 := Lib.hid (show KMap (W.alloc (.map #[] 0)) gm (fun _ _ => 0) [] from hgm ▸ KMap.made W)
  have BW := Lib.hid (show Below gm W (W.alloc (.map #[] 0)) from hgm ▸ low_lit W _)
  have HL := Lib.hid (fun V (hV : Below gm W V) => h.below (hgm.symm ▸ hV))
  have HGM := Lib.hid hgm
  clear hn h hr hb0
  go_enter Try.func23, Try.ntmps23
  go_wp2_with fail
  clear hgm
  go_loopw [14] (fun i wr => ∃ (k : Nat) (f : Int → Int → Int) (ks : List (Int × Int)), k ≤ n ∧ i = .int .i64 k ∧ KMap wr gm f ks ∧ Seen f ks (upTags bs k) ∧ Calm (upTags bs k) ∧ (upTags bs k).length ≤ k * 400 ∧ (∀ (j : Nat) (b : Bg), j < k → bs[j]? = some b → OkB b ∧ b.2.length = b0.2.length) ∧ Below gm W wr) (fun i _ => n - (Go.RowKit.intOf i).toNat)
  case atStart => exact ⟨0, _, _, by omega, rfl, M0.out, by simpa [upTags, tags] using Seen.nil, fun t ht => by simp [upTags, tags] at ht, by simp [upTags, tags], fun j b hj => absurd hj (Nat.not_lt_zero _), BW.out⟩
  case round =>
    obtain ⟨k, f, ks, hk, rfl, hM, hS, hC, hL, hO, hB⟩ := hrel
    have MM := Lib.hid hM
    have SS := Lib.hid hS
    have CC := Lib.hid hC
    have LL := Lib.hid hL
    have OO := Lib.hid hO
    have BB := Lib.hid hB
    clear hM hS hC hL hO
    by_cases hlt : k < n
    · obtain ⟨b, hb⟩ : ∃ b, bs[k]? = some b := ⟨_, List.getElem?_eq_getElem (by rw [HN.out]; exact hlt)⟩
      obtain ⟨H, S, nh, ch, ns, cs, v0, v1, hbw⟩ := HLW.out k b hb
      have hbW : Below W.heap.size W wr := by rw [HGM.out]; exact hB
      have y0 := (hbW.cell (World.block_lt_of_cell? _ _ v0)).trans v0
      have y1 := (hbW.cell (World.block_lt_of_cell? _ _ v1)).trans v1
      have hbag := hbw.below hbW
      have HBW := Lib.hid hbw
      obtain ⟨H0, S0, nh0, ch0, ns0, cs0, _, x1, hbag0⟩ := HL.out wr hB 0 b0 HB0.out
      have l0 := Lib.hid hbag0.lenS
      have l1 := Lib.hid hbag.lenS
      have lh := Lib.hid hbag.lenH
      have q1 := hbag.bs
      have q2 := hbag0.bs
      have q3 := hbag.bh
      simp only [Nat.zero_mul, Nat.zero_add] at x1
      have HBG := Lib.hid hbag
      have HBK := Lib.hid hb
      have GA := Lib.hid (HG.new (g := wr.heap.size) hbag rfl)
      have lw := low_lit wr (.cells #[.slice H nh ch, .slice S ns cs] 25)
      have x1a := (lw.cell (World.block_lt_of_cell? _ _ x1)).trans x1
      obtain ⟨w5, hw5⟩ : ∃ w5, wr.alloc (.cells #[.slice H nh ch, .slice S ns cs] 25) = w5 := ⟨_, rfl⟩
      rw [hw5] at GA lw x1a
      have LW := Lib.hid lw
      have M5 := Lib.hid (MM.out.later lw)
      have B5 := Lib.hid (upB HGM.out BB.out lw)
      have G0 := Lib.hid GA.out.1
      have G1 := Lib.hid GA.out.2.1
      have HX1 := Lib.hid x1a
      have CR := Lib.hid (fun (V : World) (hb : Below w5.heap.size w5 V) (q : Bool) (hq : okB b = q) => hR H S nh ch ns cs b V q (GA.out.2.2.below hb) hq)
      have cb0 : ∀ d os, (grow (redrawn w5 d) os).cell? _ = _ := fun d os => cell_regrown G0.out d os
      have cb1 : ∀ d os, (grow (redrawn w5 d) os).cell? _ = _ := fun d os => cell_regrown G1.out d os
      have cx1 : ∀ d os, (grow (redrawn w5 d) os).cell? _ = _ := fun d os => cell_regrown HX1.out d os
      have j1 : (k : Int) < (n : Int) := by omega
      have j0 : (0 : Int) < (n : Int) := by omega
      clear hb hbag hbag0 hB lw x1 x1a v0 v1 hbw hbW
      cases hok : okB b with
      | false =>
        have E := Lib.hid (show false = r by rw [← HR.out, tog_no_ok HBK.out hok])
        have CR1 := Lib.hid (fun V hV => CR.out V hV false hok)
        clear CR hok
        go_wp2_with fail
        clear hw5
        go_upto_region 5 with fail
        refine wp_region_quiet_below (by kernel_rfl) (by kernel_rfl) ?_
        repeat (go_big_quiet_step (first | (go_at_call 14; refine Calls.regrown_of (CR1.out _ (below_regrown _ _ _)))))
        refine wpQuiet_nil ?_
        intro _ hw'
        obtain ⟨⟨dd, os⟩, hw''⟩ := hw'
        subst hw''
        have br := Lib.hid (below_regrown w5 dd os)
        clear cb0 cb1 cx1
        go_wp2
        rw [← E.out]
        go_ret
        exact ⟨rfl, HGM.out ▸ upB HGM.out B5.out br.out⟩
      | true =>
        have CR1 := Lib.hid (fun V hV => CR.out V hV true hok)
        have OK := Lib.hid (okB_iff.1 hok)
        clear CR hok
        by_cases hlen : ns = ns0
        · subst hlen
          have n1 : ((ns : Int) != (ns : Int)) = false := by simp
          go_wp2_with fail
          clear hw5
          go_upto_region 5 with fail
          refine wp_region_quiet_below (by kernel_rfl) (by kernel_rfl) ?_
          repeat (go_big_quiet_step (first | (go_at_call 14; refine Calls.regrown_of (CR1.out _ (below_regrown _ _ _)))))
          refine wpQuiet_nil ?_
          intro _ hw'
          obtain ⟨⟨dd, os⟩, hw''⟩ := hw'
          obtain ⟨w6, hw6⟩ : ∃ w6, grow (redrawn w5 dd) os = w6 := ⟨_, rfl⟩
          have br := Lib.hid (show Below w5.heap.size w5 w6 from hw6 ▸ below_regrown w5 dd os)
          have z0 : w6.cell? ⟨wr.heap.size, 0, none⟩ = _ := hw6 ▸ cb0 dd os
          have z1 : w6.cell? ⟨wr.heap.size, 1, none⟩ = _ := hw6 ▸ cb1 dd os
          subst hw''
          have M6 := Lib.hid (M5.out.later br.out)
          have B6 := Lib.hid (upB HGM.out B5.out br.out)
          have FT := Lib.hid GA.out.2.2.fit
          clear cb0 cb1 cx1 n1 CR1
          simp only [hw6]
          clear hw6
          go_wp2_with fail
          clear z0 z1
          go_loopw [35] (fun j V => ∃ (q : Nat) (f : Int → Int → Int) (ks : List (Int × Int)), q ≤ nh ∧ j = .int .i64 q ∧ KMap V gm f ks ∧ Seen f ks (upTags bs k ++ b.1.take q) ∧ Calm (upTags bs k ++ b.1.take q) ∧ Below gm W V) (fun j _ => nh - (Go.RowKit.intOf j).toNat)
          case atStart => exact ⟨0, f, ks, by omega, rfl, M6.out, by simpa using SS.out, by simpa using CC.out, B6.out⟩
          case round =>
            obtain ⟨q, f, ks, hq, rfl, hM, hS, hC, hB⟩ := hrel
            have MM := Lib.hid hM
            have SS := Lib.hid hS
            have CC := Lib.hid hC
            have BB := Lib.hid hB
            clear hM hS hC hB
            by_cases hlq : q < nh
            · obtain ⟨⟨t0, t1, t2⟩, ht⟩ : ∃ x, b.1[q]? = some x := ⟨_, List.getElem?_eq_getElem (by rw [lh.out]; exact hlq)⟩
              have htm : (t0, t1, t2) ∈ b.1 := List.mem_of_getElem? ht
              have hX : Reads _ H (flat tgE b.1) := HBW.out.has.below (by rw [HGM.out]; exact BB.out)
              obtain ⟨b1, o1, rfl, _, x0, x1, x2⟩ := tg_at hX ht
              obtain ⟨wa, rfl⟩ : ∃ wa : World, wa = wr := ⟨_, rfl⟩
              have TK := Lib.hid (show upTags bs k ++ b.1.take (q + 1) = (upTags bs k ++ b.1.take q) ++ [(t0, t1, t2)] by rw [List.take_add_one, ht, ← List.append_assoc]; rfl)
              obtain ⟨wx, wy⟩ := wf_who OK.out htm
              have we : (Lit.int .i64 t2).wf = true := wf_of (FT.out _ htm)
              have WX := Lib.hid wx
              have WY := Lib.hid wy
              have WE := Lib.hid we
              obtain ⟨d0, d1, d2⟩ := box_tg (w := wa) (t0, t1, t2)
              obtain ⟨e0, e1⟩ := box2 (w := wa.alloc (.cells #[.int .i64 t0, .int .i64 t1, .int .i64 t2] 37)) t0 t1
              rw [show (wa.alloc (.cells #[.int .i64 t0, .int .i64 t1, .int .i64 t2] 37)).heap.size = wa.heap.size + 1 by simp] at e0 e1
              have lw2 := low_lit (wa.alloc (.cells #[.int .i64 t0, .int .i64 t1, .int .i64 t2] 37)) (.cells #[.int .i64 t0, .int .i64 t1] 73)
              have g2 := (lw2.cell (World.block_lt_of_cell? _ _ d2)).trans d2
              have M8 := Lib.hid ((MM.out.alloc (.cells #[.int .i64 t0, .int .i64 t1, .int .i64 t2] 37)).alloc (.cells #[.int .i64 t0, .int .i64 t1] 73))
              have B8 := Lib.hid (upB HGM.out (upB HGM.out BB.out (low_lit wa (.cells #[.int .i64 t0, .int .i64 t1, .int .i64 t2] 37))) lw2)
              have LK := M8.out.look2 mt t0 t1 wx wy
              unfold kv at LK
              have i1 : (q : Int) < (nh : Int) := by omega
              have KL := Lib.hid (show ks.length < 1000000 by
                have h1 := SS.out.many
                have h2 := LL.out
                have h3 := OK.out.many
                rw [List.length_append, List.length_take] at h1
                have : k * 400 ≤ 1200 := by omega
                omega)
              simp only at x0 x1 x2 d0 d1 d2 g2
              clear ht hX lw2 wx wy we
              have AB := Lib.hid (fun (hm : (t0, t1) ∈ ks) (hne : f t0 t1 ≠ t2) => (show false = r from by
                obtain ⟨u, hu, hc⟩ := SS.out.bad (t := (t0, t1, t2)) hm hne
                have hu2 : u ∈ tags bs := by
                  rcases List.mem_append.1 hu with hu | hu
                  · exact upTags_in hu
                  · exact tags_at HBK.out (List.mem_of_mem_take hu)
                rw [← HR.out, tog_no_clash HBK.out htm hu2 hc]))
              have ON := Lib.hid (fun (hk : (t0, t1) ∈ ks → f t0 t1 = t2) => (show Seen (setK f t0 t1 t2) (addP ks (t0, t1)) (upTags bs k ++ b.1.take (q + 1)) ∧ Calm (upTags bs k ++ b.1.take (q + 1)) from by
                rw [TK.out]
                exact ⟨SS.out.step (t := (t0, t1, t2)) hk, CC.out.snoc fun u hu hc => by
                  have h1 := SS.out.val u hu
                  have h2 := hk ((SS.out.keys _ _).2 ⟨u, hu, hc.1, hc.2.1⟩)
                  rw [show u.1 = t0 from hc.1, show u.2.1 = t1 from hc.2.1, h2] at h1
                  exact hc.2.2 h1.symm⟩))
              obtain ⟨c, hc⟩ : ∃ c, f t0 t1 = c := ⟨_, rfl⟩
              rw [hc] at LK AB ON
              clear htm hc
              by_cases hm : (t0, t1) ∈ ks
              · rw [decide_eq_true hm] at LK
                by_cases hne : c = t2
                · have n1 : (c != t2) = false := by simpa using hne
                  obtain ⟨S2, C2⟩ := ON.out fun _ => hne
                  have SS2 := Lib.hid S2
                  have CC2 := Lib.hid C2
                  clear hm hne S2 C2 AB ON
                  go_wp2_with (refine wpList_update_k mt rfl (.tmp 57) (.tmp 58) (.tmp 60) rfl M8.out KL.out t0 t1 WX.out WY.out rfl rfl t2 WE.out rfl ?_; intro U KU GU)
                  go_roundw
                  case rel => exact ⟨q + 1, _, _, by omega, by go_num, KU.out, SS2.out, CC2.out, B8.out.grown GU.out (by have := B8.out.size; rw [HGM.out] at this; exact this) (fun j hj => by injection hj with hj; omega)⟩
                  case measure => simp [Go.RowKit.intOf]; omega
                · have n1 : (c != t2) = true := by simpa using hne
                  have E := Lib.hid (AB.out hm hne)
                  clear hm hne AB ON
                  go_wp2
                  rw [← E.out]
                  go_ret
                  exact ⟨rfl, by rw [HGM.out]; exact B8.out⟩
              · rw [decide_eq_false hm] at LK
                obtain ⟨S2, C2⟩ := ON.out fun h => absurd h hm
                have SS2 := Lib.hid S2
                have CC2 := Lib.hid C2
                clear hm S2 C2 AB ON
                go_wp2_with (refine wpList_update_k mt rfl (.tmp 57) (.tmp 58) (.tmp 60) rfl M8.out KL.out t0 t1 WX.out WY.out rfl rfl t2 WE.out rfl ?_; intro U KU GU)
                go_roundw
                case rel => exact ⟨q + 1, _, _, by omega, by go_num, KU.out, SS2.out, CC2.out, B8.out.grown GU.out (by have := B8.out.size; rw [HGM.out] at this; exact this) (fun j hj => by injection hj with hj; omega)⟩
                case measure => simp [Go.RowKit.intOf]; omega
            · obtain rfl : q = nh := by omega
              have E1 : upTags bs k ++ b.1.take q = upTags bs (k + 1) := by rw [upTags_step HBK.out, List.take_of_length_le (Nat.le_of_eq lh.out)]
              rw [E1] at SS CC
              have L1 := Lib.hid (show (upTags bs (k + 1)).length ≤ (k + 1) * 400 by
                rw [upTags_step HBK.out, List.length_append]
                have h1 := LL.out
                have h2 := OK.out.many
                rw [Nat.add_mul]; omega)
              have O1 := Lib.hid (show ∀ (j : Nat) (b : Bg), j < k + 1 → bs[j]? = some b → OkB b ∧ b.2.length = b0.2.length from fun j b' hj hb' => by
                by_cases e : j < k
                · exact OO.out j b' e hb'
                · obtain rfl : j = k := by omega
                  rw [HBK.out] at hb'
                  injection hb' with hb'
                  subst hb'
                  exact ⟨OK.out, by rw [l1.out, l0.out]⟩)
              clear E1
              go_wp2
              go_roundw
              case rel => exact ⟨k + 1, f, ks, by omega, by go_num, MM.out, SS.out, CC.out, L1.out, O1.out, BB.out⟩
              case measure => simp [Go.RowKit.intOf]; omega
        · have E := Lib.hid (show false = r by rw [← HR.out, tog_no_len HBK.out HB0.out (by rw [l0.out, l1.out]; exact hlen)])
          have n1 : ((ns : Int) != (ns0 : Int)) = true := by simp; omega
          go_wp2_with fail
          clear hw5
          go_upto_region 5 with fail
          refine wp_region_quiet_below (by kernel_rfl) (by kernel_rfl) ?_
          repeat (go_big_quiet_step (first | (go_at_call 14; refine Calls.regrown_of (CR1.out _ (below_regrown _ _ _)))))
          refine wpQuiet_nil ?_
          intro _ hw'
          obtain ⟨⟨dd, os⟩, hw''⟩ := hw'
          subst hw''
          have br := Lib.hid (below_regrown w5 dd os)
          clear cb0 cb1 cx1
          go_wp2
          rw [← E.out]
          go_ret
          exact ⟨rfl, HGM.out ▸ upB HGM.out B5.out br.out⟩
    · obtain rfl : k = n := by omega
      have E := Lib.hid (show true = r by rw [← HR.out, tog_yes HN.out HB0.out OO.out CC.out])
      clear hB
      go_wp2
      rw [← E.out]
      go_ret
      exact ⟨rfl, HGM.out ▸ BB.out⟩
end Go.Proofs.Ythebilmeehnkpaa.Ors
