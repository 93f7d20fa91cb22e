/-
  Package orset, the program: union, Join.
-/
import Derived.Test.YthebilmeehnkpaaOrPH
namespace Go.Proofs.Ythebilmeehnkpaa.Ors
set_option linter.unusedVariables false
set_option linter.unusedSimpArgs false
open Go.RowKit Mem Gt
open Jump (Gave equalZ_c)
open Go.Sort (grow alloc_eq_grow grow_grow)

/-! ### union -/
def UnionOut (xs ys : List Tg) (W : World) (e : Ending) (W' : World) : Prop := ∃ (d : List Tg) (A : Option Addr) (m c : Nat), (xs ++ ys).Perm d ∧ d.Pairwise (fun x y => tle x y = true) ∧ (sqs d).length = m ∧ m ≤ c ∧ e = .returned (.slice A m c) ∧ Tab tgE W' W.heap.size tT (.slice A m c) (sqs d) ∧ Below W.heap.size W W'
set_option maxRecDepth 100000 in
set_option maxHeartbeats 8000000 in
theorem union_c (A B : Option Addr) (xs ys : List Tg) (n m ca cb : Nat) (W : World) (hn : xs.length = n) (hm : ys.length = m) (bn : n ≤ 400) (bm : m ≤ 400) (hx : Reads W A (flat tgE xs)) (hy : Reads W B (flat tgE ys)) :
    Calls Try.prog 47 #[.slice A n ca, .slice B m cb] W (UnionOut xs ys W) := by
  have b1 := low_lit W (.cells #[.slice A n ca, .slice B m cb] 22)
  have k1 := Known.made W 22 #[.slice A n ca, .slice B m cb]
  obtain ⟨k, hk⟩ : ∃ k, n + m = k := ⟨_, rfl⟩
  have CC := Lib.hid (concat_t W.heap.size n m k ca cb A B xs ys (W.alloc (.cells #[.slice A n ca, .slice B m cb] 22)) hn hm hk (by omega) (by omega) k1.lt (k1.cell 0) (k1.cell 1) (hx.below b1) (hy.below b1))
  have B1 := Lib.hid b1
  have LK := Lib.hid (show (xs ++ ys).length = k by rw [List.length_append, hn, hm, hk])
  have KB := Lib.hid (show k ≤ 800 by omega)
  clear b1 k1 hn hm hx hy hk
  go_enter Try.func47, Try.ntmps47
  go_wp2_with fail
  refine CC.out.mono ?_
  rintro e w2 ⟨A2, c2, rfl, hT, hb⟩
  have B2 := Lib.hid (B1.out.trans (hb.mono B1.out.size))
  have T2 := Lib.hid (hT.down (B' := W.heap.size) (by simp))
  clear hT hb
  have SC := Lib.hid (sortT_c W.heap.size A2 (xs ++ ys) k c2 w2 LK.out (by have := KB.out; omega) T2.out B2.out.size)
  go_wp2_with fail
  refine SC.out.mono ?_
  rintro e w3 ⟨rfl, d, hp, hs, hT, hb⟩
  have B3 := Lib.hid (B2.out.trans hb)
  have T3 := Lib.hid hT
  have HP := Lib.hid hp
  have HS := Lib.hid hs
  have LD := Lib.hid (show d.length = k by rw [← hp.length_eq]; exact LK.out)
  clear hT hb hp hs
  have CP := Lib.hid (compactT_c W.heap.size (some ⟨0, 0, none⟩) d k c2 w3 LD.out (by have := KB.out; omega))
  have CP2 := Lib.hid (compactT_c W.heap.size A2 d k c2 w3 LD.out (by have := KB.out; omega) T3.out)
  clear CP
  go_wp2_with fail
  refine CP2.out.mono ?_
  rintro e w4 ⟨A4, m4, hm4, hc4, rfl, hT4, hb4⟩
  have B4 := Lib.hid (B3.out.trans hb4)
  have T4 := Lib.hid hT4
  have M4 := Lib.hid hm4
  clear hT4 hb4 hm4
  go_wp2
  go_ret
  exact ⟨d, A4, m4, c2, HP.out, HS.out, M4.out, hc4, rfl, T4.out, B4.out⟩

/-! ### Join -/
theorem saw_set2 {W : World} {A : Option Addr} {l : List Int} {g : Nat} {t : TypeId} {cs : Array Value} (h : Reads W A (ints l)) (hk : Known W g t cs) (hcs : ∀ (i : Nat) (v : Value), cs[i]? = some v → ∃ (A : Option Addr) (n c : Nat), v = .slice A n c) (u v : Value) : Reads ((W.setCell ⟨g, 0, none⟩ u).setCell ⟨g, 1, none⟩ v) A (ints l) := by
  cases l with
  | nil => exact Reads.nil
  | cons x l =>
    obtain ⟨b, o, rfl, _, hc⟩ := int_at h (k := 0) (x := x) rfl
    have hne := not_known hk hc hcs
    exact (h.off (fun a ha => by injection ha with ha; subst ha; exact hne) _).off (fun a ha => by injection ha with ha; subst ha; exact hne) _
theorem fine_of {b : Bg} (ok : OkB b) : Ve.Fine b.2.length b.2 := ⟨rfl, ok.wide, ok.saw⟩
theorem wrong_two {a b : Bg} (oa : OkB a) (ob : OkB b) (h : a.2.length = b.2.length) : Ve.wrongE [a.2, b.2] = 0 := Ve.wrongE_zero.2 ⟨a.2.length, fun v hv => by
  simp at hv
  rcases hv with rfl | rfl
  · exact fine_of oa
  · rw [h]; exact fine_of ob⟩
theorem two_same {a b : Bg} (h : Ve.wrongE [a.2, b.2] = 0) : a.2.length = b.2.length := by
  obtain ⟨q, hq⟩ := Ve.wrongE_zero.1 h
  exact (hq a.2 (by simp)).1.trans (hq b.2 (by simp)).1.symm
theorem keep_goneL (a b : Bg) : keepP (goneL a b) = fun t => !goneL a b t := rfl
/-- The three blocks that Join begins with. -/
structure Laid (V W : World) (p r : Nat) (H S H2 S2 : Option Addr) (nh ch ns cs nh2 ch2 ns2 cs2 : Nat) (a b : Bg) : Prop where
  low : Below V.heap.size V W
  ha : HG W V.heap.size H S nh ch ns cs a
  hb : HG W p H2 S2 nh2 ch2 ns2 cs2 b
  kr : Known W r tB #[.slice none 0 0, .slice none 0 0]
  ord : V.heap.size < p ∧ p < r
theorem Laid.below {V W U : World} {p r : Nat} {H S H2 S2 : Option Addr} {nh ch ns cs nh2 ch2 ns2 cs2 : Nat} {a b : Bg} (h : Laid V W p r H S H2 S2 nh ch ns cs nh2 ch2 ns2 cs2 a b) (hb : Below W.heap.size W U) : Laid V U p r H S H2 S2 nh ch ns cs nh2 ch2 ns2 cs2 a b :=
  ⟨h.low.trans (hb.mono h.low.size), h.ha.below hb, h.hb.below hb, h.kr.later hb, h.ord⟩
theorem laid_start (V : World) {H S H2 S2 : Option Addr} {nh ch ns cs nh2 ch2 ns2 cs2 : Nat} {a b : Bg} (ha : HB V H S nh ch ns cs a) (hb : HB V H2 S2 nh2 ch2 ns2 cs2 b) :
    ∃ w1 w2 w3, V.alloc (bagO H S nh ch ns cs) = w1 ∧ w1.alloc (bagO H2 S2 nh2 ch2 ns2 cs2) = w2 ∧ w2.alloc zeroO = w3 ∧ Laid V w3 w1.heap.size w2.heap.size H S H2 S2 nh ch ns cs nh2 ch2 ns2 cs2 a b := by
  refine ⟨_, _, _, rfl, rfl, rfl, ?_⟩
  have b1 := low_lit V (bagO H S nh ch ns cs)
  have b2 := low_lit (V.alloc (bagO H S nh ch ns cs)) (bagO H2 S2 nh2 ch2 ns2 cs2)
  have b3 := low_lit ((V.alloc (bagO H S nh ch ns cs)).alloc (bagO H2 S2 nh2 ch2 ns2 cs2)) zeroO
  exact ⟨(b1.trans (b2.mono b1.size)).trans (b3.mono (Nat.le_trans b1.size b2.size)), ((HG.new ha rfl).alloc _).alloc _, (HG.new (hb.below b1) rfl).alloc _, Known.made _ tB _, by simp, by simp⟩
theorem bad_laid {V W : World} {p r : Nat} {H S H2 S2 : Option Addr} {nh ch ns cs nh2 ch2 ns2 cs2 : Nat} {a b : Bg} (h : Laid V W p r H S H2 S2 nh ch ns cs nh2 ch2 ns2 cs2 a b) (e : Int) :
    BOut ([], []) 0 0 e V (.returned (.tuple #[.agg #[.slice none 0 0, .slice none 0 0], .int .i64 e])) ((W.setCell ⟨r, 0, none⟩ (.slice none 0 0)).setCell ⟨r, 1, none⟩ (.slice none 0 0)) :=
  ⟨none, none, 0, 0, rfl, hb_zero _, (h.low.setCell (p := ⟨r, 0, none⟩) (by have := h.ord; show V.heap.size ≤ r; omega) _).setCell (p := ⟨r, 1, none⟩) (by have := h.ord; show V.heap.size ≤ r; omega) _⟩
section
variable {V W : World} {p r : Nat} {H S H2 S2 : Option Addr} {nh ch ns cs nh2 ch2 ns2 cs2 : Nat} {a b : Bg}
theorem Laid.bad (h : Laid V W p r H S H2 S2 nh ch ns cs nh2 ch2 ns2 cs2 a b) : W.cell? ⟨r, 0, none⟩ = some (.slice none 0 0) ∧ W.cell? ⟨r, 1, none⟩ = some (.slice none 0 0) ∧ W.frozen? ⟨r, 0, none⟩ = false ∧ W.frozen? ⟨r, 1, none⟩ = false ∧ Known ((W.setCell ⟨r, 0, none⟩ (.slice none 0 0)).setCell ⟨r, 1, none⟩ (.slice none 0 0)) r tB #[.slice none 0 0, .slice none 0 0] :=
  ⟨h.kr.cell 0, h.kr.cell 1, h.kr.free 0, h.kr.free 1, (h.kr.put 0 (.slice none 0 0)).put 1 (.slice none 0 0)⟩
end
set_option maxRecDepth 100000 in
set_option maxHeartbeats 16000000 in
theorem join_bad (H S H2 S2 : Option Addr) (nh ch ns cs nh2 ch2 ns2 cs2 : Nat) (a b : Bg) (V : World) (ha : HB V H S nh ch ns cs a) (hb : HB V H2 S2 nh2 ch2 ns2 cs2 b) (hbad : ¬ (okB a = true ∧ okB b = true ∧ a.2.length = b.2.length)) :
    Calls Try.prog 20 #[.agg #[.slice H nh ch, .slice S ns cs], .agg #[.slice H2 nh2 ch2, .slice S2 ns2 cs2]] V (BOut ([], []) 0 0 1 V) := by
  obtain ⟨w1, w2, w3, hw1, hw2, hw3, L3⟩ := laid_start V ha hb
  have LL := Lib.hid L3
  obtain ⟨u, hu⟩ : ∃ u, Ve.wrongE [a.2, b.2] = u := ⟨_, rfl⟩
  obtain ⟨vl, hvl⟩ : ∃ l, (if u = 0 then Ve.join a.2 b.2 else []) = l := ⟨_, rfl⟩
  obtain ⟨vn, hvn⟩ : ∃ n, vl.length = n := ⟨_, rfl⟩
  have VJ := Lib.hid (Ve.joinSpec S S2 a.2 b.2 ns ns2 cs cs2 w3 vl vn u ha.lenS hb.lenS ha.capS hb.capS (by have := ha.bs; omega) (by have := hb.bs; omega) L3.ha.2.2.saw L3.hb.2.2.saw hu hvl hvn)
  obtain ⟨z0, z1, -⟩ := L3.ha
  obtain ⟨y0, y1, -⟩ := L3.hb
  by_cases hu0 : u = 0
  · subst hu0
    have hsame := two_same hu
    cases oa : okB a with
    | false =>
      have R := Lib.hid (fun (w : World) (hb : Below w3.heap.size w3 w) => rightSpec H S nh ch ns cs a w false (LL.out.below hb).ha.2.2 oa)
      clear ha hb hbad L3 hu hvl hvn hsame oa
      go_enter Try.func20, Try.ntmps20
      go_wp2_with fail
      refine VJ.out.mono ?_
      rintro x w4 ⟨A5, c5, rfl, -, -, hb⟩
      have B4 := Lib.hid hb
      clear hw1 hw2 hw3 z0 z1 y0 y1
      obtain ⟨z0, z1, -⟩ := (LL.out.below hb).ha
      clear hb
      go_wp2_with fail
      refine (R.out w4 B4.out).mono ?_
      rintro x w5 ⟨rfl, hb⟩
      have L5 := Lib.hid (LL.out.below (B4.out.trans (hb.mono B4.out.size)))
      obtain ⟨c0, c1, f0, f1, KK⟩ := L5.out.bad
      have HKK := Lib.hid KK
      clear hb z0 z1 KK
      go_wp2_with fail
      refine bodyPost_ret (v := .tuple #[.agg #[.slice none 0 0, .slice none 0 0], .int .i64 1]) ?_ rfl (bad_laid L5.out 1)
      exact results_row2 rfl _ _ w2.heap.size tB _ (0, 0) _ rfl HKK.out fieldsBag sizeBag rfl
    | true =>
      have ob : okB b = false := by
        cases ob : okB b with
        | false => rfl
        | true => exact absurd ⟨oa, ob, hsame⟩ hbad
      have R := Lib.hid (fun (w : World) (hb : Below w3.heap.size w3 w) => rightSpec H S nh ch ns cs a w true (LL.out.below hb).ha.2.2 oa)
      have R2 := Lib.hid (fun (w : World) (hb : Below w3.heap.size w3 w) => rightSpec H2 S2 nh2 ch2 ns2 cs2 b w false (LL.out.below hb).hb.2.2 ob)
      clear ha hb hbad L3 hu hvl hvn hsame oa ob
      go_enter Try.func20, Try.ntmps20
      go_wp2_with fail
      refine VJ.out.mono ?_
      rintro x w4 ⟨A5, c5, rfl, -, -, hb⟩
      have B4 := Lib.hid hb
      clear hw1 hw2 hw3 z0 z1 y0 y1
      obtain ⟨z0, z1, -⟩ := (LL.out.below hb).ha
      clear hb
      go_wp2_with fail
      refine (R.out w4 B4.out).mono ?_
      rintro x w5 ⟨rfl, hb⟩
      have B5 := Lib.hid (B4.out.trans (hb.mono B4.out.size))
      clear z0 z1 hb
      obtain ⟨y0, y1, -⟩ := (LL.out.below B5.out).hb
      go_wp2_with fail
      refine (R2.out w5 B5.out).mono ?_
      rintro x w6 ⟨rfl, hb⟩
      have L5 := Lib.hid (LL.out.below (B5.out.trans (hb.mono B5.out.size)))
      obtain ⟨c0, c1, f0, f1, KK⟩ := L5.out.bad
      have HKK := Lib.hid KK
      clear hb y0 y1 KK
      go_wp2_with fail
      refine bodyPost_ret (v := .tuple #[.agg #[.slice none 0 0, .slice none 0 0], .int .i64 1]) ?_ rfl (bad_laid L5.out 1)
      exact results_row2 rfl _ _ w2.heap.size tB _ (0, 0) _ rfl HKK.out fieldsBag sizeBag rfl
  · have q1 : (u != 0) = true := by simpa using hu0
    clear ha hb hbad L3 hu hvl hvn hu0
    go_enter Try.func20, Try.ntmps20
    go_wp2_with fail
    refine VJ.out.mono ?_
    rintro x w4 ⟨A5, c5, rfl, -, -, hb⟩
    have L5 := Lib.hid (LL.out.below hb)
    obtain ⟨c0, c1, f0, f1, KK⟩ := L5.out.bad
    have HKK := Lib.hid KK
    clear hw1 hw2 hw3 z0 z1 y0 y1 hb KK
    go_wp2_with fail
    refine bodyPost_ret (v := .tuple #[.agg #[.slice none 0 0, .slice none 0 0], .int .i64 1]) ?_ rfl (bad_laid L5.out 1)
    exact results_row2 rfl _ _ w2.heap.size tB _ (0, 0) _ rfl HKK.out fieldsBag sizeBag rfl
set_option maxRecDepth 100000 in
set_option maxHeartbeats 32000000 in
theorem join_ok_c (H S H2 S2 : Option Addr) (nh ch ns cs nh2 ch2 cs2 : Nat) (a b : Bg) (V : World) (P : Bg) (mh ms : Nat) (e : Int) (ha : HB V H S nh ch ns cs a) (hb : HB V H2 S2 nh2 ch2 ns cs2 b) (oa : OkB a) (ob : OkB b) (he : joinE a b = e) (hp : joinB a b = P) (hmh : P.1.length = mh) (hms : P.2.length = ms) :
    Calls Try.prog 20 #[.agg #[.slice H nh ch, .slice S ns cs], .agg #[.slice H2 nh2 ch2, .slice S2 ns cs2]] V (BOut P mh ms e V) := by
  obtain ⟨w1, w2, w3, hw1, hw2, hw3, L3⟩ := laid_start V ha hb
  have LL := Lib.hid L3
  have hsame : a.2.length = b.2.length := by rw [ha.lenS, hb.lenS]
  have hu := wrong_two oa ob hsame
  have hwide : ns ≤ 16 := by have := oa.wide; have := ha.lenS; omega
  have hm1 : nh ≤ 400 := by have := oa.many; have := ha.lenH; omega
  have hm2 : nh2 ≤ 400 := by have := ob.many; have := hb.lenH; omega
  have JL : (Ve.join a.2 b.2).length = ns := by rw [Ve.join_len hsame]; exact ha.lenS
  have VJ := Lib.hid (Ve.joinSpec S S2 a.2 b.2 ns ns cs cs2 w3 (Ve.join a.2 b.2) ns 0 ha.lenS hb.lenS ha.capS hb.capS (by omega) (by omega) L3.ha.2.2.saw L3.hb.2.2.saw hu (if_pos rfl) JL)
  have R := Lib.hid (fun (w : World) (hb : Below w3.heap.size w3 w) => rightSpec H S nh ch ns cs a w true (LL.out.below hb).ha.2.2 (okB_iff.2 oa))
  have R2 := Lib.hid (fun (w : World) (hb : Below w3.heap.size w3 w) => rightSpec H2 S2 nh2 ch2 ns cs2 b w true (LL.out.below hb).hb.2.2 (okB_iff.2 ob))
  have P1 := Lib.hid (fun (w : World) (hb : Below w3.heap.size w3 w) => show Pred w.heap.size w 42 #[.pointer (some ⟨w1.heap.size, 0, none⟩)] a.1 (other b) from fun U x _ hU => join1_c w1.heap.size H2 S2 nh2 ch2 ns cs2 b x U ((LL.out.below hb).below hU).hb ob)
  have hrange : ∀ t : Tg, t ∈ a.1 ∨ t ∈ b.1 → 0 ≤ t.1 ∧ t.1 < (ns : Int) := fun t ht => by
    rcases ht with ht | ht
    · have := oa.tags t ht; exact ⟨this.1, by rw [← ha.lenS]; exact this.2.1⟩
    · have := ob.tags t ht; exact ⟨this.1, by rw [← hb.lenS]; exact this.2.1⟩
  have P2 := Lib.hid (fun (w : World) (hbw : Below w3.heap.size w3 w) (l : List Tg) (hl : ∀ t ∈ l, t ∈ a.1 ∨ t ∈ b.1) => show Pred w.heap.size w 45 #[.pointer (some ⟨V.heap.size, 0, none⟩), .pointer (some ⟨w1.heap.size, 0, none⟩)] l (goneL a b) from fun U x hx hU => join2_c V.heap.size w1.heap.size H S H2 S2 nh ch ns cs nh2 ch2 ns cs2 a b x U ((LL.out.below hbw).below hU).ha ((LL.out.below hbw).below hU).hb oa ob (hrange x (hl x hx)).1 (hrange x (hl x hx)).2 (hrange x (hl x hx)).2)
  have LA := Lib.hid ha.lenH
  have LB := Lib.hid hb.lenH
  have FA := Lib.hid ha.fit
  have FB := Lib.hid hb.fit
  have HLS := Lib.hid hsame
  have OA := Lib.hid oa
  have OB := Lib.hid ob
  have HE := Lib.hid he
  have HPP := Lib.hid hp
  have HMH := Lib.hid hmh
  have HMS := Lib.hid hms
  have HJL := Lib.hid JL
  obtain ⟨z0, z1, -⟩ := L3.ha
  obtain ⟨y0, y1, -⟩ := L3.hb
  clear ha hb L3 hu hsame JL oa ob he hp hmh hms hrange
  go_enter Try.func20, Try.ntmps20
  go_wp2_with fail
  refine VJ.out.mono ?_
  rintro x w4 ⟨A5, c5, rfl, hc5, hr5, hb⟩
  have B4 := Lib.hid hb
  have C5 := Lib.hid hc5
  have R5 := Lib.hid hr5
  clear hw1 hw2 hw3 z0 z1 y0 y1 hc5 hr5
  obtain ⟨z0, z1, -⟩ := (LL.out.below hb).ha
  clear hb
  go_wp2_with fail
  refine (R.out w4 B4.out).mono ?_
  rintro x w5 ⟨rfl, hb⟩
  have R5b := Lib.hid (R5.out.below hb)
  have B5 := Lib.hid (B4.out.trans (hb.mono B4.out.size))
  clear z0 z1 hb
  obtain ⟨y0, y1, -⟩ := (LL.out.below B5.out).hb
  go_wp2_with fail
  refine (R2.out w5 B5.out).mono ?_
  rintro x w6 ⟨rfl, hb⟩
  have R6 := Lib.hid (R5b.out.below hb)
  have B6 := Lib.hid (B5.out.trans (hb.mono B5.out.size))
  have L6 := Lib.hid (LL.out.below B6.out)
  clear y0 y1 hb
  obtain ⟨z0, z1, hza⟩ := L6.out.ha
  have RA := Lib.hid hza.has
  have RB := Lib.hid L6.out.hb.2.2.has
  obtain ⟨q, hq⟩ : ∃ q, conflict a b = q := ⟨_, rfl⟩
  have HQ := Lib.hid hq
  have CF := Lib.hid (containsP_c 42 #[.pointer (some ⟨w1.heap.size, 0, none⟩)] (enters_of Try.func42 (by kernel_rfl) rfl) w6.heap.size w6 H a.1 nh ch (other b) w6 q LA.out (by omega) RA.out (P1.out w6 B6.out) (Below.refl _ _) (Nat.le_refl _) (by rw [other_any]; exact hq))
  clear hza hq
  go_wp2_with fail
  refine CF.out.mono ?_
  rintro x w7 ⟨rfl, hb⟩
  have B7 := Lib.hid (B6.out.trans (hb.mono B6.out.size))
  have L7 := Lib.hid (L6.out.below hb)
  have R7 := Lib.hid (R6.out.below hb)
  have RA7 := Lib.hid (RA.out.below hb)
  have RB7 := Lib.hid (RB.out.below hb)
  clear z0 z1 hb
  cases q with
  | true =>
    have E7 : joinE a b = 7 := by unfold joinE; rw [if_pos ⟨okB_iff.2 OA.out, okB_iff.2 OB.out, HLS.out⟩, if_pos HQ.out]
    obtain rfl : 7 = e := E7.symm.trans HE.out
    obtain rfl : ([], []) = P := by rw [← HPP.out]; unfold joinB; rw [if_neg (by rw [E7]; decide)]
    obtain rfl : 0 = mh := HMH.out
    obtain rfl : 0 = ms := HMS.out
    obtain ⟨c0, c1, f0, f1, KK⟩ := L7.out.bad
    have HKK := Lib.hid KK
    clear KK E7
    go_wp2_with fail
    refine bodyPost_ret (v := .tuple #[.agg #[.slice none 0 0, .slice none 0 0], .int .i64 7]) ?_ rfl (bad_laid L7.out 7)
    exact results_row2 rfl _ _ w2.heap.size tB _ (0, 0) _ rfl HKK.out fieldsBag sizeBag rfl
  | false =>
    obtain ⟨z0, z1, -⟩ := L7.out.ha
    obtain ⟨y0, y1, -⟩ := L7.out.hb
    have UC := Lib.hid (union_c H H2 a.1 b.1 nh nh2 ch ch2 w7 LA.out LB.out hm1 hm2 RA7.out RB7.out)
    go_wp2_with fail
    refine UC.out.mono ?_
    rintro x w8 ⟨d, A8, m8, c8, hdp, hds, hm8, hc8, rfl, hT8, hb8⟩
    have T8 := Lib.hid hT8
    have B8 := Lib.hid hb8
    have MM := Lib.hid (show ∀ t ∈ sqs d, t ∈ a.1 ∨ t ∈ b.1 from fun t ht => by rw [sqs_mem, ← hdp.mem_iff, List.mem_append] at ht; exact ht)
    have JH := Lib.hid (show (sqs d).filter (keepP (goneL a b)) = joinH a b by rw [keep_goneL]; exact joined OA.out OB.out (conflict_iff.1 HQ.out) hdp hds)
    have hm800 : m8 ≤ 800 := by
      have h1 := sqs_len d
      have h2 := hdp.length_eq
      rw [List.length_append, LA.out, LB.out] at h2
      omega
    have C8 := Lib.hid (tab_cap hT8 hm8)
    have DC := Lib.hid (deleteP_c 45 #[.pointer (some ⟨V.heap.size, 0, none⟩), .pointer (some ⟨w1.heap.size, 0, none⟩)] (enters_of Try.func45 (by kernel_rfl) rfl) w7.heap.size w7 A8 (sqs d) m8 c8 (goneL a b) w8 hm8 (by omega) hT8 (P2.out w7 B7.out (sqs d) MM.out) hb8 hb8.size)
    rw [JH.out] at DC
    clear hdp hds hm8 hT8 hb8 z0 z1 y0 y1
    go_wp2_with fail
    refine DC.out.mono ?_
    rintro x w9 ⟨A9, m9, hm9, hc9, rfl, hT9, hb9⟩
    have T9 := Lib.hid hT9
    have M9 := Lib.hid hm9
    have L9 := Lib.hid (L7.out.below (B8.out.trans hb9))
    have R9 := Lib.hid (R7.out.below (B8.out.trans hb9))
    clear hT9 hb9 hm9
    by_cases h400 : 400 < m9
    · have E4 : joinE a b = 4 := by
        unfold joinE
        rw [if_pos ⟨okB_iff.2 OA.out, okB_iff.2 OB.out, HLS.out⟩, if_neg (by rw [HQ.out]; decide), if_pos (by rw [M9.out]; exact h400)]
      obtain rfl : 4 = e := E4.symm.trans HE.out
      obtain rfl : ([], []) = P := by rw [← HPP.out]; unfold joinB; rw [if_neg (by rw [E4]; decide)]
      obtain rfl : 0 = mh := HMH.out
      obtain rfl : 0 = ms := HMS.out
      have i1 : (400 : Int) < (m9 : Int) := by omega
      obtain ⟨c0, c1, f0, f1, KK⟩ := L9.out.bad
      have HKK := Lib.hid KK
      clear KK E4 h400
      go_wp2_with fail
      refine bodyPost_ret (v := .tuple #[.agg #[.slice none 0 0, .slice none 0 0], .int .i64 4]) ?_ rfl (bad_laid L9.out 4)
      exact results_row2 rfl _ _ w2.heap.size tB _ (0, 0) _ rfl HKK.out fieldsBag sizeBag rfl
    · have E0 : joinE a b = 0 := by
        unfold joinE
        rw [if_pos ⟨okB_iff.2 OA.out, okB_iff.2 OB.out, HLS.out⟩, if_neg (by rw [HQ.out]; decide), if_neg (by rw [M9.out]; exact h400)]
      obtain rfl : 0 = e := E0.symm.trans HE.out
      obtain rfl : (joinH a b, joinS a b) = P := (joinB_of E0).symm.trans HPP.out
      obtain rfl : m9 = mh := M9.out.symm.trans HMH.out
      obtain rfl : ns = ms := by rw [← HMS.out]; exact HJL.out.symm
      have i1 : ¬ (400 : Int) < (m9 : Int) := by omega
      have c0 := L9.out.kr.cell 0
      have c1 := L9.out.kr.cell 1
      have f0 := L9.out.kr.free 0
      have f1 := L9.out.kr.free 1
      have KP := Lib.hid ((L9.out.kr.put 0 (.slice A9 m9 c8)).put 1 (.slice A5 ns c5))
      simp at c0 c1
      have RS := Lib.hid (saw_set2 R9.out L9.out.kr none_slices (.slice A9 m9 c8) (.slice A5 ns c5))
      have OD := L9.out.ord
      have RG := L7.out.kr.lt
      clear E0
      go_wp2_with fail
      refine bodyPost_ret (v := .tuple #[.agg #[.slice A9 m9 c8, .slice A5 ns c5], .int .i64 0]) ?_ rfl ⟨A9, A5, c8, c5, rfl, ?_, ?_⟩
      · exact results_row2 rfl _ _ w2.heap.size tB _ (0, 0) _ rfl KP.out fieldsBag sizeBag rfl
      · refine ⟨M9.out, HJL.out, ⟨hc9, C8.out.2⟩, C5.out, by omega, by omega, ?_, RS.out, fun t ht => ?_⟩
        · exact (T9.out.reads.off (fun a ha => by have := own_ge T9.out a ha; show a.block ≠ w2.heap.size; omega) _).off (fun a ha => by have := own_ge T9.out a ha; show a.block ≠ w2.heap.size; omega) _
        · rcases keep_in ((joinH_mem t).1 ht) with h | h
          · exact FA.out t h
          · exact FB.out t h
      · exact (L9.out.low.setCell (p := ⟨w2.heap.size, 0, none⟩) (by show V.heap.size ≤ w2.heap.size; omega) _).setCell (p := ⟨w2.heap.size, 1, none⟩) (by show V.heap.size ≤ w2.heap.size; omega) _
theorem joinSpec : JoinSpec := fun H S H2 S2 nh ch ns cs nh2 ch2 ns2 cs2 a b V P mh ms e ha hb he hp hmh hms => by
  by_cases h : okB a = true ∧ okB b = true ∧ a.2.length = b.2.length
  · obtain rfl : ns = ns2 := by rw [← ha.lenS, ← hb.lenS]; exact h.2.2
    exact join_ok_c H S H2 S2 nh ch ns cs nh2 ch2 cs2 a b V P mh ms e ha hb (okB_iff.1 h.1) (okB_iff.1 h.2.1) he hp hmh hms
  · have e1 : joinE a b = 1 := by unfold joinE; rw [if_neg h]
    obtain rfl : 1 = e := e1.symm.trans he
    obtain rfl : ([], []) = P := by rw [← hp]; unfold joinB; rw [if_neg (by rw [e1]; decide)]
    obtain rfl : 0 = mh := hmh
    obtain rfl : 0 = ms := hms
    exact join_bad H S H2 S2 nh ch ns cs nh2 ch2 ns2 cs2 a b V ha hb h
end Go.Proofs.Ythebilmeehnkpaa.Ors
