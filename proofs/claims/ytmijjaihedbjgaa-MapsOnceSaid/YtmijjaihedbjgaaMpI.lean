/-
  The document's own answer: SameMap at like maps, LGo.
-/
import Derived.Test.YtmijjaihedbjgaaMpB
import Derived.Test.YtmijjaihedbjgaaMpG
namespace Go.Proofs.Ytmijjaihedbjgaa.Mps
set_option linter.unusedVariables false
set_option linter.unusedSimpArgs false
open Go.RowKit Mem

set_option maxRecDepth 100000 in
set_option maxHeartbeats 8000000 in
theorem same_c (e : Int) (A B : Option Addr) (l : List Int) (n ca cb : Nat) (W : World) (hn : l.length = n) (hbig : n ≤ 17592186044416) (hx : Reads W A (ints l)) (hy : Reads W B (ints l)) :
    Calls Try.prog 17 #[.agg #[.int .i64 e, .slice A n ca], .agg #[.int .i64 e, .slice B n cb]] W (Gave (.bool true) W) := by
  have k1 := (Known.made W 24 #[.int .i64 e, .slice A n ca]).alloc (.cells #[.int .i64 e, .slice B n cb] 24)
  have k2 := Known.made (W.alloc (.cells #[.int .i64 e, .slice A n ca] 24)) 24 #[.int .i64 e, .slice B n cb]
  simp only [World.size_alloc] at k2
  obtain ⟨W1, hW1⟩ : ∃ W1, W1 = (W.alloc (.cells #[.int .i64 e, .slice A n ca] 24)).alloc (.cells #[.int .i64 e, .slice B n cb] 24) := ⟨_, rfl⟩
  have B1 := Lib.hid (show Below W.heap.size W W1 by rw [hW1]; exact ((Below.refl _ _).alloc (Nat.le_refl _) _).alloc (by simp) _)
  have x0 := k1.cell 0
  have x1 := k1.cell 1
  have x2 := k2.cell 0
  have x3 := k2.cell 1
  rw [← hW1] at k1 k2
  have K1 := Lib.hid k1
  have K2 := Lib.hid k2
  have HX := Lib.hid (hx.below B1.out)
  have HY := Lib.hid (hy.below B1.out)
  have HN := Lib.hid hn
  have HW := Lib.hid hW1
  have q0 : (e != e) = false := by simp
  have q1 : ((n : Int) != (n : Int)) = false := by simp
  clear k1 k2 hx hy hn hW1
  go_enter Try.func17, Try.ntmps17
  go_wp2
  rw [← HW.out]
  clear x0 x1 x2 x3
  go_loopw [23] (fun i wr => ∃ k : Nat, k ≤ n ∧ i = .int .i64 k ∧ Drawn W1 wr) (fun i _ => n - (intOf i).toNat)
  case atStart => exact ⟨0, by omega, rfl, Drawn.refl _⟩
  case round =>
    obtain ⟨k, hk, rfl, hD⟩ := hrel
    have HD := Lib.hid hD
    have HB := Lib.hid (hD.below W1.heap.size)
    have x1 := (K1.out.drawn hD).cell 1
    have x3 := (K2.out.drawn hD).cell 1
    clear hD
    by_cases hlt : k < n
    · have kl : k < l.length := by rw [HN.out]; exact hlt
      obtain ⟨x, hx⟩ : ∃ x, l[k]? = some x := ⟨_, List.getElem?_eq_getElem kl⟩
      obtain ⟨b1, o1, rfl, _, y1⟩ := (HX.out.below HB.out) k (.int .i64 x) (by rw [List.getElem?_map, hx]; rfl)
      obtain ⟨b2, o2, rfl, _, y2⟩ := (HY.out.below HB.out) k (.int .i64 x) (by rw [List.getElem?_map, hx]; rfl)
      have q2 : (x != x) = false := by simp
      have i1 : (k : Int) < (n : Int) := by omega
      clear kl hx
      go_wp2
      go_quiet (fail)
      go_wp2
      go_roundw
      case rel => exact ⟨k + 1, by omega, by go_num, HD.out.more _⟩
      case measure => simp [intOf]; omega
    · obtain rfl : k = n := by omega
      go_wp2
      go_ret
      exact ⟨rfl, B1.out.trans (HB.out.mono B1.out.size)⟩

/-- 'append([]int{}, xs...)'. -/
theorem wpList_append_fresh {ops : Array Oper} {rest : List Oper} {o : Oper} {a : Act} {Q : Exit → Act → World → Prop} (hgd : o.guard = none) (s x : Operand)
    (ho : o.op = .call { callee := .builtin .append, args := #[s, x], argTypes := #[22, 22] }) {w : World} {l : List Int} {m : Nat} (hs : a.eval s = .slice (some ⟨w.heap.size, 0, none⟩) 0 0) {A : Option Addr} {c : Nat}
    (hx : a.eval x = .slice A m c) (hm : l.length = m) (hr : Reads w A (ints l)) (hl2 : m * 8 ≤ 140737488355328) {w0 : World} (hb : Below w.heap.size w0 w)
    (h : ∀ A' c' w', Hid (ZTab w' w.heap.size (.slice A' m c') l) → Hid (Below w.heap.size w0 w') → wpList Try.prog ops Q rest (a.put o.dst (.slice A' m c')) w') :
    wpList Try.prog ops Q (o :: rest) a (w.alloc (.cells #[] 3)) := by
  refine wpList_append_zs (B := w.heap.size) (n := 0) (l := []) (l' := l) hgd s x ho hs hx rfl hm (hr.alloc _) (World.ownsRow_made w #[] 0 (Nat.le_refl _) (Nat.zero_le _) (by simp)) (by omega) (by simp) (hb.alloc (Nat.le_refl _) _) (Nat.le_refl _) (by simp) ?_
  intro A' c' w' h1 h2 h3
  rw [Nat.zero_add] at h1 ⊢
  exact h A' c' w' h1 h3
/-- What stands at the head of the loop of LGo. -/
def LAt (w2 : World) (cs : List Ch) (l : List Int) (n : Nat) (A : Option Addr) (c k : Nat) (wr : World) : Prop :=
  ∃ ls b, ls.length = n ∧ -1 ≤ b ∧ okC b (cs.drop k) ∧ chE cs l = chE (cs.drop k) ls ∧ chL cs l = chL (cs.drop k) ls ∧ ZTab wr w2.heap.size (.slice A n c) ls ∧ Below w2.heap.size w2 wr
theorem wrap_back {m1 s1 : Int} (h1 : 0 ≤ m1) (h2 : m1 ≤ 1099511627776) (h3 : m1 ≠ 0) (hf : Fit s1) : m1 = IntKind.i64.wrap (s1 + 1) ↔ s1 = m1 - 1 := by
  obtain ⟨f1, f2⟩ := hf
  by_cases h : s1 = 9223372036854775807
  · subst h
    have e : IntKind.i64.wrap (9223372036854775807 + 1) = -9223372036854775808 := by decide
    rw [e]
    constructor <;> intro h <;> omega
  · rw [IntWalk.i64_in _ (by omega)]
    constructor <;> intro h <;> omega

set_option maxRecDepth 100000 in
set_option maxHeartbeats 8000000 in
theorem lgo_forth (m1 : Int) (A : Option Addr) (l : List Int) (n c : Nat) (s1 : Int) (C : Option Addr) (cs : List Ch) (q ca : Nat) (W : World) (hn : l.length = n) (hbig : n ≤ 17592186044416) (hx : Reads W A (ints l)) (hq : cs.length = q) (hqb : q ≤ 5864062014805) (hc : CRds W C cs) (hfs : Fit s1)
    (e0 : Int) (l0 : List Int) (n0 : Nat) (k0 : Int) (hs : Says (apE (m1, l) (s1, cs)) (apM (m1, l) (s1, cs)) e0 l0 n0 k0) :
    Calls Try.prog 14 #[.agg #[.int .i64 m1, .slice A n c], .agg #[.int .i64 s1, .slice C q ca], .bool false] W (MapOut e0 l0 n0 k0 W) := by
  have L := Lib.hid (laid3 W (.int .i64 m1) (.slice A n c) (.int .i64 s1) (.slice C q ca))
  have HX := Lib.hid hx
  have HC := Lib.hid hc
  have HN := Lib.hid hn
  have HQ := Lib.hid hq
  have HS := Lib.hid hs
  have FT := Lib.hid hfs
  clear hn hx hq hc hs hfs
  cases h1 : okB m1 n with
  | false =>
    have HE := Lib.hid (HS.out.bad (ap_one (.inl ((okB_false (m := (m1, l)) HN.out).1 h1))) (apM_bad (by rw [ap_one (.inl ((okB_false (m := (m1, l)) HN.out).1 h1))]; decide)))
    have R := Lib.hid (fun V => lright_c m1 A n c V false h1)
    clear h1
    obtain ⟨x0, x1, x2, x3, k3, -⟩ := L.out
    have r0 := k3.cell 0
    have r1 := k3.cell 1
    have f0 := k3.free 0
    have f1 := k3.free 1
    clear k3
    go_enter Try.func14, Try.ntmps14
    go_wp2_with fail
    refine (R.out _).mono ?_
    rintro e w1 ⟨rfl, hb⟩
    have L3 := Lib.hid (L.out.below hb)
    clear hb x0 x1 x2 x3 r0 r1 f0 f1
    obtain ⟨x0, x1, x2, x3, k3, -⟩ := L3.out
    have r0 := k3.cell 0
    have r1 := k3.cell 1
    have f0 := k3.free 0
    have f1 := k3.free 1
    clear k3
    go_wp2
    obtain ⟨rfl, rfl, rfl, rfl⟩ := HE.out
    refine bodyPost_ret (v := .tuple #[.agg #[.int .i64 0, .slice none 0 0], .int .i64 1]) ?_ rfl ⟨none, 0, rfl, Reads.nil, (L3.out.2.2.2.2.2.setCell (by show W.heap.size ≤ W.heap.size + 1 + 1; omega) _).setCell (by show W.heap.size ≤ W.heap.size + 1 + 1; omega) _, fun a h => by cases h⟩
    exact results_row2 rfl _ _ (W.heap.size + 1 + 1) 24 _ (0, 0) _ rfl (known_put L3.out.2.2.2.2.1) fieldsMap sizeMap rfl
  | true =>
    have hm := (okB_iff (m := (m1, l)) HN.out).1 h1
    have H1 := Lib.hid h1
    have R := Lib.hid (fun V => lright_c m1 A n c V true h1)
    clear h1
    obtain ⟨x0, x1, x2, x3, k3, -⟩ := L.out
    have r0 := k3.cell 0
    have r1 := k3.cell 1
    have f0 := k3.free 0
    have f1 := k3.free 1
    clear k3
    by_cases h2 : okC (-1) cs
    · have CR := Lib.hid (fun V hb => lstep_c s1 C cs q ca V HQ.out hqb (HC.out.below (W := W) (V := V) hb) true (decide_eq_true h2))
      have H2 := Lib.hid h2
      by_cases h3 : m1 = 1099511627776
      · have HE := Lib.hid (HS.out.bad (ap_four hm h2 h3) (apM_bad (by rw [ap_four hm h2 h3]; decide)))
        have q1 : (m1 == 1099511627776) = true := by simpa using h3
        clear h3 hm h2
        go_enter Try.func14, Try.ntmps14
        go_wp2_with fail
        refine (R.out _).mono ?_
        rintro e w1 ⟨rfl, hb⟩
        have L2 := Lib.hid (L.out.below hb)
        clear hb x0 x1 x2 x3 r0 r1 f0 f1
        obtain ⟨x0, x1, x2, x3, k3, -⟩ := L2.out
        have r0 := k3.cell 0
        have r1 := k3.cell 1
        have f0 := k3.free 0
        have f1 := k3.free 1
        clear k3
        go_wp2_with fail
        refine (CR.out _ L2.out.2.2.2.2.2).mono ?_
        rintro e w2 ⟨rfl, hb⟩
        have L3 := Lib.hid (L2.out.below hb)
        clear hb x0 x1 x2 x3 r0 r1 f0 f1 L2
        obtain ⟨x0, x1, x2, x3, k3, -⟩ := L3.out
        have r0 := k3.cell 0
        have r1 := k3.cell 1
        have f0 := k3.free 0
        have f1 := k3.free 1
        clear k3
        go_wp2
        go_quiet (fail)
        go_wp2
        obtain ⟨rfl, rfl, rfl, rfl⟩ := HE.out
        refine bodyPost_ret (v := .tuple #[.agg #[.int .i64 0, .slice none 0 0], .int .i64 4]) ?_ rfl ⟨none, 0, rfl, Reads.nil, ((below_drewN L3.out.2.2.2.2.2 _).setCell (by show W.heap.size ≤ W.heap.size + 1 + 1; omega) _).setCell (by show W.heap.size ≤ W.heap.size + 1 + 1; omega) _, fun a h => by cases h⟩
        exact results_row2 rfl _ _ (W.heap.size + 1 + 1) 24 _ (0, 0) _ rfl (known_put (L3.out.2.2.2.2.1.drawn ⟨_, rfl⟩)) fieldsMap sizeMap rfl
      · have q1 : (m1 == 1099511627776) = false := by simpa using h3
        obtain ⟨y, hy⟩ : ∃ y, IntKind.i64.wrap (s1 + 1) = y := ⟨_, rfl⟩
        by_cases h4 : s1 = m1
        · have SY := ap_says HS.out HN.out H1.out h2 h3 h4
          have q2 : (m1 != s1) = false := by simp [h4]
          have EP : y = m1 + 1 := by rw [← hy, h4, IntWalk.i64_in _ (by have := hm.1; have := hm.2.1; simp at *; omega)]
          have EPH := Lib.hid EP
          rw [← EP] at SY
          have HSY := Lib.hid SY
          have OC := Lib.hid (show okC (-1) cs from H2.out)
          have CL := Lib.hid (show cs.length = q from HQ.out)
          have n400 : n ≤ 400 := by rw [← HN.out]; exact hm.2.2
          have wn : IntKind.i64.wrap ((n : Int) - 1) = (n : Int) - 1 := IntWalk.i64_in _ (by omega)
          clear hm h2 h3 h4 EP SY
          go_enter Try.func14, Try.ntmps14
          go_wp2_with fail
          refine (R.out _).mono ?_
          rintro e w1 ⟨rfl, hb⟩
          have L2 := Lib.hid (L.out.below hb)
          clear hb x0 x1 x2 x3 r0 r1 f0 f1
          obtain ⟨x0, x1, x2, x3, k3, -⟩ := L2.out
          have r0 := k3.cell 0
          have r1 := k3.cell 1
          have f0 := k3.free 0
          have f1 := k3.free 1
          clear k3
          go_wp2_with fail
          refine (CR.out _ L2.out.2.2.2.2.2).mono ?_
          rintro e w2 ⟨rfl, hb⟩
          have L3 := Lib.hid (L2.out.below hb)
          clear hb x0 x1 x2 x3 r0 r1 f0 f1 L2
          obtain ⟨x0, x1, x2, x3, k3, -⟩ := L3.out
          have r0 := k3.cell 0
          have r1 := k3.cell 1
          have f0 := k3.free 0
          have f1 := k3.free 1
          clear k3
          have X2 := Lib.hid (HX.out.below L3.out.2.2.2.2.2)
          have z1 := fun q => box_old (V := w2.drewN q) (.cells #[] 3) x1
          go_wp2
          go_quiet (fail)
          go_wp2_with (refine wpList_append_fresh rfl _ _ (by rfl) (l := l) (m := n) (A := A) (c := c) rfl rfl HN.out (X2.out.drawn ⟨_, rfl⟩) (by omega) (w0 := w2) (below_drewN (Below.refl _ _) _) ?_; intro A3 c3 w3 T3 B3; obtain ⟨u0, u1, u2, u3, -, -⟩ := (L3.out.below (show Below w2.heap.size w2 w3 from B3.out)))
          have B3b := Lib.hid (show Below w2.heap.size w2 w3 from B3.out)
          have Z3 := Lib.hid (show ZTab w3 w2.heap.size (.slice A3 n c3) l from T3.out)
          have GX := Lib.hid (show W.heap.size + 1 + 1 < w2.heap.size from L3.out.2.2.2.2.1.lt)
          have C3 := Lib.hid (HC.out.below L3.out.2.2.2.2.2)
          clear x0 x1 x2 x3 r0 r1 f0 f1 T3 B3 z1
          go_loopw [52] (fun i wr => ∃ k : Nat, k ≤ q ∧ i = .int .i64 k ∧ LAt w2 cs l n A3 c3 k wr) (fun i _ => q - (intOf i).toNat)
          case atStart => exact ⟨0, by omega, rfl, l, -1, HN.out, by omega, OC.out, rfl, rfl, Z3.out, B3b.out⟩
          case round =>
            obtain ⟨k, hk, rfl, ls, a, hl, ha, ho, hE, hL, hZ, hB⟩ := hrel
            clear u0 u1 u2 u3
            have L4 := Lib.hid (L3.out.below hB)
            obtain ⟨x0, x1, x2, x3, k3, -⟩ := L4.out
            have r0 := k3.cell 0
            have r1 := k3.cell 1
            have f0 := k3.free 0
            have f1 := k3.free 1
            clear k3
            by_cases hlt : k < q
            · have k1 : k < cs.length := by rw [HQ.out]; exact hlt
              have ex0 : cs[k]? = some cs[k] := List.getElem?_eq_getElem k1
              obtain ⟨x, hu⟩ : ∃ x, x = cs[k] := ⟨_, rfl⟩
              rw [← hu] at ex0
              have ex : cs[k]? = some (id x) := ex0
              obtain ⟨b1, o1, rfl, _, y0, y1, y2⟩ := (C3.out.below hB) k x ex0
              obtain ⟨o2, o3, o4⟩ := (okC_step ex a).1 ho
              obtain ⟨j, hj⟩ : ∃ j : Nat, (id x).1 = j := ⟨(id x).1.toNat, by omega⟩
              obtain ⟨s2, s3, s4⟩ := chE_step ex hj hl
              obtain ⟨c0, c1, c2⟩ := x
              obtain rfl : c0 = (j : Int) := hj
              obtain ⟨v0, v1, v2⟩ := boxC wr (.int .i64 j) (.int .i64 c1) (.int .i64 c2)
              have HZ := hZ.alloc (.cells #[.int .i64 j, .int .i64 c1, .int .i64 c2] 33)
              have hA := (Below.refl wr.heap.size wr).alloc (Nat.le_refl _) (.cells #[.int .i64 j, .int .i64 c1, .int .i64 c2] 33)
              have HB := Lib.hid (hB.trans (hA.mono hB.size))
              have L5 := Lib.hid (L4.out.below hA)
              clear x0 x1 x2 x3 r0 r1 f0 f1
              obtain ⟨x0, x1, x2, x3, k3, -⟩ := L5.out
              have r0 := k3.cell 0
              have r1 := k3.cell 1
              have f0 := k3.free 0
              have f1 := k3.free 1
              clear k3
              have i1 : (k : Int) < (q : Int) := by omega
              by_cases hjn : j < n
              · have i2 : (j : Int) < (n : Int) := by omega
                have i3 : ¬ ((n : Int) - 1 < (j : Int)) := by omega
                obtain ⟨g, x, rfl, hg, hgs, hx, hc, hf, hput⟩ := HZ.put hl hjn
                have GG := Lib.hid hg
                have HP := Lib.hid hput
                by_cases hxe : x = c1
                · obtain ⟨t1, t2⟩ := s4 (by rw [hx, hxe]; rfl) hjn
                  have q3 : (x != c1) = false := by simp [hxe]
                  have E2 := Lib.hid (hE.trans t1)
                  have LL2 := Lib.hid (hL.trans t2)
                  have O2 := Lib.hid o4
                  have LN := Lib.hid (show (ls.set j c2).length = n by rw [List.length_set]; exact hl)
                  clear hu ex ex0 k1 hB hZ HZ hl ho hE hL o2 o3 o4 s2 s3 s4 t1 t2 hx hput hg hgs hxe hA
                  go_wp2
                  go_quiet (fail)
                  go_wp2
                  go_roundw
                  case rel => exact ⟨k + 1, by omega, by go_num, _, _, LN.out, by simp, O2.out, E2.out, LL2.out, Grows.drawn (HP.out c2) ⟨_, rfl⟩, below_drewN (HB.out.setCell (p := ⟨g, j, none⟩) (by have := GG.out; show w2.heap.size ≤ g; omega) _) _⟩
                  case measure => simp [intOf]; omega
                · have q3 : (x != c1) = true := by simpa using hxe
                  have E7 := s3 x hx hxe hjn
                  have H7 := Lib.hid (show e0 = 0 ∧ l0 = [] ∧ n0 = 0 ∧ k0 = 7 by
                    rcases HSY.out with ⟨r1, _⟩ | ⟨r1, r2, r3, r4, r5⟩
                    · rw [hE, E7] at r1; cases r1
                    · exact ⟨r3, r4, r5, by rw [← r1, hE, E7]⟩)
                  clear hu ex ex0 k1 hB hZ HZ hl ho hE hL o2 o3 o4 s2 s3 s4 hx hput hg hgs hxe hA
                  go_wp2
                  go_quiet (fail)
                  go_wp2
                  obtain ⟨rfl, rfl, rfl, rfl⟩ := H7.out
                  refine bodyPost_ret (v := .tuple #[.agg #[.int .i64 0, .slice none 0 0], .int .i64 7]) ?_ rfl ⟨none, 0, rfl, Reads.nil, ((below_drewN L5.out.2.2.2.2.2 _).setCell (by show W.heap.size ≤ W.heap.size + 1 + 1; omega) _).setCell (by show W.heap.size ≤ W.heap.size + 1 + 1; omega) _, fun a h => by cases h⟩
                  exact results_row2 rfl _ _ (W.heap.size + 1 + 1) 24 _ (0, 0) _ rfl (known_put (L5.out.2.2.2.2.1.drawn ⟨_, rfl⟩)) fieldsMap sizeMap rfl
              · have i2 : ¬ (j : Int) < (n : Int) := by omega
                have i3 : (n : Int) - 1 < (j : Int) := by omega
                have E3 := s2 (by omega)
                have H3 := Lib.hid (show e0 = 0 ∧ l0 = [] ∧ n0 = 0 ∧ k0 = 3 by
                  rcases HSY.out with ⟨r1, _⟩ | ⟨r1, r2, r3, r4, r5⟩
                  · rw [hE, E3] at r1; cases r1
                  · exact ⟨r3, r4, r5, by rw [← r1, hE, E3]⟩)
                clear hu ex ex0 k1 hB hZ HZ hl ho hE hL o2 o3 o4 s2 s3 s4 hA
                go_wp2
                obtain ⟨rfl, rfl, rfl, rfl⟩ := H3.out
                refine bodyPost_ret (v := .tuple #[.agg #[.int .i64 0, .slice none 0 0], .int .i64 3]) ?_ rfl ⟨none, 0, rfl, Reads.nil, (L5.out.2.2.2.2.2.setCell (by show W.heap.size ≤ W.heap.size + 1 + 1; omega) _).setCell (by show W.heap.size ≤ W.heap.size + 1 + 1; omega) _, fun a h => by cases h⟩
                exact results_row2 rfl _ _ (W.heap.size + 1 + 1) 24 _ (0, 0) _ rfl (known_put L5.out.2.2.2.2.1) fieldsMap sizeMap rfl
            · obtain rfl : k = q := by omega
              have ED : List.drop k cs = [] := List.drop_of_length_le (by rw [CL.out]; omega)
              have H0 := Lib.hid (show e0 = y ∧ l0 = ls ∧ n0 = n ∧ k0 = 0 by
                rw [ED] at hE hL
                rcases HSY.out with ⟨r1, r2, r3, r4, r5⟩ | ⟨r1, r2, _⟩
                · exact ⟨r2, by rw [r3, hL]; rfl, r4, r5⟩
                · exact absurd (by rw [← r1, hE]; rfl) r2)
              have HR := Lib.hid hZ
              clear hl ho hE hL hZ hB ED
              go_wp2
              obtain ⟨rfl, rfl, rfl, rfl⟩ := H0.out
              have far : ∀ q, A3 = some q → W.heap.size + 1 + 1 < q.block := fun q hq => by have := Grows.from_ HR.out q hq; have := GX.out; omega
              refine bodyPost_ret (v := .tuple #[.agg #[.int .i64 e0, .slice A3 n0 c3], .int .i64 0]) ?_ rfl ⟨A3, c3, rfl, ?_, (L4.out.2.2.2.2.2.setCell (by show W.heap.size ≤ W.heap.size + 1 + 1; omega) _).setCell (by show W.heap.size ≤ W.heap.size + 1 + 1; omega) _, fun a h => by have := far a h; omega⟩
              · exact results_row2 rfl _ _ (W.heap.size + 1 + 1) 24 _ (0, 0) _ rfl (known_put L4.out.2.2.2.2.1) fieldsMap sizeMap rfl
              · exact (HR.out.reads.off (p := ⟨W.heap.size + 1 + 1, 0, none⟩) (fun a h => by have := far a h; show a.block ≠ W.heap.size + 1 + 1; omega) _).off (p := ⟨W.heap.size + 1 + 1, 1, none⟩) (fun a h => by have := far a h; show a.block ≠ W.heap.size + 1 + 1; omega) _
        · have HE := Lib.hid (HS.out.bad (ap_two hm h2 h3 h4) (apM_bad (by rw [ap_two hm h2 h3 h4]; decide)))
          have q2 : (m1 != s1) = true := by simpa using fun e => h4 e.symm
          clear hm h2 h3 h4
          go_enter Try.func14, Try.ntmps14
          go_wp2_with fail
          refine (R.out _).mono ?_
          rintro e w1 ⟨rfl, hb⟩
          have L2 := Lib.hid (L.out.below hb)
          clear hb x0 x1 x2 x3 r0 r1 f0 f1
          obtain ⟨x0, x1, x2, x3, k3, -⟩ := L2.out
          have r0 := k3.cell 0
          have r1 := k3.cell 1
          have f0 := k3.free 0
          have f1 := k3.free 1
          clear k3
          go_wp2_with fail
          refine (CR.out _ L2.out.2.2.2.2.2).mono ?_
          rintro e w2 ⟨rfl, hb⟩
          have L3 := Lib.hid (L2.out.below hb)
          clear hb x0 x1 x2 x3 r0 r1 f0 f1 L2
          obtain ⟨x0, x1, x2, x3, k3, -⟩ := L3.out
          have r0 := k3.cell 0
          have r1 := k3.cell 1
          have f0 := k3.free 0
          have f1 := k3.free 1
          clear k3
          go_wp2
          go_quiet (fail)
          go_wp2
          obtain ⟨rfl, rfl, rfl, rfl⟩ := HE.out
          refine bodyPost_ret (v := .tuple #[.agg #[.int .i64 0, .slice none 0 0], .int .i64 2]) ?_ rfl ⟨none, 0, rfl, Reads.nil, ((below_drewN L3.out.2.2.2.2.2 _).setCell (by show W.heap.size ≤ W.heap.size + 1 + 1; omega) _).setCell (by show W.heap.size ≤ W.heap.size + 1 + 1; omega) _, fun a h => by cases h⟩
          exact results_row2 rfl _ _ (W.heap.size + 1 + 1) 24 _ (0, 0) _ rfl (known_put (L3.out.2.2.2.2.1.drawn ⟨_, rfl⟩)) fieldsMap sizeMap rfl
    · have CR := Lib.hid (fun V hb => lstep_c s1 C cs q ca V HQ.out hqb (HC.out.below (W := W) (V := V) hb) false (decide_eq_false h2))
      have HE := Lib.hid (HS.out.bad (ap_one (.inr h2)) (apM_bad (by rw [ap_one (.inr h2)]; decide)))
      clear hm h2
      go_enter Try.func14, Try.ntmps14
      go_wp2_with fail
      refine (R.out _).mono ?_
      rintro e w1 ⟨rfl, hb⟩
      have L2 := Lib.hid (L.out.below hb)
      clear hb x0 x1 x2 x3 r0 r1 f0 f1
      obtain ⟨x0, x1, x2, x3, k3, -⟩ := L2.out
      have r0 := k3.cell 0
      have r1 := k3.cell 1
      have f0 := k3.free 0
      have f1 := k3.free 1
      clear k3
      go_wp2_with fail
      refine (CR.out _ L2.out.2.2.2.2.2).mono ?_
      rintro e w2 ⟨rfl, hb⟩
      have L3 := Lib.hid (L2.out.below hb)
      clear hb x0 x1 x2 x3 r0 r1 f0 f1 L2
      obtain ⟨x0, x1, x2, x3, k3, -⟩ := L3.out
      have r0 := k3.cell 0
      have r1 := k3.cell 1
      have f0 := k3.free 0
      have f1 := k3.free 1
      clear k3
      go_wp2
      obtain ⟨rfl, rfl, rfl, rfl⟩ := HE.out
      refine bodyPost_ret (v := .tuple #[.agg #[.int .i64 0, .slice none 0 0], .int .i64 1]) ?_ rfl ⟨none, 0, rfl, Reads.nil, (L3.out.2.2.2.2.2.setCell (by show W.heap.size ≤ W.heap.size + 1 + 1; omega) _).setCell (by show W.heap.size ≤ W.heap.size + 1 + 1; omega) _, fun a h => by cases h⟩
      exact results_row2 rfl _ _ (W.heap.size + 1 + 1) 24 _ (0, 0) _ rfl (known_put L3.out.2.2.2.2.1) fieldsMap sizeMap rfl

set_option maxRecDepth 100000 in
set_option maxHeartbeats 8000000 in
theorem lgo_back (m1 : Int) (A : Option Addr) (l : List Int) (n c : Nat) (s1 : Int) (C : Option Addr) (cs : List Ch) (q ca : Nat) (W : World) (hn : l.length = n) (hbig : n ≤ 17592186044416) (hx : Reads W A (ints l)) (hq : cs.length = q) (hqb : q ≤ 5864062014805) (hc : CRds W C cs) (hfs : Fit s1)
    (e0 : Int) (l0 : List Int) (n0 : Nat) (k0 : Int) (hs : Says (unE (m1, l) (s1, cs)) (unM (m1, l) (s1, cs)) e0 l0 n0 k0) :
    Calls Try.prog 14 #[.agg #[.int .i64 m1, .slice A n c], .agg #[.int .i64 s1, .slice C q ca], .bool true] W (MapOut e0 l0 n0 k0 W) := by
  have L := Lib.hid (laid3 W (.int .i64 m1) (.slice A n c) (.int .i64 s1) (.slice C q ca))
  have HX := Lib.hid hx
  have HC := Lib.hid hc
  have HN := Lib.hid hn
  have HQ := Lib.hid hq
  have HS := Lib.hid hs
  have FT := Lib.hid hfs
  clear hn hx hq hc hs hfs
  cases h1 : okB m1 n with
  | false =>
    have HE := Lib.hid (HS.out.bad (un_one (.inl ((okB_false (m := (m1, l)) HN.out).1 h1))) (unM_bad (by rw [un_one (.inl ((okB_false (m := (m1, l)) HN.out).1 h1))]; decide)))
    have R := Lib.hid (fun V => lright_c m1 A n c V false h1)
    clear h1
    obtain ⟨x0, x1, x2, x3, k3, -⟩ := L.out
    have r0 := k3.cell 0
    have r1 := k3.cell 1
    have f0 := k3.free 0
    have f1 := k3.free 1
    clear k3
    go_enter Try.func14, Try.ntmps14
    go_wp2_with fail
    refine (R.out _).mono ?_
    rintro e w1 ⟨rfl, hb⟩
    have L3 := Lib.hid (L.out.below hb)
    clear hb x0 x1 x2 x3 r0 r1 f0 f1
    obtain ⟨x0, x1, x2, x3, k3, -⟩ := L3.out
    have r0 := k3.cell 0
    have r1 := k3.cell 1
    have f0 := k3.free 0
    have f1 := k3.free 1
    clear k3
    go_wp2
    obtain ⟨rfl, rfl, rfl, rfl⟩ := HE.out
    refine bodyPost_ret (v := .tuple #[.agg #[.int .i64 0, .slice none 0 0], .int .i64 1]) ?_ rfl ⟨none, 0, rfl, Reads.nil, (L3.out.2.2.2.2.2.setCell (by show W.heap.size ≤ W.heap.size + 1 + 1; omega) _).setCell (by show W.heap.size ≤ W.heap.size + 1 + 1; omega) _, fun a h => by cases h⟩
    exact results_row2 rfl _ _ (W.heap.size + 1 + 1) 24 _ (0, 0) _ rfl (known_put L3.out.2.2.2.2.1) fieldsMap sizeMap rfl
  | true =>
    have hm := (okB_iff (m := (m1, l)) HN.out).1 h1
    have H1 := Lib.hid h1
    have R := Lib.hid (fun V => lright_c m1 A n c V true h1)
    clear h1
    obtain ⟨x0, x1, x2, x3, k3, -⟩ := L.out
    have r0 := k3.cell 0
    have r1 := k3.cell 1
    have f0 := k3.free 0
    have f1 := k3.free 1
    clear k3
    by_cases h2 : okC (-1) cs
    · have CR := Lib.hid (fun V hb => lstep_c s1 C cs q ca V HQ.out hqb (HC.out.below (W := W) (V := V) hb) true (decide_eq_true h2))
      have H2 := Lib.hid h2
      by_cases h3 : m1 = 0
      · have HE := Lib.hid (HS.out.bad (un_two hm h2 (.inl h3)) (unM_bad (by rw [un_two hm h2 (.inl h3)]; decide)))
        have q1 : (m1 == 0) = true := by simpa using h3
        clear h3 hm h2
        go_enter Try.func14, Try.ntmps14
        go_wp2_with fail
        refine (R.out _).mono ?_
        rintro e w1 ⟨rfl, hb⟩
        have L2 := Lib.hid (L.out.below hb)
        clear hb x0 x1 x2 x3 r0 r1 f0 f1
        obtain ⟨x0, x1, x2, x3, k3, -⟩ := L2.out
        have r0 := k3.cell 0
        have r1 := k3.cell 1
        have f0 := k3.free 0
        have f1 := k3.free 1
        clear k3
        go_wp2_with fail
        refine (CR.out _ L2.out.2.2.2.2.2).mono ?_
        rintro e w2 ⟨rfl, hb⟩
        have L3 := Lib.hid (L2.out.below hb)
        clear hb x0 x1 x2 x3 r0 r1 f0 f1 L2
        obtain ⟨x0, x1, x2, x3, k3, -⟩ := L3.out
        have r0 := k3.cell 0
        have r1 := k3.cell 1
        have f0 := k3.free 0
        have f1 := k3.free 1
        clear k3
        go_wp2
        go_quiet (fail)
        go_wp2
        obtain ⟨rfl, rfl, rfl, rfl⟩ := HE.out
        refine bodyPost_ret (v := .tuple #[.agg #[.int .i64 0, .slice none 0 0], .int .i64 2]) ?_ rfl ⟨none, 0, rfl, Reads.nil, ((below_drewN L3.out.2.2.2.2.2 _).setCell (by show W.heap.size ≤ W.heap.size + 1 + 1; omega) _).setCell (by show W.heap.size ≤ W.heap.size + 1 + 1; omega) _, fun a h => by cases h⟩
        exact results_row2 rfl _ _ (W.heap.size + 1 + 1) 24 _ (0, 0) _ rfl (known_put (L3.out.2.2.2.2.1.drawn ⟨_, rfl⟩)) fieldsMap sizeMap rfl
      · have q1 : (m1 == 0) = false := by simpa using h3
        have WB := wrap_back hm.1 hm.2.1 h3 FT.out
        obtain ⟨y, hy⟩ : ∃ y, IntKind.i64.wrap (s1 + 1) = y := ⟨_, rfl⟩
        rw [hy] at WB
        by_cases h4 : s1 = m1 - 1
        · have SY := un_says HS.out HN.out H1.out h2 h3 h4
          have hmy : m1 = y := WB.2 h4
          have q2 : (m1 != y) = false := by simp [hmy]
          have EP : s1 = m1 - 1 := h4
          have EPH := Lib.hid EP
          rw [← EP] at SY
          have HSY := Lib.hid SY
          have OC := Lib.hid (show okC (-1) (cs.map flip) from okC_flip H2.out)
          have CL := Lib.hid (show (cs.map flip).length = q from by rw [List.length_map]; exact HQ.out)
          have n400 : n ≤ 400 := by rw [← HN.out]; exact hm.2.2
          have wn : IntKind.i64.wrap ((n : Int) - 1) = (n : Int) - 1 := IntWalk.i64_in _ (by omega)
          clear hm h2 h3 h4 EP SY WB hmy
          go_enter Try.func14, Try.ntmps14
          go_wp2_with fail
          refine (R.out _).mono ?_
          rintro e w1 ⟨rfl, hb⟩
          have L2 := Lib.hid (L.out.below hb)
          clear hb x0 x1 x2 x3 r0 r1 f0 f1
          obtain ⟨x0, x1, x2, x3, k3, -⟩ := L2.out
          have r0 := k3.cell 0
          have r1 := k3.cell 1
          have f0 := k3.free 0
          have f1 := k3.free 1
          clear k3
          go_wp2_with fail
          refine (CR.out _ L2.out.2.2.2.2.2).mono ?_
          rintro e w2 ⟨rfl, hb⟩
          have L3 := Lib.hid (L2.out.below hb)
          clear hb x0 x1 x2 x3 r0 r1 f0 f1 L2
          obtain ⟨x0, x1, x2, x3, k3, -⟩ := L3.out
          have r0 := k3.cell 0
          have r1 := k3.cell 1
          have f0 := k3.free 0
          have f1 := k3.free 1
          clear k3
          have X2 := Lib.hid (HX.out.below L3.out.2.2.2.2.2)
          have z1 := fun q => box_old (V := w2.drewN q) (.cells #[] 3) x1
          go_wp2
          go_quiet (fail)
          go_wp2_with (refine wpList_append_fresh rfl _ _ (by rfl) (l := l) (m := n) (A := A) (c := c) rfl rfl HN.out (X2.out.drawn ⟨_, rfl⟩) (by omega) (w0 := w2) (below_drewN (Below.refl _ _) _) ?_; intro A3 c3 w3 T3 B3; obtain ⟨u0, u1, u2, u3, -, -⟩ := (L3.out.below (show Below w2.heap.size w2 w3 from B3.out)))
          have B3b := Lib.hid (show Below w2.heap.size w2 w3 from B3.out)
          have Z3 := Lib.hid (show ZTab w3 w2.heap.size (.slice A3 n c3) l from T3.out)
          have GX := Lib.hid (show W.heap.size + 1 + 1 < w2.heap.size from L3.out.2.2.2.2.1.lt)
          have C3 := Lib.hid (HC.out.below L3.out.2.2.2.2.2)
          clear x0 x1 x2 x3 r0 r1 f0 f1 T3 B3 z1
          go_loopw [52] (fun i wr => ∃ k : Nat, k ≤ q ∧ i = .int .i64 k ∧ LAt w2 (cs.map flip) l n A3 c3 k wr) (fun i _ => q - (intOf i).toNat)
          case atStart => exact ⟨0, by omega, rfl, l, -1, HN.out, by omega, OC.out, rfl, rfl, Z3.out, B3b.out⟩
          case round =>
            obtain ⟨k, hk, rfl, ls, a, hl, ha, ho, hE, hL, hZ, hB⟩ := hrel
            clear u0 u1 u2 u3
            have L4 := Lib.hid (L3.out.below hB)
            obtain ⟨x0, x1, x2, x3, k3, -⟩ := L4.out
            have r0 := k3.cell 0
            have r1 := k3.cell 1
            have f0 := k3.free 0
            have f1 := k3.free 1
            clear k3
            by_cases hlt : k < q
            · have k1 : k < cs.length := by rw [HQ.out]; exact hlt
              have ex0 : cs[k]? = some cs[k] := List.getElem?_eq_getElem k1
              obtain ⟨x, hu⟩ : ∃ x, x = cs[k] := ⟨_, rfl⟩
              rw [← hu] at ex0
              have ex : (cs.map flip)[k]? = some (flip x) := by rw [List.getElem?_map, ex0]; rfl
              obtain ⟨b1, o1, rfl, _, y0, y1, y2⟩ := (C3.out.below hB) k x ex0
              obtain ⟨o2, o3, o4⟩ := (okC_step ex a).1 ho
              obtain ⟨j, hj⟩ : ∃ j : Nat, (flip x).1 = j := ⟨(flip x).1.toNat, by omega⟩
              obtain ⟨s2, s3, s4⟩ := chE_step ex hj hl
              obtain ⟨c0, c1, c2⟩ := x
              obtain rfl : c0 = (j : Int) := hj
              obtain ⟨v0, v1, v2⟩ := boxC wr (.int .i64 j) (.int .i64 c1) (.int .i64 c2)
              have HZ := hZ.alloc (.cells #[.int .i64 j, .int .i64 c1, .int .i64 c2] 33)
              have hA := (Below.refl wr.heap.size wr).alloc (Nat.le_refl _) (.cells #[.int .i64 j, .int .i64 c1, .int .i64 c2] 33)
              have HB := Lib.hid (hB.trans (hA.mono hB.size))
              have L5 := Lib.hid (L4.out.below hA)
              clear x0 x1 x2 x3 r0 r1 f0 f1
              obtain ⟨x0, x1, x2, x3, k3, -⟩ := L5.out
              have r0 := k3.cell 0
              have r1 := k3.cell 1
              have f0 := k3.free 0
              have f1 := k3.free 1
              clear k3
              have i1 : (k : Int) < (q : Int) := by omega
              by_cases hjn : j < n
              · have i2 : (j : Int) < (n : Int) := by omega
                have i3 : ¬ ((n : Int) - 1 < (j : Int)) := by omega
                obtain ⟨g, x, rfl, hg, hgs, hx, hc, hf, hput⟩ := HZ.put hl hjn
                have GG := Lib.hid hg
                have HP := Lib.hid hput
                by_cases hxe : x = c2
                · obtain ⟨t1, t2⟩ := s4 (by rw [hx, hxe]; rfl) hjn
                  have q3 : (x != c2) = false := by simp [hxe]
                  have E2 := Lib.hid (hE.trans t1)
                  have LL2 := Lib.hid (hL.trans t2)
                  have O2 := Lib.hid o4
                  have LN := Lib.hid (show (ls.set j c1).length = n by rw [List.length_set]; exact hl)
                  clear hu ex ex0 k1 hB hZ HZ hl ho hE hL o2 o3 o4 s2 s3 s4 t1 t2 hx hput hg hgs hxe hA
                  go_wp2
                  go_quiet (fail)
                  go_wp2
                  go_roundw
                  case rel => exact ⟨k + 1, by omega, by go_num, _, _, LN.out, by simp [flip], O2.out, E2.out, LL2.out, Grows.drawn (HP.out c1) ⟨_, rfl⟩, below_drewN (HB.out.setCell (p := ⟨g, j, none⟩) (by have := GG.out; show w2.heap.size ≤ g; omega) _) _⟩
                  case measure => simp [intOf]; omega
                · have q3 : (x != c2) = true := by simpa using hxe
                  have E7 := s3 x hx hxe hjn
                  have H7 := Lib.hid (show e0 = 0 ∧ l0 = [] ∧ n0 = 0 ∧ k0 = 7 by
                    rcases HSY.out with ⟨r1, _⟩ | ⟨r1, r2, r3, r4, r5⟩
                    · rw [hE, E7] at r1; cases r1
                    · exact ⟨r3, r4, r5, by rw [← r1, hE, E7]⟩)
                  clear hu ex ex0 k1 hB hZ HZ hl ho hE hL o2 o3 o4 s2 s3 s4 hx hput hg hgs hxe hA
                  go_wp2
                  go_quiet (fail)
                  go_wp2
                  obtain ⟨rfl, rfl, rfl, rfl⟩ := H7.out
                  refine bodyPost_ret (v := .tuple #[.agg #[.int .i64 0, .slice none 0 0], .int .i64 7]) ?_ rfl ⟨none, 0, rfl, Reads.nil, ((below_drewN L5.out.2.2.2.2.2 _).setCell (by show W.heap.size ≤ W.heap.size + 1 + 1; omega) _).setCell (by show W.heap.size ≤ W.heap.size + 1 + 1; omega) _, fun a h => by cases h⟩
                  exact results_row2 rfl _ _ (W.heap.size + 1 + 1) 24 _ (0, 0) _ rfl (known_put (L5.out.2.2.2.2.1.drawn ⟨_, rfl⟩)) fieldsMap sizeMap rfl
              · have i2 : ¬ (j : Int) < (n : Int) := by omega
                have i3 : (n : Int) - 1 < (j : Int) := by omega
                have E3 := s2 (by omega)
                have H3 := Lib.hid (show e0 = 0 ∧ l0 = [] ∧ n0 = 0 ∧ k0 = 3 by
                  rcases HSY.out with ⟨r1, _⟩ | ⟨r1, r2, r3, r4, r5⟩
                  · rw [hE, E3] at r1; cases r1
                  · exact ⟨r3, r4, r5, by rw [← r1, hE, E3]⟩)
                clear hu ex ex0 k1 hB hZ HZ hl ho hE hL o2 o3 o4 s2 s3 s4 hA
                go_wp2
                obtain ⟨rfl, rfl, rfl, rfl⟩ := H3.out
                refine bodyPost_ret (v := .tuple #[.agg #[.int .i64 0, .slice none 0 0], .int .i64 3]) ?_ rfl ⟨none, 0, rfl, Reads.nil, (L5.out.2.2.2.2.2.setCell (by show W.heap.size ≤ W.heap.size + 1 + 1; omega) _).setCell (by show W.heap.size ≤ W.heap.size + 1 + 1; omega) _, fun a h => by cases h⟩
                exact results_row2 rfl _ _ (W.heap.size + 1 + 1) 24 _ (0, 0) _ rfl (known_put L5.out.2.2.2.2.1) fieldsMap sizeMap rfl
            · obtain rfl : k = q := by omega
              have ED : List.drop k (cs.map flip) = [] := List.drop_of_length_le (by rw [CL.out]; omega)
              have H0 := Lib.hid (show e0 = s1 ∧ l0 = ls ∧ n0 = n ∧ k0 = 0 by
                rw [ED] at hE hL
                rcases HSY.out with ⟨r1, r2, r3, r4, r5⟩ | ⟨r1, r2, _⟩
                · exact ⟨r2, by rw [r3, hL]; rfl, r4, r5⟩
                · exact absurd (by rw [← r1, hE]; rfl) r2)
              have HR := Lib.hid hZ
              clear hl ho hE hL hZ hB ED
              go_wp2
              obtain ⟨rfl, rfl, rfl, rfl⟩ := H0.out
              have far : ∀ q, A3 = some q → W.heap.size + 1 + 1 < q.block := fun q hq => by have := Grows.from_ HR.out q hq; have := GX.out; omega
              refine bodyPost_ret (v := .tuple #[.agg #[.int .i64 e0, .slice A3 n0 c3], .int .i64 0]) ?_ rfl ⟨A3, c3, rfl, ?_, (L4.out.2.2.2.2.2.setCell (by show W.heap.size ≤ W.heap.size + 1 + 1; omega) _).setCell (by show W.heap.size ≤ W.heap.size + 1 + 1; omega) _, fun a h => by have := far a h; omega⟩
              · exact results_row2 rfl _ _ (W.heap.size + 1 + 1) 24 _ (0, 0) _ rfl (known_put L4.out.2.2.2.2.1) fieldsMap sizeMap rfl
              · exact (HR.out.reads.off (p := ⟨W.heap.size + 1 + 1, 0, none⟩) (fun a h => by have := far a h; show a.block ≠ W.heap.size + 1 + 1; omega) _).off (p := ⟨W.heap.size + 1 + 1, 1, none⟩) (fun a h => by have := far a h; show a.block ≠ W.heap.size + 1 + 1; omega) _
        · have HE := Lib.hid (HS.out.bad (un_two hm h2 (.inr h4)) (unM_bad (by rw [un_two hm h2 (.inr h4)]; decide)))
          have q2 : (m1 != y) = true := by simpa using fun e => h4 (WB.1 e)
          clear hm h2 h3 h4 WB
          go_enter Try.func14, Try.ntmps14
          go_wp2_with fail
          refine (R.out _).mono ?_
          rintro e w1 ⟨rfl, hb⟩
          have L2 := Lib.hid (L.out.below hb)
          clear hb x0 x1 x2 x3 r0 r1 f0 f1
          obtain ⟨x0, x1, x2, x3, k3, -⟩ := L2.out
          have r0 := k3.cell 0
          have r1 := k3.cell 1
          have f0 := k3.free 0
          have f1 := k3.free 1
          clear k3
          go_wp2_with fail
          refine (CR.out _ L2.out.2.2.2.2.2).mono ?_
          rintro e w2 ⟨rfl, hb⟩
          have L3 := Lib.hid (L2.out.below hb)
          clear hb x0 x1 x2 x3 r0 r1 f0 f1 L2
          obtain ⟨x0, x1, x2, x3, k3, -⟩ := L3.out
          have r0 := k3.cell 0
          have r1 := k3.cell 1
          have f0 := k3.free 0
          have f1 := k3.free 1
          clear k3
          go_wp2
          go_quiet (fail)
          go_wp2
          obtain ⟨rfl, rfl, rfl, rfl⟩ := HE.out
          refine bodyPost_ret (v := .tuple #[.agg #[.int .i64 0, .slice none 0 0], .int .i64 2]) ?_ rfl ⟨none, 0, rfl, Reads.nil, ((below_drewN L3.out.2.2.2.2.2 _).setCell (by show W.heap.size ≤ W.heap.size + 1 + 1; omega) _).setCell (by show W.heap.size ≤ W.heap.size + 1 + 1; omega) _, fun a h => by cases h⟩
          exact results_row2 rfl _ _ (W.heap.size + 1 + 1) 24 _ (0, 0) _ rfl (known_put (L3.out.2.2.2.2.1.drawn ⟨_, rfl⟩)) fieldsMap sizeMap rfl
    · have CR := Lib.hid (fun V hb => lstep_c s1 C cs q ca V HQ.out hqb (HC.out.below (W := W) (V := V) hb) false (decide_eq_false h2))
      have HE := Lib.hid (HS.out.bad (un_one (.inr h2)) (unM_bad (by rw [un_one (.inr h2)]; decide)))
      clear hm h2
      go_enter Try.func14, Try.ntmps14
      go_wp2_with fail
      refine (R.out _).mono ?_
      rintro e w1 ⟨rfl, hb⟩
      have L2 := Lib.hid (L.out.below hb)
      clear hb x0 x1 x2 x3 r0 r1 f0 f1
      obtain ⟨x0, x1, x2, x3, k3, -⟩ := L2.out
      have r0 := k3.cell 0
      have r1 := k3.cell 1
      have f0 := k3.free 0
      have f1 := k3.free 1
      clear k3
      go_wp2_with fail
      refine (CR.out _ L2.out.2.2.2.2.2).mono ?_
      rintro e w2 ⟨rfl, hb⟩
      have L3 := Lib.hid (L2.out.below hb)
      clear hb x0 x1 x2 x3 r0 r1 f0 f1 L2
      obtain ⟨x0, x1, x2, x3, k3, -⟩ := L3.out
      have r0 := k3.cell 0
      have r1 := k3.cell 1
      have f0 := k3.free 0
      have f1 := k3.free 1
      clear k3
      go_wp2
      obtain ⟨rfl, rfl, rfl, rfl⟩ := HE.out
      refine bodyPost_ret (v := .tuple #[.agg #[.int .i64 0, .slice none 0 0], .int .i64 1]) ?_ rfl ⟨none, 0, rfl, Reads.nil, (L3.out.2.2.2.2.2.setCell (by show W.heap.size ≤ W.heap.size + 1 + 1; omega) _).setCell (by show W.heap.size ≤ W.heap.size + 1 + 1; omega) _, fun a h => by cases h⟩
      exact results_row2 rfl _ _ (W.heap.size + 1 + 1) 24 _ (0, 0) _ rfl (known_put L3.out.2.2.2.2.1) fieldsMap sizeMap rfl

end Go.Proofs.Ytmijjaihedbjgaa.Mps
