/-
  Package vector, the program: Join, Tick.
-/
import Derived.Test.YtkflngdahnpmbaaVeProgB
namespace Go.Proofs.Ytkflngdahnpmbaa.Ve
set_option linter.unusedVariables false
set_option linter.unusedSimpArgs false
open Go.RowKit Mem Gt
open Jump (Gave equalZ_c)

theorem madeZ (z : Value) (n : Nat) : madeCells #[z] n = Array.replicate n z := by
  apply Array.ext_getElem?
  intro i
  by_cases h : i < n
  · simp [madeCells, h, Nat.mod_one]
  · simp [madeCells, h]
theorem make_ints (n : Nat) (hn : n ≤ 1000) (w : World) :
    (Instr.makeSlice 22 (.int .i64 n) (.int .i64 n)).run Try.prog w = .ok (.slice (some ⟨w.heap.size, 0, none⟩) n n) (w.alloc (.cells (Array.replicate n (.int .i64 0)) 3)) := by
  obtain ⟨i, hi, hz0, hz1, hz2⟩ := info_parts infoI
  have hb : (i.bytes : Int) * (n : Int) ≤ 281474976710656 := by rw [hz2]; omega
  have hr := run_make (P := Try.prog) w 22 3 i (.int .i64 0) Try.underlying22 hi hz0 .i64 .i64 n n (by omega) (by omega) hb (by omega)
  rw [hr]
  simp only [Int.toNat_natCast, hz1, Nat.mul_one]
  rw [show (Value.int .i64 0).cells = #[Value.int .i64 0] from rfl, madeZ]
/-- A block of numbers of the call's own. -/
def IC (W : World) (g : Nat) (l : List Int) : Prop := Known W g 3 (l.map (Value.int .i64)).toArray
section
variable {W V : World} {g : Nat} {l : List Int}
theorem IC.at_ (h : IC W g l) {k : Nat} {x : Int} (hk : l[k]? = some x) : W.cell? ⟨g, k, none⟩ = some (.int .i64 x) := by rw [Known.cell h]; simp [hk]
theorem IC.free (h : IC W g l) (k : Nat) : W.frozen? ⟨g, k, none⟩ = false := Known.free h k
theorem IC.put (h : IC W g l) (k : Nat) (x : Int) : IC (W.setCell ⟨g, k, none⟩ (.int .i64 x)) g (l.set k x) := by
  have := Known.put h k (.int .i64 x)
  unfold IC
  rw [List.map_set]
  simpa using this
theorem IC.drew (h : IC W g l) : IC W.drew g l := h
theorem IC.reads (h : IC W g l) : Reads W (some ⟨g, 0, none⟩) (l.map (Value.int .i64)) := fun k v hv => by
  refine ⟨g, 0, rfl, Known.lt h, ?_⟩
  rw [Nat.zero_add, Known.cell h]; simpa using hv
theorem IC.new (W : World) (n : Nat) : IC (W.alloc (.cells (Array.replicate n (.int .i64 0)) 3)) W.heap.size (List.replicate n 0) := by
  have := Known.made W 3 (Array.replicate n (.int .i64 0))
  unfold IC
  simpa using this
end
/-- The first k places hold the join. -/
def JAt (n : Nat) (jl : List Int) (k : Nat) (cur : List Int) : Prop := cur.length = n ∧ ∀ j, j < k → cur[j]? = jl[j]?
theorem JAt.step {n k : Nat} {jl cur : List Int} {x : Int} (h : JAt n jl k cur) (hk : k < n) (hx : jl[k]? = some x) : JAt n jl (k + 1) (cur.set k x) := by
  refine ⟨by rw [List.length_set]; exact h.1, fun j hj => ?_⟩
  rw [List.getElem?_set]
  split
  · rename_i e; subst e; rw [if_pos (by rw [h.1]; exact hk), hx]
  · exact h.2 j (by omega)
theorem JAt.all {n : Nat} {jl cur : List Int} (h : JAt n jl n cur) (hl : jl.length = n) : cur = jl := by
  apply List.ext_getElem?
  intro i
  by_cases hi : i < n
  · exact h.2 i hi
  · rw [List.getElem?_eq_none (by rw [h.1]; omega), List.getElem?_eq_none (by omega)]
set_option maxRecDepth 100000 in
set_option maxHeartbeats 8000000 in
theorem joinSpec : JoinSpec := fun A B a b n m ca cb V l k e hn hm ka kb h1 h2 hx hy he hl hk => by
  have P := Lib.hid (wrong_c (some ⟨V.heap.size, 0, none⟩) [a, b] 2 2 (V.alloc (.cells #[.slice A n ca, .slice B m cb] 22)) e rfl (by omega) (lit2v V (isv_of hn ka (by omega) hx) (isv_of hm kb (by omega) hy)) he)
  obtain ⟨w0, hw0⟩ : ∃ w0, V.alloc (.cells #[.slice A n ca, .slice B m cb] 22) = w0 := ⟨_, rfl⟩
  have BL := Lib.hid (low_lit V (.cells #[.slice A n ca, .slice B m cb] 22))
  by_cases h0 : e = 0
  · subst h0
    obtain ⟨q, hq⟩ := wrongE_zero.1 he
    have fa := hq a (by simp)
    have fb := hq b (by simp)
    obtain rfl : n = q := hn.symm.trans fa.1
    obtain rfl : n = m := fb.1.symm.trans hm
    rw [if_pos rfl] at hl
    obtain rfl : n = k := by rw [← hk, ← hl, join_len (hn.trans hm.symm)]; exact hn.symm
    have n16 := fa.2.1
    rw [hw0] at P BL
    have hmk := make_ints n (by omega) w0
    have HX := Lib.hid (hx.below BL.out)
    have HY := Lib.hid (hy.below BL.out)
    have HN := Lib.hid hn
    have HM := Lib.hid hm
    have HK := Lib.hid hk
    have HL := Lib.hid hl
    obtain ⟨g, hg⟩ : ∃ g, w0.heap.size = g := ⟨_, rfl⟩
    have I0 := Lib.hid (show IC (w0.alloc (.cells (Array.replicate n (.int .i64 0)) 3)) g (List.replicate n 0) from hg ▸ IC.new w0 n)
    have B0 := Lib.hid (show Below g w0 (w0.alloc (.cells (Array.replicate n (.int .i64 0)) 3)) from hg ▸ low_lit w0 _)
    have GV := Lib.hid (show V.heap.size ≤ g by rw [← hg, ← hw0]; simp)
    rw [hg] at hmk
    have HX := Lib.hid (fun (w : World) (h : Below g w0 w) => HX.out.below (hg ▸ h))
    have HY := Lib.hid (fun (w : World) (h : Below g w0 w) => HY.out.below (hg ▸ h))
    have HW := Lib.hid hw0
    clear hn hm ka kb hx hy he hl hk fa fb hq hg h1 h2
    go_enter Try.func9, Try.ntmps9
    go_wp2_with fail
    refine P.out.mono ?_
    clear hw0
    rintro e w1 ⟨rfl, hw⟩
    rw [hw]
    clear hw
    go_wp2_with fail
    go_loopw [21] (fun i wr => ∃ (k : Nat) (cur : List Int), k ≤ n ∧ i = .int .i64 k ∧ JAt n l k cur ∧ IC wr g cur ∧ Below g w0 wr) (fun i _ => n - (Go.RowKit.intOf i).toNat)
    case atStart => exact ⟨0, List.replicate n 0, by omega, rfl, ⟨by simp, fun j h => absurd h (Nat.not_lt_zero _)⟩, I0.out, B0.out⟩
    case round =>
      obtain ⟨k, cur, hk, rfl, hj, hI, hB⟩ := hrel
      have HJ := Lib.hid hj
      have HI := Lib.hid hI
      have BB := Lib.hid hB
      clear hj hI
      by_cases hlt : k < n
      · have kl : k < a.length := by rw [HN.out]; exact hlt
        have km : k < b.length := by rw [HM.out]; exact hlt
        obtain ⟨x, hx⟩ : ∃ x, a[k]? = some x := ⟨_, List.getElem?_eq_getElem kl⟩
        obtain ⟨y, hy⟩ : ∃ y, b[k]? = some y := ⟨_, List.getElem?_eq_getElem km⟩
        obtain ⟨b1, o1, rfl, _, c1⟩ := int_at (HX.out wr hB) hx
        obtain ⟨b2, o2, rfl, _, c2⟩ := int_at (HY.out wr hB) hy
        obtain ⟨z, hz⟩ : ∃ z, max x y = z := ⟨_, rfl⟩
        have JS := Lib.hid (HJ.out.step (x := z) hlt (by rw [← HL.out]; unfold join; rw [List.getElem?_zipWith, hx, hy, ← hz]))
        have c3 := HI.out.free k
        obtain ⟨u, hu⟩ : ∃ u, cur[k]? = some u := ⟨_, List.getElem?_eq_getElem (by rw [HJ.out.1]; exact hlt)⟩
        have c4 := HI.out.at_ hu
        have j1 : (k : Int) < (n : Int) := by omega
        clear kl km hx hy hB hu
        go_wp2_with fail
        refine Mem.region_tail 11 (by kernel_rfl) (by kernel_rfl) ?_
        simp only [List.take_succ_cons, List.take_zero, List.drop_succ_cons, List.drop_zero]
        repeat still_step
        refine wpStill_nil ?_
        go_wp2
        go_roundw
        case rel => exact ⟨k + 1, _, by omega, by go_num, JS.out, HI.out.drew.put k _, (below_drew BB.out).setCell (Nat.le_refl _) _⟩
        case measure => simp [Go.RowKit.intOf]; omega
      · obtain rfl : k = n := by omega
        have R := Lib.hid (HI.out.reads)
        rw [HJ.out.all HK.out] at R
        have BE := Lib.hid (BL.out.trans (BB.out.mono GV.out))
        clear hB
        go_wp2
        go_ret2
        exact ⟨some ⟨g, 0, none⟩, k, rfl, ⟨Nat.le_refl _, by omega⟩, R.out, BE.out⟩
  · rw [if_neg h0] at hl
    subst hl
    obtain rfl : 0 = k := hk
    have q1 : (e != 0) = true := by simpa using h0
    clear hn hm ka kb hx hy he h0 hw0
    go_enter Try.func9, Try.ntmps9
    go_wp2_with fail
    refine P.out.mono ?_
    rintro e w1 ⟨rfl, hw⟩
    rw [hw]
    clear hw
    go_wp2
    go_ret2
    exact ⟨none, 0, rfl, by simp, Reads.nil, BL.out⟩
set_option maxRecDepth 100000 in
set_option maxHeartbeats 8000000 in
theorem tickSpec : TickSpec := fun A a n ca who V l k e hn ka hbig hx hw he hl hk => by
  obtain ⟨u, hu⟩ : ∃ u, wrongE [a] = u := ⟨_, rfl⟩
  have P := Lib.hid (wrong_c (some ⟨V.heap.size, 0, none⟩) [a] 1 1 (V.alloc (.cells #[.slice A n ca] 22)) u rfl (by omega) (lit1v V (isv_of hn ka (by omega) hx)) hu)
  have BL := Lib.hid (low_lit V (.cells #[.slice A n ca] 22))
  by_cases h0 : u = 0
  · subst h0
    obtain ⟨q, hq⟩ := wrongE_zero.1 hu
    have fa := hq a (by simp)
    obtain rfl : n = q := hn.symm.trans fa.1
    unfold tickE at he
    rw [hu, if_neg (by decide), hn] at he
    by_cases g1 : who < 0 ∨ (n : Int) ≤ who
    · rw [if_pos g1] at he
      subst he
      rw [if_neg (by decide)] at hl
      subst hl
      obtain rfl : 0 = k := hk
      clear hn ka hx hu fa hq hw
      by_cases g2 : who < 0
      · clear g1
        go_enter Try.func10, Try.ntmps10
        go_wp2_with fail
        refine P.out.mono ?_
        rintro e w1 ⟨rfl, hw⟩
        rw [hw]
        clear hw
        go_wp2
        go_ret2
        exact ⟨none, 0, rfl, by simp, Reads.nil, BL.out⟩
      · have g3 : (n : Int) ≤ who := by omega
        clear g1
        go_enter Try.func10, Try.ntmps10
        go_wp2_with fail
        refine P.out.mono ?_
        rintro e w1 ⟨rfl, hw⟩
        rw [hw]
        clear hw
        go_wp2
        go_ret2
        exact ⟨none, 0, rfl, by simp, Reads.nil, BL.out⟩
    · rw [if_neg g1] at he
      obtain ⟨p, rfl⟩ : ∃ p : Nat, who = p := ⟨who.toNat, by omega⟩
      rw [Int.toNat_natCast] at he hl
      have p1 : p < n := by omega
      have p2 : (p : Int) < (n : Int) := by omega
      have pl : p < a.length := by omega
      obtain ⟨x, hxx⟩ : ∃ x, a[p]? = some x := ⟨_, List.getElem?_eq_getElem pl⟩
      have hg : a.getD p 0 = x := by rw [List.getD_eq_getElem?_getD, hxx]; rfl
      rw [hg] at he
      have xf := fa.2.2 x (List.mem_of_getElem? hxx)
      have hx2 := hx.below BL.out
      obtain ⟨b1, o1, rfl, _, c1⟩ := int_at hx2 hxx
      by_cases g2 : x = 1099511627776
      · rw [if_pos g2] at he
        subst he
        rw [if_neg (by decide)] at hl
        subst hl
        obtain rfl : 0 = k := hk
        have q1 : (x == 1099511627776) = true := by simpa using g2
        clear hn ka hx hu fa hq hw g1 p1 pl hxx hg g2 xf hx2
        go_enter Try.func10, Try.ntmps10
        go_wp2_with fail
        refine P.out.mono ?_
        rintro e w1 ⟨rfl, hw⟩
        rw [hw]
        clear hw
        go_wp2
        go_ret2
        exact ⟨none, 0, rfl, by simp, Reads.nil, BL.out⟩
      · rw [if_neg g2] at he
        subst he
        rw [if_pos rfl] at hl
        have e1 : l = a.set p (x + 1) := by rw [← hl]; unfold bump; rw [hg]
        obtain rfl : n = k := by rw [← hk, e1, List.length_set]; exact hn.symm
        have q1 : (x == 1099511627776) = false := by simpa using g2
        have q2 : IntKind.i64.wrap (x + 1) = x + 1 := IntWalk.i64_in _ (by omega)
        have C := Lib.hid (clone_z (some ⟨b1, o1, none⟩) a n ca (V.alloc (.cells #[.slice (some ⟨b1, o1, none⟩) n ca] 22)) hn (by have := fa.2.1; omega) hx2)
        have HN := Lib.hid hn
        have HXX := Lib.hid hxx
        have HE := Lib.hid e1
        have P1 := Lib.hid p1
        have NN := Lib.hid fa.2.1
        clear hn ka hx hu fa hq hw g1 p1 pl hxx hg g2 xf hx2 hl hk e1
        go_enter Try.func10, Try.ntmps10
        go_wp2_with fail
        refine P.out.mono ?_
        rintro e w1 ⟨rfl, hw⟩
        rw [hw]
        clear hw
        go_wp2_with fail
        refine C.out.mono ?_
        rintro e w2 ⟨A2, c2, rfl, hz, hb⟩
        obtain ⟨g, x2, rfl, hg1, hg2, hgx, hgc, hgf, hput⟩ := hz.put HN.out P1.out
        rw [HXX.out] at hgx
        injection hgx with hgx
        subst hgx
        have ZF := Lib.hid (hz.form)
        have BE := Lib.hid ((BL.out.trans (hb.mono BL.out.size)).setCell (p := ⟨g, p, none⟩) (Nat.le_trans BL.out.size hg1) (.int .i64 (x + 1)))
        have ZE := Lib.hid (hput (x + 1)).reads
        have CB := Lib.hid (show n ≤ c2 ∧ c2 ≤ 9223372036854775807 by
          obtain ⟨A', c', h1, h2, h3⟩ := ZF.out
          injection h1 with e1 e2 e3
          subst e3
          unfold maxLen at h3
          have := HN.out
          omega)
        rw [← HE.out] at ZE
        clear hz hb hg1 hg2 hput
        go_wp2
        go_ret2
        exact ⟨some ⟨g, 0, none⟩, c2, rfl, CB.out, ZE.out, BE.out⟩
  · have e1 : e = u := by rw [← he]; unfold tickE; rw [hu, if_pos h0]
    subst e1
    rw [if_neg h0] at hl
    subst hl
    obtain rfl : 0 = k := hk
    have q1 : (e != 0) = true := by simpa using h0
    clear hn ka hx he hu h0 hw
    go_enter Try.func10, Try.ntmps10
    go_wp2_with fail
    refine P.out.mono ?_
    rintro e w1 ⟨rfl, hw⟩
    rw [hw]
    clear hw
    go_wp2
    go_ret2
    exact ⟨none, 0, rfl, by simp, Reads.nil, BL.out⟩
end Go.Proofs.Ytkflngdahnpmbaa.Ve
