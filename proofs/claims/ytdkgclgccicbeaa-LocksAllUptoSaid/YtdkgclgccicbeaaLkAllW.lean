/-
  The law LocksAll over what it takes of the program.
-/
import Derived.Test.YtdkgclgccicbeaaLkEq
import Derived.Test.YtdkgclgccicbeaaLkGlob
import Derived.Test.YtdkgclgccicbeaaGApp1
import Derived.Test.YtdkgclgccicbeaaLaw
namespace Go.Proofs.Ytdkgclgccicbeaa.Lk
set_option linter.unusedVariables false
set_option linter.unusedSimpArgs false
open Go.RowKit Mem Gt

theorem st_mem {k : Int} {o : LO} : ∀ ops : List LO, o ∈ st ops k → o ∈ ops := snoc_ind (fun h => by simp [st_nil] at h) (fun l x ih h => by
  rw [st_snoc] at h
  by_cases e : x.2.2 = k
  · rw [if_pos e] at h
    unfold stepL at h
    split at h
    · split at h
      · exact List.mem_append_left _ (ih (List.mem_filter.1 h).1)
      · rcases List.mem_append.1 h with h | h
        · exact List.mem_append_left _ (ih h)
        · exact List.mem_append_right _ h
    · exact List.mem_append_left _ (ih h)
  · rw [if_neg e] at h
    exact List.mem_append_left _ (ih h))
theorem fit_frees {l : List LO} (hf : FitOs l) : FitOs (frees (locks l)) := fun o ho => by
  obtain ⟨x, hx, h2⟩ := List.mem_flatMap.1 ho
  unfold freesOf at h2
  obtain ⟨n, hn, rfl⟩ := List.mem_map.1 h2
  obtain ⟨_, e⟩ := mem_locks.1 hx
  rw [e] at hn
  unfold lockOf at hn
  obtain ⟨q, hq, rfl⟩ := List.mem_map.1 hn
  have hm := List.mem_of_mem_take hq
  have h3 := hf q (st_mem l hm)
  have h4 := (st_ok x.1 l).key q hm
  refine ⟨by unfold Fit; simp only; omega, h3.2.1, ?_⟩
  show Fit x.1
  rw [← h4]; exact h3.2.2
theorem fit_rounds {l : List LO} (hf : FitOs l) : ∀ i, FitOs (rounds l i)
  | 0 => hf
  | i + 1 => fun o ho => by
    rcases List.mem_append.1 (show o ∈ rounds l i ++ frees (locks (rounds l i)) from ho) with h | h
    · exact fit_rounds hf i o h
    · exact fit_frees (fit_rounds hf i) o h
theorem rounds_two (l : List LO) (i : Nat) : (rounds l i).length ≤ 2 * l.length := by have := rounds_count l i; omega
theorem frees_take {ls : List Lc} {j : Nat} {y : Lc} (h : ls[j]? = some y) : frees (ls.take (j + 1)) = frees (ls.take j) ++ freesOf y := by
  unfold frees
  rw [List.take_add_one, h, List.flatMap_append]
  simp
theorem frees_pre {ls : List Lc} {j : Nat} {y : Lc} (h : ls[j]? = some y) (t : Nat) : (frees (ls.take j) ++ (freesOf y).take t).length ≤ (frees ls).length := by
  have e : frees ls = frees (ls.take (j + 1)) ++ frees (ls.drop (j + 1)) := by
    unfold frees
    rw [← List.flatMap_append, List.take_append_drop]
  rw [e, frees_take h]
  simp only [List.length_append, List.length_take]
  omega
/-! ### What Play gave stays while the list grows -/
structure At (w1 wp w6 wr : World) (v : Value) (xs : List LO) : Prop where
  tab : Tab loE wr w1.heap.size 36 v xs
  below : Below w1.heap.size w1 wr
  blk : ∀ b, wp.heap.size ≤ b → b < w6.heap.size → wr.heap[b]? = w6.heap[b]?
  siz : w6.heap.size ≤ wr.heap.size
  own : ∀ g, v.ownBlock = some g → g < wp.heap.size ∨ w6.heap.size ≤ g
section
variable {w1 wp w6 wr V : World} {v v' : Value} {xs ys : List LO}
theorem At.later (h : At w1 wp w6 wr v xs) (hb : Below wr.heap.size wr V) : At w1 wp w6 V v xs :=
  ⟨h.tab.later hb, h.below.trans (hb.mono h.below.size), fun b h1 h2 => (hb.block b (Nat.lt_of_lt_of_le h2 h.siz)).trans (h.blk b h1 h2), Nat.le_trans h.siz hb.size, h.own⟩
theorem At.push (h : At w1 wp w6 wr v xs) (hg : wr.grownBy V v.ownBlock) (T : Tab loE V w1.heap.size 36 v' ys) (hu : ∀ g, v'.ownBlock = some g → v.ownBlock = some g ∨ wr.heap.size ≤ g) : At w1 wp w6 V v' ys :=
  ⟨T, h.below.grown hg h.below.size (fun g e => (h.tab.lt g e).1), fun b h1 h2 => (hg.block b (Nat.lt_of_lt_of_le h2 h.siz) (fun e => by
    rcases h.own b e.symm with q | q <;> omega)).trans (h.blk b h1 h2), Nat.le_trans h.siz hg.size, fun g e => by
    rcases hu g e with q | q
    · exact h.own g q
    · right; have := h.siz; omega⟩
theorem At.cell (h : At w1 wp w6 wr v xs) {a : Addr} {u : Value} (hc : w6.cell? a = some u) (h1 : wp.heap.size ≤ a.block) : wr.cell? a = some u :=
  (World.cell?_of_block (h.blk a.block h1 (World.block_lt_of_cell? _ _ hc))).trans hc
end
theorem LNew.at_ {N : Nat} {W : World} {A : Option Addr} {kl d : Nat} {ls : List Lc} (h : LNew N W A kl d ls) {k : Nat} {y : Lc} (hk : ls[k]? = some y) :
    ∃ g H nh ch S ns cs, A = some ⟨g, 0, none⟩ ∧ N ≤ g ∧ W.cell? ⟨g, k * 4, none⟩ = some (.int .i64 y.1) ∧ W.cell? ⟨g, k * 4 + 1, none⟩ = some (.bool y.2.1) ∧ W.cell? ⟨g, k * 4 + 2, none⟩ = some (.slice H nh ch) ∧ W.cell? ⟨g, k * 4 + 3, none⟩ = some (.slice S ns cs)
      ∧ y.2.2.1.length = nh ∧ nh ≤ 9223372036854775807 ∧ Reads W H (ints y.2.2.1) ∧ ∀ a, H = some a → N ≤ a.block := by
  obtain ⟨xs, h1, h2, h3⟩ := h
  obtain ⟨⟨x0, x1, ⟨H, nh, ch⟩, ⟨S, ns, cs⟩⟩, hx⟩ : ∃ x, xs[k]? = some x := ⟨_, List.getElem?_eq_getElem (by rw [h2]; exact (List.getElem?_eq_some_iff.1 hk).1)⟩
  obtain ⟨hi, hn⟩ := h3 k _ y hx hk
  obtain rfl : x0 = y.1 := hi.key
  obtain rfl : x1 = y.2.1 := hi.alone
  obtain ⟨g, rfl, _, hg, _⟩ := h1.head (by have := (List.getElem?_eq_some_iff.1 hx).1; omega)
  obtain ⟨b, o, e, hb, c0, c1, c2, c3⟩ := l4_at h1.reads hx
  injection e with e
  injection e with e1 e2
  subst e1 e2
  simp only [Nat.zero_add] at c0 c1 c2 c3
  exact ⟨g, H, nh, ch, S, ns, cs, rfl, hg, c0, c1, c2, c3, hi.hasL, Nat.le_trans hi.hasC.1 hi.hasC.2, hi.hasR, fun a ha => (hn a (.inl ha)).1⟩
theorem box_lk4 {w : World} (x : Int) (b : Bool) (u v : Value) : let w' := w.alloc (.cells #[.int .i64 x, .bool b, u, v] 34)
    w'.cell? ⟨w.heap.size, 0, none⟩ = some (.int .i64 x) ∧ w'.cell? ⟨w.heap.size, 2, none⟩ = some u := by
  have kn := Known.made w 34 #[.int .i64 x, .bool b, u, v]
  exact ⟨kn.cell 0, kn.cell 2⟩
set_option maxRecDepth 100000 in
set_option maxHeartbeats 16000000 in
theorem all_w (hP : PlaySpec) (A : Option Addr) (l : List LO) (n ca : Nat) (W : World) (hn : l.length = n) (hbig : n ≤ 1048576) (hx : Reads W A (flat loE l)) (hf : FitOs l) :
    Calls Try.prog 5 #[.slice A n ca] W (Law.Yes W) := by
  have AL := Lib.hid (fun V => alive_c hP V)
  have CL := Lib.hid (fun V (h : Below W.heap.size W V) => clone_lo A l n ca V hn (by omega) (hx.below h))
  have HF := Lib.hid (fit_rounds hf)
  have HN := Lib.hid hn
  have HB := Lib.hid hbig
  have HE := Lib.hid (show locks (rounds l n) = [] by rw [← hn]; exact rounds_end l)
  have HR := Lib.hid (fun i => show (rounds l i).length ≤ 2097152 by have := rounds_two l i; omega)
  obtain ⟨n1, hn1⟩ : ∃ n1, n1 = n + 1 := ⟨_, rfl⟩
  have wn : IntKind.i64.wrap ((n : Int) + 1) = (n1 : Int) := by rw [show (n : Int) + 1 = (n1 : Int) by omega]; exact IntWalk.i64_in _ (by omega)
  have N1 := Lib.hid hn1
  clear hx hf hn hn1
  go_enter Try.func5, Try.ntmps5
  go_wp2_with fail
  refine (AL.out _).mono ?_
  rintro e w1 ⟨rfl, hb⟩
  have B1 := Lib.hid hb
  have C1 := Lib.hid (CL.out w1 hb)
  clear hb
  go_wp2_with fail
  refine C1.out.mono ?_
  rintro e w2 ⟨A2, c2, rfl, hT, hb⟩
  have T2 := Lib.hid hT
  have B2 := Lib.hid hb
  clear hT hb
  go_wp2_with fail
  go_loopw [3, 17] (fun v3 i wr => ∃ (k m : Nat) (A3 : Option Addr) (c3 : Nat), k ≤ n ∧ i = .int .i64 k ∧ v3 = .slice A3 m c3 ∧ (rounds l k).length = m ∧ Tab loE wr w1.heap.size 36 (.slice A3 m c3) (rounds l k) ∧ Below w1.heap.size w1 wr) (fun _ i _ => n1 - (intOf i).toNat)
  case atStart => exact ⟨0, n, A2, c2, by omega, rfl, rfl, HN.out, T2.out, B2.out⟩
  case round =>
    obtain ⟨k, m, A3, c3, hk, rfl, rfl, hm, hT, hB⟩ := hrel
    obtain ⟨wp, rfl⟩ : ∃ w : World, w = wr := ⟨_, rfl⟩
    clear T2 B2 AL CL C1
    obtain ⟨ls, hls⟩ : ∃ ls, locks (rounds l k) = ls := ⟨_, rfl⟩
    obtain ⟨kl, hkl⟩ : ∃ kl, ls.length = kl := ⟨_, rfl⟩
    have HM := Lib.hid hm
    have hm2 : m ≤ 2097152 := hm ▸ HR.out k
    have P := Lib.hid (hP A3 (rounds l k) m c3 wp (errs (rounds l k)) ls kl hm (by omega) hT.reads (HF.out k) rfl hls hkl)
    have TT := Lib.hid hT
    have BB := Lib.hid hB
    have HLS := Lib.hid hls
    have HKL := Lib.hid hkl
    have HM2 := Lib.hid hm2
    have i1 : (k : Int) < (n1 : Int) := by have := N1.out; omega
    clear hm hT hB hls hkl hm2
    go_wp2_with fail
    refine P.out.mono ?_
    rintro e w6 ⟨A5, c5, B5, d5, rfl, _, hkd, -, hL, hb⟩
    have LL := Lib.hid hL
    have B6 := Lib.hid hb
    have i2 : kl ≤ 9223372036854775807 := Nat.le_trans hkd.1 hkd.2
    clear hL hb hkd P
    by_cases h0 : kl = 0
    · have e0 : ((kl : Int) == 0) = true := by simp [h0]
      go_wp2_with fail
      go_ret
      exact ⟨rfl, B1.out.trans ((BB.out.trans (B6.out.mono BB.out.size)).mono B1.out.size)⟩
    · have e0 : ((kl : Int) == 0) = false := by simpa using h0
      have hkn : k < n := by
        rcases Nat.lt_or_ge k n with h | h
        · exact h
        · obtain rfl : k = n := by omega
          have h1 := HLS.out
          rw [HE.out] at h1
          have h2 := HKL.out
          rw [← h1] at h2
          exact absurd h2.symm h0
      have A0 := Lib.hid (show At w1 wp w6 w6 (.slice A3 m c3) (rounds l k ++ frees (ls.take 0)) from by
        simp only [List.take_zero, frees, List.flatMap_nil, List.append_nil]
        exact ⟨TT.out.later B6.out, BB.out.trans (B6.out.mono BB.out.size), fun _ _ _ => rfl, Nat.le_refl _, fun g e => .inl (TT.out.lt g e).2⟩)
      have BW := Lib.hid (show ∀ ys, ys.length ≤ (frees ls).length → (rounds l k ++ ys).length ≤ 2097152 from fun ys h => by
        have := HR.out (k + 1)
        rw [show rounds l (k + 1) = rounds l k ++ frees ls by rw [← HLS.out]; rfl] at this
        simp only [List.length_append] at this ⊢
        omega)
      clear TT BB B6
      go_wp2_with fail
      go_loopw [3, 29] (fun v3 i wr => ∃ (j m2 : Nat) (A7 : Option Addr) (c7 : Nat), j ≤ kl ∧ i = .int .i64 j ∧ v3 = .slice A7 m2 c7 ∧ (rounds l k ++ frees (ls.take j)).length = m2 ∧ At w1 wp w6 wr (.slice A7 m2 c7) (rounds l k ++ frees (ls.take j))) (fun _ i _ => kl - (intOf i).toNat)
      case atStart => exact ⟨0, m, A3, c3, by omega, rfl, rfl, by simp [frees, HM.out], A0.out⟩
      case round =>
        obtain ⟨j, m2, A7, c7, hj, rfl, rfl, hm2, hA⟩ := hrel
        obtain ⟨w8, rfl⟩ : ∃ w : World, w = wr := ⟨_, rfl⟩
        clear A0
        have AA := Lib.hid hA
        have HM7 := Lib.hid hm2
        by_cases hjl : j < kl
        · obtain ⟨y, hy⟩ : ∃ y, ls[j]? = some y := ⟨_, List.getElem?_eq_getElem (by rw [HKL.out]; exact hjl)⟩
          obtain ⟨g, H, nh, ch, S, ns, cs, hB5, hg, c0, c1, c2, c3, hnh, hnb, hR, hH⟩ := LL.out.at_ hy
          obtain ⟨y0, y1, y2, y3⟩ := y
          have z0 := hA.cell c0 hg
          have z1 := hA.cell c1 hg
          have z2 := hA.cell c2 hg
          have z3 := hA.cell c3 hg
          obtain ⟨x0, x2⟩ := box_lk4 (w := w8) y0 y1 (.slice H nh ch) (.slice S ns cs)
          have AB := Lib.hid (hA.later (low_lit w8 (.cells #[.int .i64 y0, .bool y1, .slice H nh ch, .slice S ns cs] 34)))
          have OB := Lib.hid (show ∀ q, (Value.slice A7 m2 c7).ownBlock = some q → q ≠ w8.heap.size from fun q e h => by have := (hA.tab.lt q e).2; omega)
          have HY := Lib.hid hy
          have HR2 := Lib.hid hR
          have HH := Lib.hid hH
          have HNH := Lib.hid hnh
          have i3 : (j : Int) < (kl : Int) := by omega
          simp only at z0 z1 z2 z3 x0 x2
          subst hB5
          clear hA hy hR hH hnh c0 c1 c2 c3 hg hm2
          go_wp2_with fail
          clear z0 z1 z2 z3
          have AC := Lib.hid (show At w1 wp w6 (w8.alloc (.cells #[.int .i64 y0, .bool y1, .slice H nh ch, .slice S ns cs] 34)) (.slice A7 m2 c7) (rounds l k ++ (frees (ls.take j) ++ (freesOf (y0, y1, y2, y3)).take 0)) by rw [List.take_zero, List.append_nil]; exact AB.out)
          go_loopw [3, 36] (fun v3 i wr => ∃ (t m3 : Nat) (A9 : Option Addr) (c9 : Nat), t ≤ nh ∧ i = .int .i64 t ∧ v3 = .slice A9 m3 c9 ∧ (rounds l k ++ (frees (ls.take j) ++ (freesOf (y0, y1, y2, y3)).take t)).length = m3 ∧ At w1 wp w6 wr (.slice A9 m3 c9) (rounds l k ++ (frees (ls.take j) ++ (freesOf (y0, y1, y2, y3)).take t)) ∧ wr.cell? ⟨w8.heap.size, 0, none⟩ = some (.int .i64 y0) ∧ ∀ q, (Value.slice A9 m3 c9).ownBlock = some q → q ≠ w8.heap.size) (fun _ i _ => nh - (intOf i).toNat)
          case atStart => exact ⟨0, m2, A7, c7, by omega, rfl, rfl, by rw [List.take_zero, List.append_nil]; exact HM7.out, AC.out, x0, OB.out⟩
          case round =>
            obtain ⟨t, m3, A9, c9, ht, rfl, rfl, hm3, hA9, u0, hO⟩ := hrel
            clear AC AB OB x0 x2
            by_cases htl : t < nh
            · have hlen : t < y2.length := by rw [HNH.out]; exact htl
              obtain ⟨nd, hnd⟩ : ∃ x, y2[t]? = some x := ⟨_, List.getElem?_eq_getElem hlen⟩
              obtain ⟨bq, oq, hHq, hbq, q0⟩ := int_at HR2.out hnd
              have q1 := hA9.cell q0 (show wp.heap.size ≤ bq from HH.out ⟨bq, oq, none⟩ hHq)
              have EF := Lib.hid (show (freesOf (y0, y1, y2, y3)).take (t + 1) = (freesOf (y0, y1, y2, y3)).take t ++ [((3 : Int), nd, y0)] by
                rw [List.take_add_one]
                unfold freesOf
                rw [List.getElem?_map, hnd]; rfl)
              have AL9 := Lib.hid (hA9.later (low_lit wr (.cells #[.int .i64 (3 : Int), .int .i64 nd, .int .i64 y0] 36)))
              have KL := Lib.hid (Known.made wr 36 #[.int .i64 (3 : Int), .int .i64 nd, .int .i64 y0])
              have LN := Lib.hid hm3
              have M3 := Lib.hid (show m3 ≤ 2097152 by rw [← hm3]; exact BW.out _ (frees_pre HY.out t))
              have SZ := Lib.hid AL9.out.below.size
              have U0 := Lib.hid u0
              have HO := Lib.hid hO
              have i4 : (t : Int) < (nh : Int) := by omega
              have i5 : m3 ≤ 2097152 := M3.out
              have hne := World.block_lt_of_cell? _ _ u0
              have BX := Lib.hid (show w8.heap.size < wr.heap.size from hne)
              subst hHq
              clear hnd hlen hA9 hO hm3 q0 hbq hne
              go_wp2_with (at_builtin; refine wpList_append_1 (E := loE) elLO (by decide) rfl _ _ (by rfl) (n := m3) (b := wr.heap.size) (v := .slice A9 m3 c9) (y := ((3 : Int), nd, y0)) (cs := #[.int .i64 (3 : Int), .int .i64 nd, .int .i64 y0]) (by rfl) (by rfl) AL9.out.tab LN.out rfl KL.out (by unfold maxLen; omega) (by omega) SZ.out ?_; intro ga ca' wa Ta Ga Ua)
              go_roundw
              case rel =>
                refine ⟨t + 1, m3 + 1, some ⟨ga, 0, none⟩, ca', by omega, by go_num, rfl, ?_, ?_, ?_, fun q hq => ?_⟩
                · rw [EF.out]
                  simp only [← List.append_assoc, List.length_append, List.length_singleton]
                  have := LN.out
                  simp only [← List.append_assoc, List.length_append] at this
                  omega
                · rw [EF.out]
                  have := AL9.out.push Ga.out Ta.out (fun q hq => by
                    have e : ga = q := by simpa [Value.ownBlock] using hq
                    subst e
                    rcases Ua.out with u | u
                    · left; exact u
                    · right; rw [u]; exact Nat.le_refl _)
                  simp only [← List.append_assoc] at this ⊢
                  exact this
                · refine Ga.out.cell (((low_lit wr _).cell BX.out).trans U0.out) (fun e => ?_)
                  exact HO.out _ e.symm rfl
                · have e : ga = q := by simpa [Value.ownBlock] using hq
                  subst e
                  rcases Ua.out with u | u
                  · exact HO.out _ u
                  · rw [u]; have := BX.out; simp; omega
              case measure => simp [intOf]; omega
            · obtain rfl : t = nh := by omega
              have EF := Lib.hid (show (freesOf (y0, y1, y2, y3)).take t = freesOf (y0, y1, y2, y3) from List.take_of_length_le (by unfold freesOf; rw [List.length_map]; exact Nat.le_of_eq HNH.out))
              rw [EF.out, ← frees_take HY.out] at hA9 hm3
              have A9 := Lib.hid hA9
              have HM3 := Lib.hid hm3
              clear hA9 hm3 hO u0
              go_wp2_with fail
              go_roundw
              case rel => exact ⟨j + 1, _, _, _, by omega, by go_num, rfl, HM3.out, A9.out⟩
              case measure => simp [intOf]; omega
        · obtain rfl : j = kl := by omega
          have EL := Lib.hid (show rounds l k ++ frees (ls.take j) = rounds l (k + 1) by rw [List.take_of_length_le (Nat.le_of_eq HKL.out), ← HLS.out]; rfl)
          rw [EL.out] at hA hm2
          have AZ := Lib.hid hA
          have HZ := Lib.hid hm2
          have i6 : n1 ≤ 1048577 := by have := N1.out; have := HB.out; omega
          have i7 : k < 1048577 := by have := HB.out; omega
          clear hA hm2
          go_wp2_with fail
          go_roundw
          case rel => exact ⟨k + 1, _, _, _, by omega, by go_num, rfl, HZ.out, AZ.out.tab, AZ.out.below⟩
          case measure => simp [intOf]; have := N1.out; omega
end Go.Proofs.Ytdkgclgccicbeaa.Lk
