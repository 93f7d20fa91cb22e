/-
  The contract of package table's Make.
-/
import Derived.Test.YtahhgeecikljdaaTbD
namespace Go.Proofs.Ytahhgeecikljdaa.Tb
set_option linter.unusedVariables false
set_option linter.unusedSimpArgs false
open Go.RowKit Mem

set_option maxHeartbeats 2000000 in
theorem make_bad (A : Option Addr) (ids : List Int) (n ca : Nat) (size : Int) (k : Int) (W : World) (hn : ids.length = n) (hbig : n ≤ maxLen) (hx : Reads W A (ids.map (Value.int .i64))) (hwf : ∀ x ∈ ids, (Lit.int .i64 x).wf = true)
    (hk : tErr ids size = k) (h0 : k ≠ 0) :
    Calls Try.prog 9 #[.slice A n ca, .int .i64 size] W (Gave (.tuple #[.slice none 0 0, .int .i64 k]) W) := by
  have H := Lib.hid (wrong_c A ids n ca size W hn hbig hx hwf)
  rw [hk] at H
  have hv := tErr_vals ids size
  rw [hk] at hv
  clear hk hx hwf hn hbig
  rcases hv with rfl | rfl | rfl | rfl | rfl
  · exact absurd rfl h0
  all_goals
    clear h0
    go_enter Try.func9, Try.ntmps9
    go_wp2_with (go_at_call 12; refine H.out.mono ?_; rintro e w' ⟨rfl, hb⟩; have HB := Lib.hid hb; clear hb)
    go_ret2
    exact ⟨rfl, HB.out⟩

/-- The value u is a slice of the numbers l; it lies between two blocks. -/
def RowIs (W : World) (lo hi : Nat) (u : Value) (l : List Nat) : Prop :=
  ∃ A m c, u = .slice A m c ∧ l.length = m ∧ m ≤ c ∧ Reads W A (l.map nz) ∧ ∀ a, A = some a → lo < a.block ∧ a.block < hi
theorem RowIs.later {W V : World} {lo hi hi' : Nat} {u : Value} {l : List Nat} (h : RowIs W lo hi u l) (hb : Below W.heap.size W V) (hh : hi ≤ hi') : RowIs V lo hi' u l := by
  obtain ⟨A, m, c, h1, h2, h3, h4, h5⟩ := h
  exact ⟨A, m, c, h1, h2, h3, h4.below hb, fun a ha => ⟨(h5 a ha).1, Nat.lt_of_lt_of_le (h5 a ha).2 hh⟩⟩
theorem RowIs.off {W : World} {lo hi : Nat} {u : Value} {l : List Nat} (h : RowIs W lo hi u l) {p : Addr} (hp : p.block ≤ lo ∨ hi ≤ p.block) (x : Value) : RowIs (W.setCell p x) lo hi u l := by
  obtain ⟨A, m, c, h1, h2, h3, h4, h5⟩ := h
  refine ⟨A, m, c, h1, h2, h3, h4.off (fun a ha e => ?_) x, h5⟩
  have := h5 a ha
  omega
/-- The lists of the first k nodes are there. -/
def FillAt (W : World) (L : Nat → List Nat) (g1 n k : Nat) (wr : World) : Prop :=
  ∃ vs : List Value, Cells wr g1 22 id vs ∧ vs.length = n ∧ (∀ i, i < k → ∃ u, vs[i]? = some u ∧ RowIs wr g1 wr.heap.size u (L i)) ∧ Below W.heap.size W wr
/-- What stands after k turns. -/
def TurnAt (W : World) (ids : List Int) (L : Nat → List Nat) (m p g1 gt gk hi k : Nat) (wr : World) : Prop :=
  Cells wr gt 3 zz (tb ids L m p k) ∧ Cells wr gk 4 bz (mk L m p k) ∧ (∃ vs : List Value, Cells wr g1 22 id vs ∧ vs.length = m ∧
    ∀ i, i < m → ∃ u l, vs[i]? = some u ∧ RowIs wr g1 hi u l ∧ ∃ pre, L i = pre ++ l ∧ ∀ y ∈ pre, y ∈ ch L m k) ∧ Below W.heap.size W wr
theorem suffix {pre l pre' rest ps : List Nat} {s : Nat} (h : pre ++ l = pre' ++ s :: rest) (h1 : ∀ y ∈ pre, y ∈ ps) (h2 : s ∉ ps) (h3 : ∀ y ∈ pre', y ∈ ps) : ∃ pre2, l = pre2 ++ s :: rest ∧ ∀ y ∈ pre2, y ∈ ps := by
  rcases List.append_eq_append_iff.1 h with ⟨ys, e1, e2⟩ | ⟨cs, e1, e2⟩
  · exact ⟨ys, e2, fun y hy => h3 y (by rw [e1]; exact List.mem_append_right _ hy)⟩
  · cases cs with
    | nil => exact ⟨[], by simpa using e2.symm, fun y hy => by simp at hy⟩
    | cons c cs =>
      simp only [List.cons_append, List.cons.injEq] at e2
      exact absurd (h1 s (by rw [e1, e2.1]; simp)) h2
/-- Three stores into three blocks. -/
theorem three {w : World} {g1 gt gk s i : Nat} {ts : List Int} {bs : List Bool} {vs : List Value} (x : Int) (h1 : Cells w gt 3 zz ts) (h2 : Cells w gk 4 bz bs) (h3 : Cells w g1 22 id vs)
    (hs : s < ts.length) (hs2 : s < bs.length) (hi : i < vs.length) (d1 : gt ≠ gk) (d2 : gt ≠ g1) (d3 : gk ≠ g1) :
    (∃ v1, w.cell? ⟨gt, s, none⟩ = some v1) ∧ (∃ v2, (w.setCell ⟨gt, s, none⟩ (.int .i64 x)).cell? ⟨gk, s, none⟩ = some v2) ∧
    (∃ v3, ((w.setCell ⟨gt, s, none⟩ (.int .i64 x)).setCell ⟨gk, s, none⟩ (.bool true)).cell? ⟨g1, i, none⟩ = some v3) ∧
    w.frozen? ⟨gt, s, none⟩ = false ∧ w.frozen? ⟨gk, s, none⟩ = false ∧ w.frozen? ⟨g1, i, none⟩ = false := by
  have k2 := h2.off (p := ⟨gt, s, none⟩) (Ne.symm d1) (.int .i64 x)
  have k3 := (h3.off (p := ⟨gt, s, none⟩) (Ne.symm d2) (.int .i64 x)).off (p := ⟨gk, s, none⟩) (Ne.symm d3) (.bool true)
  exact ⟨⟨_, h1.at_ (List.getElem?_eq_getElem hs)⟩, ⟨_, k2.at_ (List.getElem?_eq_getElem hs2)⟩, ⟨_, k3.at_ (List.getElem?_eq_getElem hi)⟩, h1.free _, h2.free _, h3.free _⟩
theorem turn_next {W w : World} {ids : List Int} {L : Nat → List Nat} {m p g1 gt gk hi k s i : Nat} {vs : List Value} {A : Option Addr} {q c : Nat} {rest : List Nat} {x : Int}
    (h1 : Cells w gt 3 zz (tb ids L m p k)) (h2 : Cells w gk 4 bz (mk L m p k)) (h3 : Cells w g1 22 id vs) (hv : vs.length = m)
    (hr : ∀ i, i < m → ∃ u l, vs[i]? = some u ∧ RowIs w g1 hi u l ∧ ∃ pre, L i = pre ++ l ∧ ∀ y ∈ pre, y ∈ ch L m k) (hB : Below W.heap.size W w)
    (hs : sel L m k = s) (hi0 : k % m = i) (him : i < m) (hx : ids.getD i 0 = x) (hq : rest.length = q) (hc : q ≤ c) (hR : Reads w A (rest.map nz)) (hA : ∀ a, A = some a → g1 < a.block ∧ a.block < hi)
    (pre : List Nat) (hL : L i = pre ++ s :: rest) (hp : ∀ y ∈ pre, y ∈ ch L m k) (d1 : gt ≠ gk) (d2 : hi ≤ gt) (d3 : hi ≤ gk) (d4 : g1 < hi) (b1 : W.heap.size ≤ g1) :
    TurnAt W ids L m p g1 gt gk hi (k + 1) (((w.setCell ⟨gt, s, none⟩ (.int .i64 x)).setCell ⟨gk, s, none⟩ (.bool true)).setCell ⟨g1, i, none⟩ (.slice A q c)) := by
  subst hs hi0 hx
  refine ⟨?_, ?_, ⟨vs.set (k % m) (.slice A q c), ?_, by rw [List.length_set, hv], fun j hj => ?_⟩, ?_⟩
  · rw [tb_succ]
    exact ((h1.put (sel L m k) (ids.getD (k % m) 0)).off (p := ⟨gk, sel L m k, none⟩) d1 _).off (p := ⟨g1, k % m, none⟩) (show gt ≠ g1 by omega) _
  · rw [mk_succ]
    exact ((h2.off (p := ⟨gt, sel L m k, none⟩) (Ne.symm d1) _).put (sel L m k) true).off (p := ⟨g1, k % m, none⟩) (show gk ≠ g1 by omega) _
  · exact ((h3.off (p := ⟨gt, sel L m k, none⟩) (show g1 ≠ gt by omega) _).off (p := ⟨gk, sel L m k, none⟩) (show g1 ≠ gk by omega) _).put (k % m) (.slice A q c)
  · have keep : ∀ {u l}, RowIs w g1 hi u l → RowIs (((w.setCell ⟨gt, sel L m k, none⟩ (.int .i64 (ids.getD (k % m) 0))).setCell ⟨gk, sel L m k, none⟩ (.bool true)).setCell ⟨g1, k % m, none⟩ (.slice A q c)) g1 hi u l := fun h =>
      ((h.off (p := ⟨gt, sel L m k, none⟩) (.inr d2) _).off (p := ⟨gk, sel L m k, none⟩) (.inr d3) _).off (p := ⟨g1, k % m, none⟩) (.inl (Nat.le_refl _)) _
    by_cases e : k % m = j
    · subst e
      refine ⟨.slice A q c, rest, by rw [List.getElem?_set, if_pos rfl, if_pos (by omega)], keep ⟨A, q, c, rfl, hq, hc, hR, hA⟩, pre ++ [sel L m k], by rw [hL]; simp, fun y hy => ?_⟩
      rw [ch_succ]
      rcases List.mem_append.1 hy with hy | hy
      · exact List.mem_append_left _ (hp y hy)
      · exact List.mem_append_right _ hy
    · obtain ⟨u, l, e1, e2, pre', e3, e4⟩ := hr j hj
      exact ⟨u, l, by rw [List.getElem?_set, if_neg e]; exact e1, keep e2, pre', e3, fun y hy => by rw [ch_succ]; exact List.mem_append_left _ (e4 y hy)⟩
  · exact ((hB.setCell (p := ⟨gt, _, none⟩) (show W.heap.size ≤ gt by omega) _).setCell (p := ⟨gk, _, none⟩) (show W.heap.size ≤ gk by omega) _).setCell (p := ⟨g1, _, none⟩) b1 _

theorem below2 (w : World) (o1 o2 : Obj) : Below w.heap.size w ((w.alloc o1).alloc o2) := ((Below.refl _ _).alloc (Nat.le_refl _) _).alloc (by simp) _
/-- A table and no error. -/
def MakeOut (t : List Int) (p : Nat) (W : World) (e : Ending) (W' : World) : Prop :=
  ∃ g, e = .returned (.tuple #[.slice (some ⟨g, 0, none⟩) p p, .int .i64 0]) ∧ W.heap.size ≤ g ∧ Cells W' g 3 zz t ∧ Below W.heap.size W W'
theorem made_two (w : World) (p : Nat) :
    Cells ((w.alloc (.cells (Array.replicate p (.int .i64 0)) 3)).alloc (.cells (Array.replicate p (.bool false)) 4)) w.heap.size 3 zz (List.replicate p 0) ∧
    Cells ((w.alloc (.cells (Array.replicate p (.int .i64 0)) 3)).alloc (.cells (Array.replicate p (.bool false)) 4)) (w.heap.size + 1) 4 bz (List.replicate p false) ∧
    Cells ((w.alloc (.cells (Array.replicate p (.bool false)) 4)).alloc (.cells (Array.replicate p (.int .i64 0)) 3)) (w.heap.size + 1) 3 zz (List.replicate p 0) ∧
    Cells ((w.alloc (.cells (Array.replicate p (.bool false)) 4)).alloc (.cells (Array.replicate p (.int .i64 0)) 3)) w.heap.size 4 bz (List.replicate p false) := by
  have h1 := newB (w.alloc (.cells (Array.replicate p (.int .i64 0)) 3)) p
  have h2 := newI (w.alloc (.cells (Array.replicate p (.bool false)) 4)) p
  rw [World.size_alloc] at h1 h2
  exact ⟨(newI w p).alloc _, h1, h2, (newB w p).alloc _⟩
set_option maxRecDepth 100000 in
set_option maxHeartbeats 8000000 in
theorem make_ok (A : Option Addr) (ids : List Int) (n ca p : Nat) (W : World) (hn : ids.length = n) (hx : Reads W A (ids.map (Value.int .i64))) (hwf : ∀ x ∈ ids, (Lit.int .i64 x).wf = true) (hk : tErr ids p = 0) :
    Calls Try.prog 9 #[.slice A n ca, .int .i64 p] W (MakeOut (table ids p) p W) := by
  obtain ⟨q, hq, hp1, hp2, hn1, hn2, hnp, hid, hnd, _⟩ := tErr_zero hk
  obtain rfl : p = q := by omega
  have H := Lib.hid (wrong_c A ids n ca p W hn (by unfold maxLen; omega) hx hwf)
  rw [hk] at H
  have HP := Lib.hid (fun x (hx : x ∈ ids) V => preferences_c x p (hid x hx).1 (hid x hx).2 hp1.1 hp2 V)
  have FU := Lib.hid (liks_fulls (ids := ids) hp1 hn1)
  have TE := Lib.hid (show table ids p = tb ids (liks ids p) ids.length p p from rfl)
  have LL := Lib.hid (show ∀ k x, ids[k]? = some x → lik x p = liks ids p k from fun k x h => by unfold liks; rw [List.getD_eq_getElem?_getD, h]; rfl)
  generalize liks ids p = L at *
  generalize table ids p = tt at *
  have hp2' : 2 ≤ p := hp1.1
  rw [hn] at hn1 hn2 hnp FU TE
  have HX := Lib.hid hx
  have HN := Lib.hid hn
  have mS := makeS n (by omega)
  have mI := makeI p hp2
  have mB := makeB p hp2
  clear hk hq hid hnd hwf hx hn hp1
  go_enter Try.func9, Try.ntmps9
  go_wp2_with (go_at_call 12; refine H.out.mono ?_; rintro e w1 ⟨rfl, hb⟩; have HB := Lib.hid hb; clear hb)
  have S0 := Lib.hid (newS w1 n)
  have B0 := Lib.hid (HB.out.alloc HB.out.size (.cells (Array.replicate n (.slice none 0 0)) 22))
  have G1 : W.heap.size ≤ w1.heap.size := HB.out.size
  generalize hg1 : w1.heap.size = g1 at *
  clear H mS
  go_loopw [27] (fun i wr => ∃ k : Nat, k ≤ n ∧ i = .int .i64 k ∧ FillAt W L g1 n k wr) (fun i _ => n - (intOf i).toNat)
  case atStart => exact ⟨0, by omega, rfl, _, S0.out, by simp, fun i hi => absurd hi (by omega), B0.out⟩
  case round =>
    obtain ⟨k, hk, rfl, vs, hV, hvl, hvr, hB⟩ := hrel
    have HV := Lib.hid hV
    have VL := Lib.hid hvl
    have VR := Lib.hid hvr
    have HB2 := Lib.hid hB
    clear S0 B0 hV hvr
    by_cases hlt : k < n
    · have k1 : k < ids.length := by rw [HN.out]; exact hlt
      obtain ⟨b, o, rfl, hbl, x0⟩ := reads_z HX.out k1
      have x1 := (hB.cell (p := ⟨b, o + k, none⟩) hbl).trans x0
      have EX := Lib.hid (show ids[k]? = some ids[k] from List.getElem?_eq_getElem k1)
      have PX := Lib.hid (HP.out ids[k] (List.getElem_mem k1))
      generalize hu : ids[k] = x at *
      have LX := Lib.hid (LL.out k x EX.out)
      have j1 : (k : Int) < (n : Int) := by omega
      clear hu k1 x0 hB
      go_wp2_with fail
      refine (PX.out _).mono ?_
      rintro e w2 ⟨g, rfl, hg, hC, hb⟩
      have V2 := HV.out.later hb
      have c2 := V2.at_ (k := k) (List.getElem?_eq_getElem (by omega))
      have f2 := V2.free k
      have hgl := hC.lt
      have NEW := Lib.hid (show FillAt W L g1 n (k + 1) (w2.setCell ⟨g1, k, none⟩ (.slice (some ⟨g, 0, none⟩) p p)) from by
        refine ⟨vs.set k (.slice (some ⟨g, 0, none⟩) p p), V2.put k (.slice (some ⟨g, 0, none⟩) p p), by rw [List.length_set]; exact VL.out, fun i hi => ?_, (HB2.out.trans (hb.mono HB2.out.size)).setCell (p := ⟨g1, k, none⟩) G1 _⟩
        have hsz : (w2.setCell ⟨g1, k, none⟩ (.slice (some ⟨g, 0, none⟩) p p)).heap.size = w2.heap.size := by simp [World.setCell]
        rw [hsz]
        have hg1w := HV.out.lt
        rcases (by omega : i < k ∨ i = k) with h | rfl
        · obtain ⟨u, e1, e2⟩ := VR.out i h
          exact ⟨u, by rw [List.getElem?_set, if_neg (by omega)]; exact e1, (e2.later hb hb.size).off (.inl (Nat.le_refl _)) _⟩
        · refine ⟨_, by rw [List.getElem?_set, if_pos rfl, if_pos (by rw [VL.out]; exact hlt)], RowIs.off ⟨some ⟨g, 0, none⟩, p, p, rfl, ?_, Nat.le_refl _, ?_, fun a ha => by injection ha with ha; subst ha; exact ⟨by show g1 < g; omega, hgl⟩⟩ (.inl (Nat.le_refl _)) _⟩
          · rw [← LX.out]; exact lik_len _ _
          · rw [← LX.out]; exact hC.reads)
      generalize vs[k]'(by omega) = vk at *
      clear hC hb V2 hg
      go_wp2
      go_roundw
      case rel => exact ⟨k + 1, by omega, by go_num, NEW.out⟩
      case measure => simp [intOf]; omega
    · obtain rfl : k = n := by omega
      have G2 := HV.out.lt
      clear hB
      go_upto_region 10 with fail
      go_cut [10, 11] (fun x y wx => ∃ gt gk, x = .slice (some ⟨gt, 0, none⟩) p p ∧ y = .slice (some ⟨gk, 0, none⟩) p p ∧ gt ≠ gk ∧ wr.heap.size ≤ gt ∧ wr.heap.size ≤ gk ∧ Cells wx gt 3 zz (List.replicate p 0) ∧ Cells wx gk 4 bz (List.replicate p false) ∧ Below wr.heap.size wr wx)
      case first =>
        go_region
        all_goals go_wp2_with fail
        all_goals go_meet
        · exact ⟨_, _, rfl, rfl, by omega, by omega, by omega, (made_two wr p).1, (made_two wr p).2.1, below_drew (below2 wr _ _)⟩
        · exact ⟨_, _, rfl, rfl, by omega, by omega, by omega, (made_two wr p).2.2.1, (made_two wr p).2.2.2, below_drew (below2 wr _ _)⟩
      case rest =>
        obtain ⟨gt, gk, rfl, rfl, d1, d2, d3, hT, hK, hbx⟩ := hcut
        have START := Lib.hid (show TurnAt W ids L k p g1 gt gk wr.heap.size 0 wc from
          ⟨hT, hK, ⟨vs, HV.out.later hbx, VL.out, fun i hi => by
            obtain ⟨u, e1, e2⟩ := VR.out i hi
            exact ⟨u, L i, e1, e2.later hbx (Nat.le_refl _), [], rfl, fun y hy => by simp at hy⟩⟩, HB2.out.trans (hbx.mono HB2.out.size)⟩)
        have D1 := Lib.hid d1
        have hi0 : g1 < wr.heap.size := G2
        generalize wr.heap.size = hi at *
        clear hT hK hbx HV VR HB2 hvl VL mI mB G2 d1
        go_wp2_with fail
        go_loopw [44] (fun i w => ∃ j : Nat, j ≤ p ∧ i = .int .i64 j ∧ TurnAt W ids L k p g1 gt gk hi j w) (fun i _ => p - (intOf i).toNat)
        case atStart => exact ⟨0, by omega, rfl, START.out⟩
        case round =>
          obtain ⟨j, hj, rfl, hT, hK, ⟨vs, hV, hvl, hr⟩, hB⟩ := hrel
          clear START
          by_cases hlt : j < p
          · have hij : j % k < k := Nat.mod_lt _ (by omega)
            obtain ⟨pre0, rest, e1, e2, e3, e4⟩ := sel_split FU.out hlt
            have md : (j : Int).tmod (k : Int) = ((j % k : Nat) : Int) := by rw [Int.tmod_eq_emod_of_nonneg (by omega), Int.natCast_emod]
            have md2 : (j : Int) % (k : Int) = ((j % k : Nat) : Int) := by rw [Int.natCast_emod]
            obtain ⟨u, l, f1, ⟨A1, q, c, rfl, hq, hc, hR, hA⟩, pre, f3, f4⟩ := hr (j % k) hij
            obtain ⟨pre2, g5, g6⟩ := suffix (f3.symm.trans e1) f4 e3 e2
            subst g5
            have hx0 : ids[j % k]? = some (ids.getD (j % k) 0) := by
              rw [List.getD_eq_getElem?_getD, List.getElem?_eq_getElem (by rw [HN.out]; exact hij)]; rfl
            obtain ⟨b, o, rfl, hbl, x0⟩ := HX.out (j % k) (.int .i64 (ids.getD (j % k) 0)) (by rw [List.getElem?_map, hx0]; rfl)
            have F := Lib.hid (firstFree_c A1 pre2 rest (sel L k j) q c (some ⟨gk, 0, none⟩) (mk L k p j) p p wr hq (by
                have h1 : (L (j % k)).length = p := (FU.out.2 _ hij).len
                rw [f3, List.length_append] at h1; omega) hc hR hK.reads (mk_len j)
              (fun y hy => by
                have hy2 := g6 y hy
                rw [mk_at (ch_lt FU.out (Nat.le_of_lt hlt) y hy2)]; simp [hy2])
              (by rw [mk_at e4]; simp [e3]) rest.length rfl)
            have cA := hV.at_ f1
            have LST := Lib.hid (show ∀ (w2 : World) (A' : Option Addr) (c' : Nat), Below wr.heap.size wr w2 → rest.length ≤ c' → Reads w2 A' (rest.map nz) → (∀ a, A' = some a → ∃ a0, A1 = some a0 ∧ a.block = a0.block) →
                TurnAt W ids L k p g1 gt gk hi (j + 1) (((w2.setCell ⟨gt, sel L k j, none⟩ (.int .i64 (ids.getD (j % k) 0))).setCell ⟨gk, sel L k j, none⟩ (.bool true)).setCell ⟨g1, j % k, none⟩ (.slice A' rest.length c')) from fun w2 A' c' hb h1 h2 h3 =>
              turn_next (hT.later hb) (hK.later hb) (hV.later hb) hvl (fun i hi => by
                obtain ⟨u, l, p1, p2, p3⟩ := hr i hi
                exact ⟨u, l, p1, p2.later hb (Nat.le_refl _), p3⟩) (hB.trans (hb.mono hB.size)) rfl rfl hij rfl rfl h1 h2 (fun a ha => by
                  obtain ⟨a0, q1, q2⟩ := h3 a ha
                  rw [q2]; exact hA a0 q1) (pre ++ pre2) (by rw [f3]; simp) (fun y hy => by
                    rcases List.mem_append.1 hy with hy | hy
                    · exact f4 y hy
                    · exact g6 y hy) D1.out d2 d3 hi0 G1)
            have ST := Lib.hid (show ∀ (w2 : World), Below wr.heap.size wr w2 → _ from fun w2 hb => three (s := sel L k j) (i := j % k) (ids.getD (j % k) 0) (hT.later hb) (hK.later hb) (hV.later hb) (by rw [tb_len]; exact e4) (by rw [mk_len]; exact e4) (by rw [hvl]; exact hij) D1.out (by omega) (by omega))
            have XI := Lib.hid (show ∀ (w2 : World), Below wr.heap.size wr w2 → w2.cell? ⟨b, o + j % k, none⟩ = some (.int .i64 (ids.getD (j % k) 0)) from fun w2 hb => ((hB.trans (hb.mono hB.size)).cell (p := ⟨b, o + j % k, none⟩) hbl).trans x0)
            have i1 : ((j % k : Nat) : Int) < (k : Int) := by omega
            have i2 : ((sel L k j : Nat) : Int) < (p : Int) := by omega
            have d0 : ((k : Int) == 0) = false := by simp; omega
            have d9 : ¬ k = 0 := by omega
            have hA' : Hid True := trivial
            generalize hrl : rest.length = rl at *
            generalize hsl : sel L k j = s at *
            generalize hxx : ids.getD (j % k) 0 = x at *
            generalize hii : j % k = i at *
            clear hT hK hV hvl hr hB e1 e2 e3 e4 f1 f3 f4 g6 hq hc hR hA hx0 x0 hrl hsl hxx hii
            go_wp2_with fail
            refine F.out.mono ?_
            rintro e w2 ⟨A2, c2, rfl, -, h2, h3, h4, hb⟩
            obtain ⟨⟨v1, k1⟩, ⟨v2, k2⟩, ⟨v3, k3⟩, z1, z2, z3⟩ := ST.out w2 hb
            have cx := XI.out w2 hb
            have NEXT := Lib.hid (LST.out w2 A2 c2 hb h2 h3 h4)
            clear h2 h3 h4 hb ST XI LST F cA
            go_wp2
            go_roundw
            case rel => exact ⟨j + 1, by omega, by go_num, NEXT.out⟩
            case measure => simp [intOf]; omega
          · obtain rfl : j = p := by omega
            have FIN := Lib.hid (show Cells wr gt 3 zz tt by rw [TE.out]; exact hT)
            have HB3 := Lib.hid hB
            clear hT hK hV hvl hr hB
            go_wp2
            go_ret2
            exact ⟨gt, rfl, by omega, FIN.out, HB3.out⟩
end Go.Proofs.Ytahhgeecikljdaa.Tb
