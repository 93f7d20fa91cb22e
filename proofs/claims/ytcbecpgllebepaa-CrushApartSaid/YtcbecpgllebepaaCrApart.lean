/-
  The law CrushApart over what it takes of the program.
-/
import Derived.Test.YtcbecpgllebepaaCrAlive
import Derived.Test.YtcbecpgllebepaaCrIdx
import Derived.Test.YtcbecpgllebepaaShCr
import Derived.Test.YtcbecpgllebepaaShFuncs
import Derived.Test.YtcbecpgllebepaaLaw
import Derived.Test.YtcbecpgllebepaaIntSet
namespace Go.Proofs.Ytcbecpgllebepaa.Crush
set_option linter.unusedVariables false
set_option linter.unusedSimpArgs false
open Go.RowKit Mem Straw

/-! ### The two closures of CrushApart -/
set_option maxHeartbeats 2000000 in
theorem apart1_c (bx : Nat) (id x : Int) (u : Value) (V : World) (hk : V.cell? ⟨bx, 0, none⟩ = some (.int .i64 id)) :
    Calls Try.prog 18 #[.agg #[.int .i64 x, u], .pointer (some ⟨bx, 0, none⟩)] V (Gave (.bool (decide (x = id))) V) := by
  have d0 := (boxH V (.int .i64 x) u).1
  have k0 := box_old (.cells #[.int .i64 x, u] 43) hk
  have HB := Lib.hid ((Below.refl V.heap.size V).alloc (Nat.le_refl _) (.cells #[.int .i64 x, u] 43))
  by_cases h : x = id
  · have n1 : (x == id) = true := by simp [h]
    have E := Lib.hid (show decide (x = id) = true from decide_eq_true h)
    clear h
    go_enter Try.func18, Try.ntmps18
    go_wp2
    go_ret
    exact ⟨by rw [E.out]; rfl, HB.out⟩
  · have n1 : (x == id) = false := by simp [h]
    have E := Lib.hid (show decide (x = id) = false from decide_eq_false h)
    clear h
    go_enter Try.func18, Try.ntmps18
    go_wp2
    go_ret
    exact ⟨by rw [E.out]; rfl, HB.out⟩
set_option maxHeartbeats 2000000 in
theorem apart2_c (bx : Nat) (id : Int) (x : It) (V : World) (hk : V.cell? ⟨bx, 1, none⟩ = some (.int .i64 id)) (c : Bool) (hc : decide (x.1 = id ∧ 0 < x.2) = c) :
    Calls Try.prog 20 #[.agg #[.int .i64 x.1, .int .i64 x.2], .pointer (some ⟨bx, 0, none⟩)] V (Gave (.bool c) V) := by
  have HC := Lib.hid hc
  clear hc
  obtain ⟨x0, x1⟩ := x
  have d0 := (boxI V (.int .i64 x0) (.int .i64 x1)).1
  have d1 := (boxI V (.int .i64 x0) (.int .i64 x1)).2
  have k0 := box_old (.cells #[.int .i64 x0, .int .i64 x1] 47) hk
  have HB := Lib.hid ((Below.refl V.heap.size V).alloc (Nat.le_refl _) (.cells #[.int .i64 x0, .int .i64 x1] 47))
  by_cases h : x0 = id
  · have n1 : (x0 == id) = true := by simp [h]
    by_cases h2 : 0 < x1
    · have E := Lib.hid (show c = true by rw [← HC.out]; exact decide_eq_true ⟨h, h2⟩)
      have n2 : decide (0 < x1) = true := decide_eq_true h2
      clear h h2
      go_enter Try.func20, Try.ntmps20
      go_wp2
      go_ret
      exact ⟨by rw [E.out]; rfl, HB.out⟩
    · have E := Lib.hid (show c = false by rw [← HC.out]; exact decide_eq_false (fun h' => h2 h'.2))
      have n2 : decide (0 < x1) = false := decide_eq_false h2
      clear h h2
      go_enter Try.func20, Try.ntmps20
      go_wp2
      go_ret
      exact ⟨by rw [E.out]; rfl, HB.out⟩
  · have n1 : (x0 == id) = false := by simp [h]
    have E := Lib.hid (show c = false by rw [← HC.out]; exact decide_eq_false (fun h' => h h'.1))
    clear h
    go_enter Try.func20, Try.ntmps20
    go_wp2
    go_ret
    exact ⟨by rw [E.out]; rfl, HB.out⟩
theorem index_c (bx : Nat) (A : Option Addr) (hs : List Ht) (n ca i : Nat) (x : Ht) (V : World) (hk : V.cell? ⟨bx, 0, none⟩ = some (.int .i64 x.1)) (hx : HRds V A hs) (hn : hs.length = n) (hb : n ≤ 4398046511104) (hi : hs[i]? = some x) (hm : ∀ j y, j < i → hs[j]? = some y → y.1 ≠ x.1) :
    Calls Try.prog 17 #[.slice A n ca, .func (.func 18) #[] #[.pointer (some ⟨bx, 0, none⟩)]] V (Gave (.int .i64 i) V) := by
  obtain ⟨zs, z1, z2, z3⟩ := host_cells hx
  have hil := (List.getElem?_eq_some_iff.1 hi).1
  obtain ⟨u, hu⟩ := z2 i x hi
  obtain ⟨b, o, rfl, hbl, _, _⟩ := z3 i _ hu
  have H := AnyQ.slices_IndexFunc Try.indexHost 2 Try.isAgg43 Try.sizeOf43 encV (fun _ => rfl) (fun z : Int × Value => decide (z.1 = x.1)) 18 #[.pointer (some ⟨bx, 0, none⟩)]
    (enters_of Try.func18 (by kernel_rfl) rfl) b o n ca zs V
    (fun W z hb => (apart1_c bx x.1 z.1 z.2 W ((hb.cell (p := ⟨bx, 0, none⟩) (World.block_lt_of_cell? _ _ hk)).trans hk)).mono fun _ _ ⟨he, hb2⟩ => ⟨he, hb.trans (hb2.mono hb.size)⟩)
    (by omega) (by omega) hbl
    (fun j hj c v hv => by
      have e := List.getElem?_eq_getElem hj
      obtain ⟨b', o', e', _, c0, c1⟩ := z3 j _ e
      injection e' with e'
      injection e' with e1 e2
      subst e1 e2
      rw [get_bang e] at hv
      rcases c with _ | _ | c
      · simp [encV] at hv; subst hv; exact c0
      · simp [encV] at hv; subst hv; exact c1
      · simp [encV] at hv)
  refine H.mono ?_
  rintro e w ⟨rfl, hb⟩
  refine ⟨?_, hb⟩
  rw [Lib.idxBy_hit (fun _ z => decide (z.1 = x.1)) zs n i default (by omega) (by omega) (by rw [get_bang hu]; simp) (fun j hj => by
    have hj' : j < hs.length := by omega
    obtain ⟨u', hu'⟩ := z2 j _ (List.getElem?_eq_getElem hj')
    rw [get_bang hu']
    exact decide_eq_false (hm j _ hj (List.getElem?_eq_getElem hj')))]
theorem contains_c (bx : Nat) (D : Option Addr) (d : List It) (n c : Nat) (id : Int) (V : World) (hk : V.cell? ⟨bx, 1, none⟩ = some (.int .i64 id)) (hx : WRds V D d) (hn : d.length = n) (hb : n ≤ 8796093022208) (h : ∃ a ∈ d, a.1 = id ∧ 0 < a.2) :
    Calls Try.prog 19 #[.slice D n c, .func (.func 20) #[] #[.pointer (some ⟨bx, 0, none⟩)]] V (Gave (.bool true) V) := by
  obtain ⟨a, ha, h1, h2⟩ := h
  obtain ⟨i, hi⟩ := List.mem_iff_getElem?.1 ha
  obtain ⟨b, o, rfl, hbl, _, _⟩ := hx i a hi
  have H := AnyQ.slices_ContainsFunc Try.containsIt 2 Try.isAgg47 Try.sizeOf47 enc2 (fun _ => rfl) (fun x => decide (x.1 = id ∧ 0 < x.2)) 20 #[.pointer (some ⟨bx, 0, none⟩)] (enters_of Try.func20 (by kernel_rfl) rfl) b o n c d V
    (fun W x hb => (apart2_c bx id x W ((hb.cell (p := ⟨bx, 1, none⟩) (World.block_lt_of_cell? _ _ hk)).trans hk) _ rfl).mono fun _ _ ⟨h, hb2⟩ => ⟨h, hb.trans (hb2.mono hb.size)⟩) (by omega) (by omega) hbl (fun j hj i v hv => by
      have e := List.getElem?_eq_getElem hj
      obtain ⟨b', o', e1, _, h0, h1⟩ := hx j _ e
      injection e1 with e1
      injection e1 with e1 e2
      subst e1 e2
      rw [getElem!_pos d j hj] at hv
      rcases i with _ | _ | i
      · simp [enc2] at hv; subst hv; exact h0
      · simp [enc2] at hv; subst hv; exact h1
      · simp [enc2] at hv)
  refine H.mono ?_
  rintro e w ⟨rfl, hb⟩
  refine ⟨?_, hb⟩
  have : ((d.take n).any fun x => decide (x.1 = id ∧ 0 < x.2)) = true := by
    rw [List.take_of_length_le (by omega)]
    exact List.any_eq_true.2 ⟨a, ha, decide_eq_true ⟨h1, h2⟩⟩
  rw [this]

/-! ### The law -/
theorem once_before {l : List It} (h : Once l) {k : Nat} {s : It} (hk : l[k]? = some s) : s.1 ∉ firsts (l.take k) := fun hm => by
  obtain ⟨t, ht, e⟩ := List.mem_map.1 hm
  obtain ⟨j, hj⟩ := List.mem_iff_getElem?.1 ht
  have hjl := (List.getElem?_eq_some_iff.1 hj).1
  rw [List.length_take] at hjl
  rw [List.getElem?_take_of_lt (by omega)] at hj
  have hp := List.pairwise_iff_getElem.1 (show (l.map (·.1)).Pairwise (· ≠ ·) from h)
  obtain ⟨a1, a2⟩ := List.getElem?_eq_some_iff.1 hj
  obtain ⟨b1, b2⟩ := List.getElem?_eq_some_iff.1 hk
  have := hp j k (by simpa using a1) (by simpa using b1) (by omega)
  simp only [List.getElem_map] at this
  rw [a2, b2] at this
  exact this e
theorem host_first {hs : List Ht} (h : Good hs) {i : Nat} {x : Ht} (hi : hs[i]? = some x) : ∀ (j : Nat) (y : Ht), j < i → hs[j]? = some y → y.1 ≠ x.1 := fun j y hj hy e => by
  have hp := List.pairwise_iff_getElem.1 (show (hs.map (·.1)).Pairwise (· ≠ ·) from good_once h)
  obtain ⟨a1, a2⟩ := List.getElem?_eq_some_iff.1 hy
  obtain ⟨b1, b2⟩ := List.getElem?_eq_some_iff.1 hi
  have := hp j i (by simpa using a1) (by simpa using b1) hj
  simp only [List.getElem_map] at this
  rw [a2, b2] at this
  exact this e
theorem plL_wf {key : UInt64} {hs : List Ht} {many : Nat} (h : plE key hs many = 0) {s : It} (hs' : s ∈ plL key hs many) : (Lit.int .i64 s.1).wf = true ∧ (Lit.int .i64 s.2).wf = true := by
  obtain ⟨x, hx, h1, _, d, hd, h3, _⟩ := plL_mem h hs'
  have hg := (plE_zero.1 h).1
  have v1 := (hg.2.2.1 (x.1, hw x.2) (List.mem_map.2 ⟨x, hx, rfl⟩)).1
  have v2 := ((hg.1 x hx).2.1 d hd).1
  rw [← h1, ← h3]
  simp [Lit.wf, IntKind.min, IntKind.max, IntKind.bits, IntKind.signed] at v1 v2 ⊢
  omega
set_option maxHeartbeats 4000000 in
theorem apart_bad (hP : PlaceSpec) (hM : MovedSpec) (key : UInt64) (A : Option Addr) (hs : List Ht) (n ca : Nat) (many : Int) (W : World) (hn : hs.length = n) (hb : n ≤ 4398046511104) (hca : n ≤ ca) (hx : HRds W A hs) (hf : FitsH hs) (k : Int) (hk : plE key hs many = k) (h0 : k ≠ 0) :
    Calls Try.prog 5 #[.int .u64 key.toNat, .slice A n ca, .int .i64 many] W (Law.Yes W) := by
  have AL := Lib.hid (alive_c hP hM W)
  have lz : plL key hs many = [] := by unfold plL; rw [hk, if_neg h0]
  have PL := Lib.hid (fun V (hB : Below W.heap.size W V) => place_named hP key A hs n ca many V hn (by omega) hca (hx.below hB) hf [] 0 k lz rfl hk)
  have hv := plE_vals key hs many
  rw [hk] at hv
  clear hn hb hca hx hf hk lz
  rcases hv with rfl | rfl | rfl | rfl
  · exact absurd rfl h0
  all_goals
    clear h0
    go_enter Try.func5, Try.ntmps5
    go_wp2_with fail
    refine AL.out.mono ?_
    rintro e w1 ⟨rfl, hb1⟩
    have B1 := Lib.hid hb1
    clear hb1
    go_wp2_with fail
    refine (PL.out _ B1.out).mono ?_
    rintro e w2 ⟨A2, c2, rfl, -, -, hb2⟩
    have B2 := Lib.hid (B1.out.trans (hb2.mono B1.out.size))
    clear hb2 B1 PL AL
    go_wp2
    go_ret
    exact ⟨rfl, B2.out⟩
set_option maxRecDepth 100000 in
set_option maxHeartbeats 8000000 in
theorem apart_good (hP : PlaceSpec) (hM : MovedSpec) (key : UInt64) (A : Option Addr) (hs : List Ht) (n ca : Nat) (many : Nat) (W : World) (hn : hs.length = n) (hb : n ≤ 4398046511104) (hca : n ≤ ca) (hx : HRds W A hs) (hf : FitsH hs) (hk : plE key hs many = 0) :
    Calls Try.prog 5 #[.int .u64 key.toNat, .slice A n ca, .int .i64 many] W (Law.Yes W) := by
  have AL := Lib.hid (alive_c hP hM W)
  have hm16 := (plE_zero.1 hk).2.1
  have hg := (plE_zero.1 hk).1
  have PL := Lib.hid (fun V (hB : Below W.heap.size W V) => place_named hP key A hs n ca many V hn (by omega) hca (hx.below hB) hf _ many 0 rfl (plL_len hk) hk)
  have SP := Lib.hid (show ∀ (k : Nat) (s : It), (plL key hs many)[k]? = some s → s.1 ∉ firsts ((plL key hs many).take k) ∧ (Lit.int .i64 s.1).wf = true ∧ ∃ (i : Nat) (x : Ht), hs[i]? = some x ∧ x.1 = s.1 ∧ (∃ d ∈ x.2, d.1 = s.2 ∧ 0 < d.2) ∧ ∀ (j : Nat) (y : Ht), j < i → hs[j]? = some y → y.1 ≠ x.1 from fun k s h => by
    obtain ⟨x, hx, h1, _, h2⟩ := plL_mem hk (List.mem_of_getElem? h)
    obtain ⟨i, hi⟩ := List.mem_iff_getElem?.1 hx
    exact ⟨once_before (plL_once hk) h, (plL_wf hk (List.mem_of_getElem? h)).1, i, x, hi, h1, h2, host_first hg hi⟩)
  have LN := Lib.hid (plL_len hk)
  have HX := Lib.hid hx
  have HN := Lib.hid hn
  have IX := Lib.hid (fun bx i x V (h1 : V.cell? ⟨bx, 0, none⟩ = some (.int .i64 x.1)) (hB : Below W.heap.size W V) h2 h3 => index_c bx A hs n ca i x V h1 (hx.below hB) hn hb h2 h3)
  obtain ⟨l, hl⟩ : ∃ l, l = plL key hs many := ⟨_, rfl⟩
  rw [← hl] at PL SP LN
  have hmm := @run_makeMap Try.prog
  have mk := fun fn first cap w => (show (Instr.makeFunc fn first cap).run Try.prog w = .ok (.func fn first cap) w from rfl)
  have mp : ((many : Int) == (many : Int)) = true := by simp
  clear hk hl hg hx hn hf
  go_enter Try.func5, Try.ntmps5
  go_wp2_with fail
  refine AL.out.mono ?_
  rintro e w1 ⟨rfl, hb1⟩
  have B1 := Lib.hid hb1
  clear hb1
  go_wp2_with fail
  refine (PL.out _ B1.out).mono ?_
  rintro e w2 ⟨A2, c2, rfl, -, hr2, hb2⟩
  have B2 := Lib.hid (B1.out.trans (hb2.mono B1.out.size))
  have R2 := Lib.hid hr2
  clear hb2 B1 PL AL hr2
  go_wp2_with fail
  have IS0 := Lib.hid (IntSet.made w2)
  have B3 := Lib.hid (B2.out.alloc B2.out.size (.map #[] 0))
  have R3 := Lib.hid ((Below.refl w2.heap.size w2).alloc (Nat.le_refl _) (.map #[] 0))
  have G0 : W.heap.size ≤ w2.heap.size := B2.out.size
  obtain ⟨w3, hw3⟩ : ∃ w3, w3 = w2.alloc (.map #[] 0) := ⟨_, rfl⟩
  obtain ⟨g, hgg⟩ : ∃ g, g = w2.heap.size := ⟨_, rfl⟩
  have RB := Lib.hid (show ∀ V, Below g w2 V → WRds V A2 l from fun V h => R2.out.below (by rw [← hgg]; exact h))
  rw [← hw3, ← hgg] at IS0
  rw [← hw3] at B3
  rw [← hw3, ← hgg] at R3
  rw [← hw3]
  rw [← hgg] at G0 ⊢
  clear hw3 hgg B2 R2 hmm
  go_loopw [30] (fun i wr => ∃ (k : Nat) (S : List Int), k ≤ many ∧ i = .int .i64 k ∧ IntSet wr g S ∧ S.length = k ∧ (∀ y, y ∈ S ↔ y ∈ firsts (l.take k)) ∧ Below g w2 wr ∧ Below W.heap.size W wr) (fun i _ => many - (intOf i).toNat)
  case atStart => exact ⟨0, [], by omega, rfl, IS0.out, rfl, fun y => by simp [firsts], R3.out, B3.out⟩
  case round =>
    obtain ⟨k, S, hkm, rfl, hS, hSl, hSm, hB2, hB⟩ := hrel
    have SL := Lib.hid hSl
    have SM := Lib.hid hSm
    have RX := Lib.hid (RB.out _ hB2)
    clear IS0 B3 R3 hSl hSm
    by_cases hlt : k < many
    · have i1 : (k : Int) < (many : Int) := by omega
      have k1 : k < l.length := by rw [LN.out]; exact hlt
      obtain ⟨s, hs⟩ : ∃ s, l[k]? = some s := ⟨_, List.getElem?_eq_getElem k1⟩
      obtain ⟨hn1, hwf, i, x, hi, hxs, hdev, hfirst⟩ := SP.out k s hs
      obtain ⟨b, o, rfl, hbl, x0, x1⟩ := RX.out k s hs
      have ES := Lib.hid hs
      obtain ⟨u0, u1⟩ := s
      obtain ⟨xi, xd⟩ := x
      obtain rfl : xi = u0 := hxs
      have HO := Lib.hid (HX.out.below hB)
      obtain ⟨b', o', D, n', c', rfl, hb', y0, y1, hxl, hnc, hn', hxw⟩ := HO.out.host hi
      have il : i < n := by rw [← HN.out]; exact (List.getElem?_eq_some_iff.1 hi).1
      obtain ⟨d0, d1⟩ := boxS wr (.int .i64 xi) (.int .i64 u1)
      have LA := Lib.hid ((Below.refl wr.heap.size wr).alloc (Nat.le_refl _) (.cells #[.int .i64 xi, .int .i64 u1] 31))
      have HS := Lib.hid hS
      have HB2 := Lib.hid hB2
      have HB := Lib.hid hB
      have HI := Lib.hid hi
      have HF := Lib.hid hfirst
      have HD := Lib.hid hdev
      have HXW := Lib.hid hxw
      have HXL := Lib.hid hxl
      have WF := Lib.hid hwf
      have NIN := Lib.hid (show decide (xi ∈ S) = false from decide_eq_false (fun h => hn1 ((SM.out xi).1 h)))
      clear hi hfirst hdev hxw hxl hwf hn1 hs hS hB2 hB
      go_wp2_with fail
      refine (IX.out _ _ _ _ d0 (HB.out.trans (LA.out.mono HB.out.size)) HI.out HF.out).mono ?_
      rintro e wc ⟨rfl, hbc⟩
      have LC := Lib.hid (LA.out.trans (hbc.mono LA.out.size))
      have e0 := (hbc.cell (World.block_lt_of_cell? _ _ d0)).trans d0
      have e1 := (hbc.cell (World.block_lt_of_cell? _ _ d1)).trans d1
      have z1 := (LC.out.cell (World.block_lt_of_cell? _ _ y1)).trans y1
      have LK : (Instr.lookup 39 (.map (some g)) (.int .i64 xi) false).run Try.prog wc = .ok (.bool false) wc := by
        rw [(HS.out.later LC.out).look xi WF.out, NIN.out]
      have i0 : decide ((i : Int) < 0) = false := by rw [decide_eq_false_iff_not]; omega
      have i2 : (i : Int) < (n : Int) := by omega
      have e1' := Lib.hid e1
      have HS2 := HB
      clear hbc d0 d1 y1 y0 x0 x1 HB
      go_wp2_with fail
      refine (contains_c _ D xd n' c' u1 _ e1'.out (HXW.out.below LC.out) HXL.out hn' HD.out).mono ?_
      rintro e wd ⟨rfl, hbd⟩
      have LD := Lib.hid (LC.out.trans (hbd.mono LC.out.size))
      have f0 := (hbd.cell (World.block_lt_of_cell? _ _ e0)).trans e0
      have SS := Lib.hid (show S.length < maxLen by rw [SL.out]; unfold maxLen; omega)
      have ISD := Lib.hid (HS.out.later LD.out)
      have BW := Lib.hid ((HS2.out.trans (LD.out.mono HS2.out.size)))
      have BG := Lib.hid ((HB2.out.trans (LD.out.mono (Nat.le_of_lt HS.out.lt))))
      have SM2 := Lib.hid (firsts_mem ES.out SM.out)
      clear hbd LK e0 e1 z1
      go_wp2_with (refine wpList_update_set rfl _ _ _ (by rfl) ISD.out SS.out xi WF.out rfl rfl rfl ?_; intro V hV hG; have IS2 := Lib.hid hV; have B2 := Lib.hid (BG.out.grown hG (Nat.le_of_lt ISD.out.lt) (fun k hk => by injection hk with hk; subst hk; exact Nat.le_refl _)); have B3 := Lib.hid (BW.out.grown hG BW.out.size (fun k hk => by injection hk with hk; subst hk; exact G0)); clear hV hG)
      go_roundw
      case rel => exact ⟨k + 1, xi :: S, by omega, by go_num, IS2.out, by simp [SL.out], SM2.out, B2.out, B3.out⟩
      case measure => simp [intOf]; omega
    · obtain rfl : k = many := by omega
      have HB := Lib.hid hB
      clear hS hB hB2
      go_wp2
      go_ret
      exact ⟨rfl, HB.out⟩
theorem apart_words (hP : PlaceSpec) (hM : MovedSpec) (key : UInt64) (A : Option Addr) (hs : List Ht) (n ca : Nat) (many : Int) (W : World) (hn : hs.length = n) (hb : n ≤ 4398046511104) (hca : n ≤ ca) (hx : HRds W A hs) (hf : FitsH hs) :
    Calls Try.prog 5 #[.int .u64 key.toNat, .slice A n ca, .int .i64 many] W (Law.Yes W) := by
  by_cases h : plE key hs many = 0
  · obtain ⟨j, rfl⟩ : ∃ j : Nat, many = j := ⟨many.toNat, by have := (plE_zero.1 h).2.1; omega⟩
    exact apart_good hP hM key A hs n ca j W hn hb hca hx hf h
  · exact apart_bad hP hM key A hs n ca many W hn hb hca hx hf _ rfl h
set_option maxRecDepth 100000 in
theorem apart_walk (hP : PlaceSpec) (hM : MovedSpec) {H : Type} {enc : TypeId × Value → H} {base : Nat} {W : World} (a0 : Int) (w0 : (Lit.int .u64 a0).wf = true) {v1 : Value} {d1 : DataW H} {p1 : List MemPlace}
    (o1 : Value.okWide Try.prog W .any base 23 v1) (h1 : DataW.Trod enc Try.prog W 0 (fun _ => true) true 23 v1 d1 p1) (a2 : Int) (w2 : (Lit.int .i64 a2).wf = true) {d0 : DataW H} {d2 : DataW H}
    (hz : (DataW.weightsEach Try.prog [22, 23, 3] [d0, d1, d2]).all (· ≤ reachBytes) = true) :
    Calls Try.prog 5 #[.int .u64 a0, v1, .int .i64 a2] W (Law.Yes W) := by
  obtain ⟨A, ca, hs, rfl, hl, hc, _, hx, hf⟩ := open_hostsZ o1 h1 hz (j := 1) rfl rfl
  obtain ⟨key, rfl⟩ := Words.of_wf64 w0
  exact apart_words hP hM key A hs _ ca a2 W rfl hl hc hx hf
end Go.Proofs.Ytcbecpgllebepaa.Crush
