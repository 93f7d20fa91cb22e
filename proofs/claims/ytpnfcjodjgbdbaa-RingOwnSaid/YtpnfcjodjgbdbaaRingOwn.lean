/-
  RingOwn: for every ring and every index, the law RingOwn answers true (a token's own place is its owner's), and its arguments read afterwards as before. No condition.
-/
import Derived.Test.YtpnfcjodjgbdbaaRgAlive
import Derived.Test.YtpnfcjodjgbdbaaShFuncs
import Derived.Deep.RegionHeld3
import Derived.Deep.DrawnRows
import Derived.Deep.DeepCutAuto
namespace Go.Proofs.Ytpnfcjodjgbdbaa.ringOwn
open Go.ChangeShapes Go.WideShapes Go.ChangeAt Go.RowKit
open Mem Ring
set_option linter.unusedVariables false
set_option linter.unusedSimpArgs false

theorem back_r (x : UInt64) (V : World) : Calls Try.prog 24 #[.int .u64 x.toNat] V fun e w' => e = .returned (.int .u64 (Mix.back x).toNat) ∧ w' = V :=
  (Mix.back_c x V).mono fun _ _ h => ⟨h.1, h.2.symm⟩
theorem clos_own (b1 b2 : Nat) (A : Option Addr) (ts : List Tk) (n ca k : Nat) (x y : Tk) (V : World) (h1 : V.cell? ⟨b1, 0, none⟩ = some (.slice A n ca)) (h2 : V.cell? ⟨b2, 0, none⟩ = some (.int .i64 (k : Int))) (hx : TRds V A ts) (hn : ts.length = n) (hy : ts[k]? = some y) :
    Calls Try.prog 26 #[.agg #[.int .u64 x.1.toNat, .int .i64 x.2], .pointer (some ⟨b1, 0, none⟩), .pointer (some ⟨b2, 0, none⟩)] V (Gave (.bool (decide (x.1 = y.1))) V) := by
  have hk : k < n := by rw [← hn]; exact (List.getElem?_eq_some_iff.1 hy).1
  obtain ⟨b, o, rfl, hbl, x0, x1⟩ := hx k y hy
  obtain ⟨u0, u1⟩ := x
  obtain ⟨v0, v1⟩ := y
  have i1 : (k : Int) < (n : Int) := by omega
  have HB := Lib.hid ((Below.refl _ V).alloc (Nat.le_refl _) (.cells #[.int .u64 u0.toNat, .int .i64 u1] 31))
  have c1 := (HB.out.cell (p := ⟨b1, 0, none⟩) (World.block_lt_of_cell? _ _ h1)).trans h1
  have c2 := (HB.out.cell (p := ⟨b2, 0, none⟩) (World.block_lt_of_cell? _ _ h2)).trans h2
  have c3 := (HB.out.cell (p := ⟨b, o + k * 2, none⟩) hbl).trans x0
  obtain ⟨d0, d1⟩ := boxT V (.int .u64 u0.toNat) (.int .i64 u1)
  clear hx hn hy hk h1 h2 x0 x1
  by_cases hp : u0 = v0
  · have E := Lib.hid (show decide (u0 = v0) = true from decide_eq_true hp)
    have i2 : ((u0.toNat : Int) == (v0.toNat : Int)) = true := by simp [hp]
    have i3 : (u0.toNat == v0.toNat) = true := by simp [hp]
    clear hp
    go_enter Try.func26, Try.ntmps26
    go_wp2
    go_quiet (fail)
    go_wp2
    go_ret
    exact ⟨by rw [E.out]; rfl, below_drewN HB.out _⟩
  · have hne : ¬ u0.toNat = v0.toNat := fun h => hp (UInt64.toNat_inj.1 h)
    have E := Lib.hid (show decide (u0 = v0) = false from decide_eq_false hp)
    have i2 : ((u0.toNat : Int) == (v0.toNat : Int)) = false := by simp; omega
    have i3 : (u0.toNat == v0.toNat) = false := by simpa using hne
    clear hp hne
    go_enter Try.func26, Try.ntmps26
    go_wp2
    go_quiet (fail)
    go_wp2
    go_ret
    exact ⟨by rw [E.out]; rfl, below_drewN HB.out _⟩
theorem get_bang {ts : List Tk} {i : Nat} {t : Tk} (h : ts[i]? = some t) : ts[i]! = t := by
  obtain ⟨h1, rfl⟩ := List.getElem?_eq_some_iff.1 h
  exact getElem!_pos ts i h1
theorem index_c (b1 b2 b o : Nat) (ts : List Tk) (n ca k i : Nat) (y t : Tk) (V : World) (h1 : V.cell? ⟨b1, 0, none⟩ = some (.slice (some ⟨b, o, none⟩) n ca)) (h2 : V.cell? ⟨b2, 0, none⟩ = some (.int .i64 (k : Int))) (hx : TRds V (some ⟨b, o, none⟩) ts) (hn : ts.length = n) (h4 : n ≤ 400) (hy : ts[k]? = some y)
    (hi : ts[i]? = some t) (hit : t.1 = y.1) (hmiss : ∀ j u, j < i → ts[j]? = some u → u.1 ≠ y.1) :
    Calls Try.prog 25 #[.slice (some ⟨b, o, none⟩) n ca, .func (.func 26) #[] #[.pointer (some ⟨b1, 0, none⟩), .pointer (some ⟨b2, 0, none⟩)]] V (Gave (.int .i64 i) V) := by
  have hil : i < n := by rw [← hn]; exact (List.getElem?_eq_some_iff.1 hi).1
  obtain ⟨b', o', e, hbl, _, _⟩ := hx k y hy
  injection e with e
  injection e with e1 e2
  subst e1 e2
  have H := AnyQ.slices_IndexFunc Try.indexTok 2 Try.isAgg31 Try.sizeOf31 enc2 (fun _ => rfl) (fun x : Tk => decide (x.1 = y.1)) 26 #[.pointer (some ⟨b1, 0, none⟩), .pointer (some ⟨b2, 0, none⟩)]
    (enters_of Try.func26 (by kernel_rfl) rfl) b o n ca ts V
    (fun W x hb => (clos_own b1 b2 (some ⟨b, o, none⟩) ts n ca k x y W ((hb.cell (p := ⟨b1, 0, none⟩) (World.block_lt_of_cell? _ _ h1)).trans h1) ((hb.cell (p := ⟨b2, 0, none⟩) (World.block_lt_of_cell? _ _ h2)).trans h2) (hx.below hb) hn hy).mono fun _ _ ⟨he, hb2⟩ => ⟨he, hb.trans (hb2.mono hb.size)⟩)
    (by omega) (by omega) hbl
    (fun j hj c v hv => by
      obtain ⟨b', o', e, _, c0, c1⟩ := hx j _ (List.getElem?_eq_getElem hj)
      injection e with e
      injection e with e1 e2
      subst e1 e2
      rw [get_bang (List.getElem?_eq_getElem hj)] at hv
      rcases c with _ | _ | c
      · simp [enc2] at hv; subst hv; exact c0
      · simp [enc2] at hv; subst hv; exact c1
      · simp [enc2] at hv)
  refine H.mono ?_
  rintro e w ⟨rfl, hb⟩
  refine ⟨?_, hb⟩
  rw [Lib.idxBy_hit (fun _ y' => decide (y'.1 = y.1)) ts n i default hil (by omega) (by rw [get_bang hi]; exact decide_eq_true hit) (fun j hj => by
    have hj' : j < ts.length := by omega
    have e := List.getElem?_eq_getElem hj'
    rw [get_bang e]
    exact decide_eq_false (hmiss j _ hj e))]
theorem own_pure {ts : List Tk} {k : Nat} {y : Tk} (hs : Sorted ts) (hy : ts[k]? = some y) : ∃ (i : Nat) (t : Tk), ts[i]? = some t ∧ (met (Mix.back y.1) ts)[0]? = some t.2 ∧ t.1 = y.1 ∧ ∀ (j : Nat) (u : Tk), j < i → ts[j]? = some u → u.1 ≠ y.1 := by
  have hk := (List.getElem?_eq_some_iff.1 hy).1
  obtain ⟨t, h1, h2⟩ := met_head (key := Mix.back y.1) hs (by omega)
  rw [Mix.one_back] at h1
  obtain ⟨s1, s2⟩ := filter_split y.1 hs
  have hmem : y ∈ ts.filter (fun t => decide (y.1.toNat ≤ t.1.toNat)) := List.mem_filter.2 ⟨List.mem_of_getElem? hy, by simp⟩
  have hlt : ahd y.1 ts < ts.length := by
    rcases Nat.lt_or_ge (ahd y.1 ts) ts.length with h | h
    · exact h
    · rw [s1, List.drop_of_length_le h] at hmem; simp at hmem
  have hf : first y.1 ts = ahd y.1 ts := if_neg (by omega)
  rw [hf] at h1
  have ht : y.1.toNat ≤ t.1.toNat := by
    have : t ∈ ts.drop (ahd y.1 ts) := List.mem_of_getElem? (by rw [List.getElem?_drop, Nat.add_zero]; exact h1)
    rw [← s1] at this
    simpa using (List.mem_filter.1 this).2
  have hak : ahd y.1 ts ≤ k := by
    rcases Nat.lt_or_ge k (ahd y.1 ts) with h | h
    · have : y ∈ ts.take (ahd y.1 ts) := List.mem_of_getElem? (by rw [List.getElem?_take_of_lt h]; exact hy)
      rw [← s2] at this
      have := (List.mem_filter.1 this).2
      simp at this
    · exact h
  refine ⟨ahd y.1 ts, t, h1, h2, UInt64.toNat_inj.1 ?_, fun j u hj hu e => ?_⟩
  · rcases Nat.lt_or_ge (ahd y.1 ts) k with h | h
    · have := ltB_not.1 (sorted_at hs h1 hy h); omega
    · have : ahd y.1 ts = k := by omega
      rw [this, hy] at h1
      injection h1 with h1
      rw [h1]
  · have : u ∈ ts.take (ahd y.1 ts) := List.mem_of_getElem? (by rw [List.getElem?_take_of_lt hj]; exact hu)
    rw [← s2] at this
    have := (List.mem_filter.1 this).2
    rw [e] at this
    simp at this
set_option maxRecDepth 100000 in
set_option maxHeartbeats 4000000 in
theorem out_of (A : Option Addr) (ts : List Tk) (n ca : Nat) (k : Int) (W : World) (hn : ts.length = n) (hbig : n ≤ maxLen) (hx : TRds W A ts) (h : ¬ Right ts ∨ k < 0 ∨ (n : Int) ≤ k) :
    Calls Try.prog 8 #[.slice A n ca, .int .i64 k] W (Law.Yes W) := by
  obtain ⟨c1, c2⟩ := box2 W 23 3 (.slice A n ca) (.int .i64 k)
  have hb0 := below2 W (.cells #[.slice A n ca] 23) (.cells #[.int .i64 k] 3)
  have B0 := Lib.hid hb0
  by_cases hr : Right ts
  · have H := Lib.hid (fun V (hb : Below W.heap.size W V) => right_yes A ts n ca V hn (hx.below hb) hr)
    have hk : k < 0 ∨ (n : Int) ≤ k := by rcases h with h | h; exact absurd hr h; exact h
    by_cases k0 : k < 0
    · have q1 : decide (k < 0) = true := decide_eq_true k0
      clear hn hx h hr hk
      go_enter Try.func8, Try.ntmps8
      go_wp2_with fail
      refine (alive_c _).mono ?_
      rintro e w1 ⟨rfl, hb⟩
      have d1 := (hb.cell (p := ⟨W.heap.size, 0, none⟩) (by simp; omega)).trans c1
      have d2 := (hb.cell (p := ⟨W.heap.size + 1, 0, none⟩) (by simp)).trans c2
      have B1 := Lib.hid (B0.out.trans (hb.mono B0.out.size))
      clear hb c1 c2 hb0
      go_wp2_with fail
      refine (H.out _ B1.out).mono ?_
      rintro e w2 ⟨rfl, hb⟩
      have f1 := (hb.cell (p := ⟨W.heap.size, 0, none⟩) (World.block_lt_of_cell? _ _ d1)).trans d1
      have f2 := (hb.cell (p := ⟨W.heap.size + 1, 0, none⟩) (World.block_lt_of_cell? _ _ d2)).trans d2
      have B2 := Lib.hid (B1.out.trans (hb.mono B1.out.size))
      clear hb d1 d2
      go_wp2
      go_ret
      exact ⟨rfl, B2.out⟩
    · have q1 : decide (k < 0) = false := decide_eq_false k0
      have k1 : (n : Int) ≤ k := by omega
      have q2 : decide ((n : Int) ≤ k) = true := decide_eq_true k1
      clear hn hx h hr hk
      go_enter Try.func8, Try.ntmps8
      go_wp2_with fail
      refine (alive_c _).mono ?_
      rintro e w1 ⟨rfl, hb⟩
      have d1 := (hb.cell (p := ⟨W.heap.size, 0, none⟩) (by simp; omega)).trans c1
      have d2 := (hb.cell (p := ⟨W.heap.size + 1, 0, none⟩) (by simp)).trans c2
      have B1 := Lib.hid (B0.out.trans (hb.mono B0.out.size))
      clear hb c1 c2 hb0
      go_wp2_with fail
      refine (H.out _ B1.out).mono ?_
      rintro e w2 ⟨rfl, hb⟩
      have f1 := (hb.cell (p := ⟨W.heap.size, 0, none⟩) (World.block_lt_of_cell? _ _ d1)).trans d1
      have f2 := (hb.cell (p := ⟨W.heap.size + 1, 0, none⟩) (World.block_lt_of_cell? _ _ d2)).trans d2
      have B2 := Lib.hid (B1.out.trans (hb.mono B1.out.size))
      clear hb d1 d2
      go_wp2
      go_ret
      exact ⟨rfl, B2.out⟩
  · have H := Lib.hid (fun V (hb : Below W.heap.size W V) => right_no A ts n ca V hn hbig (hx.below hb) hr)
    clear hn hx h hr
    go_enter Try.func8, Try.ntmps8
    go_wp2_with fail
    refine (alive_c _).mono ?_
    rintro e w1 ⟨rfl, hb⟩
    have d1 := (hb.cell (p := ⟨W.heap.size, 0, none⟩) (by simp; omega)).trans c1
    have d2 := (hb.cell (p := ⟨W.heap.size + 1, 0, none⟩) (by simp)).trans c2
    have B1 := Lib.hid (B0.out.trans (hb.mono B0.out.size))
    clear hb c1 c2 hb0
    go_wp2_with fail
    refine (H.out _ B1.out).mono ?_
    rintro e w2 ⟨rfl, hb⟩
    have B2 := Lib.hid (B1.out.trans (hb.mono B1.out.size))
    clear hb d1 d2
    go_wp2
    go_ret
    exact ⟨rfl, B2.out⟩
set_option maxRecDepth 100000 in
set_option maxHeartbeats 4000000 in
theorem inside (A : Option Addr) (ts : List Tk) (n ca : Nat) (k : Nat) (W : World) (hn : ts.length = n) (hx : TRds W A ts) (hr : Right ts) (hk : k < n) :
    Calls Try.prog 8 #[.slice A n ca, .int .i64 k] W (Law.Yes W) := by
  obtain ⟨c1, c2⟩ := box2 W 23 3 (.slice A n ca) (.int .i64 k)
  have B0 := Lib.hid (below2 W (.cells #[.slice A n ca] 23) (.cells #[.int .i64 k] 3))
  have h4 : n ≤ 400 := by rw [← hn]; exact hr.1
  have hy : ts[k]? = some ts[k] := List.getElem?_eq_getElem (by omega)
  obtain ⟨i, t, p1, p2, p3, p4⟩ := own_pure hr.2 hy
  have hil : i < n := by rw [← hn]; exact (List.getElem?_eq_some_iff.1 p1).1
  obtain ⟨b, o, rfl, hbl, x0, x1⟩ := hx k _ hy
  obtain ⟨b', o', e, _, y0, y1⟩ := hx i _ p1
  injection e with e
  injection e with e1 e2
  subst e1 e2
  have H := Lib.hid (fun V (hb : Below W.heap.size W V) => right_yes (some ⟨b, o, none⟩) ts n ca V hn (hx.below hb) hr)
  have HF := Lib.hid (fun V (hb : Below W.heap.size W V) => find_ok (some ⟨b, o, none⟩) ts n ca (Mix.back (ts[k]).1) t.2 V hn (hx.below hb) hr p2)
  have HI := Lib.hid (fun V (hb : Below W.heap.size W V) h1 h2 => index_c W.heap.size (W.heap.size + 1) b o ts n ca k i ts[k] t V h1 h2 (hx.below hb) hn h4 hy p1 p3 p4)
  have HBR := Lib.hid (fun V => back_r (ts[k]).1 V)
  have mk := fun fn first cap w => mk_func fn first cap w
  have XC := Lib.hid (fun V (hb : Below W.heap.size W V) => (hb.cell (p := ⟨b, o + k * 2, none⟩) hbl).trans x0)
  have YC := Lib.hid (fun V (hb : Below W.heap.size W V) => (hb.cell (p := ⟨b, o + i * 2 + 1, none⟩) hbl).trans y1)
  generalize hu : ts[k] = u at *
  obtain ⟨u0, u1⟩ := u
  obtain ⟨t0, t1⟩ := t
  generalize hbk : Mix.back u0 = bk at *
  have q1 : decide ((k : Int) < 0) = false := by rw [decide_eq_false_iff_not]; omega
  have q2 : decide ((n : Int) ≤ (k : Int)) = false := by rw [decide_eq_false_iff_not]; omega
  have q3 : decide (n ≤ k) = false := by rw [decide_eq_false_iff_not]; omega
  have i1 : (k : Int) < (n : Int) := by omega
  have i2 : (i : Int) < (n : Int) := by omega
  clear hu hbk hn hx hr hy p1 p2 p3 p4 x0 x1 y0 y1
  go_enter Try.func8, Try.ntmps8
  go_wp2_with fail
  refine (alive_c _).mono ?_
  rintro e w1 ⟨rfl, hb⟩
  have d1 := (hb.cell (p := ⟨W.heap.size, 0, none⟩) (by simp; omega)).trans c1
  have d2 := (hb.cell (p := ⟨W.heap.size + 1, 0, none⟩) (by simp)).trans c2
  have B1 := Lib.hid (B0.out.trans (hb.mono B0.out.size))
  clear hb c1 c2 B0
  go_wp2_with fail
  refine (H.out _ B1.out).mono ?_
  rintro e w2 ⟨rfl, hb⟩
  have f1 := (hb.cell (p := ⟨W.heap.size, 0, none⟩) (World.block_lt_of_cell? _ _ d1)).trans d1
  have f2 := (hb.cell (p := ⟨W.heap.size + 1, 0, none⟩) (World.block_lt_of_cell? _ _ d2)).trans d2
  have B2 := Lib.hid (B1.out.trans (hb.mono B1.out.size))
  have x2 := XC.out _ B2.out
  clear hb d1 d2 B1 H
  have OC := Lib.hid (show ∀ V, Below w2.heap.size w2 V → V.cell? ⟨W.heap.size, 0, none⟩ = some (.slice (some ⟨b, o, none⟩) n ca) ∧ V.cell? ⟨W.heap.size + 1, 0, none⟩ = some (.int .i64 (k : Int)) ∧ V.cell? ⟨b, o + k * 2, none⟩ = some (.int .u64 u0.toNat) from fun V hb =>
    ⟨(hb.cell (p := ⟨W.heap.size, 0, none⟩) (World.block_lt_of_cell? _ _ f1)).trans f1, (hb.cell (p := ⟨W.heap.size + 1, 0, none⟩) (World.block_lt_of_cell? _ _ f2)).trans f2, (hb.cell (p := ⟨b, o + k * 2, none⟩) (World.block_lt_of_cell? _ _ x2)).trans x2⟩)
  have KD := Lib.hid (below_drew B2.out)
  go_upto_region 5 with fail
  go_cut [5, 6] (fun v5 v6 wx => v5 = .int .i64 t1 ∧ v6 = .int .i64 0 ∧ Below w2.heap.size w2 wx)
  case first =>
    go_region_held3 (fun w' => w'.cell? ⟨W.heap.size, 0, none⟩ = some (.slice (some ⟨b, o, none⟩) n ca) ∧ w'.cell? ⟨W.heap.size + 1, 0, none⟩ = some (.int .i64 (k : Int)) ∧ w'.cell? ⟨b, o + k * 2, none⟩ = some (.int .u64 u0.toNat)) (first | go_keep | exact OC.out _ K1.out)
      (first
        | (go_at_call 24; refine (HBR.out _).mono ?_; rintro e w3 ⟨rfl, rfl⟩)
        | (go_at_call 15; refine (HF.out _ KD.out).mono ?_; rintro e w3 ⟨rfl, hb⟩; have K1 := Lib.hid (below_undrew hb)))
    all_goals go_wp2_with fail
    all_goals go_meet
    all_goals exact ⟨rfl, rfl, K1.out⟩
  case rest =>
    obtain ⟨rfl, rfl, hb⟩ := hcut
    obtain ⟨w3, rfl⟩ : ∃ w : World, w = wc := ⟨_, rfl⟩
    obtain ⟨g1, g2, _⟩ := OC.out _ hb
    have B3 := Lib.hid (B2.out.trans (hb.mono B2.out.size))
    clear hb f1 f2 x2 OC KD
    go_wp2_with (go_at_call 25; refine (HI.out _ B3.out g1 g2).mono ?_; rintro e w4 ⟨rfl, hb⟩; have k1 := (hb.cell (p := ⟨W.heap.size, 0, none⟩) (World.block_lt_of_cell? _ _ g1)).trans g1; have k2 := (hb.cell (p := ⟨W.heap.size + 1, 0, none⟩) (World.block_lt_of_cell? _ _ g2)).trans g2; have B4 := Lib.hid (B3.out.trans (hb.mono B3.out.size)); have y4 := YC.out _ B4.out; clear hb)
    go_ret
    exact ⟨rfl, B4.out⟩
theorem words (A : Option Addr) (ts : List Tk) (n ca : Nat) (k : Int) (W : World) (hn : ts.length = n) (hbig : n ≤ maxLen) (hx : TRds W A ts) :
    Calls Try.prog 8 #[.slice A n ca, .int .i64 k] W (Law.Yes W) := by
  by_cases h : ¬ Right ts ∨ k < 0 ∨ (n : Int) ≤ k
  · exact out_of A ts n ca k W hn hbig hx h
  · have hr : Right ts := Decidable.of_not_not (fun h' => h (.inl h'))
    obtain ⟨j, rfl⟩ : ∃ j : Nat, k = j := ⟨k.toNat, by omega⟩
    exact inside A ts n ca j W hn hx hr (by omega)
set_option maxRecDepth 100000 in
theorem walk {H : Type} {enc : TypeId × Value → H} {base : Nat} {W : World} {v0 : Value} {d0 : DataW H} {p0 : List MemPlace}
    (o0 : Value.okWide Try.prog W .any base 23 v0) (h0 : DataW.Trod enc Try.prog W 0 (fun _ => true) true 23 v0 d0 p0) (a1 : Int) (w1 : (Lit.int .i64 a1).wf = true) :
    Calls Try.prog 8 #[v0, .int .i64 a1] W (Law.Yes W) := by
  obtain ⟨A, ca, ts, rfl, hl, _, _, hx, _⟩ := open_tks o0 h0
  exact words A ts _ ca a1 W rfl hl hx
theorem own : ownKnob Try.prog.godebug = none := by kernel_rfl
theorem laid : laidOutB Try.prog = true := by kernel_rfl
theorem pars : ∀ t ∈ Try.f8.params.toList, Try.prog.readableRec t = true ∧ t < Try.prog.types.size := by
  have h : Try.f8.params.toList.all (fun t => Try.prog.readableRec t && decide (t < Try.prog.types.size)) = true := by kernel_rfl
  intro t ht; have := List.all_eq_true.1 h t ht; simpa using this
set_option maxRecDepth 100000 in
theorem calls (H : Type) (enc : TypeId × Value → H) (W : World) (base : Nat) (args : Array Value) (ds : List (DataW H)) (before : List MemPlace)
    (hval : ∀ (j : Nat) t v, Try.f8.params[j]? = some t → args[j]? = some v → Value.okWide Try.prog W .any base t v)
    (hA : DataW.TrodAll enc Try.prog W 0 (fun _ => true) true Try.f8.params.toList args.toList ds before) :
    Calls Try.prog 8 args W (Law.Yes W) := by
  rw [Try.params8] at hA hval
  obtain ⟨v0, vs0, d0, ds0, p0, q0, hargs, rfl, rfl, h0, r0⟩ := trodAll_cons hA
  obtain ⟨v1, vs1, d1, ds1, p1, q1, rfl, rfl, rfl, h1, r1⟩ := trodAll_cons r0
  obtain ⟨rfl, rfl, rfl⟩ := trodAll_nil r1
  obtain rfl : args = #[v0, v1] := by cases args; simp_all
  obtain ⟨a1, rfl, rfl, rfl, w1⟩ := open_int Try.underlying3 (hval 1 3 v1 rfl rfl) h1
  exact walk (W := W) (hval 0 23 v0 rfl rfl) h0 a1 w1
theorem fnOf (H : Type) : ∀ ds : List (DataW H), ds.length = Try.f8.params.toList.length → Rows.ringOwnSpec.fn H ds = { results := [.lit (.bool true)], args := ds } := by
  intro ds h
  have h : ds.length = 2 := h
  obtain _ | ⟨x0, ds⟩ := ds
  · simp at h
  obtain _ | ⟨x1, ds⟩ := ds
  · simp at h
  obtain rfl : ds = [] := List.eq_nil_of_length_eq_zero (by simpa using h)
  rfl
set_option maxRecDepth 100000 in
theorem lifted (os : Os) (started : os.Started) (H : Type) (enc : TypeId × Value → H) :
    ReturnsInHanded {} Try.checked os 8 .any (Rows.ringOwnSpec.pre6 enc Try.prog Try.f8 Rows.ringOwnRow.domain false) (Rows.ringOwnSpec.post enc Try.prog Try.f8 false true false false) := by
  refine returnsInHanded_of_change (C := Try.checked) own started (by kernel_rfl) Try.func8
    (ChangeSpec.witness6 (enc := enc) (C := Try.checked) false ⟨#[], #[.slice none 0 0, .int .i64 0], []⟩ 8 (by kernel_rfl) (by kernel_rfl) (by kernel_rfl) (by kernel_rfl)) ?_
  intro W base args ds gs before hval hW _ _
  obtain ⟨p, q, hA, hV, rfl, hfz, hnd⟩ := id hW
  obtain ⟨rfl, rfl⟩ := trodVars_none hV
  exact Law.ending (C := Try.checked) (s := Rows.ringOwnSpec) laid pars rfl Try.underlying4 rfl (fnOf H) hW (calls H enc W base args ds p hval hA)
theorem over : Rows.ringOwnRow.holds Try.pinned (OpenSpec.ofChange Rows.ringOwnSpec) :=
  OpenClaim.holds_of_wide 8 Try.f8 rfl rfl rfl rfl rfl rfl rfl ⟨rfl, rfl, rfl, rfl, rfl⟩ rfl rfl rfl rfl rfl (by kernel_rfl) Try.func8 (by kernel_rfl)
    (of_decide_eq_true (by kernel_rfl)) (by unfold Func.isWrapper; first | (rw [if_pos (by decide +kernel)]; kernel_rfl) | (rw [if_neg (by decide +kernel)]; exact ⟨rfl, rfl⟩))
    (fun os started H enc _ => lifted os started H enc)
theorem proved : Rows.RingOwnSaid := over
end Go.Proofs.Ytpnfcjodjgbdbaa.ringOwn
