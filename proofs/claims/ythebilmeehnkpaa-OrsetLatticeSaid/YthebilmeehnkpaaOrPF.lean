/-
  Package orset, the program: Drop, All.
-/
import Derived.Test.YthebilmeehnkpaaOrPE
namespace Go.Proofs.Ythebilmeehnkpaa.Ors
set_option linter.unusedVariables false
set_option linter.unusedSimpArgs false
open Go.RowKit Mem Gt
open Jump (Gave equalZ_c)
open Go.Sort (grow alloc_eq_grow grow_grow)

/-! ### Drop -/
def isElem (elem : Int) (t : Tg) : Bool := decide (t.2.2 = elem)
theorem keep_isElem (elem : Int) : keepP (isElem elem) = isNot elem := by
  funext t
  unfold keepP isElem isNot
  by_cases h : t.2.2 = elem <;> simp [h]
set_option maxRecDepth 100000 in
set_option maxHeartbeats 4000000 in
theorem drop1_c (b3 : Nat) (elem : Int) (x : Tg) (V : World) (h : V.cell? ⟨b3, 0, none⟩ = some (.int .i64 elem)) :
    Calls Try.prog 32 #[.agg #[.int .i64 x.1, .int .i64 x.2.1, .int .i64 x.2.2], .pointer (some ⟨b3, 0, none⟩)] V (Gave (.bool (isElem elem x)) V) := by
  obtain ⟨x0, x1, x2⟩ := x
  simp only
  have b1 := low_lit V (.cells #[.int .i64 x0, .int .i64 x1, .int .i64 x2] 37)
  have c3 := (b1.cell (World.block_lt_of_cell? _ _ h)).trans h
  have B1 := Lib.hid b1
  obtain ⟨r, hr⟩ : ∃ r, (x2 == elem) = r := ⟨_, rfl⟩
  have E := Lib.hid (show isElem elem (x0, x1, x2) = r by rw [← hr]; unfold isElem; by_cases e : x2 = elem <;> simp [e])
  clear h b1
  go_enter Try.func32, Try.ntmps32
  go_wp2
  go_ret
  exact ⟨by rw [E.out]; rfl, B1.out⟩
theorem two_off {w : World} {g q : Nat} {x y : Value} (h : w.cell? ⟨q, 0, none⟩ = some x ∧ w.cell? ⟨q, 1, none⟩ = some y) (h1 : q ≠ g) (u v : Value) :
    ((w.setCell ⟨g, 0, none⟩ u).setCell ⟨g, 1, none⟩ v).cell? ⟨q, 0, none⟩ = some x ∧ ((w.setCell ⟨g, 0, none⟩ u).setCell ⟨g, 1, none⟩ v).cell? ⟨q, 1, none⟩ = some y :=
  have f : ∀ {b o : Nat} {z : Value}, b ≠ g → w.cell? ⟨b, o, none⟩ = some z → ((w.setCell ⟨g, 0, none⟩ u).setCell ⟨g, 1, none⟩ v).cell? ⟨b, o, none⟩ = some z := fun hb hz =>
    far_cell (far_cell hz (fun e => hb (by injection e))) (fun e => hb (by injection e))
  ⟨f h1 h.1, f h1 h.2⟩
theorem own_ge {W : World} {B : Nat} {A : Option Addr} {n c : Nat} {l : List Tg} (h : Tab tgE W B tT (.slice A n c) l) : ∀ a, A = some a → B ≤ a.block := fun a ha => by
  subst ha
  exact (h.lt a.block rfl).1
theorem ownz_ge {W : World} {B : Nat} {A : Option Addr} {n c : Nat} {l : List Int} (h : ZTab W B (.slice A n c) l) : ∀ a, A = some a → B ≤ a.block := fun a ha => by
  subst ha
  exact (h.lt a.block rfl).1
theorem ztab_cap {W : World} {B : Nat} {A : Option Addr} {n c : Nat} {l : List Int} (h : ZTab W B (.slice A n c) l) (hn : l.length = n) : n ≤ c ∧ c ≤ 9223372036854775807 := by
  obtain ⟨A', c', h1, h2, h3⟩ := h.form
  injection h1 with e1 e2 e3
  subst e3
  unfold maxLen at h3
  omega
theorem tab_cap {W : World} {B : Nat} {A : Option Addr} {n c : Nat} {l : List Tg} (h : Tab tgE W B tT (.slice A n c) l) (hn : l.length = n) : n ≤ c ∧ c ≤ 9223372036854775807 := by
  obtain ⟨A', c', h1, h2, h3⟩ := h.form
  injection h1 with e1 e2 e3
  subst e3
  unfold maxLen at h3
  omega
set_option maxRecDepth 100000 in
set_option maxHeartbeats 32000000 in
theorem dropSpec : DropSpec := fun H S nh ch ns cs b elem V p mh ms e h hf he hp hmh hms => by
  have g1 := HG.new h rfl
  have b1 := low_lit V (bagO H S nh ch ns cs)
  have GW := World.block_lt_of_cell? _ _ g1.1
  obtain ⟨w1, hw1⟩ : ∃ w1, V.alloc (.cells #[.slice H nh ch, .slice S ns cs] 25) = w1 := ⟨_, rfl⟩
  rw [hw1] at g1 b1 GW
  have g2 := g1.alloc (.cells #[.int .i64 elem] 3)
  have k2 := Known.made w1 3 #[.int .i64 elem]
  have b2 := b1.trans ((low_lit w1 (.cells #[.int .i64 elem] 3)).mono b1.size)
  obtain ⟨w2, hw2⟩ : ∃ w2, w1.alloc (.cells #[.int .i64 elem] 3) = w2 := ⟨_, rfl⟩
  rw [hw2] at g2 b2 k2
  have g3 := g2.alloc zeroO
  have k3 := k2.later (low_lit w2 zeroO)
  have b3 := b2.trans ((low_lit w2 zeroO).mono b2.size)
  have kr := Known.made w2 tB #[.slice none 0 0, .slice none 0 0]
  have L12 := k2.lt
  have SW : V.heap.size ≤ w2.heap.size := b2.size
  obtain ⟨w3, hw3⟩ : ∃ w3, w2.alloc (.cells #[.slice none 0 0, .slice none 0 0] 25) = w3 := ⟨_, rfl⟩
  rw [hw3] at g3 b3 k3 kr
  have G3 := Lib.hid g3
  have B3 := Lib.hid b3
  have K3 := Lib.hid k3
  have KR := Lib.hid kr
  have L23 := Lib.hid kr.lt
  have LH := Lib.hid h.lenH
  have LS := Lib.hid h.lenS
  have FH := Lib.hid h.fit
  have bh := h.bh
  have bs := h.bs
  obtain ⟨r, hr⟩ : ∃ r, okB b = r := ⟨_, rfl⟩
  have R := Lib.hid (rightSpec H S nh ch ns cs b w3 r g3.2.2 hr)
  obtain ⟨z0, z1, -⟩ := g3
  clear h g1 g2 b1 b2 b3 k2 k3 kr
  cases r with
  | false =>
    obtain rfl : 1 = e := by rw [← he]; unfold okE; rw [hr]; rfl
    obtain rfl : ([], []) = p := by rw [← hp]; unfold dropR; rw [hr]; rfl
    obtain rfl : 0 = mh := hmh
    obtain rfl : 0 = ms := hms
    clear he hr hp
    go_enter Try.func11, Try.ntmps11
    go_wp2_with fail
    refine R.out.mono ?_
    rintro x w4 ⟨rfl, hb⟩
    have K4 := KR.out.later hb
    have B4 := Lib.hid hb
    have c0 := K4.cell 0
    have c1 := K4.cell 1
    have f0 := K4.free 0
    have f1 := K4.free 1
    have KK := Lib.hid ((K4.put 0 (.slice none 0 0)).put 1 (.slice none 0 0))
    simp at c0 c1
    clear hb K4 hw1 hw2 hw3 z0 z1
    go_wp2_with fail
    refine bodyPost_ret (v := .tuple #[.agg #[.slice none 0 0, .slice none 0 0], .int .i64 1]) ?_ rfl (bad_out B3.out B4.out 1 w2.heap.size SW)
    exact results_row2 rfl _ _ w2.heap.size tB _ (0, 0) _ rfl KK.out fieldsBag sizeBag rfl
  | true =>
    have ok := okB_iff.1 hr
    obtain rfl : 0 = e := by rw [← he]; unfold okE; rw [hr]; rfl
    obtain rfl : dropB b elem = p := by rw [← hp]; unfold dropR; rw [hr]; rfl
    obtain rfl : ns = ms := by rw [← hms]; exact LS.out.symm
    have MH := Lib.hid (show (dropB b elem).1.length = mh from hmh)
    have hmany : nh ≤ 400 := by have := ok.many; have := LH.out; omega
    have hwide : ns ≤ 16 := by have := ok.wide; have := LS.out; omega
    clear he hr hmh ok
    go_enter Try.func11, Try.ntmps11
    go_wp2_with fail
    refine R.out.mono ?_
    rintro x w ⟨rfl, hb⟩
    have B4 := Lib.hid hb
    have G4 := Lib.hid (G3.out.below hb)
    have K4 := Lib.hid (K3.out.later hb)
    have KR4 := Lib.hid (KR.out.later hb)
    have L4 := Lib.hid hb.size
    clear hw1 hw2 hw3 z0 z1 hb
    have EC := (show w.cell? ⟨w1.heap.size, 0, none⟩ = some (.int .i64 elem) by have := K4.out.cell 0; simpa using this)
    have PR := Lib.hid (show Pred w.heap.size w 32 #[.pointer (some ⟨w1.heap.size, 0, none⟩)] b.1 (isElem elem) from fun V x _ hV => drop1_c w1.heap.size elem x V ((hV.cell (World.block_lt_of_cell? _ _ EC)).trans EC))
    have RH := Lib.hid G4.out.2.2.has
    have RS := Lib.hid G4.out.2.2.saw
    have SK := Lib.hid (show ∀ v, Below w.heap.size w v → v.cell? ⟨V.heap.size, 0, none⟩ = some (.slice H nh ch) ∧ v.cell? ⟨V.heap.size, 1, none⟩ = some (.slice S ns cs) from fun v hb => ⟨(G4.out.below hb).1, (G4.out.below hb).2.1⟩)
    have CT := Lib.hid (fun (v : World) (hb : Below w.heap.size w v) => clone_tg H b.1 nh ch v LH.out (by omega) (RH.out.below hb))
    have CI := Lib.hid (fun (v : World) (hb : Below w.heap.size w v) => clone_z S b.2 ns cs v LS.out (by omega) (RS.out.below hb))
    have DT := Lib.hid (fun (v : World) (A : Option Addr) (c : Nat) (hT : Tab tgE v w.heap.size tT (.slice A nh c) b.1) (hb : Below w.heap.size w v) => deleteP_c 32 #[.pointer (some ⟨w1.heap.size, 0, none⟩)] (enters_of Try.func32 (by kernel_rfl) rfl) w.heap.size w A b.1 nh c (isElem elem) v LH.out (by omega) hT PR.out hb hb.size)
    have KD := Lib.hid (below_drew (Below.refl w.heap.size w))
    obtain ⟨z0, z1, -⟩ := G4.out
    have NE := Nat.ne_of_lt (Nat.lt_trans GW L12)
    clear EC
    go_wp2_with fail
    go_upto_region 4 with fail
    go_region_held3 (fun w' => w'.cell? ⟨V.heap.size, 0, none⟩ = some (.slice H nh ch) ∧ w'.cell? ⟨V.heap.size, 1, none⟩ = some (.slice S ns cs)) (first | (with_reducible exact SS.out) | (with_reducible exact SK.out _ KC.out) | (with_reducible exact SK.out _ KB.out) | (with_reducible exact SK.out _ KA.out) | (with_reducible exact SK.out _ KD.out) | go_keep)
      (first
        | (go_at_call 19; refine (CT.out _ KD.out).mono ?_; rintro e wA ⟨A7, c7, rfl, hT, hb⟩; have KA := Lib.hid (show Below w.heap.size w wA from below_undrewO hb); have TA := Lib.hid (show Tab tgE wA w.heap.size tT (.slice A7 nh c7) b.1 from hT); clear hT hb)
        | (go_at_call 33; refine (DT.out wA A7 c7 TA.out KA.out).mono ?_; rintro e wB ⟨A9, m9, hm9, hc9, rfl, hT9, hb9⟩; have KB := Lib.hid (KA.out.trans hb9); have T9 := Lib.hid hT9; have M9 := Lib.hid hm9; clear hT9 hb9 hm9 hc9)
        | (go_at_call 17; refine (CI.out wB KB.out).mono ?_; rintro e wC ⟨A5, c5, rfl, hz, hb⟩; have KC := Lib.hid (KB.out.trans (hb.mono KB.out.size)); have Z5 := Lib.hid hz; have T95 := Lib.hid (T9.out.later hb); have KWC := Lib.hid (KR4.out.later KC.out); have kw0 := KWC.out.cell 0; have kw1 := KWC.out.cell 1; have kf0 := KWC.out.free 0; have kf1 := KWC.out.free 1; simp at kw0 kw1; have SS := Lib.hid (two_off (SK.out _ KC.out) NE (.slice A9 m9 c7) (.slice A5 ns c5)); clear hz hb))
    all_goals
      go_wp2
      have KP := (KWC.out.put 0 (.slice A9 m9 c7)).put 1 (.slice A5 ns c5)
      have MM := M9.out
      have T9 := T95.out
      rw [keep_isElem] at MM T9
      obtain rfl : m9 = mh := by rw [← MM, ← MH.out]; rfl
      refine bodyPost_ret (v := .tuple #[.agg #[.slice A9 m9 c7, .slice A5 ns c5], .int .i64 0]) ?_ rfl ⟨A9, A5, c7, c5, rfl, ?_, ?_⟩
      · exact results_row2 rfl _ _ w2.heap.size tB _ (0, 0) _ rfl KP fieldsBag sizeBag rfl
      · have hml : m9 ≤ 400 := by
          have h1 : (b.1.filter (isNot elem)).length ≤ b.1.length := List.length_filter_le _ _
          have := LH.out
          omega
        have hne : ∀ x : Nat, w.heap.size ≤ x → x ≠ w2.heap.size := fun x hx => by have h1 := L23.out; have h2 := L4.out; omega
        refine ⟨MM, LS.out, tab_cap T9 MM, ztab_cap Z5.out LS.out, by omega, by omega, ?_, ?_, fun t ht => FH.out t (List.mem_filter.1 ht).1⟩
        · exact (T9.reads.off (fun a ha => hne _ (own_ge T9 a ha)) _).off (fun a ha => hne _ (own_ge T9 a ha)) _
        · exact (Z5.out.reads.off (fun a ha => hne _ (Nat.le_trans KB.out.size (ownz_ge Z5.out a ha))) _).off (fun a ha => hne _ (Nat.le_trans KB.out.size (ownz_ge Z5.out a ha))) _
      · exact ((B3.out.trans ((B4.out.mono B3.out.size).trans (KC.out.mono (Nat.le_trans B3.out.size B4.out.size)))).setCell (p := ⟨w2.heap.size, 0, none⟩) SW _).setCell (p := ⟨w2.heap.size, 1, none⟩) SW _

/-! ### Sort and Compact of numbers -/
section
open Go.Sort (putRow mapBlock Holds)
theorem below_putZ {B g : Nat} {enc : Int → Value} {d : Array Int} {W : World} {q : Nat} (hB : B ≤ g) : Below B W (putRow enc (Sort.ahead W q) g 0 d) := by
  refine ⟨rfl, rfl, rfl, by simp [putRow, mapBlock, Sort.ahead], fun b hb => ?_⟩
  simp only [putRow, mapBlock, Sort.ahead, Array.getElem?_modify]
  rw [if_neg (by omega)]
theorem below_growZ {B : Nat} {W V : World} (h : Below B W V) (hB : B ≤ V.heap.size) (os : Array Obj) : Below B W (grow V os) :=
  ⟨h.os, h.tape, h.output, Nat.le_trans h.size (by simp [grow]), fun b hb => by
    rw [← h.block b hb]; simp only [grow]; rw [Array.getElem?_append_left (by omega)]⟩
def sortZ (xs : List Int) : List Int := xs.mergeSort fun x y => decide (x ≤ y)
theorem sortZ_len (xs : List Int) : (sortZ xs).length = xs.length := (List.mergeSort_perm _ _).length_eq
theorem sortZ_rise (xs : List Int) : ∀ i j, i < j → j < (sortZ xs).length → (sortZ xs).toArray[i]! ≤ (sortZ xs).toArray[j]! := fun i j hij hj => by
  have h := List.pairwise_mergeSort (le := fun x y : Int => decide (x ≤ y)) (fun a b c h1 h2 => by simp at *; omega) (fun a b => by simp; omega) xs
  have := List.pairwise_iff_getElem.1 h i j (by have h : i < (sortZ xs).length := by omega
                                                exact h) hj hij
  rw [getElem!_pos _ i (by simpa using (show i < (sortZ xs).length by omega)), getElem!_pos _ j (by simpa using hj)]
  exact of_decide_eq_true this
theorem compact_setOf (xs : List Int) : Lib.compact (sortZ xs) = setOf xs := by
  have hr := sortZ_rise xs
  refine (setOf_is ⟨?_, fun x => ?_⟩).symm
  · unfold Lib.compact Lib.compactUpTo
    rw [List.pairwise_map]
    refine List.Pairwise.imp_of_mem ?_ (List.Pairwise.filter _ (List.pairwise_lt_range (n := (sortZ xs).length)))
    intro i j hi hj hij
    obtain ⟨hj1, hj2⟩ := List.mem_filter.1 hj
    have hjn := List.mem_range.1 hj1
    have hne : (sortZ xs).toArray[j]! ≠ (sortZ xs).toArray[j - 1]! := by
      unfold Lib.keeps at hj2
      rw [decide_eq_true_eq] at hj2
      rcases hj2 with h | h
      · omega
      · exact h
    have h1 := hr (j - 1) j (by omega) hjn
    have h2 : (sortZ xs).toArray[i]! ≤ (sortZ xs).toArray[j - 1]! := by
      by_cases e : i = j - 1
      · rw [e]; exact Int.le_refl _
      · exact hr i (j - 1) (by omega) (by omega)
    show (sortZ xs).toArray[i]! < (sortZ xs).toArray[j]!
    omega
  · have hm : x ∈ sortZ xs ↔ x ∈ xs := List.mem_mergeSort
    rw [← hm]
    have e : x ∈ sortZ xs ↔ ∃ i, i < (sortZ xs).length ∧ (sortZ xs).toArray[i]! = x := by
      rw [List.mem_iff_getElem]
      constructor
      · rintro ⟨i, hi, e⟩
        exact ⟨i, hi, by rw [getElem!_pos _ i (by simpa using hi)]; simpa using e⟩
      · rintro ⟨i, hi, e⟩
        exact ⟨i, hi, by rw [getElem!_pos _ i (by simpa using hi)] at e; simpa using e⟩
    rw [e]
    unfold Lib.compact Lib.compactUpTo
    rw [List.mem_map]
    constructor
    · rintro ⟨i, hi, e⟩
      exact ⟨i, List.mem_range.1 (List.mem_filter.1 hi).1, e⟩
    · rintro ⟨i, hi, e⟩
      induction i with
      | zero => exact ⟨0, List.mem_filter.2 ⟨List.mem_range.2 hi, by simp [Lib.keeps]⟩, e⟩
      | succ i ih =>
        by_cases h : (sortZ xs).toArray[i + 1]! = (sortZ xs).toArray[i]!
        · exact ih (by omega) (by rw [← h]; exact e)
        · exact ⟨i + 1, List.mem_filter.2 ⟨List.mem_range.2 hi, decide_eq_true (.inr h)⟩, e⟩
/-- The sorted row lies there. -/
def SortedAt (B : Nat) (A : Option Addr) (n : Nat) (xs : List Int) (w : World) : Prop := n = 0 ∨ ∃ g, A = some ⟨g, 0, none⟩ ∧ B ≤ g ∧ g < w.heap.size ∧ Holds (Value.int .i64) w g 0 (sortZ xs).toArray
theorem sort_z (B : Nat) (A : Option Addr) (xs : List Int) (n c : Nat) (W : World) (hn : xs.length = n) (hb : n ≤ 1000) (hT : ZTab W B (.slice A n c) xs) (hB : B ≤ W.heap.size) :
    Calls Try.prog 34 #[.slice A n c] W fun e w' => e = .returned (.tuple #[]) ∧ SortedAt B A n xs w' ∧ Below B W w' := by
  rcases Nat.eq_zero_or_pos n with h0 | h0
  · subst h0
    refine (Try.slices_Sort_int_none A c W).mono ?_
    rintro e w ⟨rfl, rfl⟩
    exact ⟨rfl, .inl rfl, Below.refl _ _⟩
  · obtain ⟨g, x, rfl, hBg, hgl, -⟩ := hT.put hn (k := 0) h0
    have hH : Holds (Value.int .i64) W g 0 xs.toArray := by
      intro j hj
      have hj' : j < xs.length := by simpa using hj
      obtain ⟨g', y, e, -, -, hy, hc, hf, -⟩ := hT.put hn (k := j) (by omega)
      injection e with e
      injection e with e1
      subst e1
      refine ⟨?_, by rw [Nat.zero_add]; exact hf⟩
      rw [Nat.zero_add, hc, getElem!_pos xs.toArray j hj]
      have := (List.getElem?_eq_some_iff.1 hy).2
      simp [← this]
    have H := Try.slices_Sort_int g 0 c xs W hH hgl (by omega)
    rw [hn] at H
    refine H.mono ?_
    rintro e w ⟨rfl, q, os, rfl⟩
    have hp := Sort.holds_putRow (Value.int .i64) (Sort.ahead W q) g 0 xs.toArray (sortZ xs).toArray (Sort.holds_ahead _ _ _ _ _ _ hH) (by simp [sortZ_len])
    have hbb : Below B W (putRow (Value.int .i64) (Sort.ahead W q) g 0 (sortZ xs).toArray) := below_putZ hBg
    have hsz : (putRow (Value.int .i64) (Sort.ahead W q) g 0 (sortZ xs).toArray).heap.size = W.heap.size := by simp [putRow, Sort.mapBlock, Sort.ahead]
    have hgr : Below W.heap.size (putRow (Value.int .i64) (Sort.ahead W q) g 0 (sortZ xs).toArray) (grow (putRow (Value.int .i64) (Sort.ahead W q) g 0 (sortZ xs).toArray) os) := below_growZ (Below.refl _ _) (by rw [hsz]; exact Nat.le_refl _) os
    refine ⟨rfl, .inr ⟨g, rfl, hBg, Nat.lt_of_lt_of_le hgl (Nat.le_trans (Nat.le_of_eq hsz.symm) hgr.size), fun j hj => ?_⟩, below_growZ hbb (by rw [hsz]; omega) os⟩
    obtain ⟨h1, h2⟩ := hp j hj
    exact ⟨(hgr.cell (p := ⟨g, 0 + j, none⟩) hgl).trans h1, (Below.frozen (p := ⟨g, 0 + j, none⟩) hgr hgl).trans h2⟩
theorem compact_z (B : Nat) (A : Option Addr) (xs : List Int) (n c m : Nat) (W : World) (hn : xs.length = n) (hb : n ≤ 1000) (hc : n ≤ c) (hS : SortedAt B A n xs W) (hm : (setOf xs).length = m) :
    Calls Try.prog 35 #[.slice A n c] W fun e w' => e = .returned (.slice A m c) ∧ Reads w' A (ints (setOf xs)) ∧ Below B W w' := by
  rcases hS with h0 | ⟨g, rfl, hBg, hgl, hH⟩
  · subst h0
    obtain rfl := List.eq_nil_of_length_eq_zero hn
    obtain rfl : 0 = m := hm
    refine (Try.slices_Compact_int_empty A c W).mono ?_
    rintro e w ⟨rfl, rfl⟩
    exact ⟨rfl, Reads.nil, Below.refl _ _⟩
  · have H := Try.slices_Compact_int g 0 c (sortZ xs) W hH (by rw [sortZ_len]; omega) (by rw [sortZ_len]; omega)
    rw [compact_setOf, hm, sortZ_len, hn] at H
    refine H.mono ?_
    rintro e w ⟨rfl, q, rfl⟩
    have hml : m ≤ n := by rw [← hm, ← hn]; exact setOf_len xs
    have hp := Sort.holds_putRow (Value.int .i64) (Sort.ahead W q) g 0 (sortZ xs).toArray (setOf xs ++ List.replicate (n - m) 0).toArray (Sort.holds_ahead _ _ _ _ _ _ hH) (by simp [sortZ_len, hm, hn]; omega)
    refine ⟨rfl, fun k v hk => ?_, below_putZ hBg⟩
    rw [List.getElem?_map] at hk
    rcases Nat.lt_or_ge k m with hkm | hkm
    · obtain ⟨x, hx⟩ : ∃ x, (setOf xs)[k]? = some x := ⟨_, List.getElem?_eq_getElem (by omega)⟩
      rw [hx] at hk
      injection hk with hk
      subst hk
      have h5 := (hp k (by simp [hm]; omega)).1
      refine ⟨g, 0, rfl, World.block_lt_of_cell? _ _ h5, h5.trans ?_⟩
      rw [getElem!_pos _ k (by simp [hm]; omega)]
      have := (List.getElem?_eq_some_iff.1 hx).2
      simp [List.getElem_append_left (show k < (setOf xs).length by omega), this]
    · rw [List.getElem?_eq_none (by omega)] at hk; cases hk
end

/-! ### All -/
set_option maxRecDepth 100000 in
set_option maxHeartbeats 16000000 in
theorem allSpec : AllSpec := fun H S nh ch ns cs b V l n e h he hl hn => by
  have g1 := HG.new h rfl
  have b1 := low_lit V (bagO H S nh ch ns cs)
  obtain ⟨w1, hw1⟩ : ∃ w1, V.alloc (.cells #[.slice H nh ch, .slice S ns cs] 25) = w1 := ⟨_, rfl⟩
  rw [hw1] at g1 b1
  have G1 := Lib.hid g1
  have B1 := Lib.hid b1
  have LH := Lib.hid h.lenH
  obtain ⟨r, hr⟩ : ∃ r, okB b = r := ⟨_, rfl⟩
  have R := Lib.hid (rightSpec H S nh ch ns cs b w1 r g1.2.2 hr)
  obtain ⟨z0, z1, -⟩ := g1
  cases r with
  | false =>
    obtain rfl : 1 = e := by rw [← he]; unfold okE; rw [hr]; rfl
    obtain rfl : [] = l := by rw [← hl]; unfold allR; rw [hr]; rfl
    obtain rfl : 0 = n := hn
    clear he hr hl h b1
    go_enter Try.func12, Try.ntmps12
    go_wp2_with fail
    refine R.out.mono ?_
    rintro x w2 ⟨rfl, hb⟩
    have B2 := Lib.hid hb
    clear hb hw1 z0 z1
    go_wp2
    go_ret2
    exact ⟨none, 0, rfl, by simp, Reads.nil, B1.out.trans (B2.out.mono B1.out.size)⟩
  | true =>
    have ok := okB_iff.1 hr
    obtain rfl : 0 = e := by rw [← he]; unfold okE; rw [hr]; rfl
    obtain rfl : elems b = l := by rw [← hl]; unfold allR; rw [hr]; rfl
    have hmany : nh ≤ 400 := by have := ok.many; have := LH.out; omega
    have NL := Lib.hid (show (elems b).length = n from hn)
    clear he hr hn h b1 ok
    go_enter Try.func12, Try.ntmps12
    go_wp2_with fail
    refine R.out.mono ?_
    rintro x w2 ⟨rfl, hb⟩
    have B2 := Lib.hid hb
    have G2 := Lib.hid (G1.out.below hb)
    clear hb hw1 z0 z1
    obtain ⟨z0, z1, -⟩ := G2.out
    go_wp2_with fail
    clear z0 z1
    go_loopw [4, 13] (fun s i wr => ∃ (k : Nat) (A : Option Addr) (c : Nat), k ≤ nh ∧ i = .int .i64 k ∧ s = .slice A k c ∧ ZTab wr w2.heap.size (.slice A k c) ((b.1.take k).map (fun t : Tg => t.2.2)) ∧ Below w2.heap.size w2 wr) (fun _ i _ => nh - (Go.RowKit.intOf i).toNat)
    case atStart => exact ⟨0, none, 0, by omega, rfl, rfl, by simpa using ZTab.nil _ _, Below.refl _ _⟩
    case round =>
      obtain ⟨k, A, c, hk, rfl, rfl, hT, hB⟩ := hrel
      have HT := Lib.hid hT
      have HB := Lib.hid hB
      clear hT
      by_cases hlt : k < nh
      · obtain ⟨⟨x0, x1, x2⟩, hx⟩ : ∃ x, b.1[k]? = some x := ⟨_, List.getElem?_eq_getElem (by rw [LH.out]; exact hlt)⟩
        obtain ⟨bb, o, rfl, _, c0, c1, c2⟩ := tg_at ((G2.out.below hB).2.2.has) hx
        simp only at c0 c1 c2
        have TK := Lib.hid (show (b.1.take (k + 1)).map (fun t : Tg => t.2.2) = (b.1.take k).map (fun t : Tg => t.2.2) ++ [x2] by rw [List.take_add_one, hx, List.map_append]; rfl)
        have TL := Lib.hid (show ((b.1.take k).map (fun t : Tg => t.2.2)).length = k by rw [List.length_map, List.length_take, LH.out]; omega)
        have j1 : (k : Int) < (nh : Int) := by omega
        obtain ⟨d0, d1, d2⟩ := box_tg (w := wr) (x0, x1, x2)
        simp only at d0 d1 d2
        have HT2 := Lib.hid (HT.out.alloc (.cells #[.int .i64 x0, .int .i64 x1, .int .i64 x2] 37))
        have HB2 := Lib.hid (HB.out.alloc HB.out.size (.cells #[.int .i64 x0, .int .i64 x1, .int .i64 x2] 37))
        clear hx hB
        go_wp2_with (at_builtin; refine wpList_append_z rfl _ _ (by rfl) (y := x2) (v := .slice A k c) rfl rfl (by simp) HT2.out TL.out (by omega) HB2.out.size HB2.out (Nat.le_refl _) ?_; intro A4 c4 w4 Z4 G4 B4)
        go_roundw
        case rel => exact ⟨k + 1, A4, c4, by omega, by go_num, rfl, by rw [TK.out]; exact Z4.out, B4.out⟩
        case measure => simp [Go.RowKit.intOf]; omega
      · obtain rfl : k = nh := by omega
        have TL := Lib.hid (show (b.1.map (fun t : Tg => t.2.2)).length = k by rw [List.length_map, LH.out])
        have TX : (b.1.take k).map (fun t : Tg => t.2.2) = b.1.map (fun t : Tg => t.2.2) := by rw [List.take_of_length_le (Nat.le_of_eq LH.out)]
        have CC := HT.out.form
        have HT3 := HT.out
        rw [TX] at HT3 CC
        have CK := Lib.hid (ztab_cap HT3 TL.out)
        have SZ := Lib.hid (sort_z w2.heap.size A (b.1.map (fun t : Tg => t.2.2)) k c wr TL.out (by omega) HT3 HB.out.size)
        clear TX CC HT3 hB
        go_wp2_with fail
        refine SZ.out.mono ?_
        rintro e w3 ⟨rfl, hs, hb3⟩
        have CZ := Lib.hid (compact_z w2.heap.size A (b.1.map (fun t : Tg => t.2.2)) k c n w3 TL.out (by omega) CK.out.1 hs (show (setOf (b.1.map (fun t : Tg => t.2.2))).length = n from NL.out))
        have B3 := Lib.hid hb3
        clear hs hb3
        go_wp2_with fail
        refine CZ.out.mono ?_
        rintro e w4 ⟨rfl, hr4, hb4⟩
        have R4 := Lib.hid hr4
        have B4 := Lib.hid hb4
        have NK : n ≤ k := by have h1 := NL.out; have h2 := elems_len b; have h3 := LH.out; omega
        clear hr4 hb4
        go_wp2
        go_ret2
        exact ⟨A, c, rfl, by have := CK.out; omega, R4.out, B1.out.trans ((B2.out.trans (((HB.out.trans B3.out).trans B4.out).mono B2.out.size)).mono B1.out.size)⟩
end Go.Proofs.Ythebilmeehnkpaa.Ors
