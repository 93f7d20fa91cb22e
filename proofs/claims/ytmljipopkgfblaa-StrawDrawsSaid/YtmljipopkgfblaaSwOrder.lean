/-
  StrawOrder over what the laws take of the program.
-/
import Derived.Test.YtmljipopkgfblaaSwScale
namespace Go.Proofs.Ytmljipopkgfblaa.Straw
set_option linter.unusedVariables false
set_option linter.unusedSimpArgs false
open Go.RowKit Mem
open Go.Sort (grow alloc_eq_grow grow_grow)

def encI2 (a : It) : List Value := [.int .i64 a.1, .int .i64 a.2]
theorem holds_w {B g n cap : Nat} {es : List It} {W : World} (hT : WTab W B (.slice (some ⟨g, 0, none⟩) n cap) es) (hn : es.length = n) : Sort.HoldsK encI2 2 W g 0 es.toArray := by
  have hd : es.toArray.size = n := by simpa using hn
  intro t ht
  rw [Sort.size_flatK, hd] at ht
  have hk : t / 2 < es.length := by omega
  obtain ⟨f0, f1⟩ := flat_at (List.getElem?_eq_getElem hk)
  have hT' := hT
  unfold WTab at hT'
  rw [hn] at hT'
  refine ⟨?_, by rw [Nat.zero_add]; exact hT.free hn.symm t⟩
  rw [Nat.zero_add, World.ownsRow.cellAt hT' t (by omega), Sort.get_flatK _ _ _ _ (by rw [hd]; exact ht), getElem!_pos es.toArray (t / 2) (by simpa using hk)]
  have hm : t % 2 = 0 ∨ t % 2 = 1 := by omega
  rcases hm with hm | hm
  · rw [show t / 2 * 2 = t by omega] at f0
    rw [hm, f0]; simp [encI2]
  · rw [show t / 2 * 2 + 1 = t by omega] at f1
    rw [hm, f1]; simp [encI2]
theorem wrds_held {W : World} {g : Nat} {l : List It} (h : Sort.HoldsK encI2 2 W g 0 l.toArray) : WRds W (some ⟨g, 0, none⟩) l := fun k t hk => by
  have hkl := (List.getElem?_eq_some_iff.1 hk).1
  have h1 := (Sort.HoldsK.cell h (i := k) (c := 0) (by simpa using hkl) (by omega)).1
  have h2 := (Sort.HoldsK.cell h (i := k) (c := 1) (by simpa using hkl) (by omega)).1
  have e : l.toArray[k]! = t := by
    rw [getElem!_pos _ k (by simpa using hkl)]
    have := List.getElem?_eq_some_iff.1 hk
    simpa using this.2
  rw [e] at h1 h2
  exact ⟨g, 0, rfl, World.block_lt_of_cell? _ _ h1, h1, h2⟩
theorem reverse_w (B : Nat) (A : Option Addr) (es : List It) (n cap : Nat) (W : World) (hn : es.length = n) (hbig : n ≤ 9223372036854775807) (hT : WTab W B (.slice A n cap) es) (hB : B ≤ W.heap.size) :
    Calls Try.prog 23 #[.slice A n cap] W fun e w' => e = .returned (.tuple #[]) ∧ WRds w' A es.reverse ∧ Below B W w' := by
  rcases Nat.eq_zero_or_pos n with h0 | h0
  · subst h0
    obtain rfl := List.eq_nil_of_length_eq_zero hn
    refine (AnyQ.slices_Reverse_empty Try.reverseIt A cap W).mono ?_
    rintro e w ⟨rfl, rfl⟩
    exact ⟨rfl, WRds.nil, Below.refl _ _⟩
  · obtain ⟨g, rfl, _, hg, hgl⟩ := hT.head (by omega)
    have hd : es.toArray.size = n := by simpa using hn
    have hH := holds_w hT hn
    have hcon := AnyQ.slices_Reverse Try.reverseIt 2 Try.isAgg38 Try.sizeOf38 encI2 (fun _ => rfl) (fun x v hv => by simp [encI2] at hv; rcases hv with rfl | rfl <;> rfl) g 0 cap es.toArray W hH (by rw [hd]; exact hbig)
    rw [hd] at hcon
    refine hcon.mono ?_
    rintro e w' ⟨rfl, q, hw⟩
    have hH' := Sort.holdsK_putRowK encI2 2 (Sort.ahead W q) g 0 es.toArray es.toArray.reverse (Sort.holdsK_ahead encI2 2 W q g 0 es.toArray hH) (by simp)
    rw [← hw] at hH'
    refine ⟨rfl, wrds_held (by simpa using hH'), ?_⟩
    subst hw
    refine ⟨rfl, rfl, rfl, by simp [Sort.putRowK, Sort.putRow, Sort.mapBlock], fun b hb => ?_⟩
    simp only [Sort.putRowK, Sort.putRow, Sort.mapBlock, Array.getElem?_modify]
    rw [if_neg (by omega)]; rfl
theorem valid_perm {l m : List It} (h : l.Perm m) (hv : Valid l) : Valid m :=
  ⟨by rw [← h.length_eq]; exact hv.1, fun a ha => hv.2.1 a (h.mem_iff.2 ha), hv.2.2.perm h.symm⟩
theorem some_perm {key : UInt64} {l m : List It} (h : l.Perm m) (many : Int) : (someE key l many = 0 ↔ someE key m many = 0) ∧ someL key l many = someL key m many := by
  have hz : ∀ {l m : List It}, l.Perm m → someE key l many = 0 → someE key m many = 0 := fun h he => by
    obtain ⟨h1, h2, h3⟩ := someE_zero.1 he
    exact someE_zero.2 ⟨valid_perm h h1, h2, by rw [← ids_perm h1.2.2 h]; exact h3⟩
  refine ⟨⟨hz h, hz h.symm⟩, ?_⟩
  by_cases he : someE key l many = 0
  · unfold someL
    rw [if_pos he, if_pos (hz h he), ids_perm (someE_zero.1 he).1.2.2 h]
  · unfold someL
    rw [if_neg he, if_neg (fun e => he (hz h.symm e))]
/-- Who weighs nothing is never told. -/
theorem none_told {key : UInt64} {l : List It} {many : Int} (h : someE key l many = 0) {a : It} (ha : a ∈ l) (h0 : a.2 = 0) : a.1 ∉ someL key l many := by
  intro hm
  unfold someL at hm
  rw [if_pos h] at hm
  obtain ⟨b, hb, hp, e⟩ := ids_mem.1 (List.mem_of_mem_take hm)
  have := (someE_zero.1 h).1.2.2.inj hb ha e
  subst this
  omega
set_option maxRecDepth 100000 in
set_option maxHeartbeats 8000000 in
theorem order_law (HS : SomeSpec) (HA : ∀ V, Calls Try.prog 16 #[] V (Law.Yes V)) (key : UInt64) (A : Option Addr) (l : List It) (n ca : Nat) (many : Int) (W : World) (hn : l.length = n) (hbig : n ≤ 8796093022208) (hca : n ≤ ca) (hx : WRds W A l) (hf : Fits l) :
    Calls Try.prog 6 #[.int .u64 key.toNat, .slice A n ca, .int .i64 many] W (Law.Yes W) := by
  have HAL := Lib.hid HA
  have HX := Lib.hid hx
  have HN := Lib.hid hn
  have HF := Lib.hid hf
  have FR : Hid (Fits l.reverse) := fun a ha => hf a (List.mem_reverse.1 ha)
  obtain ⟨z1, z2⟩ := some_perm (key := key) (List.reverse_perm l).symm many
  have V1 := Lib.hid (someE_vals key l many)
  have V2 := Lib.hid (someE_vals key l.reverse many)
  have LA := Lib.hid (someL_len key l many)
  have NT := Lib.hid (fun (h : someE key l many = 0) (a : It) (ha : a ∈ l) (h0 : a.2 = 0) => none_told h ha h0)
  have L0 := Lib.hid (fun (h : someE key l many ≠ 0) => (show someL key l many = [] by unfold someL; rw [if_neg h]))
  have LM := Lib.hid (fun (h : someE key l many = 0) => (show ((someL key l many).length : Int) = many ∧ 0 ≤ many by
    have := someE_zero.1 h
    unfold someL; rw [if_pos h, List.length_take]; omega))
  have S1 := Lib.hid (fun V (hb : Below W.heap.size W V) => HS key A l n ca many V hn (by unfold maxLen; omega) hca (hx.below hb) hf)
  have S2 := Lib.hid (fun V A2 c2 (hc : n ≤ c2) (hr : WRds V A2 l.reverse) => HS key A2 l.reverse n c2 many V (by rw [List.length_reverse]; exact hn) (by unfold maxLen; omega) hc hr FR)
  rw [← z2] at S2
  have Z1 := Lib.hid z1
  generalize hE1 : someE key l many = e1 at *
  generalize hE2 : someE key l.reverse many = e2 at *
  generalize hL1 : someL key l many = l1 at *
  generalize hn1 : l1.length = n1 at *
  have N1 := Lib.hid hn1
  have v1 := V1.out
  have v2 := V2.out
  clear hn hx hf HA HS hE1 hE2 hL1 hn1 z1 z2 V1 V2
  by_cases h1 : e1 = 0
  · subst h1
    obtain rfl := Z1.out.1 rfl
    obtain ⟨m1, m2⟩ := LM.out rfl
    have NT0 := Lib.hid (NT.out rfl)
    have m3 : (n1 : Int) = many := m1
    subst m3
    clear m1 m2 v1 v2 Z1 NT L0 LM
    go_enter Try.func6, Try.ntmps6
    go_wp2_with fail
    refine (HAL.out _).mono ?_
    rintro e w1 ⟨rfl, hb⟩
    have B1 := Lib.hid hb
    clear hb HAL
    go_wp2_with fail
    refine (clone_w A l n ca w1 HN.out hbig (HX.out.below B1.out)).mono ?_
    rintro e w2 ⟨A2, c2, rfl, hT, hc2, hb⟩
    have T2 := Lib.hid hT
    have SB := Lib.hid hb.size
    have S1W := Lib.hid B1.out.size
    have B2 := Lib.hid (B1.out.trans (hb.mono B1.out.size))
    clear hb hT B1
    go_wp2_with fail
    refine (reverse_w w1.heap.size A2 l n c2 w2 HN.out (by omega) T2.out SB.out).mono ?_
    rintro e w3 ⟨rfl, hr, hb⟩
    have R3 := Lib.hid hr
    have B3 := Lib.hid (B2.out.trans (hb.mono S1W.out))
    clear hr hb B2 T2 SB S1W
    go_wp2_with fail
    refine (S1.out _ B3.out).mono ?_
    rintro e w4 ⟨A4, c4, rfl, hr, hb⟩
    rw [N1.out]
    have R4 := Lib.hid (R3.out.below hb)
    have Q4 := Lib.hid hr
    have B4 := Lib.hid (B3.out.trans (hb.mono B3.out.size))
    clear hr hb B3 R3
    go_wp2_with fail
    refine (S2.out _ A2 c2 hc2 R4.out).mono ?_
    rintro e w5 ⟨A5, c5, rfl, hr, hb⟩
    rw [N1.out]
    have Q5 := Lib.hid hr
    have P5 := Lib.hid (Q4.out.below hb)
    have B5 := Lib.hid (B4.out.trans (hb.mono B4.out.size))
    have X5 := Lib.hid (HX.out.below (B4.out.trans (hb.mono B4.out.size)))
    clear hr hb B4 R4 Q4 S1 S2 HX hc2
    go_wp2
    go_loopw [45] (fun i wr => ∃ k : Nat, k ≤ n ∧ i = .int .i64 k ∧ Below w5.heap.size w5 wr) (fun i _ => n - (intOf i).toNat)
    case atStart => exact ⟨0, by omega, rfl, Below.refl _ _⟩
    case round =>
      obtain ⟨k, hk, rfl, hB⟩ := hrel
      have HB := Lib.hid hB
      by_cases hlt : k < n
      · have k1 : k < l.length := by rw [HN.out]; exact hlt
        obtain ⟨b, o, rfl, _, x0, x1⟩ := (X5.out.below hB).it k1
        have NU := Lib.hid (NT0.out l[k] (List.getElem_mem k1))
        generalize hu : l[k] = u at *
        obtain ⟨u0, u1⟩ := u
        have i1 : (k : Int) < (n : Int) := by omega
        obtain ⟨d0, d1⟩ := boxI wr (.int .i64 u0) (.int .i64 u1)
        have hba : Below wr.heap.size wr (wr.alloc (.cells #[.int .i64 u0, .int .i64 u1] 38)) := (Below.refl _ _).alloc (Nat.le_refl _) _
        have HBA := Lib.hid (hB.trans (hba.mono hB.size))
        clear hu k1 hB hba
        by_cases h0 : u1 = 0
        · have p1 : (u1 == 0) = true := by simp [h0]
          have CT := Lib.hid (contains_c A4 l1 n1 c4 u0 _ N1.out (by have := LA.out; omega) (P5.out.below HBA.out) false (decide_eq_false (NU.out h0)))
          clear h0
          go_wp2_with (go_at_call 24; refine CT.out.mono ?_; rintro e w' ⟨rfl, rfl⟩)
          go_roundw
          case rel => exact ⟨k + 1, by omega, by go_num, HBA.out⟩
          case measure => simp [intOf]; omega
        · have p1 : (u1 == 0) = false := by simp [h0]
          clear h0
          go_wp2
          go_roundw
          case rel => exact ⟨k + 1, by omega, by go_num, HBA.out⟩
          case measure => simp [intOf]; omega
      · have EQ := Lib.hid (equalZ_c A4 A5 l1 l1 n1 n1 c4 c5 wr N1.out N1.out (by have := LA.out; omega) (by have := LA.out; omega) (P5.out.below hB) (Q5.out.below hB))
        rw [show decide (l1 = l1) = true from decide_eq_true rfl] at EQ
        clear hB
        go_wp2_with (go_at_call 15; refine EQ.out.mono ?_; rintro e w7 ⟨rfl, hb⟩; have B7 := Lib.hid (HB.out.trans (hb.mono HB.out.size)); clear hb)
        go_ret
        exact ⟨rfl, B5.out.trans (B7.out.mono B5.out.size)⟩
  · have h2 : e2 ≠ 0 := fun e => h1 (Z1.out.2 e)
    have hl0 := L0.out h1
    subst hl0
    obtain rfl : n1 = 0 := N1.out.symm
    clear Z1 L0 NT LM N1 LA
    rcases v1 with rfl | rfl | rfl | rfl
    case inl => exact absurd rfl h1
    all_goals
      rcases v2 with rfl | rfl | rfl | rfl
      case inl => exact absurd rfl h2
    all_goals
      clear h1 h2
      go_enter Try.func6, Try.ntmps6
      go_wp2_with fail
      refine (HAL.out _).mono ?_
      rintro e w1 ⟨rfl, hb⟩
      have B1 := Lib.hid hb
      clear hb HAL
      go_wp2_with fail
      refine (clone_w A l n ca w1 HN.out hbig (HX.out.below B1.out)).mono ?_
      rintro e w2 ⟨A2, c2, rfl, hT, hc2, hb⟩
      have T2 := Lib.hid hT
      have SB := Lib.hid hb.size
      have S1W := Lib.hid B1.out.size
      have B2 := Lib.hid (B1.out.trans (hb.mono B1.out.size))
      clear hb hT B1
      go_wp2_with fail
      refine (reverse_w w1.heap.size A2 l n c2 w2 HN.out (by omega) T2.out SB.out).mono ?_
      rintro e w3 ⟨rfl, hr, hb⟩
      have R3 := Lib.hid hr
      have B3 := Lib.hid (B2.out.trans (hb.mono S1W.out))
      clear hr hb B2 T2 SB S1W
      go_wp2_with fail
      refine (S1.out _ B3.out).mono ?_
      rintro e w4 ⟨A4, c4, rfl, hr, hb⟩
      have R4 := Lib.hid (R3.out.below hb)
      have B4 := Lib.hid (B3.out.trans (hb.mono B3.out.size))
      clear hr hb B3 R3
      go_wp2_with fail
      refine (S2.out _ A2 c2 hc2 R4.out).mono ?_
      rintro e w5 ⟨A5, c5, rfl, hr, hb⟩
      have B5 := Lib.hid (B4.out.trans (hb.mono B4.out.size))
      clear hr hb B4 R4
      go_wp2
      go_ret
      exact ⟨rfl, B5.out⟩
end Go.Proofs.Ytmljipopkgfblaa.Straw
