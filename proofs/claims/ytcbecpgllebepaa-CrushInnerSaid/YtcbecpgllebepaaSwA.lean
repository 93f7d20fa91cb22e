/-
  Package straw: Wrong, positive.
-/
import Derived.Test.YtcbecpgllebepaaSwWrong
import Derived.Test.YtcbecpgllebepaaShFuncs
namespace Go.Proofs.Ytcbecpgllebepaa.Straw
set_option linter.unusedVariables false
set_option linter.unusedSimpArgs false
open Go.RowKit Mem

theorem mk_func (fn : Fn) (first cap : Array Value) (w : World) : (Instr.makeFunc fn first cap).run Try.prog w = .ok (.func fn first cap) w := rfl
set_option maxRecDepth 100000 in
theorem same_c (bx : Nat) (id : Int) (x : It) (V : World) (hk : V.cell? ⟨bx, 0, none⟩ = some (.int .i64 id)) :
    Calls Try.prog 55 #[.agg #[.int .i64 x.1, .int .i64 x.2], .pointer (some ⟨bx, 0, none⟩)] V (Gave (.bool (decide (x.1 = id))) V) := by
  obtain ⟨x0, x1⟩ := x
  have d1 := ((Below.refl V.heap.size V).alloc (Nat.le_refl _) (.cells #[.int .i64 x0, .int .i64 x1] 47)).cell (p := ⟨bx, 0, none⟩) (World.block_lt_of_cell? _ _ hk)
  rw [hk] at d1
  obtain ⟨e0, e1⟩ := boxI V (.int .i64 x0) (.int .i64 x1)
  by_cases h : x0 = id
  · have n1 : (x0 == id) = true := by simp [h]
    have E := Lib.hid (show decide ((x0, x1).1 = id) = true from decide_eq_true h)
    clear h
    go_enter Try.func55, Try.ntmps55
    go_wp2
    go_ret
    exact ⟨by rw [E.out]; rfl, (Below.refl _ _).alloc (Nat.le_refl _) _⟩
  · have n1 : (x0 == id) = false := by simp [h]
    have E := Lib.hid (show decide ((x0, x1).1 = id) = false from decide_eq_false h)
    clear h
    go_enter Try.func55, Try.ntmps55
    go_wp2
    go_ret
    exact ⟨by rw [E.out]; rfl, (Below.refl _ _).alloc (Nat.le_refl _) _⟩
theorem any_firsts (l : List It) (id : Int) : (l.any fun x => decide (x.1 = id)) = decide (id ∈ firsts l) := by
  rw [Bool.eq_iff_iff, List.any_eq_true, decide_eq_true_iff]
  unfold firsts
  rw [List.mem_map]
  constructor
  · rintro ⟨x, hx, h⟩; exact ⟨x, hx, of_decide_eq_true h⟩
  · rintro ⟨x, hx, h⟩; exact ⟨x, hx, decide_eq_true h⟩
theorem containsIt_c (b o n c bx : Nat) (l : List It) (id : Int) (W : World) (hn : n ≤ l.length) (hbig : n ≤ maxLen) (hb : b < W.heap.size) (hx : WRds W (some ⟨b, o, none⟩) l) (hk : W.cell? ⟨bx, 0, none⟩ = some (.int .i64 id)) :
    Calls Try.prog 19 #[.slice (some ⟨b, o, none⟩) n c, .func (.func 55) #[] #[.pointer (some ⟨bx, 0, none⟩)]] W (Gave (.bool (decide (id ∈ firsts (l.take n)))) W) := by
  rw [← any_firsts]
  unfold maxLen at hbig
  refine AnyQ.slices_ContainsFunc Try.containsIt 2 Try.isAgg47 Try.sizeOf47 enc2 (fun _ => rfl) (fun x => decide (x.1 = id)) 55 #[.pointer (some ⟨bx, 0, none⟩)] (enters_of Try.func55 (by kernel_rfl) rfl) b o n c l W
    (fun V x hb => (same_c bx id x V ((hb.cell (p := ⟨bx, 0, none⟩) (World.block_lt_of_cell? _ _ hk)).trans hk)).mono fun _ _ ⟨h, hb2⟩ => ⟨h, hb.trans (hb2.mono hb.size)⟩) hn (by omega) hb (fun j hj i v hv => ?_)
  have e := List.getElem?_eq_getElem hj
  obtain ⟨b', o', e1, _, h0, h1⟩ := hx j _ e
  injection e1 with e1
  injection e1 with e1 e2
  subst e1 e2
  rw [getElem!_pos l j hj] at hv
  rcases i with _ | _ | i
  · simp [enc2] at hv; subst hv; exact h0
  · simp [enc2] at hv; subst hv; exact h1
  · simp [enc2] at hv
theorem box_old {V : World} {p : Addr} {v : Value} (o : Obj) (h : V.cell? p = some v) : (V.alloc o).cell? p = some v :=
  (((Below.refl V.heap.size V).alloc (Nat.le_refl _) o).cell (World.block_lt_of_cell? _ _ h)).trans h
set_option maxRecDepth 100000 in
set_option maxHeartbeats 4000000 in
theorem wrong_c (A : Option Addr) (l : List It) (n ca : Nat) (W : World) (hn : l.length = n) (hbig : n ≤ maxLen) (hca : n ≤ ca) (hx : WRds W A l) :
    Calls Try.prog 32 #[.slice A n ca] W (Gave (.int .i64 (wrongE l)) W) := by
  by_cases h16 : 16 < n
  · have E := Lib.hid (show wrongE l = 2 by unfold wrongE; rw [hn, if_pos h16])
    have i1 : (16 : Int) < (n : Int) := by omega
    clear hn hx
    go_enter Try.func32, Try.ntmps32
    go_wp2
    go_ret
    exact ⟨by rw [E.out]; rfl, Below.refl _ _⟩
  · have E := Lib.hid (show wrongE l = scanW [] l by unfold wrongE; rw [hn, if_neg h16])
    have HX := Lib.hid hx
    have HN := Lib.hid hn
    have mk := fun fn first cap w => mk_func fn first cap w
    have i0 : ¬ (16 : Int) < (n : Int) := by omega
    clear hn hx
    go_enter Try.func32, Try.ntmps32
    go_wp2
    go_loopw [11] (fun i wr => ∃ k : Nat, k ≤ n ∧ i = .int .i64 k ∧ scanW [] l = scanW (firsts (l.take k)) (l.drop k) ∧ Below W.heap.size W wr) (fun i _ => n - (intOf i).toNat)
    case atStart => exact ⟨0, by omega, rfl, rfl, Below.refl _ _⟩
    case round =>
      obtain ⟨k, hk, rfl, hsc, hB⟩ := hrel
      have HSC := Lib.hid hsc
      have HB := Lib.hid hB
      clear hsc
      by_cases hlt : k < n
      · have k1 : k < l.length := by rw [HN.out]; exact hlt
        have HXB := Lib.hid (HX.out.below hB)
        obtain ⟨b, o, rfl, hbl, x0, x1⟩ := HXB.out.it k1
        have EX := Lib.hid (show l[k]? = some l[k] from List.getElem?_eq_getElem k1)
        generalize hu : l[k] = u at *
        obtain ⟨u0, u1⟩ := u
        have i1 : (k : Int) < (n : Int) := by omega
        have i2 : (k : Int) ≤ (ca : Int) := by omega
        obtain ⟨d0, d1⟩ := boxI wr (.int .i64 u0) (.int .i64 u1)
        have HBA := Lib.hid (show Below W.heap.size W (wr.alloc (.cells #[.int .i64 u0, .int .i64 u1] 47)) from hB.alloc hB.size _)
        have HXA := Lib.hid (show WRds (wr.alloc (.cells #[.int .i64 u0, .int .i64 u1] 47)) (some ⟨b, o, none⟩) l from HXB.out.below ((Below.refl _ _).alloc (Nat.le_refl _) _))
        have CF := Lib.hid (containsIt_c b o k ca wr.heap.size l u0 _ (by omega) (by unfold maxLen at *; omega) (by simp; omega) HXA.out d0)
        clear hu k1 hB hbl
        by_cases hbad : BadIt (u0, u1)
        · have E2 := Lib.hid (scanW_bad EX.out hbad)
          have hb' : u0 < 0 ∨ 1099511627776 < u0 ∨ u1 < 0 ∨ 100 < u1 := hbad
          by_cases q1 : u0 < 0
          · have p1 : decide (u0 < 0) = true := decide_eq_true q1
            clear hbad hb'
            go_wp2
            go_ret
            exact ⟨by rw [E.out, HSC.out, E2.out]; rfl, HBA.out⟩
          have p1 : decide (u0 < 0) = false := decide_eq_false q1
          by_cases q2 : 1099511627776 < u0
          · have p2 : decide (1099511627776 < u0) = true := decide_eq_true q2
            clear hbad hb'
            go_wp2
            go_ret
            exact ⟨by rw [E.out, HSC.out, E2.out]; rfl, HBA.out⟩
          have p2 : decide (1099511627776 < u0) = false := decide_eq_false q2
          by_cases q3 : u1 < 0
          · have p3 : decide (u1 < 0) = true := decide_eq_true q3
            clear hbad hb'
            go_wp2
            go_ret
            exact ⟨by rw [E.out, HSC.out, E2.out]; rfl, HBA.out⟩
          · have p3 : decide (u1 < 0) = false := decide_eq_false q3
            have q4 : 100 < u1 := by omega
            have p4 : decide (100 < u1) = true := decide_eq_true q4
            clear hbad hb'
            go_wp2
            go_ret
            exact ⟨by rw [E.out, HSC.out, E2.out]; rfl, HBA.out⟩
        · have hg : ¬ (u0 < 0 ∨ 1099511627776 < u0 ∨ u1 < 0 ∨ 100 < u1) := hbad
          have p1 : decide (u0 < 0) = false := by rw [decide_eq_false_iff_not]; omega
          have p2 : decide (1099511627776 < u0) = false := by rw [decide_eq_false_iff_not]; omega
          have p3 : decide (u1 < 0) = false := by rw [decide_eq_false_iff_not]; omega
          have p4 : decide (100 < u1) = false := by rw [decide_eq_false_iff_not]; omega
          by_cases hin : u0 ∈ firsts (l.take k)
          · have E2 := Lib.hid (scanW_held EX.out hbad hin)
            have CF2 := CF.out
            rw [decide_eq_true hin] at CF2
            have C3 := Lib.hid CF2
            clear hbad hg hin CF CF2
            go_wp2_with (go_at_call 19; refine C3.out.mono ?_; rintro e w2 ⟨rfl, hb⟩; have B2 := Lib.hid (HBA.out.trans (hb.mono HBA.out.size)); clear hb)
            go_ret
            exact ⟨by rw [E.out, HSC.out, E2.out]; rfl, B2.out⟩
          · have E2 := Lib.hid (scanW_next EX.out hbad hin)
            have CF2 := CF.out
            rw [decide_eq_false hin] at CF2
            have C3 := Lib.hid CF2
            clear hbad hg hin CF CF2
            go_wp2_with (go_at_call 19; refine C3.out.mono ?_; rintro e w2 ⟨rfl, hb⟩; have B2 := Lib.hid (HBA.out.trans (hb.mono HBA.out.size)); clear hb)
            go_roundw
            case rel => exact ⟨k + 1, by omega, by go_num, by rw [HSC.out, E2.out], B2.out⟩
            case measure => simp [intOf]; omega
      · obtain rfl : k = n := by omega
        have E2 := Lib.hid (show wrongE l = 0 by rw [E.out, HSC.out, List.drop_of_length_le (by rw [HN.out]; omega)]; rfl)
        clear hB
        go_wp2
        go_ret
        exact ⟨by rw [E2.out]; rfl, HB.out⟩

/-! ### positive -/
theorem pos_yes {l : List It} {k : Nat} {a : It} (h : l[k]? = some a) (hi : 0 < a.2) : pos (l.take (k + 1)) = pos (l.take k) ++ [a] := by
  unfold pos
  rw [List.take_add_one, h, List.filter_append]
  simp [hi]
theorem pos_no {l : List It} {k : Nat} {a : It} (h : l[k]? = some a) (hi : ¬ 0 < a.2) : pos (l.take (k + 1)) = pos (l.take k) := by
  unfold pos
  rw [List.take_add_one, h, List.filter_append]
  simp [hi]
set_option maxRecDepth 100000 in
set_option maxHeartbeats 4000000 in
theorem positive_c (A : Option Addr) (l : List It) (n ca : Nat) (W : World) (hn : l.length = n) (h16 : n ≤ 16) (hx : WRds W A l) :
    Calls Try.prog 38 #[.slice A n ca] W fun e w' => ∃ A' c', e = .returned (.slice A' (pos l).length c') ∧ WTab w' W.heap.size (.slice A' (pos l).length c') (pos l) ∧ Below W.heap.size W w' := by
  have HX := Lib.hid hx
  have HN := Lib.hid hn
  clear hn hx
  go_enter Try.func38, Try.ntmps38
  go_wp2
  go_loopw [3, 8] (fun s3 i wr => ∃ (k m : Nat) (A2 : Option Addr) (c2 : Nat), k ≤ n ∧ m ≤ k ∧ i = .int .i64 k ∧ s3 = .slice A2 m c2 ∧ (pos (l.take k)).length = m ∧ WTab wr W.heap.size (.slice A2 m c2) (pos (l.take k)) ∧ Below W.heap.size W wr) (fun _ i _ => n - (intOf i).toNat)
  case atStart => exact ⟨0, 0, none, 0, by omega, by omega, rfl, rfl, rfl, WTab.nil _ _, Below.refl _ _⟩
  case round =>
    obtain ⟨k, m, A2, c2, hk, hmk, rfl, rfl, hm, hT, hB⟩ := hrel
    have HM := Lib.hid hm
    have HT := Lib.hid hT
    have HB := Lib.hid hB
    by_cases hlt : k < n
    · have k1 : k < l.length := by rw [HN.out]; exact hlt
      obtain ⟨b, o, rfl, _, x0, x1⟩ := (HX.out.below hB).it k1
      have EX := Lib.hid (show l[k]? = some l[k] from List.getElem?_eq_getElem k1)
      generalize hu : l[k] = u at *
      obtain ⟨u0, u1⟩ := u
      have i1 : (k : Int) < (n : Int) := by omega
      obtain ⟨d0, d1⟩ := boxI wr (.int .i64 u0) (.int .i64 u1)
      have HA := Lib.hid (show WTab (wr.alloc (.cells #[.int .i64 u0, .int .i64 u1] 47)) W.heap.size (.slice A2 m c2) (pos (l.take k)) from hT.alloc _)
      have HBA := Lib.hid (show Below W.heap.size W (wr.alloc (.cells #[.int .i64 u0, .int .i64 u1] 47)) from hB.alloc hB.size _)
      clear hu hm hT hB k1
      by_cases e : 0 < u1
      · have RN := Lib.hid (pos_yes EX.out e)
        have n1 : decide (0 < u1) = true := decide_eq_true e
        clear e
        go_wp2_with (refine wpList_append_it rfl _ _ (by rfl) (u0, u1) rfl rfl rfl rfl (by simp) HA.out HM.out (by omega) (by simp; exact Nat.le_succ_of_le HB.out.size) HBA.out (Nat.le_refl _) ?_; intro A3 c3 w3 Z3 G3 B3)
        go_roundw
        case rel => exact ⟨k + 1, m + 1, A3, c3, by omega, by omega, by go_num, rfl, by rw [RN.out, List.length_append, HM.out]; rfl, by rw [RN.out]; exact Z3.out, B3.out⟩
        case measure => simp [intOf]; omega
      · have RN := Lib.hid (pos_no EX.out e)
        have n1 : decide (0 < u1) = false := decide_eq_false e
        clear e
        go_wp2
        go_roundw
        case rel => exact ⟨k + 1, m, A2, c2, by omega, by omega, by go_num, rfl, by rw [RN.out]; exact HM.out, by rw [RN.out]; exact HA.out, HBA.out⟩
        case measure => simp [intOf]; omega
    · obtain rfl : k = n := by omega
      have E := Lib.hid (show pos (l.take k) = pos l by rw [List.take_of_length_le (by rw [HN.out]; omega)])
      clear hm hT hB
      go_wp2
      go_ret
      have h1 := HM.out
      have h2 := HT.out
      rw [E.out] at h1 h2
      exact ⟨A2, c2, by rw [h1]; rfl, by rw [h1]; exact h2, HB.out⟩
end Go.Proofs.Ytcbecpgllebepaa.Straw
