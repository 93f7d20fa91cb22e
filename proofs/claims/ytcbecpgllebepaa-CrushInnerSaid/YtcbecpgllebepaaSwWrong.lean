/-
  What is wrong with a list of items: the document's own answer HWrong.
-/
import Derived.Test.YtcbecpgllebepaaSwMem
import Derived.Test.YtcbecpgllebepaaIntSet
namespace Go.Proofs.Ytcbecpgllebepaa.Straw
set_option linter.unusedVariables false
set_option linter.unusedSimpArgs false
open Go.RowKit Mem

def BadIt (a : It) : Prop := a.1 < 0 ∨ 1099511627776 < a.1 ∨ a.2 < 0 ∨ 100 < a.2
instance (a : It) : Decidable (BadIt a) := by unfold BadIt; exact inferInstance
def scanW (had : List Int) : List It → Int
  | [] => 0
  | a :: l => if BadIt a then 2 else if a.1 ∈ had then 6 else scanW (had ++ [a.1]) l
def wrongE (l : List It) : Int := if 16 < l.length then 2 else scanW [] l
/-- Items that nothing is wrong with. -/
def Valid (l : List It) : Prop := l.length ≤ 16 ∧ (∀ a ∈ l, (0 ≤ a.1 ∧ a.1 ≤ 1099511627776) ∧ 0 ≤ a.2 ∧ a.2 ≤ 100) ∧ Once l
def firsts (l : List It) : List Int := l.map (·.1)
theorem scanW_step {l : List It} {k : Nat} {a : It} (ha : l[k]? = some a) :
    scanW (firsts (l.take k)) (l.drop k) = if BadIt a then 2 else if a.1 ∈ firsts (l.take k) then 6 else scanW (firsts (l.take (k + 1))) (l.drop (k + 1)) := by
  obtain ⟨h1, rfl⟩ := List.getElem?_eq_some_iff.1 ha
  rw [List.drop_eq_getElem_cons h1, scanW, List.take_succ_eq_append_getElem h1]
  unfold firsts
  rw [List.map_append]; rfl
theorem scanW_bad {l : List It} {k : Nat} {a : It} (ha : l[k]? = some a) (h : BadIt a) : scanW (firsts (l.take k)) (l.drop k) = 2 := by rw [scanW_step ha, if_pos h]
theorem scanW_held {l : List It} {k : Nat} {a : It} (ha : l[k]? = some a) (h : ¬ BadIt a) (h2 : a.1 ∈ firsts (l.take k)) : scanW (firsts (l.take k)) (l.drop k) = 6 := by rw [scanW_step ha, if_neg h, if_pos h2]
theorem scanW_next {l : List It} {k : Nat} {a : It} (ha : l[k]? = some a) (h : ¬ BadIt a) (h2 : a.1 ∉ firsts (l.take k)) : scanW (firsts (l.take k)) (l.drop k) = scanW (firsts (l.take (k + 1))) (l.drop (k + 1)) := by rw [scanW_step ha, if_neg h, if_neg h2]
theorem firsts_mem {l : List It} {k : Nat} {a : It} (ha : l[k]? = some a) {S : List Int} (hS : ∀ y, y ∈ S ↔ y ∈ firsts (l.take k)) (y : Int) : y ∈ a.1 :: S ↔ y ∈ firsts (l.take (k + 1)) := by
  unfold firsts at *
  rw [List.take_add_one, ha, List.mem_cons, List.map_append, List.mem_append, hS]
  simp [or_comm]
theorem scanW_zero {had : List Int} {l : List It} : scanW had l = 0 ↔ (∀ a ∈ l, ¬ BadIt a ∧ a.1 ∉ had) ∧ Once l := by
  induction l generalizing had with
  | nil => simp [scanW, Once]
  | cons x l ih =>
    rw [scanW]
    by_cases h1 : BadIt x
    · rw [if_pos h1]
      constructor
      · intro h; omega
      · intro h; exact absurd h1 (h.1 x (by simp)).1
    · rw [if_neg h1]
      by_cases h2 : x.1 ∈ had
      · rw [if_pos h2]
        constructor
        · intro h; omega
        · intro h; exact absurd h2 (h.1 x (by simp)).2
      · rw [if_neg h2, ih]
        constructor
        · rintro ⟨h3, h4⟩
          refine ⟨fun y hy => ?_, List.nodup_cons.2 ⟨fun hx => ?_, h4⟩⟩
          · rcases List.mem_cons.1 hy with rfl | hy
            · exact ⟨h1, h2⟩
            · exact ⟨(h3 y hy).1, fun h => (h3 y hy).2 (List.mem_append_left _ h)⟩
          · obtain ⟨y, hy, e⟩ := List.mem_map.1 hx
            exact (h3 y hy).2 (by rw [e]; simp)
        · rintro ⟨h3, h4⟩
          obtain ⟨h5, h6⟩ := List.nodup_cons.1 (show (x.1 :: l.map (·.1)).Nodup from h4)
          refine ⟨fun y hy => ⟨(h3 y (by simp [hy])).1, fun h => ?_⟩, h6⟩
          rcases List.mem_append.1 h with h | h
          · exact (h3 y (by simp [hy])).2 h
          · simp at h; exact h5 (List.mem_map.2 ⟨y, hy, h⟩)
theorem wrongE_zero {l : List It} : wrongE l = 0 ↔ Valid l := by
  unfold wrongE Valid
  by_cases h : 16 < l.length
  · rw [if_pos h]
    constructor
    · intro h; omega
    · intro h; omega
  · rw [if_neg h, scanW_zero]
    constructor
    · rintro ⟨h1, h2⟩
      exact ⟨by omega, fun a ha => by have := (h1 a ha).1; unfold BadIt at this; omega, h2⟩
    · rintro ⟨_, h1, h2⟩
      exact ⟨fun a ha => ⟨by have := h1 a ha; unfold BadIt; omega, by simp⟩, h2⟩
theorem scanW_vals (had : List Int) (l : List It) : scanW had l = 0 ∨ scanW had l = 2 ∨ scanW had l = 6 := by
  induction l generalizing had with
  | nil => exact .inl rfl
  | cons x l ih =>
    rw [scanW]
    split
    · exact .inr (.inl rfl)
    · split
      · exact .inr (.inr rfl)
      · exact ih _
theorem wrongE_vals (l : List It) : wrongE l = 0 ∨ wrongE l = 2 ∨ wrongE l = 6 := by
  unfold wrongE; split
  · exact .inr (.inl rfl)
  · exact scanW_vals _ _
theorem boxI (w : World) (a b : Value) : (w.alloc (.cells #[a, b] 47)).cell? ⟨w.heap.size, 0, none⟩ = some a ∧ (w.alloc (.cells #[a, b] 47)).cell? ⟨w.heap.size, 1, none⟩ = some b :=
  ⟨(Known.made w _ #[a, b]).cell 0, (Known.made w _ #[a, b]).cell 1⟩
/-- What stands in HWrong's loop. -/
def ScanAt (W : World) (l : List It) (g k : Nat) (wr : World) : Prop :=
  ∃ S, scanW [] l = scanW (firsts (l.take k)) (l.drop k) ∧ IntSet wr g S ∧ S.length = k ∧ (∀ x, x ∈ S ↔ x ∈ firsts (l.take k)) ∧ Below W.heap.size W wr
set_option maxRecDepth 100000 in
set_option maxHeartbeats 4000000 in
theorem hwrong_c (A : Option Addr) (l : List It) (n ca : Nat) (W : World) (hn : l.length = n) (hbig : n ≤ maxLen) (hx : WRds W A l) (hwf : ∀ a ∈ l, (Lit.int .i64 a.1).wf = true) :
    Calls Try.prog 33 #[.slice A n ca] W (Gave (.int .i64 (wrongE l)) W) := by
  unfold maxLen at hbig
  by_cases h16 : 16 < n
  · have E := Lib.hid (show wrongE l = 2 by unfold wrongE; rw [hn, if_pos h16])
    have i1 : (16 : Int) < (n : Int) := by omega
    clear hn hx hwf
    go_enter Try.func33, Try.ntmps33
    go_wp2
    go_ret
    exact ⟨by rw [E.out]; rfl, Below.refl _ _⟩
  · have E := Lib.hid (show wrongE l = scanW [] l by unfold wrongE; rw [hn, if_neg h16])
    have HX := Lib.hid hx
    have HN := Lib.hid hn
    have HW := Lib.hid hwf
    have hmm := @run_makeMap Try.prog
    have i0 : ¬ (16 : Int) < (n : Int) := by omega
    clear hn hx hwf
    go_enter Try.func33, Try.ntmps33
    go_wp2
    have IS0 := Lib.hid (IntSet.made W)
    have B0 := Lib.hid ((Below.refl W.heap.size W).alloc (Nat.le_refl _) (.map #[] 0))
    clear hmm
    go_loopw [12] (fun i wr => ∃ k : Nat, k ≤ n ∧ i = .int .i64 k ∧ ScanAt W l W.heap.size k wr) (fun i _ => n - (intOf i).toNat)
    case atStart => exact ⟨0, by omega, rfl, [], rfl, IS0.out, rfl, fun x => by simp [firsts], B0.out⟩
    case round =>
      obtain ⟨k, hk, rfl, S, hsc, hS, hSl, hSm, hB⟩ := hrel
      have HSC := Lib.hid hsc
      have IS := Lib.hid hS
      have SL := Lib.hid hSl
      have SM := Lib.hid hSm
      have HB := Lib.hid hB
      clear IS0 B0 hsc hSl hSm
      by_cases hlt : k < n
      · have k1 : k < l.length := by rw [HN.out]; exact hlt
        obtain ⟨b, o, rfl, _, x0, x1⟩ := (HX.out.below hB).it k1
        have EX := Lib.hid (show l[k]? = some l[k] from List.getElem?_eq_getElem k1)
        have WX := Lib.hid (HW.out l[k] (List.getElem_mem k1))
        generalize hu : l[k] = u at *
        obtain ⟨u0, u1⟩ := u
        have i1 : (k : Int) < (n : Int) := by omega
        obtain ⟨d0, d1⟩ := boxI wr (.int .i64 u0) (.int .i64 u1)
        have ISA := Lib.hid (hS.alloc (.cells #[.int .i64 u0, .int .i64 u1] 47))
        have HBA := Lib.hid (show Below W.heap.size W (wr.alloc (.cells #[.int .i64 u0, .int .i64 u1] 47)) from hB.alloc hB.size _)
        clear hu k1 hS hB
        by_cases hbad : BadIt (u0, u1)
        · have E2 := Lib.hid (scanW_bad EX.out hbad)
          have hb' : u0 < 0 ∨ 1099511627776 < u0 ∨ u1 < 0 ∨ 100 < u1 := hbad
          by_cases q1 : u0 < 0
          · have p1 : decide (u0 < 0) = true := decide_eq_true q1
            clear hbad hb'
            go_wp2
            go_ret
            exact ⟨by rw [E.out, HSC.out, E2.out]; rfl, HBA.out⟩
          have p1 : decide (u0 < 0) = false := decide_eq_false q1
          by_cases q2 : 1099511627776 < u0
          · have p2 : decide (1099511627776 < u0) = true := decide_eq_true q2
            clear hbad hb'
            go_wp2
            go_ret
            exact ⟨by rw [E.out, HSC.out, E2.out]; rfl, HBA.out⟩
          have p2 : decide (1099511627776 < u0) = false := decide_eq_false q2
          by_cases q3 : u1 < 0
          · have p3 : decide (u1 < 0) = true := decide_eq_true q3
            clear hbad hb'
            go_wp2
            go_ret
            exact ⟨by rw [E.out, HSC.out, E2.out]; rfl, HBA.out⟩
          · have p3 : decide (u1 < 0) = false := decide_eq_false q3
            have q4 : 100 < u1 := by omega
            have p4 : decide (100 < u1) = true := decide_eq_true q4
            clear hbad hb'
            go_wp2
            go_ret
            exact ⟨by rw [E.out, HSC.out, E2.out]; rfl, HBA.out⟩
        · have hg : ¬ (u0 < 0 ∨ 1099511627776 < u0 ∨ u1 < 0 ∨ 100 < u1) := hbad
          have p1 : decide (u0 < 0) = false := by rw [decide_eq_false_iff_not]; omega
          have p2 : decide (1099511627776 < u0) = false := by rw [decide_eq_false_iff_not]; omega
          have p3 : decide (u1 < 0) = false := by rw [decide_eq_false_iff_not]; omega
          have p4 : decide (100 < u1) = false := by rw [decide_eq_false_iff_not]; omega
          by_cases hin : u0 ∈ firsts (l.take k)
          · have E2 := Lib.hid (scanW_held EX.out hbad hin)
            have HC := Lib.hid (show decide (u0 ∈ S) = true from decide_eq_true ((SM.out u0).2 hin))
            clear hbad hg hin
            go_wp2_with (refine wpList_lookup_set rfl _ _ (by rfl) ISA.out u0 WX.out rfl rfl true HC.out ?_)
            go_ret
            exact ⟨by rw [E.out, HSC.out, E2.out]; rfl, HBA.out⟩
          · have E2 := Lib.hid (scanW_next EX.out hbad hin)
            have HC := Lib.hid (show decide (u0 ∈ S) = false from decide_eq_false (fun h => hin ((SM.out u0).1 h)))
            have SS := Lib.hid (show S.length < maxLen by rw [SL.out]; unfold maxLen; omega)
            have SM2 := Lib.hid (firsts_mem EX.out SM.out)
            clear hbad hg hin
            go_wp2_with (first | (refine wpList_lookup_set rfl _ _ (by rfl) ISA.out u0 WX.out rfl rfl false HC.out ?_) | (refine wpList_update_set rfl _ _ _ (by rfl) ISA.out SS.out u0 WX.out rfl rfl rfl ?_; intro V hS hG; have IS2 := Lib.hid hS; have B2 := Lib.hid (HBA.out.grown hG HBA.out.size (fun k hk => by injection hk with hk; subst hk; exact Nat.le_refl _)); clear hS hG))
            go_roundw
            case rel => exact ⟨k + 1, by omega, by go_num, u0 :: S, by rw [HSC.out, E2.out], IS2.out, by simp [SL.out], SM2.out, B2.out⟩
            case measure => simp [intOf]; omega
      · obtain rfl : k = n := by omega
        have E2 := Lib.hid (show wrongE l = 0 by rw [E.out, HSC.out, List.drop_of_length_le (by rw [HN.out]; omega)]; rfl)
        clear hS hB
        go_wp2
        go_ret
        exact ⟨by rw [E2.out]; rfl, HB.out⟩
end Go.Proofs.Ytcbecpgllebepaa.Straw
