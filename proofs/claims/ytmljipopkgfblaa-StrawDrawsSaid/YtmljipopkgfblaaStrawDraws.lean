/-
  StrawDraws: for every key, all items, every id and every number asked for, the law StrawDraws answers true (Wrong, Draw, Choose and Some answer what the document says), and its arguments read afterwards as before. No condition.
-/
import Derived.Test.YtmljipopkgfblaaSwAll
import Derived.Test.YtmljipopkgfblaaSwFns
import Derived.Test.YtmljipopkgfblaaSwIts
namespace Go.Proofs.Ytmljipopkgfblaa.strawDraws
open Go.ChangeShapes Go.WideShapes Go.ChangeAt Go.RowKit
open Mem Straw
set_option linter.unusedVariables false
set_option linter.unusedSimpArgs false

/-- What the law calls answers so, in every later world. -/
structure Says (key : UInt64) (A : Option Addr) (n ca : Nat) (id many : Int) (W : World) (cv ce : Int) (sl : List Int) (f w0 : Int) (dv : Nat) : Prop where
  choose : ∀ V, Below W.heap.size W V → Calls Try.prog 8 #[.int .u64 key.toNat, .slice A n ca] V (Gave (.tuple #[.int .i64 cv, .int .i64 ce]) V)
  some_ : ∀ V, Below W.heap.size W V → Calls Try.prog 9 #[.int .u64 key.toNat, .slice A n ca, .int .i64 many] V (NodesErr sl f V)
  hwrong : ∀ V, Below W.heap.size W V → Calls Try.prog 10 #[.slice A n ca] V (Gave (.int .i64 w0) V)
  draw : ∀ V, Calls Try.prog 11 #[.int .u64 key.toNat, .int .i64 id] V fun e w' => e = .returned (.int .i64 dv) ∧ w' = V
  hdraw : ∀ V, Calls Try.prog 12 #[.int .u64 key.toNat, .int .i64 id] V (Gave (.int .i64 dv) V)
  wrong : ∀ V, Below W.heap.size W V → Calls Try.prog 13 #[.slice A n ca] V (Gave (.int .i64 w0) V)
def AllSays (key : UInt64) (A : Option Addr) (n ca : Nat) (W : World) (L : List Int) : Prop :=
  ∀ V, Below W.heap.size W V → Calls Try.prog 14 #[.int .u64 key.toNat, .slice A n ca] V fun e w' => ∃ A' c', e = .returned (.slice A' L.length c') ∧ L.length ≤ c' ∧ Reads w' A' (L.map (Value.int .i64)) ∧ Below V.heap.size V w'
set_option maxRecDepth 100000 in
set_option maxHeartbeats 8000000 in
theorem bad (key : UInt64) (A : Option Addr) (n ca : Nat) (id many : Int) (W : World) (w0 : Int) (dv : Nat) (h : Says key A n ca id many W 0 w0 [] w0 w0 dv) (hw : w0 = 2 ∨ w0 = 6) :
    Calls Try.prog 3 #[.int .u64 key.toNat, .slice A n ca, .int .i64 id, .int .i64 many] W (Law.Yes W) := by
  have HH := Lib.hid h
  clear h
  have K0 := Lib.hid (Below.refl W.heap.size W)
  rcases hw with rfl | rfl
  all_goals
    go_enter Try.func3, Try.ntmps3
    go_wp2_with (first
      | (go_at_call 8; refine (HH.out.choose _ K0.out).mono ?_; rintro e w1 ⟨rfl, hb⟩; replace K0 := Lib.hid (K0.out.trans (hb.mono K0.out.size)); clear hb)
      | (go_at_call 9; refine (HH.out.some_ _ K0.out).mono ?_; rintro e w2 ⟨A2, c2, rfl, hr, hb⟩; replace K0 := Lib.hid (K0.out.trans (hb.mono K0.out.size)); clear hr hb)
      | (go_at_call 10; refine (HH.out.hwrong _ K0.out).mono ?_; rintro e w3 ⟨rfl, hb⟩; replace K0 := Lib.hid (K0.out.trans (hb.mono K0.out.size)); clear hb)
      | (go_at_call 11; refine (HH.out.draw _).mono ?_; rintro e w4 ⟨rfl, rfl⟩)
      | (go_at_call 12; refine (HH.out.hdraw _).mono ?_; rintro e w5 ⟨rfl, hb⟩; replace K0 := Lib.hid (K0.out.trans (hb.mono K0.out.size)); clear hb)
      | (go_at_call 13; refine (HH.out.wrong _ K0.out).mono ?_; rintro e w6 ⟨rfl, hb⟩; replace K0 := Lib.hid (K0.out.trans (hb.mono K0.out.size)); clear hb))
    go_ret
    exact ⟨rfl, K0.out⟩
/-- What Choose answers, held against all. -/
def Head (L : List Int) (cv ce : Int) : Prop := L.length = 0 ∧ cv = 0 ∧ ce = 3 ∨ 0 < L.length ∧ ce = 0 ∧ L[0]? = some cv
set_option maxRecDepth 100000 in
set_option maxHeartbeats 8000000 in
theorem none_ (key : UInt64) (A : Option Addr) (n ca : Nat) (id many : Int) (W : World) (L : List Int) (cv ce f : Int) (dv : Nat) (h : Says key A n ca id many W cv ce [] f 0 dv) (ha : AllSays key A n ca W L) (hl : L.length ≤ 16) (hh : Head L cv ce)
    (hf : many < 0 ∧ f = 2 ∨ 16 < many ∧ f = 2 ∨ (0 ≤ many ∧ many ≤ 16) ∧ (L.length : Int) < many ∧ f = 8) :
    Calls Try.prog 3 #[.int .u64 key.toNat, .slice A n ca, .int .i64 id, .int .i64 many] W (Law.Yes W) := by
  have HH := Lib.hid h
  have HA := Lib.hid ha
  have K0 := Lib.hid (Below.refl W.heap.size W)
  have H0 := Lib.hid (show 0 < L.length → L[0]? = some cv from fun h => by
    rcases hh with ⟨h1, _⟩ | ⟨_, _, h2⟩
    · omega
    · exact h2)
  have hh2 : L.length = 0 ∧ cv = 0 ∧ ce = 3 ∨ 0 < L.length ∧ ce = 0 := by
    rcases hh with h | ⟨h1, h2, _⟩
    · exact .inl h
    · exact .inr ⟨h1, h2⟩
  generalize hm : L.length = m at *
  have HM := Lib.hid hm
  clear h ha hh hm
  have hq : (decide (many < 0) = true ∧ f = 2) ∨ (decide (many < 0) = false ∧ decide (16 < many) = true ∧ f = 2) ∨ (decide (many < 0) = false ∧ decide (16 < many) = false ∧ decide ((m : Int) < many) = true ∧ (m : Int) < many ∧ f = 8) := by
    rcases hf with ⟨h1, h2⟩ | ⟨h1, h2⟩ | ⟨h1, h2, h3⟩
    · exact .inl ⟨decide_eq_true h1, h2⟩
    · exact .inr (.inl ⟨decide_eq_false (by omega), decide_eq_true h1, h2⟩)
    · exact .inr (.inr ⟨decide_eq_false (by omega), decide_eq_false (by omega), decide_eq_true h2, h2, h3⟩)
  clear hf
  rcases hh2 with ⟨rfl, rfl, rfl⟩ | ⟨h0, rfl⟩
  · clear H0
    rcases hq with ⟨q1, rfl⟩ | ⟨q1, q2, rfl⟩ | ⟨q1, q2, q3, q4, rfl⟩
    all_goals
      go_enter Try.func3, Try.ntmps3
      go_wp2_with (first
        | (go_at_call 8; refine (HH.out.choose _ K0.out).mono ?_; rintro e w1 ⟨rfl, hb⟩; replace K0 := Lib.hid (K0.out.trans (hb.mono K0.out.size)); clear hb)
        | (go_at_call 9; refine (HH.out.some_ _ K0.out).mono ?_; rintro e w2 ⟨A2, c2, rfl, hr, hb⟩; replace K0 := Lib.hid (K0.out.trans (hb.mono K0.out.size)); clear hr hb)
        | (go_at_call 10; refine (HH.out.hwrong _ K0.out).mono ?_; rintro e w3 ⟨rfl, hb⟩; replace K0 := Lib.hid (K0.out.trans (hb.mono K0.out.size)); clear hb)
        | (go_at_call 11; refine (HH.out.draw _).mono ?_; rintro e w4 ⟨rfl, rfl⟩)
        | (go_at_call 12; refine (HH.out.hdraw _).mono ?_; rintro e w5 ⟨rfl, hb⟩; replace K0 := Lib.hid (K0.out.trans (hb.mono K0.out.size)); clear hb)
        | (go_at_call 13; refine (HH.out.wrong _ K0.out).mono ?_; rintro e w6 ⟨rfl, hb⟩; replace K0 := Lib.hid (K0.out.trans (hb.mono K0.out.size)); clear hb)
        | (go_at_call 14; refine (HA.out _ K0.out).mono ?_; rintro e w7 ⟨A7, c7, rfl, hc, hr, hb⟩; rw [HM.out]; replace K0 := Lib.hid (K0.out.trans (hb.mono K0.out.size)); clear hc hr hb))
      go_ret
      exact ⟨rfl, K0.out⟩
  · have n0 : ((m : Int) == 0) = false := by simp; omega
    have i0 : (0 : Int) < (m : Int) := by omega
    have HC := Lib.hid (show ∀ (w : World) (A7 : Option Addr), Reads w A7 (L.map (Value.int .i64)) → ∃ b o, A7 = some ⟨b, o, none⟩ ∧ w.cell? ⟨b, o, none⟩ = some (.int .i64 cv) from fun w A7 hr => by
      obtain ⟨b, o, h1, _, h2⟩ := hr 0 (.int .i64 cv) (by rw [List.getElem?_map, H0.out h0]; rfl)
      exact ⟨b, o, h1, h2⟩)
    clear H0
    rcases hq with ⟨q1, rfl⟩ | ⟨q1, q2, rfl⟩ | ⟨q1, q2, q3, q4, rfl⟩
    all_goals
      go_enter Try.func3, Try.ntmps3
      go_wp2_with (first
        | (go_at_call 8; refine (HH.out.choose _ K0.out).mono ?_; rintro e w1 ⟨rfl, hb⟩; replace K0 := Lib.hid (K0.out.trans (hb.mono K0.out.size)); clear hb)
        | (go_at_call 9; refine (HH.out.some_ _ K0.out).mono ?_; rintro e w2 ⟨A2, c2, rfl, hr, hb⟩; replace K0 := Lib.hid (K0.out.trans (hb.mono K0.out.size)); clear hr hb)
        | (go_at_call 10; refine (HH.out.hwrong _ K0.out).mono ?_; rintro e w3 ⟨rfl, hb⟩; replace K0 := Lib.hid (K0.out.trans (hb.mono K0.out.size)); clear hb)
        | (go_at_call 11; refine (HH.out.draw _).mono ?_; rintro e w4 ⟨rfl, rfl⟩)
        | (go_at_call 12; refine (HH.out.hdraw _).mono ?_; rintro e w5 ⟨rfl, hb⟩; replace K0 := Lib.hid (K0.out.trans (hb.mono K0.out.size)); clear hb)
        | (go_at_call 13; refine (HH.out.wrong _ K0.out).mono ?_; rintro e w6 ⟨rfl, hb⟩; replace K0 := Lib.hid (K0.out.trans (hb.mono K0.out.size)); clear hb)
        | (go_at_call 14; refine (HA.out _ K0.out).mono ?_; rintro e w7 ⟨A7, c7, rfl, hc, hr, hb⟩; rw [HM.out]; replace K0 := Lib.hid (K0.out.trans (hb.mono K0.out.size)); obtain ⟨b7, o7, rfl, z7⟩ := HC.out _ _ hr; clear hc hr hb))
      go_ret
      exact ⟨rfl, K0.out⟩
set_option maxRecDepth 100000 in
set_option maxHeartbeats 8000000 in
theorem full (key : UInt64) (A : Option Addr) (n ca : Nat) (id : Int) (j : Nat) (W : World) (L sl : List Int) (cv ce : Int) (dv : Nat) (h : Says key A n ca id j W cv ce sl 0 0 dv) (ha : AllSays key A n ca W L) (hl : L.length ≤ 16) (hh : Head L cv ce) (hj : j ≤ 16) (hjl : j ≤ L.length) (hsl : L.take j = sl) :
    Calls Try.prog 3 #[.int .u64 key.toNat, .slice A n ca, .int .i64 id, .int .i64 j] W (Law.Yes W) := by
  have HH := Lib.hid h
  have HA := Lib.hid ha
  have K0 := Lib.hid (Below.refl W.heap.size W)
  have H0 := Lib.hid (show 0 < L.length → L[0]? = some cv from fun h => by
    rcases hh with ⟨h1, _⟩ | ⟨_, _, h2⟩
    · omega
    · exact h2)
  have hh2 : L.length = 0 ∧ cv = 0 ∧ ce = 3 ∨ 0 < L.length ∧ ce = 0 := by
    rcases hh with h | ⟨h1, h2, _⟩
    · exact .inl h
    · exact .inr ⟨h1, h2⟩
  have LS := Lib.hid (show sl.length = j by rw [← hsl, List.length_take]; omega)
  have RT := Lib.hid (show ∀ (w : World) (A7 : Option Addr), Reads w A7 (L.map (Value.int .i64)) → Reads w A7 (sl.map (Value.int .i64)) from fun w A7 hr => by rw [← hsl, List.map_take]; exact hr.take j)
  generalize hm : L.length = m at *
  have HM := Lib.hid hm
  clear h ha hh hm hsl
  have q1 : decide ((j : Int) < 0) = false := decide_eq_false (by omega)
  have q2 : decide ((16 : Int) < (j : Int)) = false := decide_eq_false (by omega)
  have q3 : decide ((m : Int) < (j : Int)) = false := decide_eq_false (by omega)
  have q4 : ¬ (m : Int) < (j : Int) := by omega
  have g0 : (0 : Int) ≤ (j : Int) := by omega
  rcases hh2 with ⟨rfl, rfl, rfl⟩ | ⟨h0, rfl⟩
  · clear H0
    obtain rfl : j = 0 := by omega
    go_enter Try.func3, Try.ntmps3
    go_wp2_with (first
      | (go_at_call 8; refine (HH.out.choose _ K0.out).mono ?_; rintro e w1 ⟨rfl, hb⟩; replace K0 := Lib.hid (K0.out.trans (hb.mono K0.out.size)); clear hb)
      | (go_at_call 9; refine (HH.out.some_ _ K0.out).mono ?_; rintro e w2 ⟨A2, c2, rfl, hr, hb⟩; rw [LS.out]; have R2 := Lib.hid hr; replace K0 := Lib.hid (K0.out.trans (hb.mono K0.out.size)); clear hr hb)
      | (go_at_call 10; refine (HH.out.hwrong _ K0.out).mono ?_; rintro e w3 ⟨rfl, hb⟩; have R3 := Lib.hid (R2.out.below hb); replace K0 := Lib.hid (K0.out.trans (hb.mono K0.out.size)); clear hb)
      | (go_at_call 11; refine (HH.out.draw _).mono ?_; rintro e w4 ⟨rfl, rfl⟩)
      | (go_at_call 12; refine (HH.out.hdraw _).mono ?_; rintro e w5 ⟨rfl, hb⟩; have R5 := Lib.hid (R3.out.below hb); replace K0 := Lib.hid (K0.out.trans (hb.mono K0.out.size)); clear hb)
      | (go_at_call 13; refine (HH.out.wrong _ K0.out).mono ?_; rintro e w6 ⟨rfl, hb⟩; have R6 := Lib.hid (R5.out.below hb); replace K0 := Lib.hid (K0.out.trans (hb.mono K0.out.size)); clear hb)
      | (go_at_call 14; refine (HA.out _ K0.out).mono ?_; rintro e w7 ⟨A7, c7, rfl, hc, hr, hb⟩; rw [HM.out]; have R7 := Lib.hid (R6.out.below hb); have T7 := Lib.hid (RT.out _ _ hr); replace K0 := Lib.hid (K0.out.trans (hb.mono K0.out.size)); clear hc hr hb)
      | (go_at_call 15; refine (equalZ_c _ _ sl sl 0 0 _ _ _ LS.out LS.out (by omega) (by omega) R7.out T7.out).mono ?_; rintro e w8 ⟨rfl, hb⟩; rw [show decide (sl = sl) = true from decide_eq_true rfl]; replace K0 := Lib.hid (K0.out.trans (hb.mono K0.out.size)); clear hb))
    go_ret
    exact ⟨rfl, K0.out⟩
  · have n0 : ((m : Int) == 0) = false := by simp; omega
    have i0 : (0 : Int) < (m : Int) := by omega
    have HC := Lib.hid (show ∀ (w : World) (A7 : Option Addr), Reads w A7 (L.map (Value.int .i64)) → ∃ b o, A7 = some ⟨b, o, none⟩ ∧ w.cell? ⟨b, o, none⟩ = some (.int .i64 cv) from fun w A7 hr => by
      obtain ⟨b, o, h1, _, h2⟩ := hr 0 (.int .i64 cv) (by rw [List.getElem?_map, H0.out h0]; rfl)
      exact ⟨b, o, h1, h2⟩)
    clear H0
    go_enter Try.func3, Try.ntmps3
    go_wp2_with (first
      | (go_at_call 8; refine (HH.out.choose _ K0.out).mono ?_; rintro e w1 ⟨rfl, hb⟩; replace K0 := Lib.hid (K0.out.trans (hb.mono K0.out.size)); clear hb)
      | (go_at_call 9; refine (HH.out.some_ _ K0.out).mono ?_; rintro e w2 ⟨A2, c2, rfl, hr, hb⟩; rw [LS.out]; have R2 := Lib.hid hr; replace K0 := Lib.hid (K0.out.trans (hb.mono K0.out.size)); clear hr hb)
      | (go_at_call 10; refine (HH.out.hwrong _ K0.out).mono ?_; rintro e w3 ⟨rfl, hb⟩; have R3 := Lib.hid (R2.out.below hb); replace K0 := Lib.hid (K0.out.trans (hb.mono K0.out.size)); clear hb)
      | (go_at_call 11; refine (HH.out.draw _).mono ?_; rintro e w4 ⟨rfl, rfl⟩)
      | (go_at_call 12; refine (HH.out.hdraw _).mono ?_; rintro e w5 ⟨rfl, hb⟩; have R5 := Lib.hid (R3.out.below hb); replace K0 := Lib.hid (K0.out.trans (hb.mono K0.out.size)); clear hb)
      | (go_at_call 13; refine (HH.out.wrong _ K0.out).mono ?_; rintro e w6 ⟨rfl, hb⟩; have R6 := Lib.hid (R5.out.below hb); replace K0 := Lib.hid (K0.out.trans (hb.mono K0.out.size)); clear hb)
      | (go_at_call 14; refine (HA.out _ K0.out).mono ?_; rintro e w7 ⟨A7, c7, rfl, hc, hr, hb⟩; rw [HM.out]; have R7 := Lib.hid (R6.out.below hb); have T7 := Lib.hid (RT.out _ _ hr); rw [HM.out] at hc; have g7 : (j : Int) ≤ (c7 : Int) := (by omega); replace K0 := Lib.hid (K0.out.trans (hb.mono K0.out.size)); obtain ⟨b7, o7, rfl, z7⟩ := HC.out _ _ hr; clear hc hr hb)
      | (go_at_call 15; refine (equalZ_c _ _ sl sl j j _ _ _ LS.out LS.out (by omega) (by omega) R7.out T7.out).mono ?_; rintro e w8 ⟨rfl, hb⟩; rw [show decide (sl = sl) = true from decide_eq_true rfl]; replace K0 := Lib.hid (K0.out.trans (hb.mono K0.out.size)); clear hb))
    go_ret
    exact ⟨rfl, K0.out⟩
theorem words (key : UInt64) (A : Option Addr) (l : List It) (n ca : Nat) (id many : Int) (W : World) (hn : l.length = n) (hbig : n ≤ maxLen) (hca : n ≤ ca) (hx : WRds W A l) (hf : Fits l) :
    Calls Try.prog 3 #[.int .u64 key.toNat, .slice A n ca, .int .i64 id, .int .i64 many] W (Law.Yes W) := by
  have hsay : Says key A n ca id many W (chooseV key l) (chooseE key l) (someL key l many) (someE key l many) (wrongE l) (draw key id) :=
    ⟨fun V hb => choose_c key A l n ca V hn hbig hca (hx.below hb), fun V hb => some_spec key A l n ca many V hn hbig hca (hx.below hb) hf, fun V hb => hwrong_c A l n ca V hn hbig (hx.below hb) (fun a ha => (hf a ha).1), fun V => draw_p key id V, fun V => draw_c key id V, fun V hb => wrong_c A l n ca V hn hbig hca (hx.below hb)⟩
  by_cases h0 : wrongE l = 0
  · have hv := wrongE_zero.1 h0
    have hall : AllSays key A n ca W (ids key l) := fun V hb => hall_c key A l n ca V hn hv (hx.below hb)
    have hl : (ids key l).length ≤ 16 := by rw [ids_len]; exact Nat.le_trans (List.length_filter_le _ _) hv.1
    have hh : Head (ids key l) (chooseV key l) (chooseE key l) := by
      unfold chooseV chooseE
      rw [if_neg (by simpa using h0), if_neg (by simpa using h0)]
      cases he : ids key l with
      | nil => exact .inl ⟨rfl, rfl, by rw [if_pos rfl]⟩
      | cons x xs => exact .inr ⟨by simp, by rw [if_neg (by simp)], rfl⟩
    rw [h0] at hsay
    by_cases h1 : someE key l many = 0
    · obtain ⟨_, ⟨h2, h3⟩, h4⟩ := someE_zero.1 h1
      obtain ⟨j, rfl⟩ : ∃ j : Nat, many = j := ⟨many.toNat, by omega⟩
      have hs : (ids key l).take j = someL key l j := by unfold someL; rw [if_pos h1, Int.toNat_natCast]
      rw [h1] at hsay
      exact full key A n ca id j W _ _ _ _ _ hsay hall hl hh (by omega) (by omega) hs
    · have hs : someL key l many = [] := by unfold someL; rw [if_neg h1]
      rw [hs] at hsay
      refine none_ key A n ca id many W _ _ _ _ _ hsay hall hl hh ?_
      unfold someE at h1 ⊢
      rw [if_neg (by simpa using h0)] at h1 ⊢
      by_cases h2 : many < 0 ∨ 16 < many
      · rw [if_pos h2]
        rcases h2 with h2 | h2
        · exact .inl ⟨h2, rfl⟩
        · exact .inr (.inl ⟨h2, rfl⟩)
      · rw [if_neg h2] at h1 ⊢
        by_cases h3 : ((ids key l).length : Int) < many
        · rw [if_pos h3]; exact .inr (.inr ⟨by omega, h3, rfl⟩)
        · rw [if_neg h3] at h1; exact absurd rfl h1
  · have e1 : chooseV key l = 0 := by unfold chooseV; rw [if_pos h0]
    have e2 : chooseE key l = wrongE l := by unfold chooseE; rw [if_pos h0]
    have e3 : someE key l many = wrongE l := by unfold someE; rw [if_pos h0]
    have e4 : someL key l many = [] := by unfold someL; rw [e3, if_neg h0]
    rw [e1, e2, e3, e4] at hsay
    refine bad key A n ca id many W _ _ hsay ?_
    rcases wrongE_vals l with h | h | h
    · exact absurd h h0
    · exact .inl h
    · exact .inr h
set_option maxRecDepth 100000 in
theorem walk {H : Type} {enc : TypeId × Value → H} {base : Nat} {W : World} (a0 : Int) (w0 : (Lit.int .u64 a0).wf = true) {v1 : Value} {d1 : DataW H} {p1 : List MemPlace}
    (o1 : Value.okWide Try.prog W .any base 23 v1) (h1 : DataW.Trod enc Try.prog W 0 (fun _ => true) true 23 v1 d1 p1) (a2 : Int) (w2 : (Lit.int .i64 a2).wf = true) (a3 : Int) (w3 : (Lit.int .i64 a3).wf = true) :
    Calls Try.prog 3 #[.int .u64 a0, v1, .int .i64 a2, .int .i64 a3] W (Law.Yes W) := by
  obtain ⟨A, ca, l, rfl, hl, hc, _, hx, hf⟩ := open_its o1 h1
  obtain ⟨key, rfl⟩ := Words.of_wf64 w0
  exact words key A l _ ca a2 a3 W rfl hl hc hx hf
theorem own : ownKnob Try.prog.godebug = none := by kernel_rfl
theorem laid : laidOutB Try.prog = true := by kernel_rfl
theorem pars : ∀ t ∈ Try.f3.params.toList, Try.prog.readableRec t = true ∧ t < Try.prog.types.size := by
  have h : Try.f3.params.toList.all (fun t => Try.prog.readableRec t && decide (t < Try.prog.types.size)) = true := by kernel_rfl
  intro t ht; have := List.all_eq_true.1 h t ht; simpa using this
set_option maxRecDepth 100000 in
theorem calls (H : Type) (enc : TypeId × Value → H) (W : World) (base : Nat) (args : Array Value) (ds : List (DataW H)) (before : List MemPlace)
    (hval : ∀ (j : Nat) t v, Try.f3.params[j]? = some t → args[j]? = some v → Value.okWide Try.prog W .any base t v)
    (hA : DataW.TrodAll enc Try.prog W 0 (fun _ => true) true Try.f3.params.toList args.toList ds before) :
    Calls Try.prog 3 args W (Law.Yes W) := by
  rw [Try.params3] at hA hval
  obtain ⟨v0, vs0, d0, ds0, p0, q0, hargs, rfl, rfl, h0, r0⟩ := trodAll_cons hA
  obtain ⟨v1, vs1, d1, ds1, p1, q1, rfl, rfl, rfl, h1, r1⟩ := trodAll_cons r0
  obtain ⟨v2, vs2, d2, ds2, p2, q2, rfl, rfl, rfl, h2, r2⟩ := trodAll_cons r1
  obtain ⟨v3, vs3, d3, ds3, p3, q3, rfl, rfl, rfl, h3, r3⟩ := trodAll_cons r2
  obtain ⟨rfl, rfl, rfl⟩ := trodAll_nil r3
  obtain rfl : args = #[v0, v1, v2, v3] := by cases args; simp_all
  obtain ⟨a0, rfl, rfl, rfl, w0⟩ := open_int Try.underlying22 (hval 0 22 v0 rfl rfl) h0
  obtain ⟨a2, rfl, rfl, rfl, w2⟩ := open_int Try.underlying3 (hval 2 3 v2 rfl rfl) h2
  obtain ⟨a3, rfl, rfl, rfl, w3⟩ := open_int Try.underlying3 (hval 3 3 v3 rfl rfl) h3
  exact walk (W := W) a0 w0 (hval 1 23 v1 rfl rfl) h1 a2 w2 a3 w3
theorem fnOf (H : Type) : ∀ ds : List (DataW H), ds.length = Try.f3.params.toList.length → Rows.strawDrawsSpec.fn H ds = { results := [.lit (.bool true)], args := ds } := by
  intro ds h
  have h : ds.length = 4 := h
  obtain _ | ⟨x0, ds⟩ := ds
  · simp at h
  obtain _ | ⟨x1, ds⟩ := ds
  · simp at h
  obtain _ | ⟨x2, ds⟩ := ds
  · simp at h
  obtain _ | ⟨x3, ds⟩ := ds
  · simp at h
  obtain rfl : ds = [] := List.eq_nil_of_length_eq_zero (by simpa using h)
  rfl
set_option maxRecDepth 100000 in
theorem lifted (os : Os) (started : os.Started) (H : Type) (enc : TypeId × Value → H) :
    ReturnsInHanded {} Try.checked os 3 .any (Rows.strawDrawsSpec.pre6 enc Try.prog Try.f3 Rows.strawDrawsRow.domain false) (Rows.strawDrawsSpec.post enc Try.prog Try.f3 false true false false) := by
  refine returnsInHanded_of_change (C := Try.checked) own started (by kernel_rfl) Try.func3
    (ChangeSpec.witness6 (enc := enc) (C := Try.checked) false ⟨#[], #[.int .u64 0, .slice none 0 0, .int .i64 0, .int .i64 0], []⟩ 8 (by kernel_rfl) (by kernel_rfl) (by kernel_rfl) (by kernel_rfl)) ?_
  intro W base args ds gs before hval hW _ _
  obtain ⟨p, q, hA, hV, rfl, hfz, hnd⟩ := id hW
  obtain ⟨rfl, rfl⟩ := trodVars_none hV
  exact Law.ending (C := Try.checked) (s := Rows.strawDrawsSpec) laid pars rfl Try.underlying4 rfl (fnOf H) hW (calls H enc W base args ds p hval hA)
theorem over : Rows.strawDrawsRow.holds Try.pinned (OpenSpec.ofChange Rows.strawDrawsSpec) :=
  OpenClaim.holds_of_wide 3 Try.f3 rfl rfl rfl rfl rfl rfl rfl ⟨rfl, rfl, rfl, rfl, rfl⟩ rfl rfl rfl rfl rfl (by kernel_rfl) Try.func3 (by kernel_rfl)
    (of_decide_eq_true (by kernel_rfl)) (by unfold Func.isWrapper; first | (rw [if_pos (by decide +kernel)]; kernel_rfl) | (rw [if_neg (by decide +kernel)]; exact ⟨rfl, rfl⟩))
    (fun os started H enc _ => lifted os started H enc)
theorem proved : Rows.StrawDrawsSaid := over
end Go.Proofs.Ytmljipopkgfblaa.strawDraws
