/-
  StripeSplits: for every layout and all integers at and long, the law StripeSplits answers true (Split and Sizes answer what the document says), and its arguments read afterwards as before. No condition.
-/
import Derived.Test.YtlcbchpijijilaaStBad
import Derived.Test.YtlcbchpijijilaaStLay
namespace Go.Proofs.Ytlcbchpijijilaa.stripeSplits
open Go.ChangeShapes Go.WideShapes Go.ChangeAt Go.RowKit
open Mem Stripe
set_option linter.unusedVariables false

theorem two_cells {V X : World} {a b c l : Int} (hb : Below ((V.alloc (.cells #[.int .i64 a, .int .i64 b, .int .i64 c] 23)).alloc (.cells #[.int .i64 l] 3)).heap.size ((V.alloc (.cells #[.int .i64 a, .int .i64 b, .int .i64 c] 23)).alloc (.cells #[.int .i64 l] 3)) X) :
    X.cell? ⟨V.heap.size, 0, none⟩ = some (.int .i64 a) ∧ X.cell? ⟨V.heap.size, 1, none⟩ = some (.int .i64 b) ∧ X.cell? ⟨V.heap.size, 2, none⟩ = some (.int .i64 c) ∧ X.cell? ⟨V.heap.size + 1, 0, none⟩ = some (.int .i64 l) := by
  have k := ((Known.made V 23 #[.int .i64 a, .int .i64 b, .int .i64 c]).alloc (.cells #[.int .i64 l] 3)).later hb
  have k2 := (Known.made (V.alloc (.cells #[.int .i64 a, .int .i64 b, .int .i64 c] 23)) 3 #[.int .i64 l]).later hb
  rw [show (V.alloc (.cells #[.int .i64 a, .int .i64 b, .int .i64 c] 23)).heap.size = V.heap.size + 1 by simp] at k2
  exact ⟨k.cell 0, k.cell 1, k.cell 2, k2.cell 0⟩
theorem below_two {V X : World} {o o2 : Obj} (hb : Below ((V.alloc o).alloc o2).heap.size ((V.alloc o).alloc o2) X) : Below V.heap.size V X :=
  (((Below.refl _ _).alloc (Nat.le_refl _) _).alloc (by simp) _).trans (hb.mono (by simp; omega))
def lenV : Value → Nat
  | .slice _ n _ => n
  | _ => 0
theorem mk_func (fn : Fn) (first cap : Array Value) (w : World) : (Instr.makeFunc fn first cap).run Try.prog w = .ok (.func fn first cap) w := rfl
set_option maxRecDepth 100000 in
set_option maxHeartbeats 4000000 in
theorem form (u w d a l : Int) (V : World) (h : ¬ OkZ u w d) :
    Calls Try.prog 4 #[.agg #[.int .i64 u, .int .i64 w, .int .i64 d], .int .i64 a, .int .i64 l] V (Law.Yes V) := by
  have HS := Lib.hid (fun V => split_err u w d a l 1 V (by omega) (fun V => wr_form u w d a l V h))
  have HZ := Lib.hid (fun V => sizes_err u w d l 1 V (by omega) (fun V => split_err u w d 0 l 1 V (by omega) (fun V => wr_form u w d 0 l V h)))
  have HF := Lib.hid (fun V => fright_no u w d V h)
  clear h
  go_enter Try.func4, Try.ntmps4
  go_wp2_with fail
  refine (HS.out _).mono ?_
  rintro e w1 ⟨rfl, hb⟩
  have hb' := hb
  obtain ⟨c10, c11, c12, c13⟩ := two_cells hb'
  have P1 := Lib.hid hb'
  clear hb hb'
  go_wp2_with fail
  refine (HZ.out _).mono ?_
  rintro e w2 ⟨rfl, hb⟩
  have hb' := P1.out.trans (hb.mono P1.out.size)
  have G2 := Lib.hid hb
  clear c10 c11 c12 c13
  obtain ⟨c20, c21, c22, c23⟩ := two_cells hb'
  have P2 := Lib.hid hb'
  clear hb hb'
  go_wp2_with fail
  refine (HF.out _).mono ?_
  rintro e w3 ⟨rfl, hb⟩
  have hb' := P2.out.trans (hb.mono P2.out.size)
  have G3 := Lib.hid hb
  clear c20 c21 c22 c23
  obtain ⟨c30, c31, c32, c33⟩ := two_cells hb'
  have P3 := Lib.hid hb'
  clear hb hb'
  clear c30 c31 c32 c33
  go_wp2
  go_ret
  exact ⟨rfl, below_two P3.out⟩
set_option maxRecDepth 100000 in
set_option maxHeartbeats 8000000 in
theorem way_bb (U W D : Nat) (a : Int) (l : Int) (V : World) (h : Ok U W D) 
    (hs : ∀ V, Calls Try.prog 15 #[.agg #[.int .i64 U, .int .i64 W, .int .i64 D], .int .i64 a, .int .i64 l] V (Gave (.tuple #[.slice none 0 0, .int .i64 2]) V))
    (hc : ∀ X : World, X.cell? ⟨V.heap.size + 1, 0, none⟩ = some (.int .i64 l) → X.cell? ⟨V.heap.size, 0, none⟩ = some (.int .i64 U) → Calls Try.prog 17 #[.int .i64 a, .pointer (some ⟨V.heap.size + 1, 0, none⟩), .pointer (some ⟨V.heap.size, 0, none⟩)] X (BoolIs true X))
    (hd : ∀ X : World, X.cell? ⟨V.heap.size + 1, 0, none⟩ = some (.int .i64 l) → X.cell? ⟨V.heap.size, 0, none⟩ = some (.int .i64 U) → Calls Try.prog 17 #[.int .i64 0, .pointer (some ⟨V.heap.size + 1, 0, none⟩), .pointer (some ⟨V.heap.size, 0, none⟩)] X (BoolIs true X))
    (hz : ∀ V, Calls Try.prog 16 #[.agg #[.int .i64 U, .int .i64 W, .int .i64 D], .int .i64 l] V (Gave (.tuple #[.slice none 0 0, .int .i64 2]) V)) :
    Calls Try.prog 4 #[.agg #[.int .i64 U, .int .i64 W, .int .i64 D], .int .i64 a, .int .i64 l] V (Law.Yes V) := by
  have HS := Lib.hid hs
  have HC := Lib.hid hc
  have HD := Lib.hid hd
  have HF := Lib.hid (fun V => fright_yes U W D V h.z)
  have mk := fun fn first cap w => mk_func fn first cap w
  have HZ := Lib.hid hz
  clear hs hc hd h hz
  go_enter Try.func4, Try.ntmps4
  go_wp2_with fail
  refine (HS.out _).mono ?_
  rintro e w1 ⟨rfl, hb⟩
  have hb' := hb
  obtain ⟨c10, c11, c12, c13⟩ := two_cells hb'
  have P1 := Lib.hid hb'
  clear hb hb'
  go_wp2_with fail
  refine (HZ.out _).mono ?_
  rintro e w2 ⟨rfl, hb⟩
  have hb' := P1.out.trans (hb.mono P1.out.size)
  have G2 := Lib.hid hb
  clear c10 c11 c12 c13
  obtain ⟨c20, c21, c22, c23⟩ := two_cells hb'
  have P2 := Lib.hid hb'
  clear hb hb'
  go_wp2_with fail
  refine (HF.out _).mono ?_
  rintro e w3 ⟨rfl, hb⟩
  have hb' := P2.out.trans (hb.mono P2.out.size)
  have G3 := Lib.hid hb
  clear c20 c21 c22 c23
  obtain ⟨c30, c31, c32, c33⟩ := two_cells hb'
  have P3 := Lib.hid hb'
  clear hb hb'
  go_wp2_with fail
  refine (HC.out _ c33 c30).mono ?_
  rintro e w' ⟨rfl, rfl⟩
  go_wp2_with fail
  refine (HD.out _ c33 c30).mono ?_
  rintro e w' ⟨rfl, rfl⟩
  clear c30 c31 c32
  go_wp2
  go_ret
  exact ⟨rfl, below_two P3.out⟩
set_option maxRecDepth 100000 in
set_option maxHeartbeats 8000000 in
theorem way_bg (U W D : Nat) (a : Int) (m : Nat) (V : World) (h : Ok U W D) (hm : m ≤ 1099511627776) (h2 : m / U ≤ 400) (h3 : 3000 ≤ m) 
    (hs : ∀ V, Calls Try.prog 15 #[.agg #[.int .i64 U, .int .i64 W, .int .i64 D], .int .i64 a, .int .i64 m] V (Gave (.tuple #[.slice none 0 0, .int .i64 2]) V))
    (hc : ∀ X : World, X.cell? ⟨V.heap.size + 1, 0, none⟩ = some (.int .i64 m) → X.cell? ⟨V.heap.size, 0, none⟩ = some (.int .i64 U) → Calls Try.prog 17 #[.int .i64 a, .pointer (some ⟨V.heap.size + 1, 0, none⟩), .pointer (some ⟨V.heap.size, 0, none⟩)] X (BoolIs true X))
    (hd : ∀ X : World, X.cell? ⟨V.heap.size + 1, 0, none⟩ = some (.int .i64 m) → X.cell? ⟨V.heap.size, 0, none⟩ = some (.int .i64 U) → Calls Try.prog 17 #[.int .i64 0, .pointer (some ⟨V.heap.size + 1, 0, none⟩), .pointer (some ⟨V.heap.size, 0, none⟩)] X (BoolIs false X)) :
    Calls Try.prog 4 #[.agg #[.int .i64 U, .int .i64 W, .int .i64 D], .int .i64 a, .int .i64 m] V (Law.Yes V) := by
  have HS := Lib.hid hs
  have HC := Lib.hid hc
  have HD := Lib.hid hd
  have HF := Lib.hid (fun V => fright_yes U W D V h.z)
  have mk := fun fn first cap w => mk_func fn first cap w
  have HZ := Lib.hid (fun V => sizes_ok U W D m V h hm h2)
  have zl : (sizs U W D m).length ≤ m := siz_len _ _ m
  generalize hzz : sizs U W D m = zs at *
  generalize hnz : zs.length = nz at *
  have LZ := Lib.hid hnz
  clear hs hc hd h h2 hzz hnz
  go_enter Try.func4, Try.ntmps4
  go_wp2_with fail
  refine (HS.out _).mono ?_
  rintro e w1 ⟨rfl, hb⟩
  have hb' := hb
  obtain ⟨c10, c11, c12, c13⟩ := two_cells hb'
  have P1 := Lib.hid hb'
  clear hb hb'
  go_wp2_with fail
  refine (HZ.out _).mono ?_
  rintro e w2 ⟨A2, s2, rfl, hs2, hT2, hb⟩
  have hb' := P1.out.trans (hb.mono P1.out.size)
  have G2 := Lib.hid hb
  clear c10 c11 c12 c13
  obtain ⟨c20, c21, c22, c23⟩ := two_cells hb'
  have P2 := Lib.hid hb'
  rw [LZ.out] at hT2 hs2 ⊢
  have T2 := Lib.hid hT2
  clear hT2
  clear hb hb'
  go_wp2_with fail
  refine (HF.out _).mono ?_
  rintro e w3 ⟨rfl, hb⟩
  have hb' := P2.out.trans (hb.mono P2.out.size)
  have G3 := Lib.hid hb
  clear c20 c21 c22 c23
  obtain ⟨c30, c31, c32, c33⟩ := two_cells hb'
  have P3 := Lib.hid hb'
  clear hb hb'
  go_wp2_with fail
  refine (HC.out _ c33 c30).mono ?_
  rintro e w' ⟨rfl, rfl⟩
  go_wp2_with fail
  refine (HD.out _ c33 c30).mono ?_
  rintro e w' ⟨rfl, rfl⟩
  clear c30 c31 c32
  go_wp2
  go_ret
  exact ⟨rfl, below_two P3.out⟩
set_option maxRecDepth 100000 in
set_option maxHeartbeats 8000000 in
theorem way_bl (U W D : Nat) (a : Int) (m : Nat) (V : World) (h : Ok U W D) (hm : m ≤ 1099511627776) (h2 : m / U ≤ 400) (h3 : m < 3000) 
    (hs : ∀ V, Calls Try.prog 15 #[.agg #[.int .i64 U, .int .i64 W, .int .i64 D], .int .i64 a, .int .i64 m] V (Gave (.tuple #[.slice none 0 0, .int .i64 2]) V))
    (hc : ∀ X : World, X.cell? ⟨V.heap.size + 1, 0, none⟩ = some (.int .i64 m) → X.cell? ⟨V.heap.size, 0, none⟩ = some (.int .i64 U) → Calls Try.prog 17 #[.int .i64 a, .pointer (some ⟨V.heap.size + 1, 0, none⟩), .pointer (some ⟨V.heap.size, 0, none⟩)] X (BoolIs true X))
    (hd : ∀ X : World, X.cell? ⟨V.heap.size + 1, 0, none⟩ = some (.int .i64 m) → X.cell? ⟨V.heap.size, 0, none⟩ = some (.int .i64 U) → Calls Try.prog 17 #[.int .i64 0, .pointer (some ⟨V.heap.size + 1, 0, none⟩), .pointer (some ⟨V.heap.size, 0, none⟩)] X (BoolIs false X)) :
    Calls Try.prog 4 #[.agg #[.int .i64 U, .int .i64 W, .int .i64 D], .int .i64 a, .int .i64 m] V (Law.Yes V) := by
  have HS := Lib.hid hs
  have HC := Lib.hid hc
  have HD := Lib.hid hd
  have HF := Lib.hid (fun V => fright_yes U W D V h.z)
  have mk := fun fn first cap w => mk_func fn first cap w
  have HZ := Lib.hid (fun V => sizes_ok U W D m V h hm h2)
  have HW := Lib.hid (fun x (hx : x ≤ 1099511627776) V => fwhere_c U W D x V h hx)
  have FL := Lib.hid (fun n => (filled h.1.1 h.2.1.1 h.2.2.1 n).le h.1.1 h.2.1.1 h.2.2.1)
  have FO := Lib.hid (fun n => (filled h.1.1 h.2.1.1 h.2.2.1 n).old h.1.1 h.2.1.1 h.2.2.1)
  have SL := Lib.hid (fun n => siz_len (objOf U W D) (frOf U W D) n)
  have FB := Lib.hid (fun n => show frOf U W D n < 1048576 * 1024 + 1 by
    obtain ⟨hU, hW, hD⟩ := h
    have k1 : U * D ≤ 1048576 * 1024 := mul_le (by omega) (by omega)
    have := fr_lt (W := W) hU.1 hD.1 n
    omega)
  have EZ := Lib.hid (show sizs U W D m = siz (objOf U W D) (frOf U W D) m from rfl)
  have zl : (sizs U W D m).length ≤ m := siz_len _ _ m
  generalize hzz : sizs U W D m = zs at *
  generalize hnz : zs.length = nz at *
  have LZ := Lib.hid hnz
  clear hs hc hd h h2 hzz hnz
  go_enter Try.func4, Try.ntmps4
  go_wp2_with fail
  refine (HS.out _).mono ?_
  rintro e w1 ⟨rfl, hb⟩
  have hb' := hb
  obtain ⟨c10, c11, c12, c13⟩ := two_cells hb'
  have P1 := Lib.hid hb'
  clear hb hb'
  go_wp2_with fail
  refine (HZ.out _).mono ?_
  rintro e w2 ⟨A2, s2, rfl, hs2, hT2, hb⟩
  have hb' := P1.out.trans (hb.mono P1.out.size)
  have G2 := Lib.hid hb
  clear c10 c11 c12 c13
  obtain ⟨c20, c21, c22, c23⟩ := two_cells hb'
  have P2 := Lib.hid hb'
  rw [LZ.out] at hT2 hs2 ⊢
  have T2 := Lib.hid hT2
  clear hT2
  clear hb hb'
  go_wp2_with fail
  refine (HF.out _).mono ?_
  rintro e w3 ⟨rfl, hb⟩
  have hb' := P2.out.trans (hb.mono P2.out.size)
  have G3 := Lib.hid hb
  clear c20 c21 c22 c23
  obtain ⟨c30, c31, c32, c33⟩ := two_cells hb'
  have P3 := Lib.hid hb'
  clear hb hb'
  go_wp2_with fail
  refine (HC.out _ c33 c30).mono ?_
  rintro e w' ⟨rfl, rfl⟩
  go_wp2_with fail
  refine (HD.out _ c33 c30).mono ?_
  rintro e w' ⟨rfl, rfl⟩
  have T2z := Lib.hid (T2.out.later G3.out)
  obtain ⟨wz, rfl⟩ : ∃ w : World, w = w3 := ⟨_, rfl⟩
  clear c30 c31 c32
  go_wp2
  go_loopw [12, 91] (fun s12 i wr => ∃ (k : Nat) (C : Option Addr) (c : Nat), k ≤ m ∧ i = .int .i64 k ∧ s12 = .slice C (siz (objOf U W D) (frOf U W D) k).length c ∧ ITab wr wz.heap.size s12 (siz (objOf U W D) (frOf U W D) k) ∧ Below wz.heap.size wz wr) (fun _ i _ => m - (intOf i).toNat)
  case atStart => exact ⟨0, none, 0, by omega, rfl, rfl, ITab.nil _ _, Below.refl _ _⟩
  case round =>
    obtain ⟨k, C, c, hk, rfl, rfl, hT, hB⟩ := hrel
    have KB := Lib.hid hB
    have KT := Lib.hid hT
    clear hT hB
    by_cases hlt : k < m
    · obtain ⟨e0, e1, e2, e3⟩ := two_cells (P3.out.trans (KB.out.mono P3.out.size))
      have H4 := Lib.hid (HW.out k (by omega))
      have ST := Lib.hid (show siz (objOf U W D) (frOf U W D) (k + 1) = if objOf U W D k = (siz (objOf U W D) (frOf U W D) k).length then siz (objOf U W D) (frOf U W D) k ++ [frOf U W D k + 1] else (siz (objOf U W D) (frOf U W D) k).set (objOf U W D k) (frOf U W D k + 1) from rfl)
      have i1 : (k : Int) < (m : Int) := by omega
      have le := FL.out k
      have OLD := Lib.hid (FO.out k)
      have sl := SL.out k
      have fb := FB.out k
      generalize hs : siz (objOf U W D) (frOf U W D) k = s at *
      generalize hob : objOf U W D k = ob at *
      generalize hfr : frOf U W D k = fr at *
      generalize hn : s.length = n at *
      have HN := Lib.hid hn
      clear hs hob hfr hn
      go_wp2_with fail
      refine (H4.out _).mono ?_
      rintro e w3 ⟨rfl, hb3⟩
      have KB3 := Lib.hid (KB.out.trans (hb3.mono KB.out.size))
      have KT3 := Lib.hid (KT.out.later hb3)
      have KS3 := Lib.hid KB3.out.size
      clear hb3 e0 e1 e2
      by_cases eo : ob = n
      · subst eo
        rw [if_pos rfl] at ST
        go_wp2
        go_loopw [12] (fun s12 wr2 => (s12 = .slice C ob c ∧ w3 = wr2) ∨ (∃ C4 c4, s12 = .slice C4 (ob + 1) c4 ∧ ITab wr2 wz.heap.size s12 (s ++ [0]) ∧ Below wz.heap.size wz wr2)) (fun s12 _ => ob + 1 - lenV s12)
        case atStart => exact .inl ⟨rfl, rfl⟩
        case round =>
          rcases hrel with ⟨rfl, rfl⟩ | ⟨C4, c4, rfl, hT4', hB4⟩
          · go_wp2_with (at_builtin; refine wpList_append_int rfl (.tmp 104) (.tmp 105) rfl 0 rfl rfl rfl KT3.out HN.out (by omega) KS3.out KB3.out (Nat.le_refl _) ?_; intro A5 c5 w5 hT5 hg5 hB5; clear hg5)
            have HT5 := Lib.hid hT5.out
            have HB5 := Lib.hid hB5.out
            clear hT5 hB5
            go_wp2
            go_roundw
            case rel => exact .inr ⟨A5, c5, rfl, HT5.out, HB5.out⟩
            case measure => simp [lenV]
          · obtain ⟨g, x, rfl, hg0, -, hgx, cx, fx, hput⟩ := hT4'.put (k := ob) (by rw [List.length_append, HN.out]; rfl) (by omega)
            rw [List.getElem?_append_right (by rw [HN.out]; exact Nat.le_refl _), HN.out, Nat.sub_self] at hgx
            have hx0 : x = 0 := by simpa using hgx.symm
            have hp := hput (fr + 1)
            rw [List.set_append_right _ _ (by rw [HN.out]; exact Nat.le_refl _), HN.out, Nat.sub_self] at hp
            have HP := Lib.hid (show ITab (wr.setCell ⟨g, ob, none⟩ (.int .i64 ((fr : Int) + 1))) wz.heap.size (.slice (some ⟨g, 0, none⟩) (ob + 1) c4) (s ++ [fr + 1]) from hp)
            have HB6 := Lib.hid (hB4.setCell (p := ⟨g, ob, none⟩) hg0 (.int .i64 ((fr : Int) + 1)))
            have i2 : (ob : Int) < (ob : Int) + 1 := by omega
            have i3 : ¬ (ob : Int) + 1 ≤ (ob : Int) := by omega
            have mx : max (x : Int) ((fr : Int) + 1) = (fr : Int) + 1 := by omega
            clear hT4' hput hp hgx hx0
            go_wp2
            go_roundw
            case rel => exact ⟨k + 1, some ⟨g, 0, none⟩, c4, by omega, by go_num, by rw [ST.out, List.length_append, HN.out]; rfl, by rw [ST.out]; exact HP.out, HB6.out⟩
            case measure => simp [intOf]; omega
      · have elt : ob < n := by omega
        rw [if_neg eo] at ST
        go_wp2
        go_loop [12] (fun s12 => s12 = .slice C n c) (fun _ => 0)
        case atStart => rfl
        case round =>
          obtain rfl := hrel
          obtain ⟨g, x, rfl, hg0, -, hgx, cx, fx, hput⟩ := KT3.out.put (k := ob) HN.out elt
          rw [OLD.out elt] at hgx
          have hx0 : x = fr := by injection hgx with h; exact h.symm
          have hp := hput (fr + 1)
          have HP := Lib.hid (show ITab (w3.setCell ⟨g, ob, none⟩ (.int .i64 ((fr : Int) + 1))) wz.heap.size (.slice (some ⟨g, 0, none⟩) n c) (s.set ob (fr + 1)) from hp)
          have HB6 := Lib.hid (KB3.out.setCell (p := ⟨g, ob, none⟩) hg0 (.int .i64 ((fr : Int) + 1)))
          have i2 : (ob : Int) < (n : Int) := by omega
          have i3 : ¬ (n : Int) ≤ (ob : Int) := by omega
          have mx : max (x : Int) ((fr : Int) + 1) = (fr : Int) + 1 := by omega
          clear hput hp hgx hx0 eo le
          go_wp2
          go_roundw
          case rel => exact ⟨k + 1, some ⟨g, 0, none⟩, c, by omega, by go_num, by rw [ST.out, List.length_set, HN.out], by rw [ST.out]; exact HP.out, HB6.out⟩
          case measure => simp [intOf]; omega
    · obtain rfl : k = m := by omega
      have hT := KT.out
      rw [← EZ.out] at hT ⊢
      rw [LZ.out] at hT ⊢
      have HT := Lib.hid hT
      have TZ := Lib.hid (T2z.out.later KB.out)
      clear hT KT
      go_wp2_with fail
      refine (equalI_c A2 C zs zs nz nz s2 c _ LZ.out LZ.out (by omega) (by omega) TZ.out.reads HT.out.reads).mono ?_
      rintro e w6 ⟨rfl, hb⟩
      rw [decide_eq_true (rfl : zs = zs)]
      have PF := Lib.hid (P3.out.trans ((KB.out.trans (hb.mono KB.out.size)).mono P3.out.size))
      clear hb
      go_wp2
      go_ret
      exact ⟨rfl, below_two PF.out⟩
set_option maxRecDepth 100000 in
set_option maxHeartbeats 8000000 in
theorem way_og (U W D : Nat) (a : Int) (m : Nat) (es : List Ex) (V : World) (h : Ok U W D) (hm : m ≤ 1099511627776) (h2 : m / U ≤ 400) (h3 : 3000 ≤ m) (hl : es.length ≤ 1099511627776)
    (hs : ∀ V, Calls Try.prog 15 #[.agg #[.int .i64 U, .int .i64 W, .int .i64 D], .int .i64 a, .int .i64 m] V (ExOut es V))
    (hc : ∀ X : World, X.cell? ⟨V.heap.size + 1, 0, none⟩ = some (.int .i64 m) → X.cell? ⟨V.heap.size, 0, none⟩ = some (.int .i64 U) → Calls Try.prog 17 #[.int .i64 a, .pointer (some ⟨V.heap.size + 1, 0, none⟩), .pointer (some ⟨V.heap.size, 0, none⟩)] X (BoolIs false X))
    (hd : ∀ X : World, X.cell? ⟨V.heap.size + 1, 0, none⟩ = some (.int .i64 m) → X.cell? ⟨V.heap.size, 0, none⟩ = some (.int .i64 U) → Calls Try.prog 17 #[.int .i64 0, .pointer (some ⟨V.heap.size + 1, 0, none⟩), .pointer (some ⟨V.heap.size, 0, none⟩)] X (BoolIs false X)) :
    Calls Try.prog 4 #[.agg #[.int .i64 U, .int .i64 W, .int .i64 D], .int .i64 a, .int .i64 m] V (Law.Yes V) := by
  have HS := Lib.hid hs
  have HC := Lib.hid hc
  have HD := Lib.hid hd
  have HF := Lib.hid (fun V => fright_yes U W D V h.z)
  have mk := fun fn first cap w => mk_func fn first cap w
  generalize hns : es.length = ns at *
  have LS := Lib.hid hns
  have HZ := Lib.hid (fun V => sizes_ok U W D m V h hm h2)
  have zl : (sizs U W D m).length ≤ m := siz_len _ _ m
  generalize hzz : sizs U W D m = zs at *
  generalize hnz : zs.length = nz at *
  have LZ := Lib.hid hnz
  clear hs hc hd h hns h2 hzz hnz
  go_enter Try.func4, Try.ntmps4
  go_wp2_with fail
  refine (HS.out _).mono ?_
  rintro e w1 ⟨A1, s1, rfl, hs1, hT1, hb⟩
  have hb' := hb
  obtain ⟨c10, c11, c12, c13⟩ := two_cells hb'
  have P1 := Lib.hid hb'
  rw [LS.out] at hT1 hs1 ⊢
  have T1 := Lib.hid hT1
  clear hT1
  clear hb hb'
  go_wp2_with fail
  refine (HZ.out _).mono ?_
  rintro e w2 ⟨A2, s2, rfl, hs2, hT2, hb⟩
  have hb' := P1.out.trans (hb.mono P1.out.size)
  have G2 := Lib.hid hb
  clear c10 c11 c12 c13
  obtain ⟨c20, c21, c22, c23⟩ := two_cells hb'
  have P2 := Lib.hid hb'
  rw [LZ.out] at hT2 hs2 ⊢
  have T2 := Lib.hid hT2
  clear hT2
  clear hb hb'
  go_wp2_with fail
  refine (HF.out _).mono ?_
  rintro e w3 ⟨rfl, hb⟩
  have hb' := P2.out.trans (hb.mono P2.out.size)
  have G3 := Lib.hid hb
  clear c20 c21 c22 c23
  obtain ⟨c30, c31, c32, c33⟩ := two_cells hb'
  have P3 := Lib.hid hb'
  clear hb hb'
  go_wp2_with fail
  refine (HC.out _ c33 c30).mono ?_
  rintro e w' ⟨rfl, rfl⟩
  go_wp2_with fail
  refine (HD.out _ c33 c30).mono ?_
  rintro e w' ⟨rfl, rfl⟩
  clear c30 c31 c32
  go_wp2
  go_ret
  exact ⟨rfl, below_two P3.out⟩
set_option maxRecDepth 100000 in
set_option maxHeartbeats 8000000 in
theorem way_ol (U W D : Nat) (a : Int) (m : Nat) (es : List Ex) (V : World) (h : Ok U W D) (hm : m ≤ 1099511627776) (h2 : m / U ≤ 400) (h3 : m < 3000) (hl : es.length ≤ 1099511627776)
    (hs : ∀ V, Calls Try.prog 15 #[.agg #[.int .i64 U, .int .i64 W, .int .i64 D], .int .i64 a, .int .i64 m] V (ExOut es V))
    (hx : ∀ V, Calls Try.prog 19 #[.agg #[.int .i64 U, .int .i64 W, .int .i64 D], .int .i64 a, .int .i64 m] V fun e W' => ∃ A c, e = .returned (.slice A es.length c) ∧ ETab W' V.heap.size (.slice A es.length c) es ∧ Below V.heap.size V W')
    (hc : ∀ X : World, X.cell? ⟨V.heap.size + 1, 0, none⟩ = some (.int .i64 m) → X.cell? ⟨V.heap.size, 0, none⟩ = some (.int .i64 U) → Calls Try.prog 17 #[.int .i64 a, .pointer (some ⟨V.heap.size + 1, 0, none⟩), .pointer (some ⟨V.heap.size, 0, none⟩)] X (BoolIs false X))
    (hd : ∀ X : World, X.cell? ⟨V.heap.size + 1, 0, none⟩ = some (.int .i64 m) → X.cell? ⟨V.heap.size, 0, none⟩ = some (.int .i64 U) → Calls Try.prog 17 #[.int .i64 0, .pointer (some ⟨V.heap.size + 1, 0, none⟩), .pointer (some ⟨V.heap.size, 0, none⟩)] X (BoolIs false X)) :
    Calls Try.prog 4 #[.agg #[.int .i64 U, .int .i64 W, .int .i64 D], .int .i64 a, .int .i64 m] V (Law.Yes V) := by
  have HS := Lib.hid hs
  have HC := Lib.hid hc
  have HD := Lib.hid hd
  have HF := Lib.hid (fun V => fright_yes U W D V h.z)
  have mk := fun fn first cap w => mk_func fn first cap w
  generalize hns : es.length = ns at *
  have LS := Lib.hid hns
  have HX := Lib.hid hx
  have HZ := Lib.hid (fun V => sizes_ok U W D m V h hm h2)
  have HW := Lib.hid (fun x (hx : x ≤ 1099511627776) V => fwhere_c U W D x V h hx)
  have FL := Lib.hid (fun n => (filled h.1.1 h.2.1.1 h.2.2.1 n).le h.1.1 h.2.1.1 h.2.2.1)
  have FO := Lib.hid (fun n => (filled h.1.1 h.2.1.1 h.2.2.1 n).old h.1.1 h.2.1.1 h.2.2.1)
  have SL := Lib.hid (fun n => siz_len (objOf U W D) (frOf U W D) n)
  have FB := Lib.hid (fun n => show frOf U W D n < 1048576 * 1024 + 1 by
    obtain ⟨hU, hW, hD⟩ := h
    have k1 : U * D ≤ 1048576 * 1024 := mul_le (by omega) (by omega)
    have := fr_lt (W := W) hU.1 hD.1 n
    omega)
  have EZ := Lib.hid (show sizs U W D m = siz (objOf U W D) (frOf U W D) m from rfl)
  have zl : (sizs U W D m).length ≤ m := siz_len _ _ m
  generalize hzz : sizs U W D m = zs at *
  generalize hnz : zs.length = nz at *
  have LZ := Lib.hid hnz
  clear hs hc hd h hns hx h2 hzz hnz
  go_enter Try.func4, Try.ntmps4
  go_wp2_with fail
  refine (HS.out _).mono ?_
  rintro e w1 ⟨A1, s1, rfl, hs1, hT1, hb⟩
  have hb' := hb
  obtain ⟨c10, c11, c12, c13⟩ := two_cells hb'
  have P1 := Lib.hid hb'
  rw [LS.out] at hT1 hs1 ⊢
  have T1 := Lib.hid hT1
  clear hT1
  clear hb hb'
  go_wp2_with fail
  refine (HZ.out _).mono ?_
  rintro e w2 ⟨A2, s2, rfl, hs2, hT2, hb⟩
  have hb' := P1.out.trans (hb.mono P1.out.size)
  have G2 := Lib.hid hb
  clear c10 c11 c12 c13
  obtain ⟨c20, c21, c22, c23⟩ := two_cells hb'
  have P2 := Lib.hid hb'
  rw [LZ.out] at hT2 hs2 ⊢
  have T2 := Lib.hid hT2
  clear hT2
  clear hb hb'
  go_wp2_with fail
  refine (HF.out _).mono ?_
  rintro e w3 ⟨rfl, hb⟩
  have hb' := P2.out.trans (hb.mono P2.out.size)
  have G3 := Lib.hid hb
  clear c20 c21 c22 c23
  obtain ⟨c30, c31, c32, c33⟩ := two_cells hb'
  have P3 := Lib.hid hb'
  clear hb hb'
  go_wp2_with fail
  refine (HC.out _ c33 c30).mono ?_
  rintro e w' ⟨rfl, rfl⟩
  have T1b := Lib.hid ((T1.out.later G2.out).later G3.out)
  go_wp2_with fail
  refine (HX.out _).mono ?_
  rintro e w4 ⟨A4, s4, rfl, hT4, hb⟩
  have hb' := P3.out.trans (hb.mono P3.out.size)
  have G4 := Lib.hid hb
  clear c30 c31 c32 c33
  obtain ⟨c40, c41, c42, c43⟩ := two_cells hb'
  have P4 := Lib.hid hb'
  have T4 := Lib.hid hT4
  clear hb hb'
  have T1c := Lib.hid (T1b.out.later G4.out)
  go_wp2_with fail
  refine (equalEx_c A1 A4 es es ns ns s1 s4 _ LS.out LS.out (by omega) T1c.out.rds T4.out.rds).mono ?_
  rintro e w5 ⟨rfl, hb⟩
  have hb' := P4.out.trans (hb.mono P4.out.size)
  have G5 := Lib.hid hb
  clear c40 c41 c42 c43
  obtain ⟨c50, c51, c52, c53⟩ := two_cells hb'
  have P5 := Lib.hid hb'
  clear hb hb'
  rw [show eqEx es es = true from decide_eq_true rfl]
  go_wp2_with fail
  refine (HD.out _ c53 c50).mono ?_
  rintro e w' ⟨rfl, rfl⟩
  have T2z := Lib.hid (((T2.out.later G3.out).later G4.out).later G5.out)
  obtain ⟨wz, rfl⟩ : ∃ w : World, w = w5 := ⟨_, rfl⟩
  clear c50 c51 c52
  go_wp2
  go_loopw [12, 91] (fun s12 i wr => ∃ (k : Nat) (C : Option Addr) (c : Nat), k ≤ m ∧ i = .int .i64 k ∧ s12 = .slice C (siz (objOf U W D) (frOf U W D) k).length c ∧ ITab wr wz.heap.size s12 (siz (objOf U W D) (frOf U W D) k) ∧ Below wz.heap.size wz wr) (fun _ i _ => m - (intOf i).toNat)
  case atStart => exact ⟨0, none, 0, by omega, rfl, rfl, ITab.nil _ _, Below.refl _ _⟩
  case round =>
    obtain ⟨k, C, c, hk, rfl, rfl, hT, hB⟩ := hrel
    have KB := Lib.hid hB
    have KT := Lib.hid hT
    clear hT hB
    by_cases hlt : k < m
    · obtain ⟨e0, e1, e2, e3⟩ := two_cells (P5.out.trans (KB.out.mono P5.out.size))
      have H4 := Lib.hid (HW.out k (by omega))
      have ST := Lib.hid (show siz (objOf U W D) (frOf U W D) (k + 1) = if objOf U W D k = (siz (objOf U W D) (frOf U W D) k).length then siz (objOf U W D) (frOf U W D) k ++ [frOf U W D k + 1] else (siz (objOf U W D) (frOf U W D) k).set (objOf U W D k) (frOf U W D k + 1) from rfl)
      have i1 : (k : Int) < (m : Int) := by omega
      have le := FL.out k
      have OLD := Lib.hid (FO.out k)
      have sl := SL.out k
      have fb := FB.out k
      generalize hs : siz (objOf U W D) (frOf U W D) k = s at *
      generalize hob : objOf U W D k = ob at *
      generalize hfr : frOf U W D k = fr at *
      generalize hn : s.length = n at *
      have HN := Lib.hid hn
      clear hs hob hfr hn
      go_wp2_with fail
      refine (H4.out _).mono ?_
      rintro e w3 ⟨rfl, hb3⟩
      have KB3 := Lib.hid (KB.out.trans (hb3.mono KB.out.size))
      have KT3 := Lib.hid (KT.out.later hb3)
      have KS3 := Lib.hid KB3.out.size
      clear hb3 e0 e1 e2
      by_cases eo : ob = n
      · subst eo
        rw [if_pos rfl] at ST
        go_wp2
        go_loopw [12] (fun s12 wr2 => (s12 = .slice C ob c ∧ w3 = wr2) ∨ (∃ C4 c4, s12 = .slice C4 (ob + 1) c4 ∧ ITab wr2 wz.heap.size s12 (s ++ [0]) ∧ Below wz.heap.size wz wr2)) (fun s12 _ => ob + 1 - lenV s12)
        case atStart => exact .inl ⟨rfl, rfl⟩
        case round =>
          rcases hrel with ⟨rfl, rfl⟩ | ⟨C4, c4, rfl, hT4', hB4⟩
          · go_wp2_with (at_builtin; refine wpList_append_int rfl (.tmp 104) (.tmp 105) rfl 0 rfl rfl rfl KT3.out HN.out (by omega) KS3.out KB3.out (Nat.le_refl _) ?_; intro A5 c5 w5 hT5 hg5 hB5; clear hg5)
            have HT5 := Lib.hid hT5.out
            have HB5 := Lib.hid hB5.out
            clear hT5 hB5
            go_wp2
            go_roundw
            case rel => exact .inr ⟨A5, c5, rfl, HT5.out, HB5.out⟩
            case measure => simp [lenV]
          · obtain ⟨g, x, rfl, hg0, -, hgx, cx, fx, hput⟩ := hT4'.put (k := ob) (by rw [List.length_append, HN.out]; rfl) (by omega)
            rw [List.getElem?_append_right (by rw [HN.out]; exact Nat.le_refl _), HN.out, Nat.sub_self] at hgx
            have hx0 : x = 0 := by simpa using hgx.symm
            have hp := hput (fr + 1)
            rw [List.set_append_right _ _ (by rw [HN.out]; exact Nat.le_refl _), HN.out, Nat.sub_self] at hp
            have HP := Lib.hid (show ITab (wr.setCell ⟨g, ob, none⟩ (.int .i64 ((fr : Int) + 1))) wz.heap.size (.slice (some ⟨g, 0, none⟩) (ob + 1) c4) (s ++ [fr + 1]) from hp)
            have HB6 := Lib.hid (hB4.setCell (p := ⟨g, ob, none⟩) hg0 (.int .i64 ((fr : Int) + 1)))
            have i2 : (ob : Int) < (ob : Int) + 1 := by omega
            have i3 : ¬ (ob : Int) + 1 ≤ (ob : Int) := by omega
            have mx : max (x : Int) ((fr : Int) + 1) = (fr : Int) + 1 := by omega
            clear hT4' hput hp hgx hx0
            go_wp2
            go_roundw
            case rel => exact ⟨k + 1, some ⟨g, 0, none⟩, c4, by omega, by go_num, by rw [ST.out, List.length_append, HN.out]; rfl, by rw [ST.out]; exact HP.out, HB6.out⟩
            case measure => simp [intOf]; omega
      · have elt : ob < n := by omega
        rw [if_neg eo] at ST
        go_wp2
        go_loop [12] (fun s12 => s12 = .slice C n c) (fun _ => 0)
        case atStart => rfl
        case round =>
          obtain rfl := hrel
          obtain ⟨g, x, rfl, hg0, -, hgx, cx, fx, hput⟩ := KT3.out.put (k := ob) HN.out elt
          rw [OLD.out elt] at hgx
          have hx0 : x = fr := by injection hgx with h; exact h.symm
          have hp := hput (fr + 1)
          have HP := Lib.hid (show ITab (w3.setCell ⟨g, ob, none⟩ (.int .i64 ((fr : Int) + 1))) wz.heap.size (.slice (some ⟨g, 0, none⟩) n c) (s.set ob (fr + 1)) from hp)
          have HB6 := Lib.hid (KB3.out.setCell (p := ⟨g, ob, none⟩) hg0 (.int .i64 ((fr : Int) + 1)))
          have i2 : (ob : Int) < (n : Int) := by omega
          have i3 : ¬ (n : Int) ≤ (ob : Int) := by omega
          have mx : max (x : Int) ((fr : Int) + 1) = (fr : Int) + 1 := by omega
          clear hput hp hgx hx0 eo le
          go_wp2
          go_roundw
          case rel => exact ⟨k + 1, some ⟨g, 0, none⟩, c, by omega, by go_num, by rw [ST.out, List.length_set, HN.out], by rw [ST.out]; exact HP.out, HB6.out⟩
          case measure => simp [intOf]; omega
    · obtain rfl : k = m := by omega
      have hT := KT.out
      rw [← EZ.out] at hT ⊢
      rw [LZ.out] at hT ⊢
      have HT := Lib.hid hT
      have TZ := Lib.hid (T2z.out.later KB.out)
      clear hT KT
      go_wp2_with fail
      refine (equalI_c A2 C zs zs nz nz s2 c _ LZ.out LZ.out (by omega) (by omega) TZ.out.reads HT.out.reads).mono ?_
      rintro e w6 ⟨rfl, hb⟩
      rw [decide_eq_true (rfl : zs = zs)]
      have PF := Lib.hid (P5.out.trans ((KB.out.trans (hb.mono KB.out.size)).mono P5.out.size))
      clear hb
      go_wp2
      go_ret
      exact ⟨rfl, below_two PF.out⟩
theorem words (u w d a l : Int) (V : World) (wl : (Lit.int .i64 l).wf = true) :
    Calls Try.prog 4 #[.agg #[.int .i64 u, .int .i64 w, .int .i64 d], .int .i64 a, .int .i64 l] V (Law.Yes V) := by
  by_cases h : OkZ u w d
  · obtain ⟨U, W, D, rfl, rfl, rfl, hok⟩ := h.n
    have hU := hok.1
    by_cases hz : RangeOk U 0 l
    · have hd := fun (X : World) cl cu => bad_no U 0 l (V.heap.size + 1) V.heap.size X hU cl cu hz
      obtain ⟨h1, h2, h3, h4⟩ := hz
      obtain ⟨m, rfl⟩ : ∃ m : Nat, l = m := ⟨l.toNat, by omega⟩
      rw [divs] at h4
      by_cases hr : RangeOk U a m
      · have hc := fun (X : World) cl cu => bad_no U a m (V.heap.size + 1) V.heap.size X hU cl cu hr
        obtain ⟨r1, r2, r3, r4⟩ := hr
        obtain ⟨n, rfl⟩ : ∃ m : Nat, a = m := ⟨a.toNat, by omega⟩
        have gl : (exts U W D n m).length ≤ m := grow_len n m
        by_cases hb : m < 3000
        · exact way_ol U W D n m (exts U W D n m) V hok (by omega) (by omega) hb (by omega) (fun V => split_ok U W D n m V hok (by omega) (by omega)) (fun V => fsplit_c U W D n m V hok (by omega)) hc hd
        · exact way_og U W D n m (exts U W D n m) V hok (by omega) (by omega) (by omega) (by omega) (fun V => split_ok U W D n m V hok (by omega) (by omega)) hc hd
      · have hc := fun (X : World) cl cu => bad_yes U a m (V.heap.size + 1) V.heap.size X hU (by omega) cl cu hr
        have hs := fun V => split_err U W D a m 2 V (by omega) (fun V => wr_bad U W D a m V hok (by omega) hr)
        by_cases hb : m < 3000
        · exact way_bl U W D a m V hok (by omega) (by omega) hb hs hc hd
        · exact way_bg U W D a m V hok (by omega) (by omega) (by omega) hs hc hd
    · have wl := wf_le wl
      have hr : ¬ RangeOk U a l := by
        intro ⟨r1, r2, r3, r4⟩
        exact hz ⟨by omega, r2, by omega, r4⟩
      exact way_bb U W D a l V hok (fun V => split_err U W D a l 2 V (by omega) (fun V => wr_bad U W D a l V hok wl hr)) (fun X cl cu => bad_yes U a l (V.heap.size + 1) V.heap.size X hU wl cl cu hr) (fun X cl cu => bad_yes U 0 l (V.heap.size + 1) V.heap.size X hU wl cl cu hz)
        (fun V => sizes_err U W D l 2 V (by omega) (fun V => split_err U W D 0 l 2 V (by omega) (fun V => wr_bad U W D 0 l V hok wl hz)))
  · exact form u w d a l V h
theorem walk {H : Type} {enc : TypeId × Value → H} {base : Nat} {W : World} {v0 : Value} {d0 : DataW H} {p0 : List MemPlace}
    (o0 : Value.okWide Try.prog W .any base 23 v0) (h0 : DataW.Trod enc Try.prog W 0 (fun _ => true) true 23 v0 d0 p0) (a1 : Int) (w1 : (Lit.int .i64 a1).wf = true) (a2 : Int) (w2 : (Lit.int .i64 a2).wf = true) :
    Calls Try.prog 4 #[v0, .int .i64 a1, .int .i64 a2] W (Law.Yes W) := by
  obtain ⟨u, w, z, rfl, _, _, _⟩ := open_layout o0 h0
  exact words u w z a1 a2 W w2
theorem own : ownKnob Try.prog.godebug = none := by kernel_rfl
theorem laid : laidOutB Try.prog = true := by kernel_rfl
theorem pars : ∀ t ∈ Try.f4.params.toList, Try.prog.readableRec t = true ∧ t < Try.prog.types.size := by
  have h : Try.f4.params.toList.all (fun t => Try.prog.readableRec t && decide (t < Try.prog.types.size)) = true := by kernel_rfl
  intro t ht; have := List.all_eq_true.1 h t ht; simpa using this
theorem calls (H : Type) (enc : TypeId × Value → H) (W : World) (base : Nat) (args : Array Value) (ds : List (DataW H)) (before : List MemPlace)
    (hval : ∀ (j : Nat) t v, Try.f4.params[j]? = some t → args[j]? = some v → Value.okWide Try.prog W .any base t v)
    (hA : DataW.TrodAll enc Try.prog W 0 (fun _ => true) true Try.f4.params.toList args.toList ds before) :
    Calls Try.prog 4 args W (Law.Yes W) := by
  rw [Try.params4] at hA hval
  obtain ⟨v0, vs0, d0, ds0, p0, q0, hargs, rfl, rfl, h0, r0⟩ := trodAll_cons hA
  obtain ⟨v1, vs1, d1, ds1, p1, q1, rfl, rfl, rfl, h1, r1⟩ := trodAll_cons r0
  obtain ⟨v2, vs2, d2, ds2, p2, q2, rfl, rfl, rfl, h2, r2⟩ := trodAll_cons r1
  obtain ⟨rfl, rfl, rfl⟩ := trodAll_nil r2
  obtain rfl : args = #[v0, v1, v2] := by cases args; simp_all
  obtain ⟨a1, rfl, rfl, rfl, w1⟩ := open_int Try.underlying3 (hval 1 3 v1 rfl rfl) h1
  obtain ⟨a2, rfl, rfl, rfl, w2⟩ := open_int Try.underlying3 (hval 2 3 v2 rfl rfl) h2
  exact walk (W := W) (hval 0 23 v0 rfl rfl) h0 a1 w1 a2 w2
theorem fnOf (H : Type) : ∀ ds : List (DataW H), ds.length = Try.f4.params.toList.length → Rows.stripeSplitsSpec.fn H ds = { results := [.lit (.bool true)], args := ds } := by
  intro ds h
  have h : ds.length = 3 := h
  obtain _ | ⟨x0, ds⟩ := ds
  · simp at h
  obtain _ | ⟨x1, ds⟩ := ds
  · simp at h
  obtain _ | ⟨x2, ds⟩ := ds
  · simp at h
  obtain rfl : ds = [] := List.eq_nil_of_length_eq_zero (by simpa using h)
  rfl
set_option maxRecDepth 100000 in
theorem lifted (os : Os) (started : os.Started) (H : Type) (enc : TypeId × Value → H) :
    ReturnsInHanded {} Try.checked os 4 .any (Rows.stripeSplitsSpec.pre6 enc Try.prog Try.f4 Rows.stripeSplitsRow.domain false) (Rows.stripeSplitsSpec.post enc Try.prog Try.f4 false true false false) := by
  refine returnsInHanded_of_change (C := Try.checked) own started (by kernel_rfl) Try.func4
    (ChangeSpec.witness6 (enc := enc) (C := Try.checked) false ⟨#[], #[.agg #[.int .i64 0, .int .i64 0, .int .i64 0], .int .i64 0, .int .i64 0], []⟩ 8 (by kernel_rfl) (by kernel_rfl) (by kernel_rfl) (by kernel_rfl)) ?_
  intro W base args ds gs before hval hW _ _
  obtain ⟨p, q, hA, hV, rfl, hfz, hnd⟩ := id hW
  obtain ⟨rfl, rfl⟩ := trodVars_none hV
  exact Law.ending (C := Try.checked) (s := Rows.stripeSplitsSpec) laid pars rfl Try.underlying4 rfl (fnOf H) hW (calls H enc W base args ds p hval hA)
theorem over : Rows.stripeSplitsRow.holds Try.pinned (OpenSpec.ofChange Rows.stripeSplitsSpec) :=
  OpenClaim.holds_of_wide 4 Try.f4 rfl rfl rfl rfl rfl rfl rfl ⟨rfl, rfl, rfl, rfl, rfl⟩ rfl rfl rfl rfl rfl (by kernel_rfl) Try.func4 (by kernel_rfl)
    (of_decide_eq_true (by kernel_rfl)) (by unfold Func.isWrapper; first | (rw [if_pos (by decide +kernel)]; kernel_rfl) | (rw [if_neg (by decide +kernel)]; exact ⟨rfl, rfl⟩))
    (fun os started H enc _ => lifted os started H enc)
theorem proved : Rows.StripeSplitsSaid := over
end Go.Proofs.Ytlcbchpijijilaa.stripeSplits
