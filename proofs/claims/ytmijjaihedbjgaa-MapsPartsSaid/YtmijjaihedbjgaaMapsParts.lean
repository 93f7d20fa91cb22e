/-
  MapsParts: for all maps m, all lists of steps l and all n, the law MapsParts answers true (so many steps, and the rest, are all), and its arguments read afterwards as before. No condition.
-/
import Derived.Test.YtmijjaihedbjgaaMpHold
namespace Go.Proofs.Ytmijjaihedbjgaa.mapsParts
open Go.ChangeShapes Go.WideShapes Go.ChangeAt Go.RowKit
open Mem Mps
set_option linter.unusedVariables false
set_option linter.unusedSimpArgs false

theorem hm_b {w : World} {g n c : Nat} {e : Int} {A : Option Addr} {l : List Int} (hk : Known w g 24 #[.int .i64 0, .slice none 0 0]) (hr : Reads w A (ints l)) (hf : ∀ a, A = some a → a.block ≠ g) :
    HM ((w.setCell ⟨g, 0, none⟩ (.int .i64 e)).setCell ⟨g, 1, none⟩ (.slice A n c)) g e A n c l :=
  ⟨(known_putM (a := .int .i64 e) (b := .slice A n c) hk).cell 0, (known_putM (a := .int .i64 e) (b := .slice A n c) hk).cell 1, reads_put hr hf _ _ _ _⟩
/-- What the law's calls come to, as letters. -/
structure Bad (m1 : Int) (l : List Int) (ls : List Sp) (j : Nat) (k : Int) : Prop where
  all : Says (alE (m1, l) ls) (alM (m1, l) ls) 0 [] 0 k
  fst : Says (alE (m1, l) (ls.take j)) (alM (m1, l) (ls.take j)) 0 [] 0 k
structure Fine (m1 : Int) (l : List Int) (ls : List Sp) (j : Nat) (eB : Int) (lB : List Int) (nB : Nat) (e0 : Int) (l0 : List Int) (n0 : Nat) (k : Int) : Prop where
  all : Says (alE (m1, l) ls) (alM (m1, l) ls) e0 l0 n0 k
  fst : Says (alE (m1, l) (ls.take j)) (alM (m1, l) (ls.take j)) eB lB nB 0
  snd : Says (alE (eB, lB) (ls.drop j)) (alM (eB, lB) (ls.drop j)) e0 l0 n0 k
  len : nB ≤ 400
  len0 : n0 ≤ 400
theorem bad_of {m1 : Int} {l : List Int} {ls : List Sp} {j : Nat} (h : alE (m1, l) (ls.take j) ≠ 0) : Bad m1 l ls j (alE (m1, l) (ls.take j)) := by
  have e := (al_parts (m := (m1, l)) (l := ls.take j) (k := ls.drop j)).1 h
  rw [List.take_append_drop] at e
  exact ⟨⟨e, alM_bad (by rw [e]; exact h), rfl⟩, ⟨rfl, alM_bad h, rfl⟩⟩
theorem fine_of {m1 : Int} {l : List Int} {ls : List Sp} {j : Nat} (h : alE (m1, l) (ls.take j) = 0) :
    Fine m1 l ls j (alM (m1, l) (ls.take j)).1 (alM (m1, l) (ls.take j)).2 (alM (m1, l) (ls.take j)).2.length (alM (m1, l) ls).1 (alM (m1, l) ls).2 (alM (m1, l) ls).2.length (alE (m1, l) ls) := by
  obtain ⟨e1, e2⟩ := (al_parts (m := (m1, l)) (l := ls.take j) (k := ls.drop j)).2 h
  rw [List.take_append_drop] at e1 e2
  refine ⟨⟨rfl, rfl, rfl⟩, ⟨h, rfl, rfl⟩, ⟨e1, e2, rfl⟩, (alM_okM h).2.2, ?_⟩
  by_cases h0 : alE (m1, l) ls = 0
  · exact (alM_okM h0).2.2
  · rw [alM_bad h0]; simp
set_option maxRecDepth 100000 in
set_option maxHeartbeats 16000000 in
theorem low (m1 : Int) (A : Option Addr) (l : List Int) (n c : Nat) (S : Option Addr) (q cs : Nat) (x : Int) (W : World) (hn : l.length = n) (hbig : n ≤ 17592186044416) (hx : Reads W A (ints l))
    (h : x < 0) :
    Calls Try.prog 8 #[.agg #[.int .i64 m1, .slice A n c], .slice S q cs, .int .i64 x] W (Law.Yes W) := by
  have y0 : decide (x < 0) = true := decide_eq_true h
  have X0 := Lib.hid (HM.new (e := m1) (n := n) (c := c) hx rfl)
  have B0 := Lib.hid (show Below W.heap.size W (W.alloc (.cells #[.int .i64 m1, .slice A n c] 24)) from below_alloc _ _)
  have HN := Lib.hid hn
  clear hn hx
  clear h
  go_enter Try.func8, Try.ntmps8
  obtain ⟨X_0, X_1, -⟩ := X0.out
  go_wp2_with fail
  refine (alive_c _).mono ?_
  rintro e w1 ⟨rfl, hb⟩
  clear X_0 X_1
  have Xr1 := Lib.hid (X0.out.below hb)
  have Br1 := Lib.hid (B0.out.trans (hb.mono B0.out.size))
  clear X0
  clear hb
  obtain ⟨X_0, X_1, -⟩ := Xr1.out
  go_wp2
  go_ret
  exact ⟨rfl, Br1.out⟩
set_option maxRecDepth 100000 in
set_option maxHeartbeats 16000000 in
theorem high (m1 : Int) (A : Option Addr) (l : List Int) (n c : Nat) (S : Option Addr) (q cs : Nat) (x : Int) (W : World) (hn : l.length = n) (hbig : n ≤ 17592186044416) (hx : Reads W A (ints l))
    (h0 : 0 ≤ x) (h : (q : Int) < x) :
    Calls Try.prog 8 #[.agg #[.int .i64 m1, .slice A n c], .slice S q cs, .int .i64 x] W (Law.Yes W) := by
  have y0 : decide (x < 0) = false := decide_eq_false (by omega)
  have y1 : decide ((q : Int) < x) = true := decide_eq_true h
  have X0 := Lib.hid (HM.new (e := m1) (n := n) (c := c) hx rfl)
  have B0 := Lib.hid (show Below W.heap.size W (W.alloc (.cells #[.int .i64 m1, .slice A n c] 24)) from below_alloc _ _)
  have HN := Lib.hid hn
  clear hn hx
  clear h h0
  go_enter Try.func8, Try.ntmps8
  obtain ⟨X_0, X_1, -⟩ := X0.out
  go_wp2_with fail
  refine (alive_c _).mono ?_
  rintro e w1 ⟨rfl, hb⟩
  clear X_0 X_1
  have Xr1 := Lib.hid (X0.out.below hb)
  have Br1 := Lib.hid (B0.out.trans (hb.mono B0.out.size))
  clear X0
  clear hb
  obtain ⟨X_0, X_1, -⟩ := Xr1.out
  go_wp2
  go_ret
  exact ⟨rfl, Br1.out⟩
set_option maxRecDepth 100000 in
set_option maxHeartbeats 16000000 in
theorem bad_nil (m1 : Int) (A : Option Addr) (l : List Int) (n c : Nat) (ls : List Sp) (cs : Nat) (W : World) (hn : l.length = n) (hbig : n ≤ 17592186044416) (hx : Reads W A (ints l))
    (hls : ls = []) (hq : ls.length = 0) (hqb : 0 ≤ 4398046511104) (hs : SRds W none ls) (k : Int) (hk : k ≠ 0) (hw : Bad m1 l ls 0 k) :
    Calls Try.prog 8 #[.agg #[.int .i64 m1, .slice A n c], .slice none 0 cs, .int .i64 0] W (Law.Yes W) := by
  have HQ := Lib.hid hq
  have SA := Lib.hid (fun V (hb : Below W.heap.size W V) => hs.below hb)
  have T1 := Lib.hid (show (ls.take 0).length = 0 by simp)
  have S1 := Lib.hid (fun V (hb : Below W.heap.size W V) => (hs.below hb).take 0)
  have T2 := Lib.hid (show (ls.drop 0).length = 0 by rw [hls]; rfl)
  have S2 := Lib.hid (fun V (hb : Below W.heap.size W V) => show SRds V none (ls.drop 0) from hs.below hb)
  have y1 : decide ((0 : Int) < (0 : Int)) = false := by decide
  clear hls hq hs
  have X0 := Lib.hid (HM.new (e := m1) (n := n) (c := c) hx rfl)
  have B0 := Lib.hid (show Below W.heap.size W (W.alloc (.cells #[.int .i64 m1, .slice A n c] 24)) from below_alloc _ _)
  have HN := Lib.hid hn
  clear hn hx
  have yk : (k != 0) = true := by simpa using hk
  have ykk : (k == k) = true := by simp
  clear hk
  have HW := Lib.hid hw
  clear hw
  go_enter Try.func8, Try.ntmps8
  obtain ⟨X_0, X_1, -⟩ := X0.out
  go_wp2_with fail
  refine (alive_c _).mono ?_
  rintro e w1 ⟨rfl, hb⟩
  clear X_0 X_1
  have Xr1 := Lib.hid (X0.out.below hb)
  have Br1 := Lib.hid (B0.out.trans (hb.mono B0.out.size))
  clear X0
  clear hb
  obtain ⟨X_0, X_1, -⟩ := Xr1.out
  go_wp2_with fail
  refine (all_c _ _ l n _ _ ls 0 _ _ HN.out hbig Xr1.out.2.2 HQ.out hqb (SA.out _ Br1.out) 0 [] 0 k HW.out.all).mono ?_
  rintro e w2 ⟨A2, c2, rfl, hr, hb, -⟩
  clear X_0 X_1
  have Xr2 := Lib.hid (Xr1.out.below hb)
  have Br2 := Lib.hid (Br1.out.trans (hb.mono Br1.out.size))
  clear Xr1
  have Xa2 := Lib.hid (Xr2.out.alloc (.cells #[.int .i64 (0 : Int), .slice A2 0 c2] 24))
  have Ba2 := Lib.hid (Br2.out.alloc Br2.out.size (.cells #[.int .i64 (0 : Int), .slice A2 0 c2] 24))
  have Pa2 := Lib.hid (HM.new (e := (0 : Int)) (n := 0) (c := c2) hr (rfl : w2.heap.size = w2.heap.size))
  clear hr hb Xr2
  obtain ⟨X_0, X_1, -⟩ := Xa2.out
  obtain ⟨P_0, P_1, -⟩ := Pa2.out
  go_upto_region 5 with fail
  obtain ⟨V, hV⟩ : ∃ V, V = w2.alloc (.cells #[.int .i64 (0 : Int), .slice A2 0 c2] 24) := ⟨_, rfl⟩
  rw [← hV] at Xa2 Pa2 Ba2 X_0 X_1 P_0 P_1 ⊢
  clear hV
  clear X_0 X_1 P_0 P_1
  have SK := Lib.hid (show ∀ w', Below V.heap.size V w' → w'.cell? ⟨W.heap.size, 0, none⟩ = some (.int .i64 m1) ∧ w'.cell? ⟨W.heap.size, 1, none⟩ = some (.slice A n c) from fun w' hb => ⟨(Xa2.out.below hb).1, (Xa2.out.below hb).2.1⟩)
  have D0 := Lib.hid (show Below V.heap.size V V.drew from below_drew (Below.refl _ _))
  have D1 := Lib.hid (show Below V.heap.size V (V.drew.alloc (.cells #[.int .i64 0, .slice none 0 0] 24)) from D0.out.alloc (Nat.le_refl _) _)
  have KD := Lib.hid (show Known (V.drew.alloc (.cells #[.int .i64 0, .slice none 0 0] 24)) V.heap.size 24 #[.int .i64 0, .slice none 0 0] from Known.made V.drew _ _)
  go_cut [9, 10] (fun v u wx => ∃ g Ag cg, v = .pointer (some ⟨g, 0, none⟩) ∧ u = .int .i64 k ∧ HM wx g (0 : Int) Ag 0 cg [] ∧ Below V.heap.size V wx)
  case first =>
    go_region_held3 (fun w' => w'.cell? ⟨W.heap.size, 0, none⟩ = some (.int .i64 m1) ∧ w'.cell? ⟨W.heap.size, 1, none⟩ = some (.slice A n c)) (first | exact SK.out _ D0.out | exact SK.out _ D1.out | exact SK.out _ K2.out | exact SK.out _ K3.out | exact SK.out _ K4.out | exact SK.out _ ((K2.out.setCell (Nat.le_refl _) _).setCell (Nat.le_refl _) _) | exact SK.out _ ((K3.out.setCell S2.out _).setCell S2.out _) | go_keep)
      (first
        | (go_at_call 16; refine (all_c _ _ l n _ _ (ls.take 0) 0 _ V.drew HN.out hbig (Xa2.out.below D0.out).2.2 T1.out (by omega) (S1.out _ (Ba2.out.trans (D0.out.mono Ba2.out.size))) 0 [] 0 k HW.out.fst).mono ?_; rintro e w2 ⟨A2, c2, rfl, hr, hb, hf⟩; have R2 := Lib.hid hr; have K2 := Lib.hid (show Below V.heap.size V w2 from undrew_ hb); have K3 := Lib.hid (show Below V.heap.size V (w2.alloc (.cells #[.int .i64 0, .slice none 0 0] 24)) from K2.out.alloc K2.out.size _); have K4 := Lib.hid (show Below V.heap.size V (w2.alloc (.cells #[.int .i64 (0 : Int), .slice A2 0 c2] 24)) from K2.out.alloc K2.out.size _); have S2 := Lib.hid K2.out.size; clear hr hb hf)
        | (go_at_call 16; refine (all_c _ _ l n _ _ (ls.take 0) 0 _ (V.drew.alloc (.cells #[.int .i64 0, .slice none 0 0] 24)) HN.out hbig (Xa2.out.below D1.out).2.2 T1.out (by omega) (S1.out _ (Ba2.out.trans (D1.out.mono Ba2.out.size))) 0 [] 0 k HW.out.fst).mono ?_; rintro e w2 ⟨A2, c2, rfl, hr, hb, hf⟩; have R2 := Lib.hid hr; have K2 := Lib.hid (show Below V.heap.size V w2 from D1.out.trans (hb.mono D1.out.size)); have Q2 := Lib.hid (KD.out.later hb); have F2 := Lib.hid (show ∀ a, A2 = some a → a.block ≠ V.heap.size from fun a h => by have h1 := hf a h; have h2 := KD.out.lt; omega); have r0 := Q2.out.cell 0; have r1 := Q2.out.cell 1; have f0 := Q2.out.free 0; have f1 := Q2.out.free 1; clear hr hb hf))
    all_goals go_wp2_with fail
    all_goals go_meet
    · exact ⟨_, _, _, rfl, rfl, HM.new R2.out rfl, K4.out⟩
    · exact ⟨_, _, _, rfl, rfl, hm_b Q2.out R2.out F2.out, (K2.out.setCell (Nat.le_refl _) _).setCell (Nat.le_refl _) _⟩
  case rest =>
    obtain ⟨gQ, AgQ, cgQ, rfl, rfl, hg, hcb⟩ := hcut
    obtain ⟨wQ, rfl⟩ : ∃ w : World, w = wc := ⟨_, rfl⟩
    have XpQ := Lib.hid (Xa2.out.below hcb)
    have PpQ := Lib.hid (Pa2.out.below hcb)
    have BpQ := Lib.hid (Ba2.out.trans (hcb.mono Ba2.out.size))
    clear Xa2 Pa2
    have QpQ := Lib.hid hg
    clear hg hcb SK D0 D1 KD
    obtain ⟨X_0, X_1, -⟩ := XpQ.out
    obtain ⟨P_0, P_1, -⟩ := PpQ.out
    obtain ⟨Q_0, Q_1, -⟩ := QpQ.out
    go_wp2
    go_ret
    exact ⟨rfl, BpQ.out⟩
set_option maxRecDepth 100000 in
set_option maxHeartbeats 16000000 in
theorem good0_nil (m1 : Int) (A : Option Addr) (l : List Int) (n c : Nat) (ls : List Sp) (cs : Nat) (W : World) (hn : l.length = n) (hbig : n ≤ 17592186044416) (hx : Reads W A (ints l))
    (hls : ls = []) (hq : ls.length = 0) (hqb : 0 ≤ 4398046511104) (hs : SRds W none ls) (eB : Int) (lB : List Int) (nB : Nat) (l0 : List Int) (n0 : Nat) (hw : Fine m1 l ls 0 eB lB nB m1 l0 n0 0) (hl0 : l0.length = n0) (h1 : -9223372036854775808 ≤ m1) (h2 : m1 ≤ 9223372036854775807) :
    Calls Try.prog 8 #[.agg #[.int .i64 m1, .slice A n c], .slice none 0 cs, .int .i64 0] W (Law.Yes W) := by
  have HQ := Lib.hid hq
  have SA := Lib.hid (fun V (hb : Below W.heap.size W V) => hs.below hb)
  have T1 := Lib.hid (show (ls.take 0).length = 0 by simp)
  have S1 := Lib.hid (fun V (hb : Below W.heap.size W V) => (hs.below hb).take 0)
  have T2 := Lib.hid (show (ls.drop 0).length = 0 by rw [hls]; rfl)
  have S2 := Lib.hid (fun V (hb : Below W.heap.size W V) => show SRds V none (ls.drop 0) from hs.below hb)
  have y1 : decide ((0 : Int) < (0 : Int)) = false := by decide
  clear hls hq hs
  have X0 := Lib.hid (HM.new (e := m1) (n := n) (c := c) hx rfl)
  have B0 := Lib.hid (show Below W.heap.size W (W.alloc (.cells #[.int .i64 m1, .slice A n c] 24)) from below_alloc _ _)
  have HN := Lib.hid hn
  clear hn hx
  have wq : IntKind.i64.wrap m1 = m1 := IntWalk.i64_in _ (by omega)
  have yq : (m1 == m1) = true := by simp
  have HL0 := Lib.hid hl0
  clear h1 h2 hl0
  have LB := Lib.hid (show lB.length = nB from hw.fst.2.2)
  have NB := Lib.hid hw.len
  have N0 := Lib.hid hw.len0
  have HW := Lib.hid hw
  clear hw
  go_enter Try.func8, Try.ntmps8
  obtain ⟨X_0, X_1, -⟩ := X0.out
  go_wp2_with fail
  refine (alive_c _).mono ?_
  rintro e w1 ⟨rfl, hb⟩
  clear X_0 X_1
  have Xr1 := Lib.hid (X0.out.below hb)
  have Br1 := Lib.hid (B0.out.trans (hb.mono B0.out.size))
  clear X0
  clear hb
  obtain ⟨X_0, X_1, -⟩ := Xr1.out
  go_wp2_with fail
  refine (all_c _ _ l n _ _ ls 0 _ _ HN.out hbig Xr1.out.2.2 HQ.out hqb (SA.out _ Br1.out) m1 l0 n0 0 HW.out.all).mono ?_
  rintro e w2 ⟨A2, c2, rfl, hr, hb, -⟩
  clear X_0 X_1
  have Xr2 := Lib.hid (Xr1.out.below hb)
  have Br2 := Lib.hid (Br1.out.trans (hb.mono Br1.out.size))
  clear Xr1
  have Xa2 := Lib.hid (Xr2.out.alloc (.cells #[.int .i64 m1, .slice A2 n0 c2] 24))
  have Ba2 := Lib.hid (Br2.out.alloc Br2.out.size (.cells #[.int .i64 m1, .slice A2 n0 c2] 24))
  have Pa2 := Lib.hid (HM.new (e := m1) (n := n0) (c := c2) hr (rfl : w2.heap.size = w2.heap.size))
  clear hr hb Xr2
  obtain ⟨X_0, X_1, -⟩ := Xa2.out
  obtain ⟨P_0, P_1, -⟩ := Pa2.out
  go_upto_region 5 with fail
  obtain ⟨V, hV⟩ : ∃ V, V = w2.alloc (.cells #[.int .i64 m1, .slice A2 n0 c2] 24) := ⟨_, rfl⟩
  rw [← hV] at Xa2 Pa2 Ba2 X_0 X_1 P_0 P_1 ⊢
  clear hV
  clear X_0 X_1 P_0 P_1
  have SK := Lib.hid (show ∀ w', Below V.heap.size V w' → w'.cell? ⟨W.heap.size, 0, none⟩ = some (.int .i64 m1) ∧ w'.cell? ⟨W.heap.size, 1, none⟩ = some (.slice A n c) from fun w' hb => ⟨(Xa2.out.below hb).1, (Xa2.out.below hb).2.1⟩)
  have D0 := Lib.hid (show Below V.heap.size V V.drew from below_drew (Below.refl _ _))
  have D1 := Lib.hid (show Below V.heap.size V (V.drew.alloc (.cells #[.int .i64 0, .slice none 0 0] 24)) from D0.out.alloc (Nat.le_refl _) _)
  have KD := Lib.hid (show Known (V.drew.alloc (.cells #[.int .i64 0, .slice none 0 0] 24)) V.heap.size 24 #[.int .i64 0, .slice none 0 0] from Known.made V.drew _ _)
  go_cut [9, 10] (fun v u wx => ∃ g Ag cg, v = .pointer (some ⟨g, 0, none⟩) ∧ u = .int .i64 0 ∧ HM wx g eB Ag nB cg lB ∧ Below V.heap.size V wx)
  case first =>
    go_region_held3 (fun w' => w'.cell? ⟨W.heap.size, 0, none⟩ = some (.int .i64 m1) ∧ w'.cell? ⟨W.heap.size, 1, none⟩ = some (.slice A n c)) (first | exact SK.out _ D0.out | exact SK.out _ D1.out | exact SK.out _ K2.out | exact SK.out _ K3.out | exact SK.out _ K4.out | exact SK.out _ ((K2.out.setCell (Nat.le_refl _) _).setCell (Nat.le_refl _) _) | exact SK.out _ ((K3.out.setCell S2.out _).setCell S2.out _) | go_keep)
      (first
        | (go_at_call 16; refine (all_c _ _ l n _ _ (ls.take 0) 0 _ V.drew HN.out hbig (Xa2.out.below D0.out).2.2 T1.out (by omega) (S1.out _ (Ba2.out.trans (D0.out.mono Ba2.out.size))) eB lB nB 0 HW.out.fst).mono ?_; rintro e w2 ⟨A2, c2, rfl, hr, hb, hf⟩; have R2 := Lib.hid hr; have K2 := Lib.hid (show Below V.heap.size V w2 from undrew_ hb); have K3 := Lib.hid (show Below V.heap.size V (w2.alloc (.cells #[.int .i64 0, .slice none 0 0] 24)) from K2.out.alloc K2.out.size _); have K4 := Lib.hid (show Below V.heap.size V (w2.alloc (.cells #[.int .i64 eB, .slice A2 nB c2] 24)) from K2.out.alloc K2.out.size _); have S2 := Lib.hid K2.out.size; clear hr hb hf)
        | (go_at_call 16; refine (all_c _ _ l n _ _ (ls.take 0) 0 _ (V.drew.alloc (.cells #[.int .i64 0, .slice none 0 0] 24)) HN.out hbig (Xa2.out.below D1.out).2.2 T1.out (by omega) (S1.out _ (Ba2.out.trans (D1.out.mono Ba2.out.size))) eB lB nB 0 HW.out.fst).mono ?_; rintro e w2 ⟨A2, c2, rfl, hr, hb, hf⟩; have R2 := Lib.hid hr; have K2 := Lib.hid (show Below V.heap.size V w2 from D1.out.trans (hb.mono D1.out.size)); have Q2 := Lib.hid (KD.out.later hb); have F2 := Lib.hid (show ∀ a, A2 = some a → a.block ≠ V.heap.size from fun a h => by have h1 := hf a h; have h2 := KD.out.lt; omega); have r0 := Q2.out.cell 0; have r1 := Q2.out.cell 1; have f0 := Q2.out.free 0; have f1 := Q2.out.free 1; clear hr hb hf))
    all_goals go_wp2_with fail
    all_goals go_meet
    · exact ⟨_, _, _, rfl, rfl, HM.new R2.out rfl, K4.out⟩
    · exact ⟨_, _, _, rfl, rfl, hm_b Q2.out R2.out F2.out, (K2.out.setCell (Nat.le_refl _) _).setCell (Nat.le_refl _) _⟩
  case rest =>
    obtain ⟨gQ, AgQ, cgQ, rfl, rfl, hg, hcb⟩ := hcut
    obtain ⟨wQ, rfl⟩ : ∃ w : World, w = wc := ⟨_, rfl⟩
    have XpQ := Lib.hid (Xa2.out.below hcb)
    have PpQ := Lib.hid (Pa2.out.below hcb)
    have BpQ := Lib.hid (Ba2.out.trans (hcb.mono Ba2.out.size))
    clear Xa2 Pa2
    have QpQ := Lib.hid hg
    clear hg hcb SK D0 D1 KD
    obtain ⟨X_0, X_1, -⟩ := XpQ.out
    obtain ⟨P_0, P_1, -⟩ := PpQ.out
    obtain ⟨Q_0, Q_1, -⟩ := QpQ.out
    go_upto_region 5 with fail
    obtain ⟨V, hV⟩ : ∃ V, V = wQ := ⟨_, rfl⟩
    rw [← hV] at XpQ PpQ QpQ BpQ X_0 X_1 P_0 P_1 Q_0 Q_1 ⊢
    clear hV
    clear X_0 X_1 P_0 P_1 Q_0 Q_1
    have SK := Lib.hid (show ∀ w', Below V.heap.size V w' → w'.cell? ⟨gQ, 0, none⟩ = some (.int .i64 eB) ∧ w'.cell? ⟨gQ, 1, none⟩ = some (.slice AgQ nB cgQ) from fun w' hb => ⟨(QpQ.out.below hb).1, (QpQ.out.below hb).2.1⟩)
    have D0 := Lib.hid (show Below V.heap.size V V.drew from below_drew (Below.refl _ _))
    have D1 := Lib.hid (show Below V.heap.size V (V.drew.alloc (.cells #[.int .i64 0, .slice none 0 0] 24)) from D0.out.alloc (Nat.le_refl _) _)
    have KD := Lib.hid (show Known (V.drew.alloc (.cells #[.int .i64 0, .slice none 0 0] 24)) V.heap.size 24 #[.int .i64 0, .slice none 0 0] from Known.made V.drew _ _)
    go_cut [11, 12] (fun v u wx => ∃ g Ag cg, v = .pointer (some ⟨g, 0, none⟩) ∧ u = .int .i64 0 ∧ HM wx g m1 Ag n0 cg l0 ∧ Below V.heap.size V wx)
    case first =>
      go_region_held3 (fun w' => w'.cell? ⟨gQ, 0, none⟩ = some (.int .i64 eB) ∧ w'.cell? ⟨gQ, 1, none⟩ = some (.slice AgQ nB cgQ)) (first | exact SK.out _ D0.out | exact SK.out _ D1.out | exact SK.out _ K2.out | exact SK.out _ K3.out | exact SK.out _ K4.out | exact SK.out _ ((K2.out.setCell (Nat.le_refl _) _).setCell (Nat.le_refl _) _) | exact SK.out _ ((K3.out.setCell S2.out _).setCell S2.out _) | go_keep)
        (first
          | (go_at_call 16; refine (all_c _ _ lB nB _ _ (ls.drop 0) 0 _ V.drew LB.out (by have := NB.out; omega) (QpQ.out.below D0.out).2.2 T2.out (by omega) (S2.out _ (BpQ.out.trans (D0.out.mono BpQ.out.size))) m1 l0 n0 0 HW.out.snd).mono ?_; rintro e w2 ⟨A2, c2, rfl, hr, hb, hf⟩; have R2 := Lib.hid hr; have K2 := Lib.hid (show Below V.heap.size V w2 from undrew_ hb); have K3 := Lib.hid (show Below V.heap.size V (w2.alloc (.cells #[.int .i64 0, .slice none 0 0] 24)) from K2.out.alloc K2.out.size _); have K4 := Lib.hid (show Below V.heap.size V (w2.alloc (.cells #[.int .i64 m1, .slice A2 n0 c2] 24)) from K2.out.alloc K2.out.size _); have S2 := Lib.hid K2.out.size; clear hr hb hf)
          | (go_at_call 16; refine (all_c _ _ lB nB _ _ (ls.drop 0) 0 _ (V.drew.alloc (.cells #[.int .i64 0, .slice none 0 0] 24)) LB.out (by have := NB.out; omega) (QpQ.out.below D1.out).2.2 T2.out (by omega) (S2.out _ (BpQ.out.trans (D1.out.mono BpQ.out.size))) m1 l0 n0 0 HW.out.snd).mono ?_; rintro e w2 ⟨A2, c2, rfl, hr, hb, hf⟩; have R2 := Lib.hid hr; have K2 := Lib.hid (show Below V.heap.size V w2 from D1.out.trans (hb.mono D1.out.size)); have Q2 := Lib.hid (KD.out.later hb); have F2 := Lib.hid (show ∀ a, A2 = some a → a.block ≠ V.heap.size from fun a h => by have h1 := hf a h; have h2 := KD.out.lt; omega); have r0 := Q2.out.cell 0; have r1 := Q2.out.cell 1; have f0 := Q2.out.free 0; have f1 := Q2.out.free 1; clear hr hb hf))
      all_goals go_wp2_with fail
      all_goals go_meet
      · exact ⟨_, _, _, rfl, rfl, HM.new R2.out rfl, K4.out⟩
      · exact ⟨_, _, _, rfl, rfl, hm_b Q2.out R2.out F2.out, (K2.out.setCell (Nat.le_refl _) _).setCell (Nat.le_refl _) _⟩
    case rest =>
      obtain ⟨gR, AgR, cgR, rfl, rfl, hg, hcb⟩ := hcut
      obtain ⟨wR, rfl⟩ : ∃ w : World, w = wc := ⟨_, rfl⟩
      have XpR := Lib.hid (XpQ.out.below hcb)
      have PpR := Lib.hid (PpQ.out.below hcb)
      have QpR := Lib.hid (QpQ.out.below hcb)
      have BpR := Lib.hid (BpQ.out.trans (hcb.mono BpQ.out.size))
      clear XpQ PpQ QpQ
      have RpR := Lib.hid hg
      clear hg hcb SK D0 D1 KD
      obtain ⟨X_0, X_1, -⟩ := XpR.out
      obtain ⟨P_0, P_1, -⟩ := PpR.out
      obtain ⟨Q_0, Q_1, -⟩ := QpR.out
      obtain ⟨R_0, R_1, -⟩ := RpR.out
      go_wp2_with fail
      refine (same_c _ _ _ l0 n0 _ _ _ HL0.out (by have := N0.out; omega) PpR.out.2.2 RpR.out.2.2).mono ?_
      rintro e w8 ⟨rfl, hb⟩
      clear X_0 X_1 P_0 P_1 Q_0 Q_1 R_0 R_1
      have Xr8 := Lib.hid (XpR.out.below hb)
      have Pr8 := Lib.hid (PpR.out.below hb)
      have Qr8 := Lib.hid (QpR.out.below hb)
      have Rr8 := Lib.hid (RpR.out.below hb)
      have Br8 := Lib.hid (BpR.out.trans (hb.mono BpR.out.size))
      clear XpR PpR QpR RpR
      clear hb
      obtain ⟨X_0, X_1, -⟩ := Xr8.out
      obtain ⟨P_0, P_1, -⟩ := Pr8.out
      obtain ⟨Q_0, Q_1, -⟩ := Qr8.out
      obtain ⟨R_0, R_1, -⟩ := Rr8.out
      go_wp2
      go_ret
      exact ⟨rfl, Br8.out⟩
set_option maxRecDepth 100000 in
set_option maxHeartbeats 16000000 in
theorem goodk_nil (m1 : Int) (A : Option Addr) (l : List Int) (n c : Nat) (ls : List Sp) (cs : Nat) (W : World) (hn : l.length = n) (hbig : n ≤ 17592186044416) (hx : Reads W A (ints l))
    (hls : ls = []) (hq : ls.length = 0) (hqb : 0 ≤ 4398046511104) (hs : SRds W none ls) (eB : Int) (lB : List Int) (nB : Nat) (k : Int) (hk : k ≠ 0) (hw : Fine m1 l ls 0 eB lB nB 0 [] 0 k) :
    Calls Try.prog 8 #[.agg #[.int .i64 m1, .slice A n c], .slice none 0 cs, .int .i64 0] W (Law.Yes W) := by
  have HQ := Lib.hid hq
  have SA := Lib.hid (fun V (hb : Below W.heap.size W V) => hs.below hb)
  have T1 := Lib.hid (show (ls.take 0).length = 0 by simp)
  have S1 := Lib.hid (fun V (hb : Below W.heap.size W V) => (hs.below hb).take 0)
  have T2 := Lib.hid (show (ls.drop 0).length = 0 by rw [hls]; rfl)
  have S2 := Lib.hid (fun V (hb : Below W.heap.size W V) => show SRds V none (ls.drop 0) from hs.below hb)
  have y1 : decide ((0 : Int) < (0 : Int)) = false := by decide
  clear hls hq hs
  have X0 := Lib.hid (HM.new (e := m1) (n := n) (c := c) hx rfl)
  have B0 := Lib.hid (show Below W.heap.size W (W.alloc (.cells #[.int .i64 m1, .slice A n c] 24)) from below_alloc _ _)
  have HN := Lib.hid hn
  clear hn hx
  have yk : (k != 0) = true := by simpa using hk
  have ykk : (k == k) = true := by simp
  clear hk
  have LB := Lib.hid (show lB.length = nB from hw.fst.2.2)
  have NB := Lib.hid hw.len
  have N0 := Lib.hid hw.len0
  have HW := Lib.hid hw
  clear hw
  go_enter Try.func8, Try.ntmps8
  obtain ⟨X_0, X_1, -⟩ := X0.out
  go_wp2_with fail
  refine (alive_c _).mono ?_
  rintro e w1 ⟨rfl, hb⟩
  clear X_0 X_1
  have Xr1 := Lib.hid (X0.out.below hb)
  have Br1 := Lib.hid (B0.out.trans (hb.mono B0.out.size))
  clear X0
  clear hb
  obtain ⟨X_0, X_1, -⟩ := Xr1.out
  go_wp2_with fail
  refine (all_c _ _ l n _ _ ls 0 _ _ HN.out hbig Xr1.out.2.2 HQ.out hqb (SA.out _ Br1.out) 0 [] 0 k HW.out.all).mono ?_
  rintro e w2 ⟨A2, c2, rfl, hr, hb, -⟩
  clear X_0 X_1
  have Xr2 := Lib.hid (Xr1.out.below hb)
  have Br2 := Lib.hid (Br1.out.trans (hb.mono Br1.out.size))
  clear Xr1
  have Xa2 := Lib.hid (Xr2.out.alloc (.cells #[.int .i64 (0 : Int), .slice A2 0 c2] 24))
  have Ba2 := Lib.hid (Br2.out.alloc Br2.out.size (.cells #[.int .i64 (0 : Int), .slice A2 0 c2] 24))
  have Pa2 := Lib.hid (HM.new (e := (0 : Int)) (n := 0) (c := c2) hr (rfl : w2.heap.size = w2.heap.size))
  clear hr hb Xr2
  obtain ⟨X_0, X_1, -⟩ := Xa2.out
  obtain ⟨P_0, P_1, -⟩ := Pa2.out
  go_upto_region 5 with fail
  obtain ⟨V, hV⟩ : ∃ V, V = w2.alloc (.cells #[.int .i64 (0 : Int), .slice A2 0 c2] 24) := ⟨_, rfl⟩
  rw [← hV] at Xa2 Pa2 Ba2 X_0 X_1 P_0 P_1 ⊢
  clear hV
  clear X_0 X_1 P_0 P_1
  have SK := Lib.hid (show ∀ w', Below V.heap.size V w' → w'.cell? ⟨W.heap.size, 0, none⟩ = some (.int .i64 m1) ∧ w'.cell? ⟨W.heap.size, 1, none⟩ = some (.slice A n c) from fun w' hb => ⟨(Xa2.out.below hb).1, (Xa2.out.below hb).2.1⟩)
  have D0 := Lib.hid (show Below V.heap.size V V.drew from below_drew (Below.refl _ _))
  have D1 := Lib.hid (show Below V.heap.size V (V.drew.alloc (.cells #[.int .i64 0, .slice none 0 0] 24)) from D0.out.alloc (Nat.le_refl _) _)
  have KD := Lib.hid (show Known (V.drew.alloc (.cells #[.int .i64 0, .slice none 0 0] 24)) V.heap.size 24 #[.int .i64 0, .slice none 0 0] from Known.made V.drew _ _)
  go_cut [9, 10] (fun v u wx => ∃ g Ag cg, v = .pointer (some ⟨g, 0, none⟩) ∧ u = .int .i64 0 ∧ HM wx g eB Ag nB cg lB ∧ Below V.heap.size V wx)
  case first =>
    go_region_held3 (fun w' => w'.cell? ⟨W.heap.size, 0, none⟩ = some (.int .i64 m1) ∧ w'.cell? ⟨W.heap.size, 1, none⟩ = some (.slice A n c)) (first | exact SK.out _ D0.out | exact SK.out _ D1.out | exact SK.out _ K2.out | exact SK.out _ K3.out | exact SK.out _ K4.out | exact SK.out _ ((K2.out.setCell (Nat.le_refl _) _).setCell (Nat.le_refl _) _) | exact SK.out _ ((K3.out.setCell S2.out _).setCell S2.out _) | go_keep)
      (first
        | (go_at_call 16; refine (all_c _ _ l n _ _ (ls.take 0) 0 _ V.drew HN.out hbig (Xa2.out.below D0.out).2.2 T1.out (by omega) (S1.out _ (Ba2.out.trans (D0.out.mono Ba2.out.size))) eB lB nB 0 HW.out.fst).mono ?_; rintro e w2 ⟨A2, c2, rfl, hr, hb, hf⟩; have R2 := Lib.hid hr; have K2 := Lib.hid (show Below V.heap.size V w2 from undrew_ hb); have K3 := Lib.hid (show Below V.heap.size V (w2.alloc (.cells #[.int .i64 0, .slice none 0 0] 24)) from K2.out.alloc K2.out.size _); have K4 := Lib.hid (show Below V.heap.size V (w2.alloc (.cells #[.int .i64 eB, .slice A2 nB c2] 24)) from K2.out.alloc K2.out.size _); have S2 := Lib.hid K2.out.size; clear hr hb hf)
        | (go_at_call 16; refine (all_c _ _ l n _ _ (ls.take 0) 0 _ (V.drew.alloc (.cells #[.int .i64 0, .slice none 0 0] 24)) HN.out hbig (Xa2.out.below D1.out).2.2 T1.out (by omega) (S1.out _ (Ba2.out.trans (D1.out.mono Ba2.out.size))) eB lB nB 0 HW.out.fst).mono ?_; rintro e w2 ⟨A2, c2, rfl, hr, hb, hf⟩; have R2 := Lib.hid hr; have K2 := Lib.hid (show Below V.heap.size V w2 from D1.out.trans (hb.mono D1.out.size)); have Q2 := Lib.hid (KD.out.later hb); have F2 := Lib.hid (show ∀ a, A2 = some a → a.block ≠ V.heap.size from fun a h => by have h1 := hf a h; have h2 := KD.out.lt; omega); have r0 := Q2.out.cell 0; have r1 := Q2.out.cell 1; have f0 := Q2.out.free 0; have f1 := Q2.out.free 1; clear hr hb hf))
    all_goals go_wp2_with fail
    all_goals go_meet
    · exact ⟨_, _, _, rfl, rfl, HM.new R2.out rfl, K4.out⟩
    · exact ⟨_, _, _, rfl, rfl, hm_b Q2.out R2.out F2.out, (K2.out.setCell (Nat.le_refl _) _).setCell (Nat.le_refl _) _⟩
  case rest =>
    obtain ⟨gQ, AgQ, cgQ, rfl, rfl, hg, hcb⟩ := hcut
    obtain ⟨wQ, rfl⟩ : ∃ w : World, w = wc := ⟨_, rfl⟩
    have XpQ := Lib.hid (Xa2.out.below hcb)
    have PpQ := Lib.hid (Pa2.out.below hcb)
    have BpQ := Lib.hid (Ba2.out.trans (hcb.mono Ba2.out.size))
    clear Xa2 Pa2
    have QpQ := Lib.hid hg
    clear hg hcb SK D0 D1 KD
    obtain ⟨X_0, X_1, -⟩ := XpQ.out
    obtain ⟨P_0, P_1, -⟩ := PpQ.out
    obtain ⟨Q_0, Q_1, -⟩ := QpQ.out
    go_upto_region 5 with fail
    obtain ⟨V, hV⟩ : ∃ V, V = wQ := ⟨_, rfl⟩
    rw [← hV] at XpQ PpQ QpQ BpQ X_0 X_1 P_0 P_1 Q_0 Q_1 ⊢
    clear hV
    clear X_0 X_1 P_0 P_1 Q_0 Q_1
    have SK := Lib.hid (show ∀ w', Below V.heap.size V w' → w'.cell? ⟨gQ, 0, none⟩ = some (.int .i64 eB) ∧ w'.cell? ⟨gQ, 1, none⟩ = some (.slice AgQ nB cgQ) from fun w' hb => ⟨(QpQ.out.below hb).1, (QpQ.out.below hb).2.1⟩)
    have D0 := Lib.hid (show Below V.heap.size V V.drew from below_drew (Below.refl _ _))
    have D1 := Lib.hid (show Below V.heap.size V (V.drew.alloc (.cells #[.int .i64 0, .slice none 0 0] 24)) from D0.out.alloc (Nat.le_refl _) _)
    have KD := Lib.hid (show Known (V.drew.alloc (.cells #[.int .i64 0, .slice none 0 0] 24)) V.heap.size 24 #[.int .i64 0, .slice none 0 0] from Known.made V.drew _ _)
    go_cut [11, 12] (fun v u wx => ∃ g Ag cg, v = .pointer (some ⟨g, 0, none⟩) ∧ u = .int .i64 k ∧ HM wx g (0 : Int) Ag 0 cg [] ∧ Below V.heap.size V wx)
    case first =>
      go_region_held3 (fun w' => w'.cell? ⟨gQ, 0, none⟩ = some (.int .i64 eB) ∧ w'.cell? ⟨gQ, 1, none⟩ = some (.slice AgQ nB cgQ)) (first | exact SK.out _ D0.out | exact SK.out _ D1.out | exact SK.out _ K2.out | exact SK.out _ K3.out | exact SK.out _ K4.out | exact SK.out _ ((K2.out.setCell (Nat.le_refl _) _).setCell (Nat.le_refl _) _) | exact SK.out _ ((K3.out.setCell S2.out _).setCell S2.out _) | go_keep)
        (first
          | (go_at_call 16; refine (all_c _ _ lB nB _ _ (ls.drop 0) 0 _ V.drew LB.out (by have := NB.out; omega) (QpQ.out.below D0.out).2.2 T2.out (by omega) (S2.out _ (BpQ.out.trans (D0.out.mono BpQ.out.size))) 0 [] 0 k HW.out.snd).mono ?_; rintro e w2 ⟨A2, c2, rfl, hr, hb, hf⟩; have R2 := Lib.hid hr; have K2 := Lib.hid (show Below V.heap.size V w2 from undrew_ hb); have K3 := Lib.hid (show Below V.heap.size V (w2.alloc (.cells #[.int .i64 0, .slice none 0 0] 24)) from K2.out.alloc K2.out.size _); have K4 := Lib.hid (show Below V.heap.size V (w2.alloc (.cells #[.int .i64 (0 : Int), .slice A2 0 c2] 24)) from K2.out.alloc K2.out.size _); have S2 := Lib.hid K2.out.size; clear hr hb hf)
          | (go_at_call 16; refine (all_c _ _ lB nB _ _ (ls.drop 0) 0 _ (V.drew.alloc (.cells #[.int .i64 0, .slice none 0 0] 24)) LB.out (by have := NB.out; omega) (QpQ.out.below D1.out).2.2 T2.out (by omega) (S2.out _ (BpQ.out.trans (D1.out.mono BpQ.out.size))) 0 [] 0 k HW.out.snd).mono ?_; rintro e w2 ⟨A2, c2, rfl, hr, hb, hf⟩; have R2 := Lib.hid hr; have K2 := Lib.hid (show Below V.heap.size V w2 from D1.out.trans (hb.mono D1.out.size)); have Q2 := Lib.hid (KD.out.later hb); have F2 := Lib.hid (show ∀ a, A2 = some a → a.block ≠ V.heap.size from fun a h => by have h1 := hf a h; have h2 := KD.out.lt; omega); have r0 := Q2.out.cell 0; have r1 := Q2.out.cell 1; have f0 := Q2.out.free 0; have f1 := Q2.out.free 1; clear hr hb hf))
      all_goals go_wp2_with fail
      all_goals go_meet
      · exact ⟨_, _, _, rfl, rfl, HM.new R2.out rfl, K4.out⟩
      · exact ⟨_, _, _, rfl, rfl, hm_b Q2.out R2.out F2.out, (K2.out.setCell (Nat.le_refl _) _).setCell (Nat.le_refl _) _⟩
    case rest =>
      obtain ⟨gR, AgR, cgR, rfl, rfl, hg, hcb⟩ := hcut
      obtain ⟨wR, rfl⟩ : ∃ w : World, w = wc := ⟨_, rfl⟩
      have XpR := Lib.hid (XpQ.out.below hcb)
      have PpR := Lib.hid (PpQ.out.below hcb)
      have QpR := Lib.hid (QpQ.out.below hcb)
      have BpR := Lib.hid (BpQ.out.trans (hcb.mono BpQ.out.size))
      clear XpQ PpQ QpQ
      have RpR := Lib.hid hg
      clear hg hcb SK D0 D1 KD
      obtain ⟨X_0, X_1, -⟩ := XpR.out
      obtain ⟨P_0, P_1, -⟩ := PpR.out
      obtain ⟨Q_0, Q_1, -⟩ := QpR.out
      obtain ⟨R_0, R_1, -⟩ := RpR.out
      go_wp2_with fail
      refine (same_c _ _ _ [] 0 _ _ _ rfl (by have := N0.out; omega) PpR.out.2.2 RpR.out.2.2).mono ?_
      rintro e w8 ⟨rfl, hb⟩
      clear X_0 X_1 P_0 P_1 Q_0 Q_1 R_0 R_1
      have Xr8 := Lib.hid (XpR.out.below hb)
      have Pr8 := Lib.hid (PpR.out.below hb)
      have Qr8 := Lib.hid (QpR.out.below hb)
      have Rr8 := Lib.hid (RpR.out.below hb)
      have Br8 := Lib.hid (BpR.out.trans (hb.mono BpR.out.size))
      clear XpR PpR QpR RpR
      clear hb
      obtain ⟨X_0, X_1, -⟩ := Xr8.out
      obtain ⟨P_0, P_1, -⟩ := Pr8.out
      obtain ⟨Q_0, Q_1, -⟩ := Qr8.out
      obtain ⟨R_0, R_1, -⟩ := Rr8.out
      go_wp2
      go_ret
      exact ⟨rfl, Br8.out⟩
set_option maxRecDepth 100000 in
set_option maxHeartbeats 16000000 in
theorem bad_emp (m1 : Int) (A : Option Addr) (l : List Int) (n c : Nat) (ad : Addr) (ls : List Sp) (cs : Nat) (W : World) (hn : l.length = n) (hbig : n ≤ 17592186044416) (hx : Reads W A (ints l))
    (hls : ls = []) (hq : ls.length = 0) (hqb : 0 ≤ 4398046511104) (hs : SRds W (some ad) ls) (k : Int) (hk : k ≠ 0) (hw : Bad m1 l ls 0 k) :
    Calls Try.prog 8 #[.agg #[.int .i64 m1, .slice A n c], .slice (some ad) 0 cs, .int .i64 0] W (Law.Yes W) := by
  have HQ := Lib.hid hq
  have SA := Lib.hid (fun V (hb : Below W.heap.size W V) => hs.below hb)
  have T1 := Lib.hid (show (ls.take 0).length = 0 by simp)
  have S1 := Lib.hid (fun V (hb : Below W.heap.size W V) => (hs.below hb).take 0)
  have T2 := Lib.hid (show (ls.drop 0).length = 0 by rw [hls]; rfl)
  have S2 := Lib.hid (fun V (hb : Below W.heap.size W V) => show SRds V (some ad) (ls.drop 0) from hs.below hb)
  have y1 : decide ((0 : Int) < (0 : Int)) = false := by decide
  clear hls hq hs
  have X0 := Lib.hid (HM.new (e := m1) (n := n) (c := c) hx rfl)
  have B0 := Lib.hid (show Below W.heap.size W (W.alloc (.cells #[.int .i64 m1, .slice A n c] 24)) from below_alloc _ _)
  have HN := Lib.hid hn
  clear hn hx
  have yk : (k != 0) = true := by simpa using hk
  have ykk : (k == k) = true := by simp
  clear hk
  have HW := Lib.hid hw
  clear hw
  go_enter Try.func8, Try.ntmps8
  obtain ⟨X_0, X_1, -⟩ := X0.out
  go_wp2_with fail
  refine (alive_c _).mono ?_
  rintro e w1 ⟨rfl, hb⟩
  clear X_0 X_1
  have Xr1 := Lib.hid (X0.out.below hb)
  have Br1 := Lib.hid (B0.out.trans (hb.mono B0.out.size))
  clear X0
  clear hb
  obtain ⟨X_0, X_1, -⟩ := Xr1.out
  go_wp2_with fail
  refine (all_c _ _ l n _ _ ls 0 _ _ HN.out hbig Xr1.out.2.2 HQ.out hqb (SA.out _ Br1.out) 0 [] 0 k HW.out.all).mono ?_
  rintro e w2 ⟨A2, c2, rfl, hr, hb, -⟩
  clear X_0 X_1
  have Xr2 := Lib.hid (Xr1.out.below hb)
  have Br2 := Lib.hid (Br1.out.trans (hb.mono Br1.out.size))
  clear Xr1
  have Xa2 := Lib.hid (Xr2.out.alloc (.cells #[.int .i64 (0 : Int), .slice A2 0 c2] 24))
  have Ba2 := Lib.hid (Br2.out.alloc Br2.out.size (.cells #[.int .i64 (0 : Int), .slice A2 0 c2] 24))
  have Pa2 := Lib.hid (HM.new (e := (0 : Int)) (n := 0) (c := c2) hr (rfl : w2.heap.size = w2.heap.size))
  clear hr hb Xr2
  obtain ⟨X_0, X_1, -⟩ := Xa2.out
  obtain ⟨P_0, P_1, -⟩ := Pa2.out
  go_upto_region 5 with fail
  obtain ⟨V, hV⟩ : ∃ V, V = w2.alloc (.cells #[.int .i64 (0 : Int), .slice A2 0 c2] 24) := ⟨_, rfl⟩
  rw [← hV] at Xa2 Pa2 Ba2 X_0 X_1 P_0 P_1 ⊢
  clear hV
  clear X_0 X_1 P_0 P_1
  have SK := Lib.hid (show ∀ w', Below V.heap.size V w' → w'.cell? ⟨W.heap.size, 0, none⟩ = some (.int .i64 m1) ∧ w'.cell? ⟨W.heap.size, 1, none⟩ = some (.slice A n c) from fun w' hb => ⟨(Xa2.out.below hb).1, (Xa2.out.below hb).2.1⟩)
  have D0 := Lib.hid (show Below V.heap.size V V.drew from below_drew (Below.refl _ _))
  have D1 := Lib.hid (show Below V.heap.size V (V.drew.alloc (.cells #[.int .i64 0, .slice none 0 0] 24)) from D0.out.alloc (Nat.le_refl _) _)
  have KD := Lib.hid (show Known (V.drew.alloc (.cells #[.int .i64 0, .slice none 0 0] 24)) V.heap.size 24 #[.int .i64 0, .slice none 0 0] from Known.made V.drew _ _)
  go_cut [9, 10] (fun v u wx => ∃ g Ag cg, v = .pointer (some ⟨g, 0, none⟩) ∧ u = .int .i64 k ∧ HM wx g (0 : Int) Ag 0 cg [] ∧ Below V.heap.size V wx)
  case first =>
    go_region_held3 (fun w' => w'.cell? ⟨W.heap.size, 0, none⟩ = some (.int .i64 m1) ∧ w'.cell? ⟨W.heap.size, 1, none⟩ = some (.slice A n c)) (first | exact SK.out _ D0.out | exact SK.out _ D1.out | exact SK.out _ K2.out | exact SK.out _ K3.out | exact SK.out _ K4.out | exact SK.out _ ((K2.out.setCell (Nat.le_refl _) _).setCell (Nat.le_refl _) _) | exact SK.out _ ((K3.out.setCell S2.out _).setCell S2.out _) | go_keep)
      (first
        | (go_at_call 16; refine (all_c _ _ l n _ _ (ls.take 0) 0 _ V.drew HN.out hbig (Xa2.out.below D0.out).2.2 T1.out (by omega) (S1.out _ (Ba2.out.trans (D0.out.mono Ba2.out.size))) 0 [] 0 k HW.out.fst).mono ?_; rintro e w2 ⟨A2, c2, rfl, hr, hb, hf⟩; have R2 := Lib.hid hr; have K2 := Lib.hid (show Below V.heap.size V w2 from undrew_ hb); have K3 := Lib.hid (show Below V.heap.size V (w2.alloc (.cells #[.int .i64 0, .slice none 0 0] 24)) from K2.out.alloc K2.out.size _); have K4 := Lib.hid (show Below V.heap.size V (w2.alloc (.cells #[.int .i64 (0 : Int), .slice A2 0 c2] 24)) from K2.out.alloc K2.out.size _); have S2 := Lib.hid K2.out.size; clear hr hb hf)
        | (go_at_call 16; refine (all_c _ _ l n _ _ (ls.take 0) 0 _ (V.drew.alloc (.cells #[.int .i64 0, .slice none 0 0] 24)) HN.out hbig (Xa2.out.below D1.out).2.2 T1.out (by omega) (S1.out _ (Ba2.out.trans (D1.out.mono Ba2.out.size))) 0 [] 0 k HW.out.fst).mono ?_; rintro e w2 ⟨A2, c2, rfl, hr, hb, hf⟩; have R2 := Lib.hid hr; have K2 := Lib.hid (show Below V.heap.size V w2 from D1.out.trans (hb.mono D1.out.size)); have Q2 := Lib.hid (KD.out.later hb); have F2 := Lib.hid (show ∀ a, A2 = some a → a.block ≠ V.heap.size from fun a h => by have h1 := hf a h; have h2 := KD.out.lt; omega); have r0 := Q2.out.cell 0; have r1 := Q2.out.cell 1; have f0 := Q2.out.free 0; have f1 := Q2.out.free 1; clear hr hb hf))
    all_goals go_wp2_with fail
    all_goals go_meet
    · exact ⟨_, _, _, rfl, rfl, HM.new R2.out rfl, K4.out⟩
    · exact ⟨_, _, _, rfl, rfl, hm_b Q2.out R2.out F2.out, (K2.out.setCell (Nat.le_refl _) _).setCell (Nat.le_refl _) _⟩
  case rest =>
    obtain ⟨gQ, AgQ, cgQ, rfl, rfl, hg, hcb⟩ := hcut
    obtain ⟨wQ, rfl⟩ : ∃ w : World, w = wc := ⟨_, rfl⟩
    have XpQ := Lib.hid (Xa2.out.below hcb)
    have PpQ := Lib.hid (Pa2.out.below hcb)
    have BpQ := Lib.hid (Ba2.out.trans (hcb.mono Ba2.out.size))
    clear Xa2 Pa2
    have QpQ := Lib.hid hg
    clear hg hcb SK D0 D1 KD
    obtain ⟨X_0, X_1, -⟩ := XpQ.out
    obtain ⟨P_0, P_1, -⟩ := PpQ.out
    obtain ⟨Q_0, Q_1, -⟩ := QpQ.out
    go_wp2
    go_ret
    exact ⟨rfl, BpQ.out⟩
set_option maxRecDepth 100000 in
set_option maxHeartbeats 16000000 in
theorem good0_emp (m1 : Int) (A : Option Addr) (l : List Int) (n c : Nat) (ad : Addr) (ls : List Sp) (cs : Nat) (W : World) (hn : l.length = n) (hbig : n ≤ 17592186044416) (hx : Reads W A (ints l))
    (hls : ls = []) (hq : ls.length = 0) (hqb : 0 ≤ 4398046511104) (hs : SRds W (some ad) ls) (eB : Int) (lB : List Int) (nB : Nat) (l0 : List Int) (n0 : Nat) (hw : Fine m1 l ls 0 eB lB nB m1 l0 n0 0) (hl0 : l0.length = n0) (h1 : -9223372036854775808 ≤ m1) (h2 : m1 ≤ 9223372036854775807) :
    Calls Try.prog 8 #[.agg #[.int .i64 m1, .slice A n c], .slice (some ad) 0 cs, .int .i64 0] W (Law.Yes W) := by
  have HQ := Lib.hid hq
  have SA := Lib.hid (fun V (hb : Below W.heap.size W V) => hs.below hb)
  have T1 := Lib.hid (show (ls.take 0).length = 0 by simp)
  have S1 := Lib.hid (fun V (hb : Below W.heap.size W V) => (hs.below hb).take 0)
  have T2 := Lib.hid (show (ls.drop 0).length = 0 by rw [hls]; rfl)
  have S2 := Lib.hid (fun V (hb : Below W.heap.size W V) => show SRds V (some ad) (ls.drop 0) from hs.below hb)
  have y1 : decide ((0 : Int) < (0 : Int)) = false := by decide
  clear hls hq hs
  have X0 := Lib.hid (HM.new (e := m1) (n := n) (c := c) hx rfl)
  have B0 := Lib.hid (show Below W.heap.size W (W.alloc (.cells #[.int .i64 m1, .slice A n c] 24)) from below_alloc _ _)
  have HN := Lib.hid hn
  clear hn hx
  have wq : IntKind.i64.wrap m1 = m1 := IntWalk.i64_in _ (by omega)
  have yq : (m1 == m1) = true := by simp
  have HL0 := Lib.hid hl0
  clear h1 h2 hl0
  have LB := Lib.hid (show lB.length = nB from hw.fst.2.2)
  have NB := Lib.hid hw.len
  have N0 := Lib.hid hw.len0
  have HW := Lib.hid hw
  clear hw
  go_enter Try.func8, Try.ntmps8
  obtain ⟨X_0, X_1, -⟩ := X0.out
  go_wp2_with fail
  refine (alive_c _).mono ?_
  rintro e w1 ⟨rfl, hb⟩
  clear X_0 X_1
  have Xr1 := Lib.hid (X0.out.below hb)
  have Br1 := Lib.hid (B0.out.trans (hb.mono B0.out.size))
  clear X0
  clear hb
  obtain ⟨X_0, X_1, -⟩ := Xr1.out
  go_wp2_with fail
  refine (all_c _ _ l n _ _ ls 0 _ _ HN.out hbig Xr1.out.2.2 HQ.out hqb (SA.out _ Br1.out) m1 l0 n0 0 HW.out.all).mono ?_
  rintro e w2 ⟨A2, c2, rfl, hr, hb, -⟩
  clear X_0 X_1
  have Xr2 := Lib.hid (Xr1.out.below hb)
  have Br2 := Lib.hid (Br1.out.trans (hb.mono Br1.out.size))
  clear Xr1
  have Xa2 := Lib.hid (Xr2.out.alloc (.cells #[.int .i64 m1, .slice A2 n0 c2] 24))
  have Ba2 := Lib.hid (Br2.out.alloc Br2.out.size (.cells #[.int .i64 m1, .slice A2 n0 c2] 24))
  have Pa2 := Lib.hid (HM.new (e := m1) (n := n0) (c := c2) hr (rfl : w2.heap.size = w2.heap.size))
  clear hr hb Xr2
  obtain ⟨X_0, X_1, -⟩ := Xa2.out
  obtain ⟨P_0, P_1, -⟩ := Pa2.out
  go_upto_region 5 with fail
  obtain ⟨V, hV⟩ : ∃ V, V = w2.alloc (.cells #[.int .i64 m1, .slice A2 n0 c2] 24) := ⟨_, rfl⟩
  rw [← hV] at Xa2 Pa2 Ba2 X_0 X_1 P_0 P_1 ⊢
  clear hV
  clear X_0 X_1 P_0 P_1
  have SK := Lib.hid (show ∀ w', Below V.heap.size V w' → w'.cell? ⟨W.heap.size, 0, none⟩ = some (.int .i64 m1) ∧ w'.cell? ⟨W.heap.size, 1, none⟩ = some (.slice A n c) from fun w' hb => ⟨(Xa2.out.below hb).1, (Xa2.out.below hb).2.1⟩)
  have D0 := Lib.hid (show Below V.heap.size V V.drew from below_drew (Below.refl _ _))
  have D1 := Lib.hid (show Below V.heap.size V (V.drew.alloc (.cells #[.int .i64 0, .slice none 0 0] 24)) from D0.out.alloc (Nat.le_refl _) _)
  have KD := Lib.hid (show Known (V.drew.alloc (.cells #[.int .i64 0, .slice none 0 0] 24)) V.heap.size 24 #[.int .i64 0, .slice none 0 0] from Known.made V.drew _ _)
  go_cut [9, 10] (fun v u wx => ∃ g Ag cg, v = .pointer (some ⟨g, 0, none⟩) ∧ u = .int .i64 0 ∧ HM wx g eB Ag nB cg lB ∧ Below V.heap.size V wx)
  case first =>
    go_region_held3 (fun w' => w'.cell? ⟨W.heap.size, 0, none⟩ = some (.int .i64 m1) ∧ w'.cell? ⟨W.heap.size, 1, none⟩ = some (.slice A n c)) (first | exact SK.out _ D0.out | exact SK.out _ D1.out | exact SK.out _ K2.out | exact SK.out _ K3.out | exact SK.out _ K4.out | exact SK.out _ ((K2.out.setCell (Nat.le_refl _) _).setCell (Nat.le_refl _) _) | exact SK.out _ ((K3.out.setCell S2.out _).setCell S2.out _) | go_keep)
      (first
        | (go_at_call 16; refine (all_c _ _ l n _ _ (ls.take 0) 0 _ V.drew HN.out hbig (Xa2.out.below D0.out).2.2 T1.out (by omega) (S1.out _ (Ba2.out.trans (D0.out.mono Ba2.out.size))) eB lB nB 0 HW.out.fst).mono ?_; rintro e w2 ⟨A2, c2, rfl, hr, hb, hf⟩; have R2 := Lib.hid hr; have K2 := Lib.hid (show Below V.heap.size V w2 from undrew_ hb); have K3 := Lib.hid (show Below V.heap.size V (w2.alloc (.cells #[.int .i64 0, .slice none 0 0] 24)) from K2.out.alloc K2.out.size _); have K4 := Lib.hid (show Below V.heap.size V (w2.alloc (.cells #[.int .i64 eB, .slice A2 nB c2] 24)) from K2.out.alloc K2.out.size _); have S2 := Lib.hid K2.out.size; clear hr hb hf)
        | (go_at_call 16; refine (all_c _ _ l n _ _ (ls.take 0) 0 _ (V.drew.alloc (.cells #[.int .i64 0, .slice none 0 0] 24)) HN.out hbig (Xa2.out.below D1.out).2.2 T1.out (by omega) (S1.out _ (Ba2.out.trans (D1.out.mono Ba2.out.size))) eB lB nB 0 HW.out.fst).mono ?_; rintro e w2 ⟨A2, c2, rfl, hr, hb, hf⟩; have R2 := Lib.hid hr; have K2 := Lib.hid (show Below V.heap.size V w2 from D1.out.trans (hb.mono D1.out.size)); have Q2 := Lib.hid (KD.out.later hb); have F2 := Lib.hid (show ∀ a, A2 = some a → a.block ≠ V.heap.size from fun a h => by have h1 := hf a h; have h2 := KD.out.lt; omega); have r0 := Q2.out.cell 0; have r1 := Q2.out.cell 1; have f0 := Q2.out.free 0; have f1 := Q2.out.free 1; clear hr hb hf))
    all_goals go_wp2_with fail
    all_goals go_meet
    · exact ⟨_, _, _, rfl, rfl, HM.new R2.out rfl, K4.out⟩
    · exact ⟨_, _, _, rfl, rfl, hm_b Q2.out R2.out F2.out, (K2.out.setCell (Nat.le_refl _) _).setCell (Nat.le_refl _) _⟩
  case rest =>
    obtain ⟨gQ, AgQ, cgQ, rfl, rfl, hg, hcb⟩ := hcut
    obtain ⟨wQ, rfl⟩ : ∃ w : World, w = wc := ⟨_, rfl⟩
    have XpQ := Lib.hid (Xa2.out.below hcb)
    have PpQ := Lib.hid (Pa2.out.below hcb)
    have BpQ := Lib.hid (Ba2.out.trans (hcb.mono Ba2.out.size))
    clear Xa2 Pa2
    have QpQ := Lib.hid hg
    clear hg hcb SK D0 D1 KD
    obtain ⟨X_0, X_1, -⟩ := XpQ.out
    obtain ⟨P_0, P_1, -⟩ := PpQ.out
    obtain ⟨Q_0, Q_1, -⟩ := QpQ.out
    go_upto_region 5 with fail
    obtain ⟨V, hV⟩ : ∃ V, V = wQ := ⟨_, rfl⟩
    rw [← hV] at XpQ PpQ QpQ BpQ X_0 X_1 P_0 P_1 Q_0 Q_1 ⊢
    clear hV
    clear X_0 X_1 P_0 P_1 Q_0 Q_1
    have SK := Lib.hid (show ∀ w', Below V.heap.size V w' → w'.cell? ⟨gQ, 0, none⟩ = some (.int .i64 eB) ∧ w'.cell? ⟨gQ, 1, none⟩ = some (.slice AgQ nB cgQ) from fun w' hb => ⟨(QpQ.out.below hb).1, (QpQ.out.below hb).2.1⟩)
    have D0 := Lib.hid (show Below V.heap.size V V.drew from below_drew (Below.refl _ _))
    have D1 := Lib.hid (show Below V.heap.size V (V.drew.alloc (.cells #[.int .i64 0, .slice none 0 0] 24)) from D0.out.alloc (Nat.le_refl _) _)
    have KD := Lib.hid (show Known (V.drew.alloc (.cells #[.int .i64 0, .slice none 0 0] 24)) V.heap.size 24 #[.int .i64 0, .slice none 0 0] from Known.made V.drew _ _)
    go_cut [11, 12] (fun v u wx => ∃ g Ag cg, v = .pointer (some ⟨g, 0, none⟩) ∧ u = .int .i64 0 ∧ HM wx g m1 Ag n0 cg l0 ∧ Below V.heap.size V wx)
    case first =>
      go_region_held3 (fun w' => w'.cell? ⟨gQ, 0, none⟩ = some (.int .i64 eB) ∧ w'.cell? ⟨gQ, 1, none⟩ = some (.slice AgQ nB cgQ)) (first | exact SK.out _ D0.out | exact SK.out _ D1.out | exact SK.out _ K2.out | exact SK.out _ K3.out | exact SK.out _ K4.out | exact SK.out _ ((K2.out.setCell (Nat.le_refl _) _).setCell (Nat.le_refl _) _) | exact SK.out _ ((K3.out.setCell S2.out _).setCell S2.out _) | go_keep)
        (first
          | (go_at_call 16; refine (all_c _ _ lB nB _ _ (ls.drop 0) 0 _ V.drew LB.out (by have := NB.out; omega) (QpQ.out.below D0.out).2.2 T2.out (by omega) (S2.out _ (BpQ.out.trans (D0.out.mono BpQ.out.size))) m1 l0 n0 0 HW.out.snd).mono ?_; rintro e w2 ⟨A2, c2, rfl, hr, hb, hf⟩; have R2 := Lib.hid hr; have K2 := Lib.hid (show Below V.heap.size V w2 from undrew_ hb); have K3 := Lib.hid (show Below V.heap.size V (w2.alloc (.cells #[.int .i64 0, .slice none 0 0] 24)) from K2.out.alloc K2.out.size _); have K4 := Lib.hid (show Below V.heap.size V (w2.alloc (.cells #[.int .i64 m1, .slice A2 n0 c2] 24)) from K2.out.alloc K2.out.size _); have S2 := Lib.hid K2.out.size; clear hr hb hf)
          | (go_at_call 16; refine (all_c _ _ lB nB _ _ (ls.drop 0) 0 _ (V.drew.alloc (.cells #[.int .i64 0, .slice none 0 0] 24)) LB.out (by have := NB.out; omega) (QpQ.out.below D1.out).2.2 T2.out (by omega) (S2.out _ (BpQ.out.trans (D1.out.mono BpQ.out.size))) m1 l0 n0 0 HW.out.snd).mono ?_; rintro e w2 ⟨A2, c2, rfl, hr, hb, hf⟩; have R2 := Lib.hid hr; have K2 := Lib.hid (show Below V.heap.size V w2 from D1.out.trans (hb.mono D1.out.size)); have Q2 := Lib.hid (KD.out.later hb); have F2 := Lib.hid (show ∀ a, A2 = some a → a.block ≠ V.heap.size from fun a h => by have h1 := hf a h; have h2 := KD.out.lt; omega); have r0 := Q2.out.cell 0; have r1 := Q2.out.cell 1; have f0 := Q2.out.free 0; have f1 := Q2.out.free 1; clear hr hb hf))
      all_goals go_wp2_with fail
      all_goals go_meet
      · exact ⟨_, _, _, rfl, rfl, HM.new R2.out rfl, K4.out⟩
      · exact ⟨_, _, _, rfl, rfl, hm_b Q2.out R2.out F2.out, (K2.out.setCell (Nat.le_refl _) _).setCell (Nat.le_refl _) _⟩
    case rest =>
      obtain ⟨gR, AgR, cgR, rfl, rfl, hg, hcb⟩ := hcut
      obtain ⟨wR, rfl⟩ : ∃ w : World, w = wc := ⟨_, rfl⟩
      have XpR := Lib.hid (XpQ.out.below hcb)
      have PpR := Lib.hid (PpQ.out.below hcb)
      have QpR := Lib.hid (QpQ.out.below hcb)
      have BpR := Lib.hid (BpQ.out.trans (hcb.mono BpQ.out.size))
      clear XpQ PpQ QpQ
      have RpR := Lib.hid hg
      clear hg hcb SK D0 D1 KD
      obtain ⟨X_0, X_1, -⟩ := XpR.out
      obtain ⟨P_0, P_1, -⟩ := PpR.out
      obtain ⟨Q_0, Q_1, -⟩ := QpR.out
      obtain ⟨R_0, R_1, -⟩ := RpR.out
      go_wp2_with fail
      refine (same_c _ _ _ l0 n0 _ _ _ HL0.out (by have := N0.out; omega) PpR.out.2.2 RpR.out.2.2).mono ?_
      rintro e w8 ⟨rfl, hb⟩
      clear X_0 X_1 P_0 P_1 Q_0 Q_1 R_0 R_1
      have Xr8 := Lib.hid (XpR.out.below hb)
      have Pr8 := Lib.hid (PpR.out.below hb)
      have Qr8 := Lib.hid (QpR.out.below hb)
      have Rr8 := Lib.hid (RpR.out.below hb)
      have Br8 := Lib.hid (BpR.out.trans (hb.mono BpR.out.size))
      clear XpR PpR QpR RpR
      clear hb
      obtain ⟨X_0, X_1, -⟩ := Xr8.out
      obtain ⟨P_0, P_1, -⟩ := Pr8.out
      obtain ⟨Q_0, Q_1, -⟩ := Qr8.out
      obtain ⟨R_0, R_1, -⟩ := Rr8.out
      go_wp2
      go_ret
      exact ⟨rfl, Br8.out⟩
set_option maxRecDepth 100000 in
set_option maxHeartbeats 16000000 in
theorem goodk_emp (m1 : Int) (A : Option Addr) (l : List Int) (n c : Nat) (ad : Addr) (ls : List Sp) (cs : Nat) (W : World) (hn : l.length = n) (hbig : n ≤ 17592186044416) (hx : Reads W A (ints l))
    (hls : ls = []) (hq : ls.length = 0) (hqb : 0 ≤ 4398046511104) (hs : SRds W (some ad) ls) (eB : Int) (lB : List Int) (nB : Nat) (k : Int) (hk : k ≠ 0) (hw : Fine m1 l ls 0 eB lB nB 0 [] 0 k) :
    Calls Try.prog 8 #[.agg #[.int .i64 m1, .slice A n c], .slice (some ad) 0 cs, .int .i64 0] W (Law.Yes W) := by
  have HQ := Lib.hid hq
  have SA := Lib.hid (fun V (hb : Below W.heap.size W V) => hs.below hb)
  have T1 := Lib.hid (show (ls.take 0).length = 0 by simp)
  have S1 := Lib.hid (fun V (hb : Below W.heap.size W V) => (hs.below hb).take 0)
  have T2 := Lib.hid (show (ls.drop 0).length = 0 by rw [hls]; rfl)
  have S2 := Lib.hid (fun V (hb : Below W.heap.size W V) => show SRds V (some ad) (ls.drop 0) from hs.below hb)
  have y1 : decide ((0 : Int) < (0 : Int)) = false := by decide
  clear hls hq hs
  have X0 := Lib.hid (HM.new (e := m1) (n := n) (c := c) hx rfl)
  have B0 := Lib.hid (show Below W.heap.size W (W.alloc (.cells #[.int .i64 m1, .slice A n c] 24)) from below_alloc _ _)
  have HN := Lib.hid hn
  clear hn hx
  have yk : (k != 0) = true := by simpa using hk
  have ykk : (k == k) = true := by simp
  clear hk
  have LB := Lib.hid (show lB.length = nB from hw.fst.2.2)
  have NB := Lib.hid hw.len
  have N0 := Lib.hid hw.len0
  have HW := Lib.hid hw
  clear hw
  go_enter Try.func8, Try.ntmps8
  obtain ⟨X_0, X_1, -⟩ := X0.out
  go_wp2_with fail
  refine (alive_c _).mono ?_
  rintro e w1 ⟨rfl, hb⟩
  clear X_0 X_1
  have Xr1 := Lib.hid (X0.out.below hb)
  have Br1 := Lib.hid (B0.out.trans (hb.mono B0.out.size))
  clear X0
  clear hb
  obtain ⟨X_0, X_1, -⟩ := Xr1.out
  go_wp2_with fail
  refine (all_c _ _ l n _ _ ls 0 _ _ HN.out hbig Xr1.out.2.2 HQ.out hqb (SA.out _ Br1.out) 0 [] 0 k HW.out.all).mono ?_
  rintro e w2 ⟨A2, c2, rfl, hr, hb, -⟩
  clear X_0 X_1
  have Xr2 := Lib.hid (Xr1.out.below hb)
  have Br2 := Lib.hid (Br1.out.trans (hb.mono Br1.out.size))
  clear Xr1
  have Xa2 := Lib.hid (Xr2.out.alloc (.cells #[.int .i64 (0 : Int), .slice A2 0 c2] 24))
  have Ba2 := Lib.hid (Br2.out.alloc Br2.out.size (.cells #[.int .i64 (0 : Int), .slice A2 0 c2] 24))
  have Pa2 := Lib.hid (HM.new (e := (0 : Int)) (n := 0) (c := c2) hr (rfl : w2.heap.size = w2.heap.size))
  clear hr hb Xr2
  obtain ⟨X_0, X_1, -⟩ := Xa2.out
  obtain ⟨P_0, P_1, -⟩ := Pa2.out
  go_upto_region 5 with fail
  obtain ⟨V, hV⟩ : ∃ V, V = w2.alloc (.cells #[.int .i64 (0 : Int), .slice A2 0 c2] 24) := ⟨_, rfl⟩
  rw [← hV] at Xa2 Pa2 Ba2 X_0 X_1 P_0 P_1 ⊢
  clear hV
  clear X_0 X_1 P_0 P_1
  have SK := Lib.hid (show ∀ w', Below V.heap.size V w' → w'.cell? ⟨W.heap.size, 0, none⟩ = some (.int .i64 m1) ∧ w'.cell? ⟨W.heap.size, 1, none⟩ = some (.slice A n c) from fun w' hb => ⟨(Xa2.out.below hb).1, (Xa2.out.below hb).2.1⟩)
  have D0 := Lib.hid (show Below V.heap.size V V.drew from below_drew (Below.refl _ _))
  have D1 := Lib.hid (show Below V.heap.size V (V.drew.alloc (.cells #[.int .i64 0, .slice none 0 0] 24)) from D0.out.alloc (Nat.le_refl _) _)
  have KD := Lib.hid (show Known (V.drew.alloc (.cells #[.int .i64 0, .slice none 0 0] 24)) V.heap.size 24 #[.int .i64 0, .slice none 0 0] from Known.made V.drew _ _)
  go_cut [9, 10] (fun v u wx => ∃ g Ag cg, v = .pointer (some ⟨g, 0, none⟩) ∧ u = .int .i64 0 ∧ HM wx g eB Ag nB cg lB ∧ Below V.heap.size V wx)
  case first =>
    go_region_held3 (fun w' => w'.cell? ⟨W.heap.size, 0, none⟩ = some (.int .i64 m1) ∧ w'.cell? ⟨W.heap.size, 1, none⟩ = some (.slice A n c)) (first | exact SK.out _ D0.out | exact SK.out _ D1.out | exact SK.out _ K2.out | exact SK.out _ K3.out | exact SK.out _ K4.out | exact SK.out _ ((K2.out.setCell (Nat.le_refl _) _).setCell (Nat.le_refl _) _) | exact SK.out _ ((K3.out.setCell S2.out _).setCell S2.out _) | go_keep)
      (first
        | (go_at_call 16; refine (all_c _ _ l n _ _ (ls.take 0) 0 _ V.drew HN.out hbig (Xa2.out.below D0.out).2.2 T1.out (by omega) (S1.out _ (Ba2.out.trans (D0.out.mono Ba2.out.size))) eB lB nB 0 HW.out.fst).mono ?_; rintro e w2 ⟨A2, c2, rfl, hr, hb, hf⟩; have R2 := Lib.hid hr; have K2 := Lib.hid (show Below V.heap.size V w2 from undrew_ hb); have K3 := Lib.hid (show Below V.heap.size V (w2.alloc (.cells #[.int .i64 0, .slice none 0 0] 24)) from K2.out.alloc K2.out.size _); have K4 := Lib.hid (show Below V.heap.size V (w2.alloc (.cells #[.int .i64 eB, .slice A2 nB c2] 24)) from K2.out.alloc K2.out.size _); have S2 := Lib.hid K2.out.size; clear hr hb hf)
        | (go_at_call 16; refine (all_c _ _ l n _ _ (ls.take 0) 0 _ (V.drew.alloc (.cells #[.int .i64 0, .slice none 0 0] 24)) HN.out hbig (Xa2.out.below D1.out).2.2 T1.out (by omega) (S1.out _ (Ba2.out.trans (D1.out.mono Ba2.out.size))) eB lB nB 0 HW.out.fst).mono ?_; rintro e w2 ⟨A2, c2, rfl, hr, hb, hf⟩; have R2 := Lib.hid hr; have K2 := Lib.hid (show Below V.heap.size V w2 from D1.out.trans (hb.mono D1.out.size)); have Q2 := Lib.hid (KD.out.later hb); have F2 := Lib.hid (show ∀ a, A2 = some a → a.block ≠ V.heap.size from fun a h => by have h1 := hf a h; have h2 := KD.out.lt; omega); have r0 := Q2.out.cell 0; have r1 := Q2.out.cell 1; have f0 := Q2.out.free 0; have f1 := Q2.out.free 1; clear hr hb hf))
    all_goals go_wp2_with fail
    all_goals go_meet
    · exact ⟨_, _, _, rfl, rfl, HM.new R2.out rfl, K4.out⟩
    · exact ⟨_, _, _, rfl, rfl, hm_b Q2.out R2.out F2.out, (K2.out.setCell (Nat.le_refl _) _).setCell (Nat.le_refl _) _⟩
  case rest =>
    obtain ⟨gQ, AgQ, cgQ, rfl, rfl, hg, hcb⟩ := hcut
    obtain ⟨wQ, rfl⟩ : ∃ w : World, w = wc := ⟨_, rfl⟩
    have XpQ := Lib.hid (Xa2.out.below hcb)
    have PpQ := Lib.hid (Pa2.out.below hcb)
    have BpQ := Lib.hid (Ba2.out.trans (hcb.mono Ba2.out.size))
    clear Xa2 Pa2
    have QpQ := Lib.hid hg
    clear hg hcb SK D0 D1 KD
    obtain ⟨X_0, X_1, -⟩ := XpQ.out
    obtain ⟨P_0, P_1, -⟩ := PpQ.out
    obtain ⟨Q_0, Q_1, -⟩ := QpQ.out
    go_upto_region 5 with fail
    obtain ⟨V, hV⟩ : ∃ V, V = wQ := ⟨_, rfl⟩
    rw [← hV] at XpQ PpQ QpQ BpQ X_0 X_1 P_0 P_1 Q_0 Q_1 ⊢
    clear hV
    clear X_0 X_1 P_0 P_1 Q_0 Q_1
    have SK := Lib.hid (show ∀ w', Below V.heap.size V w' → w'.cell? ⟨gQ, 0, none⟩ = some (.int .i64 eB) ∧ w'.cell? ⟨gQ, 1, none⟩ = some (.slice AgQ nB cgQ) from fun w' hb => ⟨(QpQ.out.below hb).1, (QpQ.out.below hb).2.1⟩)
    have D0 := Lib.hid (show Below V.heap.size V V.drew from below_drew (Below.refl _ _))
    have D1 := Lib.hid (show Below V.heap.size V (V.drew.alloc (.cells #[.int .i64 0, .slice none 0 0] 24)) from D0.out.alloc (Nat.le_refl _) _)
    have KD := Lib.hid (show Known (V.drew.alloc (.cells #[.int .i64 0, .slice none 0 0] 24)) V.heap.size 24 #[.int .i64 0, .slice none 0 0] from Known.made V.drew _ _)
    go_cut [11, 12] (fun v u wx => ∃ g Ag cg, v = .pointer (some ⟨g, 0, none⟩) ∧ u = .int .i64 k ∧ HM wx g (0 : Int) Ag 0 cg [] ∧ Below V.heap.size V wx)
    case first =>
      go_region_held3 (fun w' => w'.cell? ⟨gQ, 0, none⟩ = some (.int .i64 eB) ∧ w'.cell? ⟨gQ, 1, none⟩ = some (.slice AgQ nB cgQ)) (first | exact SK.out _ D0.out | exact SK.out _ D1.out | exact SK.out _ K2.out | exact SK.out _ K3.out | exact SK.out _ K4.out | exact SK.out _ ((K2.out.setCell (Nat.le_refl _) _).setCell (Nat.le_refl _) _) | exact SK.out _ ((K3.out.setCell S2.out _).setCell S2.out _) | go_keep)
        (first
          | (go_at_call 16; refine (all_c _ _ lB nB _ _ (ls.drop 0) 0 _ V.drew LB.out (by have := NB.out; omega) (QpQ.out.below D0.out).2.2 T2.out (by omega) (S2.out _ (BpQ.out.trans (D0.out.mono BpQ.out.size))) 0 [] 0 k HW.out.snd).mono ?_; rintro e w2 ⟨A2, c2, rfl, hr, hb, hf⟩; have R2 := Lib.hid hr; have K2 := Lib.hid (show Below V.heap.size V w2 from undrew_ hb); have K3 := Lib.hid (show Below V.heap.size V (w2.alloc (.cells #[.int .i64 0, .slice none 0 0] 24)) from K2.out.alloc K2.out.size _); have K4 := Lib.hid (show Below V.heap.size V (w2.alloc (.cells #[.int .i64 (0 : Int), .slice A2 0 c2] 24)) from K2.out.alloc K2.out.size _); have S2 := Lib.hid K2.out.size; clear hr hb hf)
          | (go_at_call 16; refine (all_c _ _ lB nB _ _ (ls.drop 0) 0 _ (V.drew.alloc (.cells #[.int .i64 0, .slice none 0 0] 24)) LB.out (by have := NB.out; omega) (QpQ.out.below D1.out).2.2 T2.out (by omega) (S2.out _ (BpQ.out.trans (D1.out.mono BpQ.out.size))) 0 [] 0 k HW.out.snd).mono ?_; rintro e w2 ⟨A2, c2, rfl, hr, hb, hf⟩; have R2 := Lib.hid hr; have K2 := Lib.hid (show Below V.heap.size V w2 from D1.out.trans (hb.mono D1.out.size)); have Q2 := Lib.hid (KD.out.later hb); have F2 := Lib.hid (show ∀ a, A2 = some a → a.block ≠ V.heap.size from fun a h => by have h1 := hf a h; have h2 := KD.out.lt; omega); have r0 := Q2.out.cell 0; have r1 := Q2.out.cell 1; have f0 := Q2.out.free 0; have f1 := Q2.out.free 1; clear hr hb hf))
      all_goals go_wp2_with fail
      all_goals go_meet
      · exact ⟨_, _, _, rfl, rfl, HM.new R2.out rfl, K4.out⟩
      · exact ⟨_, _, _, rfl, rfl, hm_b Q2.out R2.out F2.out, (K2.out.setCell (Nat.le_refl _) _).setCell (Nat.le_refl _) _⟩
    case rest =>
      obtain ⟨gR, AgR, cgR, rfl, rfl, hg, hcb⟩ := hcut
      obtain ⟨wR, rfl⟩ : ∃ w : World, w = wc := ⟨_, rfl⟩
      have XpR := Lib.hid (XpQ.out.below hcb)
      have PpR := Lib.hid (PpQ.out.below hcb)
      have QpR := Lib.hid (QpQ.out.below hcb)
      have BpR := Lib.hid (BpQ.out.trans (hcb.mono BpQ.out.size))
      clear XpQ PpQ QpQ
      have RpR := Lib.hid hg
      clear hg hcb SK D0 D1 KD
      obtain ⟨X_0, X_1, -⟩ := XpR.out
      obtain ⟨P_0, P_1, -⟩ := PpR.out
      obtain ⟨Q_0, Q_1, -⟩ := QpR.out
      obtain ⟨R_0, R_1, -⟩ := RpR.out
      go_wp2_with fail
      refine (same_c _ _ _ [] 0 _ _ _ rfl (by have := N0.out; omega) PpR.out.2.2 RpR.out.2.2).mono ?_
      rintro e w8 ⟨rfl, hb⟩
      clear X_0 X_1 P_0 P_1 Q_0 Q_1 R_0 R_1
      have Xr8 := Lib.hid (XpR.out.below hb)
      have Pr8 := Lib.hid (PpR.out.below hb)
      have Qr8 := Lib.hid (QpR.out.below hb)
      have Rr8 := Lib.hid (RpR.out.below hb)
      have Br8 := Lib.hid (BpR.out.trans (hb.mono BpR.out.size))
      clear XpR PpR QpR RpR
      clear hb
      obtain ⟨X_0, X_1, -⟩ := Xr8.out
      obtain ⟨P_0, P_1, -⟩ := Pr8.out
      obtain ⟨Q_0, Q_1, -⟩ := Qr8.out
      obtain ⟨R_0, R_1, -⟩ := Rr8.out
      go_wp2
      go_ret
      exact ⟨rfl, Br8.out⟩
set_option maxRecDepth 100000 in
set_option maxHeartbeats 16000000 in
theorem bad_end (m1 : Int) (A : Option Addr) (l : List Int) (n c : Nat) (b o : Nat) (ls : List Sp) (q j : Nat) (W : World) (hn : l.length = n) (hbig : n ≤ 17592186044416) (hx : Reads W A (ints l))
    (hjq : j = q) (hq : ls.length = q) (hqb : q ≤ 4398046511104) (hs : SRds W (some ⟨b, o, none⟩) ls) (k : Int) (hk : k ≠ 0) (hw : Bad m1 l ls j k) :
    Calls Try.prog 8 #[.agg #[.int .i64 m1, .slice A n c], .slice (some ⟨b, o, none⟩) q j, .int .i64 (j : Int)] W (Law.Yes W) := by
  have HQ := Lib.hid hq
  have SA := Lib.hid (fun V (hb : Below W.heap.size W V) => hs.below hb)
  subst hjq
  have T1 := Lib.hid (show (ls.take j).length = j by rw [List.length_take, hq]; omega)
  have S1 := Lib.hid (fun V (hb : Below W.heap.size W V) => (hs.below hb).take j)
  have ed : ls.drop j = [] := List.drop_of_length_le (by omega)
  have T2 := Lib.hid (show (ls.drop j).length = 0 by rw [ed]; rfl)
  have S2 := Lib.hid (show ∀ V, Below W.heap.size W V → SRds V (some ⟨b, o, none⟩) (ls.drop j) from fun V hb => by rw [ed]; exact SRds.nil)
  have y1 : decide ((j : Int) < (j : Int)) = false := by simp
  have y2 : decide (j < j) = false := by simp
  have f1 : (0 : Int) ≤ (j : Int) := by omega
  have f2 : (j : Int) ≤ (j : Int) := by omega
  clear ed hq hs
  have X0 := Lib.hid (HM.new (e := m1) (n := n) (c := c) hx rfl)
  have B0 := Lib.hid (show Below W.heap.size W (W.alloc (.cells #[.int .i64 m1, .slice A n c] 24)) from below_alloc _ _)
  have HN := Lib.hid hn
  clear hn hx
  have yk : (k != 0) = true := by simpa using hk
  have ykk : (k == k) = true := by simp
  clear hk
  have HW := Lib.hid hw
  clear hw
  go_enter Try.func8, Try.ntmps8
  obtain ⟨X_0, X_1, -⟩ := X0.out
  go_wp2_with fail
  refine (alive_c _).mono ?_
  rintro e w1 ⟨rfl, hb⟩
  clear X_0 X_1
  have Xr1 := Lib.hid (X0.out.below hb)
  have Br1 := Lib.hid (B0.out.trans (hb.mono B0.out.size))
  clear X0
  clear hb
  obtain ⟨X_0, X_1, -⟩ := Xr1.out
  go_wp2_with fail
  refine (all_c _ _ l n _ _ ls j _ _ HN.out hbig Xr1.out.2.2 HQ.out hqb (SA.out _ Br1.out) 0 [] 0 k HW.out.all).mono ?_
  rintro e w2 ⟨A2, c2, rfl, hr, hb, -⟩
  clear X_0 X_1
  have Xr2 := Lib.hid (Xr1.out.below hb)
  have Br2 := Lib.hid (Br1.out.trans (hb.mono Br1.out.size))
  clear Xr1
  have Xa2 := Lib.hid (Xr2.out.alloc (.cells #[.int .i64 (0 : Int), .slice A2 0 c2] 24))
  have Ba2 := Lib.hid (Br2.out.alloc Br2.out.size (.cells #[.int .i64 (0 : Int), .slice A2 0 c2] 24))
  have Pa2 := Lib.hid (HM.new (e := (0 : Int)) (n := 0) (c := c2) hr (rfl : w2.heap.size = w2.heap.size))
  clear hr hb Xr2
  obtain ⟨X_0, X_1, -⟩ := Xa2.out
  obtain ⟨P_0, P_1, -⟩ := Pa2.out
  go_upto_region 5 with fail
  obtain ⟨V, hV⟩ : ∃ V, V = w2.alloc (.cells #[.int .i64 (0 : Int), .slice A2 0 c2] 24) := ⟨_, rfl⟩
  rw [← hV] at Xa2 Pa2 Ba2 X_0 X_1 P_0 P_1 ⊢
  clear hV
  clear X_0 X_1 P_0 P_1
  have SK := Lib.hid (show ∀ w', Below V.heap.size V w' → w'.cell? ⟨W.heap.size, 0, none⟩ = some (.int .i64 m1) ∧ w'.cell? ⟨W.heap.size, 1, none⟩ = some (.slice A n c) from fun w' hb => ⟨(Xa2.out.below hb).1, (Xa2.out.below hb).2.1⟩)
  have D0 := Lib.hid (show Below V.heap.size V V.drew from below_drew (Below.refl _ _))
  have D1 := Lib.hid (show Below V.heap.size V (V.drew.alloc (.cells #[.int .i64 0, .slice none 0 0] 24)) from D0.out.alloc (Nat.le_refl _) _)
  have KD := Lib.hid (show Known (V.drew.alloc (.cells #[.int .i64 0, .slice none 0 0] 24)) V.heap.size 24 #[.int .i64 0, .slice none 0 0] from Known.made V.drew _ _)
  go_cut [9, 10] (fun v u wx => ∃ g Ag cg, v = .pointer (some ⟨g, 0, none⟩) ∧ u = .int .i64 k ∧ HM wx g (0 : Int) Ag 0 cg [] ∧ Below V.heap.size V wx)
  case first =>
    go_region_held3 (fun w' => w'.cell? ⟨W.heap.size, 0, none⟩ = some (.int .i64 m1) ∧ w'.cell? ⟨W.heap.size, 1, none⟩ = some (.slice A n c)) (first | exact SK.out _ D0.out | exact SK.out _ D1.out | exact SK.out _ K2.out | exact SK.out _ K3.out | exact SK.out _ K4.out | exact SK.out _ ((K2.out.setCell (Nat.le_refl _) _).setCell (Nat.le_refl _) _) | exact SK.out _ ((K3.out.setCell S2.out _).setCell S2.out _) | go_keep)
      (first
        | (go_at_call 16; refine (all_c _ _ l n _ _ (ls.take j) j _ V.drew HN.out hbig (Xa2.out.below D0.out).2.2 T1.out (by omega) (S1.out _ (Ba2.out.trans (D0.out.mono Ba2.out.size))) 0 [] 0 k HW.out.fst).mono ?_; rintro e w2 ⟨A2, c2, rfl, hr, hb, hf⟩; have R2 := Lib.hid hr; have K2 := Lib.hid (show Below V.heap.size V w2 from undrew_ hb); have K3 := Lib.hid (show Below V.heap.size V (w2.alloc (.cells #[.int .i64 0, .slice none 0 0] 24)) from K2.out.alloc K2.out.size _); have K4 := Lib.hid (show Below V.heap.size V (w2.alloc (.cells #[.int .i64 (0 : Int), .slice A2 0 c2] 24)) from K2.out.alloc K2.out.size _); have S2 := Lib.hid K2.out.size; clear hr hb hf)
        | (go_at_call 16; refine (all_c _ _ l n _ _ (ls.take j) j _ (V.drew.alloc (.cells #[.int .i64 0, .slice none 0 0] 24)) HN.out hbig (Xa2.out.below D1.out).2.2 T1.out (by omega) (S1.out _ (Ba2.out.trans (D1.out.mono Ba2.out.size))) 0 [] 0 k HW.out.fst).mono ?_; rintro e w2 ⟨A2, c2, rfl, hr, hb, hf⟩; have R2 := Lib.hid hr; have K2 := Lib.hid (show Below V.heap.size V w2 from D1.out.trans (hb.mono D1.out.size)); have Q2 := Lib.hid (KD.out.later hb); have F2 := Lib.hid (show ∀ a, A2 = some a → a.block ≠ V.heap.size from fun a h => by have h1 := hf a h; have h2 := KD.out.lt; omega); have r0 := Q2.out.cell 0; have r1 := Q2.out.cell 1; have f0 := Q2.out.free 0; have f1 := Q2.out.free 1; clear hr hb hf))
    all_goals go_wp2_with fail
    all_goals go_meet
    · exact ⟨_, _, _, rfl, rfl, HM.new R2.out rfl, K4.out⟩
    · exact ⟨_, _, _, rfl, rfl, hm_b Q2.out R2.out F2.out, (K2.out.setCell (Nat.le_refl _) _).setCell (Nat.le_refl _) _⟩
  case rest =>
    obtain ⟨gQ, AgQ, cgQ, rfl, rfl, hg, hcb⟩ := hcut
    obtain ⟨wQ, rfl⟩ : ∃ w : World, w = wc := ⟨_, rfl⟩
    have XpQ := Lib.hid (Xa2.out.below hcb)
    have PpQ := Lib.hid (Pa2.out.below hcb)
    have BpQ := Lib.hid (Ba2.out.trans (hcb.mono Ba2.out.size))
    clear Xa2 Pa2
    have QpQ := Lib.hid hg
    clear hg hcb SK D0 D1 KD
    obtain ⟨X_0, X_1, -⟩ := XpQ.out
    obtain ⟨P_0, P_1, -⟩ := PpQ.out
    obtain ⟨Q_0, Q_1, -⟩ := QpQ.out
    go_wp2
    go_ret
    exact ⟨rfl, BpQ.out⟩
set_option maxRecDepth 100000 in
set_option maxHeartbeats 16000000 in
theorem good0_end (m1 : Int) (A : Option Addr) (l : List Int) (n c : Nat) (b o : Nat) (ls : List Sp) (q j : Nat) (W : World) (hn : l.length = n) (hbig : n ≤ 17592186044416) (hx : Reads W A (ints l))
    (hjq : j = q) (hq : ls.length = q) (hqb : q ≤ 4398046511104) (hs : SRds W (some ⟨b, o, none⟩) ls) (eB : Int) (lB : List Int) (nB : Nat) (l0 : List Int) (n0 : Nat) (hw : Fine m1 l ls j eB lB nB (m1 + (q : Int)) l0 n0 0) (hl0 : l0.length = n0) (h1 : -9223372036854775808 ≤ (m1 + (q : Int))) (h2 : (m1 + (q : Int)) ≤ 9223372036854775807) :
    Calls Try.prog 8 #[.agg #[.int .i64 m1, .slice A n c], .slice (some ⟨b, o, none⟩) q j, .int .i64 (j : Int)] W (Law.Yes W) := by
  have HQ := Lib.hid hq
  have SA := Lib.hid (fun V (hb : Below W.heap.size W V) => hs.below hb)
  subst hjq
  have T1 := Lib.hid (show (ls.take j).length = j by rw [List.length_take, hq]; omega)
  have S1 := Lib.hid (fun V (hb : Below W.heap.size W V) => (hs.below hb).take j)
  have ed : ls.drop j = [] := List.drop_of_length_le (by omega)
  have T2 := Lib.hid (show (ls.drop j).length = 0 by rw [ed]; rfl)
  have S2 := Lib.hid (show ∀ V, Below W.heap.size W V → SRds V (some ⟨b, o, none⟩) (ls.drop j) from fun V hb => by rw [ed]; exact SRds.nil)
  have y1 : decide ((j : Int) < (j : Int)) = false := by simp
  have y2 : decide (j < j) = false := by simp
  have f1 : (0 : Int) ≤ (j : Int) := by omega
  have f2 : (j : Int) ≤ (j : Int) := by omega
  clear ed hq hs
  have X0 := Lib.hid (HM.new (e := m1) (n := n) (c := c) hx rfl)
  have B0 := Lib.hid (show Below W.heap.size W (W.alloc (.cells #[.int .i64 m1, .slice A n c] 24)) from below_alloc _ _)
  have HN := Lib.hid hn
  clear hn hx
  have wq : IntKind.i64.wrap (m1 + (j : Int)) = (m1 + (j : Int)) := IntWalk.i64_in _ (by omega)
  have yq : ((m1 + (j : Int)) == (m1 + (j : Int))) = true := by simp
  have HL0 := Lib.hid hl0
  clear h1 h2 hl0
  have LB := Lib.hid (show lB.length = nB from hw.fst.2.2)
  have NB := Lib.hid hw.len
  have N0 := Lib.hid hw.len0
  have HW := Lib.hid hw
  clear hw
  go_enter Try.func8, Try.ntmps8
  obtain ⟨X_0, X_1, -⟩ := X0.out
  go_wp2_with fail
  refine (alive_c _).mono ?_
  rintro e w1 ⟨rfl, hb⟩
  clear X_0 X_1
  have Xr1 := Lib.hid (X0.out.below hb)
  have Br1 := Lib.hid (B0.out.trans (hb.mono B0.out.size))
  clear X0
  clear hb
  obtain ⟨X_0, X_1, -⟩ := Xr1.out
  go_wp2_with fail
  refine (all_c _ _ l n _ _ ls j _ _ HN.out hbig Xr1.out.2.2 HQ.out hqb (SA.out _ Br1.out) (m1 + (j : Int)) l0 n0 0 HW.out.all).mono ?_
  rintro e w2 ⟨A2, c2, rfl, hr, hb, -⟩
  clear X_0 X_1
  have Xr2 := Lib.hid (Xr1.out.below hb)
  have Br2 := Lib.hid (Br1.out.trans (hb.mono Br1.out.size))
  clear Xr1
  have Xa2 := Lib.hid (Xr2.out.alloc (.cells #[.int .i64 (m1 + (j : Int)), .slice A2 n0 c2] 24))
  have Ba2 := Lib.hid (Br2.out.alloc Br2.out.size (.cells #[.int .i64 (m1 + (j : Int)), .slice A2 n0 c2] 24))
  have Pa2 := Lib.hid (HM.new (e := (m1 + (j : Int))) (n := n0) (c := c2) hr (rfl : w2.heap.size = w2.heap.size))
  clear hr hb Xr2
  obtain ⟨X_0, X_1, -⟩ := Xa2.out
  obtain ⟨P_0, P_1, -⟩ := Pa2.out
  go_upto_region 5 with fail
  obtain ⟨V, hV⟩ : ∃ V, V = w2.alloc (.cells #[.int .i64 (m1 + (j : Int)), .slice A2 n0 c2] 24) := ⟨_, rfl⟩
  rw [← hV] at Xa2 Pa2 Ba2 X_0 X_1 P_0 P_1 ⊢
  clear hV
  clear X_0 X_1 P_0 P_1
  have SK := Lib.hid (show ∀ w', Below V.heap.size V w' → w'.cell? ⟨W.heap.size, 0, none⟩ = some (.int .i64 m1) ∧ w'.cell? ⟨W.heap.size, 1, none⟩ = some (.slice A n c) from fun w' hb => ⟨(Xa2.out.below hb).1, (Xa2.out.below hb).2.1⟩)
  have D0 := Lib.hid (show Below V.heap.size V V.drew from below_drew (Below.refl _ _))
  have D1 := Lib.hid (show Below V.heap.size V (V.drew.alloc (.cells #[.int .i64 0, .slice none 0 0] 24)) from D0.out.alloc (Nat.le_refl _) _)
  have KD := Lib.hid (show Known (V.drew.alloc (.cells #[.int .i64 0, .slice none 0 0] 24)) V.heap.size 24 #[.int .i64 0, .slice none 0 0] from Known.made V.drew _ _)
  go_cut [9, 10] (fun v u wx => ∃ g Ag cg, v = .pointer (some ⟨g, 0, none⟩) ∧ u = .int .i64 0 ∧ HM wx g eB Ag nB cg lB ∧ Below V.heap.size V wx)
  case first =>
    go_region_held3 (fun w' => w'.cell? ⟨W.heap.size, 0, none⟩ = some (.int .i64 m1) ∧ w'.cell? ⟨W.heap.size, 1, none⟩ = some (.slice A n c)) (first | exact SK.out _ D0.out | exact SK.out _ D1.out | exact SK.out _ K2.out | exact SK.out _ K3.out | exact SK.out _ K4.out | exact SK.out _ ((K2.out.setCell (Nat.le_refl _) _).setCell (Nat.le_refl _) _) | exact SK.out _ ((K3.out.setCell S2.out _).setCell S2.out _) | go_keep)
      (first
        | (go_at_call 16; refine (all_c _ _ l n _ _ (ls.take j) j _ V.drew HN.out hbig (Xa2.out.below D0.out).2.2 T1.out (by omega) (S1.out _ (Ba2.out.trans (D0.out.mono Ba2.out.size))) eB lB nB 0 HW.out.fst).mono ?_; rintro e w2 ⟨A2, c2, rfl, hr, hb, hf⟩; have R2 := Lib.hid hr; have K2 := Lib.hid (show Below V.heap.size V w2 from undrew_ hb); have K3 := Lib.hid (show Below V.heap.size V (w2.alloc (.cells #[.int .i64 0, .slice none 0 0] 24)) from K2.out.alloc K2.out.size _); have K4 := Lib.hid (show Below V.heap.size V (w2.alloc (.cells #[.int .i64 eB, .slice A2 nB c2] 24)) from K2.out.alloc K2.out.size _); have S2 := Lib.hid K2.out.size; clear hr hb hf)
        | (go_at_call 16; refine (all_c _ _ l n _ _ (ls.take j) j _ (V.drew.alloc (.cells #[.int .i64 0, .slice none 0 0] 24)) HN.out hbig (Xa2.out.below D1.out).2.2 T1.out (by omega) (S1.out _ (Ba2.out.trans (D1.out.mono Ba2.out.size))) eB lB nB 0 HW.out.fst).mono ?_; rintro e w2 ⟨A2, c2, rfl, hr, hb, hf⟩; have R2 := Lib.hid hr; have K2 := Lib.hid (show Below V.heap.size V w2 from D1.out.trans (hb.mono D1.out.size)); have Q2 := Lib.hid (KD.out.later hb); have F2 := Lib.hid (show ∀ a, A2 = some a → a.block ≠ V.heap.size from fun a h => by have h1 := hf a h; have h2 := KD.out.lt; omega); have r0 := Q2.out.cell 0; have r1 := Q2.out.cell 1; have f0 := Q2.out.free 0; have f1 := Q2.out.free 1; clear hr hb hf))
    all_goals go_wp2_with fail
    all_goals go_meet
    · exact ⟨_, _, _, rfl, rfl, HM.new R2.out rfl, K4.out⟩
    · exact ⟨_, _, _, rfl, rfl, hm_b Q2.out R2.out F2.out, (K2.out.setCell (Nat.le_refl _) _).setCell (Nat.le_refl _) _⟩
  case rest =>
    obtain ⟨gQ, AgQ, cgQ, rfl, rfl, hg, hcb⟩ := hcut
    obtain ⟨wQ, rfl⟩ : ∃ w : World, w = wc := ⟨_, rfl⟩
    have XpQ := Lib.hid (Xa2.out.below hcb)
    have PpQ := Lib.hid (Pa2.out.below hcb)
    have BpQ := Lib.hid (Ba2.out.trans (hcb.mono Ba2.out.size))
    clear Xa2 Pa2
    have QpQ := Lib.hid hg
    clear hg hcb SK D0 D1 KD
    obtain ⟨X_0, X_1, -⟩ := XpQ.out
    obtain ⟨P_0, P_1, -⟩ := PpQ.out
    obtain ⟨Q_0, Q_1, -⟩ := QpQ.out
    go_upto_region 5 with fail
    obtain ⟨V, hV⟩ : ∃ V, V = wQ := ⟨_, rfl⟩
    rw [← hV] at XpQ PpQ QpQ BpQ X_0 X_1 P_0 P_1 Q_0 Q_1 ⊢
    clear hV
    clear X_0 X_1 P_0 P_1 Q_0 Q_1
    have SK := Lib.hid (show ∀ w', Below V.heap.size V w' → w'.cell? ⟨gQ, 0, none⟩ = some (.int .i64 eB) ∧ w'.cell? ⟨gQ, 1, none⟩ = some (.slice AgQ nB cgQ) from fun w' hb => ⟨(QpQ.out.below hb).1, (QpQ.out.below hb).2.1⟩)
    have D0 := Lib.hid (show Below V.heap.size V V.drew from below_drew (Below.refl _ _))
    have D1 := Lib.hid (show Below V.heap.size V (V.drew.alloc (.cells #[.int .i64 0, .slice none 0 0] 24)) from D0.out.alloc (Nat.le_refl _) _)
    have KD := Lib.hid (show Known (V.drew.alloc (.cells #[.int .i64 0, .slice none 0 0] 24)) V.heap.size 24 #[.int .i64 0, .slice none 0 0] from Known.made V.drew _ _)
    go_cut [11, 12] (fun v u wx => ∃ g Ag cg, v = .pointer (some ⟨g, 0, none⟩) ∧ u = .int .i64 0 ∧ HM wx g (m1 + (j : Int)) Ag n0 cg l0 ∧ Below V.heap.size V wx)
    case first =>
      go_region_held3 (fun w' => w'.cell? ⟨gQ, 0, none⟩ = some (.int .i64 eB) ∧ w'.cell? ⟨gQ, 1, none⟩ = some (.slice AgQ nB cgQ)) (first | exact SK.out _ D0.out | exact SK.out _ D1.out | exact SK.out _ K2.out | exact SK.out _ K3.out | exact SK.out _ K4.out | exact SK.out _ ((K2.out.setCell (Nat.le_refl _) _).setCell (Nat.le_refl _) _) | exact SK.out _ ((K3.out.setCell S2.out _).setCell S2.out _) | go_keep)
        (first
          | (go_at_call 16; refine (all_c _ _ lB nB _ _ (ls.drop j) 0 _ V.drew LB.out (by have := NB.out; omega) (QpQ.out.below D0.out).2.2 T2.out (by omega) (S2.out _ (BpQ.out.trans (D0.out.mono BpQ.out.size))) (m1 + (j : Int)) l0 n0 0 HW.out.snd).mono ?_; rintro e w2 ⟨A2, c2, rfl, hr, hb, hf⟩; have R2 := Lib.hid hr; have K2 := Lib.hid (show Below V.heap.size V w2 from undrew_ hb); have K3 := Lib.hid (show Below V.heap.size V (w2.alloc (.cells #[.int .i64 0, .slice none 0 0] 24)) from K2.out.alloc K2.out.size _); have K4 := Lib.hid (show Below V.heap.size V (w2.alloc (.cells #[.int .i64 (m1 + (j : Int)), .slice A2 n0 c2] 24)) from K2.out.alloc K2.out.size _); have S2 := Lib.hid K2.out.size; clear hr hb hf)
          | (go_at_call 16; refine (all_c _ _ lB nB _ _ (ls.drop j) 0 _ (V.drew.alloc (.cells #[.int .i64 0, .slice none 0 0] 24)) LB.out (by have := NB.out; omega) (QpQ.out.below D1.out).2.2 T2.out (by omega) (S2.out _ (BpQ.out.trans (D1.out.mono BpQ.out.size))) (m1 + (j : Int)) l0 n0 0 HW.out.snd).mono ?_; rintro e w2 ⟨A2, c2, rfl, hr, hb, hf⟩; have R2 := Lib.hid hr; have K2 := Lib.hid (show Below V.heap.size V w2 from D1.out.trans (hb.mono D1.out.size)); have Q2 := Lib.hid (KD.out.later hb); have F2 := Lib.hid (show ∀ a, A2 = some a → a.block ≠ V.heap.size from fun a h => by have h1 := hf a h; have h2 := KD.out.lt; omega); have r0 := Q2.out.cell 0; have r1 := Q2.out.cell 1; have f0 := Q2.out.free 0; have f1 := Q2.out.free 1; clear hr hb hf))
      all_goals go_wp2_with fail
      all_goals go_meet
      · exact ⟨_, _, _, rfl, rfl, HM.new R2.out rfl, K4.out⟩
      · exact ⟨_, _, _, rfl, rfl, hm_b Q2.out R2.out F2.out, (K2.out.setCell (Nat.le_refl _) _).setCell (Nat.le_refl _) _⟩
    case rest =>
      obtain ⟨gR, AgR, cgR, rfl, rfl, hg, hcb⟩ := hcut
      obtain ⟨wR, rfl⟩ : ∃ w : World, w = wc := ⟨_, rfl⟩
      have XpR := Lib.hid (XpQ.out.below hcb)
      have PpR := Lib.hid (PpQ.out.below hcb)
      have QpR := Lib.hid (QpQ.out.below hcb)
      have BpR := Lib.hid (BpQ.out.trans (hcb.mono BpQ.out.size))
      clear XpQ PpQ QpQ
      have RpR := Lib.hid hg
      clear hg hcb SK D0 D1 KD
      obtain ⟨X_0, X_1, -⟩ := XpR.out
      obtain ⟨P_0, P_1, -⟩ := PpR.out
      obtain ⟨Q_0, Q_1, -⟩ := QpR.out
      obtain ⟨R_0, R_1, -⟩ := RpR.out
      go_wp2_with fail
      refine (same_c _ _ _ l0 n0 _ _ _ HL0.out (by have := N0.out; omega) PpR.out.2.2 RpR.out.2.2).mono ?_
      rintro e w8 ⟨rfl, hb⟩
      clear X_0 X_1 P_0 P_1 Q_0 Q_1 R_0 R_1
      have Xr8 := Lib.hid (XpR.out.below hb)
      have Pr8 := Lib.hid (PpR.out.below hb)
      have Qr8 := Lib.hid (QpR.out.below hb)
      have Rr8 := Lib.hid (RpR.out.below hb)
      have Br8 := Lib.hid (BpR.out.trans (hb.mono BpR.out.size))
      clear XpR PpR QpR RpR
      clear hb
      obtain ⟨X_0, X_1, -⟩ := Xr8.out
      obtain ⟨P_0, P_1, -⟩ := Pr8.out
      obtain ⟨Q_0, Q_1, -⟩ := Qr8.out
      obtain ⟨R_0, R_1, -⟩ := Rr8.out
      go_wp2
      go_ret
      exact ⟨rfl, Br8.out⟩
set_option maxRecDepth 100000 in
set_option maxHeartbeats 16000000 in
theorem goodk_end (m1 : Int) (A : Option Addr) (l : List Int) (n c : Nat) (b o : Nat) (ls : List Sp) (q j : Nat) (W : World) (hn : l.length = n) (hbig : n ≤ 17592186044416) (hx : Reads W A (ints l))
    (hjq : j = q) (hq : ls.length = q) (hqb : q ≤ 4398046511104) (hs : SRds W (some ⟨b, o, none⟩) ls) (eB : Int) (lB : List Int) (nB : Nat) (k : Int) (hk : k ≠ 0) (hw : Fine m1 l ls j eB lB nB 0 [] 0 k) :
    Calls Try.prog 8 #[.agg #[.int .i64 m1, .slice A n c], .slice (some ⟨b, o, none⟩) q j, .int .i64 (j : Int)] W (Law.Yes W) := by
  have HQ := Lib.hid hq
  have SA := Lib.hid (fun V (hb : Below W.heap.size W V) => hs.below hb)
  subst hjq
  have T1 := Lib.hid (show (ls.take j).length = j by rw [List.length_take, hq]; omega)
  have S1 := Lib.hid (fun V (hb : Below W.heap.size W V) => (hs.below hb).take j)
  have ed : ls.drop j = [] := List.drop_of_length_le (by omega)
  have T2 := Lib.hid (show (ls.drop j).length = 0 by rw [ed]; rfl)
  have S2 := Lib.hid (show ∀ V, Below W.heap.size W V → SRds V (some ⟨b, o, none⟩) (ls.drop j) from fun V hb => by rw [ed]; exact SRds.nil)
  have y1 : decide ((j : Int) < (j : Int)) = false := by simp
  have y2 : decide (j < j) = false := by simp
  have f1 : (0 : Int) ≤ (j : Int) := by omega
  have f2 : (j : Int) ≤ (j : Int) := by omega
  clear ed hq hs
  have X0 := Lib.hid (HM.new (e := m1) (n := n) (c := c) hx rfl)
  have B0 := Lib.hid (show Below W.heap.size W (W.alloc (.cells #[.int .i64 m1, .slice A n c] 24)) from below_alloc _ _)
  have HN := Lib.hid hn
  clear hn hx
  have yk : (k != 0) = true := by simpa using hk
  have ykk : (k == k) = true := by simp
  clear hk
  have LB := Lib.hid (show lB.length = nB from hw.fst.2.2)
  have NB := Lib.hid hw.len
  have N0 := Lib.hid hw.len0
  have HW := Lib.hid hw
  clear hw
  go_enter Try.func8, Try.ntmps8
  obtain ⟨X_0, X_1, -⟩ := X0.out
  go_wp2_with fail
  refine (alive_c _).mono ?_
  rintro e w1 ⟨rfl, hb⟩
  clear X_0 X_1
  have Xr1 := Lib.hid (X0.out.below hb)
  have Br1 := Lib.hid (B0.out.trans (hb.mono B0.out.size))
  clear X0
  clear hb
  obtain ⟨X_0, X_1, -⟩ := Xr1.out
  go_wp2_with fail
  refine (all_c _ _ l n _ _ ls j _ _ HN.out hbig Xr1.out.2.2 HQ.out hqb (SA.out _ Br1.out) 0 [] 0 k HW.out.all).mono ?_
  rintro e w2 ⟨A2, c2, rfl, hr, hb, -⟩
  clear X_0 X_1
  have Xr2 := Lib.hid (Xr1.out.below hb)
  have Br2 := Lib.hid (Br1.out.trans (hb.mono Br1.out.size))
  clear Xr1
  have Xa2 := Lib.hid (Xr2.out.alloc (.cells #[.int .i64 (0 : Int), .slice A2 0 c2] 24))
  have Ba2 := Lib.hid (Br2.out.alloc Br2.out.size (.cells #[.int .i64 (0 : Int), .slice A2 0 c2] 24))
  have Pa2 := Lib.hid (HM.new (e := (0 : Int)) (n := 0) (c := c2) hr (rfl : w2.heap.size = w2.heap.size))
  clear hr hb Xr2
  obtain ⟨X_0, X_1, -⟩ := Xa2.out
  obtain ⟨P_0, P_1, -⟩ := Pa2.out
  go_upto_region 5 with fail
  obtain ⟨V, hV⟩ : ∃ V, V = w2.alloc (.cells #[.int .i64 (0 : Int), .slice A2 0 c2] 24) := ⟨_, rfl⟩
  rw [← hV] at Xa2 Pa2 Ba2 X_0 X_1 P_0 P_1 ⊢
  clear hV
  clear X_0 X_1 P_0 P_1
  have SK := Lib.hid (show ∀ w', Below V.heap.size V w' → w'.cell? ⟨W.heap.size, 0, none⟩ = some (.int .i64 m1) ∧ w'.cell? ⟨W.heap.size, 1, none⟩ = some (.slice A n c) from fun w' hb => ⟨(Xa2.out.below hb).1, (Xa2.out.below hb).2.1⟩)
  have D0 := Lib.hid (show Below V.heap.size V V.drew from below_drew (Below.refl _ _))
  have D1 := Lib.hid (show Below V.heap.size V (V.drew.alloc (.cells #[.int .i64 0, .slice none 0 0] 24)) from D0.out.alloc (Nat.le_refl _) _)
  have KD := Lib.hid (show Known (V.drew.alloc (.cells #[.int .i64 0, .slice none 0 0] 24)) V.heap.size 24 #[.int .i64 0, .slice none 0 0] from Known.made V.drew _ _)
  go_cut [9, 10] (fun v u wx => ∃ g Ag cg, v = .pointer (some ⟨g, 0, none⟩) ∧ u = .int .i64 0 ∧ HM wx g eB Ag nB cg lB ∧ Below V.heap.size V wx)
  case first =>
    go_region_held3 (fun w' => w'.cell? ⟨W.heap.size, 0, none⟩ = some (.int .i64 m1) ∧ w'.cell? ⟨W.heap.size, 1, none⟩ = some (.slice A n c)) (first | exact SK.out _ D0.out | exact SK.out _ D1.out | exact SK.out _ K2.out | exact SK.out _ K3.out | exact SK.out _ K4.out | exact SK.out _ ((K2.out.setCell (Nat.le_refl _) _).setCell (Nat.le_refl _) _) | exact SK.out _ ((K3.out.setCell S2.out _).setCell S2.out _) | go_keep)
      (first
        | (go_at_call 16; refine (all_c _ _ l n _ _ (ls.take j) j _ V.drew HN.out hbig (Xa2.out.below D0.out).2.2 T1.out (by omega) (S1.out _ (Ba2.out.trans (D0.out.mono Ba2.out.size))) eB lB nB 0 HW.out.fst).mono ?_; rintro e w2 ⟨A2, c2, rfl, hr, hb, hf⟩; have R2 := Lib.hid hr; have K2 := Lib.hid (show Below V.heap.size V w2 from undrew_ hb); have K3 := Lib.hid (show Below V.heap.size V (w2.alloc (.cells #[.int .i64 0, .slice none 0 0] 24)) from K2.out.alloc K2.out.size _); have K4 := Lib.hid (show Below V.heap.size V (w2.alloc (.cells #[.int .i64 eB, .slice A2 nB c2] 24)) from K2.out.alloc K2.out.size _); have S2 := Lib.hid K2.out.size; clear hr hb hf)
        | (go_at_call 16; refine (all_c _ _ l n _ _ (ls.take j) j _ (V.drew.alloc (.cells #[.int .i64 0, .slice none 0 0] 24)) HN.out hbig (Xa2.out.below D1.out).2.2 T1.out (by omega) (S1.out _ (Ba2.out.trans (D1.out.mono Ba2.out.size))) eB lB nB 0 HW.out.fst).mono ?_; rintro e w2 ⟨A2, c2, rfl, hr, hb, hf⟩; have R2 := Lib.hid hr; have K2 := Lib.hid (show Below V.heap.size V w2 from D1.out.trans (hb.mono D1.out.size)); have Q2 := Lib.hid (KD.out.later hb); have F2 := Lib.hid (show ∀ a, A2 = some a → a.block ≠ V.heap.size from fun a h => by have h1 := hf a h; have h2 := KD.out.lt; omega); have r0 := Q2.out.cell 0; have r1 := Q2.out.cell 1; have f0 := Q2.out.free 0; have f1 := Q2.out.free 1; clear hr hb hf))
    all_goals go_wp2_with fail
    all_goals go_meet
    · exact ⟨_, _, _, rfl, rfl, HM.new R2.out rfl, K4.out⟩
    · exact ⟨_, _, _, rfl, rfl, hm_b Q2.out R2.out F2.out, (K2.out.setCell (Nat.le_refl _) _).setCell (Nat.le_refl _) _⟩
  case rest =>
    obtain ⟨gQ, AgQ, cgQ, rfl, rfl, hg, hcb⟩ := hcut
    obtain ⟨wQ, rfl⟩ : ∃ w : World, w = wc := ⟨_, rfl⟩
    have XpQ := Lib.hid (Xa2.out.below hcb)
    have PpQ := Lib.hid (Pa2.out.below hcb)
    have BpQ := Lib.hid (Ba2.out.trans (hcb.mono Ba2.out.size))
    clear Xa2 Pa2
    have QpQ := Lib.hid hg
    clear hg hcb SK D0 D1 KD
    obtain ⟨X_0, X_1, -⟩ := XpQ.out
    obtain ⟨P_0, P_1, -⟩ := PpQ.out
    obtain ⟨Q_0, Q_1, -⟩ := QpQ.out
    go_upto_region 5 with fail
    obtain ⟨V, hV⟩ : ∃ V, V = wQ := ⟨_, rfl⟩
    rw [← hV] at XpQ PpQ QpQ BpQ X_0 X_1 P_0 P_1 Q_0 Q_1 ⊢
    clear hV
    clear X_0 X_1 P_0 P_1 Q_0 Q_1
    have SK := Lib.hid (show ∀ w', Below V.heap.size V w' → w'.cell? ⟨gQ, 0, none⟩ = some (.int .i64 eB) ∧ w'.cell? ⟨gQ, 1, none⟩ = some (.slice AgQ nB cgQ) from fun w' hb => ⟨(QpQ.out.below hb).1, (QpQ.out.below hb).2.1⟩)
    have D0 := Lib.hid (show Below V.heap.size V V.drew from below_drew (Below.refl _ _))
    have D1 := Lib.hid (show Below V.heap.size V (V.drew.alloc (.cells #[.int .i64 0, .slice none 0 0] 24)) from D0.out.alloc (Nat.le_refl _) _)
    have KD := Lib.hid (show Known (V.drew.alloc (.cells #[.int .i64 0, .slice none 0 0] 24)) V.heap.size 24 #[.int .i64 0, .slice none 0 0] from Known.made V.drew _ _)
    go_cut [11, 12] (fun v u wx => ∃ g Ag cg, v = .pointer (some ⟨g, 0, none⟩) ∧ u = .int .i64 k ∧ HM wx g (0 : Int) Ag 0 cg [] ∧ Below V.heap.size V wx)
    case first =>
      go_region_held3 (fun w' => w'.cell? ⟨gQ, 0, none⟩ = some (.int .i64 eB) ∧ w'.cell? ⟨gQ, 1, none⟩ = some (.slice AgQ nB cgQ)) (first | exact SK.out _ D0.out | exact SK.out _ D1.out | exact SK.out _ K2.out | exact SK.out _ K3.out | exact SK.out _ K4.out | exact SK.out _ ((K2.out.setCell (Nat.le_refl _) _).setCell (Nat.le_refl _) _) | exact SK.out _ ((K3.out.setCell S2.out _).setCell S2.out _) | go_keep)
        (first
          | (go_at_call 16; refine (all_c _ _ lB nB _ _ (ls.drop j) 0 _ V.drew LB.out (by have := NB.out; omega) (QpQ.out.below D0.out).2.2 T2.out (by omega) (S2.out _ (BpQ.out.trans (D0.out.mono BpQ.out.size))) 0 [] 0 k HW.out.snd).mono ?_; rintro e w2 ⟨A2, c2, rfl, hr, hb, hf⟩; have R2 := Lib.hid hr; have K2 := Lib.hid (show Below V.heap.size V w2 from undrew_ hb); have K3 := Lib.hid (show Below V.heap.size V (w2.alloc (.cells #[.int .i64 0, .slice none 0 0] 24)) from K2.out.alloc K2.out.size _); have K4 := Lib.hid (show Below V.heap.size V (w2.alloc (.cells #[.int .i64 (0 : Int), .slice A2 0 c2] 24)) from K2.out.alloc K2.out.size _); have S2 := Lib.hid K2.out.size; clear hr hb hf)
          | (go_at_call 16; refine (all_c _ _ lB nB _ _ (ls.drop j) 0 _ (V.drew.alloc (.cells #[.int .i64 0, .slice none 0 0] 24)) LB.out (by have := NB.out; omega) (QpQ.out.below D1.out).2.2 T2.out (by omega) (S2.out _ (BpQ.out.trans (D1.out.mono BpQ.out.size))) 0 [] 0 k HW.out.snd).mono ?_; rintro e w2 ⟨A2, c2, rfl, hr, hb, hf⟩; have R2 := Lib.hid hr; have K2 := Lib.hid (show Below V.heap.size V w2 from D1.out.trans (hb.mono D1.out.size)); have Q2 := Lib.hid (KD.out.later hb); have F2 := Lib.hid (show ∀ a, A2 = some a → a.block ≠ V.heap.size from fun a h => by have h1 := hf a h; have h2 := KD.out.lt; omega); have r0 := Q2.out.cell 0; have r1 := Q2.out.cell 1; have f0 := Q2.out.free 0; have f1 := Q2.out.free 1; clear hr hb hf))
      all_goals go_wp2_with fail
      all_goals go_meet
      · exact ⟨_, _, _, rfl, rfl, HM.new R2.out rfl, K4.out⟩
      · exact ⟨_, _, _, rfl, rfl, hm_b Q2.out R2.out F2.out, (K2.out.setCell (Nat.le_refl _) _).setCell (Nat.le_refl _) _⟩
    case rest =>
      obtain ⟨gR, AgR, cgR, rfl, rfl, hg, hcb⟩ := hcut
      obtain ⟨wR, rfl⟩ : ∃ w : World, w = wc := ⟨_, rfl⟩
      have XpR := Lib.hid (XpQ.out.below hcb)
      have PpR := Lib.hid (PpQ.out.below hcb)
      have QpR := Lib.hid (QpQ.out.below hcb)
      have BpR := Lib.hid (BpQ.out.trans (hcb.mono BpQ.out.size))
      clear XpQ PpQ QpQ
      have RpR := Lib.hid hg
      clear hg hcb SK D0 D1 KD
      obtain ⟨X_0, X_1, -⟩ := XpR.out
      obtain ⟨P_0, P_1, -⟩ := PpR.out
      obtain ⟨Q_0, Q_1, -⟩ := QpR.out
      obtain ⟨R_0, R_1, -⟩ := RpR.out
      go_wp2_with fail
      refine (same_c _ _ _ [] 0 _ _ _ rfl (by have := N0.out; omega) PpR.out.2.2 RpR.out.2.2).mono ?_
      rintro e w8 ⟨rfl, hb⟩
      clear X_0 X_1 P_0 P_1 Q_0 Q_1 R_0 R_1
      have Xr8 := Lib.hid (XpR.out.below hb)
      have Pr8 := Lib.hid (PpR.out.below hb)
      have Qr8 := Lib.hid (QpR.out.below hb)
      have Rr8 := Lib.hid (RpR.out.below hb)
      have Br8 := Lib.hid (BpR.out.trans (hb.mono BpR.out.size))
      clear XpR PpR QpR RpR
      clear hb
      obtain ⟨X_0, X_1, -⟩ := Xr8.out
      obtain ⟨P_0, P_1, -⟩ := Pr8.out
      obtain ⟨Q_0, Q_1, -⟩ := Qr8.out
      obtain ⟨R_0, R_1, -⟩ := Rr8.out
      go_wp2
      go_ret
      exact ⟨rfl, Br8.out⟩
set_option maxRecDepth 100000 in
set_option maxHeartbeats 16000000 in
theorem bad_mid (m1 : Int) (A : Option Addr) (l : List Int) (n c : Nat) (b o : Nat) (ls : List Sp) (q cs j : Nat) (W : World) (hn : l.length = n) (hbig : n ≤ 17592186044416) (hx : Reads W A (ints l))
    (hjq : j ≤ q) (hqc : q ≤ cs) (hne : cs ≠ j) (hq : ls.length = q) (hqb : q ≤ 4398046511104) (hs : SRds W (some ⟨b, o, none⟩) ls) (k : Int) (hk : k ≠ 0) (hw : Bad m1 l ls j k) :
    Calls Try.prog 8 #[.agg #[.int .i64 m1, .slice A n c], .slice (some ⟨b, o, none⟩) q cs, .int .i64 (j : Int)] W (Law.Yes W) := by
  have HQ := Lib.hid hq
  have SA := Lib.hid (fun V (hb : Below W.heap.size W V) => hs.below hb)
  have T1 := Lib.hid (show (ls.take j).length = j by rw [List.length_take, hq]; omega)
  have S1 := Lib.hid (fun V (hb : Below W.heap.size W V) => (hs.below hb).take j)
  have T2 := Lib.hid (show (ls.drop j).length = q - j by rw [List.length_drop, hq])
  have S2 := Lib.hid (fun V (hb : Below W.heap.size W V) => (hs.below hb).drop j)
  have y1 : decide ((q : Int) < (j : Int)) = false := by simp; omega
  have y2 : decide (q < j) = false := by simp; omega
  have f1 : (0 : Int) ≤ (j : Int) := by omega
  have f2 : (j : Int) ≤ (q : Int) := by omega
  have f3 : (j : Int) ≤ (cs : Int) := by omega
  have f4 : (q : Int) ≤ (cs : Int) := by omega
  have f5 : (cs = j) = False := eq_false hne
  clear hne hq hs hjq hqc
  have X0 := Lib.hid (HM.new (e := m1) (n := n) (c := c) hx rfl)
  have B0 := Lib.hid (show Below W.heap.size W (W.alloc (.cells #[.int .i64 m1, .slice A n c] 24)) from below_alloc _ _)
  have HN := Lib.hid hn
  clear hn hx
  have yk : (k != 0) = true := by simpa using hk
  have ykk : (k == k) = true := by simp
  clear hk
  have HW := Lib.hid hw
  clear hw
  go_enter Try.func8, Try.ntmps8
  obtain ⟨X_0, X_1, -⟩ := X0.out
  go_wp2_with fail
  refine (alive_c _).mono ?_
  rintro e w1 ⟨rfl, hb⟩
  clear X_0 X_1
  have Xr1 := Lib.hid (X0.out.below hb)
  have Br1 := Lib.hid (B0.out.trans (hb.mono B0.out.size))
  clear X0
  clear hb
  obtain ⟨X_0, X_1, -⟩ := Xr1.out
  go_wp2_with fail
  refine (all_c _ _ l n _ _ ls q _ _ HN.out hbig Xr1.out.2.2 HQ.out hqb (SA.out _ Br1.out) 0 [] 0 k HW.out.all).mono ?_
  rintro e w2 ⟨A2, c2, rfl, hr, hb, -⟩
  clear X_0 X_1
  have Xr2 := Lib.hid (Xr1.out.below hb)
  have Br2 := Lib.hid (Br1.out.trans (hb.mono Br1.out.size))
  clear Xr1
  have Xa2 := Lib.hid (Xr2.out.alloc (.cells #[.int .i64 (0 : Int), .slice A2 0 c2] 24))
  have Ba2 := Lib.hid (Br2.out.alloc Br2.out.size (.cells #[.int .i64 (0 : Int), .slice A2 0 c2] 24))
  have Pa2 := Lib.hid (HM.new (e := (0 : Int)) (n := 0) (c := c2) hr (rfl : w2.heap.size = w2.heap.size))
  clear hr hb Xr2
  obtain ⟨X_0, X_1, -⟩ := Xa2.out
  obtain ⟨P_0, P_1, -⟩ := Pa2.out
  go_upto_region 5 with fail
  obtain ⟨V, hV⟩ : ∃ V, V = w2.alloc (.cells #[.int .i64 (0 : Int), .slice A2 0 c2] 24) := ⟨_, rfl⟩
  rw [← hV] at Xa2 Pa2 Ba2 X_0 X_1 P_0 P_1 ⊢
  clear hV
  clear X_0 X_1 P_0 P_1
  have SK := Lib.hid (show ∀ w', Below V.heap.size V w' → w'.cell? ⟨W.heap.size, 0, none⟩ = some (.int .i64 m1) ∧ w'.cell? ⟨W.heap.size, 1, none⟩ = some (.slice A n c) from fun w' hb => ⟨(Xa2.out.below hb).1, (Xa2.out.below hb).2.1⟩)
  have D0 := Lib.hid (show Below V.heap.size V V.drew from below_drew (Below.refl _ _))
  have D1 := Lib.hid (show Below V.heap.size V (V.drew.alloc (.cells #[.int .i64 0, .slice none 0 0] 24)) from D0.out.alloc (Nat.le_refl _) _)
  have KD := Lib.hid (show Known (V.drew.alloc (.cells #[.int .i64 0, .slice none 0 0] 24)) V.heap.size 24 #[.int .i64 0, .slice none 0 0] from Known.made V.drew _ _)
  go_cut [9, 10] (fun v u wx => ∃ g Ag cg, v = .pointer (some ⟨g, 0, none⟩) ∧ u = .int .i64 k ∧ HM wx g (0 : Int) Ag 0 cg [] ∧ Below V.heap.size V wx)
  case first =>
    go_region_held3 (fun w' => w'.cell? ⟨W.heap.size, 0, none⟩ = some (.int .i64 m1) ∧ w'.cell? ⟨W.heap.size, 1, none⟩ = some (.slice A n c)) (first | exact SK.out _ D0.out | exact SK.out _ D1.out | exact SK.out _ K2.out | exact SK.out _ K3.out | exact SK.out _ K4.out | exact SK.out _ ((K2.out.setCell (Nat.le_refl _) _).setCell (Nat.le_refl _) _) | exact SK.out _ ((K3.out.setCell S2.out _).setCell S2.out _) | go_keep)
      (first
        | (go_at_call 16; refine (all_c _ _ l n _ _ (ls.take j) j _ V.drew HN.out hbig (Xa2.out.below D0.out).2.2 T1.out (by omega) (S1.out _ (Ba2.out.trans (D0.out.mono Ba2.out.size))) 0 [] 0 k HW.out.fst).mono ?_; rintro e w2 ⟨A2, c2, rfl, hr, hb, hf⟩; have R2 := Lib.hid hr; have K2 := Lib.hid (show Below V.heap.size V w2 from undrew_ hb); have K3 := Lib.hid (show Below V.heap.size V (w2.alloc (.cells #[.int .i64 0, .slice none 0 0] 24)) from K2.out.alloc K2.out.size _); have K4 := Lib.hid (show Below V.heap.size V (w2.alloc (.cells #[.int .i64 (0 : Int), .slice A2 0 c2] 24)) from K2.out.alloc K2.out.size _); have S2 := Lib.hid K2.out.size; clear hr hb hf)
        | (go_at_call 16; refine (all_c _ _ l n _ _ (ls.take j) j _ (V.drew.alloc (.cells #[.int .i64 0, .slice none 0 0] 24)) HN.out hbig (Xa2.out.below D1.out).2.2 T1.out (by omega) (S1.out _ (Ba2.out.trans (D1.out.mono Ba2.out.size))) 0 [] 0 k HW.out.fst).mono ?_; rintro e w2 ⟨A2, c2, rfl, hr, hb, hf⟩; have R2 := Lib.hid hr; have K2 := Lib.hid (show Below V.heap.size V w2 from D1.out.trans (hb.mono D1.out.size)); have Q2 := Lib.hid (KD.out.later hb); have F2 := Lib.hid (show ∀ a, A2 = some a → a.block ≠ V.heap.size from fun a h => by have h1 := hf a h; have h2 := KD.out.lt; omega); have r0 := Q2.out.cell 0; have r1 := Q2.out.cell 1; have f0 := Q2.out.free 0; have f1 := Q2.out.free 1; clear hr hb hf))
    all_goals go_wp2_with fail
    all_goals go_meet
    · exact ⟨_, _, _, rfl, rfl, HM.new R2.out rfl, K4.out⟩
    · exact ⟨_, _, _, rfl, rfl, hm_b Q2.out R2.out F2.out, (K2.out.setCell (Nat.le_refl _) _).setCell (Nat.le_refl _) _⟩
  case rest =>
    obtain ⟨gQ, AgQ, cgQ, rfl, rfl, hg, hcb⟩ := hcut
    obtain ⟨wQ, rfl⟩ : ∃ w : World, w = wc := ⟨_, rfl⟩
    have XpQ := Lib.hid (Xa2.out.below hcb)
    have PpQ := Lib.hid (Pa2.out.below hcb)
    have BpQ := Lib.hid (Ba2.out.trans (hcb.mono Ba2.out.size))
    clear Xa2 Pa2
    have QpQ := Lib.hid hg
    clear hg hcb SK D0 D1 KD
    obtain ⟨X_0, X_1, -⟩ := XpQ.out
    obtain ⟨P_0, P_1, -⟩ := PpQ.out
    obtain ⟨Q_0, Q_1, -⟩ := QpQ.out
    go_wp2
    go_ret
    exact ⟨rfl, BpQ.out⟩
set_option maxRecDepth 100000 in
set_option maxHeartbeats 16000000 in
theorem good0_mid (m1 : Int) (A : Option Addr) (l : List Int) (n c : Nat) (b o : Nat) (ls : List Sp) (q cs j : Nat) (W : World) (hn : l.length = n) (hbig : n ≤ 17592186044416) (hx : Reads W A (ints l))
    (hjq : j ≤ q) (hqc : q ≤ cs) (hne : cs ≠ j) (hq : ls.length = q) (hqb : q ≤ 4398046511104) (hs : SRds W (some ⟨b, o, none⟩) ls) (eB : Int) (lB : List Int) (nB : Nat) (l0 : List Int) (n0 : Nat) (hw : Fine m1 l ls j eB lB nB (m1 + (q : Int)) l0 n0 0) (hl0 : l0.length = n0) (h1 : -9223372036854775808 ≤ (m1 + (q : Int))) (h2 : (m1 + (q : Int)) ≤ 9223372036854775807) :
    Calls Try.prog 8 #[.agg #[.int .i64 m1, .slice A n c], .slice (some ⟨b, o, none⟩) q cs, .int .i64 (j : Int)] W (Law.Yes W) := by
  have HQ := Lib.hid hq
  have SA := Lib.hid (fun V (hb : Below W.heap.size W V) => hs.below hb)
  have T1 := Lib.hid (show (ls.take j).length = j by rw [List.length_take, hq]; omega)
  have S1 := Lib.hid (fun V (hb : Below W.heap.size W V) => (hs.below hb).take j)
  have T2 := Lib.hid (show (ls.drop j).length = q - j by rw [List.length_drop, hq])
  have S2 := Lib.hid (fun V (hb : Below W.heap.size W V) => (hs.below hb).drop j)
  have y1 : decide ((q : Int) < (j : Int)) = false := by simp; omega
  have y2 : decide (q < j) = false := by simp; omega
  have f1 : (0 : Int) ≤ (j : Int) := by omega
  have f2 : (j : Int) ≤ (q : Int) := by omega
  have f3 : (j : Int) ≤ (cs : Int) := by omega
  have f4 : (q : Int) ≤ (cs : Int) := by omega
  have f5 : (cs = j) = False := eq_false hne
  clear hne hq hs hjq hqc
  have X0 := Lib.hid (HM.new (e := m1) (n := n) (c := c) hx rfl)
  have B0 := Lib.hid (show Below W.heap.size W (W.alloc (.cells #[.int .i64 m1, .slice A n c] 24)) from below_alloc _ _)
  have HN := Lib.hid hn
  clear hn hx
  have wq : IntKind.i64.wrap (m1 + (q : Int)) = (m1 + (q : Int)) := IntWalk.i64_in _ (by omega)
  have yq : ((m1 + (q : Int)) == (m1 + (q : Int))) = true := by simp
  have HL0 := Lib.hid hl0
  clear h1 h2 hl0
  have LB := Lib.hid (show lB.length = nB from hw.fst.2.2)
  have NB := Lib.hid hw.len
  have N0 := Lib.hid hw.len0
  have HW := Lib.hid hw
  clear hw
  go_enter Try.func8, Try.ntmps8
  obtain ⟨X_0, X_1, -⟩ := X0.out
  go_wp2_with fail
  refine (alive_c _).mono ?_
  rintro e w1 ⟨rfl, hb⟩
  clear X_0 X_1
  have Xr1 := Lib.hid (X0.out.below hb)
  have Br1 := Lib.hid (B0.out.trans (hb.mono B0.out.size))
  clear X0
  clear hb
  obtain ⟨X_0, X_1, -⟩ := Xr1.out
  go_wp2_with fail
  refine (all_c _ _ l n _ _ ls q _ _ HN.out hbig Xr1.out.2.2 HQ.out hqb (SA.out _ Br1.out) (m1 + (q : Int)) l0 n0 0 HW.out.all).mono ?_
  rintro e w2 ⟨A2, c2, rfl, hr, hb, -⟩
  clear X_0 X_1
  have Xr2 := Lib.hid (Xr1.out.below hb)
  have Br2 := Lib.hid (Br1.out.trans (hb.mono Br1.out.size))
  clear Xr1
  have Xa2 := Lib.hid (Xr2.out.alloc (.cells #[.int .i64 (m1 + (q : Int)), .slice A2 n0 c2] 24))
  have Ba2 := Lib.hid (Br2.out.alloc Br2.out.size (.cells #[.int .i64 (m1 + (q : Int)), .slice A2 n0 c2] 24))
  have Pa2 := Lib.hid (HM.new (e := (m1 + (q : Int))) (n := n0) (c := c2) hr (rfl : w2.heap.size = w2.heap.size))
  clear hr hb Xr2
  obtain ⟨X_0, X_1, -⟩ := Xa2.out
  obtain ⟨P_0, P_1, -⟩ := Pa2.out
  go_upto_region 5 with fail
  obtain ⟨V, hV⟩ : ∃ V, V = w2.alloc (.cells #[.int .i64 (m1 + (q : Int)), .slice A2 n0 c2] 24) := ⟨_, rfl⟩
  rw [← hV] at Xa2 Pa2 Ba2 X_0 X_1 P_0 P_1 ⊢
  clear hV
  clear X_0 X_1 P_0 P_1
  have SK := Lib.hid (show ∀ w', Below V.heap.size V w' → w'.cell? ⟨W.heap.size, 0, none⟩ = some (.int .i64 m1) ∧ w'.cell? ⟨W.heap.size, 1, none⟩ = some (.slice A n c) from fun w' hb => ⟨(Xa2.out.below hb).1, (Xa2.out.below hb).2.1⟩)
  have D0 := Lib.hid (show Below V.heap.size V V.drew from below_drew (Below.refl _ _))
  have D1 := Lib.hid (show Below V.heap.size V (V.drew.alloc (.cells #[.int .i64 0, .slice none 0 0] 24)) from D0.out.alloc (Nat.le_refl _) _)
  have KD := Lib.hid (show Known (V.drew.alloc (.cells #[.int .i64 0, .slice none 0 0] 24)) V.heap.size 24 #[.int .i64 0, .slice none 0 0] from Known.made V.drew _ _)
  go_cut [9, 10] (fun v u wx => ∃ g Ag cg, v = .pointer (some ⟨g, 0, none⟩) ∧ u = .int .i64 0 ∧ HM wx g eB Ag nB cg lB ∧ Below V.heap.size V wx)
  case first =>
    go_region_held3 (fun w' => w'.cell? ⟨W.heap.size, 0, none⟩ = some (.int .i64 m1) ∧ w'.cell? ⟨W.heap.size, 1, none⟩ = some (.slice A n c)) (first | exact SK.out _ D0.out | exact SK.out _ D1.out | exact SK.out _ K2.out | exact SK.out _ K3.out | exact SK.out _ K4.out | exact SK.out _ ((K2.out.setCell (Nat.le_refl _) _).setCell (Nat.le_refl _) _) | exact SK.out _ ((K3.out.setCell S2.out _).setCell S2.out _) | go_keep)
      (first
        | (go_at_call 16; refine (all_c _ _ l n _ _ (ls.take j) j _ V.drew HN.out hbig (Xa2.out.below D0.out).2.2 T1.out (by omega) (S1.out _ (Ba2.out.trans (D0.out.mono Ba2.out.size))) eB lB nB 0 HW.out.fst).mono ?_; rintro e w2 ⟨A2, c2, rfl, hr, hb, hf⟩; have R2 := Lib.hid hr; have K2 := Lib.hid (show Below V.heap.size V w2 from undrew_ hb); have K3 := Lib.hid (show Below V.heap.size V (w2.alloc (.cells #[.int .i64 0, .slice none 0 0] 24)) from K2.out.alloc K2.out.size _); have K4 := Lib.hid (show Below V.heap.size V (w2.alloc (.cells #[.int .i64 eB, .slice A2 nB c2] 24)) from K2.out.alloc K2.out.size _); have S2 := Lib.hid K2.out.size; clear hr hb hf)
        | (go_at_call 16; refine (all_c _ _ l n _ _ (ls.take j) j _ (V.drew.alloc (.cells #[.int .i64 0, .slice none 0 0] 24)) HN.out hbig (Xa2.out.below D1.out).2.2 T1.out (by omega) (S1.out _ (Ba2.out.trans (D1.out.mono Ba2.out.size))) eB lB nB 0 HW.out.fst).mono ?_; rintro e w2 ⟨A2, c2, rfl, hr, hb, hf⟩; have R2 := Lib.hid hr; have K2 := Lib.hid (show Below V.heap.size V w2 from D1.out.trans (hb.mono D1.out.size)); have Q2 := Lib.hid (KD.out.later hb); have F2 := Lib.hid (show ∀ a, A2 = some a → a.block ≠ V.heap.size from fun a h => by have h1 := hf a h; have h2 := KD.out.lt; omega); have r0 := Q2.out.cell 0; have r1 := Q2.out.cell 1; have f0 := Q2.out.free 0; have f1 := Q2.out.free 1; clear hr hb hf))
    all_goals go_wp2_with fail
    all_goals go_meet
    · exact ⟨_, _, _, rfl, rfl, HM.new R2.out rfl, K4.out⟩
    · exact ⟨_, _, _, rfl, rfl, hm_b Q2.out R2.out F2.out, (K2.out.setCell (Nat.le_refl _) _).setCell (Nat.le_refl _) _⟩
  case rest =>
    obtain ⟨gQ, AgQ, cgQ, rfl, rfl, hg, hcb⟩ := hcut
    obtain ⟨wQ, rfl⟩ : ∃ w : World, w = wc := ⟨_, rfl⟩
    have XpQ := Lib.hid (Xa2.out.below hcb)
    have PpQ := Lib.hid (Pa2.out.below hcb)
    have BpQ := Lib.hid (Ba2.out.trans (hcb.mono Ba2.out.size))
    clear Xa2 Pa2
    have QpQ := Lib.hid hg
    clear hg hcb SK D0 D1 KD
    obtain ⟨X_0, X_1, -⟩ := XpQ.out
    obtain ⟨P_0, P_1, -⟩ := PpQ.out
    obtain ⟨Q_0, Q_1, -⟩ := QpQ.out
    go_upto_region 5 with fail
    obtain ⟨V, hV⟩ : ∃ V, V = wQ := ⟨_, rfl⟩
    rw [← hV] at XpQ PpQ QpQ BpQ X_0 X_1 P_0 P_1 Q_0 Q_1 ⊢
    clear hV
    clear X_0 X_1 P_0 P_1 Q_0 Q_1
    have SK := Lib.hid (show ∀ w', Below V.heap.size V w' → w'.cell? ⟨gQ, 0, none⟩ = some (.int .i64 eB) ∧ w'.cell? ⟨gQ, 1, none⟩ = some (.slice AgQ nB cgQ) from fun w' hb => ⟨(QpQ.out.below hb).1, (QpQ.out.below hb).2.1⟩)
    have D0 := Lib.hid (show Below V.heap.size V V.drew from below_drew (Below.refl _ _))
    have D1 := Lib.hid (show Below V.heap.size V (V.drew.alloc (.cells #[.int .i64 0, .slice none 0 0] 24)) from D0.out.alloc (Nat.le_refl _) _)
    have KD := Lib.hid (show Known (V.drew.alloc (.cells #[.int .i64 0, .slice none 0 0] 24)) V.heap.size 24 #[.int .i64 0, .slice none 0 0] from Known.made V.drew _ _)
    go_cut [11, 12] (fun v u wx => ∃ g Ag cg, v = .pointer (some ⟨g, 0, none⟩) ∧ u = .int .i64 0 ∧ HM wx g (m1 + (q : Int)) Ag n0 cg l0 ∧ Below V.heap.size V wx)
    case first =>
      go_region_held3 (fun w' => w'.cell? ⟨gQ, 0, none⟩ = some (.int .i64 eB) ∧ w'.cell? ⟨gQ, 1, none⟩ = some (.slice AgQ nB cgQ)) (first | exact SK.out _ D0.out | exact SK.out _ D1.out | exact SK.out _ K2.out | exact SK.out _ K3.out | exact SK.out _ K4.out | exact SK.out _ ((K2.out.setCell (Nat.le_refl _) _).setCell (Nat.le_refl _) _) | exact SK.out _ ((K3.out.setCell S2.out _).setCell S2.out _) | go_keep)
        (first
          | (go_at_call 16; refine (all_c _ _ lB nB _ _ (ls.drop j) (q - j) _ V.drew LB.out (by have := NB.out; omega) (QpQ.out.below D0.out).2.2 T2.out (by omega) (S2.out _ (BpQ.out.trans (D0.out.mono BpQ.out.size))) (m1 + (q : Int)) l0 n0 0 HW.out.snd).mono ?_; rintro e w2 ⟨A2, c2, rfl, hr, hb, hf⟩; have R2 := Lib.hid hr; have K2 := Lib.hid (show Below V.heap.size V w2 from undrew_ hb); have K3 := Lib.hid (show Below V.heap.size V (w2.alloc (.cells #[.int .i64 0, .slice none 0 0] 24)) from K2.out.alloc K2.out.size _); have K4 := Lib.hid (show Below V.heap.size V (w2.alloc (.cells #[.int .i64 (m1 + (q : Int)), .slice A2 n0 c2] 24)) from K2.out.alloc K2.out.size _); have S2 := Lib.hid K2.out.size; clear hr hb hf)
          | (go_at_call 16; refine (all_c _ _ lB nB _ _ (ls.drop j) (q - j) _ (V.drew.alloc (.cells #[.int .i64 0, .slice none 0 0] 24)) LB.out (by have := NB.out; omega) (QpQ.out.below D1.out).2.2 T2.out (by omega) (S2.out _ (BpQ.out.trans (D1.out.mono BpQ.out.size))) (m1 + (q : Int)) l0 n0 0 HW.out.snd).mono ?_; rintro e w2 ⟨A2, c2, rfl, hr, hb, hf⟩; have R2 := Lib.hid hr; have K2 := Lib.hid (show Below V.heap.size V w2 from D1.out.trans (hb.mono D1.out.size)); have Q2 := Lib.hid (KD.out.later hb); have F2 := Lib.hid (show ∀ a, A2 = some a → a.block ≠ V.heap.size from fun a h => by have h1 := hf a h; have h2 := KD.out.lt; omega); have r0 := Q2.out.cell 0; have r1 := Q2.out.cell 1; have f0 := Q2.out.free 0; have f1 := Q2.out.free 1; clear hr hb hf))
      all_goals go_wp2_with fail
      all_goals go_meet
      · exact ⟨_, _, _, rfl, rfl, HM.new R2.out rfl, K4.out⟩
      · exact ⟨_, _, _, rfl, rfl, hm_b Q2.out R2.out F2.out, (K2.out.setCell (Nat.le_refl _) _).setCell (Nat.le_refl _) _⟩
    case rest =>
      obtain ⟨gR, AgR, cgR, rfl, rfl, hg, hcb⟩ := hcut
      obtain ⟨wR, rfl⟩ : ∃ w : World, w = wc := ⟨_, rfl⟩
      have XpR := Lib.hid (XpQ.out.below hcb)
      have PpR := Lib.hid (PpQ.out.below hcb)
      have QpR := Lib.hid (QpQ.out.below hcb)
      have BpR := Lib.hid (BpQ.out.trans (hcb.mono BpQ.out.size))
      clear XpQ PpQ QpQ
      have RpR := Lib.hid hg
      clear hg hcb SK D0 D1 KD
      obtain ⟨X_0, X_1, -⟩ := XpR.out
      obtain ⟨P_0, P_1, -⟩ := PpR.out
      obtain ⟨Q_0, Q_1, -⟩ := QpR.out
      obtain ⟨R_0, R_1, -⟩ := RpR.out
      go_wp2_with fail
      refine (same_c _ _ _ l0 n0 _ _ _ HL0.out (by have := N0.out; omega) PpR.out.2.2 RpR.out.2.2).mono ?_
      rintro e w8 ⟨rfl, hb⟩
      clear X_0 X_1 P_0 P_1 Q_0 Q_1 R_0 R_1
      have Xr8 := Lib.hid (XpR.out.below hb)
      have Pr8 := Lib.hid (PpR.out.below hb)
      have Qr8 := Lib.hid (QpR.out.below hb)
      have Rr8 := Lib.hid (RpR.out.below hb)
      have Br8 := Lib.hid (BpR.out.trans (hb.mono BpR.out.size))
      clear XpR PpR QpR RpR
      clear hb
      obtain ⟨X_0, X_1, -⟩ := Xr8.out
      obtain ⟨P_0, P_1, -⟩ := Pr8.out
      obtain ⟨Q_0, Q_1, -⟩ := Qr8.out
      obtain ⟨R_0, R_1, -⟩ := Rr8.out
      go_wp2
      go_ret
      exact ⟨rfl, Br8.out⟩
set_option maxRecDepth 100000 in
set_option maxHeartbeats 16000000 in
theorem goodk_mid (m1 : Int) (A : Option Addr) (l : List Int) (n c : Nat) (b o : Nat) (ls : List Sp) (q cs j : Nat) (W : World) (hn : l.length = n) (hbig : n ≤ 17592186044416) (hx : Reads W A (ints l))
    (hjq : j ≤ q) (hqc : q ≤ cs) (hne : cs ≠ j) (hq : ls.length = q) (hqb : q ≤ 4398046511104) (hs : SRds W (some ⟨b, o, none⟩) ls) (eB : Int) (lB : List Int) (nB : Nat) (k : Int) (hk : k ≠ 0) (hw : Fine m1 l ls j eB lB nB 0 [] 0 k) :
    Calls Try.prog 8 #[.agg #[.int .i64 m1, .slice A n c], .slice (some ⟨b, o, none⟩) q cs, .int .i64 (j : Int)] W (Law.Yes W) := by
  have HQ := Lib.hid hq
  have SA := Lib.hid (fun V (hb : Below W.heap.size W V) => hs.below hb)
  have T1 := Lib.hid (show (ls.take j).length = j by rw [List.length_take, hq]; omega)
  have S1 := Lib.hid (fun V (hb : Below W.heap.size W V) => (hs.below hb).take j)
  have T2 := Lib.hid (show (ls.drop j).length = q - j by rw [List.length_drop, hq])
  have S2 := Lib.hid (fun V (hb : Below W.heap.size W V) => (hs.below hb).drop j)
  have y1 : decide ((q : Int) < (j : Int)) = false := by simp; omega
  have y2 : decide (q < j) = false := by simp; omega
  have f1 : (0 : Int) ≤ (j : Int) := by omega
  have f2 : (j : Int) ≤ (q : Int) := by omega
  have f3 : (j : Int) ≤ (cs : Int) := by omega
  have f4 : (q : Int) ≤ (cs : Int) := by omega
  have f5 : (cs = j) = False := eq_false hne
  clear hne hq hs hjq hqc
  have X0 := Lib.hid (HM.new (e := m1) (n := n) (c := c) hx rfl)
  have B0 := Lib.hid (show Below W.heap.size W (W.alloc (.cells #[.int .i64 m1, .slice A n c] 24)) from below_alloc _ _)
  have HN := Lib.hid hn
  clear hn hx
  have yk : (k != 0) = true := by simpa using hk
  have ykk : (k == k) = true := by simp
  clear hk
  have LB := Lib.hid (show lB.length = nB from hw.fst.2.2)
  have NB := Lib.hid hw.len
  have N0 := Lib.hid hw.len0
  have HW := Lib.hid hw
  clear hw
  go_enter Try.func8, Try.ntmps8
  obtain ⟨X_0, X_1, -⟩ := X0.out
  go_wp2_with fail
  refine (alive_c _).mono ?_
  rintro e w1 ⟨rfl, hb⟩
  clear X_0 X_1
  have Xr1 := Lib.hid (X0.out.below hb)
  have Br1 := Lib.hid (B0.out.trans (hb.mono B0.out.size))
  clear X0
  clear hb
  obtain ⟨X_0, X_1, -⟩ := Xr1.out
  go_wp2_with fail
  refine (all_c _ _ l n _ _ ls q _ _ HN.out hbig Xr1.out.2.2 HQ.out hqb (SA.out _ Br1.out) 0 [] 0 k HW.out.all).mono ?_
  rintro e w2 ⟨A2, c2, rfl, hr, hb, -⟩
  clear X_0 X_1
  have Xr2 := Lib.hid (Xr1.out.below hb)
  have Br2 := Lib.hid (Br1.out.trans (hb.mono Br1.out.size))
  clear Xr1
  have Xa2 := Lib.hid (Xr2.out.alloc (.cells #[.int .i64 (0 : Int), .slice A2 0 c2] 24))
  have Ba2 := Lib.hid (Br2.out.alloc Br2.out.size (.cells #[.int .i64 (0 : Int), .slice A2 0 c2] 24))
  have Pa2 := Lib.hid (HM.new (e := (0 : Int)) (n := 0) (c := c2) hr (rfl : w2.heap.size = w2.heap.size))
  clear hr hb Xr2
  obtain ⟨X_0, X_1, -⟩ := Xa2.out
  obtain ⟨P_0, P_1, -⟩ := Pa2.out
  go_upto_region 5 with fail
  obtain ⟨V, hV⟩ : ∃ V, V = w2.alloc (.cells #[.int .i64 (0 : Int), .slice A2 0 c2] 24) := ⟨_, rfl⟩
  rw [← hV] at Xa2 Pa2 Ba2 X_0 X_1 P_0 P_1 ⊢
  clear hV
  clear X_0 X_1 P_0 P_1
  have SK := Lib.hid (show ∀ w', Below V.heap.size V w' → w'.cell? ⟨W.heap.size, 0, none⟩ = some (.int .i64 m1) ∧ w'.cell? ⟨W.heap.size, 1, none⟩ = some (.slice A n c) from fun w' hb => ⟨(Xa2.out.below hb).1, (Xa2.out.below hb).2.1⟩)
  have D0 := Lib.hid (show Below V.heap.size V V.drew from below_drew (Below.refl _ _))
  have D1 := Lib.hid (show Below V.heap.size V (V.drew.alloc (.cells #[.int .i64 0, .slice none 0 0] 24)) from D0.out.alloc (Nat.le_refl _) _)
  have KD := Lib.hid (show Known (V.drew.alloc (.cells #[.int .i64 0, .slice none 0 0] 24)) V.heap.size 24 #[.int .i64 0, .slice none 0 0] from Known.made V.drew _ _)
  go_cut [9, 10] (fun v u wx => ∃ g Ag cg, v = .pointer (some ⟨g, 0, none⟩) ∧ u = .int .i64 0 ∧ HM wx g eB Ag nB cg lB ∧ Below V.heap.size V wx)
  case first =>
    go_region_held3 (fun w' => w'.cell? ⟨W.heap.size, 0, none⟩ = some (.int .i64 m1) ∧ w'.cell? ⟨W.heap.size, 1, none⟩ = some (.slice A n c)) (first | exact SK.out _ D0.out | exact SK.out _ D1.out | exact SK.out _ K2.out | exact SK.out _ K3.out | exact SK.out _ K4.out | exact SK.out _ ((K2.out.setCell (Nat.le_refl _) _).setCell (Nat.le_refl _) _) | exact SK.out _ ((K3.out.setCell S2.out _).setCell S2.out _) | go_keep)
      (first
        | (go_at_call 16; refine (all_c _ _ l n _ _ (ls.take j) j _ V.drew HN.out hbig (Xa2.out.below D0.out).2.2 T1.out (by omega) (S1.out _ (Ba2.out.trans (D0.out.mono Ba2.out.size))) eB lB nB 0 HW.out.fst).mono ?_; rintro e w2 ⟨A2, c2, rfl, hr, hb, hf⟩; have R2 := Lib.hid hr; have K2 := Lib.hid (show Below V.heap.size V w2 from undrew_ hb); have K3 := Lib.hid (show Below V.heap.size V (w2.alloc (.cells #[.int .i64 0, .slice none 0 0] 24)) from K2.out.alloc K2.out.size _); have K4 := Lib.hid (show Below V.heap.size V (w2.alloc (.cells #[.int .i64 eB, .slice A2 nB c2] 24)) from K2.out.alloc K2.out.size _); have S2 := Lib.hid K2.out.size; clear hr hb hf)
        | (go_at_call 16; refine (all_c _ _ l n _ _ (ls.take j) j _ (V.drew.alloc (.cells #[.int .i64 0, .slice none 0 0] 24)) HN.out hbig (Xa2.out.below D1.out).2.2 T1.out (by omega) (S1.out _ (Ba2.out.trans (D1.out.mono Ba2.out.size))) eB lB nB 0 HW.out.fst).mono ?_; rintro e w2 ⟨A2, c2, rfl, hr, hb, hf⟩; have R2 := Lib.hid hr; have K2 := Lib.hid (show Below V.heap.size V w2 from D1.out.trans (hb.mono D1.out.size)); have Q2 := Lib.hid (KD.out.later hb); have F2 := Lib.hid (show ∀ a, A2 = some a → a.block ≠ V.heap.size from fun a h => by have h1 := hf a h; have h2 := KD.out.lt; omega); have r0 := Q2.out.cell 0; have r1 := Q2.out.cell 1; have f0 := Q2.out.free 0; have f1 := Q2.out.free 1; clear hr hb hf))
    all_goals go_wp2_with fail
    all_goals go_meet
    · exact ⟨_, _, _, rfl, rfl, HM.new R2.out rfl, K4.out⟩
    · exact ⟨_, _, _, rfl, rfl, hm_b Q2.out R2.out F2.out, (K2.out.setCell (Nat.le_refl _) _).setCell (Nat.le_refl _) _⟩
  case rest =>
    obtain ⟨gQ, AgQ, cgQ, rfl, rfl, hg, hcb⟩ := hcut
    obtain ⟨wQ, rfl⟩ : ∃ w : World, w = wc := ⟨_, rfl⟩
    have XpQ := Lib.hid (Xa2.out.below hcb)
    have PpQ := Lib.hid (Pa2.out.below hcb)
    have BpQ := Lib.hid (Ba2.out.trans (hcb.mono Ba2.out.size))
    clear Xa2 Pa2
    have QpQ := Lib.hid hg
    clear hg hcb SK D0 D1 KD
    obtain ⟨X_0, X_1, -⟩ := XpQ.out
    obtain ⟨P_0, P_1, -⟩ := PpQ.out
    obtain ⟨Q_0, Q_1, -⟩ := QpQ.out
    go_upto_region 5 with fail
    obtain ⟨V, hV⟩ : ∃ V, V = wQ := ⟨_, rfl⟩
    rw [← hV] at XpQ PpQ QpQ BpQ X_0 X_1 P_0 P_1 Q_0 Q_1 ⊢
    clear hV
    clear X_0 X_1 P_0 P_1 Q_0 Q_1
    have SK := Lib.hid (show ∀ w', Below V.heap.size V w' → w'.cell? ⟨gQ, 0, none⟩ = some (.int .i64 eB) ∧ w'.cell? ⟨gQ, 1, none⟩ = some (.slice AgQ nB cgQ) from fun w' hb => ⟨(QpQ.out.below hb).1, (QpQ.out.below hb).2.1⟩)
    have D0 := Lib.hid (show Below V.heap.size V V.drew from below_drew (Below.refl _ _))
    have D1 := Lib.hid (show Below V.heap.size V (V.drew.alloc (.cells #[.int .i64 0, .slice none 0 0] 24)) from D0.out.alloc (Nat.le_refl _) _)
    have KD := Lib.hid (show Known (V.drew.alloc (.cells #[.int .i64 0, .slice none 0 0] 24)) V.heap.size 24 #[.int .i64 0, .slice none 0 0] from Known.made V.drew _ _)
    go_cut [11, 12] (fun v u wx => ∃ g Ag cg, v = .pointer (some ⟨g, 0, none⟩) ∧ u = .int .i64 k ∧ HM wx g (0 : Int) Ag 0 cg [] ∧ Below V.heap.size V wx)
    case first =>
      go_region_held3 (fun w' => w'.cell? ⟨gQ, 0, none⟩ = some (.int .i64 eB) ∧ w'.cell? ⟨gQ, 1, none⟩ = some (.slice AgQ nB cgQ)) (first | exact SK.out _ D0.out | exact SK.out _ D1.out | exact SK.out _ K2.out | exact SK.out _ K3.out | exact SK.out _ K4.out | exact SK.out _ ((K2.out.setCell (Nat.le_refl _) _).setCell (Nat.le_refl _) _) | exact SK.out _ ((K3.out.setCell S2.out _).setCell S2.out _) | go_keep)
        (first
          | (go_at_call 16; refine (all_c _ _ lB nB _ _ (ls.drop j) (q - j) _ V.drew LB.out (by have := NB.out; omega) (QpQ.out.below D0.out).2.2 T2.out (by omega) (S2.out _ (BpQ.out.trans (D0.out.mono BpQ.out.size))) 0 [] 0 k HW.out.snd).mono ?_; rintro e w2 ⟨A2, c2, rfl, hr, hb, hf⟩; have R2 := Lib.hid hr; have K2 := Lib.hid (show Below V.heap.size V w2 from undrew_ hb); have K3 := Lib.hid (show Below V.heap.size V (w2.alloc (.cells #[.int .i64 0, .slice none 0 0] 24)) from K2.out.alloc K2.out.size _); have K4 := Lib.hid (show Below V.heap.size V (w2.alloc (.cells #[.int .i64 (0 : Int), .slice A2 0 c2] 24)) from K2.out.alloc K2.out.size _); have S2 := Lib.hid K2.out.size; clear hr hb hf)
          | (go_at_call 16; refine (all_c _ _ lB nB _ _ (ls.drop j) (q - j) _ (V.drew.alloc (.cells #[.int .i64 0, .slice none 0 0] 24)) LB.out (by have := NB.out; omega) (QpQ.out.below D1.out).2.2 T2.out (by omega) (S2.out _ (BpQ.out.trans (D1.out.mono BpQ.out.size))) 0 [] 0 k HW.out.snd).mono ?_; rintro e w2 ⟨A2, c2, rfl, hr, hb, hf⟩; have R2 := Lib.hid hr; have K2 := Lib.hid (show Below V.heap.size V w2 from D1.out.trans (hb.mono D1.out.size)); have Q2 := Lib.hid (KD.out.later hb); have F2 := Lib.hid (show ∀ a, A2 = some a → a.block ≠ V.heap.size from fun a h => by have h1 := hf a h; have h2 := KD.out.lt; omega); have r0 := Q2.out.cell 0; have r1 := Q2.out.cell 1; have f0 := Q2.out.free 0; have f1 := Q2.out.free 1; clear hr hb hf))
      all_goals go_wp2_with fail
      all_goals go_meet
      · exact ⟨_, _, _, rfl, rfl, HM.new R2.out rfl, K4.out⟩
      · exact ⟨_, _, _, rfl, rfl, hm_b Q2.out R2.out F2.out, (K2.out.setCell (Nat.le_refl _) _).setCell (Nat.le_refl _) _⟩
    case rest =>
      obtain ⟨gR, AgR, cgR, rfl, rfl, hg, hcb⟩ := hcut
      obtain ⟨wR, rfl⟩ : ∃ w : World, w = wc := ⟨_, rfl⟩
      have XpR := Lib.hid (XpQ.out.below hcb)
      have PpR := Lib.hid (PpQ.out.below hcb)
      have QpR := Lib.hid (QpQ.out.below hcb)
      have BpR := Lib.hid (BpQ.out.trans (hcb.mono BpQ.out.size))
      clear XpQ PpQ QpQ
      have RpR := Lib.hid hg
      clear hg hcb SK D0 D1 KD
      obtain ⟨X_0, X_1, -⟩ := XpR.out
      obtain ⟨P_0, P_1, -⟩ := PpR.out
      obtain ⟨Q_0, Q_1, -⟩ := QpR.out
      obtain ⟨R_0, R_1, -⟩ := RpR.out
      go_wp2_with fail
      refine (same_c _ _ _ [] 0 _ _ _ rfl (by have := N0.out; omega) PpR.out.2.2 RpR.out.2.2).mono ?_
      rintro e w8 ⟨rfl, hb⟩
      clear X_0 X_1 P_0 P_1 Q_0 Q_1 R_0 R_1
      have Xr8 := Lib.hid (XpR.out.below hb)
      have Pr8 := Lib.hid (PpR.out.below hb)
      have Qr8 := Lib.hid (QpR.out.below hb)
      have Rr8 := Lib.hid (RpR.out.below hb)
      have Br8 := Lib.hid (BpR.out.trans (hb.mono BpR.out.size))
      clear XpR PpR QpR RpR
      clear hb
      obtain ⟨X_0, X_1, -⟩ := Xr8.out
      obtain ⟨P_0, P_1, -⟩ := Pr8.out
      obtain ⟨Q_0, Q_1, -⟩ := Qr8.out
      obtain ⟨R_0, R_1, -⟩ := Rr8.out
      go_wp2
      go_ret
      exact ⟨rfl, Br8.out⟩
set_option maxRecDepth 100000 in
theorem walk {H : Type} {enc : TypeId × Value → H} {base : Nat} {W : World} {v0 : Value} {d0 : DataW H} {p0 : List MemPlace}
    (o0 : Value.okWide Try.prog W .any base 24 v0) (h0 : DataW.Trod enc Try.prog W 0 (fun _ => true) true 24 v0 d0 p0) {v1 : Value} {d1 : DataW H} {p1 : List MemPlace}
    (o1 : Value.okWide Try.prog W .any base 36 v1) (h1 : DataW.Trod enc Try.prog W 0 (fun _ => true) true 36 v1 d1 p1) (x : Int) (wx : (Lit.int .i64 x).wf = true) {d2 : DataW H}
    (hz : (DataW.weightsEach Try.prog [24, 36, 3] [d0, d1, d2]).all (· ≤ reachBytes) = true) :
    Calls Try.prog 8 #[v0, v1, .int .i64 x] W (Law.Yes W) := by
  obtain ⟨m1, A, l, n, c, rfl, hf1, hn, hnb, hx⟩ := open_mapZ o0 h0 hz (j := 0) rfl rfl
  obtain ⟨S, cs, ls, rfl, hqb, hqc, _, hs, _⟩ := open_stepsZ o1 h1 hz (j := 1) rfl rfl
  by_cases hx0 : x < 0
  · exact low m1 A l n c S _ cs x W hn hnb hx hx0
  by_cases hx1 : (ls.length : Int) < x
  · exact high m1 A l n c S _ cs x W hn hnb hx (by omega) hx1
  obtain ⟨j, rfl⟩ : ∃ j : Nat, x = j := ⟨x.toNat, by omega⟩
  have hj : j ≤ ls.length := by omega
  have bnd : alE (m1, l) ls = 0 → (alM (m1, l) ls).1 = m1 + (ls.length : Int) ∧ -9223372036854775808 ≤ m1 + (ls.length : Int) ∧ m1 + (ls.length : Int) ≤ 9223372036854775807 := fun h => by
    have e := al_epoch h
    have ok := alM_okM h
    have h1 := ok.1
    have h2 := ok.2.1
    rw [e] at h1 h2
    exact ⟨e, by simp only at h1 h2 ⊢; omega, by simp only at h1 h2 ⊢; omega⟩
  by_cases hls : ls = []
  · subst hls
    obtain rfl : j = 0 := by simpa using hj
    have key : (∃ k, k ≠ 0 ∧ Bad m1 l [] 0 k) ∨ (∃ eB lB nB l0 n0, Fine m1 l [] 0 eB lB nB m1 l0 n0 0 ∧ l0.length = n0 ∧ -9223372036854775808 ≤ m1 ∧ m1 ≤ 9223372036854775807) ∨ (∃ eB lB nB k, k ≠ 0 ∧ Fine m1 l [] 0 eB lB nB 0 [] 0 k) := by
      by_cases hb : alE (m1, l) (List.take 0 []) = 0
      · have hw := fine_of (j := 0) hb
        by_cases h0 : alE (m1, l) [] = 0
        · obtain ⟨e1, e2, e3⟩ := bnd h0
          rw [h0, e1] at hw
          simp only [List.length_nil, Int.natCast_zero, Int.add_zero] at hw e2 e3
          exact .inr (.inl ⟨_, _, _, _, _, hw, rfl, e2, e3⟩)
        · rw [alM_bad h0] at hw
          exact .inr (.inr ⟨_, _, _, _, h0, hw⟩)
      · exact .inl ⟨_, hb, bad_of hb⟩
    cases S with
    | none =>
      rcases key with ⟨k, hk, hw⟩ | ⟨eB, lB, nB, l0, n0, hw, hl0, e2, e3⟩ | ⟨eB, lB, nB, k, hk, hw⟩
      · exact bad_nil m1 A l n c [] cs W hn hnb hx rfl rfl (by omega) hs k hk hw
      · exact good0_nil m1 A l n c [] cs W hn hnb hx rfl rfl (by omega) hs eB lB nB l0 n0 hw hl0 e2 e3
      · exact goodk_nil m1 A l n c [] cs W hn hnb hx rfl rfl (by omega) hs eB lB nB k hk hw
    | some ad =>
      rcases key with ⟨k, hk, hw⟩ | ⟨eB, lB, nB, l0, n0, hw, hl0, e2, e3⟩ | ⟨eB, lB, nB, k, hk, hw⟩
      · exact bad_emp m1 A l n c ad [] cs W hn hnb hx rfl rfl (by omega) hs k hk hw
      · exact good0_emp m1 A l n c ad [] cs W hn hnb hx rfl rfl (by omega) hs eB lB nB l0 n0 hw hl0 e2 e3
      · exact goodk_emp m1 A l n c ad [] cs W hn hnb hx rfl rfl (by omega) hs eB lB nB k hk hw
  · obtain ⟨b, o, hS⟩ : ∃ b o, S = some ⟨b, o, none⟩ := by
      cases ls with
      | nil => exact absurd rfl hls
      | cons s ls => obtain ⟨b, o, u, h, _⟩ := hs 0 s rfl; exact ⟨b, o, h⟩
    subst hS
    have key : (∃ k, k ≠ 0 ∧ Bad m1 l ls j k) ∨ (∃ eB lB nB l0 n0, Fine m1 l ls j eB lB nB (m1 + (ls.length : Int)) l0 n0 0 ∧ l0.length = n0 ∧ -9223372036854775808 ≤ m1 + (ls.length : Int) ∧ m1 + (ls.length : Int) ≤ 9223372036854775807) ∨ (∃ eB lB nB k, k ≠ 0 ∧ Fine m1 l ls j eB lB nB 0 [] 0 k) := by
      by_cases hb : alE (m1, l) (ls.take j) = 0
      · have hw := fine_of (j := j) hb
        by_cases h0 : alE (m1, l) ls = 0
        · obtain ⟨e1, e2, e3⟩ := bnd h0
          rw [h0, e1] at hw
          exact .inr (.inl ⟨_, _, _, _, _, hw, rfl, e2, e3⟩)
        · rw [alM_bad h0] at hw
          exact .inr (.inr ⟨_, _, _, _, h0, hw⟩)
      · exact .inl ⟨_, hb, bad_of hb⟩
    obtain ⟨q, hq⟩ : ∃ q, ls.length = q := ⟨_, rfl⟩
    rw [hq] at key hqb hqc hj ⊢
    by_cases hcj : cs = j
    · obtain rfl : j = q := by omega
      subst hcj
      rcases key with ⟨k, hk, hw⟩ | ⟨eB, lB, nB, l0, n0, hw, hl0, e2, e3⟩ | ⟨eB, lB, nB, k, hk, hw⟩
      · exact bad_end m1 A l n c b o ls _ _ W hn hnb hx rfl hq hqb hs k hk hw
      · exact good0_end m1 A l n c b o ls _ _ W hn hnb hx rfl hq hqb hs eB lB nB l0 n0 hw hl0 e2 e3
      · exact goodk_end m1 A l n c b o ls _ _ W hn hnb hx rfl hq hqb hs eB lB nB k hk hw
    · rcases key with ⟨k, hk, hw⟩ | ⟨eB, lB, nB, l0, n0, hw, hl0, e2, e3⟩ | ⟨eB, lB, nB, k, hk, hw⟩
      · exact bad_mid m1 A l n c b o ls q cs j W hn hnb hx hj hqc hcj hq hqb hs k hk hw
      · exact good0_mid m1 A l n c b o ls q cs j W hn hnb hx hj hqc hcj hq hqb hs eB lB nB l0 n0 hw hl0 e2 e3
      · exact goodk_mid m1 A l n c b o ls q cs j W hn hnb hx hj hqc hcj hq hqb hs eB lB nB k hk hw
theorem own : ownKnob Try.prog.godebug = none := by kernel_rfl
theorem laid : laidOutB Try.prog = true := by kernel_rfl
theorem pars : ∀ t ∈ Try.f8.params.toList, Try.prog.readableRec t = true ∧ t < Try.prog.types.size := by
  have h : Try.f8.params.toList.all (fun t => Try.prog.readableRec t && decide (t < Try.prog.types.size)) = true := by kernel_rfl
  intro t ht; have := List.all_eq_true.1 h t ht; simpa using this
set_option maxRecDepth 100000 in
theorem calls (H : Type) (enc : TypeId × Value → H) (W : World) (base : Nat) (args : Array Value) (ds : List (DataW H)) (before : List MemPlace)
    (hval : ∀ (j : Nat) t v, Try.f8.params[j]? = some t → args[j]? = some v → Value.okWide Try.prog W .any base t v)
    (hA : DataW.TrodAll enc Try.prog W 0 (fun _ => true) true Try.f8.params.toList args.toList ds before) (hz : (DataW.weightsEach Try.prog Try.f8.params.toList ds).all (· ≤ reachBytes) = true) :
    Calls Try.prog 8 args W (Law.Yes W) := by
  rw [Try.params8] at hA hval hz
  obtain ⟨v0, vs0, d0, ds0, p0, q0, hargs, rfl, rfl, h0, r0⟩ := trodAll_cons hA
  obtain ⟨v1, vs1, d1, ds1, p1, q1, rfl, rfl, rfl, h1, r1⟩ := trodAll_cons r0
  obtain ⟨v2, vs2, d2, ds2, p2, q2, rfl, rfl, rfl, h2, r2⟩ := trodAll_cons r1
  obtain ⟨rfl, rfl, rfl⟩ := trodAll_nil r2
  obtain rfl : args = #[v0, v1, v2] := by cases args; simp_all
  obtain ⟨a2, rfl, rfl, rfl, w2⟩ := open_int Try.underlying3 (hval 2 3 v2 rfl rfl) h2
  exact walk (W := W) (hval 0 24 v0 rfl rfl) h0 (hval 1 36 v1 rfl rfl) h1 a2 w2 hz
theorem fnOf (H : Type) : ∀ ds : List (DataW H), ds.length = Try.f8.params.toList.length → Rows.mapsPartsSpec.fn H ds = { results := [.lit (.bool true)], args := ds } := by
  intro ds h
  have h : ds.length = 3 := h
  obtain _ | ⟨x0, ds⟩ := ds
  · simp at h
  obtain _ | ⟨x1, ds⟩ := ds
  · simp at h
  obtain _ | ⟨x2, ds⟩ := ds
  · simp at h
  obtain rfl : ds = [] := List.eq_nil_of_length_eq_zero (by simpa using h)
  rfl
set_option maxRecDepth 100000 in
theorem lifted (os : Os) (started : os.Started) (H : Type) (enc : TypeId × Value → H) :
    ReturnsInHanded {} Try.checked os 8 .any (Rows.mapsPartsSpec.pre6 enc Try.prog Try.f8 Rows.mapsPartsRow.domain false) (Rows.mapsPartsSpec.post enc Try.prog Try.f8 false true false false) := by
  refine returnsInHanded_of_change_sized (C := Try.checked) own started (by kernel_rfl) Try.func8
    (ChangeSpec.witness6 (enc := enc) (C := Try.checked) false ⟨#[], #[.agg #[.int .i64 0, .slice none 0 0], .slice none 0 0, .int .i64 0], []⟩ 8 (by kernel_rfl) (by kernel_rfl) (by kernel_rfl) (by kernel_rfl)) ?_
  intro W base args ds gs before hval hW _ hz _
  obtain ⟨p, q, hA, hV, rfl, hfz, hnd⟩ := id hW
  obtain ⟨rfl, rfl⟩ := trodVars_none hV
  simp only [List.append_nil] at hz
  have hz2 : (DataW.weightsEach Try.prog Try.f8.params.toList ds).all (· ≤ reachBytes) = true := hz
  exact Law.ending (C := Try.checked) (s := Rows.mapsPartsSpec) laid pars rfl Try.underlying4 rfl (fnOf H) hW (calls H enc W base args ds p hval hA hz2)
theorem over : Rows.mapsPartsRow.holds Try.pinned (OpenSpec.ofChange Rows.mapsPartsSpec) :=
  OpenClaim.holds_of_wide 8 Try.f8 rfl rfl rfl rfl rfl rfl rfl ⟨rfl, rfl, rfl, rfl, rfl⟩ rfl rfl rfl rfl rfl (by kernel_rfl) Try.func8 (by kernel_rfl)
    (of_decide_eq_true (by kernel_rfl)) (by unfold Func.isWrapper; first | (rw [if_pos (by decide +kernel)]; kernel_rfl) | (rw [if_neg (by decide +kernel)]; exact ⟨rfl, rfl⟩))
    (fun os started H enc _ => lifted os started H enc)
theorem proved : Rows.MapsPartsSaid := over
end Go.Proofs.Ytmijjaihedbjgaa.mapsParts
