/-
  The law LocksApart over what it takes of the program.
-/
import Derived.Test.YtdkgclgccicbeaaLkFairW
import Derived.Test.YtdkgclgccicbeaaLkDel
import Derived.Test.YtdkgclgccicbeaaLkNew
import Derived.Test.YtdkgclgccicbeaaGApp1
import Derived.Deep.RegionHeld3
import Derived.Deep.RegionLaw
import Derived.Deep.Cut
import Derived.Deep.CutRange
import Derived.Deep.CutBlock
namespace Go.Proofs.Ytdkgclgccicbeaa.Lk
set_option linter.unusedVariables false
set_option linter.unusedSimpArgs false
open Go.RowKit Mem Gt

/-! ### What is wanted, as far as the loop has come -/
def wantTo (l : List LO) (es : List Int) (ky : Int) (k : Nat) : List Int := (((l.take k).zip (es.take k)).filter (fun p => p.1.2.2 == ky)).map (·.2)
theorem wantTo_all {l : List LO} {es : List Int} {ky : Int} {n : Nat} (hn : l.length = n) (he : errs l = es) : wantTo l es ky n = want l ky := by
  subst he hn
  unfold wantTo want
  rw [List.take_length, List.take_of_length_le (by rw [errs_len]; exact Nat.le_refl _)]
theorem zip_step {l : List LO} {es : List Int} {k : Nat} {o : LO} {e : Int} (hl : l[k]? = some o) (he : es[k]? = some e) : (l.take (k + 1)).zip (es.take (k + 1)) = (l.take k).zip (es.take k) ++ [(o, e)] := by
  rw [List.take_add_one, List.take_add_one, hl, he]
  have h1 := (List.getElem?_eq_some_iff.1 hl).1
  have h2 := (List.getElem?_eq_some_iff.1 he).1
  rw [List.zip_append (by rw [List.length_take, List.length_take]; omega)]
  rfl
theorem wantTo_in {l : List LO} {es : List Int} {ky : Int} {k : Nat} {o : LO} {e : Int} (hl : l[k]? = some o) (he : es[k]? = some e) (h : o.2.2 = ky) : wantTo l es ky (k + 1) = wantTo l es ky k ++ [e] := by
  unfold wantTo
  rw [zip_step hl he, List.filter_append, List.map_append]
  simp [h]
theorem wantTo_out {l : List LO} {es : List Int} {ky : Int} {k : Nat} {o : LO} {e : Int} (hl : l[k]? = some o) (he : es[k]? = some e) (h : ¬ o.2.2 = ky) : wantTo l es ky (k + 1) = wantTo l es ky k := by
  unfold wantTo
  rw [zip_step hl he, List.filter_append, List.map_append]
  simp [h]
theorem own_in {l : List LO} {ky : Int} {k : Nat} {o : LO} (hl : l[k]? = some o) (h : o.2.2 = ky) : own (l.take (k + 1)) ky = own (l.take k) ky ++ [o] := by
  subst h
  rw [List.take_add_one, hl]; exact own_snoc_same _ _
theorem own_out {l : List LO} {ky : Int} {k : Nat} {o : LO} (hl : l[k]? = some o) (h : ¬ o.2.2 = ky) : own (l.take (k + 1)) ky = own (l.take k) ky := by
  rw [List.take_add_one, hl]; exact own_snoc_other _ _ h
theorem own_le (l : List LO) (ky : Int) : (own l ky).length ≤ l.length := List.length_filter_le _ _
theorem fit_own {l : List LO} (h : FitOs l) (ky : Int) : FitOs (own l ky) := fun o ho => h o (List.mem_filter.1 ho).1
/-! ### Two slices of the call's own -/
abbrev tLO : TypeId := 36
abbrev tErr : TypeId := 28
/-- Two slices of the call's own (block N or later) that lie apart. -/
structure Two (N : Nat) (w0 : World) (u : Value) (lu : List LO) (v : Value) (lv : List Int) (w : World) : Prop where
  tu : Tab loE w N tLO u lu
  tv : Tab erE w N tErr v lv
  ap : ∀ b, u.ownBlock = some b → v.ownBlock ≠ some b
  nv : N ≤ w.heap.size
  bw : Below N w0 w
section
variable {N : Nat} {w0 w w' : World} {u v u' v' : Value} {lu lu' : List LO} {lv lv' : List Int}
theorem Two.later (h : Two N w0 u lu v lv w) (hb : Below w.heap.size w w') : Two N w0 u lu v lv w' := ⟨h.tu.later hb, h.tv.later hb, h.ap, Nat.le_trans h.nv hb.size, h.bw.trans (hb.mono h.nv)⟩
theorem Two.alloc (h : Two N w0 u lu v lv w) (o : Obj) : Two N w0 u lu v lv (w.alloc o) := h.later (low_lit _ _)
theorem Two.drew (h : Two N w0 u lu v lv w) : Two N w0 u lu v lv w.drew := h.later (below_drewN (Below.refl _ _) 1)
theorem Two.ne (h : Two N w0 u lu v lv w) : (v.ownBlock = none ∨ v.ownBlock ≠ u.ownBlock) ∧ (u.ownBlock = none ∨ u.ownBlock ≠ v.ownBlock) := by
  constructor
  · cases e : v.ownBlock with
    | none => exact .inl rfl
    | some b => exact .inr (fun e' => h.ap b e'.symm e)
  · cases e : u.ownBlock with
    | none => exact .inl rfl
    | some b => exact .inr (fun e' => h.ap b e e'.symm)
theorem Two.put1 (h : Two N w0 u lu v lv w) (hg : w.grownBy w' u.ownBlock) (T : Tab loE w' N tLO u' lu') (hn : ∀ b, u'.ownBlock = some b → u.ownBlock = some b ∨ b = w.heap.size) : Two N w0 u' lu' v lv w' := by
  refine ⟨T, h.tv.kept hg h.ne.1, fun b hb => ?_, Nat.le_trans h.nv hg.size, h.tu.below hg h.bw (Nat.le_refl _) h.nv⟩
  rcases hn b hb with e | e
  · exact h.ap b e
  · intro e'; have := (h.tv.lt b e').2; omega
theorem Two.put2 (h : Two N w0 u lu v lv w) (hg : w.grownBy w' v.ownBlock) (T : Tab erE w' N tErr v' lv') (hn : ∀ b, v'.ownBlock = some b → v.ownBlock = some b ∨ b = w.heap.size) : Two N w0 u lu v' lv' w' := by
  refine ⟨h.tu.kept hg h.ne.2, T, fun b hb e => ?_, Nat.le_trans h.nv hg.size, h.tv.below hg h.bw (Nat.le_refl _) h.nv⟩
  rcases hn b e with e | e
  · exact h.ap b hb e
  · have := (h.tu.lt b hb).2; omega
end
theorem own_of {v : Value} {g n c : Nat} {w : World} (h : v.ownBlock = some g ∨ g = w.heap.size) : ∀ b, (Value.slice (some ⟨g, 0, none⟩) n c).ownBlock = some b → v.ownBlock = some b ∨ b = w.heap.size := fun b hb => by
  injection hb with hb
  have hb : g = b := hb
  subst hb
  exact h
theorem far_known {w w' : World} {g : Nat} {t : TypeId} {cs : Array Value} {q : Option Nat} (h : Known w g t cs) (hg : w.grownBy w' q) (hq : ∀ b, q = some b → b ≠ g) : Known w' g t cs := (hg.block g h.lt (fun e => hq g e.symm rfl)).trans h
set_option maxRecDepth 100000 in
set_option maxHeartbeats 16000000 in
theorem apart_w (hPN : PlaySpecN) (A : Option Addr) (l : List LO) (n ca : Nat) (ky : Int) (W : World) (hn : l.length = n) (hbig : n ≤ 1048576) (hx : Reads W A (flat loE l)) (hf : FitOs l) :
    Calls Try.prog 7 #[.slice A n ca, .int .i64 ky] W (Law.Yes W) := by
  obtain ⟨es, hes⟩ : ∃ es, errs l = es := ⟨_, rfl⟩
  obtain ⟨ls, hls⟩ : ∃ ls, locks l = ls := ⟨_, rfl⟩
  obtain ⟨kl, hkl⟩ : ∃ kl, ls.length = kl := ⟨_, rfl⟩
  obtain ⟨ol, hol⟩ : ∃ ol, own l ky = ol := ⟨_, rfl⟩
  obtain ⟨ws, hws⟩ : ∃ ws, want l ky = ws := ⟨_, rfl⟩
  obtain ⟨lo, hlo⟩ : ∃ lo, locks ol = lo := ⟨_, rfl⟩
  obtain ⟨ko, hko⟩ : ∃ ko, lo.length = ko := ⟨_, rfl⟩
  obtain ⟨no, hno⟩ : ∃ no, ol.length = no := ⟨_, rfl⟩
  have NE := Lib.hid (show es.length = n by rw [← hes, errs_len, hn])
  have NL := Lib.hid (show kl ≤ 1048576 by have := locksL_len l; rw [hls, hkl] at this; omega)
  have NO := Lib.hid (show no ≤ 1048576 by have := own_le l ky; rw [hol, hno] at this; omega)
  have NK := Lib.hid (show ko ≤ 1048576 by have := locksL_len ol; rw [hlo, hko] at this; have := NO.out; omega)
  have EW := Lib.hid (show errs ol = ws by rw [← hol, want_own, hws])
  have WL := Lib.hid (show ws.length = no by rw [← EW.out, errs_len, hno])
  have LW := Lib.hid (show ls.filter (fun y => !(y.1 != ky)) = lo by
    rw [← hlo, ← hol, ← locks_own, hls]
    refine List.filter_congr fun y _ => ?_
    show (!(!(y.1 == ky))) = (y.1 == ky)
    rw [Bool.not_not])
  have hP := hPN.old
  have AL := Lib.hid (fun V => alive_c hP V)
  have P1 := Lib.hid (fun V (h : Below W.heap.size W V) => hP A l n ca V es ls kl hn (by omega) (hx.below h) hf hes hls hkl)
  have P2 := Lib.hid (fun B c V (h : Reads V B (flat loE ol)) => hPN B ol no c V ws lo ko hno (by have := NO.out; omega) h (by rw [← hol]; exact fit_own hf ky) EW.out hlo hko)
  have B0 := Lib.hid (low_lit W (.cells #[.int .i64 ky] 3))
  have z0 : (W.alloc (.cells #[.int .i64 ky] 3)).cell? ⟨W.heap.size, 0, none⟩ = some (.int .i64 ky) := (Known.made W 3 #[.int .i64 ky]).cell 0
  have HX := Lib.hid hx
  have HN := Lib.hid hn
  have HE := Lib.hid hes
  have HO := Lib.hid hol
  have HWS := Lib.hid hws
  have HKL := Lib.hid hkl
  have HKO := Lib.hid hko
  have HNO := Lib.hid hno
  have HB := Lib.hid hbig
  clear hP hx hf hn hes hls hkl hol hws hlo hko hno hbig
  go_enter Try.func7, Try.ntmps7
  go_wp2_with fail
  refine (AL.out _).mono ?_
  rintro e w1 ⟨rfl, hb⟩
  have B1 := Lib.hid (B0.out.trans (hb.mono B0.out.size))
  have y0 := (hb.cell (World.block_lt_of_cell? _ _ z0)).trans z0
  clear hb z0
  go_wp2_with fail
  refine (P1.out w1 B1.out).mono ?_
  rintro e w2 ⟨A2, c2, B2, d2, rfl, _, _, hr2, hl2, hb⟩
  have LB2 := Lib.hid (B1.out.trans (hb.mono B1.out.size))
  have R2 := Lib.hid hr2
  have L2 := Lib.hid hl2
  have B12 := Lib.hid hb
  have PK := Lib.hid (apart1_c W.heap.size ky w1 y0)
  have z0 := (hb.cell (World.block_lt_of_cell? _ _ y0)).trans y0
  clear hb hr2 hl2 y0 P1 AL B0
  have q1 : ((n : Int) != (n : Int)) = false := by simp
  go_wp2
  go_loopw [5, 6, 27] (fun u v i wr => ∃ (k q : Nat) (O V : Option Addr) (c d : Nat), k ≤ n ∧ i = .int .i64 k ∧ u = .slice O q c ∧ v = .slice V q d ∧ (own (l.take k) ky).length = q ∧ (wantTo l es ky k).length = q ∧ Two w2.heap.size w2 (.slice O q c) (own (l.take k) ky) (.slice V q d) (wantTo l es ky k) wr) (fun _ _ i _ => n - (Go.RowKit.intOf i).toNat)
  case atStart => exact ⟨0, 0, none, none, 0, 0, by omega, rfl, rfl, rfl, rfl, rfl, Tab.nil _ _ _, Tab.nil _ _ _, fun b hb => (by simp [Value.ownBlock] at hb), Nat.le_refl _, Below.refl _ _⟩
  case round =>
    obtain ⟨k, q, O, V, c, d, hk, rfl, rfl, rfl, hq1, hq2, hT⟩ := hrel
    have TT := Lib.hid hT
    have Q1 := Lib.hid hq1
    have Q2 := Lib.hid hq2
    have BB := Lib.hid (LB2.out.trans (hT.bw.mono LB2.out.size))
    by_cases hlt : k < n
    · have kk : k < l.length := by rw [HN.out]; exact hlt
      obtain ⟨⟨x0, x1, x2⟩, hxk⟩ : ∃ o, l[k]? = some o := ⟨_, List.getElem?_eq_getElem kk⟩
      obtain ⟨ee, hek⟩ : ∃ e, es[k]? = some e := ⟨_, List.getElem?_eq_getElem (by rw [NE.out]; exact hlt)⟩
      obtain ⟨b, o, rfl, _, y0, y1, y2⟩ := lo_at (HX.out.below BB.out) hxk
      obtain ⟨b', o', rfl, _, RBx⟩ := int_at R2.out hek
      have r0 := (hT.bw.cell (World.block_lt_of_cell? _ _ RBx)).trans RBx
      simp only at y0 y1 y2
      have k0 := (hT.bw.cell (World.block_lt_of_cell? _ _ z0)).trans z0
      have b1 := low_lit wr (.cells #[.int .i64 x0, .int .i64 x1, .int .i64 x2] 36)
      obtain ⟨d0, d1, d2'⟩ := box_lo (w := wr) (x0, x1, x2)
      simp only at d0 d1 d2'
      have k1 := (b1.cell (World.block_lt_of_cell? _ _ k0)).trans k0
      have r1 := (b1.cell (World.block_lt_of_cell? _ _ r0)).trans r0
      have i1 : (k : Int) < (n : Int) := by omega
      have HLT := Lib.hid hlt
      have kb := HB.out
      have T1 := Lib.hid (TT.out.later b1)
      have RB := Lib.hid (show w2.cell? ⟨b', o' + k, none⟩ = some (.int .i64 ee) from RBx)
      clear RBx hT hq1 hq2 kk b1 k0 r0
      by_cases hky : x2 = ky
      · have W1 := Lib.hid (wantTo_in (ky := ky) hxk hek hky)
        have O1 := Lib.hid (own_in (ky := ky) hxk hky)
        have e1 : (x2 == ky) = true := by simp [hky]
        have HQ := Lib.hid (show q ≤ 1048576 by
          have h1 := Q1.out
          have h2 := own_le (l.take k) ky
          rw [List.length_take] at h2
          omega)
        clear hxk hek hky
        have FB := Lib.hid (show ∀ b, ((Value.slice O q c).ownBlock = some b ∨ (Value.slice V q d).ownBlock = some b) → b ≠ wr.heap.size ∧ b ≠ b' ∧ b < wr.heap.size from fun b hb => by
          have h1 := World.block_lt_of_cell? _ _ (show w2.cell? ⟨b', o' + k, none⟩ = some (.int .i64 ee) from RB.out)
          rcases hb with hb | hb
          · have := TT.out.tu.lt b hb; simp only at h1; omega
          · have := TT.out.tv.lt b hb; simp only at h1; omega)
        obtain ⟨F, hF⟩ : ∃ F, F = wr.heap.size := ⟨_, rfl⟩
        go_upto_region 12 with fail
        obtain ⟨w3, hw3⟩ : ∃ w, w = wr.alloc (.cells #[.int .i64 x0, .int .i64 x1, .int .i64 x2] 36) := ⟨_, rfl⟩
        have SZ := Lib.hid (show w3.heap.size = F + 1 by rw [hw3, hF]; simp)
        rw [← hw3] at d0 d1 d2' r1 k1 T1
        rw [← hF] at d0 d1 d2' FB
        rw [← hw3, ← hF]
        have TD := Lib.hid T1.out.drew
        have SD := Lib.hid (show (fun u : World => u.cell? ⟨F, 0, none⟩ = some (.int .i64 x0) ∧ u.cell? ⟨F, 1, none⟩ = some (.int .i64 x1) ∧ u.cell? ⟨F, 2, none⟩ = some (.int .i64 x2) ∧ u.cell? ⟨b', o' + k, none⟩ = some (.int .i64 ee)) w3.drew from ⟨d0, d1, d2', r1⟩)
        have KB := Lib.hid (show ∀ X Y : World, Below X.heap.size X Y → (fun u : World => u.cell? ⟨F, 0, none⟩ = some (.int .i64 x0) ∧ u.cell? ⟨F, 1, none⟩ = some (.int .i64 x1) ∧ u.cell? ⟨F, 2, none⟩ = some (.int .i64 x2) ∧ u.cell? ⟨b', o' + k, none⟩ = some (.int .i64 ee)) X → (fun u : World => u.cell? ⟨F, 0, none⟩ = some (.int .i64 x0) ∧ u.cell? ⟨F, 1, none⟩ = some (.int .i64 x1) ∧ u.cell? ⟨F, 2, none⟩ = some (.int .i64 x2) ∧ u.cell? ⟨b', o' + k, none⟩ = some (.int .i64 ee)) Y from fun X Y h ⟨h0, h1, h2, h3⟩ => by
          exact ⟨(h.cell (World.block_lt_of_cell? _ _ h0)).trans h0, (h.cell (World.block_lt_of_cell? _ _ h1)).trans h1, (h.cell (World.block_lt_of_cell? _ _ h2)).trans h2, (h.cell (World.block_lt_of_cell? _ _ h3)).trans h3⟩)
        have KS := Lib.hid (show ∀ (X Y : World) (r : Option Nat), X.grownBy Y r → (r = (Value.slice O q c).ownBlock ∨ r = (Value.slice V q d).ownBlock) → (fun u : World => u.cell? ⟨F, 0, none⟩ = some (.int .i64 x0) ∧ u.cell? ⟨F, 1, none⟩ = some (.int .i64 x1) ∧ u.cell? ⟨F, 2, none⟩ = some (.int .i64 x2) ∧ u.cell? ⟨b', o' + k, none⟩ = some (.int .i64 ee)) X → (fun u : World => u.cell? ⟨F, 0, none⟩ = some (.int .i64 x0) ∧ u.cell? ⟨F, 1, none⟩ = some (.int .i64 x1) ∧ u.cell? ⟨F, 2, none⟩ = some (.int .i64 x2) ∧ u.cell? ⟨b', o' + k, none⟩ = some (.int .i64 ee)) Y from fun X Y r hg hr ⟨h0, h1, h2, h3⟩ => by
          have nf : ∀ b, r = some b → b ≠ F ∧ b ≠ b' := fun b e => by
            have := FB.out b (hr.imp (fun e2 => e2.symm.trans e) (fun e2 => e2.symm.trans e))
            exact ⟨this.1, this.2.1⟩
          exact ⟨hg.cell h0 (fun e => (nf F e.symm).1 rfl), hg.cell h1 (fun e => (nf F e.symm).1 rfl), hg.cell h2 (fun e => (nf F e.symm).1 rfl), hg.cell h3 (fun e => (nf b' e.symm).2 rfl)⟩)
        have OB := Lib.hid (show (∀ b, (Value.slice O q c).ownBlock = some b → ∀ x, w3.heap.size ≤ x → b ≠ x) ∧ (∀ b, (Value.slice V q d).ownBlock = some b → ∀ x, w3.heap.size ≤ x → b ≠ x) from
          ⟨fun b hb x hx => by have := (FB.out b (.inl hb)).2.2; have := SZ.out; omega, fun b hb x hx => by have := (FB.out b (.inr hb)).2.2; have := SZ.out; omega⟩)
        have F1 := Lib.hid (show Two w2.heap.size w2 (.slice O q c) (own (l.take k) ky) (.slice V q d) (wantTo l es ky k) (w3.drew.alloc (.cells #[.int .i64 x0, .int .i64 x1, .int .i64 x2] 36)) ∧ Known (w3.drew.alloc (.cells #[.int .i64 x0, .int .i64 x1, .int .i64 x2] 36)) w3.heap.size tLO #[.int .i64 x0, .int .i64 x1, .int .i64 x2] ∧ (fun u : World => u.cell? ⟨F, 0, none⟩ = some (.int .i64 x0) ∧ u.cell? ⟨F, 1, none⟩ = some (.int .i64 x1) ∧ u.cell? ⟨F, 2, none⟩ = some (.int .i64 x2) ∧ u.cell? ⟨b', o' + k, none⟩ = some (.int .i64 ee)) (w3.drew.alloc (.cells #[.int .i64 x0, .int .i64 x1, .int .i64 x2] 36)) from ⟨TD.out.alloc _, Known.made _ _ _, KB.out _ _ (low_lit _ _) SD.out⟩)
        have F2 := Lib.hid (show Two w2.heap.size w2 (.slice O q c) (own (l.take k) ky) (.slice V q d) (wantTo l es ky k) (w3.drew.alloc (.cells #[.int .i64 ee] 28)) ∧ Known (w3.drew.alloc (.cells #[.int .i64 ee] 28)) w3.heap.size tErr #[.int .i64 ee] ∧ (fun u : World => u.cell? ⟨F, 0, none⟩ = some (.int .i64 x0) ∧ u.cell? ⟨F, 1, none⟩ = some (.int .i64 x1) ∧ u.cell? ⟨F, 2, none⟩ = some (.int .i64 x2) ∧ u.cell? ⟨b', o' + k, none⟩ = some (.int .i64 ee)) (w3.drew.alloc (.cells #[.int .i64 ee] 28)) from ⟨TD.out.alloc _, Known.made _ _ _, KB.out _ _ (low_lit _ _) SD.out⟩)
        have F12 := Lib.hid (show Two w2.heap.size w2 (.slice O q c) (own (l.take k) ky) (.slice V q d) (wantTo l es ky k) ((w3.drew.alloc (.cells #[.int .i64 x0, .int .i64 x1, .int .i64 x2] 36)).alloc (.cells #[.int .i64 ee] 28)) ∧ Known ((w3.drew.alloc (.cells #[.int .i64 x0, .int .i64 x1, .int .i64 x2] 36)).alloc (.cells #[.int .i64 ee] 28)) w3.heap.size tLO #[.int .i64 x0, .int .i64 x1, .int .i64 x2] ∧ Known ((w3.drew.alloc (.cells #[.int .i64 x0, .int .i64 x1, .int .i64 x2] 36)).alloc (.cells #[.int .i64 ee] 28)) (w3.heap.size + 1) tErr #[.int .i64 ee] ∧ (fun u : World => u.cell? ⟨F, 0, none⟩ = some (.int .i64 x0) ∧ u.cell? ⟨F, 1, none⟩ = some (.int .i64 x1) ∧ u.cell? ⟨F, 2, none⟩ = some (.int .i64 x2) ∧ u.cell? ⟨b', o' + k, none⟩ = some (.int .i64 ee)) ((w3.drew.alloc (.cells #[.int .i64 x0, .int .i64 x1, .int .i64 x2] 36)).alloc (.cells #[.int .i64 ee] 28)) from
          ⟨F1.out.1.alloc _, F1.out.2.1.later (low_lit _ _), known_lit2 w3.drew _ _ _, KB.out _ _ (low_lit _ _) F1.out.2.2⟩)
        have F21 := Lib.hid (show Two w2.heap.size w2 (.slice O q c) (own (l.take k) ky) (.slice V q d) (wantTo l es ky k) ((w3.drew.alloc (.cells #[.int .i64 ee] 28)).alloc (.cells #[.int .i64 x0, .int .i64 x1, .int .i64 x2] 36)) ∧ Known ((w3.drew.alloc (.cells #[.int .i64 ee] 28)).alloc (.cells #[.int .i64 x0, .int .i64 x1, .int .i64 x2] 36)) (w3.heap.size + 1) tLO #[.int .i64 x0, .int .i64 x1, .int .i64 x2] ∧ Known ((w3.drew.alloc (.cells #[.int .i64 ee] 28)).alloc (.cells #[.int .i64 x0, .int .i64 x1, .int .i64 x2] 36)) w3.heap.size tErr #[.int .i64 ee] ∧ (fun u : World => u.cell? ⟨F, 0, none⟩ = some (.int .i64 x0) ∧ u.cell? ⟨F, 1, none⟩ = some (.int .i64 x1) ∧ u.cell? ⟨F, 2, none⟩ = some (.int .i64 x2) ∧ u.cell? ⟨b', o' + k, none⟩ = some (.int .i64 ee)) ((w3.drew.alloc (.cells #[.int .i64 ee] 28)).alloc (.cells #[.int .i64 x0, .int .i64 x1, .int .i64 x2] 36)) from
          ⟨F2.out.1.alloc _, known_lit2 w3.drew _ _ _, F2.out.2.1.later (low_lit _ _), KB.out _ _ (low_lit _ _) F2.out.2.2⟩)
        clear hF hw3 T1 k1 TT FB
        obtain ⟨-, -, -, u1⟩ := F1.out.2.2
        obtain ⟨u2, u3, u4, -⟩ := F2.out.2.2
        have v1 : ((w3.alloc (.cells #[.int .i64 x0, .int .i64 x1, .int .i64 x2] 36)).drew).cell? ⟨b', o' + k, none⟩ = some (.int .i64 ee) := u1
        have v2 : ((w3.alloc (.cells #[.int .i64 ee] 28)).drew).cell? ⟨F, 0, none⟩ = some (.int .i64 x0) := u2
        have v3 : ((w3.alloc (.cells #[.int .i64 ee] 28)).drew).cell? ⟨F, 1, none⟩ = some (.int .i64 x1) := u3
        have v4 : ((w3.alloc (.cells #[.int .i64 ee] 28)).drew).cell? ⟨F, 2, none⟩ = some (.int .i64 x2) := u4
        go_region_law
          (first
            | (refine step_append_1 (E := loE) elLO (by decide) (B := w2.heap.size) (n := q) (v := .slice O q c) (es := own (l.take k) ky) (y := (x0, x1, x2)) (cs := #[.int .i64 x0, .int .i64 x1, .int .i64 x2]) (by rfl) _ _ (by rfl) rfl rfl (F1.out.1).tu Q1.out rfl (F1.out.2.1) (by unfold maxLen; have := HQ.out; omega) (by have := HQ.out; omega) (F1.out.1).nv ?_; intro g4 c4 w4 T4 G4 L4; have N4 := Lib.hid (Two.put1 (F1.out.1) G4.out T4.out (own_of L4.out)); have K4 := Lib.hid (KS.out _ _ _ G4.out (.inl rfl) F1.out.2.2); obtain ⟨-, -, -, s4⟩ := K4.out)
            | (refine step_append_1 (E := erE) elEr (by decide) (B := w2.heap.size) (n := q) (v := .slice V q d) (es := wantTo l es ky k) (y := ee) (cs := #[.int .i64 ee]) (by rfl) _ _ (by rfl) rfl rfl (F2.out.1).tv Q2.out rfl (F2.out.2.1) (by unfold maxLen; have := HQ.out; omega) (by have := HQ.out; omega) (F2.out.1).nv ?_; intro g5 c5 w5 T5 G5 L5; have N5 := Lib.hid (Two.put2 (F2.out.1) G5.out T5.out (own_of L5.out)); have K5 := Lib.hid (KS.out _ _ _ G5.out (.inr rfl) F2.out.2.2); obtain ⟨s5, t5, z5, -⟩ := K5.out)
            | (refine step_append_1 (E := loE) elLO (by decide) (B := w2.heap.size) (n := q) (v := .slice O q c) (es := own (l.take k) ky) (y := (x0, x1, x2)) (cs := #[.int .i64 x0, .int .i64 x1, .int .i64 x2]) (by rfl) _ _ (by rfl) rfl rfl (F12.out.1).tu Q1.out rfl (F12.out.2.1) (by unfold maxLen; have := HQ.out; omega) (by have := HQ.out; omega) (F12.out.1).nv ?_; intro g4 c4 w4 T4 G4 L4; have N4 := Lib.hid (Two.put1 (F12.out.1) G4.out T4.out (own_of L4.out)); have K4 := Lib.hid (KS.out _ _ _ G4.out (.inl rfl) F12.out.2.2.2); have KE4 := Lib.hid (far_known F12.out.2.2.1 G4.out (fun b hb => OB.out.1 b hb _ (Nat.le_succ _))))
            | (refine step_append_1 (E := loE) elLO (by decide) (B := w2.heap.size) (n := q) (v := .slice O q c) (es := own (l.take k) ky) (y := (x0, x1, x2)) (cs := #[.int .i64 x0, .int .i64 x1, .int .i64 x2]) (by rfl) _ _ (by rfl) rfl rfl (F21.out.1).tu Q1.out rfl (F21.out.2.1) (by unfold maxLen; have := HQ.out; omega) (by have := HQ.out; omega) (F21.out.1).nv ?_; intro g4 c4 w4 T4 G4 L4; have N4 := Lib.hid (Two.put1 (F21.out.1) G4.out T4.out (own_of L4.out)); have K4 := Lib.hid (KS.out _ _ _ G4.out (.inl rfl) F21.out.2.2.2); have KE4 := Lib.hid (far_known F21.out.2.2.1 G4.out (fun b hb => OB.out.1 b hb _ (Nat.le_refl _))))
            | (refine step_append_1 (E := erE) elEr (by decide) (B := w2.heap.size) (n := q) (v := .slice V q d) (es := wantTo l es ky k) (y := ee) (cs := #[.int .i64 ee]) (by rfl) _ _ (by rfl) rfl rfl (F12.out.1).tv Q2.out rfl (F12.out.2.2.1) (by unfold maxLen; have := HQ.out; omega) (by have := HQ.out; omega) (F12.out.1).nv ?_; intro g5 c5 w5 T5 G5 L5; have N5 := Lib.hid (Two.put2 (F12.out.1) G5.out T5.out (own_of L5.out)); have K5 := Lib.hid (KS.out _ _ _ G5.out (.inr rfl) F12.out.2.2.2); have KO5 := Lib.hid (far_known F12.out.2.1 G5.out (fun b hb => OB.out.2 b hb _ (Nat.le_refl _))))
            | (refine step_append_1 (E := erE) elEr (by decide) (B := w2.heap.size) (n := q) (v := .slice V q d) (es := wantTo l es ky k) (y := ee) (cs := #[.int .i64 ee]) (by rfl) _ _ (by rfl) rfl rfl (F21.out.1).tv Q2.out rfl (F21.out.2.2.1) (by unfold maxLen; have := HQ.out; omega) (by have := HQ.out; omega) (F21.out.1).nv ?_; intro g5 c5 w5 T5 G5 L5; have N5 := Lib.hid (Two.put2 (F21.out.1) G5.out T5.out (own_of L5.out)); have K5 := Lib.hid (KS.out _ _ _ G5.out (.inr rfl) F21.out.2.2.2); have KO5 := Lib.hid (far_known F21.out.2.1 G5.out (fun b hb => OB.out.2 b hb _ (Nat.le_succ _))))
            | (refine step_append_1 (E := loE) elLO (by decide) (B := w2.heap.size) (n := q) (v := .slice O q c) (es := own (l.take k) ky) (y := (x0, x1, x2)) (cs := #[.int .i64 x0, .int .i64 x1, .int .i64 x2]) (by rfl) _ _ (by rfl) rfl rfl (N5.out).tu Q1.out rfl (KO5.out) (by unfold maxLen; have := HQ.out; omega) (by have := HQ.out; omega) (N5.out).nv ?_; intro g4 c4 w4 T4 G4 L4; have NF := Lib.hid (Two.put1 N5.out G4.out T4.out (own_of L4.out)))
            | (refine step_append_1 (E := loE) elLO (by decide) (B := w2.heap.size) (n := q) (v := .slice O q c) (es := own (l.take k) ky) (y := (x0, x1, x2)) (cs := #[.int .i64 x0, .int .i64 x1, .int .i64 x2]) (by rfl) _ _ (by rfl) rfl rfl (N5.out.alloc _).tu Q1.out rfl (Known.made _ _ _) (by unfold maxLen; have := HQ.out; omega) (by have := HQ.out; omega) (N5.out.alloc _).nv ?_; intro g4 c4 w4 T4 G4 L4; have NF := Lib.hid (Two.put1 (N5.out.alloc _) G4.out T4.out (own_of L4.out)))
            | (refine step_append_1 (E := erE) elEr (by decide) (B := w2.heap.size) (n := q) (v := .slice V q d) (es := wantTo l es ky k) (y := ee) (cs := #[.int .i64 ee]) (by rfl) _ _ (by rfl) rfl rfl (N4.out).tv Q2.out rfl (KE4.out) (by unfold maxLen; have := HQ.out; omega) (by have := HQ.out; omega) (N4.out).nv ?_; intro g5 c5 w5 T5 G5 L5; have NF := Lib.hid (Two.put2 N4.out G5.out T5.out (own_of L5.out)))
            | (refine step_append_1 (E := erE) elEr (by decide) (B := w2.heap.size) (n := q) (v := .slice V q d) (es := wantTo l es ky k) (y := ee) (cs := #[.int .i64 ee]) (by rfl) _ _ (by rfl) rfl rfl (N4.out.alloc _).tv Q2.out rfl (Known.made _ _ _) (by unfold maxLen; have := HQ.out; omega) (by have := HQ.out; omega) (N4.out.alloc _).nv ?_; intro g5 c5 w5 T5 G5 L5; have NF := Lib.hid (Two.put2 (N4.out.alloc _) G5.out T5.out (own_of L5.out))))
        all_goals
          clear d0 d1 d2' r1 u1 u2 u3 u4 v1 v2 v3 v4
          go_wp2
          go_roundw
          case rel => exact ⟨k + 1, q + 1, some ⟨g4, 0, none⟩, some ⟨g5, 0, none⟩, c4, c5, by have := HLT.out; omega, by go_num, rfl, rfl, by rw [O1.out, List.length_append, Q1.out]; rfl, by rw [W1.out, List.length_append, Q2.out]; rfl, by rw [O1.out, W1.out]; exact NF.out⟩
          case measure => have := HLT.out; simp [Go.RowKit.intOf]; omega
      · have W1 := Lib.hid (wantTo_out (ky := ky) hxk hek hky)
        have O1 := Lib.hid (own_out (ky := ky) hxk hky)
        have e1 : (x2 == ky) = false := by rw [beq_eq_false_iff_ne]; exact hky
        clear hxk hek hky
        go_wp2
        go_roundw
        case rel => exact ⟨k + 1, q, O, V, c, d, by have := HLT.out; omega, by go_num, rfl, rfl, by rw [O1.out]; exact Q1.out, by rw [W1.out]; exact Q2.out, by rw [O1.out, W1.out]; exact T1.out⟩
        case measure => have := HLT.out; simp [Go.RowKit.intOf]; omega
    · obtain rfl : k = n := by omega
      have htk : l.take k = l := List.take_of_length_le (by rw [HN.out]; exact Nat.le_refl _)
      rw [htk, HO.out] at hq1
      obtain rfl : q = no := by rw [← hq1]; exact HNO.out
      have RO := Lib.hid (show Reads wr O (flat loE ol) by have := hT.tu.reads; rw [htk, HO.out] at this; exact this)
      have RV := Lib.hid (show Reads wr V (ints ws) by have := hT.tv.reads; rw [wantTo_all HN.out HE.out, HWS.out, flat_er] at this; exact this)
      have VN := Lib.hid (show ∀ a, V = some a → w2.heap.size ≤ a.block from fun a ha => by subst ha; exact (hT.tv.lt a.block rfl).1)
      have BT := Lib.hid hT.bw
      have LO2 := Lib.hid (show ∀ g, (Value.slice B2 kl d2).ownBlock = some g → g < w2.heap.size from fun g hg => by
        obtain ⟨xs, h1, _⟩ := L2.out
        exact (h1.lt g hg).2)
      have z1 := (hT.bw.cell (World.block_lt_of_cell? _ _ z0)).trans z0
      clear hT hq1 hq2 htk TT Q1 Q2 z0
      go_wp2_with fail
      refine (P2.out O c wr RO.out).mono ?_
      rintro e w4 ⟨A4, c4, B4, d4, rfl, _, _, hr4, hl4, hb4, ha4⟩
      have R4 := Lib.hid hr4
      have L4 := Lib.hid hl4
      have BF := Lib.hid (BT.out.trans (hb4.mono BT.out.size))
      have BD := Lib.hid (BB.out.trans (hb4.mono BB.out.size))
      have RV4 := Lib.hid (RV.out.below hb4)
      have AN := Lib.hid (show ∀ a, A4 = some a → w2.heap.size ≤ a.block from fun a ha => Nat.le_trans BT.out.size (ha4 a ha))
      have DK := Lib.hid (deleteK_c 20 #[.pointer (some ⟨W.heap.size, 0, none⟩)] (enters_of Try.func20 (by kernel_rfl) rfl) w1.heap.size w1 B2 ls kl d2 (fun k => k != ky) w4 HKL.out (by have := NL.out; omega) (L2.out.below BF.out) PK.out (B12.out.trans (BF.out.mono B12.out.size)) (Nat.le_trans B12.out.size BF.out.size))
      rw [LW.out] at DK
      have LN := Lib.hid (show wr.heap.size ≤ w4.heap.size from hb4.size)
      clear hr4 hl4 hb4 ha4 z1 P2
      go_wp2_with fail
      refine DK.out.mono ?_
      rintro e w5 ⟨A5, m, hm, hmc, rfl, hl5, hb5, hs5, hf5⟩
      obtain rfl : m = ko := by rw [← hm]; exact HKO.out
      have FAR := Lib.hid (show ∀ b, w2.heap.size ≤ b → b < w4.heap.size → w5.heap[b]? = w4.heap[b]? from fun b h1 h2 => hf5 b h2 (fun e => by have := LO2.out b e; omega))
      have RD : ∀ {D : Option Addr} {xs : List Value}, Reads w4 D xs → (∀ a, D = some a → w2.heap.size ≤ a.block) → Reads w5 D xs := fun {D xs} h ha k v hv => by
        obtain ⟨b, o, e, hb, hc⟩ := h k v hv
        exact ⟨b, o, e, Nat.lt_of_lt_of_le hb hs5, (World.cell?_of_block (a := ⟨b, o + k, none⟩) (FAR.out b (ha _ e) hb)).trans hc⟩
      have R5 := Lib.hid (RD R4.out AN.out)
      have RV5 := Lib.hid (RD RV4.out VN.out)
      have L5 := Lib.hid hl5
      have L45 := Lib.hid (show LRds w5 B4 lo from by
        obtain ⟨xs, h1, h2, h3⟩ := L4.out
        refine ⟨xs, RD h1.reads (fun a ha => ?_), h2, fun j x y hx hy => ?_⟩
        · have h4 := BT.out.size
          subst ha
          have := (h1.lt a.block rfl).1
          omega
        · obtain ⟨⟨i1, i2, i3, i4, i5, i6, i7, i8⟩, h4⟩ := h3 j x y hx hy
          have h5 := BT.out.size
          exact ⟨i1, i2, i3, i4, RD i5 (fun a ha => by have := (h4 a (.inl ha)).1; omega), i6, i7, RD i8 (fun a ha => by have := (h4 a (.inr ha)).1; omega)⟩)
      have B5 := Lib.hid (BD.out.trans (hb5.mono B1.out.size))
      have EQ := Lib.hid (equalEr_c A4 V ws ws q q c4 d w5 WL.out WL.out (by have := NO.out; omega) R5.out RV5.out)
      have SM := Lib.hid (fun U (h : Below w5.heap.size w5 U) => samelocks_c A5 B4 lo lo m m d2 d4 U HKO.out HKO.out (by have := NK.out; omega) (L5.out.below h) (L45.out.below h) true ⟨fun _ => rfl, fun _ => rfl⟩)
      clear hm hmc hl5 hb5 hs5 hf5 RD DK
      go_wp2_with fail
      refine EQ.out.mono ?_
      rintro e w6 ⟨rfl, hb⟩
      have B6 := Lib.hid (B5.out.trans (hb.mono B5.out.size))
      have E := Lib.hid (show eqI ws ws = true from decide_eq_true rfl)
      have SL := Lib.hid (SM.out w6 hb)
      rw [E.out]
      clear hb SM EQ
      go_wp2_with fail
      refine SL.out.mono ?_
      rintro e w7 ⟨rfl, hb⟩
      have B7 := Lib.hid (B6.out.trans (hb.mono B6.out.size))
      clear hb
      go_wp2
      go_ret
      exact ⟨rfl, B7.out⟩
end Go.Proofs.Ytdkgclgccicbeaa.Lk
