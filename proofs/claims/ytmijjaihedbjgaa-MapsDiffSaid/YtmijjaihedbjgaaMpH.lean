/-
  Package maps: All.
-/
import Derived.Test.YtmijjaihedbjgaaMpG
namespace Go.Proofs.Ytmijjaihedbjgaa.Mps
set_option linter.unusedVariables false
set_option linter.unusedSimpArgs false
open Go.RowKit Mem

/-- A call's one box, and its result's cell. -/
def Laid2 (W V : World) (a b : Value) : Prop :=
  V.cell? ⟨W.heap.size, 0, none⟩ = some a ∧ V.cell? ⟨W.heap.size, 1, none⟩ = some b ∧
  Known V (W.heap.size + 1) 24 #[.int .i64 0, .slice none 0 0] ∧ Below W.heap.size W V
theorem Laid2.below {W V U : World} {a b : Value} (h : Laid2 W V a b) (hb : Below V.heap.size V U) : Laid2 W U a b := by
  obtain ⟨h1, h2, h5, h6⟩ := h
  exact ⟨(hb.cell (World.block_lt_of_cell? _ _ h1)).trans h1, (hb.cell (World.block_lt_of_cell? _ _ h2)).trans h2, h5.later hb, h6.trans (hb.mono h6.size)⟩
theorem laid2 (W : World) (a b : Value) : Laid2 W ((W.alloc (.cells #[a, b] 24)).alloc (.cells #[.int .i64 0, .slice none 0 0] 24)) a b := by
  have k1 := (Known.made W 24 #[a, b]).alloc (.cells #[.int .i64 0, .slice none 0 0] 24)
  have k3 := Known.made (W.alloc (.cells #[a, b] 24)) 24 #[.int .i64 0, .slice none 0 0]
  simp only [World.size_alloc] at k3
  exact ⟨k1.cell 0, k1.cell 1, k3, ((Below.refl _ _).alloc (Nat.le_refl _) _).alloc (by simp) _⟩
theorem known_putM {V : World} {g : Nat} {a b c d : Value} (h : Known V g 24 #[c, d]) : Known ((V.setCell ⟨g, 0, none⟩ a).setCell ⟨g, 1, none⟩ b) g 24 #[a, b] := (h.put 0 a).put 1 b
theorem reads_put {W : World} {A : Option Addr} {xs : List Value} (h : Reads W A xs) {g : Nat} (hp : ∀ a, A = some a → a.block ≠ g) (i j : Nat) (u v : Value) : Reads ((W.setCell ⟨g, i, none⟩ u).setCell ⟨g, j, none⟩ v) A xs := (h.off (p := ⟨g, i, none⟩) hp u).off (p := ⟨g, j, none⟩) hp v
/-- What All has at hand: a map of its own. -/
def Own2 (W1 : World) (g : Nat) (m1 : Int) (l : List Int) (n : Nat) (A : Option Addr) (c : Nat) (V : World) : Prop :=
  Known V g 24 #[.int .i64 m1, .slice A n c] ∧ Reads V A (ints l) ∧ W1.heap.size ≤ g ∧ (∀ a, A = some a → W1.heap.size ≤ a.block ∧ a.block ≠ g) ∧ Below W1.heap.size W1 V
theorem st_step {ls : List Sp} {k : Nat} {s : Sp} (h : ls[k]? = some s) (m : Mp) :
    (apE m s = 0 → stE m (ls.drop k) = stE (apM m s) (ls.drop (k + 1)) ∧ stM m (ls.drop k) = stM (apM m s) (ls.drop (k + 1))) ∧ (apE m s ≠ 0 → stE m (ls.drop k) = apE m s) := by
  obtain ⟨h1, rfl⟩ := List.getElem?_eq_some_iff.1 h
  rw [List.drop_eq_getElem_cons h1]
  exact ⟨fun h => ⟨by unfold stE; rw [if_neg (by simpa using h)]; cases hd : ls.drop (k + 1) <;> rfl, rfl⟩, fun h => if_pos h⟩
theorem al_one {m : Mp} {l : List Sp} (h : ¬ okM m) : alE m l = 1 := if_pos h
theorem ztab_lt {w : World} {B : Nat} {A : Option Addr} {n c : Nat} {l : List Int} (h : ZTab w B (.slice A n c) l) (a : Addr) (ha : A = some a) : B ≤ a.block ∧ a.block < w.heap.size := h.lt a.block (by rw [ha]; rfl)
theorem own2_a {w1 w2 : World} {A : Option Addr} {n c : Nat} {l : List Int} (m1 : Int) (hz : ZTab w2 w1.heap.size (.slice A n c) l) (hb : Below w1.heap.size w1 w2) : Own2 w1 w2.heap.size m1 l n A c (w2.alloc (.cells #[.int .i64 m1, .slice A n c] 24)) :=
  ⟨Known.made w2 _ _, hz.reads.alloc _, hb.size, fun a ha => ⟨(ztab_lt hz a ha).1, Nat.ne_of_lt (ztab_lt hz a ha).2⟩, hb.alloc hb.size _⟩
theorem own2_b {w1 w2 : World} {A : Option Addr} {n c : Nat} {l : List Int} (m1 : Int) (hz : ZTab w2 (w1.heap.size + 1) (.slice A n c) l) (hk : Known w2 w1.heap.size 24 #[.int .i64 0, .slice none 0 0]) (hb : Below w1.heap.size w1 w2) :
    Own2 w1 w1.heap.size m1 l n A c ((w2.setCell ⟨w1.heap.size, 0, none⟩ (.int .i64 m1)).setCell ⟨w1.heap.size, 1, none⟩ (.slice A n c)) :=
  ⟨known_putM hk, reads_put hz.reads (fun a ha => by have := (ztab_lt hz a ha).1; omega) _ _ _ _, Nat.le_refl _, fun a ha => by have := (ztab_lt hz a ha).1; exact ⟨by omega, by omega⟩, (hb.setCell (Nat.le_refl _) _).setCell (Nat.le_refl _) _⟩
/-- What stands at the head of the loop of All. -/
def AlAt (W1 : World) (m : Mp) (ls : List Sp) (g k : Nat) (wr : World) : Prop :=
  ∃ (m1 : Int) (l : List Int) (n : Nat) (A : Option Addr) (c : Nat), l.length = n ∧ okM (m1, l) ∧ stE m ls = stE (m1, l) (ls.drop k) ∧ stM m ls = stM (m1, l) (ls.drop k) ∧ Own2 W1 g m1 l n A c wr
set_option maxRecDepth 100000 in
set_option maxHeartbeats 8000000 in
theorem all_c (m1 : Int) (A : Option Addr) (l : List Int) (n c : Nat) (S : Option Addr) (ls : List Sp) (q cs : Nat) (W : World) (hn : l.length = n) (hbig : n ≤ 17592186044416) (hx : Reads W A (ints l)) (hq : ls.length = q) (hqb : q ≤ 4398046511104) (hc : SRds W S ls)
    (e0 : Int) (l0 : List Int) (n0 : Nat) (k0 : Int) (hs : Says (alE (m1, l) ls) (alM (m1, l) ls) e0 l0 n0 k0) :
    Calls Try.prog 16 #[.agg #[.int .i64 m1, .slice A n c], .slice S q cs] W (MapOut e0 l0 n0 k0 W) := by
  have L := Lib.hid (laid2 W (.int .i64 m1) (.slice A n c))
  have HX := Lib.hid hx
  have HC := Lib.hid hc
  have HN := Lib.hid hn
  have HQ := Lib.hid hq
  have HS := Lib.hid hs
  clear hn hx hq hc hs
  obtain ⟨x0, x1, k3, -⟩ := L.out
  have r0 := k3.cell 0
  have r1 := k3.cell 1
  have f0 := k3.free 0
  have f1 := k3.free 1
  clear k3
  cases h1 : okB m1 n with
  | false =>
    have HE := Lib.hid (HS.out.bad (al_one ((okB_false (m := (m1, l)) HN.out).1 h1)) (alM_bad (by rw [al_one ((okB_false (m := (m1, l)) HN.out).1 h1)]; decide)))
    have R := Lib.hid (fun V => right_c m1 A n c V false h1)
    clear h1
    go_enter Try.func16, Try.ntmps16
    go_wp2_with fail
    refine (R.out _).mono ?_
    rintro e w1 ⟨rfl, hb⟩
    have L3 := Lib.hid (L.out.below hb)
    clear hb x0 x1 r0 r1 f0 f1
    obtain ⟨x0, x1, k3, -⟩ := L3.out
    have r0 := k3.cell 0
    have r1 := k3.cell 1
    have f0 := k3.free 0
    have f1 := k3.free 1
    clear k3
    go_wp2
    obtain ⟨rfl, rfl, rfl, rfl⟩ := HE.out
    refine bodyPost_ret (v := .tuple #[.agg #[.int .i64 0, .slice none 0 0], .int .i64 1]) ?_ rfl ⟨none, 0, rfl, Reads.nil, (L3.out.2.2.2.setCell (by show W.heap.size ≤ W.heap.size + 1; omega) _).setCell (by show W.heap.size ≤ W.heap.size + 1; omega) _, fun a h => by cases h⟩
    exact results_row2 rfl _ _ (W.heap.size + 1) 24 _ (0, 0) _ rfl (known_putM L3.out.2.2.1) fieldsMap sizeMap rfl
  | true =>
    have hm := Lib.hid ((okB_iff (m := (m1, l)) HN.out).1 h1)
    have R := Lib.hid (fun V => right_c m1 A n c V true h1)
    clear h1
    go_enter Try.func16, Try.ntmps16
    go_wp2_with fail
    refine (R.out _).mono ?_
    rintro e w1 ⟨rfl, hb⟩
    have L2 := Lib.hid (L.out.below hb)
    clear hb x0 x1 r0 r1 f0 f1
    obtain ⟨x0, x1, k3, -⟩ := L2.out
    have GX := Lib.hid (show W.heap.size + 1 < w1.heap.size from k3.lt)
    clear k3
    go_upto_region 3 with fail
    have SK := Lib.hid (show ∀ w, Below w1.heap.size w1 w → w.cell? ⟨W.heap.size, 0, none⟩ = some (.int .i64 m1) ∧ w.cell? ⟨W.heap.size, 1, none⟩ = some (.slice A n c) from fun w hb => ⟨(L2.out.below hb).1, (L2.out.below hb).2.1⟩)
    have D0 := Lib.hid (show Below w1.heap.size w1 w1.drew from below_drew (Below.refl _ _))
    have D1 := Lib.hid (show Below w1.heap.size w1 (w1.drew.alloc (.cells #[.int .i64 0, .slice none 0 0] 24)) from D0.out.alloc (Nat.le_refl _) _)
    have KD := Lib.hid (show Known (w1.drew.alloc (.cells #[.int .i64 0, .slice none 0 0] 24)) w1.heap.size 24 #[.int .i64 0, .slice none 0 0] from Known.made w1.drew _ _)
    have XD := Lib.hid (fun V (hb : Below w1.heap.size w1 V) => HX.out.below (L2.out.2.2.2.trans (hb.mono L2.out.2.2.2.size)))
    go_cut [6] (fun v wx => ∃ g A2 c2, v = .pointer (some ⟨g, 0, none⟩) ∧ Own2 w1 g m1 l n A2 c2 wx)
    case first =>
      go_region_held3 (fun w' => w'.cell? ⟨W.heap.size, 0, none⟩ = some (.int .i64 m1) ∧ w'.cell? ⟨W.heap.size, 1, none⟩ = some (.slice A n c)) (first | exact SK.out _ D0.out | exact SK.out _ D1.out | exact SK.out _ K2.out | exact SK.out _ K3.out | exact SK.out _ K4.out | exact SK.out _ ((K2.out.setCell (Nat.le_refl _) _).setCell (Nat.le_refl _) _) | exact SK.out _ ((K3.out.setCell S2.out _).setCell S2.out _) | go_keep)
        (first
          | (go_at_call 23; refine (clone_z A l n c w1.drew HN.out hbig (XD.out _ D0.out)).mono ?_; rintro e w2 ⟨A2, c2, rfl, hz, hb⟩; have Z2 := Lib.hid hz; have K2 := Lib.hid (show Below w1.heap.size w1 w2 from D0.out.trans (hb.mono D0.out.size)); have K3 := Lib.hid (show Below w1.heap.size w1 (w2.alloc (.cells #[.int .i64 0, .slice none 0 0] 24)) from K2.out.alloc K2.out.size _); have K4 := Lib.hid (show Below w1.heap.size w1 (w2.alloc (.cells #[.int .i64 m1, .slice A2 n c2] 24)) from K2.out.alloc K2.out.size _); have S2 := Lib.hid hb.size; clear hz hb)
          | (go_at_call 23; refine (clone_z A l n c _ HN.out hbig (XD.out _ D1.out)).mono ?_; rintro e w2 ⟨A2, c2, rfl, hz, hb⟩; have Z2 := Lib.hid hz; have K2 := Lib.hid (show Below w1.heap.size w1 w2 from D1.out.trans (hb.mono D1.out.size)); have Q2 := Lib.hid (KD.out.later hb); have r0 := Q2.out.cell 0; have r1 := Q2.out.cell 1; have f0 := Q2.out.free 0; have f1 := Q2.out.free 1; clear hz hb))
      all_goals go_wp2_with fail
      all_goals go_meet
      · exact ⟨_, _, _, rfl, own2_a m1 Z2.out K2.out⟩
      · exact ⟨_, _, _, rfl, own2_b m1 (show ZTab w2 (w1.heap.size + 1) (.slice A2 n c2) l by have := Z2.out; simpa using this) Q2.out K2.out⟩
    case rest =>
      obtain ⟨g, A2, c2, rfl, hown⟩ := hcut
      obtain ⟨w2, rfl⟩ : ∃ w : World, w = wc := ⟨_, rfl⟩
      have OW := Lib.hid hown
      clear hown SK D0 D1 KD XD x0 x1
      go_wp2
      go_loopw [23] (fun i wr => ∃ k : Nat, k ≤ q ∧ i = .int .i64 k ∧ AlAt w1 (m1, l) ls g k wr) (fun i _ => q - (intOf i).toNat)
      case atStart => exact ⟨0, by omega, rfl, m1, l, n, A2, c2, HN.out, hm.out, rfl, rfl, OW.out⟩
      case round =>
        obtain ⟨k, hk, rfl, u1, l1, n1, A1, c1, hl1, hok, hE, hM, ho⟩ := hrel
        obtain ⟨hK, hR, hg, hfar, hB⟩ := ho
        by_cases hlt : k < q
        · have k1 : k < ls.length := by rw [HQ.out]; exact hlt
          have ex : ls[k]? = some ls[k] := List.getElem?_eq_getElem k1
          obtain ⟨s, hu⟩ : ∃ s, s = ls[k] := ⟨_, rfl⟩
          rw [← hu] at ex
          obtain ⟨b, o, D, sn, sc, rfl, _, y0, y1, hsn, _, hsb, hD⟩ := (HC.out.below (L2.out.2.2.2.trans (hB.mono L2.out.2.2.2.size))).step ex
          obtain ⟨t1, t2⟩ := st_step ex (u1, l1)
          obtain ⟨s1, cs1⟩ := s
          obtain ⟨z0, z1⟩ := boxS wr (.int .i64 s1) (.slice D sn sc)
          have hA := (Below.refl wr.heap.size wr).alloc (Nat.le_refl _) (.cells #[.int .i64 s1, .slice D sn sc] 27)
          have n4 : n1 ≤ 17592186044416 := by rw [← hl1]; have := hok.2.2; simp at this; omega
          obtain ⟨kE, hkE⟩ : ∃ kE, kE = apE (u1, l1) (s1, cs1) := ⟨_, rfl⟩
          obtain ⟨eM, hM1⟩ : ∃ eM, eM = (apM (u1, l1) (s1, cs1)).1 := ⟨_, rfl⟩
          obtain ⟨lM, hM2⟩ : ∃ lM, lM = (apM (u1, l1) (s1, cs1)).2 := ⟨_, rfl⟩
          obtain ⟨nM, hM3⟩ : ∃ nM, nM = lM.length := ⟨_, rfl⟩
          have SY : Says (apE (u1, l1) (s1, cs1)) (apM (u1, l1) (s1, cs1)) eM lM nM kE := ⟨hkE.symm, Prod.ext hM1.symm hM2.symm, hM3.symm⟩
          have AP := Lib.hid (apply_c u1 A1 l1 n1 c1 s1 D cs1 sn sc _ hl1 n4 (hR.below hA) hsn hsb (hD.below hA) eM lM nM kE SY)
          have KV := apE_vals (u1, l1) (s1, cs1)
          rw [← hkE] at KV
          have KK := Lib.hid (hK.alloc (.cells #[.int .i64 s1, .slice D sn sc] 27))
          have v0 := KK.out.cell 0
          have v1 := KK.out.cell 1
          have BA := Lib.hid (hB.alloc hB.size (.cells #[.int .i64 s1, .slice D sn sc] 27))
          have GG := Lib.hid hg
          have GL := Lib.hid (Nat.lt_trans hK.lt (show wr.heap.size < (wr.alloc (.cells #[.int .i64 s1, .slice D sn sc] 27)).heap.size by simp))
          have EE := Lib.hid hE
          have MM := Lib.hid hM
          have T1 := Lib.hid t1
          have T2 := Lib.hid t2
          have HKE := Lib.hid hkE
          have HM := Lib.hid (show apM (u1, l1) (s1, cs1) = (eM, lM) from Prod.ext hM1.symm hM2.symm)
          have HL := Lib.hid hM3
          have OKN := Lib.hid (show kE = 0 → okM (eM, lM) from fun h => by have := apM_ok (m := (u1, l1)) (s := (s1, cs1)) (by rw [← hkE, h]); rw [show apM (u1, l1) (s1, cs1) = (eM, lM) from Prod.ext hM1.symm hM2.symm] at this; exact this)
          have i1 : (k : Int) < (q : Int) := by omega
          clear hu ex k1 hl1 hok hE hM hK hR hg hfar hB hsn hsb hD t1 t2 hA n4 hkE hM1 hM2 hM3 SY
          go_wp2_with fail
          refine AP.out.mono ?_
          rintro e w4 ⟨A4, c4, rfl, hr, hb, hf⟩
          have K4 := Lib.hid (KK.out.later hb)
          have B4 := Lib.hid (BA.out.trans (hb.mono BA.out.size))
          have R4 := Lib.hid hr
          have F4 := Lib.hid (show ∀ a, A4 = some a → w1.heap.size ≤ a.block ∧ a.block ≠ g from fun a h => ⟨Nat.le_trans BA.out.size (hf a h), fun e => by have := hf a h; have := GL.out; omega⟩)
          clear v0 v1 z0 z1 y0 y1
          obtain ⟨z0, z1⟩ := boxM w4 (.int .i64 eM) (.slice A4 nM c4)
          have K5 := Lib.hid (K4.out.alloc (.cells #[.int .i64 eM, .slice A4 nM c4] 24))
          have B5 := Lib.hid (B4.out.alloc B4.out.size (.cells #[.int .i64 eM, .slice A4 nM c4] 24))
          have R5 := Lib.hid (R4.out.alloc (.cells #[.int .i64 eM, .slice A4 nM c4] 24))
          have L5 := Lib.hid (L2.out.below B5.out)
          clear hb hr hf AP KK BA
          by_cases h0 : kE = 0
          · subst h0
            have v0 := K5.out.cell 0
            have v1 := K5.out.cell 1
            have v2 := K5.out.free 0
            have v3 := K5.out.free 1
            have PK := Lib.hid (known_putM (a := .int .i64 eM) (b := .slice A4 nM c4) K5.out)
            have P5 := Lib.hid (show Own2 w1 g eM lM nM A4 c4 _ from ⟨PK.out, reads_put R5.out (fun a h => (F4.out a h).2) 0 1 _ _, GG.out, F4.out, (B5.out.setCell (p := ⟨g, 0, none⟩) GG.out _).setCell (p := ⟨g, 1, none⟩) GG.out _⟩)
            obtain ⟨g1, g2⟩ := T1.out HKE.out.symm
            have EN := Lib.hid (EE.out.trans g1)
            have MN := Lib.hid (MM.out.trans g2)
            rw [HM.out] at EN MN
            clear g1 g2 KV
            go_wp2
            go_roundw
            case rel => exact ⟨k + 1, by omega, by go_num, eM, lM, nM, A4, c4, HL.out.symm, OKN.out (by trivial), EN.out, MN.out, P5.out⟩
            case measure => simp [intOf]; omega
          · have q0 : (kE != 0) = true := by simpa using h0
            have HE := Lib.hid (HS.out.bad (k := kE) (by unfold alE; rw [if_neg (by simpa using hm.out), EE.out, T2.out (by rw [← HKE.out]; exact h0), ← HKE.out]) (alM_bad (by unfold alE; rw [if_neg (by simpa using hm.out), EE.out, T2.out (by rw [← HKE.out]; exact h0), ← HKE.out]; exact h0)))
            obtain ⟨x0, x1, k3, -⟩ := L5.out
            have r0 := k3.cell 0
            have r1 := k3.cell 1
            have f0 := k3.free 0
            have f1 := k3.free 1
            clear k3 KV h0
            go_wp2
            obtain ⟨rfl, rfl, rfl, hk0⟩ := HE.out
            subst hk0
            refine bodyPost_ret (v := .tuple #[.agg #[.int .i64 0, .slice none 0 0], .int .i64 k0]) ?_ rfl ⟨none, 0, rfl, Reads.nil, (L5.out.2.2.2.setCell (by show W.heap.size ≤ W.heap.size + 1; omega) _).setCell (by show W.heap.size ≤ W.heap.size + 1; omega) _, fun a h => by cases h⟩
            exact results_row2 rfl _ _ (W.heap.size + 1) 24 _ (0, 0) _ rfl (known_putM L5.out.2.2.1) fieldsMap sizeMap rfl
        · obtain rfl : k = q := by omega
          have ED : ls.drop k = [] := List.drop_of_length_le (by rw [HQ.out]; omega)
          rw [ED] at hE hM
          have H0 := Lib.hid (show e0 = u1 ∧ l0 = l1 ∧ n0 = n1 ∧ k0 = 0 by
            obtain ⟨g1, g2, g3⟩ := HS.out
            have e : alE (m1, l) ls = 0 := alE_zero.2 ⟨hm.out, hE⟩
            rw [alM_of e, hM] at g2
            injection g2 with g4 g5
            exact ⟨g4.symm, g5.symm, by rw [← g3, ← g5, hl1], by rw [← g1, e]⟩)
          have L5 := Lib.hid (L2.out.below hB)
          have HK := Lib.hid hK
          have HR := Lib.hid hR
          have HF := Lib.hid (show ∀ a, A1 = some a → W.heap.size ≤ a.block ∧ a.block ≠ W.heap.size + 1 from fun a h => by have := (hfar a h).1; have := GX.out; exact ⟨by omega, by omega⟩)
          have v0 := HK.out.cell 0
          have v1 := HK.out.cell 1
          obtain ⟨x0, x1, k3, -⟩ := L5.out
          have r0 := k3.cell 0
          have r1 := k3.cell 1
          have f0 := k3.free 0
          have f1 := k3.free 1
          clear k3 hl1 hok hE hM hK hR hg hfar hB ED
          go_wp2
          obtain ⟨rfl, rfl, rfl, rfl⟩ := H0.out
          refine bodyPost_ret (v := .tuple #[.agg #[.int .i64 e0, .slice A1 n0 c1], .int .i64 0]) ?_ rfl ⟨A1, c1, rfl, reads_put HR.out (fun a h => (HF.out a h).2) 0 1 _ _, (L5.out.2.2.2.setCell (by show W.heap.size ≤ W.heap.size + 1; omega) _).setCell (by show W.heap.size ≤ W.heap.size + 1; omega) _, fun a h => (HF.out a h).1⟩
          exact results_row2 rfl _ _ (W.heap.size + 1) 24 _ (0, 0) _ rfl (known_putM L5.out.2.2.1) fieldsMap sizeMap rfl
end Go.Proofs.Ytmijjaihedbjgaa.Mps
