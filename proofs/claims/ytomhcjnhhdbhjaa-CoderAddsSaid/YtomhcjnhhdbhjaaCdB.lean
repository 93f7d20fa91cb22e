/-
  Package coder: wrongNumber, wrongPieces, numbered.
-/
import Derived.Test.YtomhcjnhhdbhjaaCdA
import Derived.Test.YtomhcjnhhdbhjaaClone
namespace Go.Proofs.Ytomhcjnhhdbhjaa.Cdr
set_option linter.unusedVariables false
open Go.RowKit Gf Mem Poly

/-- Which numbers stand in S. -/
def held (S : List Int) : Array Value := Array.ofFn (n := 200) fun i => .bool (decide ((i.val : Int) ∈ S))
theorem held_nil : held [] = Array.replicate 200 (.bool false) := by
  apply Array.ext_getElem?
  intro i
  unfold held
  rw [Array.getElem?_ofFn, Array.getElem?_replicate]
  split <;> simp
theorem held_at (S : List Int) {m : Nat} (h : m < 200) : (held S)[m]? = some (.bool (decide ((m : Int) ∈ S))) := by
  unfold held
  rw [Array.getElem?_ofFn, dif_pos h]
theorem held_put (S : List Int) {m : Nat} (h : m < 200) : (held S).setIfInBounds m (.bool true) = held ((m : Int) :: S) := by
  apply Array.ext_getElem?
  intro i
  rw [Array.getElem?_setIfInBounds]
  unfold held
  rw [Array.getElem?_ofFn, Array.getElem?_ofFn]
  by_cases hi : i < 200
  · rw [dif_pos hi, dif_pos hi]
    by_cases e : m = i
    · subst e
      rw [if_pos rfl, if_pos (by simpa using h)]
      simp
    · rw [if_neg e]
      have : ¬ (i : Int) = (m : Int) := by omega
      simp [this]
  · rw [dif_neg hi, dif_neg hi, if_neg (by omega)]
def ErrBelow (x : Int) (W : World) (e : Ending) (W' : World) : Prop := e = .returned (.int .i64 x) ∧ Below W.heap.size W W'
def scanE (lim : Int) (ps : List Pc) : Int := (scan lim [] ps).getD 0
set_option maxHeartbeats 2000000 in
set_option maxRecDepth 100000 in
theorem wrongNumber_c (A : Option Addr) (ps : List Pc) (ca : Nat) (hl : ps.length ≤ 4398046511104) (lim : Int) (hlim : lim ≤ 200) (hlim0 : -9223372036854775808 ≤ lim) (W : World) (hR : Pcs W A ps) :
    Calls Try.prog 32 #[.slice A ps.length ca, .int .i64 lim] W (ErrBelow (scanE lim ps) W) := by
  have HR := Lib.hid hR
  clear hR
  generalize hN : ps.length = n at *
  have HN := Lib.hid hN
  clear hN
  go_enter Try.func32, Try.ntmps32
  have hz : ∀ w : World, (zeroValue 71).run Try.prog w = .ok (.agg (Array.replicate 200 (.bool false))) w := fun _ => by kernel_rfl
  go_wp2
  go_loopw [10] (fun i wr => ∃ (k : Nat) (S : List Int), k ≤ n ∧ i = .int .i64 k ∧ Scanned lim ps k S ∧ Known wr W.heap.size 71 (held S) ∧ Below W.heap.size W wr) (fun i _ => n - (intOf i).toNat)
  case atStart => exact ⟨0, [], by omega, rfl, scanned_zero _ _, by rw [held_nil]; exact Known.made W _ _, (Below.refl _ _).alloc (Nat.le_refl _) _⟩
  case round =>
    obtain ⟨k, S, hk, rfl, hD, hK, hB⟩ := hrel
    have HK := Lib.hid hK
    have HB := Lib.hid hB
    have HD := Lib.hid hD
    clear hK hB hD hz
    by_cases hlt : k < n
    · obtain ⟨b, o, C, c, p, rfl, hb, ep, c1, c2, lr, lc, rr⟩ := (HR.out.below HB.out).piece (k := k) (by rw [HN.out]; exact hlt)
      have EP := Lib.hid ep
      have HK2 := Lib.hid (HK.out.alloc (.cells #[.int .i64 p.1, .slice C p.2.length c] 35))
      have HB2 := Lib.hid (HB.out.alloc HB.out.size (.cells #[.int .i64 p.1, .slice C p.2.length c] 35))
      have HNE := Lib.hid (Nat.ne_of_lt HK.out.lt)
      clear ep rr lr hb
      by_cases h1 : p.1 < 0
      · have E := Lib.hid (scanned_range HD.out EP.out (.inl h1))
        go_wp2
        go_ret
        exact ⟨by rw [scanE, E.out]; rfl, HB2.out⟩
      · by_cases h2 : lim ≤ p.1
        · have E := Lib.hid (scanned_range HD.out EP.out (.inr (by omega)))
          go_wp2
          go_ret
          exact ⟨by rw [scanE, E.out]; rfl, HB2.out⟩
        · obtain ⟨m, hm⟩ : ∃ m : Nat, p.1 = (m : Int) := ⟨p.1.toNat, by omega⟩
          have HM := Lib.hid hm
          rw [hm] at c1 h1 h2
          have hm2 : m < 200 := by omega
          rw [hm] at HK2
          have cm := (HK2.out.cell m).trans (held_at _ hm2)
          have fm := HK2.out.free m
          clear hm
          by_cases h3 : (m : Int) ∈ S
          · rw [decide_eq_true h3] at cm
            have E := Lib.hid (scanned_held HD.out EP.out (by rw [HM.out]; omega) (by rw [HM.out]; omega) (by rw [HM.out]; exact h3))
            clear h3
            go_wp2
            go_ret
            exact ⟨by rw [scanE, E.out]; rfl, by have := HB2.out; rw [HM.out] at this; exact this⟩
          · rw [decide_eq_false h3] at cm
            have E := Lib.hid (scanned_next HD.out EP.out (by rw [HM.out]; omega) (by rw [HM.out]; omega) (by rw [HM.out]; exact h3))
            clear h3
            go_wp2
            go_roundw
            case rel => exact ⟨k + 1, _, by omega, by go_num, E.out, by rw [HM.out, ← held_put _ hm2]; exact HK2.out.put _ _, by have := HB2.out; rw [HM.out] at this; exact this.setCell (Nat.le_refl _) _⟩
            case measure => simp [intOf]; omega
    · obtain rfl : k = n := by omega
      have E := Lib.hid (scanned_all (by rw [HN.out]; exact HD.out))
      go_wp2
      go_ret
      exact ⟨by rw [scanE, E.out]; rfl, HB.out⟩

/-- The first fault of the arguments of Back, 0 if there is none. -/
def wrongPs (r m : Int) (ps : List Pc) : Int :=
  if wrongIs r m ≠ 0 then wrongIs r m else if scanE (r + m) ps ≠ 0 then scanE (r + m) ps else if (ps.length : Int) < r then 8 else if evenB (datas ps) = false then 1 else 0
theorem scan_ne {lim : Int} : ∀ {ps : List Pc} {S : List Int} {e : Int}, scan lim S ps = some e → e = 2 ∨ e = 6
  | [], _, _, h => by rw [scan] at h; cases h
  | p :: ps, S, e, h => by
    rw [scan] at h
    by_cases h1 : p.1 < 0 ∨ lim - 1 < p.1
    · rw [if_pos h1] at h; injection h with h; exact .inl h.symm
    · rw [if_neg h1] at h
      by_cases h2 : p.1 ∈ S
      · rw [if_pos h2] at h; injection h with h; exact .inr h.symm
      · rw [if_neg h2] at h; exact scan_ne h
/-- With a fault there are no rows; without one, these are the conditions. -/
theorem wrongPs_bad {r m : Int} {ps : List Pc} (h : wrongPs r m ps ≠ 0) : BackIs r m ps [] (wrongPs r m ps) := by
  unfold wrongPs at h ⊢
  by_cases h1 : badRange r m
  · have e : wrongIs r m = 2 := by unfold wrongIs; exact if_pos h1
    rw [e, if_pos (by decide)]
    exact .inl ⟨h1, rfl, rfl⟩
  · have e : wrongIs r m = 0 := by unfold wrongIs; exact if_neg h1
    rw [e, if_neg (by decide)] at h ⊢
    cases hs : scan (r + m) [] ps with
    | some x =>
      have hx := scan_ne hs
      have e2 : scanE (r + m) ps = x := by rw [scanE, hs]; rfl
      rw [e2, if_pos (by omega)]
      exact .inr (.inl ⟨h1, hs, rfl⟩)
    | none =>
      have e2 : scanE (r + m) ps = 0 := by rw [scanE, hs]; rfl
      rw [e2, if_neg (by decide)] at h ⊢
      refine .inr (.inr ⟨h1, hs, ?_⟩)
      by_cases h3 : (ps.length : Int) < r
      · rw [if_pos h3]; exact .inl ⟨h3, rfl, rfl⟩
      · rw [if_neg h3] at h ⊢
        by_cases h4 : evenB (datas ps) = false
        · rw [if_pos h4]; exact .inr (.inl ⟨by omega, h4, rfl, rfl⟩)
        · rw [if_neg h4] at h; exact absurd rfl h
theorem wrongPs_good {r m : Int} {ps : List Pc} (h : wrongPs r m ps = 0) : ¬ badRange r m ∧ scan (r + m) [] ps = none ∧ r ≤ (ps.length : Int) ∧ evenB (datas ps) = true := by
  unfold wrongPs at h
  by_cases h1 : badRange r m
  · have e : wrongIs r m = 2 := by unfold wrongIs; exact if_pos h1
    rw [e, if_pos (by decide)] at h; cases h
  · have e : wrongIs r m = 0 := by unfold wrongIs; exact if_neg h1
    rw [e, if_neg (by decide)] at h
    cases hs : scan (r + m) [] ps with
    | some x =>
      have hx := scan_ne hs
      have e2 : scanE (r + m) ps = x := by rw [scanE, hs]; rfl
      rw [e2, if_pos (by omega)] at h; omega
    | none =>
      have e2 : scanE (r + m) ps = 0 := by rw [scanE, hs]; rfl
      rw [e2, if_neg (by decide)] at h
      by_cases h3 : (ps.length : Int) < r
      · rw [if_pos h3] at h; cases h
      · rw [if_neg h3] at h
        cases h4 : evenB (datas ps) with
        | false => rw [h4, if_pos rfl] at h; cases h
        | true => exact ⟨h1, rfl, by omega, rfl⟩
set_option maxHeartbeats 2000000 in
theorem wrongPieces_c (A : Option Addr) (r m : Int) (ps : List Pc) (ca : Nat) (hl : ps.length ≤ 4398046511104) (hr : (Lit.int .i64 r).wf = true) (hm : (Lit.int .i64 m).wf = true) (W : World) (hR : Pcs W A ps) :
    Calls Try.prog 26 #[.int .i64 r, .int .i64 m, .slice A ps.length ca] W (ErrBelow (wrongPs r m ps) W) := by
  have HW := Lib.hid (wrong_c r m W hr hm)
  have HR := Lib.hid hR
  have HNUM := Lib.hid (fun h1 h2 => wrongNumber_c A ps ca hl (r + m) h1 h2 W hR)
  have HSL := Lib.hid (fun V (hb : Below W.heap.size W V) => slen_c A ps ca hl V (hR.below hb))
  have HWP := Lib.hid (show wrongPs r m ps = _ from rfl)
  unfold wrongPs at HWP ⊢
  clear hR
  generalize hN : ps.length = n at *
  clear hN
  by_cases h1 : badRange r m
  · have e : wrongIs r m = 2 := by unfold wrongIs; exact if_pos h1
    rw [e] at HW ⊢
    rw [if_pos (by decide)]
    clear e h1 HWP
    go_enter Try.func26, Try.ntmps26
    go_wp2_with fail
    refine HW.out.mono ?_
    rintro e w' ⟨rfl, rfl⟩
    go_wp2
    go_ret
    exact ⟨rfl, Below.refl _ _⟩
  · have e : wrongIs r m = 0 := by unfold wrongIs; exact if_neg h1
    rw [e] at HW ⊢
    rw [if_neg (by decide)]
    have hb1 : 1 ≤ r ∧ r ≤ 100 ∧ 0 ≤ m ∧ m ≤ 100 := by unfold badRange at h1; omega
    obtain ⟨b1, b2, b3, b4⟩ := hb1
    clear e h1 HWP
    have HN2 := Lib.hid (HNUM.out (by omega) (by omega))
    by_cases hs : scanE (r + m) ps = 0
    · rw [hs] at HN2 ⊢
      rw [if_neg (by decide)]
      clear hs
      by_cases h3 : (n : Int) < r
      · rw [if_pos h3]
        go_enter Try.func26, Try.ntmps26
        go_wp2_with fail
        refine HW.out.mono ?_
        rintro e w' ⟨rfl, rfl⟩
        go_wp2_with fail
        refine HN2.out.mono ?_
        rintro e w' ⟨rfl, hB⟩
        have HB := Lib.hid hB
        clear hB
        go_wp2
        go_ret
        exact ⟨rfl, HB.out⟩
      · rw [if_neg h3]
        cases h4 : evenB (datas ps) with
        | false =>
          rw [if_pos rfl]
          rw [h4] at HSL
          clear h4
          go_enter Try.func26, Try.ntmps26
          go_wp2_with fail
          refine HW.out.mono ?_
          rintro e w' ⟨rfl, rfl⟩
          go_wp2_with fail
          refine HN2.out.mono ?_
          rintro e w1 ⟨rfl, hB⟩
          have HB := Lib.hid hB
          clear hB
          go_wp2_with fail
          refine (HSL.out w1 HB.out).mono ?_
          rintro e w2 ⟨rfl, hB2⟩
          have HB2 := Lib.hid (HB.out.trans (hB2.mono HB.out.size))
          clear hB2
          go_wp2
          go_ret
          exact ⟨rfl, HB2.out⟩
        | true =>
          rw [if_neg (by decide)]
          rw [h4] at HSL
          clear h4
          go_enter Try.func26, Try.ntmps26
          go_wp2_with fail
          refine HW.out.mono ?_
          rintro e w' ⟨rfl, rfl⟩
          go_wp2_with fail
          refine HN2.out.mono ?_
          rintro e w1 ⟨rfl, hB⟩
          have HB := Lib.hid hB
          clear hB
          go_wp2_with fail
          refine (HSL.out w1 HB.out).mono ?_
          rintro e w2 ⟨rfl, hB2⟩
          have HB2 := Lib.hid (HB.out.trans (hB2.mono HB.out.size))
          clear hB2
          go_wp2
          go_ret
          exact ⟨rfl, HB2.out⟩
    · rw [if_pos hs]
      have b5 : (scanE (r + m) ps != 0) = true := by simpa using hs
      have HS := Lib.hid hs
      clear hs
      go_enter Try.func26, Try.ntmps26
      go_wp2_with fail
      refine HW.out.mono ?_
      rintro e w' ⟨rfl, rfl⟩
      go_wp2_with fail
      refine HN2.out.mono ?_
      rintro e w' ⟨rfl, hB⟩
      have HB := Lib.hid hB
      clear hB
      go_wp2
      go_ret
      exact ⟨rfl, HB.out⟩

/-- The cells of the rows with their numbers, the first k of them laid. -/
def NumTo (us : List Value) (k : Nat) (cs : Array Value) : Prop := cs.size = us.length * 2 ∧ ∀ (i : Nat) (u : Value), i < k → us[i]? = some u → cs[i * 2]? = some (.int .i64 i) ∧ cs[i * 2 + 1]? = some u
theorem numTo_next {us : List Value} {k : Nat} {cs : Array Value} {u : Value} (h : NumTo us k cs) (hu : us[k]? = some u) : NumTo us (k + 1) ((cs.setIfInBounds (k * 2) (.int .i64 k)).setIfInBounds (k * 2 + 1) u) := by
  have hk := (List.getElem?_eq_some_iff.1 hu).1
  refine ⟨by simp [h.1], fun i v hi hv => ?_⟩
  by_cases e : i = k
  · subst e
    rw [hu] at hv; injection hv with hv; subst hv
    have h1 : i * 2 < cs.size := by rw [h.1]; omega
    have h2 : i * 2 + 1 < cs.size := by rw [h.1]; omega
    simp [h1, h2]
  · obtain ⟨a, b⟩ := h.2 i v (by omega) hv
    simp only [Array.getElem?_setIfInBounds]
    rw [if_neg (by omega), if_neg (by omega), if_neg (by omega), if_neg (by omega)]
    exact ⟨a, b⟩
theorem numTo_pcs {W : World} {g : Nat} {t : TypeId} {us : List Value} {rows : List (List UInt8)} {cs : Array Value} (hK : Known W g t cs) (h : NumTo us us.length cs) (ha : AreRows W us rows) : Pcs W (some ⟨g, 0, none⟩) (numbered rows) := fun k p hp => by
  rw [numbered_at] at hp
  have hk : k < us.length := by
    rw [ha.1]
    rcases Nat.lt_or_ge k rows.length with h | h
    · exact h
    · rw [List.getElem?_eq_none h] at hp; cases hp
  have hr : rows[k]? = some (rows[k]'(by rw [← ha.1]; exact hk)) := List.getElem?_eq_getElem _
  rw [hr] at hp
  simp at hp
  subst hp
  have hu : us[k]? = some us[k] := List.getElem?_eq_getElem hk
  obtain ⟨a, b⟩ := h.2 k _ hk hu
  exact ⟨g, 0, us[k], rfl, hK.lt, by rw [Nat.zero_add]; exact (hK.cell _).trans a, by rw [Nat.zero_add]; exact (hK.cell _).trans b, ha.2 k _ _ hu hr⟩
def PcsMade (ps : List Pc) (W : World) (e : Ending) (W' : World) : Prop := ∃ g, e = .returned (.slice (some ⟨g, 0, none⟩) ps.length ps.length) ∧ Pcs W' (some ⟨g, 0, none⟩) ps ∧ Below W.heap.size W W'
theorem makePc (n : Nat) (hn : n ≤ 100) (w : World) : ∃ cs, cs.size = n * 2 ∧
    (Instr.makeSlice 29 (.int .i64 n) (.int .i64 n)).run Try.prog w = .ok (.slice (some ⟨w.heap.size, 0, none⟩) n n) (w.alloc (.cells cs 35)) := by
  obtain ⟨i, hi, z, hz0, hz1, hz2, hz3⟩ : ∃ i, Try.prog.info? 35 = some i ∧ ∃ z, i.zero = some z ∧ i.size = 2 ∧ i.bytes = 32 ∧ z.cells.size = 2 := by
    have h0 := infoPc
    cases hi : Try.prog.info? 35 with
    | none => rw [hi] at h0; cases h0
    | some i =>
      rw [hi] at h0
      simp only [Option.map_some, Option.some.injEq, Prod.mk.injEq] at h0
      cases hz : i.zero with
      | none => rw [hz] at h0; cases h0.1
      | some z =>
        rw [hz] at h0
        simp only [Option.map_some, Option.some.injEq] at h0
        exact ⟨i, rfl, z, hz, h0.2.1, h0.2.2, h0.1⟩
  have hr := run_make (P := Try.prog) w 29 35 i z Try.underlying29 hi hz0 .i64 .i64 n n (by omega) (by omega) (by rw [hz2]; omega) (by omega)
  refine ⟨_, ?_, hr⟩
  simp [madeCells, hz1]
set_option maxHeartbeats 2000000 in
theorem numbered_c (A : Option Addr) (rows : List (List UInt8)) (ca : Nat) (hl : rows.length ≤ 100) (W : World) (hR : Rds W A rows) :
    Calls Try.prog 20 #[.slice A rows.length ca] W (PcsMade (numbered rows) W) := by
  obtain ⟨us, hu, ha⟩ := hR
  have HU := Lib.hid hu
  have HA := Lib.hid ha
  obtain ⟨cs0, hs0, hmk⟩ := makePc us.length (by rw [ha.1]; exact hl) W
  have HS0 := Lib.hid hs0
  have HNL := Lib.hid (numbered_len rows)
  rw [← ha.1] at hl HNL ⊢
  have HN0 : Hid (NumTo us 0 cs0) := Lib.hid ⟨hs0, fun i u h _ => by omega⟩
  clear hu ha hs0
  generalize hN : us.length = n at *
  have HN := Lib.hid hN
  clear hN
  go_enter Try.func20, Try.ntmps20
  go_wp2
  go_loopw [11] (fun i wr => ∃ (k : Nat) (cs : Array Value), k ≤ n ∧ i = .int .i64 k ∧ NumTo us k cs ∧ Known wr W.heap.size 35 cs ∧ Below W.heap.size W wr) (fun i _ => n - (intOf i).toNat)
  case atStart => exact ⟨0, cs0, by omega, rfl, HN0.out, Known.made W _ _, (Below.refl _ _).alloc (Nat.le_refl _) _⟩
  case round =>
    obtain ⟨k, cs, hk, rfl, hT, hK, hB⟩ := hrel
    have HT := Lib.hid hT
    have HK := Lib.hid hK
    have HB := Lib.hid hB
    clear hT hK hB hmk
    by_cases hlt : k < n
    · have e0 : us[k]? = some (us[k]'(by rw [HN.out]; exact hlt)) := List.getElem?_eq_getElem _
      generalize us[k]'(by rw [HN.out]; exact hlt) = u at e0
      obtain ⟨b, o, rfl, hb, cu⟩ := (HU.out.below HB.out) k u e0
      obtain ⟨C, c, rfl, hr2, _, _⟩ := HA.out.2 k u _ e0 (List.getElem?_eq_getElem (by rw [← HA.out.1, HN.out]; exact hlt))
      have EU := Lib.hid e0
      have csz := HT.out.1
      have f0 := HK.out.free (k * 2)
      have f1 := HK.out.free (k * 2 + 1)
      have c0 : ∃ v, wr.cell? ⟨W.heap.size, k * 2, none⟩ = some v := ⟨cs[k * 2]'(by rw [csz, HN.out]; omega), by rw [HK.out.cell]; exact Array.getElem?_eq_getElem _⟩
      have c1 : ∃ v, wr.cell? ⟨W.heap.size, k * 2 + 1, none⟩ = some v := ⟨cs[k * 2 + 1]'(by rw [csz, HN.out]; omega), by rw [HK.out.cell]; exact Array.getElem?_eq_getElem _⟩
      obtain ⟨v0, c0⟩ := c0
      obtain ⟨v1, c1⟩ := c1
      have i1 : (k : Int) < (n : Int) := by omega
      clear e0 hb csz hr2
      go_wp2
      go_roundw
      case rel => exact ⟨k + 1, _, by omega, by go_num, numTo_next HT.out EU.out, (HK.out.put _ _).put _ _, (HB.out.setCell (Nat.le_refl _) _).setCell (Nat.le_refl _) _⟩
      case measure => simp [intOf]; omega
    · obtain rfl : k = n := by omega
      go_wp2
      go_ret
      refine ⟨W.heap.size, by rw [HNL.out]; rfl, numTo_pcs HK.out (by rw [HN.out]; exact HT.out) ⟨HA.out.1, fun k u r h1 h2 => (HA.out.2 k u r h1 h2).below HB.out⟩, HB.out⟩
end Go.Proofs.Ytomhcjnhhdbhjaa.Cdr
