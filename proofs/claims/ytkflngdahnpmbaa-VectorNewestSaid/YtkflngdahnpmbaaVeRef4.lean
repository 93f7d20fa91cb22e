/-
  The document's own answers of package vector: PNewest.
-/
import Derived.Test.YtkflngdahnpmbaaVeRef3
namespace Go.Proofs.Ytkflngdahnpmbaa.Ve
set_option linter.unusedVariables false
set_option linter.unusedSimpArgs false
open Go.RowKit Mem Gt
open Jump (Gave equalZ_c)

theorem infoV : (Try.prog.info? 22).map (fun i => (i.zero, i.size, i.bytes)) = some (some (.slice none 0 0), 1, 24) := by kernel_rfl
theorem elemV : Elem 23 22 24 := by
  obtain ⟨i, hi, hz0, hz1, hz2⟩ := info_parts infoV
  exact ⟨Try.underlying23, i, _, hi, hz0, hz1, hz2, rfl⟩
/-- A slice of the call's own that holds vectors that lay there at W0. -/
def Outs (W0 wr : World) (s : Value) (outs : List Ve) : Prop := ∃ us, Grows wr W0.heap.size 22 s us ∧ us.length = outs.length ∧ ∀ (j : Nat) (u : Value) (r : Ve), us[j]? = some u → outs[j]? = some r → IsV W0 u r
theorem Outs.nil (W0 wr : World) : Outs W0 wr (.slice none 0 0) [] := ⟨[], Grows.nil _ _ _, rfl, fun j u r h _ => by simp at h⟩
section
variable {W0 wr V : World} {s : Value} {outs : List Ve}
theorem Outs.drawn (h : Outs W0 wr s outs) (hd : Drawn wr V) : Outs W0 V s outs := by obtain ⟨us, h1, h2⟩ := h; exact ⟨us, h1.drawn hd, h2⟩
theorem Outs.form (h : Outs W0 wr s outs) : ∃ A cap, s = .slice A outs.length cap ∧ outs.length ≤ cap ∧ cap ≤ maxLen := by
  obtain ⟨us, h1, h2, _⟩ := h
  obtain ⟨A, c, h3, h4, h5⟩ := h1.form
  exact ⟨A, c, by rw [h3, h2], by omega, h5⟩
theorem Outs.rds {A : Option Addr} {n c : Nat} (h : Outs W0 wr (.slice A n c) outs) (hb : Below W0.heap.size W0 wr) : VRds wr A outs := by
  obtain ⟨us, h1, h2, h3⟩ := h
  exact ⟨us, h1.reads, h2, fun k u l hu hl => (h3 k u l hu hl).below hb⟩
end
/-- 'append(out, a)' -/
theorem wpList_append_v {W0 : World} {ops : Array Oper} {rest : List Oper} {o : Oper} {a : Act} {Q : Exit → Act → World → Prop} (hgd : o.guard = none) (s x : Operand)
    (ho : o.op = .call { callee := .builtin .append, args := #[s, x], argTypes := #[23, 23] }) {w : World} {C : Option Addr} {n c : Nat} {r : Ve} {v : Value} {outs : List Ve} (hs : a.eval s = v)
    (hx : a.eval x = .slice (some ⟨w.heap.size, 0, none⟩) 1 1) (hg : Outs W0 w v outs) (hr : IsV W0 (.slice C n c) r) (hl : outs.length ≤ 400) (hb : Below W0.heap.size W0 w)
    (h : ∀ v' w', Hid (Outs W0 w' v' (outs ++ [r])) → Hid (Below W0.heap.size W0 w') → wpList Try.prog ops Q rest (a.put o.dst v') w') :
    wpList Try.prog ops Q (o :: rest) a (w.alloc (.cells #[.slice C n c] 22)) := by
  obtain ⟨us, h1, h2, h3⟩ := hg
  refine wpList_append_one elemV hgd s x ho rfl hs hx h1 (by unfold maxLen; omega) (by omega) hb.size ?_
  intro v' w' hG hg
  refine h v' w' ⟨us ++ [.slice C n c], hG, by simp [h2], fun j u q hu hq => ?_⟩ ((h1.alloc _).below hg (hb.alloc hb.size _) (Nat.le_refl _) (by simp; have := hb.size; omega))
  by_cases hj : j < us.length
  · rw [List.getElem?_append_left hj] at hu
    rw [List.getElem?_append_left (by omega)] at hq
    exact h3 j u q hu hq
  · rw [List.getElem?_append_right (by omega)] at hu
    rw [List.getElem?_append_right (by omega), ← h2] at hq
    rcases Nat.eq_zero_or_pos (j - us.length) with h0 | h0
    · rw [h0] at hu hq; simp at hu hq; subst hu hq; exact hr
    · rw [List.getElem?_eq_none (by simp; omega)] at hu; cases hu
def topTo (l : List Ve) (a : Ve) : Bool := l.all (fun b => !under a b || under b a)
def newTo (out : List Ve) (a : Ve) : Bool := out.all (fun b => decide (cmp a b ≠ 1))
theorem topTo_step {l : List Ve} {a b : Ve} {j : Nat} (h : l[j]? = some b) : topTo (l.take (j + 1)) a = (topTo (l.take j) a && (!under a b || under b a)) := by rw [List.take_add_one, h]; unfold topTo; rw [List.all_append]; simp
theorem newTo_step {l : List Ve} {a b : Ve} {j : Nat} (h : l[j]? = some b) : newTo (l.take (j + 1)) a = (newTo (l.take j) a && decide (cmp a b ≠ 1)) := by rw [List.take_add_one, h]; unfold newTo; rw [List.all_append]; simp
def newsTo (ls : List Ve) (k : Nat) : List Ve := (ls.take k).foldl (newStep ls) []
theorem newsTo_step {ls : List Ve} {k : Nat} {a : Ve} (h : ls[k]? = some a) : newsTo ls (k + 1) = if (topTo ls a && newTo (newsTo ls k) a) = true then newsTo ls k ++ [a] else newsTo ls k := by
  unfold newsTo
  rw [List.take_add_one, h, List.foldl_append]
  rfl
theorem newsTo_len (ls : List Ve) : ∀ k, (newsTo ls k).length ≤ k
  | 0 => by simp [newsTo]
  | k + 1 => by
    have := newsTo_len ls k
    cases h : ls[k]? with
    | none =>
      have e : newsTo ls (k + 1) = newsTo ls k := by unfold newsTo; rw [List.take_add_one, h]; simp
      rw [e]; omega
    | some a =>
      rw [newsTo_step h]
      split
      · simp; omega
      · omega
theorem newsTo_wide {ls : List Ve} {q : Nat} (h : ∀ v ∈ ls, v.length = q) : ∀ k, ∀ v ∈ newsTo ls k, v.length = q
  | 0, v, hv => by simp [newsTo] at hv
  | k + 1, v, hv => by
    cases hk : ls[k]? with
    | none =>
      have e : newsTo ls (k + 1) = newsTo ls k := by unfold newsTo; rw [List.take_add_one, hk]; simp
      rw [e] at hv; exact newsTo_wide h k v hv
    | some a =>
      rw [newsTo_step hk] at hv
      split at hv
      · rcases List.mem_append.1 hv with hv | hv
        · exact newsTo_wide h k v hv
        · simp at hv; subst hv; exact h _ (List.mem_of_getElem? hk)
      · exact newsTo_wide h k v hv
theorem newsTo_all {ls : List Ve} {n : Nat} (h : ls.length = n) : newsTo ls n = newest ls := by unfold newsTo newest; rw [List.take_of_length_le (Nat.le_of_eq h)]
def PNOut (l : List Ve) (n : Nat) (W : World) (x : Ending) (W' : World) : Prop := ∃ A c, x = .returned (.slice A n c) ∧ (n ≤ c ∧ c ≤ 9223372036854775807) ∧ VRds W' A l ∧ Below W.heap.size W W'
set_option maxRecDepth 100000 in
set_option maxHeartbeats 4000000 in
theorem pnewest_c (A : Option Addr) (ls : List Ve) (n ca q : Nat) (V : World) (k : Nat) (hn : ls.length = n) (hbig : n ≤ 400) (hq : ∀ v ∈ ls, v.length = q) (hx : VRds V A ls) (hk : (newest ls).length = k) :
    Calls Try.prog 18 #[.slice A n ca] V (PNOut (newest ls) k V) := by
  have HX := Lib.hid hx
  have HN := Lib.hid hn
  have HQ := Lib.hid hq
  have HK := Lib.hid hk
  clear hx hn hq hk
  go_enter Try.func18, Try.ntmps18
  go_wp2_with fail
  go_loopw [3, 13] (fun s i wr => ∃ (i0 m c : Nat) (A2 : Option Addr), i0 ≤ n ∧ i = .int .i64 i0 ∧ s = .slice A2 m c ∧ (newsTo ls i0).length = m ∧ Outs V wr s (newsTo ls i0) ∧ Below V.heap.size V wr) (fun _ i _ => n - (intOf i).toNat)
  case atStart => exact ⟨0, 0, 0, none, by omega, rfl, rfl, rfl, Outs.nil _ _, Below.refl _ _⟩
  case round =>
    obtain ⟨i, m, c, A2, hi, rfl, rfl, hm, hO, hB⟩ := hrel
    obtain ⟨wo, rfl⟩ : ∃ wo : World, wo = wr := ⟨_, rfl⟩
    have HM := Lib.hid hm
    have HO := Lib.hid hO
    have BB := Lib.hid hB
    have HF := Lib.hid hO.form
    clear hm hO
    by_cases hlt : i < n
    · have kl : i < ls.length := by rw [HN.out]; exact hlt
      obtain ⟨a, ha⟩ : ∃ a, ls[i]? = some a := ⟨_, List.getElem?_eq_getElem kl⟩
      obtain ⟨b1, o1, C, ac, rfl, _, y0, hlc, hc, hrd⟩ := (HX.out.below hB).row ha
      rw [HQ.out a (List.mem_of_getElem? ha)] at y0 hlc hc
      have IV := Lib.hid (show IsV V (.slice C q ac) a by
        obtain ⟨b, o, C', c', e1, _, y, h2, h3, h4⟩ := HX.out.row ha
        rw [HQ.out a (List.mem_of_getElem? ha)] at y h2 h3
        injection e1 with e1; injection e1 with e2 e3
        subst e2 e3
        have hb0 := (hB.cell (World.block_lt_of_cell? _ _ y)).trans y
        rw [y0] at hb0
        injection hb0 with hb0; injection hb0 with e4 e5 e6
        subst e4 e6
        exact ⟨C, ac, by rw [HQ.out a (List.mem_of_getElem? ha)], by rw [HQ.out a (List.mem_of_getElem? ha)]; exact h2, by rw [HQ.out a (List.mem_of_getElem? ha)]; exact h3, h4⟩)
      have HA := Lib.hid ha
      have LA := Lib.hid (HQ.out a (List.mem_of_getElem? ha))
      have RA := Lib.hid hrd
      have j1 : (i : Int) < (n : Int) := by omega
      clear kl ha hrd hB
      go_wp2_with fail
      go_loopw [6, 19] (fun f j wr => ∃ (j0 : Nat) (p : Bool), j0 ≤ n ∧ j = .int .i64 j0 ∧ f = .bool p ∧ p = topTo (ls.take j0) a ∧ Drawn wo wr) (fun _ j _ => n - (intOf j).toNat)
      case atStart => exact ⟨0, true, by omega, rfl, rfl, rfl, Drawn.refl _⟩
      case round =>
        obtain ⟨j, p, hj, rfl, rfl, hp, hD⟩ := hrel
        have HP := Lib.hid hp
        have DD := Lib.hid hD
        clear hp
        by_cases hlt2 : j < n
        · have kl : j < ls.length := by rw [HN.out]; exact hlt2
          obtain ⟨b, hb⟩ : ∃ b, ls[j]? = some b := ⟨_, List.getElem?_eq_getElem kl⟩
          obtain ⟨b2, o2, C2, bc, e2, _, y2, hl2, hc2, hr2⟩ := ((HX.out.below BB.out).below (hD.below _)).row hb
          injection e2 with e2
          injection e2 with e3 e4
          subst e3 e4
          have hbl := HQ.out b (List.mem_of_getElem? hb)
          rw [hbl] at y2 hl2 hc2
          have j2 : (j : Int) < (n : Int) := by omega
          have TS := Lib.hid (topTo_step (a := a) hb)
          rw [← HP.out] at TS
          have P1 := Lib.hid (punder_d C C2 a b q ac bc wr LA.out hbl (by omega) (RA.out.drawn hD) hr2)
          have P2 := Lib.hid (fun (w : World) (hw : Drawn wr w) => punder_d C2 C b a q bc ac w hbl LA.out (by omega) (hr2.drawn hw) ((RA.out.drawn hD).drawn hw))
          clear kl hb hr2 hbl hD
          cases p with
          | false =>
            have E := Lib.hid (show false = topTo (ls.take (j + 1)) a by rw [TS.out]; rfl)
            clear P1 P2 TS
            go_wp2
            go_roundw
            case rel => exact ⟨j + 1, false, by omega, by go_num, rfl, E.out, DD.out⟩
            case measure => simp [intOf]; omega
          | true =>
            cases h1 : under a b with
            | false =>
              rw [h1] at P1 TS
              have E := Lib.hid (show true = topTo (ls.take (j + 1)) a by rw [TS.out]; rfl)
              clear P2 TS h1
              go_wp2_with fail
              refine P1.out.mono ?_
              rintro e w1 ⟨rfl, hd1⟩
              have D1 := Lib.hid (DD.out.trans hd1)
              clear hd1
              go_wp2
              go_roundw
              case rel => exact ⟨j + 1, true, by omega, by go_num, rfl, E.out, D1.out⟩
              case measure => simp [intOf]; omega
            | true =>
              rw [h1] at P1 TS
              obtain ⟨r, hr⟩ : ∃ r, under b a = r := ⟨_, rfl⟩
              rw [hr] at P2 TS
              have E := Lib.hid (show r = topTo (ls.take (j + 1)) a by rw [TS.out]; simp)
              clear TS h1 hr
              go_wp2_with fail
              refine P1.out.mono ?_
              rintro e w1 ⟨rfl, hd1⟩
              have P3 := Lib.hid (P2.out w1 hd1)
              have D1 := Lib.hid (DD.out.trans hd1)
              clear hd1 P2
              go_wp2_with fail
              refine P3.out.mono ?_
              rintro e w2 ⟨rfl, hd2⟩
              have D2 := Lib.hid (D1.out.trans hd2)
              clear hd2
              go_wp2
              go_roundw
              case rel => exact ⟨j + 1, r, by omega, by go_num, rfl, E.out, D2.out⟩
              case measure => simp [intOf]; omega
        · obtain rfl : j = n := by omega
          have TP := Lib.hid (show p = topTo ls a by rw [HP.out, List.take_of_length_le (Nat.le_of_eq HN.out)])
          obtain ⟨w3, rfl⟩ : ∃ w3 : World, w3 = wr := ⟨_, rfl⟩
          have B3 := Lib.hid (BB.out.trans ((hD.below V.heap.size)))
          have O3 := Lib.hid (HO.out.drawn hD)
          have R3 := Lib.hid (O3.out.rds B3.out)
          have RA3 := Lib.hid (RA.out.drawn hD)
          have WQ := Lib.hid (newsTo_wide HQ.out i)
          have N400 := Lib.hid (newsTo_len ls i)
          have ST := Lib.hid (newsTo_step HA.out)
          rw [← TP.out] at ST
          clear hD HP TP
          generalize hno : newsTo ls i = outs at *
          have hm400 : m ≤ 400 := by have h1 := N400.out; have h2 := HM.out; omega
          go_wp2_with fail
          go_loopw [6, 38] (fun f t wr => ∃ (t0 : Nat) (g : Bool), t0 ≤ m ∧ t = .int .i64 t0 ∧ f = .bool g ∧ g = (p && newTo (outs.take t0) a) ∧ Drawn w3 wr) (fun _ t _ => m - (intOf t).toNat)
          case atStart => exact ⟨0, p, by omega, rfl, rfl, by simp [newTo], Drawn.refl _⟩
          case round =>
            obtain ⟨t, g, ht, rfl, rfl, hg, hD⟩ := hrel
            have HG := Lib.hid hg
            have D4 := Lib.hid hD
            clear hg
            by_cases hlt3 : t < m
            · have kl : t < outs.length := by rw [HM.out]; exact hlt3
              obtain ⟨b, hb⟩ : ∃ b, outs[t]? = some b := ⟨_, List.getElem?_eq_getElem kl⟩
              obtain ⟨b2, o2, C2, bc, rfl, _, y2, hl2, hc2, hr2⟩ := (R3.out.below (hD.below _)).row hb
              have hbl := WQ.out b (List.mem_of_getElem? hb)
              rw [hbl] at y2 hl2 hc2
              have j2 : (t : Int) < (m : Int) := by omega
              have TS := Lib.hid (show (p && newTo (outs.take (t + 1)) a) = (g && decide (cmp a b ≠ 1)) by rw [newTo_step hb, HG.out, Bool.and_assoc])
              obtain ⟨r, hr⟩ : ∃ r, cmp a b = r := ⟨_, rfl⟩
              have P1 := Lib.hid (pcompare_d C C2 a b q ac bc wr r LA.out hbl (by omega) (RA3.out.drawn hD) hr2 hr)
              rw [hr] at TS
              clear kl hb hr2 hbl hD hr
              cases g with
              | false =>
                have E := Lib.hid (show false = (p && newTo (outs.take (t + 1)) a) by rw [TS.out]; rfl)
                clear P1 TS
                go_wp2
                go_roundw
                case rel => exact ⟨t + 1, false, by omega, by go_num, rfl, E.out, D4.out⟩
                case measure => simp [intOf]; omega
              | true =>
                by_cases h1 : r = 1
                · have E := Lib.hid (show false = (p && newTo (outs.take (t + 1)) a) by rw [TS.out, h1]; rfl)
                  subst h1
                  clear TS
                  go_wp2_with fail
                  refine P1.out.mono ?_
                  rintro e w1 ⟨rfl, hd1⟩
                  have D1 := Lib.hid (D4.out.trans hd1)
                  clear hd1
                  go_wp2
                  go_roundw
                  case rel => exact ⟨t + 1, false, by omega, by go_num, rfl, E.out, D1.out⟩
                  case measure => simp [intOf]; omega
                · have E := Lib.hid (show true = (p && newTo (outs.take (t + 1)) a) by rw [TS.out, decide_eq_true h1]; rfl)
                  clear TS
                  go_wp2_with fail
                  refine P1.out.mono ?_
                  rintro e w1 ⟨rfl, hd1⟩
                  have D1 := Lib.hid (D4.out.trans hd1)
                  clear hd1
                  go_wp2
                  go_roundw
                  case rel => exact ⟨t + 1, true, by omega, by go_num, congrArg Value.bool (bne_iff_ne.2 h1), E.out, D1.out⟩
                  case measure => simp [intOf]; omega
            · obtain rfl : t = m := by omega
              have O4 := Lib.hid (O3.out.drawn hD)
              have B4 := Lib.hid (B3.out.trans (hD.below V.heap.size))
              have GE := Lib.hid (show g = (p && newTo outs a) by rw [HG.out, List.take_of_length_le (Nat.le_of_eq HM.out)])
              rw [← GE.out] at ST
              clear hD HG GE
              cases g with
              | false =>
                have S2 := Lib.hid (show newsTo ls (i + 1) = outs by rw [ST.out]; rfl)
                clear ST
                go_wp2
                go_roundw
                case rel => exact ⟨i + 1, t, c, A2, by omega, by go_num, rfl, by rw [S2.out]; exact HM.out, by rw [S2.out]; exact O4.out, B4.out⟩
                case measure => simp [intOf]; omega
              | true =>
                have S2 := Lib.hid (show newsTo ls (i + 1) = outs ++ [a] by rw [ST.out]; rfl)
                clear ST
                go_wp2_with (at_builtin; refine wpList_append_v (W0 := V) rfl (.tmp 51) (.tmp 53) rfl rfl rfl O4.out IV.out ?c3 B4.out ?_)
                case c3 => have := N400.out; omega
                intro v' w5 hO5 hB5
                obtain ⟨A5, c5, hv, _, _⟩ := hO5.out.form
                rw [List.length_append, HM.out] at hv
                subst hv
                go_wp2
                go_roundw
                case rel => exact ⟨i + 1, t + 1, c5, A5, by omega, by go_num, rfl, by rw [S2.out, List.length_append, HM.out]; rfl, by rw [S2.out]; exact hO5.out, hB5.out⟩
                case measure => simp [intOf]; omega
    · obtain rfl : i = n := by omega
      have E := Lib.hid (newsTo_all HN.out)
      rw [E.out] at HM HO HF
      obtain rfl : m = k := HM.out.symm.trans HK.out
      have R := Lib.hid (HO.out.rds hB)
      have CB := Lib.hid (show m ≤ c ∧ c ≤ 9223372036854775807 by
        obtain ⟨A', c', e1, e2, e3⟩ := HF.out
        injection e1 with e4 e5 e6
        subst e6
        unfold maxLen at e3
        omega)
      clear hB HF
      go_wp2
      go_ret
      exact ⟨A2, c, rfl, CB.out, R.out, BB.out⟩
end Go.Proofs.Ytkflngdahnpmbaa.Ve
