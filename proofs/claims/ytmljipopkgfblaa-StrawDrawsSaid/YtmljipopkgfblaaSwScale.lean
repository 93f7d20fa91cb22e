/-
  StrawScale over what the laws take of the program.
-/
import Derived.Test.YtmljipopkgfblaaSwSpec
import Derived.Test.YtmljipopkgfblaaSwEqZ
namespace Go.Proofs.Ytmljipopkgfblaa.Straw
set_option linter.unusedVariables false
set_option linter.unusedSimpArgs false
open Go.RowKit Mem

theorem scan_scale {c : Nat} (hc : 1 ≤ c) {l : List It} (hw : ∀ a ∈ l, 0 ≤ a.2) (had : List Int) : scanW had (l.map (scale c)) = 2 ∨ scanW had l = scanW had (l.map (scale c)) := by
  induction l generalizing had with
  | nil => exact .inr rfl
  | cons a l ih =>
    have ha := hw a (by simp)
    have hmul : a.2 ≤ a.2 * (c : Int) := by
      have := Int.mul_le_mul_of_nonneg_left (show (1 : Int) ≤ c by omega) ha
      omega
    show scanW had (scale c a :: l.map (scale c)) = 2 ∨ scanW had (a :: l) = scanW had (scale c a :: l.map (scale c))
    rw [scanW, scanW]
    by_cases h1 : BadIt (scale c a)
    · rw [if_pos h1]; exact .inl rfl
    · rw [if_neg h1]
      have h2 : ¬ BadIt a := fun h => h1 (by unfold BadIt at *; show a.1 < 0 ∨ 1099511627776 < a.1 ∨ a.2 * (c : Int) < 0 ∨ 100 < a.2 * (c : Int); omega)
      rw [if_neg h2]
      show (if a.1 ∈ had then (6 : Int) else _) = 2 ∨ _ = (if a.1 ∈ had then (6 : Int) else _)
      by_cases h3 : a.1 ∈ had
      · rw [if_pos h3, if_pos h3]; exact .inr rfl
      · rw [if_neg h3, if_neg h3]
        exact ih (fun b hb => hw b (List.mem_cons_of_mem _ hb)) _
theorem some_scale {key : UInt64} {c : Nat} (hc : 1 ≤ c) {l : List It} (hw : ∀ a ∈ l, 0 ≤ a.2) (many : Int) :
    someE key (l.map (scale c)) many = 2 ∨ (someE key l many = someE key (l.map (scale c)) many ∧ someL key l many = someL key (l.map (scale c)) many) := by
  have hwr : wrongE (l.map (scale c)) = 2 ∨ wrongE l = wrongE (l.map (scale c)) := by
    unfold wrongE
    rw [List.length_map]
    split
    · exact .inl rfl
    · exact scan_scale hc hw []
  rcases hwr with h | h
  · left
    unfold someE; rw [h]; rfl
  · by_cases h0 : wrongE l = 0
    · have hv := wrongE_zero.1 h0
      have hi := ids_scale (key := key) hc hv.2.2
      have hE : someE key l many = someE key (l.map (scale c)) many := by unfold someE; rw [← h, hi]
      exact .inr ⟨hE, by unfold someL; rw [← hE, hi]⟩
    · have hE : someE key l many = someE key (l.map (scale c)) many := by unfold someE; rw [← h, if_pos h0, if_pos h0]
      refine .inr ⟨hE, ?_⟩
      have hne : someE key l many ≠ 0 := fun e => h0 (wrongE_zero.2 (someE_zero.1 e).1)
      unfold someL
      rw [← hE, if_neg hne, if_neg hne]
/-- Scaled up to k. -/
def part (l : List It) (c k : Nat) : List It := (l.take k).map (scale c) ++ l.drop k
theorem part_len (l : List It) (c k : Nat) (h : k ≤ l.length) : (part l c k).length = l.length := by unfold part; simp; omega
theorem part_at {l : List It} {c k : Nat} {a : It} (h : l[k]? = some a) : (part l c k)[k]? = some a ∧ (part l c k).set k (scale c a) = part l c (k + 1) := by
  obtain ⟨h1, rfl⟩ := List.getElem?_eq_some_iff.1 h
  have hl : ((l.take k).map (scale c)).length = k := by simp; omega
  unfold part
  refine ⟨?_, ?_⟩
  · rw [List.getElem?_append_right (by omega), hl, Nat.sub_self, List.getElem?_drop, Nat.add_zero]; exact h
  · rw [List.set_append_right _ _ (by omega), hl, Nat.sub_self, List.drop_eq_getElem_cons h1, List.set_cons_zero, List.take_succ_eq_append_getElem h1, List.map_append]
    simp
theorem part_end (l : List It) (c : Nat) : part l c l.length = l.map (scale c) := by unfold part; simp
theorem flat_setW (es : List It) (k : Nat) (e : It) (x : Int) (hk : es[k]? = some e) : (flat es).set (k * 2 + 1) (.int .i64 x) = flat (es.set k (e.1, x)) := by
  induction es generalizing k with
  | nil => simp at hk
  | cons y es ih =>
    cases k with
    | zero => simp at hk; subst hk; rfl
    | succ k =>
      have h2 := ih k (by simpa using hk)
      rw [show (k + 1) * 2 + 1 = k * 2 + 1 + 2 by omega]
      simp only [flat, List.set_cons_succ, ← h2]
theorem WTab.putW {W : World} {B g n cap k : Nat} {es : List It} {e : It} (h : WTab W B (.slice (some ⟨g, 0, none⟩) n cap) es) (hn : n = es.length) (hk : es[k]? = some e) (x : Int) :
    WTab (W.setCell ⟨g, k * 2 + 1, none⟩ (.int .i64 x)) B (.slice (some ⟨g, 0, none⟩) n cap) (es.set k (e.1, x)) := by
  subst hn
  unfold WTab at h ⊢
  have h1 := (World.ownsRow.stored h (k * 2 + 1) (.int .i64 x)).1
  rw [flat_setW es k e x hk] at h1
  rw [List.length_set]
  exact h1
theorem WTab.cap {W : World} {B n c : Nat} {A : Option Addr} {es : List It} (h : WTab W B (.slice A n c) es) : n ≤ c := by
  obtain ⟨A', cap, e, h1, _⟩ := h.form
  simp only [Value.slice.injEq] at e
  omega
theorem scale_fits {l : List It} {c : Nat} (hf : Fits l) (hw : ∀ a ∈ l, 0 ≤ a.2 ∧ a.2 ≤ 100) (hc : c ≤ 9) : Fits (l.map (scale c)) := fun a ha => by
  obtain ⟨b, hb, rfl⟩ := List.mem_map.1 ha
  refine ⟨(hf b hb).1, ?_⟩
  obtain ⟨h1, h2⟩ := hw b hb
  have h3 : 0 ≤ b.2 * (c : Int) := Int.mul_nonneg h1 (by omega)
  have h4 : b.2 * (c : Int) ≤ 100 * 9 := Int.mul_le_mul h2 (by omega) (by omega) (by omega)
  show (Lit.int .i64 (b.2 * (c : Int))).wf = true
  simp [Lit.wf, IntKind.min, IntKind.max, IntKind.bits, IntKind.signed]; omega
set_option maxRecDepth 100000 in
set_option maxHeartbeats 8000000 in
theorem scale_law (HS : SomeSpec) (HA : ∀ V, Calls Try.prog 16 #[] V (Law.Yes V)) (key : UInt64) (A : Option Addr) (l : List It) (n ca : Nat) (by_ many : Int) (W : World) (hn : l.length = n) (hbig : n ≤ 8796093022208) (hca : n ≤ ca) (hx : WRds W A l) (hf : Fits l) :
    Calls Try.prog 7 #[.int .u64 key.toNat, .slice A n ca, .int .i64 by_, .int .i64 many] W (Law.Yes W) := by
  have HAL := Lib.hid HA
  by_cases hby : by_ < 1 ∨ 9 < by_
  · clear hn hx hf HA HS
    by_cases h1 : by_ < 1
    · have q1 : decide (by_ < 1) = true := decide_eq_true h1
      clear hby
      go_enter Try.func7, Try.ntmps7
      go_wp2_with fail
      refine (HAL.out _).mono ?_
      rintro e w1 ⟨rfl, hb⟩
      have B1 := Lib.hid hb
      clear hb
      go_wp2
      go_ret
      exact ⟨rfl, B1.out⟩
    · have q1 : decide (by_ < 1) = false := decide_eq_false h1
      have h2 : 9 < by_ := by omega
      have q2 : decide (9 < by_) = true := decide_eq_true h2
      clear hby
      go_enter Try.func7, Try.ntmps7
      go_wp2_with fail
      refine (HAL.out _).mono ?_
      rintro e w1 ⟨rfl, hb⟩
      have B1 := Lib.hid hb
      clear hb
      go_wp2
      go_ret
      exact ⟨rfl, B1.out⟩
  · obtain ⟨c, rfl⟩ : ∃ c : Nat, by_ = c := ⟨by_.toNat, by omega⟩
    have hc1 : 1 ≤ c := by omega
    have hc9 : c ≤ 9 := by omega
    have q1 : decide ((c : Int) < 1) = false := by rw [decide_eq_false_iff_not]; omega
    have q2 : decide ((9 : Int) < (c : Int)) = false := by rw [decide_eq_false_iff_not]; omega
    have HX := Lib.hid hx
    have HN := Lib.hid hn
    have HF := Lib.hid hf
    have HSS := Lib.hid HS
    clear hn hx hf HA HS hby
    go_enter Try.func7, Try.ntmps7
    go_wp2_with fail
    refine (HAL.out _).mono ?_
    rintro e w1 ⟨rfl, hb⟩
    have B1 := Lib.hid hb
    clear hb HAL
    go_wp2_with fail
    refine (clone_w A l n ca w1 HN.out hbig (HX.out.below B1.out)).mono ?_
    rintro e w2 ⟨A2, c2, rfl, hT, hc2, hb⟩
    have T2 := Lib.hid (show WTab w2 W.heap.size (.slice A2 n c2) (part l c 0) from by have := hT.down B1.out.size; simpa [part] using this)
    have B2 := Lib.hid (B1.out.trans (hb.mono B1.out.size))
    clear hb hT B1 q1 q2
    go_wp2
    go_loopw [27] (fun i wr => ∃ k : Nat, k ≤ n ∧ i = .int .i64 k ∧ (∀ a ∈ l.take k, 0 ≤ a.2 ∧ a.2 ≤ 100) ∧ WTab wr W.heap.size (.slice A2 n c2) (part l c k) ∧ Below W.heap.size W wr) (fun i _ => n - (intOf i).toNat)
    case atStart => exact ⟨0, by omega, rfl, fun a ha => by simp at ha, T2.out, B2.out⟩
    case round =>
      obtain ⟨k, hk, rfl, hw, hT, hB⟩ := hrel
      have HW := Lib.hid hw
      have HT := Lib.hid hT
      have HB := Lib.hid hB
      clear T2 B2 hw
      by_cases hlt : k < n
      · have k1 : k < l.length := by rw [HN.out]; exact hlt
        have pl : (part l c k).length = n := by rw [part_len l c k (by omega), HN.out]
        obtain ⟨g, rfl, hnn, hg, hgl⟩ := hT.head (by omega)
        have e0 : l[k]? = some l[k] := List.getElem?_eq_getElem k1
        obtain ⟨p1, p2⟩ := part_at (c := c) e0
        obtain ⟨b, o, e, _, x0, x1⟩ := hT.rds k _ p1
        injection e with e
        injection e with e1 e2
        subst e1 e2
        rw [Nat.zero_add] at x0 x1
        have f1 := hT.free hnn (k * 2 + 1)
        have PW := Lib.hid (fun x => hT.putW hnn p1 x)
        have BW := Lib.hid (fun x => hB.setCell (p := ⟨g, k * 2 + 1, none⟩) hg (.int .i64 x))
        have TK := Lib.hid (show ∀ a ∈ l.take (k + 1), a ∈ l.take k ∨ a = l[k] from fun a ha => by rw [List.take_succ_eq_append_getElem k1] at ha; rcases List.mem_append.1 ha with h | h; exact .inl h; exact .inr (List.mem_singleton.1 h))
        generalize hu : l[k] = u at *
        obtain ⟨u0, u1⟩ := u
        have P2 := Lib.hid p2
        have i1 : (k : Int) < (n : Int) := by omega
        clear hu k1 pl hnn hg hgl e0 p1 p2 hT hB x0
        by_cases h0 : u1 < 0
        · have r0 : decide (u1 < 0) = true := decide_eq_true h0
          go_wp2
          go_ret
          exact ⟨rfl, HB.out⟩
        · have r0 : decide (u1 < 0) = false := decide_eq_false h0
          by_cases h1 : 100 < u1
          · have r1 : decide (100 < u1) = true := decide_eq_true h1
            go_wp2
            go_ret
            exact ⟨rfl, HB.out⟩
          · have r1 : decide (100 < u1) = false := decide_eq_false h1
            have m1 : u1 * (c : Int) ≤ 900 := by
              have := Int.mul_le_mul (show u1 ≤ 100 by omega) (show (c : Int) ≤ 9 by omega) (by omega) (by omega); omega
            have m0 : 0 ≤ u1 * (c : Int) := Int.mul_nonneg (by omega) (by omega)
            have SC := Lib.hid (show scale c (u0, u1) = (u0, u1 * (c : Int)) from rfl)
            have mw : IntKind.i64.wrap (u1 * (c : Int)) = u1 * (c : Int) := IntWalk.i64_in _ (by omega)
            have U0 := Lib.hid (show 0 ≤ u1 ∧ u1 ≤ 100 by omega)
            generalize hx : u1 * (c : Int) = x at *
            clear mw
            go_wp2
            go_roundw
            case rel => exact ⟨k + 1, by omega, by go_num, fun a ha => by rcases TK.out a ha with h | h; exact HW.out a h; rw [h]; exact U0.out, by rw [← P2.out, SC.out]; exact PW.out x, BW.out x⟩
            case measure => simp [intOf]; omega
      · obtain rfl : k = n := by omega
        have PE := Lib.hid (show part l c k = l.map (scale c) by rw [← HN.out]; exact part_end l c)
        have AW := Lib.hid (show ∀ a ∈ l, 0 ≤ a.2 ∧ a.2 ≤ 100 from fun a ha => HW.out a (by rw [List.take_of_length_le (by rw [HN.out]; omega)]; exact ha))
        have FM := Lib.hid (scale_fits HF.out AW.out hc9)
        have C2 := Lib.hid (WTab.cap hT)
        have S1 := Lib.hid (HSS.out key A l k ca many wr HN.out (by unfold maxLen; omega) hca (HX.out.below hB) HF.out)
        have S2 := Lib.hid (fun V (hb : Below wr.heap.size wr V) => HSS.out key A2 (l.map (scale c)) k c2 many V (by rw [List.length_map, HN.out]) (by unfold maxLen; omega) C2.out (by have := hT.rds.below hb; rwa [PE.out] at this) FM.out)
        have HE := Lib.hid (some_scale (key := key) hc1 (fun a ha => (AW.out a ha).1) many)
        have V1 := Lib.hid (someE_vals key l many)
        have LA := Lib.hid (someL_len key l many)
        clear hT hB HW HT
        generalize hE1 : someE key l many = e1 at *
        generalize hE2 : someE key (l.map (scale c)) many = e2 at *
        generalize hL1 : someL key l many = l1 at *
        generalize hL2 : someL key (l.map (scale c)) many = l2 at *
        clear hE1 hE2 hL1 hL2
        by_cases h2 : e2 = 2
        · subst h2
          go_wp2_with fail
          refine S1.out.mono ?_
          rintro e w3 ⟨A3, c3, rfl, hr, hb⟩
          have B3 := Lib.hid hb
          clear hr hb
          go_wp2_with fail
          refine (S2.out _ B3.out).mono ?_
          rintro e w4 ⟨A4, c4, rfl, hr, hb⟩
          have B4 := Lib.hid (HB.out.trans ((B3.out.trans (hb.mono B3.out.size)).mono HB.out.size))
          clear hr hb
          go_wp2
          go_ret
          exact ⟨rfl, B4.out⟩
        · obtain ⟨he, hl⟩ := HE.out.resolve_left h2
          subst he hl
          have EL := Lib.hid (show l1.length ≤ 9223372036854775807 by have := LA.out; omega)
          have v1 := V1.out
          generalize hn1 : l1.length = n1 at *
          have N1 := Lib.hid hn1
          rcases v1 with rfl | rfl | rfl | rfl
          case inr.inl => exact absurd rfl h2
          all_goals
            clear h2 hn1
            go_wp2_with fail
            refine S1.out.mono ?_
            rintro e w3 ⟨A3, c3, rfl, hr, hb⟩
            rw [N1.out]
            have R3 := Lib.hid hr
            have B3 := Lib.hid hb
            clear hr hb
            go_wp2_with fail
            refine (S2.out _ B3.out).mono ?_
            rintro e w4 ⟨A4, c4, rfl, hr, hb⟩
            rw [N1.out]
            have R4 := Lib.hid hr
            have L4 := Lib.hid (R3.out.below hb)
            have B4 := Lib.hid (HB.out.trans ((B3.out.trans (hb.mono B3.out.size)).mono HB.out.size))
            have EQ := Lib.hid (equalZ_c A3 A4 l1 l1 n1 n1 c3 c4 w4 N1.out N1.out EL.out EL.out L4.out R4.out)
            rw [show decide (l1 = l1) = true from decide_eq_true rfl] at EQ
            clear hr hb
            go_wp2_with (go_at_call 15; refine EQ.out.mono ?_; rintro e w5 ⟨rfl, hb⟩; have B5 := Lib.hid (B4.out.trans (hb.mono B4.out.size)); clear hb)
            go_ret
            exact ⟨rfl, B5.out⟩
end Go.Proofs.Ytmljipopkgfblaa.Straw
