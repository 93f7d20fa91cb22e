/-
  Package coder: Right.
-/
import Derived.Test.YtomhcjnhhdbhjaaCoderFns
import Derived.Deep.RegionHeld3
namespace Go.Proofs.Ytomhcjnhhdbhjaa.Cdr
set_option linter.unusedVariables false
open Go.RowKit Gf Mem Poly

/-- Piece p is the row with its number that the first pieces tell. -/
def Fits (ps : List Pc) (r : Nat) (p : Pc) : Prop := p.2.length = ((datas ps).headD []).length ∧ Fill (nums8 (ps.take r)) (datas (ps.take r)) (UInt8.ofNat p.1.toNat) p.2
theorem backs_exists {r : Nat} {ps : List Pc} (h0 : 0 < r) (hd : (nums8 (ps.take r)).Nodup) : ∃ outs, Backs r ps outs := by
  have key : ∀ k, ∃ outs : List (List UInt8), outs.length = k ∧ RowsFrom (ps.take r) 0 outs := fun k => by
    induction k with
    | zero => exact ⟨[], rfl, fun j out h => by simp at h⟩
    | succ k ih =>
      obtain ⟨outs, h1, h2⟩ := ih
      obtain ⟨out, h3, h4⟩ := fill_exists hd (rows := datas (ps.take r)) (by rw [nums8_len, datas_len]) (UInt8.ofNat (0 + outs.length)) ((datas (ps.take r)).headD []).length
      exact ⟨outs ++ [out], by rw [List.length_append, h1]; rfl, rowsFrom_snoc h2 h3 h4⟩
  obtain ⟨outs, h1, h2⟩ := key r
  exact ⟨outs, rows_backs h0 h1 h2⟩
theorem fits_iff {r m : Nat} {ps : List Pc} {outs adds : List (List UInt8)} (hnd : (nums8 (ps.take r)).Nodup) (h0 : 0 < r) (hn : r + m ≤ 256) (hl : r ≤ ps.length) (hb : Backs r ps outs) (ha : Adds outs m adds)
    {p : Pc} (hin : p.1.toNat < r + m) : (outs ++ adds)[p.1.toNat]? = some p.2 ↔ Fits ps r p := by
  constructor
  · exact fun h => code_fill hnd h0 hn hl hb ha h
  · intro h
    have hq : (outs ++ adds)[p.1.toNat]? = some ((outs ++ adds)[p.1.toNat]'(by rw [List.length_append, hb.1, ha.1]; exact hin)) := List.getElem?_eq_getElem _
    obtain ⟨h1, h2⟩ := code_fill hnd h0 hn hl hb ha hq
    rw [hq]
    congr 1
    exact fill_unique hnd (by rw [nums8_len, datas_len]) h2 h.2 (h1.trans h.1.symm)
theorem right_of {r m : Nat} {ps : List Pc} {b : Bool} (g : wrongPs (r : Int) (m : Int) ps = 0) (hb : b = true ∧ (∀ p ∈ ps.drop r, Fits ps r p) ∨ b = false ∧ ∃ p ∈ ps.drop r, ¬ Fits ps r p) : RightIs (r : Int) (m : Int) ps b 0 := by
  obtain ⟨g1, g2, g3, g4⟩ := wrongPs_good g
  have hr : 0 < r ∧ r + m ≤ 256 := by unfold badRange at g1; omega
  obtain ⟨h0, hn⟩ := hr
  have hnd := (nums_take hn g2).2
  obtain ⟨outs, ho⟩ := backs_exists h0 hnd
  refine ⟨outs, .inr (.inr ⟨g1, g2, .inr (.inr ⟨g3, g4, rfl, by rw [Int.toNat_natCast]; exact ho⟩)⟩), fun h => absurd rfl h, fun _ adds ha => ?_⟩
  rw [Int.toNat_natCast] at ha
  have hin : ∀ p ∈ ps, 0 ≤ p.1 ∧ p.1.toNat < r + m := fun p hp => by have := (scan_none g2).1 p hp; omega
  have hl : r ≤ ps.length := by omega
  rw [right_rest fun p hp => first_right hnd h0 hn hl g4 ho ha hin hp]
  unfold allRight
  rcases hb with ⟨rfl, h⟩ | ⟨rfl, p, hp, h⟩
  · symm
    rw [List.all_eq_true]
    intro p hp
    simpa using (fits_iff hnd h0 hn hl ho ha (hin p (List.mem_of_mem_drop hp)).2).2 (h p hp)
  · symm
    rw [Bool.eq_false_iff]
    intro h2
    rw [List.all_eq_true] at h2
    have h3 := h2 p hp
    exact h ((fits_iff hnd h0 hn hl ho ha (hin p (List.mem_of_mem_drop hp)).2).1 (by simpa using h3))
theorem right_true {r m : Nat} {ps : List Pc} (g : wrongPs (r : Int) (m : Int) ps = 0) (h : ∀ p ∈ ps.drop r, Fits ps r p) : RightIs (r : Int) (m : Int) ps true 0 := right_of g (.inl ⟨rfl, h⟩)
theorem right_false {r m : Nat} {ps : List Pc} (g : wrongPs (r : Int) (m : Int) ps = 0) {p : Pc} (hp : p ∈ ps.drop r) (h : ¬ Fits ps r p) : RightIs (r : Int) (m : Int) ps false 0 := right_of g (.inr ⟨rfl, p, hp, h⟩)
theorem right_bad {r m : Int} {ps : List Pc} (h : wrongPs r m ps ≠ 0) : RightIs r m ps false (wrongPs r m ps) := ⟨[], wrongPs_bad h, fun _ => rfl, fun e => absurd e h⟩
theorem Pcs.drop {W : World} {b o : Nat} {ps : List Pc} (h : Pcs W (some ⟨b, o, none⟩) ps) (r : Nat) : Pcs W (some ⟨b, o + r * 2, none⟩) (ps.drop r) := fun k p hp => by
  rw [List.getElem?_drop] at hp
  obtain ⟨b', o', u, hA, h2, h3, h4, h5⟩ := h (r + k) p hp
  injection hA with hA
  injection hA with e1 e2
  subst e1 e2
  exact ⟨b, o + r * 2, u, rfl, h2, by rw [show o + r * 2 + k * 2 = o + (r + k) * 2 by omega]; exact h3, by rw [show o + r * 2 + k * 2 = o + (r + k) * 2 by omega]; exact h4, h5⟩
theorem fits_next {ps : List Pc} {r k : Nat} {p : Pc} (h : ∀ q ∈ (ps.drop r).take k, Fits ps r q) (hp : (ps.drop r)[k]? = some p) (hf : Fits ps r p) : ∀ q ∈ (ps.drop r).take (k + 1), Fits ps r q := fun q hq => by
  rw [Poly.take_next hp] at hq
  rcases List.mem_append.1 hq with hq | hq
  · exact h q hq
  · simp at hq; subst hq; exact hf
set_option maxHeartbeats 4000000 in
set_option maxRecDepth 100000 in
theorem right_c : RightSpec := by
  intro A r m ps ca W hs hc hr hm hP
  have hl := hs.1
  have hw := wrongPieces_c A r m ps ca hs.1 hr hm W hP
  by_cases hx : wrongPs r m ps = 0
  · rw [hx] at hw
    obtain ⟨g1, g2, g3, g4⟩ := wrongPs_good hx
    have hb : 1 ≤ r ∧ r ≤ 100 ∧ 0 ≤ m ∧ m ≤ 100 := by unfold badRange at g1; omega
    obtain ⟨b1, b2, b3, b4⟩ := hb
    obtain ⟨r, rfl⟩ : ∃ k : Nat, r = (k : Int) := ⟨r.toNat, by omega⟩
    obtain ⟨m, rfl⟩ : ∃ k : Nat, m = (k : Int) := ⟨m.toNat, by omega⟩
    obtain ⟨b, o, j1, j2, j3, rfl, j4⟩ := hP.piece (k := 0) (by omega)
    clear j4 j3 j2 j1
    have hnums := nums_take (by omega) g2
    have htl : (ps.take r).length = r := by rw [List.length_take]; omega
    have hnb := fun V (hb : Below W.heap.size W V) => newBasis_c (some ⟨b, o, none⟩) (ps.take r) ca (by omega) hnums V (Pcs.take (hP.below hb) r)
    unfold BasisMade at hnb
    rw [htl] at hnb
    have hrow := fun g2 v (hv : v < 256) V (hG : IsBasis V g2 (some ⟨b, o, none⟩) ca (ps.take r)) (hb : Below W.heap.size W V) =>
      row_c g2 (some ⟨b, o, none⟩) (ps.take r) ca v hv (by omega) (by omega) hnums (take_even (by omega) g4) (by rw [take_head (by omega)]; exact sane_head hs) V hG (Pcs.take (hP.below hb) r)
    have hib := fun g2 V (h : Known V g2 51 (bas (some ⟨b, o, none⟩) r ca (tab (sc (nums8 (ps.take r)))))) => (by
      have h2 : IsBasis V g2 (some ⟨b, o, none⟩) ca (ps.take r) := by unfold IsBasis; rw [htl]; exact h
      exact h2)
    have HF := Lib.hid (fun p (r4 : List UInt8) (hl : r4.length = ((datas (ps.take r)).headD []).length) (hf : Fill (nums8 (ps.take r)) (datas (ps.take r)) (UInt8.ofNat p.1.toNat) r4) => show p.2 = r4 ↔ Fits ps r p from
      ⟨fun e => by rw [← e, take_head (by omega)] at hl; rw [← e] at hf; exact ⟨hl, hf⟩, fun h => fill_unique hnums.2 (by rw [nums8_len, datas_len]) h.2 hf (h.1.trans (by rw [hl, take_head (by omega)]))⟩)
    have HIN := Lib.hid (fun p (hp : p ∈ ps) => show 0 ≤ p.1 ∧ p.1 < 256 by have := (scan_none g2).1 p hp; omega)
    have HT := Lib.hid (right_true hx)
    have HFF := Lib.hid (fun p (hp : p ∈ ps.drop r) (h : ¬ Fits ps r p) => right_false hx hp h)
    have HREST := Lib.hid (Pcs.drop hP r)
    have HW := Lib.hid hw
    have HNB := Lib.hid hnb
    have HROW := Lib.hid hrow
    have HIB := Lib.hid hib
    have HS0 := Lib.hid (show (bas none 0 0 nil100).size = 101 from bas_size nil100_len)
    have hs1 : (bas (some ⟨b, o, none⟩) r ca (tab (sc (nums8 (ps.take r))))).size = 101 := bas_size (tab_len _)
    have ho1 := bas_one (some ⟨b, o, none⟩) r ca (tab (sc (nums8 (ps.take r))))
    have HS1 := Lib.hid hs1
    have HO1 := Lib.hid ho1
    have hz : ∀ w : World, (zeroValue 51).run Try.prog w = .ok (.agg (bas none 0 0 nil100)) w := fun _ => by kernel_rfl
    generalize hz0 : bas none 0 0 nil100 = z0 at *
    generalize hX : bas (some ⟨b, o, none⟩) r ca (tab (sc (nums8 (ps.take r)))) = X at *
    have hca : (r : Int) ≤ (ca : Int) := by omega
    have hdl : (ps.drop r).length = ps.length - r := List.length_drop
    have HDL := Lib.hid hdl
    clear hw hnb hrow hib hs1 ho1 hz0 hX hx g1 g2 g4 hnums htl hs hP hr hm hdl
    generalize hN : ps.length = n at *
    clear hN
    go_enter Try.func15, Try.ntmps15
    go_wp2_with fail
    refine HW.out.mono ?_
    rintro e w1 ⟨rfl, hB⟩
    have HB := Lib.hid hB
    clear hB
    go_wp2_with fail
    refine (HNB.out w1 HB.out).mono ?_
    rintro e w3 ⟨rfl, hB3⟩
    have HB3 := Lib.hid (HB.out.trans (hB3.mono HB.out.size))
    clear hB3
    have HB4 := Lib.hid (below_setRow (HB3.out.alloc HB3.out.size (.cells z0 51)) HB3.out.size X)
    have HK4 := Lib.hid (HIB.out _ _ (known_setRow (cs := X) (Known.made w3 51 z0)))
    go_wp2_with ((refine wpList_store_row rfl 51 _ _ rfl w3.heap.size _ rfl rfl 51 _ (Known.made _ _ _) (by rw [HS1.out]; exact size51) (by rw [HS1.out, HS0.out]) HO1.out ?_))
    case inl =>
      clear hz
      have hnr : n - ca = 0 := by omega
      go_loopw [27] (fun i wr => i = .int .i64 0 ∧ Below W.heap.size W wr) (fun i _ => 0)
      case atStart => exact ⟨rfl, HB4.out⟩
      case round =>
        obtain ⟨rfl, hB⟩ := hrel
        have HB5 := Lib.hid hB
        clear hB
        have hlt : ¬ ((0 : Int) < ((n - ca : Nat) : Int)) := by omega
        go_wp2
        go_ret2
        have h : ∀ p ∈ ps.drop r, Fits ps r p := fun p hp => by
          rw [List.drop_of_length_le (by have := HDL.out; rw [List.length_drop] at this; omega)] at hp
          cases hp
        exact ⟨true, 0, rfl, HB5.out, HT.out h⟩
    case inr =>
      clear hz
      go_loopw [27] (fun i wr => ∃ k : Nat, k ≤ n - r ∧ i = .int .i64 k ∧ (∀ q ∈ (ps.drop r).take k, Fits ps r q) ∧ Below W.heap.size W wr ∧ IsBasis wr w3.heap.size (some ⟨b, o, none⟩) ca (ps.take r)) (fun i _ => n - (intOf i).toNat)
      case atStart => exact ⟨0, by omega, rfl, by simp, HB4.out, HK4.out⟩
      case round =>
        clear HB4 HK4
        obtain ⟨k, hk, rfl, hG, hB, hK⟩ := hrel
        have HG := Lib.hid hG
        have HB5 := Lib.hid hB
        have HK := Lib.hid hK
        clear hG hB hK
        by_cases hlt : k < n - r
        · obtain ⟨b', o', C, c, p, eA, hb, ep, c1, c2, lr, lc, rr⟩ := (HREST.out.below HB5.out).piece (k := k) (by rw [HDL.out]; exact hlt)
          injection eA with eA
          injection eA with eA1 eA2
          subst eA1 eA2
          have hp : p ∈ ps.drop r := List.mem_of_getElem? ep
          obtain ⟨q1, q2⟩ := HIN.out p (List.mem_of_mem_drop hp)
          obtain ⟨a, ea⟩ : ∃ a : Nat, p.1 = (a : Int) := ⟨p.1.toNat, by omega⟩
          have ha : a < 256 := by omega
          rw [ea] at c1
          have EP := Lib.hid ep
          have EA := Lib.hid ea
          have RR := Lib.hid (rr.alloc (.cells #[.int .i64 (a : Int), .slice C p.2.length c] 35))
          have HP := Lib.hid hp
          have i2 : (k : Int) < ((n - r : Nat) : Int) := by omega
          have HB6 := Lib.hid (below_drew (HB5.out.alloc HB5.out.size (.cells #[.int .i64 (a : Int), .slice C p.2.length c] 35)))
          have hrw := HROW.out w3.heap.size a ha (wr.alloc (.cells #[.int .i64 (a : Int), .slice C p.2.length c] 35)).drew (Known.alloc HK.out _) HB6.out
          have HRW := Lib.hid hrw
          clear ep ea hrw rr lr hb hp q1 q2
          have k0 : (wr.alloc (.cells #[.int .i64 (a : Int), .slice C p.2.length c] 35)).cell? ⟨wr.heap.size, 0, none⟩ = some (.int .i64 (a : Int)) := (Known.made wr 35 _).cell 0
          have k1 : (wr.alloc (.cells #[.int .i64 (a : Int), .slice C p.2.length c] 35)).cell? ⟨wr.heap.size, 1, none⟩ = some (.slice C p.2.length c) := (Known.made wr 35 _).cell 1
          have HSZ := Lib.hid (show wr.heap.size < (wr.alloc (.cells #[.int .i64 (a : Int), .slice C p.2.length c] 35)).drew.heap.size from (Known.made wr 35 #[.int .i64 (a : Int), .slice C p.2.length c]).lt)
          go_wp2
          go_region_held3 (fun w' => w'.cell? ⟨wr.heap.size, 0, none⟩ = some (.int .i64 (a : Int)) ∧ w'.cell? ⟨wr.heap.size, 1, none⟩ = some (.slice C p.2.length c)) (first | go_keep | (go_split_ands; exact ⟨(Below.cell (p := ⟨wr.heap.size, 0, none⟩) hB4 HSZ.out).trans (by assumption), (Below.cell (p := ⟨wr.heap.size, 1, none⟩) hB4 HSZ.out).trans (by assumption)⟩))
            (first
              | (go_at_call 27; refine HRW.out.mono ?_; rintro e w4 ⟨C4, c4, r4, rfl, hc4, hR4, hB4, hf4, hl4, hF4⟩; have HR4 := Lib.hid hR4; have HR5 := Lib.hid (Reads.below (Reads.drew RR.out) hB4); have HF4 := Lib.hid (HF.out p r4 hl4 (by rw [EA.out]; exact hF4)); have HB7 := Lib.hid (HB6.out.trans (hB4.mono HB6.out.size)); have HK7 := Lib.hid (Known.later (Known.drew2 (Known.alloc HK.out _)) hB4); clear hc4 hR4 hf4 hl4 hF4)
              | (go_at_call 19; refine (equal_c C C4 p.2 r4 c c4 _ HR5.out HR4.out).mono ?_; rintro e w5 ⟨rfl, rfl⟩))
          clear hB4 k0 k1
          go_wp2
          · have hq : (!(p.2 == r4)) = true := by assumption
            have HN := Lib.hid (HFF.out p HP.out fun h => by
              have e := HF4.out.2 h
              rw [show (p.2 == r4) = true by rw [e]; exact beq_self_eq_true _] at hq
              cases hq)
            go_ret2
            exact ⟨false, 0, rfl, HB7.out, HN.out⟩
          · have hq : (!(p.2 == r4)) = false := by assumption
            have hq2 : (p.2 == r4) = true := by rwa [Bool.not_eq_false'] at hq
            have HN := Lib.hid (fits_next HG.out EP.out (HF4.out.1 (eq_of_beq hq2)))
            go_roundw
            case rel => exact ⟨k + 1, by omega, by go_num, HN.out, HB7.out, HK7.out⟩
            case measure => simp [intOf]; omega
        · obtain rfl : k = n - r := by omega
          go_wp2
          go_ret2
          have h := HG.out
          rw [List.take_of_length_le (by rw [HDL.out]; exact Nat.le_refl _)] at h
          exact ⟨true, 0, rfl, HB5.out, HT.out h⟩
  · have HW := Lib.hid hw
    have HBI := Lib.hid (right_bad hx)
    have b1 : (wrongPs r m ps != 0) = true := by simpa using hx
    clear hw hx hs hP hr hm hl
    go_enter Try.func15, Try.ntmps15
    go_wp2_with fail
    refine HW.out.mono ?_
    rintro e w' ⟨rfl, hB⟩
    have HB := Lib.hid hB
    clear hB
    go_wp2
    go_ret2
    exact ⟨false, _, rfl, HB.out, HBI.out⟩
end Go.Proofs.Ytomhcjnhhdbhjaa.Cdr
