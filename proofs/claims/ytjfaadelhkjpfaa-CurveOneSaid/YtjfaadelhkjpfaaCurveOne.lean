/-
  CurveOne: for all byte slices p and xs, the law CurveOne answers true (through so many points of a polynomial goes just that polynomial), and its arguments read afterwards as before. No condition.
-/
import Derived.Test.YtjfaadelhkjpfaaCurve
import Derived.Test.YtjfaadelhkjpfaaLaw
import Derived.Test.YtjfaadelhkjpfaaCurveAlive
namespace Go.Proofs.Ytjfaadelhkjpfaa.curveOne
open Go.ChangeShapes Go.WideShapes Go.ChangeAt Go.RowKit
open Gf Mem Poly
set_option linter.unusedVariables false

def vals (p xs : List UInt8) (k : Nat) : List UInt8 := (xs.take k).map (ev p)
theorem vals_next {p xs : List UInt8} {k : Nat} {c : UInt8} (h : xs[k]? = some c) : vals p xs (k + 1) = vals p xs k ++ [ev p c] := by
  unfold vals; rw [take_next h, List.map_append]; rfl
theorem vals_len {p xs : List UInt8} {k : Nat} (h : k ≤ xs.length) : (vals p xs k).length = k := by unfold vals; rw [List.length_map, Poly.take_len h]
theorem vals_at {p xs : List UInt8} {k : Nat} {c : UInt8} (h : xs[k]? = some c) : (vals p xs xs.length)[k]? = some (ev p c) := by
  unfold vals; rw [List.take_of_length_le (Nat.le_refl _), List.getElem?_map, h]; rfl
theorem thru_self {p xs : List UInt8} (h : (trim p).length ≤ xs.length) : Thru xs (vals p xs xs.length) (trim p) :=
  ⟨trim_trim p, h, fun i x y hx hy => by
    rw [vals_at hx] at hy; injection hy with hy; rw [ev_trim, hy]⟩
theorem quiet_drawn {P : Program} {f : FuncId} {args : Array Value} {w : World} {n : Nat} {v : Value}
    (h : Calls P f args (w.drewN n) fun e w' => e = .returned v ∧ Drawn (w.drewN n) w') : Calls P f args (w.drewN n) fun e w'' => e = .returned v ∧ ∃ m, w'' = w.drewN m :=
  h.mono fun _ _ ⟨he, q, hq⟩ => ⟨he, n + q, by rw [hq, World.drewN_drewN]⟩

set_option maxRecDepth 100000 in
set_option maxHeartbeats 4000000 in
theorem words (hAt : AtSpec) (hSum : SumSpec) (hTimes : TimesSpec) (hThru : ThruSpec) (A B : Option Addr) (p xs : List UInt8) (ca cb : Nat) (W : World) (hp : Reads W A (p.map byt)) (hx : Reads W B (xs.map byt))
    (lp : p.length ≤ 140737488351232) (lx : xs.length ≤ 140737488351232) :
    Calls Try.prog 6 #[.slice A p.length ca, .slice B xs.length cb] W (Law.Yes W) := by
  have hal := alive_c hAt hSum hTimes hThru W
  have h1 := fun x V (h : Below W.heap.size W V) => hAt A p ca x V (by omega) (hp.below h)
  have h2 := fun A2 c2 V (h : Below W.heap.size W V) (h' : Reads V A2 ((vals p xs xs.length).map byt)) => hThru B A2 xs (vals p xs xs.length) cb c2 V (by omega) (by rw [vals_len (Nat.le_refl _)]; omega) (hx.below h) h'
  have h3 := fun V (h : Below W.heap.size W V) => hSum A none p [] ca 0 V (by omega) (by simp) (hp.below h) Reads.nil
  have h5 := fun x A' r c V (hr : r.length ≤ 281474976710656) (h : Reads V A' (r.map byt)) => hAt A' r c x V hr h
  rw [padd_nil] at h3
  have hvl : (vals p xs xs.length).length = xs.length := vals_len (Nat.le_refl _)
  rw [hvl] at h2
  have hts := fun h => @thru_self p xs h
  have hva := fun k c h => @vals_at p xs k c h
  have hle := trim_len p
  have HAL := Lib.hid hal
  have H1 := Lib.hid h1
  have H2 := Lib.hid h2
  have H3 := Lib.hid h3
  have H5 := Lib.hid h5
  have HTS := Lib.hid hts
  have HVA := Lib.hid hva
  have HVL := Lib.hid hvl
  have HX := Lib.hid hx
  clear hal h1 h2 h3 h5 hAt hSum hTimes hThru hp hx hts hva hvl
  generalize hN : xs.length = n at *
  have HN := Lib.hid hN
  clear hN
  go_enter Try.func6, Try.ntmps6
  go_wp2_with fail
  refine HAL.out.mono ?_
  rintro e w1 ⟨rfl, hb1⟩
  have B1 := Lib.hid hb1
  clear hb1
  go_wp2
  go_loopw [5, 17] (fun s i wr => ∃ (k : Nat) (A2 : Option Addr) (c2 : Nat), k ≤ n ∧ i = .int .i64 k ∧ s = .slice A2 k c2 ∧ Grows wr W.heap.size 5 s ((vals p xs k).map byt) ∧ Below W.heap.size W wr) (fun _ i _ => n - (intOf i).toNat)
  case atStart => exact ⟨0, none, 0, by omega, rfl, rfl, Grows.nil _ _ _, B1.out⟩
  case round =>
    obtain ⟨k, A2, c2, hk, rfl, rfl, hG, hB⟩ := hrel
    have HG := Lib.hid hG
    have HB := Lib.hid hB
    clear hG hB
    by_cases hlt : k < n
    · obtain ⟨b, o, c, rfl, ec, cc⟩ := (HX.out.below HB.out).bytes (k := k) (by rw [HN.out]; exact hlt)
      have EC := Lib.hid (vals_next (p := p) ec)
      have HVK := Lib.hid (vals_len (p := p) (xs := xs) (k := k) (by rw [HN.out]; exact hk))
      clear ec
      go_wp2_with fail
      refine (H1.out c wr HB.out).mono ?_
      rintro e w3 ⟨rfl, hd3⟩
      have HG3 := Lib.hid (HG.out.drawn hd3)
      have HB3 := Lib.hid (HB.out.trans (hd3.below _))
      clear hd3
      go_wp2_with (with_reducible refine wpList_append_one elem8 rfl (.tmp 21) (.tmp 25) rfl rfl rfl rfl HG3.out ?c1 ?c2 HB3.out.size ?_)
      case c1 => rw [List.length_map, HVK.out]; unfold maxLen; omega
      case c2 => rw [List.length_map, HVK.out]; omega
      intro v' w4 hG4 hg4
      have hlen : ((vals p xs k).map byt ++ [Value.int .u8 ((ev p c).toNat : Int)]).length = k + 1 := by rw [List.length_append, List.length_map, HVK.out]; rfl
      obtain ⟨A3, c3, hv, _, _⟩ := hG4.form
      rw [hlen] at hv
      subst hv
      have hlist : (vals p xs k).map byt ++ [Value.int .u8 ((ev p c).toNat : Int)] = (vals p xs (k + 1)).map byt := by rw [EC.out, List.map_append]; rfl
      rw [hlist] at hG4
      have HG4 := Lib.hid hG4
      have HB4 := Lib.hid ((HG3.out.alloc _).below hg4 (HB3.out.alloc HB3.out.size _) (Nat.le_refl _) (by simp; have := HB3.out.size; omega))
      clear hG4 hg4 hlen hlist
      go_wp2
      go_roundw
      case rel => exact ⟨k + 1, A3, c3, by omega, by go_num, rfl, HG4.out, HB4.out⟩
      case measure => simp [intOf]; omega
    · obtain rfl : k = n := by omega
      have R2 := Lib.hid HG.out.reads
      go_wp2_with fail
      refine (H2.out A2 c2 wr HB.out R2.out).mono ?_
      rintro e w3 ⟨A3, c3, r, err, rfl, hR3, hB3, hcase⟩
      have R3 := Lib.hid hR3
      have B3 := Lib.hid (HB.out.trans (hB3.mono HB.out.size))
      have R23 := Lib.hid (R2.out.below hB3)
      clear hR3 hB3
      rcases hcase with ⟨h1, _⟩ | ⟨_, h2, rfl, rfl⟩ | ⟨_, h2, rfl, h3⟩
      · exact absurd (by rw [HN.out, HVL.out]) h1
      · clear h2
        go_wp2
        go_ret
        exact ⟨rfl, B3.out⟩
      · have hrl : r.length ≤ k := by have := h3.2.1; rw [HN.out] at this; exact this
        have H4 := Lib.hid h3
        have ND := Lib.hid h2
        clear h3 h2
        go_wp2
        go_loopw [45] (fun i wv => ∃ j : Nat, j ≤ k ∧ i = .int .i64 j ∧ Drawn w3 wv) (fun i _ => k - (intOf i).toNat)
        case atStart => exact ⟨0, by omega, rfl, Drawn.refl _⟩
        case round =>
          obtain ⟨j, hj, rfl, hd⟩ := hrel
          have HD := Lib.hid hd
          clear hd
          by_cases hlt : j < k
          · obtain ⟨b, o, c, rfl, ec, cc⟩ := (HX.out.below (B3.out.trans (HD.out.below _))).bytes (k := j) (by rw [HN.out]; exact hlt)
            obtain ⟨b2, o2, y, rfl, ey, cy⟩ := (R23.out.drawn HD.out).bytes (k := j) (by rw [HVL.out]; exact hlt)
            have hy := HVA.out j c ec
            rw [hy] at ey
            injection ey with ey
            subst ey
            have f1 : (((ev r c).toNat : Int) == ((ev p c).toNat : Int)) = true := by rw [H4.out.2.2 j c (ev p c) ec hy]; exact beq_self_eq_true _
            have i1 : (j : Int) < (k : Int) := by omega
            clear hy ec
            go_wp2
            go_quiet ((go_at_call 9; exact quiet_drawn (H5.out c A3 r c3 _ (by omega) ((R3.out.drawn HD.out).drawn ⟨_, rfl⟩))))
            go_wp2
            go_roundw
            case rel => exact ⟨j + 1, by omega, by go_num, HD.out.more _⟩
            case measure => simp [intOf]; omega
          · obtain rfl : j = k := by omega
            have B4 := Lib.hid (B3.out.trans (HD.out.below _))
            have R4 := Lib.hid (R3.out.drawn HD.out)
            have hrl2 : (r.length : Int) ≤ (j : Int) := by omega
            by_cases ht : (trim p).length ≤ j
            · have heq : r = trim p := thru_unique ND.out (by rw [HN.out, HVL.out]) H4.out (HTS.out ht)
              have HEQ := Lib.hid heq
              have ht2 : ((trim p).length : Int) ≤ (j : Int) := by omega
              clear heq
              go_wp2_with fail
              refine (H3.out wr B4.out).mono ?_
              rintro e w5 ⟨A5, c5, rfl, hR5, hB5⟩
              have R5 := Lib.hid hR5
              have B5 := Lib.hid (B4.out.trans (hB5.mono B4.out.size))
              have R45 := Lib.hid (R4.out.below hB5)
              clear hR5 hB5
              go_wp2_with fail
              refine (equal_same A3 A5 _ _ _ _ w5 R45.out R5.out HEQ.out).mono ?_
              rintro e w' ⟨rfl, rfl⟩
              go_wp2_with fail
              go_ret
              exact ⟨rfl, B5.out⟩
            · have ht2 : (j : Int) < ((trim p).length : Int) := by omega
              clear ht
              go_wp2_with fail
              refine (H3.out wr B4.out).mono ?_
              rintro e w5 ⟨A5, c5, rfl, hR5, hB5⟩
              have B5 := Lib.hid (B4.out.trans (hB5.mono B4.out.size))
              clear hR5 hB5
              go_wp2_with fail
              go_ret
              exact ⟨rfl, B5.out⟩
theorem walk {H : Type} {enc : TypeId × Value → H} {base : Nat} {W : World} {v0 v1 : Value} {d0 d1 : DataW H} {p0 p1 : List MemPlace}
    (o0 : Value.okWide Try.prog W .any base 22 v0) (h0 : DataW.Trod enc Try.prog W 0 (fun _ => true) true 22 v0 d0 p0) (o1 : Value.okWide Try.prog W .any base 22 v1) (h1 : DataW.Trod enc Try.prog W 0 (fun _ => true) true 22 v1 d1 p1)
     (hz : (DataW.weightsEach Try.prog [22, 22] [d0, d1]).all (· ≤ reachBytes) = true) :
    Calls Try.prog 6 #[v0, v1] W (Law.Yes W) := by
  obtain ⟨A0, c0, l0, rfl, z0, r0, k0, _⟩ := open_bytesZ Try.underlying22 Try.underlying5 (by kernel_rfl) (by kernel_rfl) o0 h0 hz (j := 0) rfl rfl
  obtain ⟨A1, c1, l1, rfl, z1, r1, k1, _⟩ := open_bytesZ Try.underlying22 Try.underlying5 (by kernel_rfl) (by kernel_rfl) o1 h1 hz (j := 1) rfl rfl
  exact words at_c sum_c times_c thru_c A0 A1 l0 l1 c0 c1  W r0 r1 z0 z1
theorem own : ownKnob Try.prog.godebug = none := by kernel_rfl
theorem laid : laidOutB Try.prog = true := by kernel_rfl
theorem pars : ∀ t ∈ Try.f6.params.toList, Try.prog.readableRec t = true ∧ t < Try.prog.types.size := by
  have h : Try.f6.params.toList.all (fun t => Try.prog.readableRec t && decide (t < Try.prog.types.size)) = true := by kernel_rfl
  intro t ht; have := List.all_eq_true.1 h t ht; simpa using this
theorem calls (H : Type) (enc : TypeId × Value → H) (W : World) (base : Nat) (args : Array Value) (ds : List (DataW H)) (before : List MemPlace)
    (hval : ∀ (j : Nat) t v, Try.f6.params[j]? = some t → args[j]? = some v → Value.okWide Try.prog W .any base t v)
    (hA : DataW.TrodAll enc Try.prog W 0 (fun _ => true) true Try.f6.params.toList args.toList ds before) (hz : (DataW.weightsEach Try.prog Try.f6.params.toList ds).all (· ≤ reachBytes) = true) :
    Calls Try.prog 6 args W (Law.Yes W) := by
  rw [Try.params6] at hA hval hz
  obtain ⟨v0, vs0, d0, ds0, p0, q0, hargs, rfl, rfl, h0, r0⟩ := trodAll_cons hA
  obtain ⟨v1, vs1, d1, ds1, p1, q1, rfl, rfl, rfl, h1, r1⟩ := trodAll_cons r0
  obtain ⟨rfl, rfl, rfl⟩ := trodAll_nil r1
  obtain rfl : args = #[v0, v1] := by cases args; simp_all
  exact walk (W := W) (hval 0 22 v0 rfl rfl) h0 (hval 1 22 v1 rfl rfl) h1 hz
theorem fnOf (H : Type) : ∀ ds : List (DataW H), ds.length = Try.f6.params.toList.length → Rows.curveOneSpec.fn H ds = { results := [.lit (.bool true)], args := ds } := by
  intro ds h
  have h : ds.length = 2 := h
  obtain _ | ⟨x0, ds⟩ := ds
  · simp at h
  obtain _ | ⟨x1, ds⟩ := ds
  · simp at h
  obtain rfl : ds = [] := List.eq_nil_of_length_eq_zero (by simpa using h)
  rfl
set_option maxRecDepth 100000 in
theorem lifted (os : Os) (started : os.Started) (H : Type) (enc : TypeId × Value → H) :
    ReturnsInHanded {} Try.checked os 6 .any (Rows.curveOneSpec.pre6 enc Try.prog Try.f6 Rows.curveOneRow.domain false) (Rows.curveOneSpec.post enc Try.prog Try.f6 false true false false) := by
  refine returnsInHanded_of_change_sized (C := Try.checked) own started (by kernel_rfl) Try.func6
    (ChangeSpec.witness6 (enc := enc) (C := Try.checked) false ⟨#[], #[.slice none 0 0, .slice none 0 0], []⟩ 8 (by kernel_rfl) (by kernel_rfl) (by kernel_rfl) (by kernel_rfl)) ?_
  intro W base args ds gs before hval hW _ hz _
  obtain ⟨p, q, hA, hV, rfl, hfz, hnd⟩ := id hW
  obtain ⟨rfl, rfl⟩ := trodVars_none hV
  simp only [List.append_nil] at hz
  have hz2 : (DataW.weightsEach Try.prog Try.f6.params.toList ds).all (· ≤ reachBytes) = true := hz
  exact Law.ending (C := Try.checked) (s := Rows.curveOneSpec) laid pars rfl Try.underlying4 rfl (fnOf H) hW (calls H enc W base args ds p hval hA hz2)
theorem over : Rows.curveOneRow.holds Try.pinned (OpenSpec.ofChange Rows.curveOneSpec) :=
  OpenClaim.holds_of_wide 6 Try.f6 rfl rfl rfl rfl rfl rfl rfl ⟨rfl, rfl, rfl, rfl, rfl⟩ rfl rfl rfl rfl rfl (by kernel_rfl) Try.func6 (by kernel_rfl)
    (of_decide_eq_true (by kernel_rfl)) (by unfold Func.isWrapper; first | (rw [if_pos (by decide +kernel)]; kernel_rfl) | (rw [if_neg (by decide +kernel)]; exact ⟨rfl, rfl⟩))
    (fun os started H enc _ => lifted os started H enc)
theorem proved : Rows.CurveOneSaid := over
end Go.Proofs.Ytjfaadelhkjpfaa.curveOne
