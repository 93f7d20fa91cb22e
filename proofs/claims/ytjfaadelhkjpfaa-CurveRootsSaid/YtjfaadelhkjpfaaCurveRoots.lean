/-
  CurveRoots: for every byte slice p, the law CurveRoots answers true (what is not nothing has fewer roots than terms), and its argument reads afterwards as before. No condition.
-/
import Derived.Test.YtjfaadelhkjpfaaCurve
import Derived.Test.YtjfaadelhkjpfaaLaw
import Derived.Test.YtjfaadelhkjpfaaCurveAlive
namespace Go.Proofs.Ytjfaadelhkjpfaa.curveRoots
open Go.ChangeShapes Go.WideShapes Go.ChangeAt Go.RowKit
open Gf Mem Poly
set_option linter.unusedVariables false

/-- The roots among the first k bytes. -/
def roots (p : List UInt8) (k : Nat) : List UInt8 := ((List.range k).map UInt8.ofNat).filter (fun x => ev p x == 0)
theorem roots_nodup (p : List UInt8) {k : Nat} (hk : k ≤ 256) : (roots p k).Nodup := by
  refine List.Pairwise.filter _ (List.pairwise_map.2 (List.Pairwise.imp_of_mem ?_ List.nodup_range))
  intro a b ha hb hne e
  have h1 := congrArg UInt8.toNat e
  rw [UInt8.toNat_ofNat', UInt8.toNat_ofNat'] at h1
  rw [List.mem_range] at ha hb
  omega
theorem roots_root (p : List UInt8) (k : Nat) : ∀ r ∈ roots p k, ev p r = 0 := fun r hr => by
  have := (List.mem_filter.1 hr).2
  simpa using this
theorem roots_yes {p : List UInt8} {k : Nat} (h : ev p (UInt8.ofNat k) = 0) : (roots p (k + 1)).length = (roots p k).length + 1 := by
  unfold roots; rw [List.range_succ, List.map_append, List.filter_append]; simp [h]
theorem roots_no {p : List UInt8} {k : Nat} (h : ¬ ev p (UInt8.ofNat k) = 0) : (roots p (k + 1)).length = (roots p k).length := by
  unfold roots; rw [List.range_succ, List.map_append, List.filter_append]; simp [h]
theorem roots_le (p : List UInt8) (k : Nat) : (roots p k).length ≤ k := by
  unfold roots; refine Nat.le_trans (List.length_filter_le _ _) (by simp)
theorem roots_all {p : List UInt8} (h : trim p = []) : (roots (trim p) 256).length = 256 := by
  have e : ∀ l : List UInt8, l.filter (fun x => ev [] x == 0) = l := fun l => List.filter_eq_self.2 (fun a _ => rfl)
  unfold roots; rw [h, e]; simp
theorem roots_few {p : List UInt8} (h : ¬ trim p = []) : (roots (trim p) 256).length < (trim p).length := by
  have := roots_lt (p := trim p) (roots_nodup (trim p) (Nat.le_refl 256)) (roots_root (trim p) 256) (by rw [trim_trim]; exact h)
  rwa [trim_trim] at this

set_option maxRecDepth 100000 in
set_option maxHeartbeats 4000000 in
theorem words (hAt : AtSpec) (hSum : SumSpec) (hTimes : TimesSpec) (hThru : ThruSpec) (A : Option Addr) (p : List UInt8) (ca : Nat) (W : World) (hp : Reads W A (p.map byt)) (lp : p.length ≤ 140737488351232) :
    Calls Try.prog 7 #[.slice A p.length ca] W (Law.Yes W) := by
  have hal := alive_c hAt hSum hTimes hThru W
  have h3 := fun V (h : Below W.heap.size W V) => hSum A none p [] ca 0 V (by omega) (by simp) (hp.below h) Reads.nil
  have h5 := fun x A' c V (h : Reads V A' ((trim p).map byt)) => hAt A' (trim p) c x V (by have := trim_len p; omega) h
  rw [padd_nil] at h3
  have hf := @roots_few p
  have ha := @roots_all p
  have hle := trim_len p
  have HAL := Lib.hid hal
  have H3 := Lib.hid h3
  have H5 := Lib.hid h5
  have HF := Lib.hid hf
  have HA := Lib.hid ha
  clear hal h3 h5 hAt hSum hTimes hThru hp hf ha
  generalize trim p = t at *
  go_enter Try.func7, Try.ntmps7
  go_wp2_with fail
  refine HAL.out.mono ?_
  rintro e w1 ⟨rfl, hb1⟩
  have B1 := Lib.hid hb1
  clear hb1
  go_wp2_with fail
  refine (H3.out w1 B1.out).mono ?_
  rintro e w2 ⟨A2, c2, rfl, hR2, hb2⟩
  have B2 := Lib.hid (B1.out.trans (hb2.mono B1.out.size))
  have R2 := Lib.hid hR2
  clear hR2 hb2
  have c256 : t.length ≤ 140737488351232 := Nat.le_trans hle lp
  go_wp2
  go_loopw [3, 9] (fun n i wr => ∃ k : Nat, k ≤ 256 ∧ n = .int .i64 ((roots t k).length : Nat) ∧ i = .int .i64 k ∧ Drawn w2 wr) (fun _ i _ => 256 - (intOf i).toNat)
  case atStart => exact ⟨0, by omega, rfl, rfl, Drawn.refl _⟩
  case round =>
    obtain ⟨k, hk, rfl, rfl, hd⟩ := hrel
    have HD := Lib.hid hd
    clear hd
    have hrl := roots_le t k
    by_cases hlt : k < 256
    · have h8 : (UInt8.ofNat k).toNat = k := by rw [UInt8.toNat_ofNat']; omega
      have hA := H5.out (UInt8.ofNat k) A2 c2 wr (R2.out.drawn HD.out)
      rw [h8] at hA
      have HAt := Lib.hid hA
      clear hA h8
      by_cases h0 : ev t (UInt8.ofNat k) = 0
      · have b1 : (((ev t (UInt8.ofNat k)).toNat : Int) == 0) = true := by rw [h0]; rfl
        have HR := Lib.hid (roots_yes h0)
        clear h0
        go_wp2_with fail
        refine HAt.out.mono ?_
        rintro e w3 ⟨rfl, hd3⟩
        have HD3 := Lib.hid (HD.out.trans hd3)
        clear hd3
        go_wp2
        go_roundw
        case rel => exact ⟨k + 1, by omega, by rw [HR.out]; go_num, by go_num, HD3.out⟩
        case measure => simp [intOf]; omega
      · have b1 : (((ev t (UInt8.ofNat k)).toNat : Int) == 0) = false := by
          rw [beq_eq_false_iff_ne]; intro e; exact h0 (UInt8.toNat_inj.1 (by show (ev t (UInt8.ofNat k)).toNat = 0; omega))
        have HR := Lib.hid (roots_no h0)
        clear h0
        go_wp2_with fail
        refine HAt.out.mono ?_
        rintro e w3 ⟨rfl, hd3⟩
        have HD3 := Lib.hid (HD.out.trans hd3)
        clear hd3
        go_wp2
        go_roundw
        case rel => exact ⟨k + 1, by omega, by rw [HR.out], by go_num, HD3.out⟩
        case measure => simp [intOf]; omega
    · obtain rfl : k = 256 := by omega
      by_cases ht : t = []
      · have hlen : (roots t 256).length = 256 := HA.out ht
        have h1 : (((roots t 256).length : Int) == 256) = true := by rw [hlen]; rfl
        have h2 : ((t.length : Int) == 0) = true := by rw [ht]; rfl
        have h3 : t.length = 0 := by rw [ht]; rfl
        clear hlen ht hrl
        go_wp2
        go_ret
        exact ⟨rfl, B2.out.trans (HD.out.below _)⟩
      · have hlen : (roots t 256).length < t.length := HF.out ht
        have h2 : ((t.length : Int) == 0) = false := by rw [beq_eq_false_iff_ne]; omega
        have h4 : ((roots t 256).length : Int) ≤ (t.length : Int) - 1 := by omega
        have h5 : (t.length : Int) ≤ 140737488351232 := by omega
        have h6 : 0 < (t.length : Int) := by omega
        clear ht hlen hrl
        go_wp2
        go_ret
        exact ⟨rfl, B2.out.trans (HD.out.below _)⟩
theorem walk {H : Type} {enc : TypeId × Value → H} {base : Nat} {W : World} {v0 : Value} {d0 : DataW H} {p0 : List MemPlace}
    (o0 : Value.okWide Try.prog W .any base 22 v0) (h0 : DataW.Trod enc Try.prog W 0 (fun _ => true) true 22 v0 d0 p0)
     (hz : (DataW.weightsEach Try.prog [22] [d0]).all (· ≤ reachBytes) = true) :
    Calls Try.prog 7 #[v0] W (Law.Yes W) := by
  obtain ⟨A0, c0, l0, rfl, z0, r0, k0, _⟩ := open_bytesZ Try.underlying22 Try.underlying5 (by kernel_rfl) (by kernel_rfl) o0 h0 hz (j := 0) rfl rfl
  exact words at_c sum_c times_c thru_c A0 l0 c0  W r0 z0
theorem own : ownKnob Try.prog.godebug = none := by kernel_rfl
theorem laid : laidOutB Try.prog = true := by kernel_rfl
theorem pars : ∀ t ∈ Try.f7.params.toList, Try.prog.readableRec t = true ∧ t < Try.prog.types.size := by
  have h : Try.f7.params.toList.all (fun t => Try.prog.readableRec t && decide (t < Try.prog.types.size)) = true := by kernel_rfl
  intro t ht; have := List.all_eq_true.1 h t ht; simpa using this
theorem calls (H : Type) (enc : TypeId × Value → H) (W : World) (base : Nat) (args : Array Value) (ds : List (DataW H)) (before : List MemPlace)
    (hval : ∀ (j : Nat) t v, Try.f7.params[j]? = some t → args[j]? = some v → Value.okWide Try.prog W .any base t v)
    (hA : DataW.TrodAll enc Try.prog W 0 (fun _ => true) true Try.f7.params.toList args.toList ds before) (hz : (DataW.weightsEach Try.prog Try.f7.params.toList ds).all (· ≤ reachBytes) = true) :
    Calls Try.prog 7 args W (Law.Yes W) := by
  rw [Try.params7] at hA hval hz
  obtain ⟨v0, vs0, d0, ds0, p0, q0, hargs, rfl, rfl, h0, r0⟩ := trodAll_cons hA
  obtain ⟨rfl, rfl, rfl⟩ := trodAll_nil r0
  obtain rfl : args = #[v0] := by cases args; simp_all
  exact walk (W := W) (hval 0 22 v0 rfl rfl) h0 hz
theorem fnOf (H : Type) : ∀ ds : List (DataW H), ds.length = Try.f7.params.toList.length → Rows.curveRootsSpec.fn H ds = { results := [.lit (.bool true)], args := ds } := by
  intro ds h
  have h : ds.length = 1 := h
  obtain _ | ⟨x0, ds⟩ := ds
  · simp at h
  obtain rfl : ds = [] := List.eq_nil_of_length_eq_zero (by simpa using h)
  rfl
set_option maxRecDepth 100000 in
theorem lifted (os : Os) (started : os.Started) (H : Type) (enc : TypeId × Value → H) :
    ReturnsInHanded {} Try.checked os 7 .any (Rows.curveRootsSpec.pre6 enc Try.prog Try.f7 Rows.curveRootsRow.domain false) (Rows.curveRootsSpec.post enc Try.prog Try.f7 false true false false) := by
  refine returnsInHanded_of_change_sized (C := Try.checked) own started (by kernel_rfl) Try.func7
    (ChangeSpec.witness6 (enc := enc) (C := Try.checked) false ⟨#[], #[.slice none 0 0], []⟩ 8 (by kernel_rfl) (by kernel_rfl) (by kernel_rfl) (by kernel_rfl)) ?_
  intro W base args ds gs before hval hW _ hz _
  obtain ⟨p, q, hA, hV, rfl, hfz, hnd⟩ := id hW
  obtain ⟨rfl, rfl⟩ := trodVars_none hV
  simp only [List.append_nil] at hz
  have hz2 : (DataW.weightsEach Try.prog Try.f7.params.toList ds).all (· ≤ reachBytes) = true := hz
  exact Law.ending (C := Try.checked) (s := Rows.curveRootsSpec) laid pars rfl Try.underlying4 rfl (fnOf H) hW (calls H enc W base args ds p hval hA hz2)
theorem over : Rows.curveRootsRow.holds Try.pinned (OpenSpec.ofChange Rows.curveRootsSpec) :=
  OpenClaim.holds_of_wide 7 Try.f7 rfl rfl rfl rfl rfl rfl rfl ⟨rfl, rfl, rfl, rfl, rfl⟩ rfl rfl rfl rfl rfl (by kernel_rfl) Try.func7 (by kernel_rfl)
    (of_decide_eq_true (by kernel_rfl)) (by unfold Func.isWrapper; first | (rw [if_pos (by decide +kernel)]; kernel_rfl) | (rw [if_neg (by decide +kernel)]; exact ⟨rfl, rfl⟩))
    (fun os started H enc _ => lifted os started H enc)
theorem proved : Rows.CurveRootsSaid := over
end Go.Proofs.Ytjfaadelhkjpfaa.curveRoots
