/-
  MixByte: for every string s and every two bytes x and y, the law MixByte answers true (Text tells s and x from s and y just where x and y differ), and its arguments read afterwards as before. No condition.
-/
import Derived.Test.YtimbibphpaibiaaMixAlive
import Derived.Test.YtimbibphpaibiaaLaw
import Derived.Deep.RegionHeld3
import Derived.Deep.DeepCutAuto
import Derived.Deep.DrawnRows
import Derived.Laws.BytesArg
import Derived.SizedLaws
namespace Go.Proofs.Ytimbibphpaibiaa.mixByte
open Go.ChangeShapes Go.WideShapes Go.ChangeAt Go.RowKit
open Mix
set_option linter.unusedVariables false

def snoc (s : ByteArray) (x : UInt8) : ByteArray := s ++ ⟨#[x]⟩
theorem snoc_list (s : ByteArray) (x : UInt8) : (snoc s x).data.toList = s.data.toList ++ [x] := by
  unfold snoc; simp
theorem snoc_size (s : ByteArray) (x : UInt8) : (snoc s x).size = s.size + 1 := by
  unfold snoc; rw [ByteArray.size_append]; rfl

theorem conv (x : UInt8) (w : World) (g : Nat) (h : w.cell? ⟨g, 0, none⟩ = some (.int .u8 x.toNat)) :
    (convert 38 9 (.slice (some ⟨g, 0, none⟩) 1 1)).run Try.prog w = .ok (.string ⟨#[x]⟩) w := by
  have hr := run_convert_bytes_arg (P := Try.prog) w 38 5 Try.underlying38 Try.underlying5 g 0 1 1 [(x.toNat : Int)] rfl (by
    intro i hi
    obtain rfl : i = 0 := by omega
    exact h) 9 Try.underlying9
  rw [hr]
  simp [strOfNums]
theorem joined (s : ByteArray) (x : UInt8) (hs : s.size ≤ 140737488351232) (w : World) : (Op.stringOp .add s ⟨#[x]⟩).run Try.prog w = .ok (.string (snoc s x)) w := by
  rw [run_string_add_sum _ _ _ (by show s.size + 1 ≤ _; omega)]; rfl

theorem told (s : ByteArray) (x y : UInt8) : (((text (snoc s x).data.toList).toNat : Int) == ((text (snoc s y).data.toList).toNat : Int)) = ((x.toNat : Int) == (y.toNat : Int)) := by
  rw [Bool.eq_iff_iff, beq_iff_eq, beq_iff_eq]
  constructor
  · intro h
    have h2 : text (snoc s x).data.toList = text (snoc s y).data.toList := UInt64.toNat_inj.1 (by omega)
    rw [snoc_list, snoc_list] at h2
    rw [text_snoc h2]
  · intro h
    have h2 : x = y := UInt8.toNat_inj.1 (by omega)
    rw [h2]

attribute [local go_sem ↓] Go.wp_at_zero Go.wp_at_succ
set_option maxHeartbeats 1000000 in
theorem words (s : ByteArray) (x y : UInt8) (hs : s.size ≤ 140737488351232) (W : World) :
    Calls Try.prog 6 #[.string s, .int .u8 x.toNat, .int .u8 y.toNat] W (Law.Yes W) := by
  have cx := conv x
  have cy := conv y
  have h0 := told s x y
  have jx := joined s x hs
  have jy := joined s y hs
  go_enter Try.func6, Try.ntmps6
  go_upto_region 3 with (go_at_call 17; refine (alive_c _).mono ?_; rintro e w' ⟨rfl, rfl⟩)
  go_cut [7, 8] (fun a b wx => a = .int .u64 (text (snoc s x).data.toList).toNat ∧ b = .int .u64 (text (snoc s y).data.toList).toNat ∧ Below W.heap.size W wx)
  case first =>
    go_region_with (go_at_call 15; refine (text_c _ _ ?_).mono ?_; (rw [snoc_size]; unfold maxLen; omega); rintro e w' ⟨rfl, rfl⟩)
    all_goals
      go_wp2_with fail
      go_meet
      exact ⟨rfl, rfl, by repeat (first | exact Below.refl _ _ | apply Below.drew | (refine Below.alloc ?_ (by simp) _))⟩
  case rest =>
    obtain ⟨rfl, rfl, hb⟩ := hcut
    go_wp2
    go_ret
    exact ⟨rfl, hb⟩

theorem walk {H : Type} (s : ByteArray) (hs : s.size ≤ maxLen) (a1 : Int) (w1 : (Lit.int .u8 a1).wf = true) (a2 : Int) (w2 : (Lit.int .u8 a2).wf = true) (W : World)
    (hz : (DataW.weightsEach (H := H) Try.prog [9, 5, 5] [.lit (.string s.data.toList), .lit (.int .u8 a1), .lit (.int .u8 a2)]).all (· ≤ reachBytes) = true) :
    Calls Try.prog 6 #[.string s, .int .u8 a1, .int .u8 a2] W (Law.Yes W) := by
  obtain ⟨x, rfl⟩ := Words.of_wf8 w1
  obtain ⟨y, rfl⟩ := Words.of_wf8 w2
  have h := List.all_eq_true.1 hz s.data.toList.length (by simp [DataW.weightsEach, DataW.weights])
  have h2 : s.data.toList.length ≤ 140737488351232 := of_decide_eq_true h
  exact words s x y (by simpa using h2) W
theorem own : ownKnob Try.prog.godebug = none := by kernel_rfl
theorem laid : laidOutB Try.prog = true := by kernel_rfl
theorem pars : ∀ t ∈ Try.f6.params.toList, Try.prog.readableRec t = true ∧ t < Try.prog.types.size := by
  have h : Try.f6.params.toList.all (fun t => Try.prog.readableRec t && decide (t < Try.prog.types.size)) = true := by kernel_rfl
  intro t ht; have := List.all_eq_true.1 h t ht; simpa using this
theorem calls (H : Type) (enc : TypeId × Value → H) (W : World) (base : Nat) (args : Array Value) (ds : List (DataW H)) (before : List MemPlace)
    (hval : ∀ (j : Nat) t v, Try.f6.params[j]? = some t → args[j]? = some v → Value.okWide Try.prog W .any base t v)
    (hA : DataW.TrodAll enc Try.prog W 0 (fun _ => true) true Try.f6.params.toList args.toList ds before) (hz : (DataW.weightsEach Try.prog Try.f6.params.toList ds).all (· ≤ reachBytes) = true) :
    Calls Try.prog 6 args W (Law.Yes W) := by
  rw [Try.params6] at hA hval hz
  obtain ⟨v0, vs0, d0, ds0, p0, q0, hargs, rfl, rfl, h0, r0⟩ := trodAll_cons hA
  obtain ⟨v1, vs1, d1, ds1, p1, q1, rfl, rfl, rfl, h1, r1⟩ := trodAll_cons r0
  obtain ⟨v2, vs2, d2, ds2, p2, q2, rfl, rfl, rfl, h2, r2⟩ := trodAll_cons r1
  obtain ⟨rfl, rfl, rfl⟩ := trodAll_nil r2
  obtain rfl : args = #[v0, v1, v2] := by cases args; simp_all
  obtain ⟨s0, rfl, rfl, rfl, z0⟩ := Go.ChangeMaps.open_string Try.underlying9 (hval 0 9 v0 rfl rfl) h0
  obtain ⟨a1, rfl, rfl, rfl, w1⟩ := open_int Try.underlying5 (hval 1 5 v1 rfl rfl) h1
  obtain ⟨a2, rfl, rfl, rfl, w2⟩ := open_int Try.underlying5 (hval 2 5 v2 rfl rfl) h2
  exact walk s0 z0 a1 w1 a2 w2 W hz
theorem fnOf (H : Type) : ∀ ds : List (DataW H), ds.length = Try.f6.params.toList.length → Rows.mixByteSpec.fn H ds = { results := [.lit (.bool true)], args := ds } := by
  intro ds h
  have h : ds.length = 3 := h
  obtain _ | ⟨x0, ds⟩ := ds
  · simp at h
  obtain _ | ⟨x1, ds⟩ := ds
  · simp at h
  obtain _ | ⟨x2, ds⟩ := ds
  · simp at h
  obtain rfl : ds = [] := List.eq_nil_of_length_eq_zero (by simpa using h)
  rfl
set_option maxRecDepth 100000 in
theorem lifted (os : Os) (started : os.Started) (H : Type) (enc : TypeId × Value → H) :
    ReturnsInHanded {} Try.checked os 6 .any (Rows.mixByteSpec.pre6 enc Try.prog Try.f6 Rows.mixByteRow.domain false) (Rows.mixByteSpec.post enc Try.prog Try.f6 false true false false) := by
  refine returnsInHanded_of_change_sized (C := Try.checked) own started (by kernel_rfl) Try.func6
    (ChangeSpec.witness6 (enc := enc) (C := Try.checked) false ⟨#[], #[.string ⟨#[]⟩, .int .u8 0, .int .u8 0], []⟩ 8 (by kernel_rfl) (by kernel_rfl) (by kernel_rfl) (by kernel_rfl)) ?_
  intro W base args ds gs before hval hW _ hz _
  obtain ⟨p, q, hA, hV, rfl, hfz, hnd⟩ := id hW
  obtain ⟨rfl, rfl⟩ := trodVars_none hV
  simp only [List.append_nil] at hz
  have hz2 : (DataW.weightsEach Try.prog Try.f6.params.toList ds).all (· ≤ reachBytes) = true := hz
  exact Law.ending (C := Try.checked) (s := Rows.mixByteSpec) laid pars rfl Try.underlying4 rfl (fnOf H) hW (calls H enc W base args ds p hval hA hz2)
theorem over : Rows.mixByteRow.holds Try.pinned (OpenSpec.ofChange Rows.mixByteSpec) :=
  OpenClaim.holds_of_wide 6 Try.f6 rfl rfl rfl rfl rfl rfl rfl ⟨rfl, rfl, rfl, rfl, rfl⟩ rfl rfl rfl rfl rfl (by kernel_rfl) Try.func6 (by kernel_rfl)
    (of_decide_eq_true (by kernel_rfl)) (by unfold Func.isWrapper; first | (rw [if_pos (by decide +kernel)]; kernel_rfl) | (rw [if_neg (by decide +kernel)]; exact ⟨rfl, rfl⟩))
    (fun os started H enc _ => lifted os started H enc)
theorem proved : Rows.MixByteSaid := over
end Go.Proofs.Ytimbibphpaibiaa.mixByte
