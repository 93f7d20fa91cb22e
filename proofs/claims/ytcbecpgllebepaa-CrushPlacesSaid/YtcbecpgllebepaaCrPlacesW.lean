/-
  The law CrushPlaces over what it takes of the program and of the document's own answer.
-/
import Derived.Test.YtcbecpgllebepaaCrSpec
import Derived.Test.YtcbecpgllebepaaCrEqS
import Derived.Test.YtcbecpgllebepaaCrMem
import Derived.BigQuiet
namespace Go.Proofs.Ytcbecpgllebepaa.Crush
set_option linter.unusedVariables false
set_option linter.unusedSimpArgs false
open Go.RowKit Mem Straw

def KPlaceSpec : Prop := ∀ (key : UInt64) (A : Option Addr) (hs : List Ht) (n ca : Nat) (many : Int) (V : World), hs.length = n → n ≤ 4398046511104 → n ≤ ca → HRds V A hs → FitsH hs →
  Calls Try.prog 10 #[.int .u64 key.toNat, .slice A n ca, .int .i64 many] V (SpotsErr (plL key hs many) (plE key hs many) V)
def KWrongSpec : Prop := ∀ (A : Option Addr) (hs : List Ht) (n ca : Nat) (V : World), hs.length = n → n ≤ 4398046511104 → HRds V A hs → FitsH hs →
  Calls Try.prog 12 #[.slice A n ca] V (Gave (.int .i64 (krE hs)) V)
theorem kplace_named (hP : KPlaceSpec) (key : UInt64) (A : Option Addr) (hs : List Ht) (n ca : Nat) (many : Int) (V : World) (h1 : hs.length = n) (h2 : n ≤ 4398046511104) (h3 : n ≤ ca) (h4 : HRds V A hs) (h5 : FitsH hs)
    (l : List It) (m : Nat) (k : Int) (hl : plL key hs many = l) (hm : l.length = m) (hk : plE key hs many = k) :
    Calls Try.prog 10 #[.int .u64 key.toNat, .slice A n ca, .int .i64 many] V fun e W' => ∃ A' c, e = .returned (.tuple #[.slice A' m c, .int .i64 k]) ∧ m ≤ c ∧ WRds W' A' l ∧ Below V.heap.size V W' := by
  subst hl hm hk
  exact hP key A hs n ca many V h1 h2 h3 h4 h5
/-- What CrushPlaces calls answers so, in every later world. -/
structure PSays (key : UInt64) (A : Option Addr) (n ca : Nat) (many : Int) (W : World) (l : List It) (m : Nat) (e r : Int) : Prop where
  len : l.length = m
  le : m ≤ 16
  place : ∀ V, Below W.heap.size W V → Calls Try.prog 9 #[.int .u64 key.toNat, .slice A n ca, .int .i64 many] V fun x W' => ∃ A' c, x = .returned (.tuple #[.slice A' m c, .int .i64 e]) ∧ m ≤ c ∧ WRds W' A' l ∧ Below V.heap.size V W'
  kplace : ∀ V, Below W.heap.size W V → Calls Try.prog 10 #[.int .u64 key.toNat, .slice A n ca, .int .i64 many] V fun x W' => ∃ A' c, x = .returned (.tuple #[.slice A' m c, .int .i64 e]) ∧ m ≤ c ∧ WRds W' A' l ∧ Below V.heap.size V W'
  wrong : ∀ V, Below W.heap.size W V → Calls Try.prog 11 #[.slice A n ca] V (Gave (.int .i64 r) V)
  kwrong : ∀ V, Below W.heap.size W V → Calls Try.prog 12 #[.slice A n ca] V (Gave (.int .i64 r) V)
set_option maxRecDepth 100000 in
set_option maxHeartbeats 8000000 in
theorem places_core (key : UInt64) (A : Option Addr) (n ca : Nat) (many : Int) (W : World) (l : List It) (m : Nat) (e0 r0 : Int) (h : PSays key A n ca many W l m e0 r0) :
    Calls Try.prog 3 #[.int .u64 key.toNat, .slice A n ca, .int .i64 many] W (Law.Yes W) := by
  have HH := Lib.hid h
  have n1 : (e0 == e0) = true := by simp
  have n2 : (r0 == r0) = true := by simp
  clear h
  go_enter Try.func3, Try.ntmps3
  go_wp2_with fail
  refine (HH.out.place _ (Below.refl _ _)).mono ?_
  rintro e w1 ⟨A1, c1, rfl, -, hr1, hb1⟩
  have B1 := Lib.hid hb1
  have R1 := Lib.hid hr1
  clear hb1 hr1
  go_wp2_with fail
  refine (HH.out.kplace _ B1.out).mono ?_
  rintro e w2 ⟨A2, c2, rfl, -, hr2, hb2⟩
  have B2 := Lib.hid (B1.out.trans (hb2.mono B1.out.size))
  have R1b := Lib.hid (R1.out.below hb2)
  have R2 := Lib.hid hr2
  clear hb2 hr2 R1
  go_wp2_with fail
  refine (HH.out.wrong _ B2.out).mono ?_
  rintro e w3 ⟨rfl, hb3⟩
  have B3 := Lib.hid (B2.out.trans (hb3.mono B2.out.size))
  have R1c := Lib.hid (R1b.out.below hb3)
  have R2c := Lib.hid (R2.out.below hb3)
  clear hb3 R1b R2
  go_wp2_with fail
  refine (HH.out.kwrong _ B3.out).mono ?_
  rintro e w4 ⟨rfl, hb4⟩
  have B4 := Lib.hid (B3.out.trans (hb4.mono B3.out.size))
  have R1d := Lib.hid (R1c.out.below hb4)
  have R2d := Lib.hid (R2c.out.below hb4)
  clear hb4 R1c R2c
  go_wp2_with (go_at_call 13; refine (equalS_c _ _ l m _ _ _ HH.out.len (by have := HH.out.le; omega) R1d.out R2d.out).mono ?_; rintro e w5 ⟨rfl, hb5⟩; have B5 := Lib.hid (B4.out.trans (hb5.mono B4.out.size)); clear hb5)
  go_ret
  exact ⟨rfl, B5.out⟩
theorem plL_16 (key : UInt64) (hs : List Ht) (many : Int) : (plL key hs many).length ≤ 16 := by
  by_cases h : plE key hs many = 0
  · obtain ⟨j, rfl⟩ : ∃ j : Nat, many = j := ⟨many.toNat, by have := (plE_zero.1 h).2.1; omega⟩
    rw [plL_len h]
    have := (plE_zero.1 h).2.1
    omega
  · unfold plL; rw [if_neg h]; simp
theorem places_words (hP : PlaceSpec) (hW : WrongSpec) (hK : KPlaceSpec) (hKW : KWrongSpec) (key : UInt64) (A : Option Addr) (hs : List Ht) (n ca : Nat) (many : Int) (W : World) (hn : hs.length = n) (hb : n ≤ 4398046511104) (hca : n ≤ ca) (hx : HRds W A hs) (hf : FitsH hs) :
    Calls Try.prog 3 #[.int .u64 key.toNat, .slice A n ca, .int .i64 many] W (Law.Yes W) :=
  places_core key A n ca many W (plL key hs many) _ (plE key hs many) (krE hs) ⟨rfl, plL_16 key hs many, fun V h => place_named hP key A hs n ca many V hn (by omega) hca (hx.below h) hf _ _ _ rfl rfl rfl,
    fun V h => kplace_named hK key A hs n ca many V hn hb hca (hx.below h) hf _ _ _ rfl rfl rfl, fun V h => hW A hs n ca V hn (by omega) hca (hx.below h) hf, fun V h => hKW A hs n ca V hn hb (hx.below h) hf⟩
set_option maxRecDepth 100000 in
theorem places_walk (hP : PlaceSpec) (hW : WrongSpec) (hK : KPlaceSpec) (hKW : KWrongSpec) {H : Type} {enc : TypeId × Value → H} {base : Nat} {W : World} (a0 : Int) (w0 : (Lit.int .u64 a0).wf = true) {v1 : Value} {d1 : DataW H} {p1 : List MemPlace}
    (o1 : Value.okWide Try.prog W .any base 23 v1) (h1 : DataW.Trod enc Try.prog W 0 (fun _ => true) true 23 v1 d1 p1) (a2 : Int) (w2 : (Lit.int .i64 a2).wf = true) {d0 : DataW H} {d2 : DataW H}
    (hz : (DataW.weightsEach Try.prog [22, 23, 3] [d0, d1, d2]).all (· ≤ reachBytes) = true) :
    Calls Try.prog 3 #[.int .u64 a0, v1, .int .i64 a2] W (Law.Yes W) := by
  obtain ⟨A, ca, hs, rfl, hl, hc, _, hx, hf⟩ := open_hostsZ o1 h1 hz (j := 1) rfl rfl
  obtain ⟨key, rfl⟩ := Words.of_wf64 w0
  exact places_words hP hW hK hKW key A hs _ ca a2 W rfl hl hc hx hf
end Go.Proofs.Ytcbecpgllebepaa.Crush
