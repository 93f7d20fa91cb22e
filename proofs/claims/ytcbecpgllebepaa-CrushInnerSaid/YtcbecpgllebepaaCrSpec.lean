/-
  What the laws on hosts take of the program: Wrong, Place, Moved.
-/
import Derived.Test.YtcbecpgllebepaaCrNew
import Derived.Test.YtcbecpgllebepaaCrMem
namespace Go.Proofs.Ytcbecpgllebepaa.Crush
set_option linter.unusedVariables false
set_option linter.unusedSimpArgs false
open Go.RowKit Mem Straw

/-- Spots and what is wrong. -/
def SpotsErr (l : List It) (k : Int) (W : World) (e : Ending) (W' : World) : Prop :=
  ∃ A c, e = .returned (.tuple #[.slice A l.length c, .int .i64 k]) ∧ l.length ≤ c ∧ WRds W' A l ∧ Below W.heap.size W W'
def WrongSpec : Prop := ∀ (A : Option Addr) (hs : List Ht) (n ca : Nat) (V : World), hs.length = n → n ≤ 4398046511105 → n ≤ ca → HRds V A hs → FitsH hs →
  Calls Try.prog 11 #[.slice A n ca] V (Gave (.int .i64 (krE hs)) V)
def PlaceSpec : Prop := ∀ (key : UInt64) (A : Option Addr) (hs : List Ht) (n ca : Nat) (many : Int) (V : World), hs.length = n → n ≤ 4398046511105 → n ≤ ca → HRds V A hs → FitsH hs →
  Calls Try.prog 9 #[.int .u64 key.toNat, .slice A n ca, .int .i64 many] V (SpotsErr (plL key hs many) (plE key hs many) V)
/-- What is wrong with the placements of keys, key by key. -/
def mvS (a b : List Ht) (many : Int) : List UInt64 → Int
  | [] => 0
  | k :: ks => if plE k a many ≠ 0 then plE k a many else if plE k b many ≠ 0 then plE k b many else mvS a b many ks
def mvT (a b : List Ht) (many : Int) (ks : List UInt64) : Nat := (ks.map (fun k => newIn (plL k a many) (plL k b many))).sum
def mvE (ks : List UInt64) (a b : List Ht) (many : Int) : Int := if 400 < ks.length then 2 else mvS a b many ks
def mvN (ks : List UInt64) (a b : List Ht) (many : Int) : Nat := if mvE ks a b many = 0 then mvT a b many ks else 0
def word64 (k : UInt64) : Value := .int .u64 (k.toNat : Int)
def MovedSpec : Prop := ∀ (K : Option Addr) (ks : List UInt64) (nk ck : Nat) (A : Option Addr) (a : List Ht) (na ca : Nat) (B : Option Addr) (b : List Ht) (nb cb : Nat) (many : Int) (V : World),
  ks.length = nk → nk ≤ 17592186044416 → Reads V K (ks.map word64) → a.length = na → na ≤ 4398046511105 → na ≤ ca → HRds V A a → FitsH a → b.length = nb → nb ≤ 4398046511105 → nb ≤ cb → HRds V B b → FitsH b →
  Calls Try.prog 14 #[.slice K nk ck, .slice A na ca, .slice B nb cb, .int .i64 many] V (Gave (.tuple #[.int .i64 (mvN ks a b many : Nat), .int .i64 (mvE ks a b many)]) V)
theorem mv_one {k : UInt64} {a b : List Ht} {many : Int} (ha : plE k a many = 0) (hb : plE k b many = 0) : mvE [k] a b many = 0 ∧ mvN [k] a b many = newIn (plL k a many) (plL k b many) := by
  have e : mvE [k] a b many = 0 := by simp [mvE, mvS, ha, hb]
  refine ⟨e, ?_⟩
  unfold mvN
  rw [if_pos e]
  simp [mvT]
/-- A result of Place with the numbers at hand. -/
theorem place_named (hP : PlaceSpec) (key : UInt64) (A : Option Addr) (hs : List Ht) (n ca : Nat) (many : Int) (V : World) (h1 : hs.length = n) (h2 : n ≤ 4398046511105) (h3 : n ≤ ca) (h4 : HRds V A hs) (h5 : FitsH hs)
    (l : List It) (m : Nat) (k : Int) (hl : plL key hs many = l) (hm : l.length = m) (hk : plE key hs many = k) :
    Calls Try.prog 9 #[.int .u64 key.toNat, .slice A n ca, .int .i64 many] V fun e W' => ∃ A' c, e = .returned (.tuple #[.slice A' m c, .int .i64 k]) ∧ m ≤ c ∧ WRds W' A' l ∧ Below V.heap.size V W' := by
  subst hl hm hk
  exact hP key A hs n ca many V h1 h2 h3 h4 h5

/-! ### The hosts that each law tries first -/
def hs0 : List Ht := [(1, [(10, 1)]), (2, [(20, 1), (21, 0)]), (3, [])]
theorem good0 : Good hs0 := by
  refine ⟨?_, ?_⟩
  · intro h hh
    simp [hs0] at hh
    rcases hh with rfl | rfl | rfl
    · exact ⟨by decide, by simp, by simp [Once]⟩
    · exact ⟨by decide, by simp, by simp [Once]⟩
    · exact ⟨by decide, by simp, by simp [Once]⟩
  · have e : wts hs0 = [(1, 1), (2, 1), (3, 0)] := by simp [wts, hs0, hw, sumW]
    rw [e]
    exact ⟨by decide, by simp, by simp [Once]⟩
theorem wts0 : wts hs0 = [(1, 1), (2, 1), (3, 0)] := by simp [wts, hs0, hw, sumW]
theorem len0 (key : UInt64) : (ids key (wts hs0)).length = 2 := by rw [ids_len, wts0]; simp [pos]
theorem pl0 (key : UInt64) : plE key hs0 2 = 0 := plE_zero.2 ⟨good0, by omega, by rw [len0]; decide⟩
theorem pl3 (key : UInt64) : plE key hs0 3 = 8 := by
  unfold plE
  rw [krE_zero.2 good0, len0]
  decide
theorem fits0 : FitsH hs0 := by
  intro h hh
  simp [hs0] at hh
  rcases hh with rfl | rfl | rfl <;> refine ⟨by decide, fun a ha => ?_⟩ <;> simp at ha
  · subst ha; decide
  · rcases ha with rfl | rfl <;> decide
/-- The two spots of the two hosts that weigh anything. -/
theorem spots0 (key : UInt64) : ∃ s t : It, plL key hs0 2 = [s, t] ∧ s.1 + t.1 = 3 ∧ s.2 + t.2 = 30 := by
  have hl : (plL key hs0 2).length = 2 := plL_len (many := 2) (pl0 key)
  have ho : Once (plL key hs0 2) := plL_once (many := 2) (pl0 key)
  have hm : ∀ s ∈ plL key hs0 2, s = (1, 10) ∨ s = (2, 20) := fun s hs => by
    obtain ⟨x, hx, h1, h2, d, hd, h3, h4⟩ := plL_mem (many := 2) (pl0 key) hs
    simp [hs0] at hx
    rcases hx with rfl | rfl | rfl
    · simp at hd
      subst hd
      exact .inl (Prod.ext h1.symm h3.symm)
    · simp at hd
      rcases hd with rfl | rfl
      · exact .inr (Prod.ext h1.symm h3.symm)
      · simp at h4
    · simp at hd
  match hL : plL key hs0 2, hl with
  | [s, t], _ =>
    rw [hL] at ho hm
    have hne : s.1 ≠ t.1 := by
      have := ho
      unfold Once at this
      simp at this
      exact this
    refine ⟨s, t, rfl, ?_, ?_⟩
    all_goals
      rcases hm s (by simp) with rfl | rfl <;> rcases hm t (by simp) with rfl | rfl <;> simp at hne ⊢
end Go.Proofs.Ytcbecpgllebepaa.Crush
