/-
  What the laws on jumps take of the program: Bucket and Jumps; the check of a few known values.
-/
import Derived.Test.YtjaacohnnplmdaaJpEqZ
import Derived.Test.YtjaacohnnplmdaaLaw
import Derived.Deep.QuietTactic
import Derived.BigQuiet
namespace Go.Proofs.Ytjaacohnnplmdaa.Jump
set_option linter.unusedVariables false
set_option linter.unusedSimpArgs false
open Go.RowKit Mem

def errJ (many : Int) : Int := if many < 1 ∨ 1048576 < many then 2 else 0
def lastJ (key : UInt64) (many : Int) : Int := if errJ many = 0 then (last key many.toNat : Int) else 0
def listJ (key : UInt64) (many : Int) : List Int := if errJ many = 0 then jumps key many.toNat else []
theorem errJ_vals (many : Int) : errJ many = 0 ∨ errJ many = 2 := by
  unfold errJ
  split
  · exact .inr rfl
  · exact .inl rfl
theorem errJ_zero {many : Int} : errJ many = 0 ↔ 1 ≤ many ∧ many ≤ 1048576 := by
  unfold errJ
  split
  · constructor
    · intro h; cases h
    · intro h; omega
  · constructor
    · intro _; omega
    · intro _; rfl
theorem errJ_two {many : Int} : errJ many = 2 ↔ many < 1 ∨ 1048576 < many := by
  unfold errJ
  split
  · constructor
    · intro _; assumption
    · intro _; rfl
  · constructor
    · intro h; cases h
    · intro h; contradiction
/-- Numbers and what is wrong. -/
def NumsErr (l : List Int) (k : Int) (W : World) (e : Ending) (W' : World) : Prop :=
  ∃ A c, e = .returned (.tuple #[.slice A l.length c, .int .i64 k]) ∧ Reads W' A (l.map (Value.int .i64)) ∧ Below W.heap.size W W'
def BucketSpec : Prop := ∀ (key : UInt64) (many : Int) (V : World),
  Calls Try.prog 7 #[.int .u64 key.toNat, .int .i64 many] V (Gave (.tuple #[.int .i64 (lastJ key many), .int .i64 (errJ many)]) V)
def JumpsSpec : Prop := ∀ (key : UInt64) (many : Int) (V : World),
  Calls Try.prog 8 #[.int .u64 key.toNat, .int .i64 many] V (NumsErr (listJ key many) (errJ many) V)
theorem lastJ_ok {key : UInt64} {m : Nat} (h1 : 1 ≤ m) (h2 : m ≤ 1048576) : lastJ key (m : Int) = (last key m : Int) ∧ errJ (m : Int) = 0 := by
  have h : errJ (m : Int) = 0 := errJ_zero.2 ⟨by omega, by omega⟩
  refine ⟨?_, h⟩
  unfold lastJ
  rw [if_pos h]; rfl
theorem listJ_ok {key : UInt64} {m : Nat} (h1 : 1 ≤ m) (h2 : m ≤ 1048576) : listJ key (m : Int) = jumps key m := by
  have h : errJ (m : Int) = 0 := errJ_zero.2 ⟨by omega, by omega⟩
  unfold listJ
  rw [if_pos h]; rfl
theorem listJ_bad {key : UInt64} {many : Int} (h : errJ many = 2) : listJ key many = [] := by
  unfold listJ
  rw [if_neg (by rw [h]; decide)]
theorem ok_nat {many : Int} (h : errJ many = 0) : ∃ m : Nat, many = (m : Int) ∧ 1 ≤ m ∧ m ≤ 1048576 := by
  have := errJ_zero.1 h
  exact ⟨many.toNat, by omega, by omega, by omega⟩
theorem bucket_ok (hB : BucketSpec) (key : UInt64) (m : Nat) (h1 : 1 ≤ m) (h2 : m ≤ 1048576) (V : World) :
    Calls Try.prog 7 #[.int .u64 key.toNat, .int .i64 m] V (Gave (.tuple #[.int .i64 (last key m), .int .i64 0]) V) := by
  have := hB key m V
  rw [(lastJ_ok h1 h2).1, (lastJ_ok (key := key) h1 h2).2] at this
  exact this
theorem bucket_bad (hB : BucketSpec) (key : UInt64) (many : Int) (h : errJ many = 2) (V : World) :
    Calls Try.prog 7 #[.int .u64 key.toNat, .int .i64 many] V (Gave (.tuple #[.int .i64 0, .int .i64 2]) V) := by
  have := hB key many V
  rw [show lastJ key many = 0 by unfold lastJ; rw [if_neg (by rw [h]; decide)], h] at this
  exact this
/-- The jumps, a fact for each cell. -/
def JumpsAt (key : UInt64) (m : Nat) (W : World) (e : Ending) (W' : World) : Prop :=
  ∃ g o c, e = .returned (.tuple #[.slice (some ⟨g, o, none⟩) (cnt key m) c, .int .i64 0]) ∧ (∀ i, i < cnt key m → W'.cell? ⟨g, o + i, none⟩ = some (.int .i64 (bk key i))) ∧ Reads W' (some ⟨g, o, none⟩) ((jumps key m).map (Value.int .i64)) ∧ g < W'.heap.size ∧ Below W.heap.size W W'
theorem jumps_ok (hJ : JumpsSpec) (key : UInt64) (m : Nat) (h1 : 1 ≤ m) (h2 : m ≤ 1048576) (V : World) :
    Calls Try.prog 8 #[.int .u64 key.toNat, .int .i64 m] V (JumpsAt key m V) := by
  have H := hJ key m V
  rw [(lastJ_ok (key := key) h1 h2).2, listJ_ok h1 h2] at H
  refine H.mono ?_
  rintro e w ⟨A, c, rfl, hr, hb⟩
  have h0 := cnt_pos (key := key) h1
  obtain ⟨g, o, rfl, hg, hc⟩ := reads_cells hr (by rw [jumps_len]; exact h0)
  rw [jumps_len]
  refine ⟨g, o, c, rfl, fun i hi => ?_, hr, hg, hb⟩
  rw [hc i (by rw [jumps_len]; exact hi), List.getD_eq_getElem?_getD, jumps_at hi]; rfl
theorem jumps_bad (hJ : JumpsSpec) (key : UInt64) (many : Int) (h : errJ many = 2) (V : World) :
    Calls Try.prog 8 #[.int .u64 key.toNat, .int .i64 many] V fun e w => ∃ A c, e = .returned (.tuple #[.slice A 0 c, .int .i64 2]) ∧ Below V.heap.size V w := by
  have H := hJ key many V
  rw [h, listJ_bad h] at H
  exact H.mono fun e w ⟨A, c, he, _, hb⟩ => ⟨A, c, he, hb⟩
theorem u0 : ((0 : UInt64).toNat : Int) = 0 := rfl
theorem u1 : ((1 : UInt64).toNat : Int) = 1 := rfl
theorem u7 : ((7 : UInt64).toNat : Int) = 7 := rfl
set_option maxRecDepth 100000 in
set_option maxHeartbeats 1000000 in
theorem alive_of (hB : BucketSpec) (hJ : JumpsSpec) (W : World) : Calls Try.prog 11 #[] W (Law.Yes W) := by
  have k1 := fun V => bucket_ok hB 0 10 (by decide) (by decide) V
  have k2 := fun V => bucket_ok hB 1 1 (by decide) (by decide) V
  have k3 := fun V => jumps_ok hJ 7 100 (by decide) (by decide) V
  have b1 : last 0 10 < 10 := last_lt (by decide)
  have b2 : last 1 1 = 0 := by have := last_lt (key := 1) (m := 1) (by decide); omega
  have b3 : 0 < cnt 7 100 := cnt_pos (by decide)
  have b4 : cnt 7 100 ≤ 100 := cnt_le _ _
  have b5 : bk 7 0 = 0 := rfl
  rw [b2] at k2
  rw [u0] at k1
  rw [u1] at k2
  rw [u7] at k3
  unfold JumpsAt at k3
  generalize last 0 10 = x at *
  generalize cnt 7 100 = c at *
  generalize hbk : bk 7 = f at *
  have K1 := Lib.hid k1
  have K2 := Lib.hid k2
  have K3 := Lib.hid k3
  clear k1 k2 k3 b2 hbk
  have d1 : decide ((x : Int) < 10) = true := decide_eq_true (by omega)
  have d2 : decide ((0 : Int) ≤ x) = true := decide_eq_true (by omega)
  have d3 : decide ((c : Int) > 0) = true := decide_eq_true (by omega)
  go_enter Try.func11, Try.ntmps11
  go_wp2_with fail
  refine (K1.out _).mono ?_
  rintro e w1 ⟨rfl, hb1⟩
  go_wp2_with fail
  refine (K2.out _).mono ?_
  rintro e w2 ⟨rfl, hb2⟩
  go_wp2_with fail
  refine (K3.out _).mono ?_
  rintro e w3 ⟨g, o, cc, rfl, hc, _, hg, hb3⟩
  have B1 := hb1.trans (hb2.mono hb1.size)
  have B2 := Lib.hid (B1.trans (hb3.mono B1.size))
  have c0 : w3.cell? ⟨g, o, none⟩ = some (.int .i64 0) := by
    have := hc 0 b3
    rw [b5] at this
    exact this
  clear hc hb1 hb2 hb3 B1
  go_wp2
  go_ret
  exact ⟨rfl, B2.out⟩
end Go.Proofs.Ytjaacohnnplmdaa.Jump
