/-
  The contracts of (*Int).SetUint64, ABig, (*Int).SetInt64, NewInt.
-/
import Derived.Test.YtahhgeecikljdaaBigTrim
namespace Go.Proofs.Ytahhgeecikljdaa.Big
set_option linter.unusedVariables false
open Go.RowKit

def lo (x : UInt64) : UInt32 := x.toUInt32
def hi (x : UInt64) : UInt32 := (x >>> 32).toUInt32
theorem lo_nat (x : UInt64) : (lo x).toNat = x.toNat % 4294967296 := by unfold lo; simp
theorem hi_nat (x : UInt64) : (hi x).toNat = x.toNat / 4294967296 := by
  unfold hi; have := x.toNat_lt
  rw [UInt64.toNat_toUInt32, UInt64.toNat_shiftRight, show (32 : UInt64).toNat % 64 = 32 by decide, Nat.shiftRight_eq_div_pow]
  omega
theorem val_word (x : UInt64) : val [lo x, hi x] = x.toNat := by
  simp only [val]; rw [lo_nat, hi_nat]; omega

/-- Block z is a number's, of whatever sign and digits. -/
def Slot (w : World) (z : Nat) : Prop := ∃ a b : Value, Blk w z 62 #[a, b] ∧ (∃ s, a = .bool s) ∧ ∃ A l c, b = .slice A l c
theorem Num.slot {w : World} {p n : Nat} (h : Num w p n) : Slot w p := by
  obtain ⟨A, cap, h1, _, _⟩ := h
  exact ⟨_, _, h1, ⟨_, rfl⟩, _, _, _, rfl⟩
theorem Slot.lt {w : World} {p : Nat} (h : Slot w p) : p < w.heap.size := by obtain ⟨_, _, h, _⟩ := h; exact Blk.lt h
theorem Slot.alloc {w : World} {p : Nat} (h : Slot w p) (o : Obj) : Slot (w.alloc o) p := by obtain ⟨a, b, h, ha, hb⟩ := h; exact ⟨a, b, h.alloc o, ha, hb⟩
theorem Slot.below {w w' : World} {p : Nat} (h : Slot w p) (hb : Below w.heap.size w w') : Slot w' p := by obtain ⟨a, b, h, ha, hb'⟩ := h; exact ⟨a, b, h.below hb h.lt, ha, hb'⟩
theorem Slot.new (w : World) : Slot (w.alloc (.cells #[.bool false, .slice none 0 0] 62)) w.heap.size := ⟨_, _, Blk.new _ _ _, ⟨_, rfl⟩, _, _, _, rfl⟩
theorem Slot.facts {w : World} {z : Nat} (h : Slot w z) : ∃ s A l c, w.cell? ⟨z, 0, none⟩ = some (.bool s) ∧ w.cell? ⟨z, 1, none⟩ = some (.slice A l c) ∧ w.frozen? ⟨z, 0, none⟩ = false ∧ w.frozen? ⟨z, 1, none⟩ = false ∧ z < w.heap.size := by
  obtain ⟨a, b, h, ⟨s, rfl⟩, A, l, c, rfl⟩ := h
  exact ⟨s, A, l, c, Blk.cell h 0, Blk.cell h 1, Blk.frozen h 0, Blk.frozen h 1, Blk.lt h⟩

theorem shr32 (x : UInt64) : (x.toNat : Int) / 4294967296 = ((hi x).toNat : Int) := by rw [hi_nat]; omega
theorem low32 (x : UInt64) : (x.toNat : Int) % 4294967296 = ((lo x).toNat : Int) := by rw [lo_nat]; omega
theorem hi32 (x : UInt64) : ((hi x).toNat : Int) % 4294967296 = ((hi x).toNat : Int) := by have := Words.lt32 (hi x); omega
attribute [local go_sem] shr32 low32 hi32

/-- The world behind 'z.neg, z.d = false, s', s a slice that lies in one new block. -/
def stored (W : World) (z : Nat) (s : Bool) (v : Value) : World := (W.setCell ⟨z, 0, none⟩ (.bool s)).setCell ⟨z, 1, none⟩ v
theorem stored_size (W : World) (z : Nat) (s : Bool) (v : Value) : (stored W z s v).heap.size = W.heap.size := by simp [stored, World.setCell]
theorem stored_grown (W : World) (z : Nat) (s : Bool) (v : Value) : W.grownBy (stored W z s v) (some z) := by
  unfold stored; exact only_setCell (p := ⟨z, 1, none⟩) (only_setCell (p := ⟨z, 0, none⟩) (only_refl _ _) (.inl rfl) _) (.inl rfl) _
theorem stored_cell {W : World} {z : Nat} (hz : Slot W z) (s : Bool) (A : Option Addr) (l c : Nat) : Cell (stored W z s (.slice A l c)) z s A l c := by
  obtain ⟨a, b, h, _, _⟩ := hz
  exact (h.set_ 0 (.bool s)).set_ 1 (.slice A l c)
theorem stored_new {W : World} {z : Nat} (s : Bool) (v : Value) (t : TypeId) (cs : Array Value) : Blk ((stored W z s v).alloc (.cells cs t)) W.heap.size t cs := by
  have h := Blk.new (stored W z s v) t cs
  rwa [stored_size] at h
theorem Trimmed.from {z n : Nat} {W W1 : World} {e : Ending} {W' : World} (h : Trimmed z n W1 e W') (hg : W.grownBy W1 (some z)) : Trimmed z n W e W' :=
  ⟨h.1, only_trans hg h.2.1, h.2.2⟩

set_option maxHeartbeats 1000000 in
theorem setUint64_c (z : Nat) (x : UInt64) (W : World) (hz : Slot W z) :
    Calls Try.prog 45 #[.pointer (some ⟨z, 0, none⟩), .int .u64 x.toNat] W (Trimmed z x.toNat W) := by
  obtain ⟨s, A, l, c, c0, c1, f0, f1, hlt⟩ := hz.facts
  go_enter Try.func45, Try.ntmps45
  go_wp2_with fail
  have hg : W.grownBy ((stored W z false (.slice (some ⟨W.heap.size, 0, none⟩) 2 2)).alloc (.cells #[.int .u32 (lo x).toNat, .int .u32 (hi x).toNat] 71)) (some z) := only_alloc (stored_grown _ _ _ _) _
  have hc := (stored_cell hz false (some ⟨W.heap.size, 0, none⟩) 2 2).alloc (.cells #[.int .u32 (lo x).toNat, .int .u32 (hi x).toNat] 71)
  have hd : Dig ((stored W z false (.slice (some ⟨W.heap.size, 0, none⟩) 2 2)).alloc (.cells #[.int .u32 (lo x).toNat, .int .u32 (hi x).toNat] 71)) (some ⟨W.heap.size, 0, none⟩) [lo x, hi x] :=
    .inr ⟨_, _, rfl, stored_new _ _ _ _, fun j u hj => by
      match j with
      | 0 => injection hj with hj; subst hj; rfl
      | 1 => injection hj with hj; subst hj; rfl
      | n + 2 => simp at hj⟩
  refine (trim_c z 2 _ [lo x, hi x] _ hc hd (by simp) (by simp)).mono ?_
  intro e w' h
  have h' := h.from hg
  rw [val_word] at h'
  have H := Lib.hid h'
  obtain ⟨rfl, _⟩ := h
  clear h' hc hd hg
  go_wp2_with fail
  go_ret
  exact H.out

/-- A new number: a pointer to a block that was not there. -/
def Fresh (n : Nat) (W : World) (e : Ending) (W' : World) : Prop :=
  ∃ p : Nat, e = .returned (.pointer (some ⟨p, 0, none⟩)) ∧ W.heap.size ≤ p ∧ Below W.heap.size W W' ∧ Num W' p n

theorem fresh_of {n : Nat} {W : World} {e : Ending} {W' : World} {o : Obj} (h : Trimmed W.heap.size n (W.alloc o) e W') : Fresh n W e W' := by
  obtain ⟨h1, h2, h3⟩ := h
  exact ⟨_, h1, Nat.le_refl _, ((Below.refl _ _).alloc (Nat.le_refl _) o).trans (below_of_new h2 (Nat.le_refl _) (by simp)), h3⟩

set_option maxHeartbeats 1000000 in
theorem aBig_c (x : UInt64) (W : World) :
    Calls Try.prog 31 #[.int .u64 x.toNat] W (Fresh x.toNat W) := by
  go_enter Try.func31, Try.ntmps31
  go_wp2_with fail
  refine (setUint64_c _ x _ (Slot.new W)).mono ?_
  intro e w' h
  have H := Lib.hid (fresh_of h)
  obtain ⟨rfl, _⟩ := h
  go_wp2_with fail
  go_ret
  exact H.out

theorem conv_nat (n : Nat) (h : n < 9223372036854775808) : IntKind.u64.wrap (n : Int) = ((UInt64.ofNat n).toNat : Int) := by
  rw [IntKind.wrap_u64, UInt64.toNat_ofNat']; omega

set_option maxHeartbeats 1000000 in
theorem setInt64_c (z n : Nat) (hn : n < 9223372036854775808) (W : World) (hz : Slot W z) :
    Calls Try.prog 59 #[.pointer (some ⟨z, 0, none⟩), .int .i64 n] W (Trimmed z n W) := by
  have hlt : ((n : Int) < 0) = False := by simp
  have hx : (UInt64.ofNat n).toNat = n := by rw [UInt64.toNat_ofNat']; omega
  have key := setUint64_c z (UInt64.ofNat n) W hz
  rw [hx] at key
  have KEY := Lib.hid key
  clear key hx
  go_enter Try.func59, Try.ntmps59
  go_wp2_with fail
  refine KEY.out.mono ?_
  intro e w' h
  have H := Lib.hid h
  obtain ⟨rfl, _⟩ := h
  go_wp2_with fail
  go_ret
  exact H.out

set_option maxHeartbeats 1000000 in
theorem newInt_c (n : Nat) (hn : n < 9223372036854775808) (W : World) :
    Calls Try.prog 48 #[.int .i64 n] W (Fresh n W) := by
  go_enter Try.func48, Try.ntmps48
  go_wp2_with fail
  refine (setInt64_c _ n hn _ (Slot.new W)).mono ?_
  intro e w' h
  have H := Lib.hid (fresh_of h)
  obtain ⟨rfl, _⟩ := h
  go_wp2_with fail
  go_ret
  exact H.out
end Go.Proofs.Ytahhgeecikljdaa.Big
