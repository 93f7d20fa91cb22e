/-
  Texts that are built as one: BigPure, BigMem, BigTrim, BigSet, BigWord, BigRow, BigShr, BigApp, BigXor, BigMulPure, BigMul, BigAdd, BigCmp, BigCalc.
-/
import Derived.Test.YtcbecpgllebepaaWords
import Derived.Test.YtcbecpgllebepaaRows
import Derived.WalkKit
import Derived.WalkLawsBesides
import Derived.WalkSpells
import Derived.Outline
import Derived.Lib.Hide
import Derived.Below
import Derived.Laws.OwnMore
import Derived.Deep.Draws
import Derived.Laws.Rows
import Derived.Deep.OwnRows
import Derived.OwnWalk
import Derived.RegionTactic
import Derived.Deep.AppendLies
import Derived.Maps.AppendAt
import Derived.Deep.QuietTactic
import Derived.BigQuiet
import Derived.Deep.RegionHeld3
import Derived.Deep.DeepCutAuto
import Derived.Deep.DrawnRows
namespace Go.Proofs.Ytcbecpgllebepaa.Big

def val : List UInt32 → Nat
  | [] => 0
  | d :: r => d.toNat + 4294967296 * val r

def digs (n : Nat) : List UInt32 := if n = 0 then [] else UInt32.ofNat (n % 4294967296) :: digs (n / 4294967296)
termination_by n
decreasing_by omega

theorem digs_zero : digs 0 = [] := by rw [digs]; rfl
theorem digs_pos {n : Nat} (h : n ≠ 0) : digs n = UInt32.ofNat (n % 4294967296) :: digs (n / 4294967296) := by rw [digs, if_neg h]

theorem val_digs (n : Nat) : val (digs n) = n := by
  induction n using Nat.strongRecOn with
  | _ n ih =>
    by_cases h : n = 0
    · subst h; rw [digs_zero]; rfl
    · rw [digs_pos h, val, ih _ (by omega), UInt32.toNat_ofNat']
      omega

def Trim (l : List UInt32) : Prop := l.getLast? ≠ some 0

theorem val_cons_zero {d : UInt32} {r : List UInt32} (h : val (d :: r) = 0) : d = 0 ∧ val r = 0 := by
  rw [val] at h
  refine ⟨UInt32.toNat_inj.1 (by show d.toNat = 0; omega), by omega⟩

theorem trim_tail {d : UInt32} {r : List UInt32} (h : Trim (d :: r)) : Trim r := by
  intro hl
  cases r with
  | nil => cases hl
  | cons e s => exact h (by rw [List.getLast?_cons_cons]; exact hl)

theorem val_pos {l : List UInt32} (h : Trim l) (hne : l ≠ []) : 0 < val l := by
  induction l with
  | nil => exact absurd rfl hne
  | cons d r ih =>
    rw [val]
    by_cases hr : r = []
    · subst hr
      have hd : d ≠ 0 := fun e => h (by rw [e]; rfl)
      have : d.toNat ≠ 0 := fun e => hd (UInt32.toNat_inj.1 e)
      omega
    · have := ih (trim_tail h) hr
      omega

theorem digs_val {l : List UInt32} (h : Trim l) : digs (val l) = l := by
  induction l with
  | nil => rw [val, digs_zero]
  | cons d r ih =>
    have hp := val_pos h (by simp)
    rw [digs_pos (by omega)]
    have hd := d.toNat_lt
    have h1 : val (d :: r) % 4294967296 = d.toNat := by rw [val]; omega
    have h2 : val (d :: r) / 4294967296 = val r := by rw [val]; omega
    rw [h1, h2, ih (trim_tail h)]
    simp

theorem val_append (a b : List UInt32) : val (a ++ b) = val a + 4294967296 ^ a.length * val b := by
  induction a with
  | nil => simp [val]
  | cons d r ih =>
    simp only [List.cons_append, val, List.length_cons, Nat.pow_succ]
    rw [ih, Nat.mul_add, ← Nat.mul_assoc, Nat.add_assoc, Nat.mul_comm (4294967296 ^ r.length)]

theorem val_zeros {l : List UInt32} (h : ∀ (j : Nat) (u : UInt32), l[j]? = some u → u = 0) : val l = 0 := by
  induction l with
  | nil => rfl
  | cons d r ih =>
    have h0 : d = 0 := h 0 d rfl
    rw [val, ih (fun j u hj => h (j + 1) u (by simpa using hj)), h0]
    rfl

theorem val_lt (l : List UInt32) : val l < 4294967296 ^ l.length := by
  induction l with
  | nil => simp [val]
  | cons d r ih =>
    have hd := d.toNat_lt
    simp only [val, List.length_cons, Nat.pow_succ]
    have : val r + 1 ≤ 4294967296 ^ r.length := ih
    have h2 : (val r + 1) * 4294967296 ≤ 4294967296 ^ r.length * 4294967296 := Nat.mul_le_mul_right _ this
    omega

theorem trim_digs (n : Nat) : Trim (digs n) := by
  induction n using Nat.strongRecOn with
  | _ n ih =>
    by_cases h : n = 0
    · subst h; rw [digs_zero]; intro h; cases h
    · rw [digs_pos h]
      intro hl
      by_cases h2 : n / 4294967296 = 0
      · rw [h2, digs_zero] at hl
        have : UInt32.ofNat (n % 4294967296) = 0 := by simpa using hl
        have h3 := congrArg UInt32.toNat this
        rw [UInt32.toNat_ofNat'] at h3
        have h4 : (0 : UInt32).toNat = 0 := rfl
        omega
      · rw [digs_pos h2, List.getLast?_cons_cons, ← digs_pos h2] at hl
        exact ih _ (by omega) hl

/-- What is left of a list of digits when the noughts at its end are struck. -/
theorem digs_take {l : List UInt32} {k : Nat} (hk : k ≤ l.length) (hz : ∀ (j : Nat) (u : UInt32), k ≤ j → l[j]? = some u → u = 0) (hl : k = 0 ∨ ∃ u, l[k - 1]? = some u ∧ u ≠ 0) :
    digs (val l) = l.take k := by
  have h1 : val l = val (l.take k) := by
    conv => lhs; rw [← List.take_append_drop k l, val_append]
    rw [val_zeros (l := l.drop k) (fun j u hj => hz (k + j) u (by omega) (by rw [← hj, List.getElem?_drop]))]
    omega
  rw [h1]
  apply digs_val
  intro h
  rcases hl with h0 | ⟨u, hu, hne⟩
  · subst h0; simp at h
  · rcases Nat.eq_zero_or_pos k with h0 | hp
    · subst h0; simp at h
    · have : (l.take k).getLast? = some u := by
        rw [List.getLast?_eq_getElem?, List.length_take, Nat.min_eq_left hk, List.getElem?_take, if_pos (by omega)]
        exact hu
      rw [this] at h
      injection h with h
      exact hne h

theorem digs_len {n k : Nat} (h : n < 4294967296 ^ k) : (digs n).length ≤ k := by
  rcases Nat.lt_or_ge k (digs n).length with hlt | hge
  · exfalso
    have hne : digs n ≠ [] := by intro e; rw [e] at hlt; simp at hlt
    have hd := trim_digs n
    have hs : digs n = (digs n).take ((digs n).length - 1) ++ (digs n).drop ((digs n).length - 1) := (List.take_append_drop _ _).symm
    have hv := congrArg val hs
    rw [val_append, val_digs, List.length_take, Nat.min_eq_left (by omega)] at hv
    have hdr : 0 < val ((digs n).drop ((digs n).length - 1)) := by
      apply val_pos
      · intro hl
        rw [List.getLast?_drop] at hl
        split at hl
        · cases hl
        · exact hd hl
      · simp; omega
    have : 4294967296 ^ k ≤ 4294967296 ^ ((digs n).length - 1) := Nat.pow_le_pow_right (by omega) (by omega)
    have h2 : 4294967296 ^ ((digs n).length - 1) * 1 ≤ 4294967296 ^ ((digs n).length - 1) * val ((digs n).drop ((digs n).length - 1)) := Nat.mul_le_mul_left _ hdr
    omega
  · exact hge
end Go.Proofs.Ytcbecpgllebepaa.Big

namespace Go.Proofs.Ytcbecpgllebepaa.Big
open Go.RowKit

def Blk (w : World) (g : Nat) (t : TypeId) (cs : Array Value) : Prop := w.heap[g]? = some (.cells cs t (0, 0))

section
variable {w w' : World} {g : Nat} {t : TypeId} {cs : Array Value}
theorem Blk.lt (h : Blk w g t cs) : g < w.heap.size := by
  rcases Nat.lt_or_ge g w.heap.size with hlt | hge
  · exact hlt
  · unfold Blk at h; rw [Array.getElem?_eq_none hge] at h; cases h
theorem Blk.cell (h : Blk w g t cs) (i : Nat) : w.cell? ⟨g, i, none⟩ = cs[i]? := cell_of_row w g i cs t (0, 0) h
theorem Blk.frozen (h : Blk w g t cs) (i : Nat) : w.frozen? ⟨g, i, none⟩ = false := by
  unfold Blk at h
  simp [World.frozen?, h]
theorem Blk.new (w : World) (t : TypeId) (cs : Array Value) : Blk (w.alloc (.cells cs t)) w.heap.size t cs := heap_alloc_new w _
theorem Blk.drew (h : Blk w g t cs) : Blk w.drew g t cs := h
theorem Blk.drewN (h : Blk w g t cs) (n : Nat) : Blk (w.drewN n) g t cs := h
theorem Blk.alloc (h : Blk w g t cs) (o : Obj) : Blk (w.alloc o) g t cs := (Below.heap_alloc w o g h.lt).trans h
theorem Blk.set_ (h : Blk w g t cs) (i : Nat) (u : Value) : Blk (w.setCell ⟨g, i, none⟩ u) g t (cs.setIfInBounds i u) := by
  unfold Blk at h ⊢
  simp [World.setCell, Array.getElem?_modify, h]
theorem Blk.far (h : Blk w g t cs) {p : Addr} (hp : g ≠ p.block) (u : Value) : Blk (w.setCell p u) g t cs := (Below.heap_setCell w p u g hp).trans h
theorem Blk.below {B : Nat} (h : Blk w g t cs) (hb : Below B w w') (hg : g < B) : Blk w' g t cs := (hb.block g hg).trans h
theorem Blk.grown {row : Option Nat} (h : Blk w g t cs) (hb : w.grownBy w' row) (hg : some g ≠ row) : Blk w' g t cs := (hb.block g h.lt hg).trans h
theorem Blk.ne_ {g' : Nat} {t' : TypeId} {cs' : Array Value} (h : Blk w g t cs) (h' : Blk w g' t' cs') (hne : t ≠ t') : g ≠ g' := by
  rintro rfl
  unfold Blk at h h'
  rw [h] at h'
  injection h' with h'
  injection h' with _ ht
  exact hne ht
end

theorem only_refl (w : World) (row : Option Nat) : w.grownBy w row := World.grownBy.refl w row
theorem only_drewN {a w : World} {row : Option Nat} (h : a.grownBy w row) (n : Nat) : a.grownBy (w.drewN n) row := ⟨h.os, h.tape, h.output, h.size, h.block⟩
theorem only_drew {a w : World} {row : Option Nat} (h : a.grownBy w row) : a.grownBy w.drew row := ⟨h.os, h.tape, h.output, h.size, h.block⟩
theorem only_alloc {a w : World} {row : Option Nat} (h : a.grownBy w row) (o : Obj) : a.grownBy (w.alloc o) row :=
  ⟨h.os, h.tape, h.output, Nat.le_trans h.size (by simp), fun i hi hne => (Below.heap_alloc w o i (Nat.lt_of_lt_of_le hi h.size)).trans (h.block i hi hne)⟩
theorem only_setCell {a w : World} {g : Nat} (h : a.grownBy w (some g)) {p : Addr} (hp : p.block = g ∨ a.heap.size ≤ p.block) (u : Value) : a.grownBy (w.setCell p u) (some g) :=
  ⟨h.os, h.tape, h.output, by simpa [World.setCell] using h.size, fun i hi hne => (Below.heap_setCell w p u i (by
    rintro rfl
    rcases hp with hp | hp
    · exact hne (by rw [hp])
    · omega)).trans (h.block i hi hne)⟩
theorem only_of_below {a w : World} (h : Below a.heap.size a w) (row : Option Nat) : a.grownBy w row := ⟨h.os, h.tape, h.output, h.size, fun i hi _ => h.block i hi⟩
theorem only_trans {a b c : World} {row : Option Nat} (h : a.grownBy b row) (k : b.grownBy c row) : a.grownBy c row :=
  ⟨k.os.trans h.os, k.tape.trans h.tape, k.output.trans h.output, Nat.le_trans h.size k.size, fun i hi hne => (k.block i (Nat.lt_of_lt_of_le hi h.size) hne).trans (h.block i hi hne)⟩
theorem below_of_new {a b : World} {B g : Nat} (h : a.grownBy b (some g)) (hg : B ≤ g) (hB : B ≤ a.heap.size) : Below B a b :=
  ⟨h.os, h.tape, h.output, h.size, fun i hi => h.block i (by omega) (by intro e; injection e with e; omega)⟩

/-- The digits ds lie at the head of the array that a slice's address A names. -/
def Dig (w : World) (A : Option Addr) (ds : List UInt32) : Prop :=
  ds = [] ∨ ∃ (g : Nat) (cs : Array Value), A = some ⟨g, 0, none⟩ ∧ Blk w g 99 cs ∧ ∀ (j : Nat) (u : UInt32), ds[j]? = some u → cs[j]? = some (.int .u32 u.toNat)

section
variable {w w' : World} {A : Option Addr} {ds : List UInt32}
theorem Dig.nil : Dig w A [] := .inl rfl
theorem Dig.keep (h : Dig w A ds) (hk : ∀ g cs, Blk w g 99 cs → Blk w' g 99 cs) : Dig w' A ds := by
  rcases h with h | ⟨g, cs, h1, h2, h3⟩
  · exact .inl h
  · exact .inr ⟨g, cs, h1, hk g cs h2, h3⟩
theorem Dig.take (h : Dig w A ds) (k : Nat) : Dig w A (ds.take k) := by
  rcases h with h | ⟨g, cs, h1, h2, h3⟩
  · subst h; exact .inl (by simp)
  · refine .inr ⟨g, cs, h1, h2, fun j u hj => h3 j u ?_⟩
    rw [List.getElem?_take] at hj
    split at hj
    · exact hj
    · cases hj
end

/-- Block p is a number's: its sign and its digits' slice. -/
def Cell (w : World) (p : Nat) (s : Bool) (A : Option Addr) (len cap : Nat) : Prop := Blk w p 84 #[.bool s, .slice A len cap]
def Num (w : World) (p n : Nat) : Prop := ∃ (A : Option Addr) (cap : Nat), Cell w p false A (digs n).length cap ∧ Dig w A (digs n) ∧ (digs n).length ≤ cap

section
variable {w w' : World} {p n : Nat}
theorem Num.lt (h : Num w p n) : p < w.heap.size := by obtain ⟨_, _, h, _⟩ := h; exact Blk.lt h
theorem Num.keep (h : Num w p n) (hk : ∀ g t cs, Blk w g t cs → (g = p ∨ t = 99) → Blk w' g t cs) : Num w' p n := by
  obtain ⟨A, cap, h1, h2, h3⟩ := h
  exact ⟨A, cap, hk _ _ _ h1 (.inl rfl), h2.keep fun g cs hb => hk _ _ _ hb (.inr rfl), h3⟩
theorem Num.below (h : Num w p n) (hb : Below w.heap.size w w') : Num w' p n := h.keep fun _ _ _ hk _ => hk.below hb hk.lt
theorem Num.drew (h : Num w p n) : Num w.drew p n := h
theorem Num.alloc (h : Num w p n) (o : Obj) : Num (w.alloc o) p n := h.keep fun _ _ _ hk _ => hk.alloc o
theorem Num.grown {z : Nat} {cs : Array Value} (h : Num w p n) (hg : w.grownBy w' (some z)) (hz : Blk w z 84 cs) (hne : p ≠ z) : Num w' p n :=
  h.keep fun g t cs' hk hor => hk.grown hg (by
    intro e
    injection e with e
    rcases hor with h1 | h1
    · exact hne (h1.symm.trans e)
    · subst h1 e
      exact absurd rfl (Blk.ne_ hk hz (by decide)))
end
end Go.Proofs.Ytcbecpgllebepaa.Big

namespace Go.Proofs.Ytcbecpgllebepaa.Big
open Go.RowKit

def Zeros (ds : List UInt32) (k : Nat) : Prop := ∀ (j : Nat) (u : UInt32), k ≤ j → ds[j]? = some u → u = 0

def Trimmed (z n : Nat) (W : World) (e : Ending) (W' : World) : Prop :=
  e = .returned (.pointer (some ⟨z, 0, none⟩)) ∧ W.grownBy W' (some z) ∧ Num W' z n

theorem zeros_less {ds : List UInt32} {k : Nat} {u : UInt32} (hz : Zeros ds k) (_hk : 0 < k) (hu : ds[k - 1]? = some u) (h0 : u = 0) : Zeros ds (k - 1) := by
  intro j v hj hv
  by_cases e : j = k - 1
  · subst e; rw [hu] at hv; injection hv with hv; rw [← hv]; exact h0
  · exact hz j v (by omega) hv

theorem trimmed_end {z k cap : Nat} {A : Option Addr} {ds : List UInt32} {W W' : World} (hc : Cell W z false A ds.length cap) (hd : Dig W A ds) (hcap : ds.length ≤ cap) (hk : k ≤ ds.length) (hz : Zeros ds k)
    (hl : k = 0 ∨ ∃ u, ds[k - 1]? = some u ∧ u ≠ 0) (hW : W' = (W.setCell ⟨z, 1, none⟩ (.slice A k cap)) ∨ W' = (W.setCell ⟨z, 1, none⟩ (.slice A k cap)).setCell ⟨z, 0, none⟩ (.bool false)) :
    W.grownBy W' (some z) ∧ Num W' z (val ds) := by
  have h1 : W.grownBy (W.setCell ⟨z, 1, none⟩ (.slice A k cap)) (some z) := only_setCell (only_refl _ _) (.inl rfl) _
  have hb : Blk (W.setCell ⟨z, 1, none⟩ (.slice A k cap)) z 84 #[.bool false, .slice A k cap] := Blk.set_ hc 1 _
  have e := digs_take hk hz hl
  have hlen : (ds.take k).length = k := by rw [List.length_take]; omega
  have fin : ∀ w', W.grownBy w' (some z) → Blk w' z 84 #[.bool false, .slice A k cap] → Num w' z (val ds) := by
    intro w' hg hb'
    refine ⟨A, cap, ?_, ?_, ?_⟩
    · rw [e, hlen]; exact hb'
    · rw [e]
      refine (hd.take k).keep fun g cs hg' => hg'.grown hg ?_
      intro e'
      injection e' with e'
      subst e'
      exact absurd rfl (Blk.ne_ hg' hc (by decide))
    · rw [e, hlen]; omega
  rcases hW with rfl | rfl
  · exact ⟨h1, fin _ h1 hb⟩
  · have h2 := only_setCell (p := ⟨z, 0, none⟩) h1 (.inl rfl) (.bool false)
    exact ⟨h2, fin _ h2 (Blk.set_ hb 0 _)⟩

set_option maxHeartbeats 1000000 in
theorem trim_c (z cap : Nat) (A : Option Addr) (ds : List UInt32) (W : World) (hc : Cell W z false A ds.length cap) (hd : Dig W A ds) (hcap : ds.length ≤ cap) (hmax : ds.length ≤ 4611686018427387904) :
    Calls Try.prog 67 #[.pointer (some ⟨z, 0, none⟩)] W (Trimmed z (val ds) W) := by
  have c1 : W.cell? ⟨z, 1, none⟩ = some (.slice A ds.length cap) := Blk.cell hc 1
  have f1 : W.frozen? ⟨z, 1, none⟩ = false := Blk.frozen hc 1
  have c0 : W.cell? ⟨z, 0, none⟩ = some (.bool false) := Blk.cell hc 0
  have f0 : W.frozen? ⟨z, 0, none⟩ = false := Blk.frozen hc 0
  go_enter Try.func67, Try.ntmps67
  go_wp2
  go_loop [3] (fun i => ∃ k : Nat, k ≤ ds.length ∧ Zeros ds k ∧ i = .int .i64 k) (fun i => (intOf i).toNat)
  case atStart => exact ⟨ds.length, Nat.le_refl _, (fun j u hj hu => absurd (List.getElem?_eq_none hj) (by rw [hu]; simp)), rfl⟩
  case round =>
    obtain ⟨k, hk, hz, rfl⟩ := hrel
    have HZ := Lib.hid hz
    clear hz
    by_cases hpos : 0 < k
    · have hdig : ∃ g cs u, A = some ⟨g, 0, none⟩ ∧ Blk W g 99 cs ∧ ds[k - 1]? = some u ∧ W.cell? ⟨g, k - 1, none⟩ = some (.int .u32 u.toNat) := by
        rcases hd with h0 | ⟨g, cs, h1, h2, h3⟩
        · subst h0; simp at hk; omega
        · have hu : ds[k - 1]? = some ds[k - 1] := List.getElem?_eq_getElem (by omega)
          exact ⟨g, cs, _, h1, h2, hu, by rw [Blk.cell h2, h3 _ _ hu]⟩
      obtain ⟨g, cs, u, rfl, hbk, hu, hcell⟩ := hdig
      have HU := Lib.hid hu
      clear hu
      by_cases h0 : u = 0
      · have hb0 : ((u.toNat : Int) == 0) = true := by rw [h0]; rfl
        have H0 := Lib.hid h0
        clear h0
        go_wp2
        go_round
        case rel => exact ⟨k - 1, by omega, zeros_less HZ.out hpos HU.out H0.out, by go_num⟩
        case measure => simp [intOf]; omega
      · have hb0 : ((u.toNat : Int) == 0) = false := by
          rw [beq_eq_false_iff_ne]; intro e; exact h0 (UInt32.toNat_inj.1 (by show u.toNat = 0; omega))
        have H0 := Lib.hid h0
        clear h0
        go_wp2
        go_ret
        exact ⟨rfl, trimmed_end hc hd hcap hk HZ.out (.inr ⟨u, HU.out, H0.out⟩) (.inl rfl)⟩
    · have hk0 : k = 0 := by omega
      subst hk0
      go_wp2
      go_ret
      exact ⟨rfl, trimmed_end hc hd hcap hk HZ.out (.inl rfl) (.inr rfl)⟩
end Go.Proofs.Ytcbecpgllebepaa.Big

namespace Go.Proofs.Ytcbecpgllebepaa.Big
set_option linter.unusedVariables false
open Go.RowKit

def lo (x : UInt64) : UInt32 := x.toUInt32
def hi (x : UInt64) : UInt32 := (x >>> 32).toUInt32
theorem lo_nat (x : UInt64) : (lo x).toNat = x.toNat % 4294967296 := by unfold lo; simp
theorem hi_nat (x : UInt64) : (hi x).toNat = x.toNat / 4294967296 := by
  unfold hi; have := x.toNat_lt
  rw [UInt64.toNat_toUInt32, UInt64.toNat_shiftRight, show (32 : UInt64).toNat % 64 = 32 by decide, Nat.shiftRight_eq_div_pow]
  omega
theorem val_word (x : UInt64) : val [lo x, hi x] = x.toNat := by
  simp only [val]; rw [lo_nat, hi_nat]; omega

/-- Block z is a number's, of whatever sign and digits. -/
def Slot (w : World) (z : Nat) : Prop := ∃ a b : Value, Blk w z 84 #[a, b] ∧ (∃ s, a = .bool s) ∧ ∃ A l c, b = .slice A l c
theorem Num.slot {w : World} {p n : Nat} (h : Num w p n) : Slot w p := by
  obtain ⟨A, cap, h1, _, _⟩ := h
  exact ⟨_, _, h1, ⟨_, rfl⟩, _, _, _, rfl⟩
theorem Slot.lt {w : World} {p : Nat} (h : Slot w p) : p < w.heap.size := by obtain ⟨_, _, h, _⟩ := h; exact Blk.lt h
theorem Slot.alloc {w : World} {p : Nat} (h : Slot w p) (o : Obj) : Slot (w.alloc o) p := by obtain ⟨a, b, h, ha, hb⟩ := h; exact ⟨a, b, h.alloc o, ha, hb⟩
theorem Slot.below {w w' : World} {p : Nat} (h : Slot w p) (hb : Below w.heap.size w w') : Slot w' p := by obtain ⟨a, b, h, ha, hb'⟩ := h; exact ⟨a, b, h.below hb h.lt, ha, hb'⟩
theorem Slot.new (w : World) : Slot (w.alloc (.cells #[.bool false, .slice none 0 0] 84)) w.heap.size := ⟨_, _, Blk.new _ _ _, ⟨_, rfl⟩, _, _, _, rfl⟩
theorem Slot.facts {w : World} {z : Nat} (h : Slot w z) : ∃ s A l c, w.cell? ⟨z, 0, none⟩ = some (.bool s) ∧ w.cell? ⟨z, 1, none⟩ = some (.slice A l c) ∧ w.frozen? ⟨z, 0, none⟩ = false ∧ w.frozen? ⟨z, 1, none⟩ = false ∧ z < w.heap.size := by
  obtain ⟨a, b, h, ⟨s, rfl⟩, A, l, c, rfl⟩ := h
  exact ⟨s, A, l, c, Blk.cell h 0, Blk.cell h 1, Blk.frozen h 0, Blk.frozen h 1, Blk.lt h⟩

theorem shr32 (x : UInt64) : (x.toNat : Int) / 4294967296 = ((hi x).toNat : Int) := by rw [hi_nat]; omega
theorem low32 (x : UInt64) : (x.toNat : Int) % 4294967296 = ((lo x).toNat : Int) := by rw [lo_nat]; omega
theorem hi32 (x : UInt64) : ((hi x).toNat : Int) % 4294967296 = ((hi x).toNat : Int) := by have := Words.lt32 (hi x); omega
attribute [local go_sem] shr32 low32 hi32

/-- The world behind 'z.neg, z.d = false, s', s a slice that lies in one new block. -/
def stored (W : World) (z : Nat) (s : Bool) (v : Value) : World := (W.setCell ⟨z, 0, none⟩ (.bool s)).setCell ⟨z, 1, none⟩ v
theorem stored_size (W : World) (z : Nat) (s : Bool) (v : Value) : (stored W z s v).heap.size = W.heap.size := by simp [stored, World.setCell]
theorem stored_grown (W : World) (z : Nat) (s : Bool) (v : Value) : W.grownBy (stored W z s v) (some z) := by
  unfold stored; exact only_setCell (p := ⟨z, 1, none⟩) (only_setCell (p := ⟨z, 0, none⟩) (only_refl _ _) (.inl rfl) _) (.inl rfl) _
theorem stored_cell {W : World} {z : Nat} (hz : Slot W z) (s : Bool) (A : Option Addr) (l c : Nat) : Cell (stored W z s (.slice A l c)) z s A l c := by
  obtain ⟨a, b, h, _, _⟩ := hz
  exact (h.set_ 0 (.bool s)).set_ 1 (.slice A l c)
theorem stored_new {W : World} {z : Nat} (s : Bool) (v : Value) (t : TypeId) (cs : Array Value) : Blk ((stored W z s v).alloc (.cells cs t)) W.heap.size t cs := by
  have h := Blk.new (stored W z s v) t cs
  rwa [stored_size] at h
theorem Trimmed.from {z n : Nat} {W W1 : World} {e : Ending} {W' : World} (h : Trimmed z n W1 e W') (hg : W.grownBy W1 (some z)) : Trimmed z n W e W' :=
  ⟨h.1, only_trans hg h.2.1, h.2.2⟩

set_option maxHeartbeats 1000000 in
theorem setUint64_c (z : Nat) (x : UInt64) (W : World) (hz : Slot W z) :
    Calls Try.prog 69 #[.pointer (some ⟨z, 0, none⟩), .int .u64 x.toNat] W (Trimmed z x.toNat W) := by
  obtain ⟨s, A, l, c, c0, c1, f0, f1, hlt⟩ := hz.facts
  go_enter Try.func69, Try.ntmps69
  go_wp2_with fail
  have hg : W.grownBy ((stored W z false (.slice (some ⟨W.heap.size, 0, none⟩) 2 2)).alloc (.cells #[.int .u32 (lo x).toNat, .int .u32 (hi x).toNat] 99)) (some z) := only_alloc (stored_grown _ _ _ _) _
  have hc := (stored_cell hz false (some ⟨W.heap.size, 0, none⟩) 2 2).alloc (.cells #[.int .u32 (lo x).toNat, .int .u32 (hi x).toNat] 99)
  have hd : Dig ((stored W z false (.slice (some ⟨W.heap.size, 0, none⟩) 2 2)).alloc (.cells #[.int .u32 (lo x).toNat, .int .u32 (hi x).toNat] 99)) (some ⟨W.heap.size, 0, none⟩) [lo x, hi x] :=
    .inr ⟨_, _, rfl, stored_new _ _ _ _, fun j u hj => by
      match j with
      | 0 => injection hj with hj; subst hj; rfl
      | 1 => injection hj with hj; subst hj; rfl
      | n + 2 => simp at hj⟩
  refine (trim_c z 2 _ [lo x, hi x] _ hc hd (by simp) (by simp)).mono ?_
  intro e w' h
  have h' := h.from hg
  rw [val_word] at h'
  have H := Lib.hid h'
  obtain ⟨rfl, _⟩ := h
  clear h' hc hd hg
  go_wp2_with fail
  go_ret
  exact H.out

/-- A new number: a pointer to a block that was not there. -/
def Fresh (n : Nat) (W : World) (e : Ending) (W' : World) : Prop :=
  ∃ p : Nat, e = .returned (.pointer (some ⟨p, 0, none⟩)) ∧ W.heap.size ≤ p ∧ Below W.heap.size W W' ∧ Num W' p n

theorem fresh_of {n : Nat} {W : World} {e : Ending} {W' : World} {o : Obj} (h : Trimmed W.heap.size n (W.alloc o) e W') : Fresh n W e W' := by
  obtain ⟨h1, h2, h3⟩ := h
  exact ⟨_, h1, Nat.le_refl _, ((Below.refl _ _).alloc (Nat.le_refl _) o).trans (below_of_new h2 (Nat.le_refl _) (by simp)), h3⟩

set_option maxHeartbeats 1000000 in
theorem aBig_c (x : UInt64) (W : World) :
    Calls Try.prog 50 #[.int .u64 x.toNat] W (Fresh x.toNat W) := by
  go_enter Try.func50, Try.ntmps50
  go_wp2_with fail
  refine (setUint64_c _ x _ (Slot.new W)).mono ?_
  intro e w' h
  have H := Lib.hid (fresh_of h)
  obtain ⟨rfl, _⟩ := h
  go_wp2_with fail
  go_ret
  exact H.out

theorem conv_nat (n : Nat) (h : n < 9223372036854775808) : IntKind.u64.wrap (n : Int) = ((UInt64.ofNat n).toNat : Int) := by
  rw [IntKind.wrap_u64, UInt64.toNat_ofNat']; omega

set_option maxHeartbeats 1000000 in
theorem setInt64_c (z n : Nat) (hn : n < 9223372036854775808) (W : World) (hz : Slot W z) :
    Calls Try.prog 89 #[.pointer (some ⟨z, 0, none⟩), .int .i64 n] W (Trimmed z n W) := by
  have hlt : ((n : Int) < 0) = False := by simp
  have hx : (UInt64.ofNat n).toNat = n := by rw [UInt64.toNat_ofNat']; omega
  have key := setUint64_c z (UInt64.ofNat n) W hz
  rw [hx] at key
  have KEY := Lib.hid key
  clear key hx
  go_enter Try.func89, Try.ntmps89
  go_wp2_with fail
  refine KEY.out.mono ?_
  intro e w' h
  have H := Lib.hid h
  obtain ⟨rfl, _⟩ := h
  go_wp2_with fail
  go_ret
  exact H.out

set_option maxHeartbeats 1000000 in
theorem newInt_c (n : Nat) (hn : n < 9223372036854775808) (W : World) :
    Calls Try.prog 66 #[.int .i64 n] W (Fresh n W) := by
  go_enter Try.func66, Try.ntmps66
  go_wp2_with fail
  refine (setInt64_c _ n hn _ (Slot.new W)).mono ?_
  intro e w' h
  have H := Lib.hid (fresh_of h)
  obtain ⟨rfl, _⟩ := h
  go_wp2_with fail
  go_ret
  exact H.out
end Go.Proofs.Ytcbecpgllebepaa.Big

namespace Go.Proofs.Ytcbecpgllebepaa.Big
set_option linter.unusedVariables false
open Go.RowKit

/-- The digits of a number from place k on, of its two lowest. -/
def low (ds : List UInt32) (k : Nat) : Nat := val ((ds.take 2).drop k)

theorem Num.facts {w : World} {p n : Nat} (h : Num w p n) : ∃ (A : Option Addr) (cap : Nat), w.cell? ⟨p, 0, none⟩ = some (.bool false) ∧ w.cell? ⟨p, 1, none⟩ = some (.slice A (digs n).length cap) ∧ (digs n).length ≤ cap ∧ Dig w A (digs n) := by
  obtain ⟨A, cap, h1, h2, h3⟩ := h
  exact ⟨A, cap, Blk.cell h1 0, Blk.cell h1 1, h3, h2⟩
theorem Dig.at_ {w : World} {A : Option Addr} {ds : List UInt32} (h : Dig w A ds) {k : Nat} (hk : k < ds.length) :
    ∃ g cs u, A = some ⟨g, 0, none⟩ ∧ Blk w g 99 cs ∧ ds[k]? = some u ∧ w.cell? ⟨g, k, none⟩ = some (.int .u32 u.toNat) := by
  rcases h with h0 | ⟨g, cs, h1, h2, h3⟩
  · subst h0; simp at hk
  · have hu : ds[k]? = some ds[k] := List.getElem?_eq_getElem hk
    exact ⟨g, cs, _, h1, h2, hu, by rw [Blk.cell h2, h3 _ _ hu]⟩


def join (a b : UInt32) : Nat := a.toNat + 4294967296 * b.toNat
theorem join_lt (a b : UInt32) : join a b < 18446744073709551616 := by
  unfold join; have := a.toNat_lt; have := b.toNat_lt; omega
theorem or_join (a b : UInt32) : bits .or .u64 ((b.toNat : Int) * 4294967296) (a.toNat : Int) = ((join a b : Nat) : Int) := by
  have ha := a.toNat_lt
  have hb := b.toNat_lt
  rw [show ((b.toNat : Int) * 4294967296) = ((b.toNat * 4294967296 : Nat) : Int) by omega, u64_or_nat _ _ (by omega) (by omega)]
  congr 1
  unfold join
  rw [show b.toNat * 4294967296 = 2 ^ 32 * b.toNat by omega, ← Nat.two_pow_add_eq_or_of_lt (by omega)]
  omega
theorem or_zero (a : UInt32) : bits .or .u64 0 (a.toNat : Int) = (a.toNat : Int) := by
  have ha := a.toNat_lt
  rw [show (0 : Int) = ((0 : Nat) : Int) from rfl, u64_or_nat _ _ (by omega) (by omega), Nat.zero_or]

attribute [local go_sem] or_zero or_join

set_option maxHeartbeats 1000000 in
theorem word0 (p cap : Nat) (A : Option Addr) (W : World) (c1 : W.cell? ⟨p, 1, none⟩ = some (.slice A 0 cap)) :
    Calls Try.prog 54 #[.pointer (some ⟨p, 0, none⟩)] W fun e w' => e = .returned (.int .u64 0) ∧ W = w' := by
  go_enter Try.func54, Try.ntmps54
  go_wp2
  go_loop [3, 4] (fun x i => i = .int .i64 (-1) ∧ x = .int .u64 0) (fun _ i => (intOf i + 1).toNat)
  case atStart => exact ⟨rfl, rfl⟩
  case round =>
    obtain ⟨rfl, rfl⟩ := hrel
    go_wp2
    go_ret
    exact ⟨rfl, rfl⟩

set_option maxHeartbeats 1000000 in
theorem word1 (p cap g : Nat) (a : UInt32) (W : World) (c1 : W.cell? ⟨p, 1, none⟩ = some (.slice (some ⟨g, 0, none⟩) 1 cap)) (d0 : W.cell? ⟨g, 0, none⟩ = some (.int .u32 a.toNat)) :
    Calls Try.prog 54 #[.pointer (some ⟨p, 0, none⟩)] W fun e w' => e = .returned (.int .u64 a.toNat) ∧ W = w' := by
  have ha : (a.toNat : Int) < 4294967296 := by have := a.toNat_lt; omega
  go_enter Try.func54, Try.ntmps54
  go_wp2
  go_loop [3, 4] (fun x i => (i = .int .i64 0 ∧ x = .int .u64 0) ∨ (i = .int .i64 (-1) ∧ x = .int .u64 a.toNat)) (fun _ i => (intOf i + 1).toNat)
  case atStart => exact .inl ⟨rfl, rfl⟩
  case round =>
    rcases hrel with ⟨rfl, rfl⟩ | ⟨rfl, rfl⟩
    · go_wp2
      go_round
      case rel => exact .inr ⟨by go_num, rfl⟩
      case measure => simp [intOf]
    · go_wp2
      go_ret
      exact ⟨rfl, rfl⟩

set_option maxHeartbeats 1000000 in
theorem word2 (p L cap g : Nat) (hL : 2 ≤ L) (a b : UInt32) (W : World) (c1 : W.cell? ⟨p, 1, none⟩ = some (.slice (some ⟨g, 0, none⟩) L cap)) (d0 : W.cell? ⟨g, 0, none⟩ = some (.int .u32 a.toNat)) (d1 : W.cell? ⟨g, 1, none⟩ = some (.int .u32 b.toNat)) :
    Calls Try.prog 54 #[.pointer (some ⟨p, 0, none⟩)] W fun e w' => e = .returned (.int .u64 (join a b)) ∧ W = w' := by
  have ha : (a.toNat : Int) < 4294967296 := by have := a.toNat_lt; omega
  have hb : (b.toNat : Int) < 4294967296 := by have := b.toNat_lt; omega
  rcases (by omega : L = 2 ∨ 2 < L) with rfl | hL
  all_goals
    go_enter Try.func54, Try.ntmps54
    go_wp2
    go_loop [3, 4] (fun x i => (i = .int .i64 1 ∧ x = .int .u64 0) ∨ (i = .int .i64 0 ∧ x = .int .u64 b.toNat) ∨ (i = .int .i64 (-1) ∧ x = .int .u64 (join a b))) (fun _ i => (intOf i + 1).toNat)
    case atStart => exact .inl ⟨rfl, rfl⟩
    case round =>
      rcases hrel with ⟨rfl, rfl⟩ | ⟨rfl, rfl⟩ | ⟨rfl, rfl⟩
      · go_wp2
        go_round
        case rel => exact .inr (.inl ⟨by go_num, rfl⟩)
        case measure => simp [intOf]
      · go_wp2
        go_round
        case rel => exact .inr (.inr ⟨by go_num, rfl⟩)
        case measure => simp [intOf]
      · go_wp2
        go_ret
        exact ⟨rfl, rfl⟩

theorem uint64_c (p n : Nat) (W : World) (hp : Num W p n) :
    Calls Try.prog 54 #[.pointer (some ⟨p, 0, none⟩)] W fun e w' => e = .returned (.int .u64 (n % 18446744073709551616 : Nat)) ∧ W = w' := by
  obtain ⟨A, cap, c0, c1, hcap, hd⟩ := hp.facts
  have hv := val_digs n
  rcases hds : digs n with _ | ⟨a, _ | ⟨b, r⟩⟩
  · rw [hds] at c1 hv
    have : n = 0 := hv.symm
    subst this
    exact word0 p cap A W c1
  · rw [hds] at c1 hd hv
    obtain ⟨g, cs, u, rfl, _, hu, d0⟩ := hd.at_ (k := 0) (by simp)
    obtain rfl : a = u := by injection hu
    have ha := a.toNat_lt
    have hn' : n % 18446744073709551616 = a.toNat := by rw [← hv]; simp only [val]; omega
    rw [hn']
    exact word1 p cap g a W c1 d0
  · rw [hds] at c1 hd hv
    obtain ⟨g, cs, u, rfl, hb1, hu, d0⟩ := hd.at_ (k := 0) (by simp)
    obtain rfl : a = u := by injection hu
    obtain ⟨g', cs', u', hg, _, hu', d1⟩ := hd.at_ (k := 1) (by simp)
    obtain rfl : b = u' := by simpa using hu'
    obtain rfl : g = g' := by injection hg with hg; injection hg
    have hn' : n % 18446744073709551616 = join a b := by
      have := join_lt a b
      rw [← hv]; simp only [val]; unfold join at *; omega
    rw [hn']
    exact word2 p _ cap g (by simp) a b W c1 d0 d1
end Go.Proofs.Ytcbecpgllebepaa.Big

namespace Go.Proofs.Ytcbecpgllebepaa.Big
set_option linter.unusedVariables false
open Go.RowKit

def dig (u : UInt32) : Value := .int .u32 u.toNat
def rowOf (l : List UInt32) : Array Value := (l.map dig).toArray
theorem rowOf_get (l : List UInt32) (j : Nat) : (rowOf l)[j]? = (l[j]?).map dig := by simp [rowOf]
theorem rowOf_at {l : List UInt32} {j : Nat} {u : UInt32} (h : l[j]? = some u) : (rowOf l)[j]? = some (.int .u32 u.toNat) := by rw [rowOf_get, h]; rfl
theorem rowOf_set (l : List UInt32) (k : Nat) (u : UInt32) : (rowOf l).setIfInBounds k (.int .u32 u.toNat) = rowOf (l.set k u) := by
  simp [rowOf, dig, List.map_set]
theorem rowOf_size (l : List UInt32) : (rowOf l).size = l.length := by simp [rowOf]

theorem Blk.dig {w : World} {g : Nat} {l : List UInt32} (h : Blk w g 99 (rowOf l)) : Dig w (some ⟨g, 0, none⟩) l :=
  .inr ⟨g, _, rfl, h, fun j u hj => rowOf_at hj⟩
theorem Blk.at_ {w : World} {g : Nat} {l : List UInt32} (h : Blk w g 99 (rowOf l)) {k : Nat} {u : UInt32} (hk : l[k]? = some u) : w.cell? ⟨g, k, none⟩ = some (.int .u32 u.toNat) := by
  rw [Blk.cell h, rowOf_at hk]
theorem Blk.put_ {w : World} {g : Nat} {l : List UInt32} (h : Blk w g 99 (rowOf l)) (k : Nat) (u : UInt32) : Blk (w.setCell ⟨g, k, none⟩ (.int .u32 u.toNat)) g 99 (rowOf (l.set k u)) := by
  rw [← rowOf_set]; exact h.set_ k _

theorem info32 : (Try.prog.info? 99).map (fun i => (i.zero, i.size, i.bytes)) = some (some (.int .u32 0), 1, 4) := by kernel_rfl
theorem made32 (n : Nat) : madeCells #[Value.int .u32 0] n = rowOf (List.replicate n 0) := by
  apply Array.ext_getElem?
  intro i
  rw [rowOf_get]
  by_cases h : i < n
  · simp [madeCells, h, dig, Nat.mod_one]
  · simp [madeCells, h]
theorem make_c (n : Nat) (hn : n ≤ 35184372088832) (w : World) :
    (Instr.makeSlice 82 (.int .i64 n) (.int .i64 n)).run Try.prog w = .ok (.slice (some ⟨w.heap.size, 0, none⟩) n n) (w.alloc (.cells (rowOf (List.replicate n 0)) 99)) := by
  obtain ⟨i, hi, hz0, hz1, hz2⟩ := info_parts info32
  have hb : (i.bytes : Int) * (n : Int) ≤ 281474976710656 := by rw [hz2]; omega
  have hr := run_make (P := Try.prog) w 82 99 i (.int .u32 0) Try.underlying82 hi hz0 .i64 .i64 n n (by omega) (by omega) hb (by omega)
  rw [hr]
  simp only [Int.toNat_natCast, hz1, Nat.mul_one]
  rw [show (Value.int .u32 0).cells = #[Value.int .u32 0] from rfl, made32]

/-- A row that is filled from its head on: the first k of out, noughts behind. -/
def fill (out : List UInt32) (k : Nat) : List UInt32 := out.take k ++ List.replicate (out.length - k) 0
theorem fill_zero (out : List UInt32) : fill out 0 = List.replicate out.length 0 := by simp [fill]
theorem fill_all (out : List UInt32) : fill out out.length = out := by simp [fill]
theorem fill_len (out : List UInt32) {k : Nat} (hk : k ≤ out.length) : (fill out k).length = out.length := by simp [fill]; omega
theorem fill_set {out : List UInt32} {k : Nat} {u : UInt32} (h : out[k]? = some u) : (fill out k).set k u = fill out (k + 1) := by
  have hk : k < out.length := by
    rcases Nat.lt_or_ge k out.length with h1 | h1
    · exact h1
    · rw [List.getElem?_eq_none h1] at h; cases h
  unfold fill
  rw [List.set_append_right _ _ (by simp; omega), List.length_take, Nat.min_eq_left (by omega), Nat.sub_self]
  rw [show out.length - k = (out.length - (k + 1)) + 1 by omega, List.replicate_succ, List.set_cons_zero, List.take_succ_eq_append_getElem hk]
  have hu : out[k] = u := by rw [List.getElem?_eq_getElem hk] at h; injection h
  rw [hu]; simp
theorem fill_at {out : List UInt32} {k : Nat} (hk : k < out.length) : (fill out k)[k]? = some 0 := by
  unfold fill
  rw [List.getElem?_append_right (by simp; omega)]
  simp [List.getElem?_replicate]; omega
theorem fill_set2 {out : List UInt32} {k : Nat} {u v : UInt32} (h : out[k]? = some u) : ((fill out k).set k v).set k u = fill out (k + 1) := by
  rw [List.set_set, fill_set h]
end Go.Proofs.Ytcbecpgllebepaa.Big

namespace Go.Proofs.Ytcbecpgllebepaa.Big
set_option linter.unusedVariables false
open Go.RowKit

def half (d : UInt32) : UInt32 := d >>> 1
def topb (e : UInt32) : UInt32 := e <<< 31
def or32 (a b : UInt32) : UInt32 := a ||| b
theorem half_nat (d : UInt32) : (half d).toNat = d.toNat / 2 := by
  unfold half
  rw [UInt32.toNat_shiftRight, show (1 : UInt32).toNat % 32 = 1 by decide, Nat.shiftRight_eq_div_pow]
theorem topb_nat (e : UInt32) : (topb e).toNat = e.toNat * 2147483648 % 4294967296 := by
  unfold topb
  rw [UInt32.toNat_shiftLeft, show (31 : UInt32).toNat % 32 = 31 by decide, Nat.shiftLeft_eq]
theorem halved (d : UInt32) : (d.toNat : Int) / 2 = ((half d).toNat : Int) := by rw [half_nat]; omega
theorem topped (e : UInt32) : (e.toNat : Int) * 2147483648 % 4294967296 = ((topb e).toNat : Int) := by rw [topb_nat]; omega
theorem ored (a b : UInt32) : bits .or .u32 (a.toNat : Int) (b.toNat : Int) = ((or32 a b).toNat : Int) := by
  rw [u32_or_nat _ _ (Words.lt32 a) (Words.lt32 b)]; unfold or32; rw [UInt32.toNat_or]
theorem or_nat (d e : UInt32) : (or32 (half d) (topb e)).toNat = d.toNat / 2 + e.toNat % 2 * 2147483648 := by
  unfold or32
  rw [UInt32.toNat_or, half_nat, topb_nat]
  have hd := d.toNat_lt
  rw [show e.toNat * 2147483648 % 4294967296 = 2 ^ 31 * (e.toNat % 2) by omega, Nat.or_comm, ← Nat.two_pow_add_eq_or_of_lt (by omega)]
  omega

/-- The list halved. -/
def sr : List UInt32 → List UInt32
  | [] => []
  | [d] => [half d]
  | d :: e :: r => or32 (half d) (topb e) :: sr (e :: r)
theorem sr_len : ∀ l : List UInt32, (sr l).length = l.length
  | [] => rfl
  | [_] => rfl
  | d :: e :: r => by rw [sr, List.length_cons, sr_len (e :: r)]; rfl
theorem sr_val : ∀ l : List UInt32, val (sr l) = val l / 2
  | [] => rfl
  | [d] => by simp only [sr, val, half_nat]; omega
  | d :: e :: r => by
    rw [sr, val, sr_val (e :: r), or_nat]
    simp only [val]
    omega
theorem sr_last : ∀ (l : List UInt32) (k : Nat) (d : UInt32), l[k]? = some d → k + 1 = l.length → (sr l)[k]? = some (half d)
  | [], k, d, h, hk => by simp at hk
  | [a], k, d, h, hk => by
    obtain rfl : k = 0 := by simp at hk; omega
    injection h with h; subst h; rfl
  | a :: e :: r, k, d, h, hk => by
    cases k with
    | zero => simp at hk
    | succ k => simpa [sr] using sr_last (e :: r) k d (by simpa using h) (by simpa using hk)
theorem sr_mid : ∀ (l : List UInt32) (k : Nat) (d e : UInt32), l[k]? = some d → l[k + 1]? = some e → (sr l)[k]? = some (or32 (half d) (topb e))
  | [], k, d, e, h, _ => by simp at h
  | [a], k, d, e, _, h => by simp at h
  | a :: b :: r, k, d, e, h, h2 => by
    cases k with
    | zero => simp at h h2; subst h h2; rfl
    | succ k => simpa [sr] using sr_mid (b :: r) k d e (by simpa using h) (by simpa using h2)

attribute [local go_sem] halved topped ored

def Sliced (l : List UInt32) (W : World) (e : Ending) (W' : World) : Prop :=
  ∃ g : Nat, e = .returned (.slice (some ⟨g, 0, none⟩) l.length l.length) ∧ W.heap.size ≤ g ∧ Below W.heap.size W W' ∧ Blk W' g 99 (rowOf l)

def RoundAt (W : World) (l : List UInt32) (k : Nat) (wr : World) : Prop := Below W.heap.size W wr ∧ W.heap.size < wr.heap.size ∧ Blk wr W.heap.size 99 (rowOf (fill (sr l) k))

set_option maxHeartbeats 2000000 in
theorem shiftRight_c (g cap : Nat) (l : List UInt32) (x : UInt32) (W : World) (hl : 1 ≤ l.length) (hx : ∀ (j : Nat) (u : UInt32), l[j]? = some u → W.cell? ⟨g, 1 + j, none⟩ = some (.int .u32 u.toNat))
    (hg : g < W.heap.size) (hcap : l.length + 1 ≤ cap) (hM : l.length ≤ 35184372088832) :
    Calls Try.prog 71 #[.slice (some ⟨g, 0, none⟩) (l.length + 1) cap, .int .i64 33] W (Sliced (sr l) W) := by
  have hmk := make_c l.length hM
  have hc1 : ¬ cap = 1 := by omega
  have hb1 : decide ((l.length : Int) + 1 ≤ 1) = false := by simp; omega
  go_enter Try.func71, Try.ntmps71
  go_wp2
  go_loopw [22] (fun i wr => ∃ k : Nat, k ≤ l.length ∧ i = .int .i64 k ∧ RoundAt W l k wr) (fun i _ => l.length - (intOf i).toNat)
  case atStart => exact ⟨0, Nat.zero_le _, rfl, (Below.refl _ _).alloc (Nat.le_refl _) _, by simp, by rw [fill_zero, sr_len]; exact Blk.new _ _ _⟩
  case round =>
    obtain ⟨k, hk, rfl, hR⟩ := hrel
    by_cases hlt : k < l.length
    · obtain ⟨hb, hsz, hB⟩ := hR
      have hd : l[k]? = some l[k] := List.getElem?_eq_getElem hlt
      obtain ⟨d, hde⟩ : ∃ d, l[k] = d := ⟨_, rfl⟩
      rw [hde] at hd
      have hcx : wr.cell? ⟨g, 1 + k, none⟩ = some (.int .u32 d.toNat) := (hb.cell (p := ⟨g, 1 + k, none⟩) hg).trans (hx k d hd)
      have hco : wr.cell? ⟨W.heap.size, k, none⟩ = some (.int .u32 0) := hB.at_ (fill_at (by rw [sr_len]; exact hlt))
      have hfo : wr.frozen? ⟨W.heap.size, k, none⟩ = false := hB.frozen k
      have HD := Lib.hid hd
      clear hd hde
      by_cases hn : k + 1 < l.length
      · have he : l[k + 1]? = some l[k + 1] := List.getElem?_eq_getElem hn
        obtain ⟨e, hee⟩ : ∃ e, l[k + 1] = e := ⟨_, rfl⟩
        rw [hee] at he
        have hc2 : (wr.setCell ⟨W.heap.size, k, none⟩ (.int .u32 (half d).toNat)).cell? ⟨g, 1 + (k + 1), none⟩ = some (.int .u32 e.toNat) := by
          rw [World.cell?_setCell_other _ _ _ _ (by intro h; injection h with h _; omega)]
          exact (hb.cell (p := ⟨g, 1 + (k + 1), none⟩) hg).trans (hx (k + 1) e he)
        have HE := Lib.hid he
        clear he hee
        go_wp2
        go_region
        all_goals go_wp2
        all_goals go_roundw
        case rel =>
          refine ⟨k + 1, by omega, by go_num, ((hb.setCell (by simp) _).setCell (by simp) _).drew, by simpa [World.setCell] using hsz, ?_⟩
          rw [← fill_set2 (v := half d) (sr_mid l k d e HD.out HE.out)]
          exact (hB.put_ k _).put_ k _
        case measure => simp [intOf]; omega
      · have hke : k + 1 = l.length := by omega
        have HK := Lib.hid hke
        clear hke
        go_wp2
        go_roundw
        case rel => exact ⟨k + 1, by omega, by go_num, hb.setCell (by simp) _, by simpa [World.setCell] using hsz, by rw [← fill_set (sr_last l k d HD.out HK.out)]; exact hB.put_ k _⟩
        case measure => simp [intOf]; omega
    · have hke : k = l.length := by omega
      subst hke
      have HR := Lib.hid hR
      clear hR
      go_wp2
      go_ret
      have hB := HR.out.2.2
      rw [← sr_len l, fill_all] at hB
      exact ⟨W.heap.size, by rw [sr_len]; rfl, Nat.le_refl _, HR.out.1, hB⟩

set_option maxHeartbeats 1000000 in
theorem shiftRight_short (A : Option Addr) (n cap : Nat) (hn : n ≤ 1) (W : World) :
    Calls Try.prog 71 #[.slice A n cap, .int .i64 33] W fun e w' => e = .returned (.slice none 0 0) ∧ W = w' := by
  go_enter Try.func71, Try.ntmps71
  go_wp2
  go_ret
  exact ⟨rfl, rfl⟩

theorem stored_size' (W : World) (z : Nat) (s : Bool) (v : Value) : (stored W z s v).heap.size = W.heap.size := stored_size W z s v
theorem dig_stored {W : World} {z : Nat} (hz : Slot W z) {A : Option Addr} {ds : List UInt32} (h : Dig W A ds) (s : Bool) (v : Value) : Dig (stored W z s v) A ds := by
  refine h.keep fun g cs hg => hg.grown (stored_grown W z s v) ?_
  intro e
  injection e with e
  subst e
  obtain ⟨a, b, hb, _⟩ := hz
  exact absurd rfl (Blk.ne_ hg hb (by decide))

/-- The end of a function that stores a slice of digits into z and trims it. -/
theorem stored_trim {W : World} {z : Nat} (hz : Slot W z) {A : Option Addr} {ds : List UInt32} {cap : Nat} (h : Dig W A ds) (hc : ds.length ≤ cap) (hmax : ds.length ≤ 4611686018427387904) :
    Calls Try.prog 67 #[.pointer (some ⟨z, 0, none⟩)] (stored W z false (.slice A ds.length cap)) (Trimmed z (val ds) W) :=
  (trim_c z cap A ds _ (stored_cell hz false A ds.length cap) (dig_stored hz h false _) hc hmax).mono fun e w' h' => h'.from (stored_grown W z false _)

set_option maxHeartbeats 1000000 in
theorem rsh_c (z p n : Nat) (W : World) (hz : Slot W z) (hp : Num W p n) (hn : (digs n).length ≤ 35184372088832) :
    Calls Try.prog 52 #[.pointer (some ⟨z, 0, none⟩), .pointer (some ⟨p, 0, none⟩), .int .u64 33] W (Trimmed z (n / 8589934592) W) := by
  obtain ⟨A, cap, c0, c1, hcap, hd⟩ := hp.facts
  obtain ⟨s, A', l', c', z0, z1, f0, f1, hlt⟩ := hz.facts
  by_cases hs : (digs n).length ≤ 1
  · have hv : n / 8589934592 = 0 := by
      have h1 := val_lt (digs n)
      rw [val_digs] at h1
      have h2 : 4294967296 ^ (digs n).length ≤ 4294967296 ^ 1 := Nat.pow_le_pow_right (by omega) hs
      omega
    rw [hv]
    have key := stored_trim hz (A := none) (ds := []) (cap := 0) Dig.nil (by simp) (by simp)
    have KEY := Lib.hid key
    clear key
    go_enter Try.func52, Try.ntmps52
    go_wp2_with fail
    refine (shiftRight_short _ _ _ hs _).mono ?_
    rintro e w' ⟨rfl, rfl⟩
    go_wp2_with fail
    refine KEY.out.mono ?_
    intro e w' h
    have H := Lib.hid h
    obtain ⟨rfl, _⟩ := h
    go_wp2_with fail
    go_ret
    exact H.out
  · rcases hds : digs n with _ | ⟨d, l⟩
    · rw [hds] at hs; simp at hs
    · rw [hds] at c1 hcap hd hs hn
      have hl : 1 ≤ l.length := by rw [List.length_cons] at hs; omega
      simp only [List.length_cons] at c1 hcap hn
      obtain ⟨g, cs, u, rfl, hbk, _, _⟩ := hd.at_ (k := 0) (by simp)
      have hx : ∀ (j : Nat) (u : UInt32), l[j]? = some u → W.cell? ⟨g, 1 + j, none⟩ = some (.int .u32 u.toNat) := by
        intro j u hj
        obtain ⟨g', _, u', hg', _, hu', hcc⟩ := hd.at_ (k := 1 + j) (by
          have := List.getElem?_eq_some_iff.1 hj
          obtain ⟨h, _⟩ := this
          simp; omega)
        obtain rfl : g = g' := by injection hg' with hg'; injection hg'
        rw [Nat.add_comm 1 j, List.getElem?_cons_succ, hj] at hu'
        injection hu' with hu'
        subst hu'
        exact hcc
      have hval : val (sr l) = n / 8589934592 := by
        have h1 := val_digs n
        rw [hds, val] at h1
        rw [sr_val]
        have := d.toNat_lt
        omega
      have key := shiftRight_c g cap l d W hl hx hbk.lt hcap (by omega)
      have KEY := Lib.hid key
      have HX := Lib.hid hx
      have HV := Lib.hid hval
      have HDS := Lib.hid hds
      clear key hx hval hds
      go_enter Try.func52, Try.ntmps52
      go_wp2_with fail
      refine KEY.out.mono ?_
      rintro e w1 ⟨G, rfl, hG, hb, hB⟩
      have hz1 := hz.below hb
      obtain ⟨s1, A1, l1, cc1, y0, y1, k0, k1, hlt1⟩ := hz1.facts
      go_wp2_with fail
      refine (stored_trim hz1 (A := some ⟨G, 0, none⟩) (ds := sr l) (cap := (sr l).length) hB.dig (Nat.le_refl _) (by rw [sr_len]; omega)).mono ?_
      intro e w2 h
      have h2 := h.from (only_of_below hb (some z))
      rw [HV.out] at h2
      have H := Lib.hid h2
      obtain ⟨rfl, _⟩ := h
      go_wp2_with fail
      go_ret
      exact H.out
end Go.Proofs.Ytcbecpgllebepaa.Big

namespace Go.Proofs.Ytcbecpgllebepaa.Big
set_option linter.unusedVariables false
open Go.RowKit

/-- Block g is a row of digits that begins with l. -/
def Row (w : World) (g : Nat) (l : List UInt32) : Prop := ∃ cur : Array Value, Blk w g 99 cur ∧ ∀ (j : Nat) (u : UInt32), l[j]? = some u → cur[j]? = some (.int .u32 u.toNat)
section
variable {w w' : World} {g : Nat} {l : List UInt32}
theorem Row.dig (h : Row w g l) : Dig w (some ⟨g, 0, none⟩) l := by obtain ⟨cur, h1, h2⟩ := h; exact .inr ⟨g, cur, rfl, h1, h2⟩
theorem Row.at_ (h : Row w g l) {k : Nat} {u : UInt32} (hk : l[k]? = some u) : w.cell? ⟨g, k, none⟩ = some (.int .u32 u.toNat) := by
  obtain ⟨cur, h1, h2⟩ := h; rw [Blk.cell h1, h2 k u hk]
theorem Row.frozen (h : Row w g l) (k : Nat) : w.frozen? ⟨g, k, none⟩ = false := by obtain ⟨cur, h1, _⟩ := h; exact Blk.frozen h1 k
theorem Row.lt (h : Row w g l) : g < w.heap.size := by obtain ⟨cur, h1, _⟩ := h; exact Blk.lt h1
theorem Row.put_ (h : Row w g l) (k : Nat) (u : UInt32) (hk : k < l.length) : Row (w.setCell ⟨g, k, none⟩ (.int .u32 u.toNat)) g (l.set k u) := by
  obtain ⟨cur, h1, h2⟩ := h
  refine ⟨_, h1.set_ k _, fun j v hj => ?_⟩
  have hl : l[k]? = some l[k] := List.getElem?_eq_getElem hk
  have hck := h2 k _ hl
  by_cases e : j = k
  · subst e
    rw [List.getElem?_set_self hk] at hj
    injection hj with hj; subst hj
    have : j < cur.size := by
      rcases Nat.lt_or_ge j cur.size with h | h
      · exact h
      · rw [Array.getElem?_eq_none h] at hck; cases hck
    simp [this]
  · rw [List.getElem?_set_ne (Ne.symm e)] at hj
    rw [Array.getElem?_setIfInBounds_ne (Ne.symm e)]
    exact h2 j v hj
theorem Row.keep (h : Row w g l) (hk : ∀ cs, Blk w g 99 cs → Blk w' g 99 cs) : Row w' g l := by obtain ⟨cur, h1, h2⟩ := h; exact ⟨cur, hk _ h1, h2⟩
end
theorem Blk.row {w : World} {g : Nat} {l : List UInt32} (h : Blk w g 99 (rowOf l)) : Row w g l := ⟨_, h, fun j u hj => rowOf_at hj⟩

def Appended (w : World) (G : Nat) (l : List UInt32) (v : Value) (w' : World) : Prop :=
  ∃ g cap : Nat, v = .slice (some ⟨g, 0, none⟩) l.length cap ∧ l.length ≤ cap ∧ cap ≤ maxLen ∧ Row w' g l ∧ w.grownBy w' (some G) ∧ G ≤ g

theorem run_append_digs (w : World) (G c : Nat) (A : Option Addr) (l : List UInt32) (ty : TypeId) (hG : Blk w G 99 #[]) (hd : Dig w A l) (hl : l.length ≤ 35184372088832) :
    ∃ v w', (Builtin.append_ #[82, 82] ty #[.slice (some ⟨G, 0, none⟩) 0 0, .slice A l.length c]).run Try.prog w = .ok v w' ∧ Appended w G l v w' := by
  obtain ⟨i, hi, hz0, hz1, hz2⟩ := info_parts info32
  rcases hd with h0 | ⟨g, cs, rfl, hb, hcs⟩
  · subst h0
    refine ⟨.slice (some ⟨G, 0, none⟩) 0 0, w, ?_, G, 0, rfl, by simp, by simp [maxLen], ⟨_, hG, fun j u h => by simp at h⟩, only_refl _ _, Nat.le_refl _⟩
    cases A <;> simp [Builtin.append_, run_underlying Try.underlying82, sizeOf, typeInfo, hi, Builtin.lenOf, Builtin.firstCells, storeCells, loadCells, loadCellsFrom]
  · rcases Nat.eq_zero_or_pos l.length with hm | hm
    · have h0 : l = [] := List.eq_nil_of_length_eq_zero hm
      subst h0
      refine ⟨.slice (some ⟨G, 0, none⟩) 0 0, w, ?_, G, 0, rfl, by simp, by simp [maxLen], ⟨_, hG, fun j u h => by simp at h⟩, only_refl _ _, Nat.le_refl _⟩
      simp [Builtin.append_, run_underlying Try.underlying82, sizeOf, typeInfo, hi, Builtin.lenOf, Builtin.firstCells, storeCells, loadCells, loadCellsFrom]
    · have hown : w.ownsRow G 99 1 (.slice (some ⟨G, 0, none⟩) 0 0) 0 [] := ⟨by simp, .inr ⟨G, 0, #[], rfl, Nat.le_refl _, hG, by simp, by simp [maxLen], by simp, by simp⟩⟩
      obtain ⟨g', cap, w', hrun, h2, h3, h4, h5⟩ := run_append_lies (P := Try.prog) w 82 ty G 99 i (.int .u32 0) 1 4 Try.underlying82 hi hz0 hz1 hz2 rfl (by omega) _ 0 [] hown ⟨g, 0, none⟩ l.length c (l.map dig) (by simp)
        (by
          intro j u hj
          rw [List.getElem?_map] at hj
          obtain ⟨x, hx, rfl⟩ := Option.map_eq_some_iff.1 hj
          have hadd : (⟨g, 0, none⟩ : Addr).add j = ⟨g, j, none⟩ := by unfold Addr.add; split <;> simp_all
          rw [hadd, Blk.cell hb, hcs j x hx]; rfl)
        (by intro u hu; obtain ⟨x, _, rfl⟩ := List.mem_map.1 hu; rfl) hm (by simp [maxLen]; omega) (by omega) (Nat.le_of_lt hG.lt) w.heap.size rfl
      refine ⟨_, w', hrun, g', cap, by rw [Nat.zero_add], ?_, ?_, ?_, h3, ?_⟩
      · rcases h2.2 with ⟨hv, _⟩ | ⟨_, _, _, hv, _, _, hle, _, _⟩
        · cases hv
        · injection hv with _ _ hc; omega
      · rcases h2.2 with ⟨hv, _⟩ | ⟨_, _, _, hv, _, _, _, hle, _⟩
        · cases hv
        · injection hv with _ _ hc; omega
      · rcases h2.2 with ⟨hv, _⟩ | ⟨g2, cap2, cur, hv, _, hh, _, _, _, ht⟩
        · cases hv
        · injection hv with hg2 _ hc
          injection hg2 with hg2; injection hg2 with hg2 _
          subst hg2
          refine ⟨cur, hh, fun j u hj => ?_⟩
          have hlt : j < l.length := (List.getElem?_eq_some_iff.1 hj).1
          have := congrArg (fun L => L[j]?) ht
          simp only [List.nil_append, List.getElem?_map, hj] at this
          rw [List.getElem?_take, if_pos (by omega)] at this
          simpa [dig] using this
      · rcases h4 with h4 | h4
        · have : G = g' := by simpa [Value.ownBlock] using h4
          omega
        · have := hG.lt; omega

section
variable {P : Program}
theorem wp_append_digs {o : Oper} {a : Act} {K : Act → World → Prop} {Q : Exit → Act → World → Prop} (w : World) (s x : Operand)
    (ho : o.op = .call { callee := .builtin .append, args := #[s, x], argTypes := #[82, 82] })
    (G c : Nat) (A : Option Addr) (l : List UInt32) (hs : a.eval s = .slice (some ⟨G, 0, none⟩) 0 0) (hx : a.eval x = .slice A l.length c) (hG : Blk w G 99 #[]) (hd : Dig w A l) (hl : l.length ≤ 35184372088832)
    (h : ∀ (g cap : Nat) (w' : World), l.length ≤ cap → Row w' g l → w.grownBy w' (some G) → G ≤ g → K (a.put o.dst (.slice (some ⟨g, 0, none⟩) l.length cap)) w') : o.wp Try.prog a w K Q := by
  obtain ⟨v', w', hrun, h2⟩ := run_append_digs w G c A l o.type hG hd hl
  unfold Oper.wp execOp
  simp only [ho, resolve, invoke, builtin, Sem.run_bind, Sem.run_pure, Result.andThen_ok, List.map_toArray, List.map_cons, List.map_nil, hs, hx, hrun]
  obtain ⟨g, cap, rfl, k1, _, k3, k4, k5⟩ := h2
  exact h g cap w' k1 k3 k4 k5
theorem wpList_append_digs {ops : Array Oper} {rest : List Oper} {o : Oper} {a : Act} {Q : Exit → Act → World → Prop} (w : World) (hgd : o.guard = none) (s x : Operand)
    (ho : o.op = .call { callee := .builtin .append, args := #[s, x], argTypes := #[82, 82] })
    (G c : Nat) (A : Option Addr) (l : List UInt32) (hs : a.eval s = .slice (some ⟨G, 0, none⟩) 0 0) (hx : a.eval x = .slice A l.length c) (hG : Blk w G 99 #[]) (hd : Dig w A l) (hl : l.length ≤ 35184372088832)
    (h : ∀ (g cap : Nat) (w' : World), l.length ≤ cap → Row w' g l → w.grownBy w' (some G) → G ≤ g → wpList Try.prog ops Q rest (a.put o.dst (.slice (some ⟨g, 0, none⟩) l.length cap)) w') : wpList Try.prog ops Q (o :: rest) a w :=
  wpList_plain hgd fun _ hK => wp_append_digs w s x ho G c A l hs hx hG hd hl fun g cap w' k1 k3 k4 k5 => hK _ _ (h g cap w' k1 k3 k4 k5)
theorem step_append_digs {ops : Array Oper} {o : Oper} {a : Act} {K : Act → World → Prop} {Q : Exit → Act → World → Prop} {E : Prop} (w : World) (hgd : o.guard = none) (s x : Operand)
    (ho : o.op = .call { callee := .builtin .append, args := #[s, x], argTypes := #[82, 82] })
    (G c : Nat) (A : Option Addr) (l : List UInt32) (hs : a.eval s = .slice (some ⟨G, 0, none⟩) 0 0) (hx : a.eval x = .slice A l.length c) (hG : Blk w G 99 #[]) (hd : Dig w A l) (hl : l.length ≤ 35184372088832)
    (h : ∀ (g cap : Nat) (w' : World), l.length ≤ cap → Row w' g l → w.grownBy w' (some G) → G ≤ g → K (a.put o.dst (.slice (some ⟨g, 0, none⟩) l.length cap)) w') : if Region.wanted o (yielded ops a.tmps) = true then Oper.wp Try.prog o a w K Q else E := by
  have hw : Region.wanted o (yielded ops a.tmps) = true := by simp [Region.wanted, hgd]
  rw [if_pos hw]
  exact wp_append_digs w s x ho G c A l hs hx hG hd hl h
end
end Go.Proofs.Ytcbecpgllebepaa.Big

namespace Go.Proofs.Ytcbecpgllebepaa.Big
set_option linter.unusedVariables false
open Go.RowKit

/-- A list that is turned into another one place by place: the first k of out, the rest of base. -/
def part (out base : List UInt32) (k : Nat) : List UInt32 := out.take k ++ base.drop k
theorem part_zero (out base : List UInt32) : part out base 0 = base := by simp [part]
theorem part_len {out base : List UInt32} (h : out.length = base.length) (k : Nat) : (part out base k).length = base.length := by simp [part]; omega
theorem part_at {out base : List UInt32} (h : out.length = base.length) {k : Nat} (hk : k < base.length) : (part out base k)[k]? = base[k]? := by
  unfold part
  rw [List.getElem?_append_right (by simp; omega), List.length_take, Nat.min_eq_left (by omega), Nat.sub_self, List.getElem?_drop, Nat.add_zero]
theorem part_set {out base : List UInt32} (h : out.length = base.length) {k : Nat} {u : UInt32} (hu : out[k]? = some u) : (part out base k).set k u = part out base (k + 1) := by
  have hk : k < out.length := (List.getElem?_eq_some_iff.1 hu).1
  have hu' : out[k] = u := (List.getElem?_eq_some_iff.1 hu).2
  unfold part
  rw [List.set_append_right _ _ (by simp; omega), List.length_take, Nat.min_eq_left (by omega), Nat.sub_self]
  rw [List.drop_eq_getElem_cons (l := base) (i := k) (by omega), List.set_cons_zero, List.take_succ_eq_append_getElem hk, hu']
  simp

def xor32 (a b : UInt32) : UInt32 := a ^^^ b
theorem xored (a b : UInt32) : bits .xor .u32 (a.toNat : Int) (b.toNat : Int) = ((xor32 a b).toNat : Int) := by
  rw [u32_xor_nat _ _ (Words.lt32 a) (Words.lt32 b)]; unfold xor32; rw [UInt32.toNat_xor]
def xs : List UInt32 → List UInt32 → List UInt32
  | a, [] => a
  | [], _ :: _ => []
  | x :: a, y :: b => xor32 x y :: xs a b
theorem xs_len : ∀ a b : List UInt32, (xs a b).length = a.length
  | [], [] => rfl
  | _ :: _, [] => rfl
  | [], _ :: _ => rfl
  | x :: a, y :: b => by simp [xs, xs_len a b]
theorem xs_at : ∀ (a b : List UInt32) (k : Nat) (x y : UInt32), a[k]? = some x → b[k]? = some y → (xs a b)[k]? = some (xor32 x y)
  | [], _, k, x, y, h, _ => by simp at h
  | _ :: _, [], k, x, y, _, h => by simp at h
  | u :: a, v :: b, k, x, y, h, h2 => by
    cases k with
    | zero => simp at h h2; subst h h2; rfl
    | succ k => simpa [xs] using xs_at a b k x y (by simpa using h) (by simpa using h2)
theorem xs_rest : ∀ (a b : List UInt32) (k : Nat), b.length ≤ k → (xs a b).drop k = a.drop k
  | a, [], k, _ => by cases a <;> rfl
  | [], _ :: _, k, _ => by simp [xs]
  | x :: a, y :: b, k, h => by
    cases k with
    | zero => simp at h
    | succ k => simpa [xs] using xs_rest a b k (by simpa using h)
theorem xs_part (a b : List UInt32) : part (xs a b) a b.length = xs a b := by
  unfold part; rw [← xs_rest a b b.length (Nat.le_refl _), List.take_append_drop]
theorem xor_split (x y A B : Nat) (hx : x < 4294967296) (hy : y < 4294967296) : (x + 4294967296 * A) ^^^ (y + 4294967296 * B) = (x ^^^ y) + 4294967296 * (A ^^^ B) := by
  have e : (4294967296 : Nat) = 2 ^ 32 := by decide
  rw [e] at *
  have hxy : x ^^^ y < 2 ^ 32 := Nat.xor_lt_two_pow hx hy
  rw [Nat.add_comm x, Nat.add_comm y, Nat.add_comm (x ^^^ y)]
  apply Nat.eq_of_testBit_eq
  intro i
  rw [Nat.testBit_xor, Nat.testBit_two_pow_mul_add _ hx, Nat.testBit_two_pow_mul_add _ hy, Nat.testBit_two_pow_mul_add _ hxy]
  split
  · rw [Nat.testBit_xor]
  · rw [Nat.testBit_xor]
theorem xs_val : ∀ a b : List UInt32, b.length ≤ a.length → val (xs a b) = val a ^^^ val b
  | [], [], _ => rfl
  | x :: a, [], _ => by simp [xs, val]
  | [], _ :: _, h => by simp at h
  | x :: a, y :: b, h => by
    rw [xs, val, xs_val a b (by simpa using h), val, val, xor_split _ _ _ _ x.toNat_lt y.toNat_lt]
    unfold xor32; rw [UInt32.toNat_xor]
attribute [local go_sem] xored

def RoundXor (W : World) (G : Nat) (l : List UInt32) (wr : World) : Prop := Below W.heap.size W wr ∧ Row wr G l

set_option maxHeartbeats 2000000 in
theorem xor_c (z p q n m : Nat) (W : World) (hz : Slot W z) (hp : Num W p n) (hq : Num W q m) (hn : (digs n).length ≤ 35184372088832) (hm : (digs m).length ≤ (digs n).length) :
    Calls Try.prog 51 #[.pointer (some ⟨z, 0, none⟩), .pointer (some ⟨p, 0, none⟩), .pointer (some ⟨q, 0, none⟩)] W (Trimmed z (n ^^^ m) W) := by
  obtain ⟨A, cap, c0, c1, hcap, hd⟩ := hp.facts
  obtain ⟨B, capB, e0, e1, hcapB, he⟩ := hq.facts
  obtain ⟨s, A', l', c', z0, z1, f0, f1, hlt⟩ := hz.facts
  have hbn : decide ((digs n).length < (digs m).length) = false := by simp; omega
  have hfin : val (xs (digs n) (digs m)) = n ^^^ m := by rw [xs_val _ _ hm, val_digs, val_digs]
  have HF := Lib.hid hfin
  clear hfin
  clear hp hq
  generalize digs n = a at *
  generalize digs m = b at *
  go_enter Try.func51, Try.ntmps51
  go_wp2
  go_quiet (fail)
  go_wp2_with (at_builtin; go_loud (refine wpList_append_digs _ rfl (.tmp 27) (.tmp 28) rfl W.heap.size cap A a rfl rfl (Blk.new (W.drewN nq) _ _) (hd.keep fun g cs h => (Blk.drewN h nq).alloc _) hn ?_); intro g cap' w1 hc1 hrow hgr hge)
  go_loopw [32] (fun i wr => ∃ k : Nat, k ≤ b.length ∧ i = .int .i64 k ∧ RoundXor W g (part (xs a b) a k) wr) (fun i _ => b.length - (intOf i).toNat)
  case atStart => exact ⟨0, Nat.zero_le _, rfl, below_of_new (only_trans (only_alloc (only_drewN (only_refl W (some W.heap.size)) nq) (.cells #[] 99)) hgr) (Nat.le_refl _) (Nat.le_refl _), by rw [part_zero]; exact hrow⟩
  case round =>
    obtain ⟨k, hk, rfl, hR⟩ := hrel
    by_cases hlt2 : k < b.length
    · obtain ⟨hbl, hRow⟩ := hR
      obtain ⟨g2, cs2, y, rfl, hbk, hy, hcy⟩ := he.at_ hlt2
      have hx : a[k]? = some a[k] := List.getElem?_eq_getElem (by omega)
      obtain ⟨x, hxe⟩ : ∃ x, a[k] = x := ⟨_, rfl⟩
      rw [hxe] at hx
      have hcy' : wr.cell? ⟨g2, k, none⟩ = some (.int .u32 y.toNat) := (hbl.cell (p := ⟨g2, k, none⟩) hbk.lt).trans hcy
      have hcx : wr.cell? ⟨g, k, none⟩ = some (.int .u32 x.toNat) := hRow.at_ (by rw [part_at (xs_len a b) (by omega)]; exact hx)
      have hfx : wr.frozen? ⟨g, k, none⟩ = false := hRow.frozen k
      have hka : k < a.length := by omega
      have HX := Lib.hid hx
      have HY := Lib.hid hy
      clear hx hy hxe hcy
      go_wp2
      go_roundw
      case rel =>
        refine ⟨k + 1, by omega, by go_num, hbl.setCell (by simp; omega) _, ?_⟩
        rw [← part_set (xs_len a b) (xs_at a b k x y HX.out HY.out)]
        exact hRow.put_ k _ (by rw [part_len (xs_len a b)]; exact hka)
      case measure => simp [intOf]; omega
    · have hke : k = b.length := by omega
      subst hke
      obtain ⟨hbl, hRow⟩ := hR
      rw [xs_part] at hRow
      have hz1 := hz.below hbl
      obtain ⟨s1, A1, l1, cc1, y0, y1, k0, k1, hlt1⟩ := hz1.facts
      go_wp2_with fail
      have key := stored_trim hz1 (A := some ⟨g, 0, none⟩) (ds := xs a b) (cap := cap') hRow.dig (by rw [xs_len]; exact hc1) (by rw [xs_len]; omega)
      rw [xs_len] at key
      refine key.mono ?_
      intro e w2 h
      have h2 := h.from (only_of_below hbl (some z))
      rw [HF.out] at h2
      have H := Lib.hid h2
      obtain ⟨rfl, _⟩ := h
      go_wp2_with fail
      go_ret
      exact H.out
set_option maxHeartbeats 2000000 in
theorem xor_c2 (z p q n m : Nat) (W : World) (hz : Slot W z) (hp : Num W p n) (hq : Num W q m) (hn : (digs m).length ≤ 35184372088832) (hm : (digs n).length < (digs m).length) :
    Calls Try.prog 51 #[.pointer (some ⟨z, 0, none⟩), .pointer (some ⟨p, 0, none⟩), .pointer (some ⟨q, 0, none⟩)] W (Trimmed z (n ^^^ m) W) := by
  obtain ⟨A, cap, c0, c1, hcap, hd⟩ := hp.facts
  obtain ⟨B, capB, e0, e1, hcapB, he⟩ := hq.facts
  obtain ⟨s, A', l', c', z0, z1, f0, f1, hlt⟩ := hz.facts
  have hbn : decide ((digs n).length < (digs m).length) = true := by simp; omega
  have hfin : val (xs (digs m) (digs n)) = n ^^^ m := by rw [xs_val _ _ (by omega), val_digs, val_digs, Nat.xor_comm]
  have HF := Lib.hid hfin
  clear hfin
  clear hp hq
  generalize digs m = a at *
  generalize digs n = b at *
  go_enter Try.func51, Try.ntmps51
  go_wp2
  go_quiet (fail)
  go_wp2_with (at_builtin; go_loud (refine wpList_append_digs _ rfl (.tmp 27) (.tmp 28) rfl W.heap.size capB B a rfl rfl (Blk.new (W.drewN nq) _ _) (he.keep fun g cs h => (Blk.drewN h nq).alloc _) hn ?_); intro g cap' w1 hc1 hrow hgr hge)
  go_loopw [32] (fun i wr => ∃ k : Nat, k ≤ b.length ∧ i = .int .i64 k ∧ RoundXor W g (part (xs a b) a k) wr) (fun i _ => b.length - (intOf i).toNat)
  case atStart => exact ⟨0, Nat.zero_le _, rfl, below_of_new (only_trans (only_alloc (only_drewN (only_refl W (some W.heap.size)) nq) (.cells #[] 99)) hgr) (Nat.le_refl _) (Nat.le_refl _), by rw [part_zero]; exact hrow⟩
  case round =>
    obtain ⟨k, hk, rfl, hR⟩ := hrel
    by_cases hlt2 : k < b.length
    · obtain ⟨hbl, hRow⟩ := hR
      obtain ⟨g2, cs2, y, rfl, hbk, hy, hcy⟩ := hd.at_ hlt2
      have hx : a[k]? = some a[k] := List.getElem?_eq_getElem (by omega)
      obtain ⟨x, hxe⟩ : ∃ x, a[k] = x := ⟨_, rfl⟩
      rw [hxe] at hx
      have hcy' : wr.cell? ⟨g2, k, none⟩ = some (.int .u32 y.toNat) := (hbl.cell (p := ⟨g2, k, none⟩) hbk.lt).trans hcy
      have hcx : wr.cell? ⟨g, k, none⟩ = some (.int .u32 x.toNat) := hRow.at_ (by rw [part_at (xs_len a b) (by omega)]; exact hx)
      have hfx : wr.frozen? ⟨g, k, none⟩ = false := hRow.frozen k
      have hka : k < a.length := by omega
      have HX := Lib.hid hx
      have HY := Lib.hid hy
      clear hx hy hxe hcy
      go_wp2
      go_roundw
      case rel =>
        refine ⟨k + 1, by omega, by go_num, hbl.setCell (by simp; omega) _, ?_⟩
        rw [← part_set (xs_len a b) (xs_at a b k x y HX.out HY.out)]
        exact hRow.put_ k _ (by rw [part_len (xs_len a b)]; exact hka)
      case measure => simp [intOf]; omega
    · have hke : k = b.length := by omega
      subst hke
      obtain ⟨hbl, hRow⟩ := hR
      rw [xs_part] at hRow
      have hz1 := hz.below hbl
      obtain ⟨s1, A1, l1, cc1, y0, y1, k0, k1, hlt1⟩ := hz1.facts
      go_wp2_with fail
      have key := stored_trim hz1 (A := some ⟨g, 0, none⟩) (ds := xs a b) (cap := cap') hRow.dig (by rw [xs_len]; exact hc1) (by rw [xs_len]; omega)
      rw [xs_len] at key
      refine key.mono ?_
      intro e w2 h
      have h2 := h.from (only_of_below hbl (some z))
      rw [HF.out] at h2
      have H := Lib.hid h2
      obtain ⟨rfl, _⟩ := h
      go_wp2_with fail
      go_ret
      exact H.out

theorem digs_mono {a b : Nat} (h : a ≤ b) : (digs a).length ≤ (digs b).length := by
  have h1 := val_lt (digs b)
  rw [val_digs] at h1
  exact digs_len (by omega)

/-- Whichever is the longer. -/
theorem xor_any (z p q n m : Nat) (W : World) (hz : Slot W z) (hp : Num W p n) (hq : Num W q m) (hn : (digs n).length ≤ 35184372088832) (hm : (digs m).length ≤ 35184372088832) :
    Calls Try.prog 51 #[.pointer (some ⟨z, 0, none⟩), .pointer (some ⟨p, 0, none⟩), .pointer (some ⟨q, 0, none⟩)] W (Trimmed z (n ^^^ m) W) := by
  rcases Nat.lt_or_ge (digs n).length (digs m).length with h | h
  · exact xor_c2 z p q n m W hz hp hq hm h
  · exact xor_c z p q n m W hz hp hq hn h
end Go.Proofs.Ytcbecpgllebepaa.Big

namespace Go.Proofs.Ytcbecpgllebepaa.Big
set_option linter.unusedVariables false

theorem val_set : ∀ (l : List UInt32) (k : Nat) (u s : UInt32), l[k]? = some s → val (l.set k u) + 4294967296 ^ k * s.toNat = val l + 4294967296 ^ k * u.toNat
  | [], k, u, s, h => by simp at h
  | d :: r, 0, u, s, h => by
    injection h with h; subst h
    simp only [List.set_cons_zero, val]; omega
  | d :: r, k + 1, u, s, h => by
    have ih := val_set r k u s (by simpa using h)
    simp only [List.set_cons_succ, val, Nat.pow_succ]
    grind
theorem val_take_succ (l : List UInt32) (k : Nat) (d : UInt32) (h : l[k]? = some d) : val (l.take (k + 1)) = val (l.take k) + 4294967296 ^ k * d.toNat := by
  have hk : k < l.length := (List.getElem?_eq_some_iff.1 h).1
  have hd : l[k] = d := (List.getElem?_eq_some_iff.1 h).2
  rw [List.take_succ_eq_append_getElem hk, val_append, hd, List.length_take, Nat.min_eq_left (by omega)]
  simp [val]

theorem tot_lt (c a b s : UInt32) : c.toNat + (a.toNat * b.toNat + s.toNat) < 18446744073709551616 := by
  have hc := c.toNat_lt; have ha := a.toNat_lt; have hb := b.toNat_lt; have hs := s.toNat_lt
  have h : a.toNat * b.toNat ≤ 4294967295 * 4294967295 := Nat.mul_le_mul (by omega) (by omega)
  omega
def tot (c a b s : UInt32) : UInt64 := UInt64.ofNat (c.toNat + (a.toNat * b.toNat + s.toNat))
theorem tot_nat (c a b s : UInt32) : (tot c a b s).toNat = c.toNat + (a.toNat * b.toNat + s.toNat) := by
  unfold tot; rw [UInt64.toNat_ofNat', Nat.mod_eq_of_lt (tot_lt c a b s)]

/-- One step of the inner loop. -/
theorem mul_step {row : List UInt32} {i j V X : Nat} {c a b s lo' hi' : UInt32} (hI : val row + 4294967296 ^ (i + j) * c.toNat = V + 4294967296 ^ i * (a.toNat * X)) (hs : row[i + j]? = some s)
    (hlo : lo'.toNat = (c.toNat + (a.toNat * b.toNat + s.toNat)) % 4294967296) (hhi : hi'.toNat = (c.toNat + (a.toNat * b.toNat + s.toNat)) / 4294967296) :
    val (row.set (i + j) lo') + 4294967296 ^ (i + (j + 1)) * hi'.toNat = V + 4294967296 ^ i * (a.toNat * (X + 4294967296 ^ j * b.toNat)) := by
  have h := val_set row (i + j) lo' s hs
  have hd : 4294967296 * hi'.toNat + lo'.toNat = c.toNat + (a.toNat * b.toNat + s.toNat) := by rw [hlo, hhi]; exact Nat.div_add_mod _ _
  have hp : 4294967296 ^ (i + j) = 4294967296 ^ i * 4294967296 ^ j := Nat.pow_add _ _ _
  have hp1 : 4294967296 ^ (i + (j + 1)) = 4294967296 ^ i * 4294967296 ^ j * 4294967296 := by rw [← hp, ← Nat.pow_succ]; rfl
  rw [hp1]
  rw [hp] at h hI
  generalize 4294967296 ^ i = A at *
  generalize 4294967296 ^ j = B at *
  have e1 : A * B * (4294967296 * hi'.toNat + lo'.toNat) = A * B * (c.toNat + (a.toNat * b.toNat + s.toNat)) := by rw [hd]
  grind
end Go.Proofs.Ytcbecpgllebepaa.Big

namespace Go.Proofs.Ytcbecpgllebepaa.Big
set_option linter.unusedVariables false
open Go.RowKit

theorem wide32 (a : UInt32) : IntKind.u64.wrap (a.toNat : Int) = (a.toNat : Int) := by rw [IntKind.wrap_u64]; have := a.toNat_lt; omega
theorem totted (c a b s : UInt32) : IntKind.u64.wrap ((c.toNat : Int) + IntKind.u64.wrap (IntKind.u64.wrap ((a.toNat : Int) * (b.toNat : Int)) + (s.toNat : Int))) = ((tot c a b s).toNat : Int) := by
  have h := tot_lt c a b s
  rw [tot_nat, ← Int.natCast_mul]
  generalize a.toNat * b.toNat = m at *
  simp only [IntKind.wrap_u64]
  omega
theorem narrow32 (a : UInt32) : (a.toNat : Int) % 4294967296 = (a.toNat : Int) := by have := a.toNat_lt; omega
attribute [local go_sem] wide32 totted shr32 low32 hi32 narrow32

/-- Behind i lines: the row holds the product of the first i digits. -/
def MulAt (W : World) (G : Nat) (a b : List UInt32) (i : Nat) (wr : World) : Prop :=
  Below W.heap.size W wr ∧ ∃ row : List UInt32, Blk wr G 99 (rowOf row) ∧ row.length = a.length + b.length ∧ val row = val (a.take i) * val b ∧ ∀ k, i + b.length ≤ k → k < row.length → row[k]? = some 0
/-- Within a line, behind j of its steps. -/
def MulIn (W : World) (G : Nat) (a b : List UInt32) (i j : Nat) (x c : UInt32) (wr : World) : Prop :=
  Below W.heap.size W wr ∧ ∃ row : List UInt32, Blk wr G 99 (rowOf row) ∧ row.length = a.length + b.length ∧ val row + 4294967296 ^ (i + j) * c.toNat = val (a.take i) * val b + 4294967296 ^ i * (x.toNat * val (b.take j)) ∧ ∀ k, i + b.length ≤ k → k < row.length → row[k]? = some 0

theorem stored_trim_drew {W : World} {z : Nat} (hz : Slot W z) {A : Option Addr} {ds : List UInt32} {cap : Nat} (h : Dig W A ds) (hc : ds.length ≤ cap) (hmax : ds.length ≤ 4611686018427387904) :
    Calls Try.prog 67 #[.pointer (some ⟨z, 0, none⟩)] (stored W z false (.slice A ds.length cap)).drew (Trimmed z (val ds) W) :=
  (trim_c z cap A ds (stored W z false (.slice A ds.length cap)).drew (stored_cell hz false A ds.length cap) (dig_stored hz h false _) hc hmax).mono fun e w' h' => h'.from (only_drew (stored_grown W z false _))

theorem mul_start (a b : List UInt32) (W : World) : MulAt W W.heap.size a b 0 (W.alloc (.cells (rowOf (List.replicate (a.length + b.length) 0)) 99)).drew := by
  refine ⟨((Below.refl _ _).alloc (Nat.le_refl _) _).drew, _, Blk.new W _ _, by simp, ?_, ?_⟩
  · rw [val_zeros (fun j u hj => by
      rw [List.getElem?_replicate] at hj
      split at hj
      · injection hj with hj; exact hj.symm
      · cases hj)]
    simp [val]
  · intro k _ hk
    rw [List.getElem?_replicate, if_pos (by simpa using hk)]
theorem mul_line {W : World} {G : Nat} {a b : List UInt32} {i : Nat} {x : UInt32} {wr : World} (h : MulAt W G a b i wr) : MulIn W G a b i 0 x 0 wr := by
  obtain ⟨h1, row, h2, h3, h4, h5⟩ := h
  exact ⟨h1, row, h2, h3, by simp [h4, val], h5⟩
theorem mul_next {W : World} {a b : List UInt32} {i j : Nat} {x c y s : UInt32} {wr : World} {row : List UInt32} (hb : Below W.heap.size W wr) (hrow : Blk wr W.heap.size 99 (rowOf row)) (hlen : row.length = a.length + b.length)
    (hval : val row + 4294967296 ^ (i + j) * c.toNat = val (a.take i) * val b + 4294967296 ^ i * (x.toNat * val (b.take j))) (hzero : ∀ k, i + b.length ≤ k → k < row.length → row[k]? = some 0) (hy : b[j]? = some y) (hs : row[i + j]? = some s) (hj : j < b.length) :
    MulIn W W.heap.size a b i (j + 1) x (hi (tot c x y s)) (wr.setCell ⟨W.heap.size, i + j, none⟩ (.int .u32 (lo (tot c x y s)).toNat)) := by
  refine ⟨hb.setCell (Nat.le_refl _) _, _, hrow.put_ _ _, by rw [List.length_set]; exact hlen, ?_, ?_⟩
  · rw [val_take_succ b j y hy]
    exact mul_step hval hs (by rw [lo_nat, tot_nat]) (by rw [hi_nat, tot_nat])
  · intro k hk hkl
    rw [List.length_set] at hkl
    rw [List.getElem?_set_ne (by omega)]
    exact hzero k hk hkl
theorem mul_turn {W : World} {a b : List UInt32} {i : Nat} {x c : UInt32} {wr : World} (h : MulIn W W.heap.size a b i b.length x c wr) (hx : a[i]? = some x) (hi : i < a.length) :
    wr.cell? ⟨W.heap.size, i + b.length, none⟩ = some (.int .u32 0) ∧ wr.frozen? ⟨W.heap.size, i + b.length, none⟩ = false ∧
      MulAt W W.heap.size a b (i + 1) (wr.setCell ⟨W.heap.size, i + b.length, none⟩ (.int .u32 c.toNat)) := by
  obtain ⟨hb, row, hrow, hlen, hval, hzero⟩ := h
  have h0 := hzero (i + b.length) (Nat.le_refl _) (by omega)
  refine ⟨hrow.at_ h0, hrow.frozen _, hb.setCell (Nat.le_refl _) _, _, hrow.put_ _ _, by rw [List.length_set]; exact hlen, ?_, ?_⟩
  · have hs := val_set row (i + b.length) c 0 h0
    rw [List.take_length] at hval
    rw [val_take_succ a i x hx]
    have e0 : (0 : UInt32).toNat = 0 := rfl
    rw [e0, Nat.mul_zero, Nat.add_zero] at hs
    rw [hs, hval]
    grind
  · intro k hk hkl
    rw [List.length_set] at hkl
    rw [List.getElem?_set_ne (by omega)]
    exact hzero k (by omega) hkl

set_option maxHeartbeats 2000000 in
theorem mul_c (z p q n m : Nat) (W : World) (hz : Slot W z) (hp : Num W p n) (hq : Num W q m) (hn : (digs n).length + (digs m).length ≤ 35184372088832) :
    Calls Try.prog 48 #[.pointer (some ⟨z, 0, none⟩), .pointer (some ⟨p, 0, none⟩), .pointer (some ⟨q, 0, none⟩)] W (Trimmed z (n * m) W) := by
  obtain ⟨A, cap, c0, c1, hcap, hd⟩ := hp.facts
  obtain ⟨B, capB, e0, e1, hcapB, he⟩ := hq.facts
  obtain ⟨s, A', l', c', z0, z1, f0, f1, hlt⟩ := hz.facts
  have hpl := hp.lt
  have hql := hq.lt
  have hfin : val (digs n) * val (digs m) = n * m := by rw [val_digs, val_digs]
  have HF := Lib.hid hfin
  clear hfin hp hq
  generalize digs n = a at *
  generalize digs m = b at *
  have hmk := make_c (a.length + b.length) hn
  rw [Int.natCast_add] at hmk
  go_enter Try.func48, Try.ntmps48
  go_wp2
  go_region
  go_wp2
  go_loopw [30] (fun i wr => ∃ k : Nat, k ≤ a.length ∧ i = .int .i64 k ∧ MulAt W W.heap.size a b k wr) (fun i _ => a.length - (intOf i).toNat)
  case atStart => exact ⟨0, Nat.zero_le _, rfl, mul_start a b W⟩
  case round =>
    obtain ⟨k, hk, rfl, hR⟩ := hrel
    obtain ⟨wo, rfl⟩ : ∃ wo : World, wo = wr := ⟨_, rfl⟩
    by_cases hlt2 : k < a.length
    · have hb0 := hR.1
      obtain ⟨g, cs, x, rfl, hbk, hx, hcx⟩ := hd.at_ hlt2
      have hcx' : wo.cell? ⟨g, k, none⟩ = some (.int .u32 x.toNat) := (hb0.cell (p := ⟨g, k, none⟩) hbk.lt).trans hcx
      have e1' : wo.cell? ⟨q, 1, none⟩ = some (.slice B b.length capB) := (hb0.cell (p := ⟨q, 1, none⟩) hql).trans e1
      have HX := Lib.hid hx
      have HR := Lib.hid (mul_line (x := x) hR)
      clear hx hR hcx
      go_wp2
      go_loopw [10, 40] (fun c j wr => ∃ (jj : Nat) (cc : UInt32), jj ≤ b.length ∧ j = .int .i64 jj ∧ c = .int .u64 cc.toNat ∧ MulIn W W.heap.size a b k jj x cc wr) (fun _ j _ => b.length - (intOf j).toNat)
      case atStart => exact ⟨0, 0, Nat.zero_le _, rfl, rfl, HR.out⟩
      case round =>
        obtain ⟨jj, cc, hjj, rfl, rfl, hI⟩ := hrel
        by_cases hj2 : jj < b.length
        · obtain ⟨hbi, row, hrow, hlen, hval, hzero⟩ := hI
          obtain ⟨g2, cs2, y, rfl, hbk2, hy, hcy⟩ := he.at_ hj2
          have hcy' : wr.cell? ⟨g2, jj, none⟩ = some (.int .u32 y.toNat) := (hbi.cell (p := ⟨g2, jj, none⟩) hbk2.lt).trans hcy
          obtain ⟨sd, hsd⟩ : ∃ sd, row[k + jj]? = some sd := ⟨_, List.getElem?_eq_getElem (by omega)⟩
          have hcs : wr.cell? ⟨W.heap.size, k + jj, none⟩ = some (.int .u32 sd.toNat) := hrow.at_ hsd
          have hfs : wr.frozen? ⟨W.heap.size, k + jj, none⟩ = false := hrow.frozen _
          have HY := Lib.hid hy
          have HS := Lib.hid hsd
          have HV := Lib.hid hval
          have HZ := Lib.hid hzero
          have HL := Lib.hid hlen
          clear hy hsd hval hzero hlen hcy
          go_wp2
          go_roundw
          case rel => exact ⟨jj + 1, hi (tot cc x y sd), by omega, by go_num, rfl, mul_next hbi hrow HL.out HV.out HZ.out HY.out HS.out hj2⟩
          case measure => simp [intOf]; omega
        · have hje : jj = b.length := by omega
          subst hje
          have hbi := hI.1
          have e1i : wr.cell? ⟨q, 1, none⟩ = some (.slice B b.length capB) := (hbi.cell (p := ⟨q, 1, none⟩) hql).trans e1
          obtain ⟨hcm, hfm, hnext⟩ := mul_turn hI HX.out hlt2
          have HN := Lib.hid hnext
          clear hI hnext
          go_wp2
          go_roundw
          case rel => exact ⟨k + 1, by omega, by go_num, HN.out⟩
          case measure => simp [intOf]; omega
    · have hke : k = a.length := by omega
      subst hke
      obtain ⟨hbl, row, hrow, hlen, hval, _⟩ := hR
      rw [List.take_length, HF.out] at hval
      have hz1 := hz.below hbl
      obtain ⟨s1, A1, l1, cc1, y0, y1, k0, k1, hlt1⟩ := hz1.facts
      have c0' : wo.cell? ⟨p, 0, none⟩ = some (.bool false) := (hbl.cell (p := ⟨p, 0, none⟩) hpl).trans c0
      have e0' : wo.cell? ⟨q, 0, none⟩ = some (.bool false) := (hbl.cell (p := ⟨q, 0, none⟩) hql).trans e0
      have HV := Lib.hid hval
      have HL := Lib.hid hlen
      clear hval hlen
      go_wp2
      go_region
      go_wp2_with fail
      have key := stored_trim_drew hz1 (A := some ⟨W.heap.size, 0, none⟩) (ds := row) (cap := a.length + b.length) hrow.dig (Nat.le_of_eq HL.out) (by rw [HL.out]; omega)
      rw [HL.out] at key
      refine key.mono ?_
      intro e w2 h
      have h2 := h.from (only_of_below hbl (some z))
      rw [HV.out] at h2
      have H := Lib.hid h2
      obtain ⟨rfl, _⟩ := h
      go_wp2_with fail
      go_ret
      exact H.out
end Go.Proofs.Ytcbecpgllebepaa.Big

namespace Go.Proofs.Ytcbecpgllebepaa.Big
set_option linter.unusedVariables false
open Go.RowKit

def add2 (c a : UInt32) : UInt64 := UInt64.ofNat (c.toNat + a.toNat)
def add3 (c a b : UInt32) : UInt64 := UInt64.ofNat (c.toNat + a.toNat + b.toNat)
theorem add2_nat (c a : UInt32) : (add2 c a).toNat = c.toNat + a.toNat := by
  unfold add2; have := c.toNat_lt; have := a.toNat_lt; rw [UInt64.toNat_ofNat', Nat.mod_eq_of_lt (by omega)]
theorem add3_nat (c a b : UInt32) : (add3 c a b).toNat = c.toNat + a.toNat + b.toNat := by
  unfold add3; have := c.toNat_lt; have := a.toNat_lt; have := b.toNat_lt; rw [UInt64.toNat_ofNat', Nat.mod_eq_of_lt (by omega)]
theorem added2 (c a : UInt32) : IntKind.u64.wrap ((c.toNat : Int) + (a.toNat : Int)) = ((add2 c a).toNat : Int) := by
  rw [add2_nat, IntKind.wrap_u64]; have := c.toNat_lt; have := a.toNat_lt; omega
theorem added3 (c a b : UInt32) : IntKind.u64.wrap (((add2 c a).toNat : Int) + (b.toNat : Int)) = ((add3 c a b).toNat : Int) := by
  rw [add3_nat, add2_nat, IntKind.wrap_u64]; have := c.toNat_lt; have := a.toNat_lt; have := b.toNat_lt; omega
attribute [local go_sem] wide32 added2 added3 shr32 low32 hi32 narrow32

theorem Dig.drewN {w : World} {A : Option Addr} {ds : List UInt32} (h : Dig w A ds) (k : Nat) : Dig (w.drewN k) A ds := h

theorem Slot.drewN {w : World} {z : Nat} (h : Slot w z) (k : Nat) : Slot (w.drewN k) z := h

theorem Below.undraw {W w : World} {k : Nat} (h : Below (W.drewN k).heap.size (W.drewN k) w) : Below W.heap.size W w := ⟨h.os, h.tape, h.output, h.size, h.block⟩

def SumAt (W : World) (G : Nat) (x y : List UInt32) (k : Nat) (c : UInt32) (wr : World) : Prop :=
  Below W.heap.size W wr ∧ ∃ row : List UInt32, Blk wr G 99 (rowOf row) ∧ row.length = x.length + 1 ∧ val row + 4294967296 ^ k * c.toNat = val (x.take k) + val (y.take k) ∧ ∀ j, k ≤ j → j < row.length → row[j]? = some 0

theorem sum_start (x y : List UInt32) (W : World) : SumAt W W.heap.size x y 0 0 (W.alloc (.cells (rowOf (List.replicate (x.length + 1) 0)) 99)) := by
  refine ⟨(Below.refl _ _).alloc (Nat.le_refl _) _, _, Blk.new W _ _, by simp, ?_, ?_⟩
  · rw [val_zeros (fun j u hj => by
      rw [List.getElem?_replicate] at hj
      split at hj
      · injection hj with hj; exact hj.symm
      · cases hj)]
    simp [val]
  · intro k _ hk
    rw [List.getElem?_replicate, if_pos (by simpa using hk)]
theorem sum_next {W : World} {x y : List UInt32} {k t : Nat} {c a lo' hi' : UInt32} {wr : World} {u : Value} {row : List UInt32} (hb : Below W.heap.size W wr) (hrow : Blk wr W.heap.size 99 (rowOf row)) (hlen : row.length = x.length + 1)
    (hval : val row + 4294967296 ^ k * c.toNat = val (x.take k) + val (y.take k)) (hzero : ∀ j, k ≤ j → j < row.length → row[j]? = some 0) (ha : x[k]? = some a) (hy : val (y.take (k + 1)) = val (y.take k) + 4294967296 ^ k * t)
    (hlo : lo'.toNat = (c.toNat + a.toNat + t) % 4294967296) (hhi : hi'.toNat = (c.toNat + a.toNat + t) / 4294967296) (hu : u = .int .u32 lo'.toNat) :
    SumAt W W.heap.size x y (k + 1) hi' (wr.setCell ⟨W.heap.size, k, none⟩ u) := by
  subst hu
  have hk : k < x.length := (List.getElem?_eq_some_iff.1 ha).1
  refine ⟨hb.setCell (Nat.le_refl _) _, _, hrow.put_ _ _, by rw [List.length_set]; exact hlen, ?_, ?_⟩
  · have hs := val_set row k lo' 0 (hzero k (Nat.le_refl _) (by omega))
    have e0 : (0 : UInt32).toNat = 0 := rfl
    rw [e0, Nat.mul_zero, Nat.add_zero] at hs
    have hd : 4294967296 * hi'.toNat + lo'.toNat = c.toNat + a.toNat + t := by rw [hlo, hhi]; exact Nat.div_add_mod _ _
    rw [val_take_succ x k a ha, hy, hs, Nat.pow_succ]
    grind
  · intro j hj hjl
    rw [List.length_set] at hjl
    rw [List.getElem?_set_ne (by omega)]
    exact hzero j (by omega) hjl
theorem sum_end {W : World} {x y : List UInt32} {c : UInt32} {wr : World} (h : SumAt W W.heap.size x y x.length c wr) (hyx : y.length ≤ x.length) :
    wr.frozen? ⟨W.heap.size, x.length, none⟩ = false ∧ wr.cell? ⟨W.heap.size, x.length, none⟩ = some (.int .u32 0) ∧
      ∃ row : List UInt32, row.length = x.length + 1 ∧ val row = val x + val y ∧ Below W.heap.size W (wr.setCell ⟨W.heap.size, x.length, none⟩ (.int .u32 c.toNat)) ∧ Blk (wr.setCell ⟨W.heap.size, x.length, none⟩ (.int .u32 c.toNat)) W.heap.size 99 (rowOf row) := by
  obtain ⟨hb, row, hrow, hlen, hval, hzero⟩ := h
  have h0 := hzero x.length (Nat.le_refl _) (by omega)
  refine ⟨hrow.frozen _, hrow.at_ h0, row.set x.length c, by rw [List.length_set]; exact hlen, ?_, hb.setCell (Nat.le_refl _) _, hrow.put_ _ _⟩
  have hs := val_set row x.length c 0 h0
  have e0 : (0 : UInt32).toNat = 0 := rfl
  rw [e0, Nat.mul_zero, Nat.add_zero] at hs
  rw [List.take_length, List.take_of_length_le hyx] at hval
  rw [hs, hval]

def Summed (V len : Nat) (W : World) (e : Ending) (W' : World) : Prop :=
  ∃ (g : Nat) (l : List UInt32), e = .returned (.slice (some ⟨g, 0, none⟩) len len) ∧ l.length = len ∧ val l = V ∧ W.heap.size ≤ g ∧ Below W.heap.size W W' ∧ Blk W' g 99 (rowOf l)

set_option maxHeartbeats 2000000 in
theorem sum_c (A B : Option Addr) (ca cb : Nat) (x y : List UInt32) (W : World) (hx : Dig W A x) (hy : Dig W B y) (hyx : y.length ≤ x.length) (hM : x.length + 1 ≤ 35184372088832) :
    Calls Try.prog 90 #[.slice A x.length ca, .slice B y.length cb] W (Summed (val x + val y) (x.length + 1) W) := by
  have hmk := make_c (x.length + 1) hM
  rw [show ((x.length + 1 : Nat) : Int) = (x.length : Int) + 1 by omega] at hmk
  have hbn : decide (x.length < y.length) = false := by simp; omega
  go_enter Try.func90, Try.ntmps90
  go_wp2
  go_loopw [6, 22] (fun c i wr => ∃ (k : Nat) (cc : UInt32), k ≤ x.length ∧ i = .int .i64 k ∧ c = .int .u64 cc.toNat ∧ SumAt W W.heap.size x y k cc wr) (fun _ i _ => x.length - (intOf i).toNat)
  case atStart => exact ⟨0, 0, Nat.zero_le _, rfl, rfl, sum_start x y W⟩
  case round =>
    obtain ⟨k, cc, hk, rfl, rfl, hR⟩ := hrel
    by_cases hlt2 : k < x.length
    · obtain ⟨hb, row, hrow, hlen, hval, hzero⟩ := hR
      obtain ⟨g, cs, a, rfl, hbk, ha, hca⟩ := hx.at_ hlt2
      have hca' : wr.cell? ⟨g, k, none⟩ = some (.int .u32 a.toNat) := (hb.cell (p := ⟨g, k, none⟩) hbk.lt).trans hca
      have h0 := hzero k (Nat.le_refl _) (by omega)
      have hco : wr.cell? ⟨W.heap.size, k, none⟩ = some (.int .u32 0) := hrow.at_ h0
      have hfo : wr.frozen? ⟨W.heap.size, k, none⟩ = false := hrow.frozen _
      have HA := Lib.hid ha
      have HV := Lib.hid hval
      have HZ := Lib.hid hzero
      have HL := Lib.hid hlen
      clear ha hval hzero hlen hca h0
      by_cases hy2 : k < y.length
      · obtain ⟨g2, cs2, b, rfl, hbk2, hbb, hcb⟩ := hy.at_ hy2
        have hcb' : wr.cell? ⟨g2, k, none⟩ = some (.int .u32 b.toNat) := (hb.cell (p := ⟨g2, k, none⟩) hbk2.lt).trans hcb
        have HB := Lib.hid hbb
        clear hbb hcb
        go_wp2
        go_roundw
        case rel => exact ⟨k + 1, hi (add3 cc a b), by omega, by go_num, rfl, sum_next hb hrow HL.out HV.out HZ.out HA.out (val_take_succ y k b HB.out) (by rw [lo_nat, add3_nat]) (by rw [hi_nat, add3_nat]) rfl⟩
        case measure => simp [intOf]; omega
      · go_wp2
        go_roundw
        case rel => exact ⟨k + 1, hi (add2 cc a), by omega, by go_num, rfl, sum_next (t := 0) hb hrow HL.out HV.out HZ.out HA.out (by rw [List.take_of_length_le (by omega), List.take_of_length_le (by omega)]; rfl) (by rw [lo_nat, add2_nat]; rfl) (by rw [hi_nat, add2_nat]; rfl) rfl⟩
        case measure => simp [intOf]; omega
    · have hke : k = x.length := by omega
      subst hke
      obtain ⟨hf, hc0, row, hl, hv, hb, hB⟩ := sum_end hR hyx
      have HL := Lib.hid hl
      have HV := Lib.hid hv
      clear hl hv hR
      go_wp2
      go_ret
      exact ⟨W.heap.size, row, rfl, HL.out, HV.out, Nat.le_refl _, hb, hB⟩
set_option maxHeartbeats 2000000 in
theorem sum_c2 (A B : Option Addr) (ca cb : Nat) (x y : List UInt32) (W : World) (hx : Dig W A x) (hy : Dig W B y) (hyx' : y.length < x.length) (hM : x.length + 1 ≤ 35184372088832) :
    Calls Try.prog 90 #[.slice B y.length cb, .slice A x.length ca] W (Summed (val x + val y) (x.length + 1) W) := by
  have hmk := make_c (x.length + 1) hM
  rw [show ((x.length + 1 : Nat) : Int) = (x.length : Int) + 1 by omega] at hmk
  have hyx : y.length ≤ x.length := by omega
  have hbn : decide (y.length < x.length) = true := by simp; omega
  go_enter Try.func90, Try.ntmps90
  go_wp2
  go_loopw [6, 22] (fun c i wr => ∃ (k : Nat) (cc : UInt32), k ≤ x.length ∧ i = .int .i64 k ∧ c = .int .u64 cc.toNat ∧ SumAt W W.heap.size x y k cc wr) (fun _ i _ => x.length - (intOf i).toNat)
  case atStart => exact ⟨0, 0, Nat.zero_le _, rfl, rfl, sum_start x y W⟩
  case round =>
    obtain ⟨k, cc, hk, rfl, rfl, hR⟩ := hrel
    by_cases hlt2 : k < x.length
    · obtain ⟨hb, row, hrow, hlen, hval, hzero⟩ := hR
      obtain ⟨g, cs, a, rfl, hbk, ha, hca⟩ := hx.at_ hlt2
      have hca' : wr.cell? ⟨g, k, none⟩ = some (.int .u32 a.toNat) := (hb.cell (p := ⟨g, k, none⟩) hbk.lt).trans hca
      have h0 := hzero k (Nat.le_refl _) (by omega)
      have hco : wr.cell? ⟨W.heap.size, k, none⟩ = some (.int .u32 0) := hrow.at_ h0
      have hfo : wr.frozen? ⟨W.heap.size, k, none⟩ = false := hrow.frozen _
      have HA := Lib.hid ha
      have HV := Lib.hid hval
      have HZ := Lib.hid hzero
      have HL := Lib.hid hlen
      clear ha hval hzero hlen hca h0
      by_cases hy2 : k < y.length
      · obtain ⟨g2, cs2, b, rfl, hbk2, hbb, hcb⟩ := hy.at_ hy2
        have hcb' : wr.cell? ⟨g2, k, none⟩ = some (.int .u32 b.toNat) := (hb.cell (p := ⟨g2, k, none⟩) hbk2.lt).trans hcb
        have HB := Lib.hid hbb
        clear hbb hcb
        go_wp2
        go_roundw
        case rel => exact ⟨k + 1, hi (add3 cc a b), by omega, by go_num, rfl, sum_next hb hrow HL.out HV.out HZ.out HA.out (val_take_succ y k b HB.out) (by rw [lo_nat, add3_nat]) (by rw [hi_nat, add3_nat]) rfl⟩
        case measure => simp [intOf]; omega
      · go_wp2
        go_roundw
        case rel => exact ⟨k + 1, hi (add2 cc a), by omega, by go_num, rfl, sum_next (t := 0) hb hrow HL.out HV.out HZ.out HA.out (by rw [List.take_of_length_le (by omega), List.take_of_length_le (by omega)]; rfl) (by rw [lo_nat, add2_nat]; rfl) (by rw [hi_nat, add2_nat]; rfl) rfl⟩
        case measure => simp [intOf]; omega
    · have hke : k = x.length := by omega
      subst hke
      obtain ⟨hf, hc0, row, hl, hv, hb, hB⟩ := sum_end hR hyx
      have HL := Lib.hid hl
      have HV := Lib.hid hv
      clear hl hv hR
      go_wp2
      go_ret
      exact ⟨W.heap.size, row, rfl, HL.out, HV.out, Nat.le_refl _, hb, hB⟩

theorem sum_any (A B : Option Addr) (ca cb : Nat) (x y : List UInt32) (W : World) (hx : Dig W A x) (hy : Dig W B y) (hX : x.length + 1 ≤ 35184372088832) (hY : y.length + 1 ≤ 35184372088832) :
    Calls Try.prog 90 #[.slice A x.length ca, .slice B y.length cb] W (Summed (val x + val y) (max x.length y.length + 1) W) := by
  rcases Nat.lt_or_ge x.length y.length with h | h
  · have := sum_c2 B A cb ca y x W hy hx h hY
    rw [Nat.add_comm (val x), Nat.max_eq_right (by omega)]
    exact this
  · have := sum_c A B ca cb x y W hx hy h hX
    rw [Nat.max_eq_left h]
    exact this

attribute [local go_sem ↓] Go.wp_at_zero Go.wp_at_succ

/-- Behind 'z.neg, z.d = false, f(..)': f's row is stored. -/
def Mid (z V L : Nat) (W wx : World) : Prop :=
  ∃ (w1 : World) (g k : Nat) (row : List UInt32), Below W.heap.size W w1 ∧ Slot w1 z ∧ Blk w1 g 99 (rowOf row) ∧ row.length = L ∧ val row = V ∧ wx = (stored w1 z false (.slice (some ⟨g, 0, none⟩) L L)).drewN k
theorem mid_trim {z V L : Nat} {W wx : World} (h : Mid z V L W wx) (hL : L ≤ 4611686018427387904) :
    Calls Try.prog 67 #[.pointer (some ⟨z, 0, none⟩)] wx (Trimmed z V W) := by
  obtain ⟨w1, g, k, row, hb, hz, hB, rfl, rfl, rfl⟩ := h
  exact (trim_c z row.length (some ⟨g, 0, none⟩) row ((stored w1 z false (.slice (some ⟨g, 0, none⟩) row.length row.length)).drewN k) (stored_cell hz false _ _ _) (dig_stored hz hB.dig false _) (Nat.le_refl _) hL).mono
    fun e w' h' => (h'.from (only_drewN (stored_grown w1 z false _) k)).from (only_of_below hb (some z))

set_option maxHeartbeats 2000000 in
theorem add_c (z p q n m : Nat) (W : World) (hz : Slot W z) (hp : Num W p n) (hq : Num W q m) (hn : (digs n).length + 1 ≤ 35184372088832) (hm : (digs m).length + 1 ≤ 35184372088832) :
    Calls Try.prog 70 #[.pointer (some ⟨z, 0, none⟩), .pointer (some ⟨p, 0, none⟩), .pointer (some ⟨q, 0, none⟩)] W (Trimmed z (n + m) W) := by
  obtain ⟨A, cap, c0, c1, hcap, hd⟩ := hp.facts
  obtain ⟨B, capB, e0, e1, hcapB, he⟩ := hq.facts
  obtain ⟨s, A', l', c', z0, z1, f0, f1, hlt⟩ := hz.facts
  have hpl := hp.lt
  have hql := hq.lt
  have hfin : val (digs n) + val (digs m) = n + m := by rw [val_digs, val_digs]
  have HF := Lib.hid hfin
  clear hfin hp hq
  generalize digs n = a at *
  generalize digs m = b at *
  go_enter Try.func70, Try.ntmps70
  go_wp2
  go_quiet (fail)
  go_upto_region 3 with fail
  have hL : max a.length b.length + 1 ≤ 4611686018427387904 := by omega
  go_region_with (go_at_call 90; refine (sum_any _ _ _ _ a b _ (hd.drewN _) (he.drewN _) hn hm).mono ?_; rintro e w1 ⟨g, row, rfl, hl, hv, hge, hb, hB⟩; have k0 : w1.cell? ⟨p, 0, none⟩ = some (.bool false) := (hb.cell (p := ⟨p, 0, none⟩) hpl).trans c0; have hz1 : Slot w1 z := (hz.drewN _).below hb; obtain ⟨s1, A1, l1, cc1, y0, y1, j0, j1, hlt1⟩ := hz1.facts; have HL := Lib.hid hl; have HV := Lib.hid hv; have HB := Lib.hid hb; clear hl hv hb)
  all_goals go_wp2_with fail
  all_goals
    refine (mid_trim (z := z) (V := n + m) (L := max a.length b.length + 1) (W := W) ⟨w1, g, 0, row, Below.undraw HB.out, hz1, hB, HL.out, HV.out.trans HF.out, rfl⟩ hL).mono ?_
    intro e w2 h
    have H := Lib.hid h
    obtain ⟨rfl, _⟩ := h
    go_wp2_with fail
    go_ret
    exact H.out
end Go.Proofs.Ytcbecpgllebepaa.Big

namespace Go.Proofs.Ytcbecpgllebepaa.Big
set_option linter.unusedVariables false
open Go.RowKit

def cmpInt (n m : Nat) : Int := if n < m then -1 else if n = m then 0 else 1
theorem cmp_lt {n m : Nat} (h : n < m) : cmpInt n m = -1 := by simp [cmpInt, h]
theorem cmp_gt {n m : Nat} (h : m < n) : cmpInt n m = 1 := by unfold cmpInt; rw [if_neg (by omega), if_neg (by omega)]
theorem cmp_eq {n m : Nat} (h : n = m) : cmpInt n m = 0 := by unfold cmpInt; rw [if_neg (by omega), if_pos h]
theorem lt_of_len {n m : Nat} (h : (digs n).length < (digs m).length) : n < m := by
  rcases Nat.lt_or_ge n m with h1 | h1
  · exact h1
  · have := digs_mono h1; omega
theorem val_lt_at {a b : List UInt32} {k : Nat} {x y : UInt32} (hl : a.length = b.length) (hd : a.drop (k + 1) = b.drop (k + 1)) (hx : a[k]? = some x) (hy : b[k]? = some y) (h : x.toNat < y.toNat) : val a < val b := by
  have hka : k < a.length := (List.getElem?_eq_some_iff.1 hx).1
  have hkb : k < b.length := (List.getElem?_eq_some_iff.1 hy).1
  have ea : val a = val (a.take k) + 4294967296 ^ k * (x.toNat + 4294967296 * val (a.drop (k + 1))) := by
    conv => lhs; rw [← List.take_append_drop k a, val_append]
    rw [List.drop_eq_getElem_cons hka, (List.getElem?_eq_some_iff.1 hx).2, val, List.length_take, Nat.min_eq_left (by omega)]
  have eb : val b = val (b.take k) + 4294967296 ^ k * (y.toNat + 4294967296 * val (b.drop (k + 1))) := by
    conv => lhs; rw [← List.take_append_drop k b, val_append]
    rw [List.drop_eq_getElem_cons hkb, (List.getElem?_eq_some_iff.1 hy).2, val, List.length_take, Nat.min_eq_left (by omega)]
  have h1 := val_lt (a.take k)
  rw [List.length_take, Nat.min_eq_left (by omega)] at h1
  rw [ea, eb, hd]
  have h2 : 4294967296 ^ k * (x.toNat + 1 + 4294967296 * val (b.drop (k + 1))) ≤ 4294967296 ^ k * (y.toNat + 4294967296 * val (b.drop (k + 1))) := Nat.mul_le_mul_left _ (by omega)
  have h3 : 4294967296 ^ k * (x.toNat + 1 + 4294967296 * val (b.drop (k + 1))) = 4294967296 ^ k * (x.toNat + 4294967296 * val (b.drop (k + 1))) + 4294967296 ^ k := by grind
  omega

theorem drewN2 (W : World) (a b : Nat) : (W.drewN a).drewN b = W.drewN (a + b) := World.drewN_drewN ..
theorem drewN3 (W : World) (a b c : Nat) : ((W.drewN a).drewN b).drewN c = W.drewN (a + (b + c)) := by rw [drewN2, drewN2]
def Cmps (n m : Nat) (W : World) (e : Ending) (W' : World) : Prop := e = .returned (.int .i64 (cmpInt n m)) ∧ ∃ k, W' = W.drewN k

set_option maxHeartbeats 2000000 in
theorem cmp_c (p q n m : Nat) (W : World) (hp : Num W p n) (hq : Num W q m) (hn : (digs n).length ≤ 35184372088832) (hm : (digs m).length ≤ 35184372088832) :
    Calls Try.prog 68 #[.pointer (some ⟨p, 0, none⟩), .pointer (some ⟨q, 0, none⟩)] W (Cmps n m W) := by
  obtain ⟨A, cap, c0, c1, hcap, hd⟩ := hp.facts
  obtain ⟨B, capB, e0, e1, hcapB, he⟩ := hq.facts
  have ean := val_digs n
  have eam := val_digs m
  have hlen := @lt_of_len n m
  have hlen' := @lt_of_len m n
  have EN := Lib.hid ean
  have EM := Lib.hid eam
  have L1 := Lib.hid hlen
  have L2 := Lib.hid hlen'
  clear ean eam hp hq hlen hlen'
  generalize digs n = a at *
  generalize digs m = b at *
  by_cases hab : a.length = b.length
  · rw [hab] at c1 hcap hn
    have HAB := Lib.hid hab
    clear hab
    go_enter Try.func68, Try.ntmps68
    go_wp2
    go_quiet (fail)
    go_wp2
    go_loopw [5] (fun i wr => ∃ j : Nat, j ≤ b.length ∧ i = .int .i64 ((j : Int) - 1) ∧ a.drop j = b.drop j ∧ ∃ k, wr = W.drewN k) (fun i _ => (intOf i + 1).toNat)
    case atStart => exact ⟨b.length, Nat.le_refl _, rfl, by rw [List.drop_of_length_le (by rw [HAB.out]; exact Nat.le_refl _), List.drop_of_length_le (Nat.le_refl _)], _, rfl⟩
    case round =>
      obtain ⟨j, hj, rfl, hdr, nq', rfl⟩ := hrel
      have HDR := Lib.hid hdr
      clear hdr
      by_cases hj0 : 0 < j
      · obtain ⟨j', rfl⟩ : ∃ j', j = j' + 1 := ⟨j - 1, by omega⟩
        obtain ⟨g, cs, x, rfl, hbk, hx, hcx⟩ := hd.at_ (k := j') (by rw [HAB.out]; omega)
        obtain ⟨g2, cs2, y, rfl, hbk2, hy, hcy⟩ := he.at_ (k := j') (by omega)
        have HX := Lib.hid hx
        have HY := Lib.hid hy
        clear hx hy
        have hji : ((j' + 1 : Nat) : Int) - 1 = (j' : Int) := by omega
        rw [hji]
        clear hji
        rcases Nat.lt_trichotomy x.toNat y.toNat with hxy | hxy | hxy
        · have b1 : ((x.toNat : Int) == (y.toNat : Int)) = false := by rw [beq_eq_false_iff_ne]; omega
          have b2 : ((x.toNat : Int) != (y.toNat : Int)) = true := by rw [bne, b1]; rfl
          have b3 : decide (x.toNat < y.toNat) = true := by simp; omega
          have hfin : cmpInt n m = -1 := cmp_lt (by rw [← EN.out, ← EM.out]; exact val_lt_at HAB.out HDR.out HX.out HY.out hxy)
          have HF := Lib.hid hfin
          clear hfin
          go_wp2
          go_quiet (fail)
          go_wp2
          go_quiet (fail)
          go_wp2
          go_ret
          exact ⟨by rw [HF.out]; rfl, _, drewN3 _ _ _ _⟩
        · obtain rfl : x = y := UInt32.toNat_inj.1 hxy
          go_wp2
          go_quiet (fail)
          go_wp2
          go_roundw
          case rel => exact ⟨j', by omega, by go_num, by rw [List.drop_eq_getElem_cons (l := a) (i := j') (by rw [HAB.out]; omega), List.drop_eq_getElem_cons (l := b) (i := j') (by omega), (List.getElem?_eq_some_iff.1 HX.out).2, (List.getElem?_eq_some_iff.1 HY.out).2, HDR.out], _, rfl⟩
          case measure => simp [intOf]
        · have b1 : ((x.toNat : Int) == (y.toNat : Int)) = false := by rw [beq_eq_false_iff_ne]; omega
          have b2 : ((x.toNat : Int) != (y.toNat : Int)) = true := by rw [bne, b1]; rfl
          have b3 : decide (x.toNat < y.toNat) = false := by simp; omega
          have hfin : cmpInt n m = 1 := cmp_gt (by rw [← EN.out, ← EM.out]; exact val_lt_at HAB.out.symm HDR.out.symm HY.out HX.out hxy)
          have HF := Lib.hid hfin
          clear hfin
          go_wp2
          go_quiet (fail)
          go_wp2
          go_quiet (fail)
          go_wp2
          go_ret
          exact ⟨by rw [HF.out]; rfl, _, drewN3 _ _ _ _⟩
      · have hj1 : j = 0 := by omega
        subst hj1
        have hfin : cmpInt n m = 0 := cmp_eq (by rw [← EN.out, ← EM.out]; have h := HDR.out; rw [List.drop_zero, List.drop_zero] at h; rw [h])
        have HF := Lib.hid hfin
        clear hfin
        go_wp2
        go_ret
        exact ⟨by rw [HF.out]; rfl, _, rfl⟩
  · have b1 : ((a.length : Int) == (b.length : Int)) = false := by rw [beq_eq_false_iff_ne]; omega
    have b2 : ((a.length : Int) != (b.length : Int)) = true := by rw [bne, b1]; rfl
    rcases Nat.lt_or_ge a.length b.length with hlt | hge
    · have b3 : decide (a.length < b.length) = true := by simp; omega
      have HF := Lib.hid (cmp_lt (L1.out hlt))
      go_enter Try.func68, Try.ntmps68
      go_wp2
      go_quiet (fail)
      go_wp2
      go_quiet (fail)
      go_wp2
      go_ret
      exact ⟨by rw [HF.out]; rfl, _, drewN2 _ _ _⟩
    · have b3 : decide (a.length < b.length) = false := by simp; omega
      have HF := Lib.hid (cmp_gt (L2.out (by omega)))
      go_enter Try.func68, Try.ntmps68
      go_wp2
      go_quiet (fail)
      go_wp2
      go_quiet (fail)
      go_wp2
      go_ret
      exact ⟨by rw [HF.out]; rfl, _, drewN2 _ _ _⟩
end Go.Proofs.Ytcbecpgllebepaa.Big

namespace Go.Proofs.Ytcbecpgllebepaa.Big
open Go.RowKit
set_option linter.unusedVariables false

theorem small_len {n : Nat} (h : n < 340282366920938463463374607431768211456) : (digs n).length ≤ 4 := digs_len (k := 4) (by simpa using h)
theorem cmp_w (p q n m : Nat) (W : World) (hp : Num W p n) (hq : Num W q m) (hn : (digs n).length ≤ 35184372088832) (hm : (digs m).length ≤ 35184372088832) :
    Calls Try.prog 49 #[.pointer (some ⟨p, 0, none⟩), .pointer (some ⟨q, 0, none⟩)] W fun e w' => e = .returned (.int .i64 (cmpInt n m)) ∧ Below W.heap.size W w' := by
  obtain ⟨A, cap, c0, c1, _, _⟩ := hp.facts
  obtain ⟨B, capB, e0, e1, _, _⟩ := hq.facts
  have H := Lib.hid (fun k => cmp_c p q n m (W.drewN k) hp hq hn hm)
  clear hp hq hn hm c1 e1
  go_enter Try.func49, Try.ntmps49
  go_wp2
  go_quiet (fail)
  go_wp2_with fail
  refine (H.out _).mono ?_
  rintro e w' ⟨rfl, k, rfl⟩
  go_wp2
  go_ret
  exact ⟨rfl, ⟨rfl, rfl, rfl, by simp, fun i hi => by simp⟩⟩
/-- The number n, behind a pointer of the call's own. -/
def At (W0 : World) (p n : Nat) (W : World) : Prop := W0.heap.size ≤ p ∧ Below W0.heap.size W0 W ∧ Num W p n
theorem At.new {W0 W W' : World} {p n m : Nat} {e : Ending} (h : At W0 p n W) (hf : Fresh m W e W') : ∃ q, e = .returned (.pointer (some ⟨q, 0, none⟩)) ∧ At W0 p n W' ∧ Num W' q m := by
  obtain ⟨q, rfl, hq, hb, hn⟩ := hf
  exact ⟨q, rfl, ⟨h.1, h.2.1.trans (hb.mono h.2.1.size), h.2.2.below hb⟩, hn⟩
theorem At.to {W0 W W' : World} {p n m : Nat} {e : Ending} (h : At W0 p n W) (ht : Trimmed p m W e W') : e = .returned (.pointer (some ⟨p, 0, none⟩)) ∧ At W0 p m W' :=
  ⟨ht.1, h.1, h.2.1.trans (below_of_new ht.2.1 h.1 h.2.1.size), ht.2.2⟩
end Go.Proofs.Ytcbecpgllebepaa.Big
