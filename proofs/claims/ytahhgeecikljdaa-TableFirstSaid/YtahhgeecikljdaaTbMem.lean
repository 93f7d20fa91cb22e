/-
  Blocks that a call makes by make: numbers, marks, slices of numbers; what is stored into them and read.
-/
import Derived.Test.YtahhgeecikljdaaTbTurn
import Derived.Test.YtahhgeecikljdaaRgPure
import Derived.Test.YtahhgeecikljdaaStInts
import Derived.Test.YtahhgeecikljdaaIntSet
import Derived.Deep.DeepCutAuto
namespace Go.Proofs.Ytahhgeecikljdaa.Tb
set_option linter.unusedVariables false
set_option linter.unusedSimpArgs false
open Go.RowKit Mem

/-- An answer; what was there before is as it was. -/
def Gave (v : Value) (W : World) (e : Ending) (W' : World) : Prop := e = .returned v ∧ Below W.heap.size W W'

/-! ### Blocks of cells of one kind -/
def Cells {α : Type} (W : World) (g : Nat) (t : TypeId) (enc : α → Value) (l : List α) : Prop := Known W g t (l.map enc).toArray
section
variable {α : Type} {W V : World} {g : Nat} {t : TypeId} {enc : α → Value} {l : List α}
theorem Cells.lt (h : Cells W g t enc l) : g < W.heap.size := Known.lt h
theorem Cells.at_ (h : Cells W g t enc l) {k : Nat} {x : α} (hk : l[k]? = some x) : W.cell? ⟨g, k, none⟩ = some (enc x) := by
  rw [Known.cell h]; simp [hk]
theorem Cells.free (h : Cells W g t enc l) (k : Nat) : W.frozen? ⟨g, k, none⟩ = false := Known.free h k
theorem Cells.put (h : Cells W g t enc l) (k : Nat) (x : α) : Cells (W.setCell ⟨g, k, none⟩ (enc x)) g t enc (l.set k x) := by
  have := Known.put h k (enc x)
  unfold Cells
  rw [List.map_set]
  simpa using this
theorem Cells.later (h : Cells W g t enc l) (hb : Below W.heap.size W V) : Cells V g t enc l := Known.later h hb
theorem Cells.alloc (h : Cells W g t enc l) (o : Obj) : Cells (W.alloc o) g t enc l := Known.alloc h o
theorem Cells.off (h : Cells W g t enc l) {p : Addr} (hp : g ≠ p.block) (u : Value) : Cells (W.setCell p u) g t enc l := Known.off h hp u
theorem Cells.drawn (h : Cells W g t enc l) (hd : Drawn W V) : Cells V g t enc l := Known.drawn h hd
theorem Cells.reads (h : Cells W g t enc l) : Reads W (some ⟨g, 0, none⟩) (l.map enc) := fun k v hv => by
  refine ⟨g, 0, rfl, h.lt, ?_⟩
  rw [Nat.zero_add, Known.cell h]; simpa using hv
theorem Cells.new (W : World) (t : TypeId) (enc : α → Value) (l : List α) (cs : Array Value) (h : cs = (l.map enc).toArray) : Cells (W.alloc (.cells cs t)) W.heap.size t enc l := by
  subst h; exact Known.made W t _
end
theorem Reads.drop {W : World} {b o : Nat} {xs : List Value} (h : Reads W (some ⟨b, o, none⟩) xs) (n : Nat) : Reads W (some ⟨b, o + n, none⟩) (xs.drop n) := fun k v hv => by
  rw [List.getElem?_drop] at hv
  obtain ⟨b', o', h1, h2, h3⟩ := h (n + k) v hv
  injection h1 with h1
  injection h1 with e1 e2
  subst e1 e2
  exact ⟨b, o + n, rfl, h2, by rw [show o + n + k = o + (n + k) by omega]; exact h3⟩

/-! ### make -/
theorem madeG (z : Value) (n : Nat) : madeCells #[z] n = Array.replicate n z := by
  apply Array.ext_getElem?
  intro i
  by_cases h : i < n
  · simp [madeCells, h, Nat.mod_one]
  · simp [madeCells, h]
theorem makeG {t e : TypeId} {z : Value} {bytes : Nat} (ht : Try.prog.underlying t = some (.slice e)) (hi : (Try.prog.info? e).map (fun i => (i.zero, i.size, i.bytes)) = some (some z, 1, bytes)) (hz : z.cells = #[z])
    (n : Nat) (hn : n ≤ 1000) (hb : bytes ≤ 100) (w : World) :
    (Instr.makeSlice t (.int .i64 n) (.int .i64 n)).run Try.prog w = .ok (.slice (some ⟨w.heap.size, 0, none⟩) n n) (w.alloc (.cells (Array.replicate n z) e)) := by
  obtain ⟨i, hi, hz0, hz1, hz2⟩ := info_parts hi
  have hb : (i.bytes : Int) * (n : Int) ≤ 281474976710656 := by
    rw [hz2]
    have := Nat.mul_le_mul hb hn
    have e : (bytes : Int) * (n : Int) = ((bytes * n : Nat) : Int) := by simp
    omega
  have hr := run_make (P := Try.prog) w t e i z ht hi hz0 .i64 .i64 n n (by omega) (by omega) hb (by omega)
  rw [hr]
  simp only [Int.toNat_natCast, hz1, Nat.mul_one]
  rw [hz, madeG]
def nz (n : Nat) : Value := .int .i64 (n : Int)
def zz (n : Int) : Value := .int .i64 n
def bz (b : Bool) : Value := .bool b
theorem infoB : (Try.prog.info? 4).map (fun i => (i.zero, i.size, i.bytes)) = some (some (.bool false), 1, 1) := by kernel_rfl
theorem infoS : (Try.prog.info? 22).map (fun i => (i.zero, i.size, i.bytes)) = some (some (.slice none 0 0), 1, 24) := by kernel_rfl
theorem makeI (n : Nat) (hn : n ≤ 1000) (w : World) :
    (Instr.makeSlice 22 (.int .i64 n) (.int .i64 n)).run Try.prog w = .ok (.slice (some ⟨w.heap.size, 0, none⟩) n n) (w.alloc (.cells (Array.replicate n (.int .i64 0)) 3)) :=
  makeG Try.underlying22 Stripe.infoI rfl n hn (by omega) w
theorem makeB (n : Nat) (hn : n ≤ 1000) (w : World) :
    (Instr.makeSlice 49 (.int .i64 n) (.int .i64 n)).run Try.prog w = .ok (.slice (some ⟨w.heap.size, 0, none⟩) n n) (w.alloc (.cells (Array.replicate n (.bool false)) 4)) :=
  makeG Try.underlying49 infoB rfl n hn (by omega) w
theorem makeS (n : Nat) (hn : n ≤ 1000) (w : World) :
    (Instr.makeSlice 48 (.int .i64 n) (.int .i64 n)).run Try.prog w = .ok (.slice (some ⟨w.heap.size, 0, none⟩) n n) (w.alloc (.cells (Array.replicate n (.slice none 0 0)) 22)) :=
  makeG Try.underlying48 infoS rfl n hn (by omega) w
theorem newI (W : World) (n : Nat) : Cells (W.alloc (.cells (Array.replicate n (.int .i64 0)) 3)) W.heap.size 3 zz (List.replicate n 0) :=
  Cells.new W _ zz _ _ (by simp [zz])
theorem newN (W : World) (n : Nat) : Cells (W.alloc (.cells (Array.replicate n (.int .i64 0)) 3)) W.heap.size 3 nz (List.replicate n 0) :=
  Cells.new W _ nz _ _ (by simp [nz])
theorem newB (W : World) (n : Nat) : Cells (W.alloc (.cells (Array.replicate n (.bool false)) 4)) W.heap.size 4 bz (List.replicate n false) :=
  Cells.new W _ bz _ _ (by simp [bz])
theorem newS (W : World) (n : Nat) : Cells (W.alloc (.cells (Array.replicate n (.slice none 0 0)) 22)) W.heap.size 22 id (List.replicate n (.slice none 0 0)) :=
  Cells.new W _ id _ _ (by simp)

/-! ### Numbers that came in -/
theorem reads_z {W : World} {A : Option Addr} {l : List Int} (h : Reads W A (l.map (Value.int .i64))) {k : Nat} (hk : k < l.length) : ∃ b o, A = some ⟨b, o, none⟩ ∧ b < W.heap.size ∧ W.cell? ⟨b, o + k, none⟩ = some (.int .i64 l[k]) :=
  h k (.int .i64 l[k]) (by rw [List.getElem?_map, List.getElem?_eq_getElem hk]; rfl)
theorem reads_n {W : World} {A : Option Addr} {l : List Nat} (h : Reads W A (l.map nz)) {k x : Nat} (hk : l[k]? = some x) : ∃ b o, A = some ⟨b, o, none⟩ ∧ b < W.heap.size ∧ W.cell? ⟨b, o + k, none⟩ = some (.int .i64 (x : Int)) :=
  h k (.int .i64 (x : Int)) (by rw [List.getElem?_map, hk]; rfl)
theorem reads_b {W : World} {A : Option Addr} {l : List Bool} (h : Reads W A (l.map bz)) {k : Nat} {x : Bool} (hk : l[k]? = some x) : ∃ b o, A = some ⟨b, o, none⟩ ∧ b < W.heap.size ∧ W.cell? ⟨b, o + k, none⟩ = some (.bool x) :=
  h k (.bool x) (by rw [List.getElem?_map, hk]; rfl)

/-! ### What is wrong with the arguments -/
def BadT (n : Nat) (size : Int) : Prop := n < 1 ∨ 16 < n ∨ size < 1 ∨ 1000 < size
instance (n : Nat) (size : Int) : Decidable (BadT n size) := by unfold BadT; exact inferInstance
def tErr (ids : List Int) (size : Int) : Int :=
  if BadT ids.length size then 2 else if ¬ Prm size.toNat then 1 else if size < ids.length then 8 else Ring.scan [] ids
theorem tErr_vals (ids : List Int) (size : Int) : tErr ids size = 0 ∨ tErr ids size = 1 ∨ tErr ids size = 2 ∨ tErr ids size = 6 ∨ tErr ids size = 8 := by
  unfold tErr
  split
  · simp
  split
  · simp
  split
  · simp
  · rcases Ring.scan_vals [] ids with h | h | h <;> simp [h]
theorem tErr_zero {ids : List Int} {size : Int} (h : tErr ids size = 0) :
    ∃ p : Nat, size = p ∧ Prm p ∧ p ≤ 1000 ∧ 1 ≤ ids.length ∧ ids.length ≤ 16 ∧ ids.length ≤ p ∧ (∀ x ∈ ids, 0 ≤ x ∧ x ≤ 1099511627776) ∧ ids.Nodup ∧ Ring.scan [] ids = 0 := by
  unfold tErr at h
  by_cases h1 : BadT ids.length size
  · rw [if_pos h1] at h; omega
  rw [if_neg h1] at h
  by_cases h2 : Prm size.toNat
  · rw [if_neg (by simpa using h2)] at h
    by_cases h3 : size < ids.length
    · rw [if_pos h3] at h; omega
    rw [if_neg h3] at h
    obtain ⟨g1, g2⟩ := Ring.scan_zero.1 h
    unfold BadT at h1
    exact ⟨size.toNat, by omega, h2, by omega, by omega, by omega, by omega, fun x hx => (g1 x hx).1, g2, h⟩
  · rw [if_pos h2] at h; omega
theorem tErr_ok {ids : List Int} {p : Nat} (h1 : Prm p) (h2 : p ≤ 1000) (h3 : 1 ≤ ids.length) (h4 : ids.length ≤ 16) (h5 : ids.length ≤ p) (h6 : ∀ x ∈ ids, 0 ≤ x ∧ x ≤ 1099511627776) (h7 : ids.Nodup) : tErr ids p = 0 := by
  unfold tErr
  have := h1.1
  rw [if_neg (by unfold BadT; omega), if_neg (by simpa using h1), if_neg (by omega)]
  exact Ring.scan_zero.2 ⟨fun x hx => ⟨h6 x hx, by simp⟩, h7⟩
/-- Where a node begins, and its step. -/
def hA (x : Int) : UInt64 := Mix.two 0 (UInt64.ofNat x.toNat)
def hB (x : Int) : UInt64 := Mix.two 1 (UInt64.ofNat x.toNat)
def st (x : Int) (p : Nat) : Nat := (hA x).toNat % p
def sp (x : Int) (p : Nat) : Nat := (hB x).toNat % (p - 1) + 1
def lik (x : Int) (p : Nat) : List Nat := pref (st x p) (sp x p) p
theorem lik_len (x : Int) (p : Nat) : (lik x p).length = p := pref_len _ _ _
theorem lik_full (x : Int) {p : Nat} (h : Prm p) : Full (lik x p) p := by
  have h2 := h.1
  have := Nat.mod_lt (hB x).toNat (show p - 1 > 0 by omega)
  exact pref_full h (by unfold sp; omega) (by unfold sp; omega)
def liks (ids : List Int) (p : Nat) (i : Nat) : List Nat := lik (ids.getD i 0) p
theorem liks_fulls {ids : List Int} {p : Nat} (h : Prm p) (h1 : 1 ≤ ids.length) : Fulls (liks ids p) ids.length p := ⟨h1, fun i _ => lik_full _ h⟩
/-- The table. -/
def table (ids : List Int) (p : Nat) : List Int := tb ids (liks ids p) ids.length p p
theorem table_len (ids : List Int) (p : Nat) : (table ids p).length = p := tb_len p
end Go.Proofs.Ytahhgeecikljdaa.Tb
