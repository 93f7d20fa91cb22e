/-
  Blocks of bytes of any element type; what writing to one block leaves; a whole row loaded and stored.
-/
import Derived.Test.YtpjopdemhdeelaaRow
import Derived.Test.YtpjopdemhdeelaaSl
import Derived.Test.YtpjopdemhdeelaaGf
import Derived.Test.YtpjopdemhdeelaaCurveRef
import Derived.Laws.Rows
import Derived.Laws.Tables
import Derived.Laws.ResultCell
namespace Go.Proofs.Ytpjopdemhdeelaa.Poly
set_option linter.unusedVariables false
open Go.RowKit Gf Mem

theorem quiet_l {P : Program} {f : FuncId} {args : Array Value} {w : World} {n : Nat} {v : Value}
    (h : Calls P f args (w.drewN n) fun e w' => e = .returned v ∧ w.drewN n = w') : Calls P f args (w.drewN n) fun e w'' => e = .returned v ∧ ∃ m, w'' = w.drewN m :=
  h.mono fun _ _ ⟨he, hm⟩ => ⟨he, n, hm.symm⟩

theorem mul_r (a b : UInt8) (W : World) : Calls Try.prog 22 #[.int .u8 a.toNat, .int .u8 b.toNat] W fun e W' => e = .returned (.int .u8 (mul a b).toNat) ∧ W' = W :=
  (mul_c a b W).mono fun _ _ h => ⟨h.1, h.2.symm⟩
/-- Block g, of elements of type t, holds the bytes l. -/
def OwnT (W : World) (g : Nat) (t : TypeId) (l : List UInt8) : Prop := Known W g t (l.map byt).toArray
section
variable {W V : World} {g : Nat} {t : TypeId} {l : List UInt8}
theorem OwnT.lt (h : OwnT W g t l) : g < W.heap.size := Known.lt h
theorem OwnT.at_ (h : OwnT W g t l) {k : Nat} {x : UInt8} (hk : l[k]? = some x) : W.cell? ⟨g, k, none⟩ = some (.int .u8 (x.toNat : Int)) := by
  rw [Known.cell h]; simp [hk, byt]
theorem OwnT.free (h : OwnT W g t l) (k : Nat) : W.frozen? ⟨g, k, none⟩ = false := Known.free h k
theorem OwnT.put (h : OwnT W g t l) (k : Nat) (x : UInt8) : OwnT (W.setCell ⟨g, k, none⟩ (.int .u8 (x.toNat : Int))) g t (l.set k x) := by
  have := Known.put h k (.int .u8 (x.toNat : Int))
  unfold OwnT
  rw [List.map_set]
  simpa [byt] using this
theorem OwnT.later (h : OwnT W g t l) (hb : Below W.heap.size W V) : OwnT V g t l := Known.later h hb
theorem OwnT.drew (h : OwnT W g t l) : OwnT W.drew g t l := h
theorem OwnT.drawn (h : OwnT W g t l) (hd : Drawn W V) : OwnT V g t l := Known.drawn h hd
theorem OwnT.alloc (h : OwnT W g t l) (o : Obj) : OwnT (W.alloc o) g t l := Known.alloc h o
theorem OwnT.off (h : OwnT W g t l) {p : Addr} (hp : g ≠ p.block) (u : Value) : OwnT (W.setCell p u) g t l := Known.off h hp u
theorem OwnT.reads (h : OwnT W g t l) : Reads W (some ⟨g, 0, none⟩) (l.map byt) := fun k v hv => by
  refine ⟨g, 0, rfl, h.lt, ?_⟩
  rw [Nat.zero_add, Known.cell h]; simpa using hv
end
section
variable {w w1 w2 : World} {row : Option Nat} {g : Nat}
theorem grown_refl (w : World) (row : Option Nat) : w.grownBy w row := ⟨rfl, rfl, rfl, Nat.le_refl _, fun _ _ _ => rfl⟩
theorem grown_trans (h : w.grownBy w1 row) (k : w1.grownBy w2 row) : w.grownBy w2 row :=
  ⟨k.os.trans h.os, k.tape.trans h.tape, k.output.trans h.output, Nat.le_trans h.size k.size, fun b hb hr => (k.block b (Nat.lt_of_lt_of_le hb h.size) hr).trans (h.block b hb hr)⟩
theorem grown_set (h : w.grownBy w1 (some g)) (k : Nat) (u : Value) : w.grownBy (w1.setCell ⟨g, k, none⟩ u) (some g) :=
  ⟨h.os, h.tape, h.output, by simpa [World.setCell] using h.size, fun b hb hr => (Below.heap_setCell w1 ⟨g, k, none⟩ u b (fun e => hr (congrArg some e))).trans (h.block b hb hr)⟩
theorem grown_drew (h : w.grownBy w1 row) : w.grownBy w1.drew row := ⟨h.os, h.tape, h.output, h.size, h.block⟩
end


theorem own_zero (W : World) (t : TypeId) (n : Nat) : OwnT (W.alloc (.cells (Array.replicate n (.int .u8 0)) t)) W.heap.size t (List.replicate n 0) := by
  have h := Known.made W t (Array.replicate n (.int .u8 0))
  unfold OwnT
  rw [List.map_replicate]
  simpa [byt] using h
theorem _root_.Go.Proofs.Ytpjopdemhdeelaa.Mem.Known.drew2 {W : World} {g : Nat} {t : TypeId} {cs : Array Value} (h : Known W g t cs) : Known W.drew g t cs := h
theorem known_grown {W V : World} {g : Nat} {t : TypeId} {cs : Array Value} {row : Option Nat} (h : Known W g t cs) (hg : W.grownBy V row) (hne : some g ≠ row) : Known V g t cs := (hg.block g h.lt hne).trans h
theorem known_setRow {W : World} {g : Nat} {t : TypeId} {old cs : Array Value} (h : Known W g t old) : Known (W.setRow g cs) g t cs := setRow_heap W g old cs t (0, 0) h
theorem known_offRow {W : World} {g k : Nat} {t : TypeId} {old cs : Array Value} (h : Known W g t old) (hk : g ≠ k) : Known (W.setRow k cs) g t old := (setRow_other W k g cs hk).trans h
theorem below_setRow {B : Nat} {W V : World} (h : Below B W V) {g : Nat} (hg : B ≤ g) (cs : Array Value) : Below B W (V.setRow g cs) :=
  ⟨h.os, h.tape, h.output, by simpa using h.size, fun k hk => (setRow_other V g k cs (by omega)).trans (h.block k hk)⟩
theorem byt_one (l : List UInt8) : (l.map byt).toArray.all (·.oneCell') = true := Array.all_eq_true_iff_forall_mem.2 fun v hv => by
  simp at hv
  obtain ⟨x, _, rfl⟩ := hv
  rfl
end Go.Proofs.Ytpjopdemhdeelaa.Poly
