/-
  Package locks: a lock in memory: its box, who has it, who waits; blocks bear the name of the key that they belong to.
-/
import Derived.Test.YtdkgclgccicbeaaLkPa
import Derived.Test.YtdkgclgccicbeaaLkMem
import Derived.Test.YtdkgclgccicbeaaGNMap
import Derived.Test.YtdkgclgccicbeaaGApp1
import Derived.Deep.Cut
import Derived.Deep.CutRange
import Derived.Deep.CutBlock
import Derived.Deep.DeepCutAuto
import Derived.Deep.LoopGhost
import Derived.BigQuiet
namespace Go.Proofs.Ytdkgclgccicbeaa.LkP
set_option linter.unusedVariables false
set_option linter.unusedSimpArgs false
open Go.RowKit Mem Gt Lk

abbrev tK : TypeId := 60
abbrev tL : TypeId := 36
abbrev tI : TypeId := 3
theorem elI : El 32 3 1 8 := El.of Try.underlying32 (by kernel_rfl)
/-- The names of the blocks: whose they are, and whether box (0), holders (1) or queue (2). -/
abbrev Lab := Nat → Option (Int × Nat)
/-- A lock: its box says bh and bw; hv and wv are slices of the call's own (block N or later). -/
structure Raw (N : Nat) (L : Lab) (k : Int) (G : Nat) (al : Bool) (bh bw hv : Value) (h : List Int) (wv : Value) (w : List LO) (V : World) : Prop where
  lo : N ≤ G
  l0 : L G = some (k, 0)
  bx : Known V G tK #[.bool al, bh, bw]
  ht : Tab erE V N tI hv h
  l1 : ∀ b, hv.ownBlock = some b → L b = some (k, 1)
  wt : Tab loE V N tL wv w
  l2 : ∀ b, wv.ownBlock = some b → L b = some (k, 2)
/-- Only what bears the key's name has turned; names are only given to what has come. -/
structure Mv (k : Int) (L : Lab) (V : World) (L' : Lab) (V' : World) : Prop where
  os : V'.os = V.os
  tape : V'.tape = V.tape
  output : V'.output = V.output
  size : V.heap.size ≤ V'.heap.size
  agree : ∀ b, b < V.heap.size → L' b = L b
  fresh : ∀ b, V'.heap.size ≤ b → L' b = L b
  block : ∀ b, b < V.heap.size → (∀ j, L b ≠ some (k, j)) → V'.heap[b]? = V.heap[b]?
theorem gr_set (V : World) (g k : Nat) (v : Value) : V.grownBy (V.setCell ⟨g, k, none⟩ v) (some g) :=
  ⟨rfl, rfl, rfl, by simp [World.setCell], fun b hb hr => Below.heap_setCell V ⟨g, k, none⟩ v b (fun e => hr (congrArg some e))⟩
theorem known_gr {V V' : World} {g : Nat} {t : TypeId} {cs : Array Value} {r : Option Nat} (h : Known V g t cs) (hg : V.grownBy V' r) (hr : some g ≠ r) : Known V' g t cs := (hg.block g h.lt hr).trans h
theorem gr_below {W V : World} (h : Below W.heap.size W V) : W.grownBy V none := ⟨h.os, h.tape, h.output, h.size, fun k hk _ => h.block k hk⟩
section
variable {N : Nat} {L L' L2 : Lab} {k : Int} {G : Nat} {al al' : Bool} {bh bw hv wv v : Value} {h : List Int} {w : List LO} {V V' V2 : World}
theorem Raw.lt (r : Raw N L k G al bh bw hv h wv w V) : G < V.heap.size := r.bx.lt
/-- Something else has turned. -/
theorem Raw.grown (r : Raw N L k G al bh bw hv h wv w V) {q : Option Nat} (hg : V.grownBy V' q) (hq : ∀ b, q = some b → ∀ j, L b ≠ some (k, j)) : Raw N L k G al bh bw hv h wv w V' := by
  have ne : ∀ {x : Value} {j : Nat}, (∀ b, x.ownBlock = some b → L b = some (k, j)) → (x.ownBlock = none ∨ x.ownBlock ≠ q) := fun {x j} hx => by
    cases e : x.ownBlock with
    | none => exact .inl rfl
    | some b => exact .inr (fun e' => hq b e'.symm j (hx b e))
  exact ⟨r.lo, r.l0, known_gr r.bx hg (fun e => hq G e.symm 0 r.l0), r.ht.kept hg (ne r.l1), r.l1, r.wt.kept hg (ne r.l2), r.l2⟩
theorem Raw.later (r : Raw N L k G al bh bw hv h wv w V) (hb : Below V.heap.size V V') : Raw N L k G al bh bw hv h wv w V' := r.grown (gr_below hb) (fun b e => by cases e)
theorem Raw.drewN (r : Raw N L k G al bh bw hv h wv w V) (j : Nat) : Raw N L k G al bh bw hv h wv w (V.drewN j) := r.later (Mem.below_drewN (Below.refl _ _) j)
theorem Raw.drew (r : Raw N L k G al bh bw hv h wv w V) : Raw N L k G al bh bw hv h wv w V.drew := r.later (Mem.below_drew (Below.refl _ _))
/-- Other names for what isn't there. -/
theorem Raw.named (r : Raw N L k G al bh bw hv h wv w V) (e : ∀ b, b < V.heap.size → L' b = L b) : Raw N L' k G al bh bw hv h wv w V :=
  ⟨r.lo, (e G r.lt).trans r.l0, r.bx, r.ht, fun b hb => (e b (r.ht.lt b hb).2).trans (r.l1 b hb), r.wt, fun b hb => (e b (r.wt.lt b hb).2).trans (r.l2 b hb)⟩
theorem Raw.boxed (r : Raw N L k G al bh bw hv h wv w V) {j : Nat} {u : Value} {al' : Bool} {bh' bw' : Value} (e : (#[Value.bool al, bh, bw] : Array Value).setIfInBounds j u = #[.bool al', bh', bw']) : Raw N L k G al' bh' bw' hv h wv w (V.setCell ⟨G, j, none⟩ u) := by
  have ne : ∀ {x : Value} {i : Nat}, (∀ b, x.ownBlock = some b → L b = some (k, i + 1)) → (x.ownBlock = none ∨ x.ownBlock ≠ some G) := fun {x i} hx => by
    cases e : x.ownBlock with
    | none => exact .inl rfl
    | some b => exact .inr (fun e' => by
        injection e' with e'
        have h1 := hx b e
        have h2 := r.l0
        rw [← e', h1] at h2
        injection h2 with h2
        injection h2 with _ h2
        omega)
  refine ⟨r.lo, r.l0, ?_, r.ht.kept (gr_set V G j u) (ne (i := 0) r.l1), r.l1, r.wt.kept (gr_set V G j u) (ne (i := 1) r.l2), r.l2⟩
  rw [← e]
  exact r.bx.put j u
theorem Raw.box0 (r : Raw N L k G al bh bw hv h wv w V) (a : Bool) : Raw N L k G a bh bw hv h wv w (V.setCell ⟨G, 0, none⟩ (.bool a)) := r.boxed rfl
theorem Raw.box1 (r : Raw N L k G al bh bw hv h wv w V) (u : Value) : Raw N L k G al u bw hv h wv w (V.setCell ⟨G, 1, none⟩ u) := r.boxed rfl
theorem Raw.box2 (r : Raw N L k G al bh bw hv h wv w V) (u : Value) : Raw N L k G al bh u hv h wv w (V.setCell ⟨G, 2, none⟩ u) := r.boxed rfl
/-! ### Moves -/
theorem Mv.refl (k : Int) (L : Lab) (V : World) : Mv k L V L V := ⟨rfl, rfl, rfl, Nat.le_refl _, fun _ _ => rfl, fun _ _ => rfl, fun _ _ _ => rfl⟩
theorem Mv.trans (m : Mv k L V L' V') (m2 : Mv k L' V' L2 V2) : Mv k L V L2 V2 :=
  ⟨m2.os.trans m.os, m2.tape.trans m.tape, m2.output.trans m.output, Nat.le_trans m.size m2.size, fun b hb => (m2.agree b (Nat.lt_of_lt_of_le hb m.size)).trans (m.agree b hb), fun b hb => (m2.fresh b hb).trans (m.fresh b (Nat.le_trans m2.size hb)),
    fun b hb hl => (m2.block b (Nat.lt_of_lt_of_le hb m.size) (fun j => by rw [m.agree b hb]; exact hl j)).trans (m.block b hb hl)⟩
theorem Mv.grown (m : Mv k L V L' V') {q : Option Nat} (hg : V'.grownBy V2 q) (hq : ∀ b, q = some b → (∃ j, L' b = some (k, j)) ∨ V.heap.size ≤ b) : Mv k L V L' V2 :=
  ⟨hg.os.trans m.os, hg.tape.trans m.tape, hg.output.trans m.output, Nat.le_trans m.size hg.size, m.agree, fun b hb => m.fresh b (Nat.le_trans hg.size hb), fun b hb hl => by
    rw [hg.block b (Nat.lt_of_lt_of_le hb m.size) (fun e => by
      rcases hq b e.symm with ⟨j, h1⟩ | h1
      · rw [m.agree b hb] at h1; exact hl j h1
      · omega)]
    exact m.block b hb hl⟩
theorem Mv.later (m : Mv k L V L' V') (hb : Below V'.heap.size V' V2) : Mv k L V L' V2 := m.grown (gr_below hb) (fun b e => by cases e)
theorem Mv.low (m : Mv k L V L' V') (o : Obj) : Mv k L V L' (V'.alloc o) := m.later (low_lit _ _)
theorem Mv.drewN (m : Mv k L V L' V') (j : Nat) : Mv k L V L' (V'.drewN j) := m.later (Mem.below_drewN (Below.refl _ _) j)
theorem Mv.drew (m : Mv k L V L' V') : Mv k L V L' V'.drew := m.later (Mem.below_drew (Below.refl _ _))
theorem Mv.box (m : Mv k L V L' V') (hl : L' G = some (k, 0)) (j : Nat) (u : Value) : Mv k L V L' (V'.setCell ⟨G, j, none⟩ u) := m.grown (gr_set _ _ _ _) (fun b e => by injection e with e; subst e; exact .inl ⟨0, hl⟩)
/-- What bears no such name lies as it was. -/
theorem Mv.known (m : Mv k L V L' V') {P : Nat} {t : TypeId} {cs : Array Value} (kn : Known V P t cs) (hP : ∀ j, L P ≠ some (k, j)) : Known V' P t cs := (m.block P kn.lt hP).trans kn
theorem Mv.below {W : World} (m : Mv k L V L' V') (hb : Below W.heap.size W V) (hl : ∀ b, b < W.heap.size → L b = none) : Below W.heap.size W V' := by
  have hs := hb.size
  refine ⟨m.os.trans hb.os, m.tape.trans hb.tape, m.output.trans hb.output, Nat.le_trans hs m.size, fun b hk => ?_⟩
  rw [m.block b (Nat.lt_of_lt_of_le hk hs) (fun j => by rw [hl b hk]; simp)]
  exact hb.block b hk
theorem Mv.below' {N : Nat} {W : World} (m : Mv k L V L' V') (hb : Below N W V) (hN : N ≤ W.heap.size) (hl : ∀ b, b < N → L b = none) : Below N W V' := by
  have hs := hb.size
  refine ⟨m.os.trans hb.os, m.tape.trans hb.tape, m.output.trans hb.output, Nat.le_trans hs m.size, fun b hk => ?_⟩
  rw [m.block b (by omega) (fun j => by rw [hl b hk]; simp)]
  exact hb.block b hk
/-! ### New slices -/
def name (L : Lab) (n : Nat) (v : Value) (p : Int × Nat) : Lab := fun b => if v.ownBlock = some b ∧ n ≤ b then some p else L b
theorem name_old (L : Lab) {n : Nat} (v : Value) (p : Int × Nat) {b : Nat} (hb : b < n) : name L n v p b = L b := if_neg (fun e => by omega)
/-- The queue has turned, or is another one. -/
theorem Raw.wput (r : Raw N L k G al bh bw hv h wv w V) {wv' : Value} {w' : List LO} (hg : V.grownBy V' wv.ownBlock) (T : Tab loE V' N tL wv' w') (hn : ∀ b, wv'.ownBlock = some b → wv.ownBlock = some b ∨ V.heap.size ≤ b) :
    Raw N (name L V.heap.size wv' (k, 2)) k G al bh bw hv h wv' w' V' ∧ Mv k L V (name L V.heap.size wv' (k, 2)) V' := by
  have hag : ∀ b, b < V.heap.size → name L V.heap.size wv' (k, 2) b = L b := fun b hb => name_old _ _ _ hb
  have neG : some G ≠ wv.ownBlock := fun e => by
    have h1 := r.l2 G e.symm
    rw [r.l0] at h1
    injection h1 with h1
    injection h1 with _ h1
    omega
  have neH : hv.ownBlock = none ∨ hv.ownBlock ≠ wv.ownBlock := by
    cases e : hv.ownBlock with
    | none => exact .inl rfl
    | some b => exact .inr (fun e' => by
        have h1 := r.l1 b e
        rw [r.l2 b e'.symm] at h1
        injection h1 with h1
        injection h1 with _ h1
        omega)
  refine ⟨⟨r.lo, (hag G r.lt).trans r.l0, known_gr r.bx hg neG, r.ht.kept hg neH, fun b hb => (hag b (r.ht.lt b hb).2).trans (r.l1 b hb), T, fun b hb => ?_⟩, ?_⟩
  · by_cases e : b < V.heap.size
    · rw [hag b e]
      rcases hn b hb with h1 | h1
      · exact r.l2 b h1
      · omega
    · exact if_pos ⟨hb, by omega⟩
  · exact ⟨hg.os, hg.tape, hg.output, hg.size, hag, fun b hb => if_neg (fun e => by have := (T.lt b e.1).2; omega), fun b hb hl => hg.block b hb (fun e => hl 2 (r.l2 b e.symm))⟩
/-- The holders have turned, or are others. -/
theorem Raw.hput (r : Raw N L k G al bh bw hv h wv w V) {hv' : Value} {h' : List Int} (hg : V.grownBy V' hv.ownBlock) (T : Tab erE V' N tI hv' h') (hn : ∀ b, hv'.ownBlock = some b → hv.ownBlock = some b ∨ V.heap.size ≤ b) :
    Raw N (name L V.heap.size hv' (k, 1)) k G al bh bw hv' h' wv w V' ∧ Mv k L V (name L V.heap.size hv' (k, 1)) V' := by
  have hag : ∀ b, b < V.heap.size → name L V.heap.size hv' (k, 1) b = L b := fun b hb => name_old _ _ _ hb
  have neG : some G ≠ hv.ownBlock := fun e => by
    have h1 := r.l1 G e.symm
    rw [r.l0] at h1
    injection h1 with h1
    injection h1 with _ h1
    omega
  have neW : wv.ownBlock = none ∨ wv.ownBlock ≠ hv.ownBlock := by
    cases e : wv.ownBlock with
    | none => exact .inl rfl
    | some b => exact .inr (fun e' => by
        have h1 := r.l2 b e
        rw [r.l1 b e'.symm] at h1
        injection h1 with h1
        injection h1 with _ h1
        omega)
  refine ⟨⟨r.lo, (hag G r.lt).trans r.l0, known_gr r.bx hg neG, T, fun b hb => ?_, r.wt.kept hg neW, fun b hb => (hag b (r.wt.lt b hb).2).trans (r.l2 b hb)⟩, ?_⟩
  · by_cases e : b < V.heap.size
    · rw [hag b e]
      rcases hn b hb with h1 | h1
      · exact r.l1 b h1
      · omega
    · exact if_pos ⟨hb, by omega⟩
  · exact ⟨hg.os, hg.tape, hg.output, hg.size, hag, fun b hb => if_neg (fun e => by have := (T.lt b e.1).2; omega), fun b hb hl => hg.block b hb (fun e => hl 1 (r.l1 b e.symm))⟩
theorem slice_form {W : World} {B : Nat} {α : Type} {sz : Nat} {E : Enc α sz} {e : TypeId} {v : Value} {l : List α} (h : Tab E W B e v l) {n : Nat} (hn : l.length = n) : ∃ A c, v = .slice A n c ∧ n ≤ c ∧ c ≤ maxLen ∧ (0 < n → ∃ g, A = some ⟨g, 0, none⟩ ∧ B ≤ g ∧ g < W.heap.size) := by
  subst hn
  obtain ⟨A, c, rfl, h1, h2⟩ := h.form
  exact ⟨A, c, rfl, h1, h2, fun h0 => by obtain ⟨g, e1, _, e3, e4⟩ := h.head h0; exact ⟨g, e1, e3, e4⟩⟩
end
/-- A lock that holds what s says. -/
def Kp (N : Nat) (L : Lab) (k : Int) (G : Nat) (s : Sk) (V : World) : Prop := ∃ hv wv, Raw N L k G s.1 hv wv hv s.2.1 wv s.2.2 V
def KOut (N : Nat) (L : Lab) (k : Int) (G : Nat) (V : World) (v : Value) (s' : Sk) (e : Ending) (V' : World) : Prop := e = .returned v ∧ ∃ L', Kp N L' k G s' V' ∧ Mv k L V L' V'
section
variable {N : Nat} {L L' : Lab} {k : Int} {G : Nat} {s : Sk} {V V' : World}
theorem Kp.lt (h : Kp N L k G s V) : N ≤ G ∧ G < V.heap.size ∧ L G = some (k, 0) := by obtain ⟨_, _, r⟩ := h; exact ⟨r.lo, r.lt, r.l0⟩
theorem Kp.grown (h : Kp N L k G s V) {q : Option Nat} (hg : V.grownBy V' q) (hq : ∀ b, q = some b → ∀ j, L b ≠ some (k, j)) : Kp N L k G s V' := by obtain ⟨hv, wv, r⟩ := h; exact ⟨hv, wv, r.grown hg hq⟩
theorem Kp.later (h : Kp N L k G s V) (hb : Below V.heap.size V V') : Kp N L k G s V' := by obtain ⟨hv, wv, r⟩ := h; exact ⟨hv, wv, r.later hb⟩
theorem Kp.named (h : Kp N L k G s V) (e : ∀ b, b < V.heap.size → L' b = L b) : Kp N L' k G s V := by obtain ⟨hv, wv, r⟩ := h; exact ⟨hv, wv, r.named e⟩
/-- Another key's lock has moved. -/
theorem Kp.moved {j : Int} (h : Kp N L k G s V) (hj : j ≠ k) (m : Mv j L V L' V') : Kp N L' k G s V' := by
  obtain ⟨hv, wv, r⟩ := h
  have key : ∀ {b : Nat} {i : Nat}, b < V.heap.size → L b = some (k, i) → V'.heap[b]? = V.heap[b]? := fun {b i} hb hl => m.block b hb (fun i' e => by rw [hl] at e; injection e with e; injection e with e _; exact hj e.symm)
  have kt : ∀ {α : Type} {sz : Nat} {E : Enc α sz} {e : TypeId} {v : Value} {l : List α} {i : Nat}, Tab E V N e v l → (∀ b, v.ownBlock = some b → L b = some (k, i)) → Tab E V' N e v l := fun {α sz E e v l i} T hl => by
    have hlt := T.lt
    refine ⟨T.1, ?_⟩
    rcases T.2 with h1 | ⟨g, cap, cur, h1, h2, h3, h4⟩
    · exact .inl h1
    · refine .inr ⟨g, cap, cur, h1, h2, ?_, h4⟩
      have hg : v.ownBlock = some g := by rw [h1]; rfl
      rw [key (hlt g hg).2 (hl g hg)]
      exact h3
  exact ⟨hv, wv, r.lo, (m.agree G r.lt).trans r.l0, (key r.lt r.l0).trans r.bx, kt r.ht r.l1, fun b hb => (m.agree b (r.ht.lt b hb).2).trans (r.l1 b hb), kt r.wt r.l2, fun b hb => (m.agree b (r.wt.lt b hb).2).trans (r.l2 b hb)⟩
end
end Go.Proofs.Ytdkgclgccicbeaa.LkP
