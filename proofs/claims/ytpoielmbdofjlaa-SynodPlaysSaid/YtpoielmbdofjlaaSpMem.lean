/-
  Package synod: the council in memory: its voters, its map of ballots, the ballots.
-/
import Derived.Test.YtpoielmbdofjlaaSpPure
import Derived.Test.YtpoielmbdofjlaaSyMem
import Derived.Test.YtpoielmbdofjlaaGMap
import Derived.Laws.BitsLemmas
import Derived.Lib.Tables
import Derived.BigQuiet
namespace Go.Proofs.Ytpoielmbdofjlaa.Syn
set_option linter.unusedVariables false
set_option linter.unusedSimpArgs false
open Go.RowKit Mem Gt
open Jump (Gave equalZ_c)

abbrev tC : TypeId := 47
abbrev tV : TypeId := 69
abbrev tB : TypeId := 65
/-- A ballot's cells. -/
def balC (p : PS) (b : Nat) : Array Value := #[.int .i64 (p.value b), .int .i64 (p.high b : Nat), .int .u16 (p.pb b : Nat), .int .u16 (p.ab b : Nat), .bool (p.fixed b)]
def ptrV (g : Nat → Nat) (p : PS) (b : Nat) : Value := if p.seen b = true then .pointer (some ⟨g b, 0, none⟩) else .pointer none
/-- Keys: ballots, each once. -/
def KeysOk (ks : List Int) : Prop := ks.Nodup ∧ ∀ x ∈ ks, 1 ≤ x ∧ x ≤ 400
theorem KeysOk.nil : KeysOk [] := ⟨List.nodup_nil, fun x h => by simp at h⟩
theorem KeysOk.add {ks : List Int} (h : KeysOk ks) {b : Nat} (h1 : 1 ≤ b) (h2 : b ≤ 400) : KeysOk (addK ks b) := by
  unfold addK
  split
  · exact h
  · rename_i hn
    refine ⟨List.nodup_append.2 ⟨h.1, by simp, fun a ha c hc e => ?_⟩, fun x hx => ?_⟩
    · simp at hc; subst hc; exact hn (e ▸ ha)
    · rcases List.mem_append.1 hx with hx | hx
      · exact h.2 x hx
      · simp at hx; omega
theorem KeysOk.len {ks : List Int} (h : KeysOk ks) : ks.length ≤ 401 := by
  have h1 : (ks.map Int.toNat).Nodup := by
    refine List.pairwise_map.2 (List.Pairwise.imp_of_mem (fun {x y} hx hy hne => ?_) h.1)
    have := h.2 x hx
    have := h.2 y hy
    omega
  have := nodup_le 401 (ks.map Int.toNat) h1 (fun x hx => by
    obtain ⟨y, hy, rfl⟩ := List.mem_map.1 hx
    have := h.2 y hy
    omega)
  rwa [List.length_map] at this
/-- What lies there: voters in block B, the map in B + 1, the council in B + 2, ballots from B + 4 on (ballot b in block g b). -/
structure Co (B n : Nat) (p : PS) (g : Nat → Nat) (V : World) : Prop where
  size : B + 4 ≤ V.heap.size
  vo : ∀ k, k < n → V.cell? ⟨B, k * 2, none⟩ = some (.int .i64 (p.prom k : Nat)) ∧ V.cell? ⟨B, k * 2 + 1, none⟩ = some (.int .i64 (p.last k : Nat)) ∧ V.frozen? ⟨B, k * 2, none⟩ = false ∧ V.frozen? ⟨B, k * 2 + 1, none⟩ = false
  mp : ∃ ks, KeysOk ks ∧ (∀ b : Nat, p.seen b = true ↔ (b : Int) ∈ ks) ∧ GMap V (B + 1) (.pointer none) (fun x => ptrV g p x.toNat) ks
  c0 : V.cell? ⟨B + 2, 0, none⟩ = some (.slice (some ⟨B, 0, none⟩) n n)
  c1 : V.cell? ⟨B + 2, 1, none⟩ = some (.map (some (B + 1)))
  ba : ∀ b, p.seen b = true → B + 4 ≤ g b ∧ p.pb b < 65536 ∧ p.ab b < 65536 ∧ Known V (g b) tB (balC p b)
  ne : ∀ b c, p.seen b = true → p.seen c = true → b ≠ c → g b ≠ g c
  lo : ∀ k, p.last k ≠ 0 → p.seen (p.last k) = true
/-- Only what is the council's has turned. -/
structure Mv (B : Nat) (p : PS) (g : Nat → Nat) (V V' : World) : Prop where
  os : V'.os = V.os
  tape : V'.tape = V.tape
  output : V'.output = V.output
  size : V.heap.size ≤ V'.heap.size
  block : ∀ k, k < V.heap.size → k ≠ B → k ≠ B + 1 → (∀ b, p.seen b = true → k ≠ g b) → V'.heap[k]? = V.heap[k]?
/-- Not the council's. -/
def Off (B : Nat) (p : PS) (g : Nat → Nat) (P : Nat) : Prop := P ≠ B ∧ P ≠ B + 1 ∧ ∀ b, p.seen b = true → P ≠ g b
section
variable {B n : Nat} {p q : PS} {g h : Nat → Nat} {V V' V2 : World}
theorem cell_kept {a : Addr} {v : Value} {r : Option Nat} (hg : V.grownBy V' r) (h : V.cell? a = some v) (hne : some a.block ≠ r) : V'.cell? a = some v := hg.cell h hne
theorem cell_at {a : Addr} {v : Value} (h : V.cell? a = some v) (e : V'.heap[a.block]? = V.heap[a.block]?) : V'.cell? a = some v := (World.cell?_of_block e).trans h
theorem known_gr {V V' : World} {g : Nat} {t : TypeId} {cs : Array Value} {r : Option Nat} (h : Known V g t cs) (hg : V.grownBy V' r) (hr : some g ≠ r) : Known V' g t cs := (hg.block g h.lt hr).trans h
theorem gr_set (V : World) (g k : Nat) (v : Value) : V.grownBy (V.setCell ⟨g, k, none⟩ v) (some g) :=
  ⟨rfl, rfl, rfl, by simp [World.setCell], fun b hb hr => Below.heap_setCell V ⟨g, k, none⟩ v b (fun e => hr (congrArg some e))⟩
theorem Co.keep (h : Co B n p g V) {r : Option Nat} (hg : V.grownBy V' r) : B + 4 ≤ V'.heap.size ∧
    (r ≠ some B → ∀ k, k < n → V'.cell? ⟨B, k * 2, none⟩ = some (.int .i64 (p.prom k : Nat)) ∧ V'.cell? ⟨B, k * 2 + 1, none⟩ = some (.int .i64 (p.last k : Nat)) ∧ V'.frozen? ⟨B, k * 2, none⟩ = false ∧ V'.frozen? ⟨B, k * 2 + 1, none⟩ = false) ∧
    (r ≠ some (B + 1) → ∃ ks, KeysOk ks ∧ (∀ b : Nat, p.seen b = true ↔ (b : Int) ∈ ks) ∧ GMap V' (B + 1) (.pointer none) (fun x => ptrV g p x.toNat) ks) ∧
    (r ≠ some (B + 2) → V'.cell? ⟨B + 2, 0, none⟩ = some (.slice (some ⟨B, 0, none⟩) n n) ∧ V'.cell? ⟨B + 2, 1, none⟩ = some (.map (some (B + 1)))) ∧
    (∀ b, p.seen b = true → r ≠ some (g b) → Known V' (g b) tB (balC p b)) := by
  have hs := h.size
  refine ⟨Nat.le_trans hs hg.size, fun hr k hk => ?_, fun hr => ?_, fun hr => ⟨cell_kept hg h.c0 (fun e => hr e.symm), cell_kept hg h.c1 (fun e => hr e.symm)⟩, fun b hb hr => known_gr (h.ba b hb).2.2.2 hg (fun e => hr e.symm)⟩
  · have e := hg.block B (by omega) (fun e => hr e.symm)
    obtain ⟨y0, y1, y2, y3⟩ := h.vo k hk
    exact ⟨(World.cell?_of_block (a := ⟨B, k * 2, none⟩) e).trans y0, (World.cell?_of_block (a := ⟨B, k * 2 + 1, none⟩) e).trans y1, (World.frozen?_of_block (a := ⟨B, k * 2, none⟩) e).trans y2, (World.frozen?_of_block (a := ⟨B, k * 2 + 1, none⟩) e).trans y3⟩
  · obtain ⟨ks, h1, h2, h3⟩ := h.mp
    exact ⟨ks, h1, h2, h3.kept hg (fun e => hr e.symm)⟩
theorem Co.grown (h : Co B n p g V) {r : Option Nat} (hg : V.grownBy V' r) (h1 : r ≠ some B) (h2 : r ≠ some (B + 1)) (h3 : r ≠ some (B + 2)) (h4 : ∀ b, p.seen b = true → r ≠ some (g b)) : Co B n p g V' := by
  obtain ⟨q0, q1, q2, q3, q4⟩ := h.keep hg
  exact ⟨q0, q1 h1, q2 h2, (q3 h3).1, (q3 h3).2, fun b hb => ⟨(h.ba b hb).1, (h.ba b hb).2.1, (h.ba b hb).2.2.1, q4 b hb (h4 b hb)⟩, h.ne, h.lo⟩
theorem Co.later (h : Co B n p g V) (hb : Below V.heap.size V V') : Co B n p g V' :=
  h.grown (r := none) ⟨hb.os, hb.tape, hb.output, hb.size, fun k hk _ => hb.block k hk⟩ (by simp) (by simp) (by simp) (fun _ _ => by simp)
theorem Co.drewN (h : Co B n p g V) (j : Nat) : Co B n p g (V.drewN j) := h.later (Mem.below_drewN (Below.refl _ _) j)
theorem Co.drew (h : Co B n p g V) : Co B n p g V.drew := h.later (Mem.below_drew (Below.refl _ _))
theorem Co.key (h : Co B n p g V) {b : Nat} (hb : p.seen b = true) : 1 ≤ b ∧ b ≤ 400 := by
  obtain ⟨ks, h1, h2, _⟩ := h.mp
  have := h1.2 _ ((h2 b).1 hb)
  omega
/-- A box that is not the council's is written to. -/
theorem Co.put (h : Co B n p g V) {P j : Nat} {v : Value} (hP : Off B p g P) (h3 : P ≠ B + 2) : Co B n p g (V.setCell ⟨P, j, none⟩ v) :=
  h.grown (gr_set V P j v) (fun e => hP.1 (by injection e)) (fun e => hP.2.1 (by injection e)) (fun e => h3 (by injection e)) (fun b hb e => hP.2.2 b hb (by injection e))
theorem Co.prom1 (h : Co B n p g V) {k b : Nat} (hk : k < n) : Co B n { p with prom := upd p.prom k b } g (V.setCell ⟨B, k * 2, none⟩ (.int .i64 (b : Nat))) := by
  obtain ⟨q0, q1, q2, q3, q4⟩ := h.keep (gr_set V B (k * 2) (.int .i64 (b : Nat)))
  refine ⟨q0, fun j hj => ?_, q2 (by simp), (q3 (by simp)).1, (q3 (by simp)).2, fun c hc => ⟨(h.ba c hc).1, (h.ba c hc).2.1, (h.ba c hc).2.2.1, q4 c hc (fun e => by injection e with e; have := (h.ba c hc).1; omega)⟩, h.ne, h.lo⟩
  obtain ⟨y0, y1, y2, y3⟩ := h.vo j hj
  refine ⟨?_, ?_, by rw [World.frozen?_setCell]; exact y2, by rw [World.frozen?_setCell]; exact y3⟩
  · show _ = some (Value.int .i64 ((upd p.prom k b j : Nat) : Int))
    by_cases e : j = k
    · subst e
      rw [upd_same]
      exact World.cell?_setCell_same _ _ _ y0
    · rw [upd_other _ _ e, World.cell?_setCell_other _ _ _ _ (fun e' => e (by injection e' with _ e'; omega))]
      exact y0
  · rw [World.cell?_setCell_other _ _ _ _ (fun e' => by injection e' with _ e'; omega)]
    exact y1
theorem Co.last1 (h : Co B n p g V) {k b : Nat} (hk : k < n) (hb : p.seen b = true) : Co B n { p with last := upd p.last k b } g (V.setCell ⟨B, k * 2 + 1, none⟩ (.int .i64 (b : Nat))) := by
  obtain ⟨q0, q1, q2, q3, q4⟩ := h.keep (gr_set V B (k * 2 + 1) (.int .i64 (b : Nat)))
  refine ⟨q0, fun j hj => ?_, q2 (by simp), (q3 (by simp)).1, (q3 (by simp)).2, fun c hc => ⟨(h.ba c hc).1, (h.ba c hc).2.1, (h.ba c hc).2.2.1, q4 c hc (fun e => by injection e with e; have := (h.ba c hc).1; omega)⟩, h.ne, fun j hj => ?_⟩
  · obtain ⟨y0, y1, y2, y3⟩ := h.vo j hj
    refine ⟨?_, ?_, by rw [World.frozen?_setCell]; exact y2, by rw [World.frozen?_setCell]; exact y3⟩
    · rw [World.cell?_setCell_other _ _ _ _ (fun e' => by injection e' with _ e'; omega)]
      exact y0
    · show _ = some (Value.int .i64 ((upd p.last k b j : Nat) : Int))
      by_cases e : j = k
      · subst e
        rw [upd_same]
        exact World.cell?_setCell_same _ _ _ y1
      · rw [upd_other _ _ e, World.cell?_setCell_other _ _ _ _ (fun e' => e (by injection e' with _ e'; omega))]
        exact y1
  · show p.seen (upd p.last k b j) = true
    have hj : upd p.last k b j ≠ 0 := hj
    by_cases e : j = k
    · subst e; rw [upd_same]; exact hb
    · rw [upd_other _ _ e] at hj ⊢; exact h.lo j hj
/-- A ballot's cell is written to. -/
theorem Co.bal (h : Co B n p g V) {b j : Nat} {v : Value} (hb : p.seen b = true) (q : PS) (e1 : q.prom = p.prom) (e2 : q.last = p.last) (e3 : q.seen = p.seen) (e4 : ∀ c, c ≠ b → balC q c = balC p c ∧ q.pb c = p.pb c ∧ q.ab c = p.ab c)
    (e5 : (balC p b).setIfInBounds j v = balC q b) (e6 : q.pb b < 65536) (e7 : q.ab b < 65536) : Co B n q g (V.setCell ⟨g b, j, none⟩ v) := by
  obtain ⟨q0, q1, q2, q3, q4⟩ := h.keep (gr_set V (g b) j v)
  have hgb := (h.ba b hb).1
  refine ⟨q0, ?_, ?_, (q3 (fun e => by injection e with e; omega)).1, (q3 (fun e => by injection e with e; omega)).2, fun c hc => ?_, ?_, ?_⟩
  · rw [e1, e2]; exact q1 (fun e => by injection e with e; omega)
  · obtain ⟨ks, h1, h2, h3⟩ := q2 (fun e => by injection e with e; omega)
    refine ⟨ks, h1, ?_, h3.congr (fun x => ?_)⟩
    · rw [e3]; exact h2
    · unfold ptrV; rw [e3]
  · rw [e3] at hc
    by_cases e : c = b
    · subst e
      refine ⟨hgb, e6, e7, ?_⟩
      rw [← e5]
      exact (h.ba c hb).2.2.2.put j v
    · obtain ⟨f1, f2, f3⟩ := e4 c e
      rw [f1, f2, f3]
      exact ⟨(h.ba c hc).1, (h.ba c hc).2.1, (h.ba c hc).2.2.1, q4 c hc (fun e' => by injection e' with e'; exact h.ne b c hb hc (fun e'' => e e''.symm) e')⟩
  · rw [e3]; exact h.ne
  · rw [e2, e3]; exact h.lo
/-! ### What the walks read -/
theorem Co.look (h : Co B n p g V) {b : Nat} (hb : b ≤ 400) : (Instr.lookup 45 (.map (some (B + 1))) (.int .i64 (b : Int)) false).run Try.prog V = .ok (ptrV g p b) V := by
  obtain ⟨ks, _, _, hm⟩ := h.mp
  have := hm.look Try.underlying45 (by rfl) b (wf_of (by unfold Fit; omega))
  simpa using this
theorem ptr_seen {b : Nat} (hb : p.seen b = true) : ptrV g p b = .pointer (some ⟨g b, 0, none⟩) := if_pos hb
theorem ptr_none {b : Nat} (hb : p.seen b = false) : ptrV g p b = .pointer none := if_neg (by simp [hb])
/-! ### Moves -/
theorem Mv.refl (B : Nat) (p : PS) (g : Nat → Nat) (V : World) : Mv B p g V V := ⟨rfl, rfl, rfl, Nat.le_refl _, fun _ _ _ _ _ => rfl⟩
theorem Mv.below {W : World} (h : Mv B p g V V') (hc : Co B n p g V) (hb : Below W.heap.size W V) (hB : W.heap.size ≤ B) : Below W.heap.size W V' := by
  have hs := hb.size
  refine ⟨h.os.trans hb.os, h.tape.trans hb.tape, h.output.trans hb.output, Nat.le_trans hs h.size, fun k hk => ?_⟩
  rw [h.block k (by omega) (by omega) (by omega) (fun b hb' e => by have := (hc.ba b hb').1; omega)]
  exact hb.block k hk
theorem Mv.known (h : Mv B p g V V') {P : Nat} {t : TypeId} {cs : Array Value} (k : Known V P t cs) (hP : Off B p g P) : Known V' P t cs := (h.block P k.lt hP.1 hP.2.1 hP.2.2).trans k
theorem Mv.later (h : Mv B p g V V') (hb : Below V'.heap.size V' V2) : Mv B p g V V2 :=
  ⟨hb.os.trans h.os, hb.tape.trans h.tape, hb.output.trans h.output, Nat.le_trans h.size hb.size, fun k hk h1 h2 h3 => by rw [hb.block k (Nat.lt_of_lt_of_le hk h.size)]; exact h.block k hk h1 h2 h3⟩
theorem Mv.drewN (h : Mv B p g V V') (j : Nat) : Mv B p g V (V'.drewN j) := h.later (Mem.below_drewN (Below.refl _ _) j)
/-- The same ballots, or new ones beyond what was there. -/
theorem Mv.trans {p' : PS} {g' : Nat → Nat} (h : Mv B p g V V') (h2 : Mv B p' g' V' V2) (hn : ∀ b, p'.seen b = true → p.seen b = true ∧ g' b = g b ∨ V.heap.size ≤ g' b) : Mv B p g V V2 :=
  ⟨h2.os.trans h.os, h2.tape.trans h.tape, h2.output.trans h.output, Nat.le_trans h.size h2.size, fun k hk h1 h3 h4 => by
    rw [h2.block k (Nat.lt_of_lt_of_le hk h.size) h1 h3 (fun b hb e => by
      rcases hn b hb with ⟨hs, he⟩ | hl
      · exact h4 b hs (e.trans he)
      · omega)]
    exact h.block k hk h1 h3 h4⟩
/-- One block has turned: the council's, or one that has come since. -/
theorem Mv.grown (h : Mv B p g V V') {r : Nat} (hg : V'.grownBy V2 (some r)) (hr : r = B ∨ r = B + 1 ∨ (∃ b, p.seen b = true ∧ r = g b) ∨ V.heap.size ≤ r) : Mv B p g V V2 :=
  ⟨hg.os.trans h.os, hg.tape.trans h.tape, hg.output.trans h.output, Nat.le_trans h.size hg.size, fun k hk h1 h3 h4 => by
    rw [hg.block k (Nat.lt_of_lt_of_le hk h.size) (fun e => by
      injection e with e
      subst e
      rcases hr with hr | hr | ⟨b, hb, hr⟩ | hr
      · exact h1 hr
      · exact h3 hr
      · exact h4 b hb hr
      · omega)]
    exact h.block k hk h1 h3 h4⟩
theorem off_new (h : Co B n p g V) {P : Nat} (hP : V.heap.size ≤ P) : Off B p g P := by
  have := h.size
  exact ⟨by omega, by omega, fun b hb e => by have := (h.ba b hb).2.2.2.lt; omega⟩
end
end Go.Proofs.Ytpoielmbdofjlaa.Syn
