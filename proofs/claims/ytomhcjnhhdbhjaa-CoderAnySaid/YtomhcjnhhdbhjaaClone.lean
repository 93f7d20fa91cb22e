/-
  bytes.Clone: a slice of the call's own that may be written to; and tables of pieces, made by append.
-/
import Derived.Test.YtomhcjnhhdbhjaaCoderSpec
import Derived.Test.YtomhcjnhhdbhjaaMine
namespace Go.Proofs.Ytomhcjnhhdbhjaa.Cdr
set_option linter.unusedVariables false
open Go.RowKit Gf Mem Poly

theorem _root_.Go.Proofs.Ytomhcjnhhdbhjaa.Mem.Mine.rowOff {V : World} {B : Nat} {A : Option Addr} {c : Nat} {r : List UInt8} {own : Option Nat} (h : Mine V B A r) (ho : ∀ g, own = some g → g < B) (hc : r.length ≤ c) (hl : r.length ≤ 9223372036854775807) : RowOff V own (.slice A r.length c) r := by
  refine ⟨A, c, rfl, hc, hl, h.reads, fun hne a ha => ⟨fun e => ?_, reads_lt h.reads hne a ha⟩⟩
  rcases h with h | ⟨g, cs, h1, h2, _⟩
  · exact hne h
  · rw [ha] at h1; injection h1 with h1; subst h1
    have := ho g e.symm
    omega
theorem modify_set {r : List UInt8} {i : Nat} {x : UInt8} (f : UInt8 → UInt8) (h : r[i]? = some x) : r.set i (f x) = r.modify i f := by
  apply List.ext_getElem?
  intro j
  rw [List.getElem?_set, List.getElem?_modify]
  by_cases e : i = j
  · subst e
    rw [if_pos rfl, if_pos (List.getElem?_eq_some_iff.1 h).1, h]; simp
  · rw [if_neg e]; cases r[j]? <;> simp [e]
theorem infoPc : (Try.prog.info? 35).map (fun i => (i.zero.map (fun z => z.cells.size), i.size, i.bytes)) = some (some 2, 2, 32) := by kernel_rfl
/-- v is a slice of the call's own (block B or later) of the pieces ps; their rows lie elsewhere. -/
def PTable (W : World) (B : Nat) (v : Value) (ps : List Pc) : Prop :=
  ∃ xs, W.ownsRow B 35 2 v ps.length xs ∧ ∀ (k : Nat) (p : Pc), ps[k]? = some p → xs[k * 2]? = some (.int .i64 p.1) ∧ ∃ u, xs[k * 2 + 1]? = some u ∧ RowOff W v.ownBlock u p.2
section
variable {W V : World} {B : Nat} {v : Value} {ps : List Pc}
theorem PTable.nil (W : World) (B : Nat) : PTable W B (.slice none 0 0) [] := ⟨[], World.ownsRow_nil W B _ 2, fun k p h => by simp at h⟩
theorem PTable.form (h : PTable W B v ps) : ∃ A cap, v = .slice A ps.length cap ∧ ps.length ≤ cap ∧ cap ≤ maxLen := by
  obtain ⟨xs, ⟨_, h2⟩, _⟩ := h
  rcases h2 with ⟨rfl, hn⟩ | ⟨g, cap, cur, rfl, _, _, h1, h2, _⟩
  · exact ⟨none, 0, by rw [hn], by omega, by simp [maxLen]⟩
  · exact ⟨_, cap, rfl, h1, h2⟩
theorem PTable.lt (h : PTable W B v ps) : ∀ k, v.ownBlock = some k → B ≤ k ∧ k < W.heap.size := by
  obtain ⟨xs, h1, _⟩ := h; exact World.ownsRow.lt h1
theorem PTable.later (h : PTable W B v ps) (hb : Below W.heap.size W V) : PTable V B v ps := by
  obtain ⟨xs, h1, h2⟩ := h
  refine ⟨xs, World.ownsRow.kept (row := none) h1 ⟨hb.os, hb.tape, hb.output, hb.size, fun k hk _ => hb.block k hk⟩ (by cases hv : v.ownBlock <;> simp), fun k p hp => ?_⟩
  obtain ⟨a1, u, a2, a3⟩ := h2 k p hp
  exact ⟨a1, u, a2, a3.later hb⟩
theorem PTable.pcs {A : Option Addr} {n cap : Nat} (h : PTable W B (.slice A n cap) ps) : Pcs W A ps := by
  obtain ⟨xs, ⟨hx, h2⟩, h3⟩ := h
  intro k p hp
  obtain ⟨a1, u, a2, a3⟩ := h3 k p hp
  have hk := (List.getElem?_eq_some_iff.1 hp).1
  rcases h2 with ⟨e, hn⟩ | ⟨g, cap', cur, e, _, hh, hn, hc, hsz, ht⟩
  · omega
  · injection e with e1 _ _
    subst e1
    have kn : Known W g 35 cur := hh
    have hat : ∀ (j : Nat) (w : Value), xs[j]? = some w → W.cell? ⟨g, 0 + j, none⟩ = some w := fun j w hj => by
      rw [Nat.zero_add]
      refine (kn.cell j).trans ?_
      have hjl := (List.getElem?_eq_some_iff.1 hj).1
      rw [← ht, List.getElem?_take] at hj
      split at hj
      · simpa using hj
      · cases hj
    exact ⟨g, 0, u, rfl, kn.lt, hat _ _ a1, by rw [Nat.add_assoc]; exact hat _ _ a2, a3.isRow⟩
end
/-- 'append(v, api.Piece{..})'. -/
theorem wpList_append_pc {ops : Array Oper} {rest : List Oper} {o : Oper} {a : Act} {Q : Exit → Act → World → Prop} (hgd : o.guard = none) (s x : Operand)
    (ho : o.op = .call { callee := .builtin .append, args := #[s, x], argTypes := #[29, 29] }) {w : World} {at_ : Int} {u : Value} {r : List UInt8} {B : Nat} {v : Value} {ps : List Pc} (hs : a.eval s = v)
    (hx : a.eval x = .slice (some ⟨w.heap.size, 0, none⟩) 1 1) (hg : PTable w B v ps) (hu : RowOff w v.ownBlock u r) (hl2 : (ps.length + 1) * 32 ≤ 140737488355328) (hB : B ≤ w.heap.size) {B0 : Nat} {w0 : World} (hb : Below B0 w0 w) (hB0 : B0 ≤ B)
    (h : ∀ v' w', Hid (PTable w' B v' (ps ++ [(at_, r)])) → Below B0 w0 w' → wpList Try.prog ops Q rest (a.put o.dst v') w') :
    wpList Try.prog ops Q (o :: rest) a (w.alloc (.cells #[.int .i64 at_, u] 35)) := by
  obtain ⟨i, hi, z, hz0, hz1, hz2, hz3⟩ : ∃ i, Try.prog.info? 35 = some i ∧ ∃ z, i.zero = some z ∧ i.size = 2 ∧ i.bytes = 32 ∧ z.cells.size = 2 := by
    have h0 := infoPc
    cases hi : Try.prog.info? 35 with
    | none => rw [hi] at h0; cases h0
    | some i =>
      rw [hi] at h0
      simp only [Option.map_some, Option.some.injEq, Prod.mk.injEq] at h0
      cases hz : i.zero with
      | none => rw [hz] at h0; cases h0.1
      | some z =>
        rw [hz] at h0
        simp only [Option.map_some, Option.some.injEq] at h0
        exact ⟨i, rfl, z, hz, h0.2.1, h0.2.2, h0.1⟩
  obtain ⟨xs, h1, h3⟩ := hg
  have hu1 : u.oneCell' = true := by obtain ⟨C, c, rfl, _⟩ := hu; rfl
  have hxl : xs.length = ps.length * 2 := h1.1
  refine wpList_append_own_at (w := w.alloc (.cells #[.int .i64 at_, u] 35)) hgd s x 29 ho B 35 i z 2 32 Try.underlying29 hi hz0 hz1 hz2 hz3 (by decide) v ps.length xs hs (World.ownsRow.alloc h1 _) ⟨w.heap.size, 0, none⟩ 1 1 [.int .i64 at_, u] hx rfl ?_ ?_ (by unfold maxLen; omega) hl2 (by simp; omega) ?_
  · intro j u' hj
    have kn := Known.made w 35 #[.int .i64 at_, u]
    rcases j with _ | _ | j
    · simp at hj; subst hj
      rw [show (⟨w.heap.size, 0, none⟩ : Addr).add 0 = ⟨w.heap.size, 0, none⟩ from rfl, kn.cell 0]; rfl
    · simp at hj; subst hj
      rw [show (⟨w.heap.size, 0, none⟩ : Addr).add 1 = ⟨w.heap.size, 1, none⟩ from rfl, kn.cell 1]; rfl
    · simp at hj
  · intro u' hu'
    simp at hu'
    rcases hu' with rfl | rfl
    · rfl
    · exact hu1
  · intro v' w' k1 g2 _ g3
    have g3 : v'.ownBlock = v.ownBlock ∨ v'.ownBlock = some (w.heap.size + 1) := by simpa using g3
    have hbel : Below B0 w0 w' := (hb.alloc (Nat.le_trans hB0 hB) _).grown g2 (by simp; omega) fun k hk => Nat.le_trans hB0 (World.ownsRow.lt h1 k hk).1
    refine h v' w' ⟨xs ++ [.int .i64 at_, u], by rw [List.length_append]; exact k1, fun k p hp => ?_⟩ hbel
    have keep : ∀ (u : Value) (r : List UInt8), RowOff w v.ownBlock u r → RowOff w' v'.ownBlock u r := by
      rintro u r ⟨C, c, k1, k2, k3, k4, k5⟩
      have hlt : w.heap.size < w'.heap.size := by have := g2.size; simp at this; omega
      by_cases hr : r = []
      · subst hr
        exact ⟨C, c, k1, k2, k3, Reads.nil, fun hne => absurd rfl hne⟩
      · refine ⟨C, c, k1, k2, k3, (k4.alloc _).grown g2 (fun a ha => (k5 hr a ha).1), fun _ a ha => ⟨?_, Nat.lt_trans (k5 hr a ha).2 hlt⟩⟩
        rcases g3 with g3 | g3
        · rw [g3]; exact (k5 hr a ha).1
        · rw [g3]; intro e; injection e with e; have := (k5 hr a ha).2; omega
    by_cases hk : k < ps.length
    · rw [List.getElem?_append_left hk] at hp
      obtain ⟨a1, u', a2, a3⟩ := h3 k p hp
      exact ⟨by rw [List.getElem?_append_left (by omega)]; exact a1, u', by rw [List.getElem?_append_left (by omega)]; exact a2, keep _ _ a3⟩
    · rw [List.getElem?_append_right (by omega)] at hp
      have h0 : k - ps.length = 0 := by
        rcases Nat.eq_zero_or_pos (k - ps.length) with h4 | h4
        · exact h4
        · rw [List.getElem?_eq_none (by simp; omega)] at hp; cases hp
      rw [h0] at hp
      simp at hp
      subst hp
      have hk2 : k = ps.length := by omega
      subst hk2
      exact ⟨by rw [List.getElem?_append_right (by omega), hxl]; simp, u, by rw [List.getElem?_append_right (by omega), hxl, show ps.length * 2 + 1 - ps.length * 2 = 1 by omega]; rfl, keep _ _ hu⟩
end Go.Proofs.Ytomhcjnhhdbhjaa.Cdr
