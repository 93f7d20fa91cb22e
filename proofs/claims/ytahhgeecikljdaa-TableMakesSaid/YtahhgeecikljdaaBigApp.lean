/-
  'append([]uint32{}, l...)': a new row that begins with the digits of l, whatever slice l is.
-/
import Derived.Test.YtahhgeecikljdaaBigShr
import Derived.Deep.AppendLies
import Derived.Maps.AppendAt
namespace Go.Proofs.Ytahhgeecikljdaa.Big
set_option linter.unusedVariables false
open Go.RowKit

/-- Block g is a row of digits that begins with l. -/
def Row (w : World) (g : Nat) (l : List UInt32) : Prop := ∃ cur : Array Value, Blk w g 71 cur ∧ ∀ (j : Nat) (u : UInt32), l[j]? = some u → cur[j]? = some (.int .u32 u.toNat)
section
variable {w w' : World} {g : Nat} {l : List UInt32}
theorem Row.dig (h : Row w g l) : Dig w (some ⟨g, 0, none⟩) l := by obtain ⟨cur, h1, h2⟩ := h; exact .inr ⟨g, cur, rfl, h1, h2⟩
theorem Row.at_ (h : Row w g l) {k : Nat} {u : UInt32} (hk : l[k]? = some u) : w.cell? ⟨g, k, none⟩ = some (.int .u32 u.toNat) := by
  obtain ⟨cur, h1, h2⟩ := h; rw [Blk.cell h1, h2 k u hk]
theorem Row.frozen (h : Row w g l) (k : Nat) : w.frozen? ⟨g, k, none⟩ = false := by obtain ⟨cur, h1, _⟩ := h; exact Blk.frozen h1 k
theorem Row.lt (h : Row w g l) : g < w.heap.size := by obtain ⟨cur, h1, _⟩ := h; exact Blk.lt h1
theorem Row.put_ (h : Row w g l) (k : Nat) (u : UInt32) (hk : k < l.length) : Row (w.setCell ⟨g, k, none⟩ (.int .u32 u.toNat)) g (l.set k u) := by
  obtain ⟨cur, h1, h2⟩ := h
  refine ⟨_, h1.set_ k _, fun j v hj => ?_⟩
  have hl : l[k]? = some l[k] := List.getElem?_eq_getElem hk
  have hck := h2 k _ hl
  by_cases e : j = k
  · subst e
    rw [List.getElem?_set_self hk] at hj
    injection hj with hj; subst hj
    have : j < cur.size := by
      rcases Nat.lt_or_ge j cur.size with h | h
      · exact h
      · rw [Array.getElem?_eq_none h] at hck; cases hck
    simp [this]
  · rw [List.getElem?_set_ne (Ne.symm e)] at hj
    rw [Array.getElem?_setIfInBounds_ne (Ne.symm e)]
    exact h2 j v hj
theorem Row.keep (h : Row w g l) (hk : ∀ cs, Blk w g 71 cs → Blk w' g 71 cs) : Row w' g l := by obtain ⟨cur, h1, h2⟩ := h; exact ⟨cur, hk _ h1, h2⟩
end
theorem Blk.row {w : World} {g : Nat} {l : List UInt32} (h : Blk w g 71 (rowOf l)) : Row w g l := ⟨_, h, fun j u hj => rowOf_at hj⟩

def Appended (w : World) (G : Nat) (l : List UInt32) (v : Value) (w' : World) : Prop :=
  ∃ g cap : Nat, v = .slice (some ⟨g, 0, none⟩) l.length cap ∧ l.length ≤ cap ∧ cap ≤ maxLen ∧ Row w' g l ∧ w.grownBy w' (some G) ∧ G ≤ g

theorem run_append_digs (w : World) (G c : Nat) (A : Option Addr) (l : List UInt32) (ty : TypeId) (hG : Blk w G 71 #[]) (hd : Dig w A l) (hl : l.length ≤ 35184372088832) :
    ∃ v w', (Builtin.append_ #[60, 60] ty #[.slice (some ⟨G, 0, none⟩) 0 0, .slice A l.length c]).run Try.prog w = .ok v w' ∧ Appended w G l v w' := by
  obtain ⟨i, hi, hz0, hz1, hz2⟩ := info_parts info32
  rcases hd with h0 | ⟨g, cs, rfl, hb, hcs⟩
  · subst h0
    refine ⟨.slice (some ⟨G, 0, none⟩) 0 0, w, ?_, G, 0, rfl, by simp, by simp [maxLen], ⟨_, hG, fun j u h => by simp at h⟩, only_refl _ _, Nat.le_refl _⟩
    cases A <;> simp [Builtin.append_, run_underlying Try.underlying60, sizeOf, typeInfo, hi, Builtin.lenOf, Builtin.firstCells, storeCells, loadCells, loadCellsFrom]
  · rcases Nat.eq_zero_or_pos l.length with hm | hm
    · have h0 : l = [] := List.eq_nil_of_length_eq_zero hm
      subst h0
      refine ⟨.slice (some ⟨G, 0, none⟩) 0 0, w, ?_, G, 0, rfl, by simp, by simp [maxLen], ⟨_, hG, fun j u h => by simp at h⟩, only_refl _ _, Nat.le_refl _⟩
      simp [Builtin.append_, run_underlying Try.underlying60, sizeOf, typeInfo, hi, Builtin.lenOf, Builtin.firstCells, storeCells, loadCells, loadCellsFrom]
    · have hown : w.ownsRow G 71 1 (.slice (some ⟨G, 0, none⟩) 0 0) 0 [] := ⟨by simp, .inr ⟨G, 0, #[], rfl, Nat.le_refl _, hG, by simp, by simp [maxLen], by simp, by simp⟩⟩
      obtain ⟨g', cap, w', hrun, h2, h3, h4, h5⟩ := run_append_lies (P := Try.prog) w 60 ty G 71 i (.int .u32 0) 1 4 Try.underlying60 hi hz0 hz1 hz2 rfl (by omega) _ 0 [] hown ⟨g, 0, none⟩ l.length c (l.map dig) (by simp)
        (by
          intro j u hj
          rw [List.getElem?_map] at hj
          obtain ⟨x, hx, rfl⟩ := Option.map_eq_some_iff.1 hj
          have hadd : (⟨g, 0, none⟩ : Addr).add j = ⟨g, j, none⟩ := by unfold Addr.add; split <;> simp_all
          rw [hadd, Blk.cell hb, hcs j x hx]; rfl)
        (by intro u hu; obtain ⟨x, _, rfl⟩ := List.mem_map.1 hu; rfl) hm (by simp [maxLen]; omega) (by omega) (Nat.le_of_lt hG.lt) w.heap.size rfl
      refine ⟨_, w', hrun, g', cap, by rw [Nat.zero_add], ?_, ?_, ?_, h3, ?_⟩
      · rcases h2.2 with ⟨hv, _⟩ | ⟨_, _, _, hv, _, _, hle, _, _⟩
        · cases hv
        · injection hv with _ _ hc; omega
      · rcases h2.2 with ⟨hv, _⟩ | ⟨_, _, _, hv, _, _, _, hle, _⟩
        · cases hv
        · injection hv with _ _ hc; omega
      · rcases h2.2 with ⟨hv, _⟩ | ⟨g2, cap2, cur, hv, _, hh, _, _, _, ht⟩
        · cases hv
        · injection hv with hg2 _ hc
          injection hg2 with hg2; injection hg2 with hg2 _
          subst hg2
          refine ⟨cur, hh, fun j u hj => ?_⟩
          have hlt : j < l.length := (List.getElem?_eq_some_iff.1 hj).1
          have := congrArg (fun L => L[j]?) ht
          simp only [List.nil_append, List.getElem?_map, hj] at this
          rw [List.getElem?_take, if_pos (by omega)] at this
          simpa [dig] using this
      · rcases h4 with h4 | h4
        · have : G = g' := by simpa [Value.ownBlock] using h4
          omega
        · have := hG.lt; omega

section
variable {P : Program}
theorem wp_append_digs {o : Oper} {a : Act} {K : Act → World → Prop} {Q : Exit → Act → World → Prop} (w : World) (s x : Operand)
    (ho : o.op = .call { callee := .builtin .append, args := #[s, x], argTypes := #[60, 60] })
    (G c : Nat) (A : Option Addr) (l : List UInt32) (hs : a.eval s = .slice (some ⟨G, 0, none⟩) 0 0) (hx : a.eval x = .slice A l.length c) (hG : Blk w G 71 #[]) (hd : Dig w A l) (hl : l.length ≤ 35184372088832)
    (h : ∀ (g cap : Nat) (w' : World), l.length ≤ cap → Row w' g l → w.grownBy w' (some G) → G ≤ g → K (a.put o.dst (.slice (some ⟨g, 0, none⟩) l.length cap)) w') : o.wp Try.prog a w K Q := by
  obtain ⟨v', w', hrun, h2⟩ := run_append_digs w G c A l o.type hG hd hl
  unfold Oper.wp execOp
  simp only [ho, resolve, invoke, builtin, Sem.run_bind, Sem.run_pure, Result.andThen_ok, List.map_toArray, List.map_cons, List.map_nil, hs, hx, hrun]
  obtain ⟨g, cap, rfl, k1, _, k3, k4, k5⟩ := h2
  exact h g cap w' k1 k3 k4 k5
theorem wpList_append_digs {ops : Array Oper} {rest : List Oper} {o : Oper} {a : Act} {Q : Exit → Act → World → Prop} (w : World) (hgd : o.guard = none) (s x : Operand)
    (ho : o.op = .call { callee := .builtin .append, args := #[s, x], argTypes := #[60, 60] })
    (G c : Nat) (A : Option Addr) (l : List UInt32) (hs : a.eval s = .slice (some ⟨G, 0, none⟩) 0 0) (hx : a.eval x = .slice A l.length c) (hG : Blk w G 71 #[]) (hd : Dig w A l) (hl : l.length ≤ 35184372088832)
    (h : ∀ (g cap : Nat) (w' : World), l.length ≤ cap → Row w' g l → w.grownBy w' (some G) → G ≤ g → wpList Try.prog ops Q rest (a.put o.dst (.slice (some ⟨g, 0, none⟩) l.length cap)) w') : wpList Try.prog ops Q (o :: rest) a w :=
  wpList_plain hgd fun _ hK => wp_append_digs w s x ho G c A l hs hx hG hd hl fun g cap w' k1 k3 k4 k5 => hK _ _ (h g cap w' k1 k3 k4 k5)
theorem step_append_digs {ops : Array Oper} {o : Oper} {a : Act} {K : Act → World → Prop} {Q : Exit → Act → World → Prop} {E : Prop} (w : World) (hgd : o.guard = none) (s x : Operand)
    (ho : o.op = .call { callee := .builtin .append, args := #[s, x], argTypes := #[60, 60] })
    (G c : Nat) (A : Option Addr) (l : List UInt32) (hs : a.eval s = .slice (some ⟨G, 0, none⟩) 0 0) (hx : a.eval x = .slice A l.length c) (hG : Blk w G 71 #[]) (hd : Dig w A l) (hl : l.length ≤ 35184372088832)
    (h : ∀ (g cap : Nat) (w' : World), l.length ≤ cap → Row w' g l → w.grownBy w' (some G) → G ≤ g → K (a.put o.dst (.slice (some ⟨g, 0, none⟩) l.length cap)) w') : if Region.wanted o (yielded ops a.tmps) = true then Oper.wp Try.prog o a w K Q else E := by
  have hw : Region.wanted o (yielded ops a.tmps) = true := by simp [Region.wanted, hgd]
  rw [if_pos hw]
  exact wp_append_digs w s x ho G c A l hs hx hG hd hl h
end
end Go.Proofs.Ytahhgeecikljdaa.Big
