/-
  A copy of a table of rows that may be written to: its cells as a list.
-/
import Derived.Test.YtpjopdemhdeelaaPairRefN
import Derived.Test.YtpjopdemhdeelaaRowsApp
namespace Go.Proofs.Ytpjopdemhdeelaa.Mem
set_option linter.unusedVariables false
open Go.RowKit

/-- A slice of n rows of the call's own (block B or later) whose cells are us. -/
def Tab (W : World) (B : Nat) (A : Option Addr) (n c : Nat) (us : List Value) : Prop := Grows W B 23 (.slice A n c) us ∧ us.length = n
section
variable {W V : World} {B n c : Nat} {A : Option Addr} {us : List Value}
theorem Tab.later (h : Tab W B A n c us) (hb : Below W.heap.size W V) : Tab V B A n c us := ⟨h.1.later hb, h.2⟩
theorem Tab.off (h : Tab W B A n c us) {p : Addr} (hp : ∀ a, A = some a → a.block ≠ p.block) (u : Value) : Tab (W.setCell p u) B A n c us := by
  refine ⟨h.1.kept (row := some p.block) ⟨rfl, rfl, rfl, by simp [World.setCell], fun b hb hr => Below.heap_setCell W p u b (fun e => hr (congrArg some e))⟩ ?_, h.2⟩
  cases A with
  | none => exact .inl rfl
  | some a => exact .inr (fun e => hp a rfl (by injection e))
theorem Tab.at_ (h : Tab W B A n c us) {k : Nat} (hk : k < n) : ∃ g, A = some ⟨g, 0, none⟩ ∧ B ≤ g ∧ g < W.heap.size ∧ W.cell? ⟨g, k, none⟩ = us[k]? ∧ W.frozen? ⟨g, k, none⟩ = false ∧ ∀ u, Tab (W.setCell ⟨g, k, none⟩ u) B A n c (us.set k u) := by
  obtain ⟨h1, h2⟩ := h
  obtain ⟨g, rfl, hn⟩ := h1.head (by omega)
  have hown : Value.ownBlock (.slice (some ⟨g, 0, none⟩) n c) = some g := rfl
  have h1' : W.ownsRow B 23 1 (.slice (some ⟨g, 0, none⟩) n c) n us := by have h3 := h1; unfold Grows at h3; rw [h2] at h3; exact h3
  refine ⟨g, rfl, (h1.lt g hown).1, (h1.lt g hown).2, h1'.cellAt k (by omega), h1'.frozenAt k, fun u => ⟨?_, by rw [List.length_set, h2]⟩⟩
  unfold Grows
  rw [List.length_set, h2]
  exact (h1'.stored k u).1
theorem Tab.rds {rows : List (List UInt8)} (h : Tab W B A n c us) (hr : AreRows W us rows) : Rds W A rows := ⟨us, h.1.reads, hr⟩
theorem Tab.le (h : Tab W B A n c us) : n ≤ c := by
  obtain ⟨A', c', e, h1, _⟩ := h.1.form
  injection e with _ _ e
  rw [e, ← h.2]; exact h1
end
theorem AreRows.set {W V : World} {us : List Value} {rows : List (List UInt8)} (h : AreRows W us rows) (hb : Below W.heap.size W V) {k : Nat} {u : Value} {r : List UInt8} (hu : IsRow V u r) : AreRows V (us.set k u) (rows.set k r) := by
  refine ⟨by rw [List.length_set, List.length_set, h.1], fun j v q hv hq => ?_⟩
  rw [List.getElem?_set] at hv hq
  by_cases e : k = j
  · subst e
    rw [if_pos rfl] at hv hq
    split at hv
    · injection hv with hv; subst hv
      split at hq
      · injection hq with hq; subst hq; exact hu
      · cases hq
    · cases hv
  · rw [if_neg e] at hv hq
    exact (h.2 j v q hv hq).below hb
theorem rows_one {W : World} {us : List Value} {rows : List (List UInt8)} (h : AreRows W us rows) : ∀ u ∈ us, u.oneCell' = true := fun u hu => by
  obtain ⟨j, hj, rfl⟩ := List.mem_iff_getElem.1 hu
  obtain ⟨C, c', e, _⟩ := h.2 j _ _ (List.getElem?_eq_getElem hj) (List.getElem?_eq_getElem (by rw [← h.1]; exact hj))
  rw [e]; rfl
/-- 'append([][]byte{}, rows...)'. -/
theorem wpList_append_cells {ops : Array Oper} {rest : List Oper} {o : Oper} {a : Act} {Q : Exit → Act → World → Prop} (hgd : o.guard = none) (s x : Operand)
    (ho : o.op = .call { callee := .builtin .append, args := #[s, x], argTypes := #[22, 22] }) {w w0 : World} {us : List Value} {A : Option Addr} {m c : Nat}
    (hs : a.eval s = .slice (some ⟨w.heap.size, 0, none⟩) 0 0) (hx : a.eval x = .slice A m c) (hm : us.length = m) (hu : ∀ u ∈ us, u.oneCell' = true) (hr : Reads w A us) (hl : m ≤ 5864062014805) {B0 : Nat} (hb : Below B0 w0 w) (hB0 : B0 ≤ w.heap.size)
    (h : ∀ A' c' w', Hid (Tab w' w.heap.size A' m c' us) → Hid (Below B0 w0 w') → wpList Try.prog ops Q rest (a.put o.dst (.slice A' m c')) w') :
    wpList Try.prog ops Q (o :: rest) a (w.alloc (.cells #[] 23)) := by
  have hg : Grows (w.alloc (.cells #[] 23)) w.heap.size 23 (.slice (some ⟨w.heap.size, 0, none⟩) 0 0) [] := World.ownsRow_made w #[] 0 (Nat.le_refl _) (by simp) (by simp)
  refine wpList_append_many elemS8 hgd s x ho (B := w.heap.size) (xs := []) hs hx hm hu (hr.alloc _) hg (by unfold maxLen; simp; omega) (by simp; omega) (by simp) ?_
  intro v' w' h1 h2 h3
  rw [List.nil_append] at h1
  obtain ⟨A', c', hv, _, _⟩ := h1.form
  rw [hm] at hv
  subst hv
  exact h A' c' w' ⟨h1, hm⟩ (hg.below h2 (hb.alloc hB0 _) hB0 (by simp; omega))
end Go.Proofs.Ytpjopdemhdeelaa.Mem
namespace Go.Proofs.Ytpjopdemhdeelaa.Pair
open Go.RowKit Gf Mem Poly Cdr
set_option linter.unusedVariables false

theorem byte_at {W : World} {A : Option Addr} {l : List UInt8} {k : Nat} (h : Reads W A (l.map byt)) (hk : k < l.length) : ∃ b o, A = some ⟨b, o, none⟩ ∧ b < W.heap.size ∧ W.cell? ⟨b, o + k, none⟩ = some (.int .u8 ((co l k).toNat : Int)) := by
  obtain ⟨b, o, x, h1, h2, h3⟩ := h.bytes hk
  exact ⟨b, o, h1, World.block_lt_of_cell? _ _ h3, by rw [co_of_some h2]; exact h3⟩
theorem Mine.co_at {W : World} {B : Nat} {A : Option Addr} {r : List UInt8} (h : Mine W B A r) {k : Nat} (hk : k < r.length) : ∃ g, A = some ⟨g, 0, none⟩ ∧ B ≤ g ∧ g < W.heap.size ∧ W.cell? ⟨g, k, none⟩ = some (.int .u8 ((co r k).toNat : Int)) ∧ W.frozen? ⟨g, k, none⟩ = false := by
  obtain ⟨g, x, h1, h2, h3, h4, h5, h6⟩ := h.at_ hk
  exact ⟨g, h1, h2, h3, by rw [co_of_some h4]; exact h5, h6⟩
theorem Mine.off {W : World} {B : Nat} {A : Option Addr} {r : List UInt8} (h : Mine W B A r) {p : Addr} (hp : ∀ a, A = some a → a.block ≠ p.block) (u : Value) : Mine (W.setCell p u) B A r := by
  rcases h with rfl | ⟨g, cs, rfl, h2, h3, h4, h5⟩
  · exact .inl rfl
  · exact .inr ⟨g, cs, rfl, h2, h3.off (hp _ rfl) u, h4, h5⟩
theorem clone_l (A : Option Addr) (r : List UInt8) (n c : Nat) (W : World) (hn : r.length = n) (hl : n ≤ 140737488351232) (hA : Reads W A (r.map byt)) :
    Calls Try.prog 18 #[.slice A n c] W fun e W' => ∃ (A' : Option Addr) (c' : Nat), e = .returned (.slice A' n c') ∧ n ≤ c' ∧ Mine W' W.heap.size A' r ∧ Below W.heap.size W W' := by
  subst hn; exact clone_c A r c W hl hA
theorem mine_row {W : World} {B : Nat} {A : Option Addr} {r : List UInt8} {n c : Nat} (h : Mine W B A r) (hn : r.length = n) (hc : n ≤ c) (hm : n ≤ 140737488351232) : IsRow W (.slice A n c) r := by
  subst hn; exact ⟨A, c, rfl, hc, by omega, h.reads⟩
/-- One byte of one disk written over: what becomes of the sums. -/
theorem small_par {rows : List (List UInt8)} {w k : Nat} {r : List UInt8} (h : rows[w]? = some r) (hr : r.length = wide rows) (hk : k < wide rows) (v x : UInt8) :
    par x (rows.set w (r.set k v)) = (par x rows).set k (xor8 (sumAt x rows k) (mul (pow x w) (xor8 (co r k) v))) := by
  have hw : wide (rows.set w (r.set k v)) = wide rows := wide_set (by rw [List.length_set, hr])
  refine row_ext (n := wide rows) (by rw [par_len, hw]) (by rw [List.length_set, par_len]) fun i hi => ?_
  rw [co_par (by rw [hw]; exact hi), sum_set h]
  by_cases e : k = i
  · subst e
    rw [co_of_some (p := r.set k v) (x := v) (by rw [List.getElem?_set, if_pos rfl, if_pos (by omega)]), co_of_some (p := (par x rows).set k _) (by rw [List.getElem?_set, if_pos rfl, if_pos (by rw [par_len]; exact hk)])]
    show sumAt x rows k ^^^ mul (pow x w) (v ^^^ co r k) = sumAt x rows k ^^^ mul (pow x w) (co r k ^^^ v)
    rw [UInt8.xor_comm v]
  · have h1 : co (r.set k v) i = co r i := by unfold co; rw [List.getElem?_set, if_neg e]
    have h2 : co ((par x rows).set k (xor8 (sumAt x rows k) (mul (pow x w) (xor8 (co r k) v)))) i = co (par x rows) i := by unfold co; rw [List.getElem?_set, if_neg e]
    rw [h1, h2, xor_self', mul_zero, xor_zero', co_par hi]
end Go.Proofs.Ytpjopdemhdeelaa.Pair
