/-
  Package locks: the board in memory: a map of keys to locks; what a performed operation leaves of it.
-/
import Derived.Test.YtdkgclgccicbeaaLkPg
namespace Go.Proofs.Ytdkgclgccicbeaa.LkP
set_option linter.unusedVariables false
set_option linter.unusedSimpArgs false
open Go.RowKit Mem Gt
open Lk hiding ints

abbrev tB : TypeId := 46
theorem und_b : Try.prog.underlying 46 = some (.map 3 58) := Try.underlying46
section
variable {W V : World} {b : Nat} {z : Value} {f : Int → Value} {ks : List Int}
set_option maxRecDepth 100000 in
theorem nmap_del (h : NMap W b z f ks) {t e : TypeId} (ht : Try.prog.underlying t = some (.map 3 e)) (hnd : ks.Nodup) (x : Int) (hx : (Lit.int .i64 x).wf = true) (ty : TypeId) :
    ∃ V, (Builtin.delete_ #[t, 3] ty #[.map (some b), .int .i64 x]).run Try.prog W = .ok (.tuple #[]) V ∧ NMap V b z (setI f x z) (ks.erase x) ∧ W.grownBy V (some b) := by
  obtain ⟨D, n, h0, h1, h2, h3, h4, h5, h6, h7⟩ := h
  obtain ⟨V, r1, r2, r3⟩ := h3.drop keyI ht (Go.Maps.keyOf_int_mk Try.underlying3 hx) ty
  have hk := keyI.key (Go.Maps.keyOf_int_mk (P := Try.prog) Try.underlying3 hx)
  have hsize : Maps.size (D.del (.int .i64 x)) = (ks.erase x).length := by
    have h8 := Maps.size_del (k := .int .i64 x) h2
    rw [h5 x hx, h6] at h8
    by_cases e : x ∈ ks
    · rw [List.length_erase_of_mem e]
      simp [e] at h8
      omega
    · rw [List.erase_of_not_mem e]
      simp [e] at h8
      exact h8
  have hle : (ks.erase x).length ≤ ks.length := List.length_erase_le
  have r2' : V.ownsMap Try.prog 3 rdV b (ks.erase x).length (D.del (.int .i64 x)) := by
    obtain ⟨es, clock, q1, q2, q3, q4⟩ := r2
    refine ⟨es, clock, q1, q2, ?_, q4⟩
    have e1 : es.size = Maps.size (D.del (.int .i64 x)) := by
      rw [q4]
      show es.size = ((es.toList.map _).foldr DataW.insert []).length
      rw [Go.length_sorted]; simp
    omega
  refine ⟨V, r1, ⟨_, _, by unfold maxLen; omega, by omega, h2.del _, r2', fun y hy => ?_, fun y hy => ?_, hsize, rfl⟩, r3.grown⟩
  · by_cases e : y = x
    · subst e
      rw [Maps.atKey_del_same, setI_same]
    · rw [Maps.atKey_del_other (fun e' => e (by injection e')), h4 y hy, setI_other _ _ e]
  · by_cases e : y = x
    · subst e
      rw [Maps.has_del_same]
      exact (decide_eq_false (fun hm => (hnd.mem_erase_iff.1 hm).1 rfl)).symm
    · rw [Maps.has_del_other (fun e' => e (by injection e')), h5 y hy]
      exact decide_eq_decide.2 ⟨fun hm => hnd.mem_erase_iff.2 ⟨e, hm⟩, fun hm => (hnd.mem_erase_iff.1 hm).2⟩
theorem wpList_delete_n {ops : Array Oper} {rest : List Oper} {o : Oper} {a : Act} {Q : Exit → Act → World → Prop} {t e : TypeId} (ht : Try.prog.underlying t = some (.map 3 e))
    (hg : o.guard = none) (m x : Operand) (hop : o.op = Op.call { callee := Callee.builtin Builtin.delete, args := #[m, x], argTypes := #[t, 3] }) (hS : NMap W b z f ks) (hnd : ks.Nodup) (y : Int) (hy : (Lit.int .i64 y).wf = true) (hm : a.eval m = .map (some b)) (hx : a.eval x = .int .i64 y)
    (h : ∀ V, Hid (NMap V b z (setI f y z) (ks.erase y)) → Hid (W.grownBy V (some b)) → wpList Try.prog ops Q rest (a.put o.dst (.tuple #[])) V) : wpList Try.prog ops Q (o :: rest) a W := by
  refine wpList_plain hg fun K' hK' => ?_
  obtain ⟨V, hrun, r1, r2⟩ := nmap_del hS ht hnd y hy o.type
  unfold Oper.wp
  simp [execOp, hop, resolve, invoke, builtin, hm, hx, hrun, Result.andThen]
  exact hK' _ _ (h V r1 r2)
end
/-! ### The board -/
def ptrK (g : Int → Nat) (p : Int → Sk) (x : Int) : Value := if (p x).2.1 = [] then .pointer none else .pointer (some ⟨g x, 0, none⟩)
/-- The map lies in block M, below N; the locks lie from N on. At most c keys. -/
structure Bo (N M : Nat) (L : Lab) (g : Int → Nat) (p : Int → Sk) (c : Nat) (V : World) : Prop where
  mn : M < N
  nv : N ≤ V.heap.size
  low : ∀ b, b < N → L b = none
  hi : ∀ b, V.heap.size ≤ b → L b = none
  mp : ∃ ks, ks.Nodup ∧ ks.length ≤ c ∧ (∀ x, x ∈ ks ↔ (p x).2.1 ≠ []) ∧ (∀ x ∈ ks, Fit x) ∧ NMap V M (.pointer none) (ptrK g p) ks
  lk : ∀ x, (p x).2.1 ≠ [] → Kp N L x (g x) (p x) V
  em : ∀ x, (p x).2.1 = [] → p x = sk0
/-- Below N, all but the map lies as it was. -/
structure MvB (N M : Nat) (V V' : World) : Prop where
  os : V'.os = V.os
  tape : V'.tape = V.tape
  output : V'.output = V.output
  size : V.heap.size ≤ V'.heap.size
  block : ∀ b, b < N → b ≠ M → V'.heap[b]? = V.heap[b]?
section
variable {N M c : Nat} {L L' L1 : Lab} {g : Int → Nat} {p : Int → Sk} {V V' V2 : World} {key : Int} {G : Nat} {s' : Sk}
theorem MvB.refl (N M : Nat) (V : World) : MvB N M V V := ⟨rfl, rfl, rfl, Nat.le_refl _, fun _ _ _ => rfl⟩
theorem MvB.trans (m : MvB N M V V') (m2 : MvB N M V' V2) : MvB N M V V2 :=
  ⟨m2.os.trans m.os, m2.tape.trans m.tape, m2.output.trans m.output, Nat.le_trans m.size m2.size, fun b hb hM => (m2.block b hb hM).trans (m.block b hb hM)⟩
theorem MvB.later (m : MvB N M V V') (hN : N ≤ V'.heap.size) (hb : Below V'.heap.size V' V2) : MvB N M V V2 :=
  m.trans ⟨hb.os, hb.tape, hb.output, hb.size, fun b h1 _ => hb.block b (by omega)⟩
theorem MvB.moved (m : MvB N M V V') (hN : N ≤ V'.heap.size) (hl : ∀ b, b < N → L b = none) (mv : Mv key L V' L' V2) : MvB N M V V2 :=
  m.trans ⟨mv.os, mv.tape, mv.output, mv.size, fun b h1 _ => mv.block b (by omega) (fun j => by rw [hl b h1]; simp)⟩
theorem MvB.map (m : MvB N M V V') (hN : N ≤ V'.heap.size) (hg : V'.grownBy V2 (some M)) : MvB N M V V2 :=
  m.trans ⟨hg.os, hg.tape, hg.output, hg.size, fun b h1 h2 => hg.block b (by omega) (fun e => h2 (by injection e))⟩
theorem Bo.later (h : Bo N M L g p c V) (hb : Below V.heap.size V V') : Bo N M L g p c V' := by
  obtain ⟨ks, h1, h2, h3, h4, h5⟩ := h.mp
  exact ⟨h.mn, Nat.le_trans h.nv hb.size, h.low, fun b hb' => h.hi b (Nat.le_trans hb.size hb'), ⟨ks, h1, h2, h3, h4, h5.later hb⟩, fun x hx => (h.lk x hx).later hb, h.em⟩
theorem Bo.more {d : Nat} (h : Bo N M L g p c V) (hd : c ≤ d) : Bo N M L g p d V := by
  obtain ⟨ks, h1, h2, h3⟩ := h.mp
  exact ⟨h.mn, h.nv, h.low, h.hi, ⟨ks, h1, Nat.le_trans h2 hd, h3⟩, h.lk, h.em⟩
/-- A key's lock is named: it lies in G. -/
structure Mid (N M : Nat) (L : Lab) (g : Int → Nat) (p : Int → Sk) (c : Nat) (key : Int) (G : Nat) (s : Sk) (V : World) : Prop where
  mn : M < N
  nv : N ≤ V.heap.size
  low : ∀ b, b < N → L b = none
  hi : ∀ b, V.heap.size ≤ b → L b = none
  mp : ∃ ks, ks.Nodup ∧ ks.length ≤ c ∧ (∀ x, x ∈ ks ↔ (p x).2.1 ≠ []) ∧ (∀ x ∈ ks, Fit x) ∧ NMap V M (.pointer none) (ptrK g p) ks
  lk : ∀ x, x ≠ key → (p x).2.1 ≠ [] → Kp N L x (g x) (p x) V
  em : ∀ x, x ≠ key → (p x).2.1 = [] → p x = sk0
  me : Kp N L key G s V
theorem Bo.there (h : Bo N M L g p c V) (hk : (p key).2.1 ≠ []) : Mid N M L g p c key (g key) (p key) V :=
  ⟨h.mn, h.nv, h.low, h.hi, h.mp, fun x _ hx => h.lk x hx, fun x _ hx => h.em x hx, h.lk key hk⟩
/-- A new box. -/
theorem Bo.fresh (h : Bo N M L g p c V) (hk : (p key).2.1 = []) : ∃ L1, Mid N M L1 g p c key V.heap.size (p key) (V.alloc (.cells #[.bool false, .slice none 0 0, .slice none 0 0] tK)) ∧ (∀ b, b ≠ V.heap.size → L1 b = L b) := by
  have h' := h.later (low_lit V (.cells #[.bool false, .slice none 0 0, .slice none 0 0] tK))
  have e : ∀ b, b ≠ V.heap.size → (fun b => if b = V.heap.size then some (key, 0) else L b : Lab) b = L b := fun b hb => if_neg hb
  refine ⟨fun b => if b = V.heap.size then some (key, 0) else L b, ⟨h.mn, h'.nv, fun b hb => ?_, fun b hb => ?_, h'.mp, fun x hx1 hx2 => ?_, fun x _ hx => h.em x hx, ?_⟩, e⟩
  · exact (e b (by have := h.nv; omega)).trans (h.low b hb)
  · exact (e b (by simp at hb; omega)).trans (h'.hi b hb)
  · obtain ⟨hv, wv, r⟩ := h.lk x hx2
    have nm : ∀ b, b < V.heap.size → (fun b => if b = V.heap.size then some (key, 0) else L b : Lab) b = L b := fun b hb => e b (by omega)
    exact ⟨hv, wv, (r.named nm).later (low_lit _ _)⟩
  · rw [h.em key hk]
    refine ⟨.slice none 0 0, .slice none 0 0, h.nv, if_pos rfl, Known.made _ _ _, Tab.nil _ _ _, fun b hb => ?_, Tab.nil _ _ _, fun b hb => ?_⟩
    all_goals (simp [Value.ownBlock] at hb)
/-- The lock has moved. -/
theorem Mid.moved {s : Sk} (h : Mid N M L g p c key G s V) (hk : Kp N L' key G s' V') (mv : Mv key L V L' V') : Mid N M L' g p c key G s' V' := by
  obtain ⟨ks, h1, h2, h3, h4, D, n, h5, h6, h7, h8, h9⟩ := h.mp
  have hM : V'.heap[M]? = V.heap[M]? := mv.block M (by have := h.mn; have := h.nv; omega) (fun j => by rw [h.low M h.mn]; simp)
  refine ⟨h.mn, Nat.le_trans h.nv mv.size, fun b hb => by rw [mv.agree b (by have := h.nv; omega)]; exact h.low b hb, fun b hb => by rw [mv.fresh b hb]; exact h.hi b (Nat.le_trans mv.size hb), ⟨ks, h1, h2, h3, h4, D, n, h5, h6, h7, ?_, h9⟩, fun x hx1 hx2 => (h.lk x hx1 hx2).moved (fun e => hx1 e.symm) mv, h.em, hk⟩
  obtain ⟨es, clock, q1, q2⟩ := h8
  exact ⟨es, clock, hM.trans q1, q2⟩
/-- The map is told that the key has its lock. -/
theorem Mid.keep {s : Sk} (h : Mid N M L g p c key G s V) {ks : List Int} (h1 : ks.Nodup) (h2 : ks.length ≤ c) (h3 : ∀ x, x ∈ ks ↔ (p x).2.1 ≠ []) (h4 : ∀ x ∈ ks, Fit x) (hf : Fit key) (hs : s.2.1 ≠ [])
    (hm : NMap V' M (.pointer none) (setI (ptrK g p) key (.pointer (some ⟨G, 0, none⟩))) (addK ks key)) (hg : V.grownBy V' (some M)) : Bo N M L (fun x => if x = key then G else g x) (updK p key (clean s)) (c + 1) V' := by
  have hM : ∀ b, some M = some b → ∀ x j, L b ≠ some (x, j) := fun b e x j => by injection e with e; subst e; rw [h.low _ h.mn]; simp
  have hc : clean s = s := if_neg hs
  rw [hc]
  refine ⟨h.mn, Nat.le_trans h.nv hg.size, h.low, fun b hb => h.hi b (Nat.le_trans hg.size hb), ⟨addK ks key, ?_, ?_, fun x => ?_, fun x hx => ?_, hm.congr fun x => ?_⟩, fun x hx => ?_, fun x hx => ?_⟩
  · unfold addK
    split
    · exact h1
    · rename_i hn
      exact List.nodup_append.2 ⟨h1, by simp, fun a ha b hb e => by simp at hb; subst hb; exact hn (e ▸ ha)⟩
  · unfold addK
    split
    · omega
    · simp; omega
  · rw [mem_addK]
    by_cases e : x = key
    · subst e; rw [updK_same]; exact ⟨fun _ => hs, fun _ => .inl rfl⟩
    · rw [updK_other _ _ e, ← h3 x]; exact ⟨fun h => h.resolve_left e, .inr⟩
  · rcases mem_addK.1 hx with rfl | hx
    · exact hf
    · exact h4 x hx
  · by_cases e : x = key
    · subst e; rw [setI_same]; unfold ptrK; rw [updK_same, if_neg hs]; simp only [if_true]
    · rw [setI_other _ _ e]; unfold ptrK; rw [updK_other _ _ e]; simp only [if_neg e]
  · by_cases e : x = key
    · subst e; rw [updK_same]; simp only [if_pos]; exact h.me.grown hg (fun b hb => hM b hb x)
    · rw [updK_other _ _ e] at hx ⊢; simp only [if_neg e]; exact (h.lk x e hx).grown hg (fun b hb => hM b hb x)
  · by_cases e : x = key
    · subst e; rw [updK_same] at hx; exact absurd hx hs
    · rw [updK_other _ _ e] at hx ⊢; exact h.em x e hx
/-- The map is told that the key has no lock. -/
theorem Mid.drop {s : Sk} (h : Mid N M L g p c key G s V) {ks : List Int} (h1 : ks.Nodup) (h2 : ks.length ≤ c) (h3 : ∀ x, x ∈ ks ↔ (p x).2.1 ≠ []) (h4 : ∀ x ∈ ks, Fit x) (hs : s.2.1 = [])
    (hm : NMap V' M (.pointer none) (setI (ptrK g p) key (.pointer none)) (ks.erase key)) (hg : V.grownBy V' (some M)) : Bo N M L g (updK p key (clean s)) (c + 1) V' := by
  have hM : ∀ b, some M = some b → ∀ x j, L b ≠ some (x, j) := fun b e x j => by injection e with e; subst e; rw [h.low _ h.mn]; simp
  have hc : clean s = sk0 := if_pos hs
  rw [hc]
  refine ⟨h.mn, Nat.le_trans h.nv hg.size, h.low, fun b hb => h.hi b (Nat.le_trans hg.size hb), ⟨ks.erase key, h1.erase _, ?_, fun x => ?_, fun x hx => h4 x (List.mem_of_mem_erase hx), hm.congr fun x => ?_⟩, fun x hx => ?_, fun x hx => ?_⟩
  · have : (ks.erase key).length ≤ ks.length := List.length_erase_le
    omega
  · rw [h1.mem_erase_iff]
    by_cases e : x = key
    · subst e; rw [updK_same]; exact ⟨fun h => absurd rfl h.1, fun h => absurd rfl h⟩
    · rw [updK_other _ _ e, ← h3 x]; exact ⟨fun h => h.2, fun h => ⟨e, h⟩⟩
  · by_cases e : x = key
    · subst e; rw [setI_same]; unfold ptrK; rw [updK_same]; exact (if_pos (show sk0.2.1 = [] from rfl)).symm
    · rw [setI_other _ _ e]; unfold ptrK; rw [updK_other _ _ e]
  · by_cases e : x = key
    · subst e; rw [updK_same] at hx; exact absurd rfl hx
    · rw [updK_other _ _ e] at hx ⊢; exact (h.lk x e hx).grown hg (fun b hb => hM b hb x)
  · by_cases e : x = key
    · subst e; exact updK_same _ _ _
    · rw [updK_other _ _ e] at hx ⊢; exact h.em x e hx
end
end Go.Proofs.Ytdkgclgccicbeaa.LkP
