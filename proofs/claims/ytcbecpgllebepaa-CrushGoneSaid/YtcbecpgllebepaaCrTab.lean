/-
  Slices of hosts and of spots of the call's own: cloned, appended to, written over. Made by gen/crtab.py from the texts for items.
-/
import Derived.Test.YtcbecpgllebepaaCrSpec
import Derived.Test.YtcbecpgllebepaaLaw
import Derived.SizedLaws
import Derived.Maps.AppendAt
import Derived.Deep.RegionLawGrows
import Derived.Deep.RegionHeld3
import Derived.Deep.DeepCutAuto
import Derived.Deep.Upon
import Derived.Deep.DeepAppendWide
import Derived.Test.YtcbecpgllebepaaShCr2
import Derived.Test.YtcbecpgllebepaaShStraw
namespace Go.Proofs.Ytcbecpgllebepaa.Crush
set_option linter.unusedVariables false
set_option linter.unusedSimpArgs false
open Go.RowKit Mem Straw

/-- A host's two cells. -/
abbrev Hz := Int × Value
def Ones (zs : List Hz) : Prop := ∀ z ∈ zs, z.2.oneCell' = true
def flatv : List Hz → List Value
  | [] => []
  | e :: es => .int .i64 e.1 :: e.2 :: flatv es
theorem flatv_len (es : List Hz) : (flatv es).length = es.length * 2 := by
  induction es with
  | nil => rfl
  | cons e es ih => simp [flatv, ih]; omega
theorem flatv_app (a b : List Hz) : flatv (a ++ b) = flatv a ++ flatv b := by
  induction a with
  | nil => rfl
  | cons e a ih => simp [flatv, ih]
theorem flatv_at {es : List Hz} {k : Nat} {e : Hz} (h : es[k]? = some e) : (flatv es)[k * 2]? = some (.int .i64 e.1) ∧ (flatv es)[k * 2 + 1]? = some (e.2) := by
  induction es generalizing k with
  | nil => simp at h
  | cons x es ih =>
    cases k with
    | zero => simp at h; subst h; exact ⟨rfl, rfl⟩
    | succ k =>
      have h2 := ih (k := k) (by simpa using h)
      rw [show (k + 1) * 2 = k * 2 + 2 by omega]
      exact h2
theorem flatv_one (es : List Hz) (ho : Ones es) : ∀ v ∈ flatv es, v.oneCell' = true := by
  induction es with
  | nil => intro v h; cases h
  | cons e es ih =>
    intro v h
    simp only [flatv, List.mem_cons] at h
    rcases h with rfl | rfl | h
    · rfl
    · exact ho e (by simp)
    · exact ih (fun x hx => ho x (by simp [hx])) v h
theorem flatv_set (es : List Hz) (k : Nat) (e : Hz) (hk : k < es.length) : ((flatv es).set (k * 2) (.int .i64 e.1)).set (k * 2 + 1) (e.2) = flatv (es.set k e) := by
  induction es generalizing k with
  | nil => simp at hk
  | cons x es ih =>
    cases k with
    | zero => rfl
    | succ k =>
      have h2 := ih k (by simpa using hk)
      rw [show (k + 1) * 2 = k * 2 + 2 by omega]
      simp only [flatv, List.set_cons_succ, ← h2]

/-- A slice's address leads to the tokens. -/
def VRds (W : World) (A : Option Addr) (es : List Hz) : Prop :=
  ∀ (k : Nat) (e : Hz), es[k]? = some e → ∃ b o, A = some ⟨b, o, none⟩ ∧ b < W.heap.size ∧ W.cell? ⟨b, o + k * 2, none⟩ = some (.int .i64 e.1) ∧ W.cell? ⟨b, o + k * 2 + 1, none⟩ = some (e.2)
section
variable {W V : World} {A : Option Addr} {es : List Hz}
theorem VRds.nil : VRds W A [] := fun k e h => by simp at h
theorem VRds.below (h : VRds W A es) (hb : Below W.heap.size W V) : VRds V A es := fun k e hk => by
  obtain ⟨b, o, h1, h2, h3, h4⟩ := h k e hk
  exact ⟨b, o, h1, Nat.lt_of_lt_of_le h2 hb.size, (hb.cell (p := ⟨b, _, none⟩) h2).trans h3, (hb.cell (p := ⟨b, _, none⟩) h2).trans h4⟩
theorem VRds.later {W0 : World} (h : VRds W0 A es) (hb : Below W0.heap.size W0 W) : VRds W A es := h.below hb
theorem VRds.it (h : VRds W A es) {k : Nat} (hk : k < es.length) : ∃ b o, A = some ⟨b, o, none⟩ ∧ b < W.heap.size ∧ W.cell? ⟨b, o + k * 2, none⟩ = some (.int .i64 es[k].1) ∧ W.cell? ⟨b, o + k * 2 + 1, none⟩ = some (es[k].2) :=
  h k _ (List.getElem?_eq_getElem hk)
theorem VRds.take (h : VRds W A es) (n : Nat) : VRds W A (es.take n) := fun k e hk => by
  rw [List.getElem?_take] at hk
  split at hk
  · exact h k e hk
  · cases hk
end

/-- v is a slice of the call's own (block B or later) of the tokens. -/
def VTab (W : World) (B : Nat) (v : Value) (es : List Hz) : Prop := W.ownsRow B 43 2 v es.length (flatv es)
section
variable {W V : World} {B : Nat} {v : Value} {es : List Hz}
theorem VTab.nil (W : World) (B : Nat) : VTab W B (.slice none 0 0) [] := World.ownsRow_nil W B _ 2
theorem VTab.form (h : VTab W B v es) : ∃ A cap, v = .slice A es.length cap ∧ es.length ≤ cap ∧ cap ≤ maxLen := by
  rcases h.2 with ⟨rfl, hn⟩ | ⟨g, cap, cur, rfl, _, _, h1, h2, _⟩
  · exact ⟨none, 0, by rw [hn], by omega, by simp [maxLen]⟩
  · exact ⟨_, cap, rfl, h1, h2⟩
theorem VTab.lt (h : VTab W B v es) : ∀ k, v.ownBlock = some k → B ≤ k ∧ k < W.heap.size := World.ownsRow.lt h
theorem VTab.later (h : VTab W B v es) (hb : Below W.heap.size W V) : VTab V B v es :=
  World.ownsRow.kept (row := none) h ⟨hb.os, hb.tape, hb.output, hb.size, fun k hk _ => hb.block k hk⟩ (by cases hv : v.ownBlock <;> simp)
theorem VTab.kept {row : Option Nat} (h : VTab W B v es) (hg : W.grownBy V row) (hne : v.ownBlock = none ∨ v.ownBlock ≠ row) : VTab V B v es := World.ownsRow.kept h hg hne
theorem VTab.alloc (h : VTab W B v es) (o : Obj) : VTab (W.alloc o) B v es := World.ownsRow.alloc h o
theorem VTab.drew (h : VTab W B v es) : VTab W.drew B v es := h
theorem VTab.down {B' : Nat} (h : VTab W B v es) (hb : B' ≤ B) : VTab W B' v es := by
  refine ⟨h.1, ?_⟩
  rcases h.2 with h1 | ⟨g, cap, cur, h1, h2, h3⟩
  · exact .inl h1
  · exact .inr ⟨g, cap, cur, h1, Nat.le_trans hb h2, h3⟩
theorem VTab.head {A : Option Addr} {n cap : Nat} (h : VTab W B (.slice A n cap) es) (h0 : 0 < es.length) : ∃ g, A = some ⟨g, 0, none⟩ ∧ n = es.length ∧ B ≤ g ∧ g < W.heap.size := by
  have hf := h.form
  obtain ⟨A', c', e, _, _⟩ := hf
  injection e with e1 e2 e3
  rcases h.2 with ⟨e, hn⟩ | ⟨g, cap', cur, e, hb, hg, _⟩
  · omega
  · injection e with e4
    subst e4
    exact ⟨g, rfl, e2, hb, (Array.getElem?_eq_some_iff.1 hg).1⟩
theorem VTab.rds {A : Option Addr} {n cap : Nat} (h : VTab W B (.slice A n cap) es) : VRds W A es := fun k e hk => by
  have hlt := (List.getElem?_eq_some_iff.1 hk).1
  obtain ⟨g, rfl, hn, _, hg⟩ := h.head (by omega)
  subst hn
  obtain ⟨f1, f2⟩ := flatv_at hk
  have hc := fun j hj => World.ownsRow.cellAt h j hj
  refine ⟨g, 0, rfl, hg, ?_, ?_⟩
  · rw [Nat.zero_add, hc _ (by omega), f1]
  · rw [Nat.zero_add, hc _ (by omega), f2]
theorem VTab.free {g n cap : Nat} (h : VTab W B (.slice (some ⟨g, 0, none⟩) n cap) es) (hn : n = es.length) (j : Nat) : W.frozen? ⟨g, j, none⟩ = false := by
  subst hn; exact World.ownsRow.frozenAt h j
theorem VTab.off (h : VTab W B v es) {p : Addr} (hp : ∀ g, v.ownBlock = some g → g ≠ p.block) (u : Value) : VTab (W.setCell p u) B v es :=
  World.ownsRow.kept (row := some p.block) h ⟨rfl, rfl, rfl, by simp [World.setCell], fun b hb hr => Below.heap_setCell W p u b (fun e => hr (congrArg some e))⟩ (by
    cases hv : v.ownBlock with
    | none => exact .inl rfl
    | some g => exact .inr (fun e => hp g hv (by injection e)))
/-- A token written over. -/
theorem VTab.put {g n cap k : Nat} (h : VTab W B (.slice (some ⟨g, 0, none⟩) n cap) es) (hn : n = es.length) (hk : k < n) (e : Hz) :
    VTab ((W.setCell ⟨g, k * 2, none⟩ (.int .i64 e.1)).setCell ⟨g, k * 2 + 1, none⟩ (e.2)) B (.slice (some ⟨g, 0, none⟩) n cap) (es.set k e) := by
  subst hn
  unfold VTab at h ⊢
  have h1 := (World.ownsRow.stored h (k * 2) (.int .i64 e.1)).1
  have h2 := (World.ownsRow.stored h1 (k * 2 + 1) (e.2)).1
  rw [flatv_set es k e hk] at h2
  rw [List.length_set]
  exact h2
end
theorem infoHost : (Try.prog.info? 43).map (fun i => (i.zero.map (fun z => z.cells.size), i.size, i.bytes)) = some (some 2, 2, 32) := by kernel_rfl
theorem info_host : ∃ i, Try.prog.info? 43 = some i ∧ ∃ z, i.zero = some z ∧ i.size = 2 ∧ i.bytes = 32 ∧ z.cells.size = 2 := by
  have h0 := infoHost
  cases hi : Try.prog.info? 43 with
  | none => rw [hi] at h0; cases h0
  | some i =>
    rw [hi] at h0
    simp only [Option.map_some, Option.some.injEq, Prod.mk.injEq] at h0
    cases hz : i.zero with
    | none => rw [hz] at h0; cases h0.1
    | some z =>
      rw [hz] at h0
      simp only [Option.map_some, Option.some.injEq] at h0
      exact ⟨i, rfl, z, hz, h0.2.1, h0.2.2, h0.1⟩
/-- 'append(v, item)'. -/
theorem wpList_append_host {ops : Array Oper} {rest : List Oper} {o : Oper} {a : Act} {Q : Exit → Act → World → Prop} (hgd : o.guard = none) (s x : Operand)
    (ho : o.op = .call { callee := .builtin .append, args := #[s, x], argTypes := #[23, 23] }) {w : World} {z1 : Int} {z2 : Value} (t : Hz) (ht : t.2.oneCell' = true) (hz1 : z1 = t.1) (hz2 : z2 = t.2) {B : Nat} {v : Value} {es : List Hz} {n : Nat} (hs : a.eval s = v)
    {sz : Nat} (hx : a.eval x = .slice (some ⟨sz, 0, none⟩) 1 1) (hsz : w.heap.size = sz) (hg : VTab w B v es) (hn : es.length = n) (hl2 : (n + 1) * 32 ≤ 140737488355328) (hB : B ≤ w.heap.size) {B0 : Nat} {w0 : World} (hb : Below B0 w0 w) (hB0 : B0 ≤ B)
    (h : ∀ A c w', Hid (VTab w' B (.slice A (n + 1) c) (es ++ [t])) → Hid ((w.alloc (.cells #[.int .i64 z1, z2] 43)).grownBy w' v.ownBlock) → Hid (Below B0 w0 w') → wpList Try.prog ops Q rest (a.put o.dst (.slice A (n + 1) c)) w') :
    wpList Try.prog ops Q (o :: rest) a (w.alloc (.cells #[.int .i64 z1, z2] 43)) := by
  subst hsz
  subst hn hz1 hz2
  obtain ⟨i, hi, z, hz0, hz1, hz2, hz3⟩ := info_host
  refine wpList_append_own_at (w := w.alloc (.cells #[.int .i64 t.1, t.2] 43)) hgd s x 23 ho B 43 i z 2 32 Try.underlying23 hi hz0 hz1 hz2 hz3 (by decide) v es.length (flatv es) hs (World.ownsRow.alloc hg _) ⟨w.heap.size, 0, none⟩ 1 1 [.int .i64 t.1, t.2] hx rfl ?_ ?_ (by unfold maxLen; omega) hl2 (by simp; omega) ?_
  · intro j u' hj
    have kn := Known.made w 43 #[.int .i64 t.1, t.2]
    rcases j with _ | _ | j
    · simp at hj; subst hj
      rw [show (⟨w.heap.size, 0, none⟩ : Addr).add 0 = ⟨w.heap.size, 0, none⟩ from rfl, kn.cell 0]; rfl
    · simp at hj; subst hj
      rw [show (⟨w.heap.size, 0, none⟩ : Addr).add 1 = ⟨w.heap.size, 1, none⟩ from rfl, kn.cell 1]; rfl
    · simp at hj
  · intro u' hu'
    simp at hu'
    rcases hu' with rfl | rfl
    · rfl
    · exact ht
  · intro v' w' k1 g2 _ g3
    have hT : VTab w' B v' (es ++ [t]) := by
      unfold VTab
      rw [List.length_append, flatv_app]
      exact k1
    obtain ⟨A, c, hv, _, _⟩ := hT.form
    rw [List.length_append] at hv
    have hv : v' = .slice A (es.length + 1) c := hv
    subst hv
    exact h A c w' hT g2 ((hb.alloc (Nat.le_trans hB0 hB) _).grown g2 (by simp; omega) fun k hk => Nat.le_trans hB0 (hg.lt k hk).1)

theorem v_none {W : World} {l : List Hz} (h : VRds W none l) : l = [] := by
  cases l with
  | nil => rfl
  | cons x l => obtain ⟨b, o, h1, _⟩ := h 0 x rfl; cases h1
theorem vrds_reads {W : World} {A : Option Addr} {l : List Hz} (h : VRds W A l) : Reads W A (flatv l) := fun k v hv => by
  have hk : k / 2 < l.length := by
    have := (List.getElem?_eq_some_iff.1 hv).1
    rw [flatv_len] at this; omega
  have e := List.getElem?_eq_getElem hk
  obtain ⟨b, o, h1, h2, h3, h4⟩ := h _ _ e
  obtain ⟨f1, f2⟩ := flatv_at e
  refine ⟨b, o, h1, h2, ?_⟩
  have hm : k % 2 = 0 ∨ k % 2 = 1 := by omega
  rcases hm with hm | hm
  · rw [show k = k / 2 * 2 by omega] at hv ⊢
    rw [f1] at hv; rw [← hv]; exact h3
  · rw [show k = k / 2 * 2 + 1 by omega] at hv ⊢
    rw [f2] at hv; rw [← hv, ← Nat.add_assoc]; exact h4
set_option maxRecDepth 100000 in
set_option maxHeartbeats 1000000 in
/-- An empty slice that is not nil. -/
theorem clone_zero_h (ad : Addr) (c : Nat) (W : World) :
    Calls Try.prog 21 #[.slice (some ad) 0 c] W fun e W' => ∃ A' c', e = .returned (.slice A' 0 c') ∧ VTab W' W.heap.size (.slice A' 0 c') [] ∧ Below W.heap.size W W' := by
  have q22 : ∀ (w : World) (a : Option Addr) (n c n' c' : Nat), (binOp .eql 23 (.slice a n c) (.slice none n' c')).run Try.prog w = .ok (.bool a.isNone) w := fun w a n c n' c' => Go.Lib.run_eql_slice_nil w _ _ a n c n' c' Try.underlying23
  go_enter Try.func21, Try.ntmps21
  go_wp2
  go_ret
  exact ⟨some ⟨W.heap.size, 0, none⟩, 0, rfl, World.ownsRow_made W #[] 0 (Nat.le_refl _) (Nat.zero_le _) (by simp), (Below.refl _ W).alloc (Nat.le_refl _) _⟩
set_option maxRecDepth 100000 in
theorem clone_h (A : Option Addr) (l : List Hz) (n c : Nat) (W : World) (hn : l.length = n) (hbig : n ≤ 4398046511104) (hx : VRds W A l) (ho : Ones l) :
    Calls Try.prog 21 #[.slice A n c] W fun e W' => ∃ A' c', e = .returned (.slice A' n c') ∧ VTab W' W.heap.size (.slice A' n c') l ∧ n ≤ c' ∧ Below W.heap.size W W' := by
  cases A with
  | none =>
    obtain rfl := v_none hx
    obtain rfl : n = 0 := hn.symm
    refine (AnyE.slices_Clone_nil Try.cloneHost 0 c W).mono ?_
    rintro e w ⟨rfl, rfl⟩
    exact ⟨none, 0, rfl, VTab.nil _ _, by omega, Below.refl _ _⟩
  | some a =>
    obtain ⟨i, hi, z, hz0, hz1, hz2, hz3⟩ := info_host
    rcases Nat.eq_zero_or_pos n with h0 | h0
    · subst h0
      obtain rfl := List.eq_nil_of_length_eq_zero hn
      refine (clone_zero_h a c W).mono ?_
      rintro e w ⟨A', c', rfl, hT, hb⟩
      exact ⟨A', c', rfl, hT, by omega, hb⟩
    obtain ⟨b, o, spot⟩ := a
    have hgo : ∀ (b o : Nat), (some (⟨b, o, none⟩ : Addr) = some ⟨b, o, none⟩) → VRds W (some ⟨b, o, none⟩) l → Calls Try.prog 21 #[.slice (some ⟨b, o, none⟩) n c] W fun e W' => ∃ A' c', e = .returned (.slice A' n c') ∧ VTab W' W.heap.size (.slice A' n c') l ∧ n ≤ c' ∧ Below W.heap.size W W' := fun b o _ hx => by
      refine (AnyE.slices_Clone Try.cloneHost i z 2 32 hi hz0 hz1 hz2 hz3 (by omega) Try.sizeOf43 b o n c (flatv l) W (by rw [flatv_len, hn]) (by unfold maxLen; omega) (by omega) (fun j u hj => ?_) (flatv_one l ho)).mono ?_
      · obtain ⟨b', o', e, _, h3⟩ := vrds_reads hx j u hj
        injection e with e
        injection e with e1 e2
        subst e1 e2
        exact h3
      · rintro e w ⟨v, rfl, hr, _, hb⟩
        have hT : VTab w W.heap.size v l := by unfold VTab; rw [hn]; exact hr
        obtain ⟨A', c', hv, hc, _⟩ := hT.form
        rw [hn] at hv hc
        subst hv
        exact ⟨A', c', rfl, hT, hc, hb⟩
    cases spot with
    | none => exact hgo b o rfl hx
    | some s =>
      obtain ⟨b', o', e, _⟩ := hx 0 l[0] (List.getElem?_eq_getElem (by omega))
      cases e
set_option maxRecDepth 100000 in
theorem step_append_hosts {ops : Array Oper} {o : Oper} {a : Act} {w : World} {K : Act → World → Prop} {Q : Exit → Act → World → Prop} {E : Prop} (hgd : o.guard = none) (s x : Operand)
    (ho : o.op = .call { callee := .builtin .append, args := #[s, x], argTypes := #[23, 23] }) {B n m c b o' : Nat} {v : Value} {es ys : List Hz} {AD : Option Addr} (hs : a.eval s = v) (hx : a.eval x = .slice AD m c) (had : AD = some ⟨b, o', none⟩)
    (hg : VTab w B v es) (hn : es.length = n) (hr : VRds w (some ⟨b, o', none⟩) ys) (hy : ys.length = m) (hone : Ones ys) (hl : ((n + m) + (n + m) / 4 + 192) * 32 ≤ 281474976710656) (hB : B ≤ w.heap.size)
    (h : ∀ A' c' w', Hid (VTab w' B (.slice A' (n + m) c') (es ++ ys)) → Hid (w.grownBy w' v.ownBlock) → K (a.put o.dst (.slice A' (n + m) c')) w') :
    if Region.wanted o (yielded ops a.tmps) = true then Oper.wp Try.prog o a w K Q else E := by
  subst hn hy had
  have hw : Region.wanted o (yielded ops a.tmps) = true := by simp [Region.wanted, hgd]
  rw [if_pos hw]
  obtain ⟨i, hi, z, hz0, hz1, hz2, hz3⟩ := info_host
  obtain ⟨v', w', hrun, h2, h3, _⟩ := run_append_own_wide (P := Try.prog) w B 23 o.type 43 i z 2 32 Try.underlying23 hi hz0 hz1 hz2 hz3 (by decide) v es.length (flatv es) hg ⟨b, o', none⟩ ys.length c (flatv ys) (flatv_len ys)
    (fun j u hj => by
      obtain ⟨b', q, e, _, h3⟩ := vrds_reads hr j u hj
      injection e with e
      injection e with e1 e2
      subst e1 e2
      rw [Addr.add_lit]; exact h3) (flatv_one ys hone) (by unfold maxLen; omega) hl hB
  have hT : VTab w' B v' (es ++ ys) := by
    unfold VTab
    rw [List.length_append, flatv_app]
    exact h2
  obtain ⟨A', c', hv, _, _⟩ := hT.form
  rw [List.length_append] at hv
  subst hv
  unfold Oper.wp execOp
  simp only [ho, resolve, invoke, builtin, Sem.run_bind, Sem.run_pure, Result.andThen_ok, List.map_toArray, List.map_cons, List.map_nil, hs, hx, hrun]
  exact h A' c' w' hT h3


/-! ### Devices -/
theorem d_none {W : World} {l : List It} (h : WRds W none l) : l = [] := by
  cases l with
  | nil => rfl
  | cons x l => obtain ⟨b, o, h1, _⟩ := h 0 x rfl; cases h1
theorem drds_reads {W : World} {A : Option Addr} {l : List It} (h : WRds W A l) : Reads W A (flat l) := fun k v hv => by
  have hk : k / 2 < l.length := by
    have := (List.getElem?_eq_some_iff.1 hv).1
    rw [flat_len] at this; omega
  have e := List.getElem?_eq_getElem hk
  obtain ⟨b, o, h1, h2, h3, h4⟩ := h _ _ e
  obtain ⟨f1, f2⟩ := flat_at e
  refine ⟨b, o, h1, h2, ?_⟩
  have hm : k % 2 = 0 ∨ k % 2 = 1 := by omega
  rcases hm with hm | hm
  · rw [show k = k / 2 * 2 by omega] at hv ⊢
    rw [f1] at hv; rw [← hv]; exact h3
  · rw [show k = k / 2 * 2 + 1 by omega] at hv ⊢
    rw [f2] at hv; rw [← hv, ← Nat.add_assoc]; exact h4
set_option maxRecDepth 100000 in
set_option maxHeartbeats 1000000 in
/-- An empty slice that is not nil. -/
theorem clone_zero_d (ad : Addr) (c : Nat) (W : World) :
    Calls Try.prog 25 #[.slice (some ad) 0 c] W fun e W' => ∃ A' c', e = .returned (.slice A' 0 c') ∧ WTab W' W.heap.size (.slice A' 0 c') [] ∧ Below W.heap.size W W' := by
  have q22 : ∀ (w : World) (a : Option Addr) (n c n' c' : Nat), (binOp .eql 41 (.slice a n c) (.slice none n' c')).run Try.prog w = .ok (.bool a.isNone) w := fun w a n c n' c' => Go.Lib.run_eql_slice_nil w _ _ a n c n' c' Try.underlying41
  go_enter Try.func25, Try.ntmps25
  go_wp2
  go_ret
  exact ⟨some ⟨W.heap.size, 0, none⟩, 0, rfl, World.ownsRow_made W #[] 0 (Nat.le_refl _) (Nat.zero_le _) (by simp), (Below.refl _ W).alloc (Nat.le_refl _) _⟩
set_option maxRecDepth 100000 in
theorem clone_d (A : Option Addr) (l : List It) (n c : Nat) (W : World) (hn : l.length = n) (hbig : n ≤ 8796093022208) (hx : WRds W A l) :
    Calls Try.prog 25 #[.slice A n c] W fun e W' => ∃ A' c', e = .returned (.slice A' n c') ∧ WTab W' W.heap.size (.slice A' n c') l ∧ n ≤ c' ∧ Below W.heap.size W W' := by
  cases A with
  | none =>
    obtain rfl := d_none hx
    obtain rfl : n = 0 := hn.symm
    refine (AnyE.slices_Clone_nil Try.cloneIt 0 c W).mono ?_
    rintro e w ⟨rfl, rfl⟩
    exact ⟨none, 0, rfl, WTab.nil _ _, by omega, Below.refl _ _⟩
  | some a =>
    obtain ⟨i, hi, z, hz0, hz1, hz2, hz3⟩ := info_it
    rcases Nat.eq_zero_or_pos n with h0 | h0
    · subst h0
      obtain rfl := List.eq_nil_of_length_eq_zero hn
      refine (clone_zero_d a c W).mono ?_
      rintro e w ⟨A', c', rfl, hT, hb⟩
      exact ⟨A', c', rfl, hT, by omega, hb⟩
    obtain ⟨b, o, spot⟩ := a
    have hgo : ∀ (b o : Nat), (some (⟨b, o, none⟩ : Addr) = some ⟨b, o, none⟩) → WRds W (some ⟨b, o, none⟩) l → Calls Try.prog 25 #[.slice (some ⟨b, o, none⟩) n c] W fun e W' => ∃ A' c', e = .returned (.slice A' n c') ∧ WTab W' W.heap.size (.slice A' n c') l ∧ n ≤ c' ∧ Below W.heap.size W W' := fun b o _ hx => by
      refine (AnyE.slices_Clone Try.cloneIt i z 2 16 hi hz0 hz1 hz2 hz3 (by omega) Try.sizeOf47 b o n c (flat l) W (by rw [flat_len, hn]) (by unfold maxLen; omega) (by omega) (fun j u hj => ?_) (flat_one l)).mono ?_
      · obtain ⟨b', o', e, _, h3⟩ := drds_reads hx j u hj
        injection e with e
        injection e with e1 e2
        subst e1 e2
        exact h3
      · rintro e w ⟨v, rfl, hr, _, hb⟩
        have hT : WTab w W.heap.size v l := by unfold WTab; rw [hn]; exact hr
        obtain ⟨A', c', hv, hc, _⟩ := hT.form
        rw [hn] at hv hc
        subst hv
        exact ⟨A', c', rfl, hT, hc, hb⟩
    cases spot with
    | none => exact hgo b o rfl hx
    | some s =>
      obtain ⟨b', o', e, _⟩ := hx 0 l[0] (List.getElem?_eq_getElem (by omega))
      cases e

/-! ### Spots -/
/-- v is a slice of the call's own (block B or later) of the tokens. -/
def STab (W : World) (B : Nat) (v : Value) (es : List It) : Prop := W.ownsRow B 31 2 v es.length (flat es)
section
variable {W V : World} {B : Nat} {v : Value} {es : List It}
theorem STab.nil (W : World) (B : Nat) : STab W B (.slice none 0 0) [] := World.ownsRow_nil W B _ 2
theorem STab.form (h : STab W B v es) : ∃ A cap, v = .slice A es.length cap ∧ es.length ≤ cap ∧ cap ≤ maxLen := by
  rcases h.2 with ⟨rfl, hn⟩ | ⟨g, cap, cur, rfl, _, _, h1, h2, _⟩
  · exact ⟨none, 0, by rw [hn], by omega, by simp [maxLen]⟩
  · exact ⟨_, cap, rfl, h1, h2⟩
theorem STab.lt (h : STab W B v es) : ∀ k, v.ownBlock = some k → B ≤ k ∧ k < W.heap.size := World.ownsRow.lt h
theorem STab.later (h : STab W B v es) (hb : Below W.heap.size W V) : STab V B v es :=
  World.ownsRow.kept (row := none) h ⟨hb.os, hb.tape, hb.output, hb.size, fun k hk _ => hb.block k hk⟩ (by cases hv : v.ownBlock <;> simp)
theorem STab.kept {row : Option Nat} (h : STab W B v es) (hg : W.grownBy V row) (hne : v.ownBlock = none ∨ v.ownBlock ≠ row) : STab V B v es := World.ownsRow.kept h hg hne
theorem STab.alloc (h : STab W B v es) (o : Obj) : STab (W.alloc o) B v es := World.ownsRow.alloc h o
theorem STab.drew (h : STab W B v es) : STab W.drew B v es := h
theorem STab.down {B' : Nat} (h : STab W B v es) (hb : B' ≤ B) : STab W B' v es := by
  refine ⟨h.1, ?_⟩
  rcases h.2 with h1 | ⟨g, cap, cur, h1, h2, h3⟩
  · exact .inl h1
  · exact .inr ⟨g, cap, cur, h1, Nat.le_trans hb h2, h3⟩
theorem STab.head {A : Option Addr} {n cap : Nat} (h : STab W B (.slice A n cap) es) (h0 : 0 < es.length) : ∃ g, A = some ⟨g, 0, none⟩ ∧ n = es.length ∧ B ≤ g ∧ g < W.heap.size := by
  have hf := h.form
  obtain ⟨A', c', e, _, _⟩ := hf
  injection e with e1 e2 e3
  rcases h.2 with ⟨e, hn⟩ | ⟨g, cap', cur, e, hb, hg, _⟩
  · omega
  · injection e with e4
    subst e4
    exact ⟨g, rfl, e2, hb, (Array.getElem?_eq_some_iff.1 hg).1⟩
theorem STab.rds {A : Option Addr} {n cap : Nat} (h : STab W B (.slice A n cap) es) : WRds W A es := fun k e hk => by
  have hlt := (List.getElem?_eq_some_iff.1 hk).1
  obtain ⟨g, rfl, hn, _, hg⟩ := h.head (by omega)
  subst hn
  obtain ⟨f1, f2⟩ := flat_at hk
  have hc := fun j hj => World.ownsRow.cellAt h j hj
  refine ⟨g, 0, rfl, hg, ?_, ?_⟩
  · rw [Nat.zero_add, hc _ (by omega), f1]
  · rw [Nat.zero_add, hc _ (by omega), f2]
theorem STab.free {g n cap : Nat} (h : STab W B (.slice (some ⟨g, 0, none⟩) n cap) es) (hn : n = es.length) (j : Nat) : W.frozen? ⟨g, j, none⟩ = false := by
  subst hn; exact World.ownsRow.frozenAt h j
theorem STab.off (h : STab W B v es) {p : Addr} (hp : ∀ g, v.ownBlock = some g → g ≠ p.block) (u : Value) : STab (W.setCell p u) B v es :=
  World.ownsRow.kept (row := some p.block) h ⟨rfl, rfl, rfl, by simp [World.setCell], fun b hb hr => Below.heap_setCell W p u b (fun e => hr (congrArg some e))⟩ (by
    cases hv : v.ownBlock with
    | none => exact .inl rfl
    | some g => exact .inr (fun e => hp g hv (by injection e)))
/-- A token written over. -/
theorem STab.put {g n cap k : Nat} (h : STab W B (.slice (some ⟨g, 0, none⟩) n cap) es) (hn : n = es.length) (hk : k < n) (e : It) :
    STab ((W.setCell ⟨g, k * 2, none⟩ (.int .i64 e.1)).setCell ⟨g, k * 2 + 1, none⟩ (.int .i64 e.2)) B (.slice (some ⟨g, 0, none⟩) n cap) (es.set k e) := by
  subst hn
  unfold STab at h ⊢
  have h1 := (World.ownsRow.stored h (k * 2) (.int .i64 e.1)).1
  have h2 := (World.ownsRow.stored h1 (k * 2 + 1) (.int .i64 e.2)).1
  rw [flat_set es k e hk] at h2
  rw [List.length_set]
  exact h2
end
theorem infoSpot : (Try.prog.info? 31).map (fun i => (i.zero.map (fun z => z.cells.size), i.size, i.bytes)) = some (some 2, 2, 16) := by kernel_rfl
theorem info_spot : ∃ i, Try.prog.info? 31 = some i ∧ ∃ z, i.zero = some z ∧ i.size = 2 ∧ i.bytes = 16 ∧ z.cells.size = 2 := by
  have h0 := infoSpot
  cases hi : Try.prog.info? 31 with
  | none => rw [hi] at h0; cases h0
  | some i =>
    rw [hi] at h0
    simp only [Option.map_some, Option.some.injEq, Prod.mk.injEq] at h0
    cases hz : i.zero with
    | none => rw [hz] at h0; cases h0.1
    | some z =>
      rw [hz] at h0
      simp only [Option.map_some, Option.some.injEq] at h0
      exact ⟨i, rfl, z, hz, h0.2.1, h0.2.2, h0.1⟩
set_option maxRecDepth 100000 in
set_option maxHeartbeats 1000000 in
/-- An empty slice that is not nil. -/
theorem clone_zero_s (ad : Addr) (c : Nat) (W : World) :
    Calls Try.prog 23 #[.slice (some ad) 0 c] W fun e W' => ∃ A' c', e = .returned (.slice A' 0 c') ∧ STab W' W.heap.size (.slice A' 0 c') [] ∧ Below W.heap.size W W' := by
  have q22 : ∀ (w : World) (a : Option Addr) (n c n' c' : Nat), (binOp .eql 24 (.slice a n c) (.slice none n' c')).run Try.prog w = .ok (.bool a.isNone) w := fun w a n c n' c' => Go.Lib.run_eql_slice_nil w _ _ a n c n' c' Try.underlying24
  go_enter Try.func23, Try.ntmps23
  go_wp2
  go_ret
  exact ⟨some ⟨W.heap.size, 0, none⟩, 0, rfl, World.ownsRow_made W #[] 0 (Nat.le_refl _) (Nat.zero_le _) (by simp), (Below.refl _ W).alloc (Nat.le_refl _) _⟩
set_option maxRecDepth 100000 in
theorem clone_s (A : Option Addr) (l : List It) (n c : Nat) (W : World) (hn : l.length = n) (hbig : n ≤ 8796093022208) (hx : WRds W A l) :
    Calls Try.prog 23 #[.slice A n c] W fun e W' => ∃ A' c', e = .returned (.slice A' n c') ∧ STab W' W.heap.size (.slice A' n c') l ∧ n ≤ c' ∧ Below W.heap.size W W' := by
  cases A with
  | none =>
    obtain rfl := d_none hx
    obtain rfl : n = 0 := hn.symm
    refine (AnyE.slices_Clone_nil Try.cloneSpot 0 c W).mono ?_
    rintro e w ⟨rfl, rfl⟩
    exact ⟨none, 0, rfl, STab.nil _ _, by omega, Below.refl _ _⟩
  | some a =>
    obtain ⟨i, hi, z, hz0, hz1, hz2, hz3⟩ := info_spot
    rcases Nat.eq_zero_or_pos n with h0 | h0
    · subst h0
      obtain rfl := List.eq_nil_of_length_eq_zero hn
      refine (clone_zero_s a c W).mono ?_
      rintro e w ⟨A', c', rfl, hT, hb⟩
      exact ⟨A', c', rfl, hT, by omega, hb⟩
    obtain ⟨b, o, spot⟩ := a
    have hgo : ∀ (b o : Nat), (some (⟨b, o, none⟩ : Addr) = some ⟨b, o, none⟩) → WRds W (some ⟨b, o, none⟩) l → Calls Try.prog 23 #[.slice (some ⟨b, o, none⟩) n c] W fun e W' => ∃ A' c', e = .returned (.slice A' n c') ∧ STab W' W.heap.size (.slice A' n c') l ∧ n ≤ c' ∧ Below W.heap.size W W' := fun b o _ hx => by
      refine (AnyE.slices_Clone Try.cloneSpot i z 2 16 hi hz0 hz1 hz2 hz3 (by omega) Try.sizeOf31 b o n c (flat l) W (by rw [flat_len, hn]) (by unfold maxLen; omega) (by omega) (fun j u hj => ?_) (flat_one l)).mono ?_
      · obtain ⟨b', o', e, _, h3⟩ := drds_reads hx j u hj
        injection e with e
        injection e with e1 e2
        subst e1 e2
        exact h3
      · rintro e w ⟨v, rfl, hr, _, hb⟩
        have hT : STab w W.heap.size v l := by unfold STab; rw [hn]; exact hr
        obtain ⟨A', c', hv, hc, _⟩ := hT.form
        rw [hn] at hv hc
        subst hv
        exact ⟨A', c', rfl, hT, hc, hb⟩
    cases spot with
    | none => exact hgo b o rfl hx
    | some s =>
      obtain ⟨b', o', e, _⟩ := hx 0 l[0] (List.getElem?_eq_getElem (by omega))
      cases e
end Go.Proofs.Ytcbecpgllebepaa.Crush
