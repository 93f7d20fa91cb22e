/-
  Package synod: within a call that has boxed an operation and its answer; a ballot is named.
-/
import Derived.Test.YtpoielmbdofjlaaSpB
import Derived.Laws.ResultCell
namespace Go.Proofs.Ytpoielmbdofjlaa.Syn
set_option linter.unusedVariables false
set_option linter.unusedSimpArgs false
open Go.RowKit Mem Gt
open Jump (Gave equalZ_c)

abbrev tOp : TypeId := 37
abbrev tAn : TypeId := 31
def opC (o : VO) : Array Value := #[.int .i64 o.1, .int .i64 o.2.1, .int .u16 (o.2.2.1 : Nat), .int .i64 o.2.2.2]
def anC (x : An) : Array Value := #[.int .i64 x.1, .int .u16 (x.2.1 : Nat), .int .i64 x.2.2]
/-- Ballots that were not there lie beyond what was there. -/
def Nw (p0 : PS) (g0 : Nat → Nat) (S : Nat) (p : PS) (g : Nat → Nat) : Prop := ∀ b, p.seen b = true → p0.seen b = true ∧ g b = g0 b ∨ S ≤ g b
theorem Nw.refl (p : PS) (g : Nat → Nat) (S : Nat) : Nw p g S p g := fun b hb => .inl ⟨hb, rfl⟩
theorem Nw.trans {p0 p1 p2 : PS} {g0 g1 g2 : Nat → Nat} {S T : Nat} (h : Nw p0 g0 S p1 g1) (k : Nw p1 g1 T p2 g2) (hST : S ≤ T) : Nw p0 g0 S p2 g2 := fun b hb => by
  rcases k b hb with ⟨h1, h2⟩ | h1
  · rcases h b h1 with ⟨h3, h4⟩ | h3
    · exact .inl ⟨h3, h2.trans h4⟩
    · exact .inr (by omega)
  · exact .inr (by omega)
structure Mi (B n : Nat) (p0 : PS) (g0 : Nat → Nat) (V : World) (o : VO) (x : An) (p : PS) (g : Nat → Nat) (w : World) : Prop where
  c0 : Co B n p0 g0 V
  co : Co B n p g w
  mv : Mv B p0 g0 V w
  nw : Nw p0 g0 (V.heap.size + 2) p g
  op : Known w V.heap.size tOp (opC o)
  an : Known w (V.heap.size + 1) tAn (anC x)
section
variable {B n : Nat} {p0 p p' : PS} {g0 g g' : Nat → Nat} {V w w' : World} {o : VO} {x y : An}
theorem Mi.start (h : Co B n p g V) : Mi B n p g V o (0, 0, 0) p g ((V.alloc (.cells (opC o) tOp)).alloc (.cells (anC (0, 0, 0)) tAn)) where
  c0 := h
  co := h.later ((low_lit V _).alloc (by simp) _)
  mv := (Mv.refl B p g V).later ((low_lit V _).alloc (by simp) _)
  nw := Nw.refl _ _ _
  op := (Known.made V tOp _).alloc _
  an := by
    have := Known.made (V.alloc (.cells (opC o) tOp)) tAn (anC (0, 0, 0))
    rw [show (V.alloc (.cells (opC o) tOp)).heap.size = V.heap.size + 1 by simp] at this
    exact this
theorem Mi.room (h : Mi B n p0 g0 V o x p g w) : V.heap.size + 2 ≤ w.heap.size := by have := h.an.lt; omega
theorem Mi.off (h : Mi B n p0 g0 V o x p g w) : Off B p g V.heap.size ∧ Off B p g (V.heap.size + 1) := by
  have h4 := h.c0.size
  have hl : ∀ b, p0.seen b = true → g0 b < V.heap.size := fun b hb => (h.c0.ba b hb).2.2.2.lt
  refine ⟨⟨by omega, by omega, fun b hb e => ?_⟩, ⟨by omega, by omega, fun b hb e => ?_⟩⟩
  · rcases h.nw b hb with ⟨h1, h2⟩ | h1
    · have := hl b h1; omega
    · omega
  · rcases h.nw b hb with ⟨h1, h2⟩ | h1
    · have := hl b h1; omega
    · omega
theorem Mi.later (h : Mi B n p0 g0 V o x p g w) (hb : Below w.heap.size w w') : Mi B n p0 g0 V o x p g w' :=
  ⟨h.c0, h.co.later hb, h.mv.later hb, h.nw, h.op.later hb, h.an.later hb⟩
theorem Mi.drewN (h : Mi B n p0 g0 V o x p g w) (q : Nat) : Mi B n p0 g0 V o x p g (w.drewN q) := h.later (Mem.below_drewN (Below.refl _ _) q)
theorem Mi.drew (h : Mi B n p0 g0 V o x p g w) : Mi B n p0 g0 V o x p g w.drew := h.later (Mem.below_drew (Below.refl _ _))
theorem Mi.move (h : Mi B n p0 g0 V o x p g w) (c : Co B n p' g' w') (m : Mv B p g w w') (k : Nw p g w.heap.size p' g') : Mi B n p0 g0 V o x p' g' w' := by
  have hr := h.room
  exact ⟨h.c0, c, h.mv.trans m (fun b hb => by
    rcases h.nw b hb with h1 | h1
    · exact .inl h1
    · exact .inr (by omega)), h.nw.trans k hr, m.known h.op h.off.1, m.known h.an h.off.2⟩
theorem Mi.put (h : Mi B n p0 g0 V o x p g w) (j : Nat) (v : Value) (y : An) (hy : (anC x).setIfInBounds j v = anC y) : Mi B n p0 g0 V o y p g (w.setCell ⟨V.heap.size + 1, j, none⟩ v) := by
  have hg := gr_set w (V.heap.size + 1) j v
  have h4 := h.c0.size
  refine ⟨h.c0, h.co.put h.off.2 (by omega), h.mv.grown hg (.inr (.inr (.inr (by omega)))), h.nw, h.op.off (by show V.heap.size ≠ V.heap.size + 1; omega) v, ?_⟩
  have := h.an.put j v
  rw [hy] at this
  exact this
theorem Mi.put3 (h : Mi B n p0 g0 V o x p g w) (y : An) : Mi B n p0 g0 V o y p g (((w.setCell ⟨V.heap.size + 1, 0, none⟩ (.int .i64 y.1)).setCell ⟨V.heap.size + 1, 1, none⟩ (.int .u16 (y.2.1 : Nat))).setCell ⟨V.heap.size + 1, 2, none⟩ (.int .i64 y.2.2)) :=
  ((h.put 0 _ (y.1, x.2.1, x.2.2) rfl).put 1 _ (y.1, y.2.1, x.2.2) rfl).put 2 _ y rfl
/-- A cell of a ballot is written to. -/
theorem Mi.bal (h : Mi B n p0 g0 V o x p g w) {b j : Nat} {v : Value} (hb : p.seen b = true) (c : Co B n p' g (w.setCell ⟨g b, j, none⟩ v)) (e : p'.seen = p.seen) : Mi B n p0 g0 V o x p' g (w.setCell ⟨g b, j, none⟩ v) :=
  h.move c ((Mv.refl B p g w).grown (gr_set w (g b) j v) (.inr (.inr (.inl ⟨b, hb, rfl⟩)))) (fun c hc => .inl ⟨by rw [← e]; exact hc, rfl⟩)
theorem Mi.o0 (h : Mi B n p0 g0 V o x p g w) : w.cell? ⟨V.heap.size, 0, none⟩ = some (.int .i64 o.1) := h.op.cell 0
theorem Mi.o1 (h : Mi B n p0 g0 V o x p g w) : w.cell? ⟨V.heap.size, 1, none⟩ = some (.int .i64 o.2.1) := h.op.cell 1
theorem Mi.o2 (h : Mi B n p0 g0 V o x p g w) : w.cell? ⟨V.heap.size, 2, none⟩ = some (.int .u16 (o.2.2.1 : Nat)) := h.op.cell 2
theorem Mi.o3 (h : Mi B n p0 g0 V o x p g w) : w.cell? ⟨V.heap.size, 3, none⟩ = some (.int .i64 o.2.2.2) := h.op.cell 3
theorem Mi.a (h : Mi B n p0 g0 V o x p g w) : w.cell? ⟨V.heap.size + 1, 0, none⟩ = some (.int .i64 x.1) ∧ w.cell? ⟨V.heap.size + 1, 1, none⟩ = some (.int .u16 (x.2.1 : Nat)) ∧ w.cell? ⟨V.heap.size + 1, 2, none⟩ = some (.int .i64 x.2.2) ∧
    w.frozen? ⟨V.heap.size + 1, 0, none⟩ = false ∧ w.frozen? ⟨V.heap.size + 1, 1, none⟩ = false ∧ w.frozen? ⟨V.heap.size + 1, 2, none⟩ = false := ⟨h.an.cell 0, h.an.cell 1, h.an.cell 2, h.an.free 0, h.an.free 1, h.an.free 2⟩
theorem size3 : (Try.prog.info? 31).map (·.size) = some 3 := by kernel_rfl
/-- The answer is handed back. -/
theorem Mi.ret {fn : Func} {t : Tmp} (h : Mi B n p0 g0 V o x p g w) (hf : fn.results = #[.cell t tAn]) (tmps : Array Value) (hp : tmps.getD t undef = .pointer (some ⟨V.heap.size + 1, 0, none⟩)) : (results fn tmps).run Try.prog w = .ok (.agg (anC x)) w :=
  results_cell_row hf _ _ (V.heap.size + 1) tAn _ (0, 0) _ hp h.an Try.underlying31 rfl size3
theorem Co.name (h : Co B n p g w) {b G : Nat} {v : Int} (hs : p.seen b = false) (h1 : 1 ≤ b) (h4 : b ≤ 400) (kn : Known w G tB #[.int .i64 v, .int .i64 0, .int .u16 0, .int .u16 0, .bool false]) (hG : B + 4 ≤ G) (hne : ∀ c, p.seen c = true → g c ≠ G)
    {ks : List Int} (hk : KeysOk ks) (hin : ∀ c : Nat, p.seen c = true ↔ (c : Int) ∈ ks) (hm : GMap w' (B + 1) (.pointer none) (setI (fun x => ptrV g p x.toNat) b (.pointer (some ⟨G, 0, none⟩))) (addK ks b)) (hg : w.grownBy w' (some (B + 1))) :
    Co B n (pname p b v) (upd g b G) w' := by
  obtain ⟨q0, q1, q2, q3, q4⟩ := h.keep hg
  unfold pname
  rw [if_neg (by simp [hs])]
  have so : ∀ c, upd p.seen b true c = true → c ≠ b → p.seen c = true := fun c hc e => by rwa [upd_other _ _ e] at hc
  refine ⟨q0, q1 (by simp), ⟨_, hk.add h1 h4, fun c => ?_, hm.congr (fun z => ?_)⟩, (q3 (by simp)).1, (q3 (by simp)).2, fun c hc => ?_, fun c d hc hd hcd => ?_, fun k hk => ?_⟩
  · show upd p.seen b true c = true ↔ _
    rw [mem_addK]
    by_cases e : c = b
    · subst e; rw [upd_same]; simp
    · rw [upd_other _ _ e, hin c]
      exact ⟨.inr, fun h => h.resolve_left (fun e' => e (by omega))⟩
  · unfold setI ptrV
    by_cases e : z = (b : Int)
    · subst e
      rw [if_pos rfl]
      simp only [Int.toNat_natCast]
      rw [upd_same, if_pos rfl, upd_same]
    · rw [if_neg e]
      by_cases e2 : z.toNat = b
      · omega
      · simp only [upd_other _ _ e2]
  · have hc : upd p.seen b true c = true := hc
    by_cases e : c = b
    · subst e
      rw [upd_same]
      refine ⟨hG, by show upd p.pb c 0 c < _; rw [upd_same]; omega, by show upd p.ab c 0 c < _; rw [upd_same]; omega, ?_⟩
      unfold balC
      simp only [upd_same]
      exact known_gr kn hg (fun e => by injection e with e; omega)
    · have hc' := so c hc e
      rw [upd_other _ _ e]
      refine ⟨(h.ba c hc').1, by show upd p.pb b 0 c < _; rw [upd_other _ _ e]; exact (h.ba c hc').2.1, by show upd p.ab b 0 c < _; rw [upd_other _ _ e]; exact (h.ba c hc').2.2.1, ?_⟩
      have := q4 c hc' (fun e => by injection e with e; have := (h.ba c hc').1; omega)
      unfold balC at this ⊢
      simp only [upd_other _ _ e]
      exact this
  · have hc : upd p.seen b true c = true := hc
    have hd : upd p.seen b true d = true := hd
    by_cases e : c = b
    · subst e
      have e2 : d ≠ c := fun e => hcd e.symm
      rw [upd_same, upd_other _ _ e2]
      exact fun e' => hne d (so d hd e2) e'.symm
    · rw [upd_other _ _ e]
      by_cases e2 : d = b
      · subst e2; rw [upd_same]; exact hne c (so c hc e)
      · rw [upd_other _ _ e2]; exact h.ne c d (so c hc e) (so d hd e2) hcd
  · show upd p.seen b true (p.last k) = true
    unfold upd
    split
    · rfl
    · exact h.lo k hk
end
end Go.Proofs.Ytpoielmbdofjlaa.Syn
