/-
  Package locks: what the document's own answer keeps in memory: a map of rows, the errors; the locks that it makes.
-/
import Derived.Test.YtdkgclgccicbeaaLkRp
import Derived.Test.YtdkgclgccicbeaaLkMem
import Derived.Test.YtdkgclgccicbeaaGNMap
import Derived.Test.YtdkgclgccicbeaaGApp
namespace Go.Proofs.Ytdkgclgccicbeaa.Lk
set_option linter.unusedVariables false
set_option linter.unusedSimpArgs false
open Go.RowKit Mem Gt

abbrev tSw : TypeId := 52
abbrev tEr : TypeId := 28
def swE : Enc SW 4 := ⟨fun o => [.int .i64 o.1.1, .int .i64 o.1.2.1, .int .i64 o.1.2.2, .bool o.2], fun _ => rfl, fun x v hv => by simp at hv; rcases hv with rfl | rfl | rfl | rfl <;> rfl⟩
theorem elSw : El 50 52 4 32 := El.of Try.underlying50 (by kernel_rfl)
theorem zeroSl (w : World) : (zeroValue 50).run Try.prog w = .ok (.slice none 0 0) w := by kernel_rfl
section
variable {α : Type} {sz : Nat} {E : Enc α sz}
theorem flat_set1 : ∀ {l : List α} {k : Nat} {x y : α} {j : Nat} {v : Value}, l[k]? = some x → E.enc y = (E.enc x).set j v → j < sz → flat E (l.set k y) = (flat E l).set (k * sz + j) v
  | [], k, x, y, j, v, h, _, _ => by simp at h
  | a :: l, 0, x, y, j, v, h, he, hj => by
    simp at h
    subst h
    rw [List.set_cons_zero, flat_cons, flat_cons, he, Nat.zero_mul, Nat.zero_add, List.set_append_left _ _ (by rw [E.len]; exact hj)]
  | a :: l, k + 1, x, y, j, v, h, he, hj => by
    have h' : l[k]? = some x := by simpa using h
    rw [List.set_cons_succ, flat_cons, flat_cons, flat_set1 h' he hj, List.set_append_right _ _ (by rw [E.len, Nat.add_mul, Nat.one_mul]; omega), E.len]
    congr 2
    rw [Nat.add_mul, Nat.one_mul]; omega
/-- One cell of a row of the call's own is written to. -/
theorem Tab.set1 {W : World} {B : Nat} {e : TypeId} {g n c : Nat} {l : List α} (h : Tab E W B e (.slice (some ⟨g, 0, none⟩) n c) l) (hn : n = l.length) {k : Nat} {x y : α} {j : Nat} {v : Value} (hx : l[k]? = some x) (he : E.enc y = (E.enc x).set j v) (hj : j < sz) :
    Tab E (W.setCell ⟨g, k * sz + j, none⟩ v) B e (.slice (some ⟨g, 0, none⟩) n c) (l.set k y) := by
  subst hn
  unfold Tab at h ⊢
  rw [List.length_set, flat_set1 hx he hj]
  exact (World.ownsRow.stored h _ _).1
end
theorem gr_set (V : World) (g k : Nat) (v : Value) : V.grownBy (V.setCell ⟨g, k, none⟩ v) (some g) :=
  ⟨rfl, rfl, rfl, by simp [World.setCell], fun b hb hr => Below.heap_setCell V ⟨g, k, none⟩ v b (fun e => hr (congrArg some e))⟩
theorem known_grown {W V : World} {g : Nat} {t : TypeId} {cs : Array Value} {row : Option Nat} (h : Known W g t cs) (hg : W.grownBy V row) (hne : some g ≠ row) : Known V g t cs := (hg.block g h.lt hne).trans h
theorem grow_of_below {W V : World} (h : Below W.heap.size W V) : W.grownBy V none := ⟨h.os, h.tape, h.output, h.size, fun k hk _ => h.block k hk⟩
def setR (f : Int → List SW) (x : Int) (v : List SW) : Int → List SW := fun y => if y = x then v else f y
theorem setR_same (f : Int → List SW) (x : Int) (v : List SW) : setR f x v x = v := if_pos rfl
theorem setR_other (f : Int → List SW) {x y : Int} (v : List SW) (h : y ≠ x) : setR f x v y = f y := if_neg h
/-- The map with its rows, and the errors. -/
structure MSt (W0 W : World) (f : Int → Value) (ks : List Int) (rw : Int → List SW) (v : Value) (es : List Int) (nk : Nat) : Prop where
  mp : NMap W W0.heap.size (.slice none 0 0) f ks
  kl : ks.length ≤ nk
  kf : ∀ x ∈ ks, Fit x
  row : ∀ x, Tab swE W (W0.heap.size + 1) tSw (f x) (rw x)
  apart : ∀ x y, x ≠ y → ∀ g, (f x).ownBlock = some g → (f y).ownBlock ≠ some g
  er : Tab erE W (W0.heap.size + 1) tEr v es
  erA : ∀ x g, (f x).ownBlock = some g → v.ownBlock ≠ some g
  no : ∀ x, x ∉ ks → rw x = []
  below : Below W0.heap.size W0 W
section
variable {W0 W V W1 W2 : World} {f : Int → Value} {ks : List Int} {rw : Int → List SW} {v : Value} {es : List Int} {nk : Nat}
theorem MSt.start (W0 : World) : MSt W0 (W0.alloc (.map #[] 0)) (fun _ => .slice none 0 0) [] (fun _ => []) (.slice none 0 0) [] 0 :=
  ⟨NMap.made W0 _, Nat.le_refl _, fun x h => by simp at h, fun x => Tab.nil _ _ _, fun x y _ g h => by simp [Value.ownBlock] at h, Tab.nil _ _ _, fun x g h => by simp [Value.ownBlock] at h, fun x _ => rfl, low_lit _ _⟩
theorem MSt.lt (h : MSt W0 W f ks rw v es nk) : W0.heap.size + 1 ≤ W.heap.size := h.mp.lt
theorem MSt.later (h : MSt W0 W f ks rw v es nk) (hb : Below W.heap.size W V) : MSt W0 V f ks rw v es nk :=
  ⟨h.mp.later hb, h.kl, h.kf, fun x => (h.row x).later hb, h.apart, h.er.later hb, h.erA, h.no, h.below.trans (hb.mono h.below.size)⟩
theorem MSt.congr {rw' : Int → List SW} (h : MSt W0 W f ks rw v es nk) (e : ∀ x, rw x = rw' x) : MSt W0 W f ks rw' v es nk := by
  obtain rfl : rw = rw' := funext e
  exact h
theorem MSt.more {m : Nat} (h : MSt W0 W f ks rw v es nk) (hm : nk ≤ m) : MSt W0 W f ks rw v es m := ⟨h.mp, Nat.le_trans h.kl hm, h.kf, h.row, h.apart, h.er, h.erA, h.no, h.below⟩
theorem MSt.form (h : MSt W0 W f ks rw v es nk) (x : Int) {n : Nat} (hn : (rw x).length = n) : ∃ A c, f x = .slice A n c ∧ n ≤ c ∧ c ≤ maxLen ∧ Reads W A (flat swE (rw x)) ∧ (0 < n → ∃ g, A = some ⟨g, 0, none⟩ ∧ W0.heap.size + 1 ≤ g ∧ g < W.heap.size) := by
  subst hn
  have ht := h.row x
  obtain ⟨A, c, e, h1, h2⟩ := ht.form
  rw [e] at ht
  refine ⟨A, c, e, h1, h2, ht.reads, fun h0 => ?_⟩
  obtain ⟨g, e1, _, h3, h4⟩ := ht.head h0
  exact ⟨g, e1, h3, h4⟩
theorem MSt.look (h : MSt W0 W f ks rw v es nk) (x : Int) (hx : Fit x) : (Instr.lookup 49 (.map (some W0.heap.size)) (.int .i64 x) false).run Try.prog W = .ok (f x) W :=
  h.mp.look Try.underlying49 (zeroSl W) x (wf_of hx)
theorem MSt.own (h : MSt W0 W f ks rw v es nk) (x : Int) {g : Nat} (hg : (f x).ownBlock = some g) : W0.heap.size + 1 ≤ g ∧ g < W.heap.size := (h.row x).lt g hg
/-- A row has turned, or is another one; the map says so. -/
theorem MSt.upd (h : MSt W0 W f ks rw v es nk) {x : Int} {r : Option Nat} {u : Value} {l' : List SW} (hf : Fit x) (hr : r = none ∨ r = (f x).ownBlock) (hg : W.grownBy W1 r) (T : Tab swE W1 (W0.heap.size + 1) tSw u l') (hu : ∀ g, u.ownBlock = some g → (f x).ownBlock = some g ∨ W.heap.size ≤ g)
    (hm : NMap W2 W0.heap.size (.slice none 0 0) (setI f x u) (addK ks x)) (hg2 : W1.grownBy W2 (some W0.heap.size)) : MSt W0 W2 (setI f x u) (addK ks x) (setR rw x l') v es (nk + 1) := by
  have hru : ∀ g, r = some g → (f x).ownBlock = some g := fun g e => by
    rcases hr with e' | e'
    · rw [e'] at e; cases e
    · rw [← e']; exact e
  have hrl : ∀ g, r = some g → W0.heap.size + 1 ≤ g := fun g e => (h.own x (hru g e)).1
  have hs := h.lt
  have ne2 : ∀ {w : Value}, (∀ g, w.ownBlock = some g → W0.heap.size + 1 ≤ g) → (w.ownBlock = none ∨ w.ownBlock ≠ some W0.heap.size) := fun {w} hw => by
    cases e : w.ownBlock with
    | none => exact .inl rfl
    | some g => exact .inr (fun e' => by injection e' with e'; have := hw g e; omega)
  have ne1 : ∀ {w : Value}, (∀ g, (f x).ownBlock = some g → w.ownBlock ≠ some g) → (w.ownBlock = none ∨ w.ownBlock ≠ r) := fun {w} hw => by
    cases e : w.ownBlock with
    | none => exact .inl rfl
    | some g => exact .inr (fun e' => hw g (hru g e'.symm) e)
  refine ⟨hm, ?_, fun y hy => ?_, fun y => ?_, fun y z hyz g hg' => ?_, ?_, fun y g hg' => ?_, fun y hy => ?_, ?_⟩
  · unfold addK
    split
    · have := h.kl; omega
    · have := h.kl; simp; omega
  · rcases mem_addK.1 hy with rfl | hy
    · exact hf
    · exact h.kf y hy
  · by_cases e : y = x
    · subst e
      rw [setI_same, setR_same]
      exact T.kept hg2 (ne2 fun g hg => (T.lt g hg).1)
    · rw [setI_other _ _ e, setR_other _ _ e]
      exact ((h.row y).kept hg (ne1 fun g hg => fun e' => h.apart x y (fun e2 => e e2.symm) g hg e')).kept hg2 (ne2 fun g hg => (h.own y hg).1)
  · by_cases e : y = x
    · subst e
      rw [setI_same] at hg'
      rw [setI_other _ _ (fun e2 => hyz e2.symm)]
      rcases hu g hg' with h1 | h1
      · exact h.apart y z hyz g h1
      · intro e2; have := (h.own z e2).2; omega
    · rw [setI_other _ _ e] at hg'
      by_cases e2 : z = x
      · subst e2
        rw [setI_same]
        intro e3
        rcases hu g e3 with h1 | h1
        · exact h.apart y z hyz g hg' h1
        · have := (h.own y hg').2; omega
      · rw [setI_other _ _ e2]; exact h.apart y z hyz g hg'
  · exact (h.er.kept hg (ne1 fun g hg => h.erA x g hg)).kept hg2 (ne2 fun g hg => (h.er.lt g hg).1)
  · by_cases e : y = x
    · subst e
      rw [setI_same] at hg'
      rcases hu g hg' with h1 | h1
      · exact h.erA y g h1
      · intro e2; have := (h.er.lt g e2).2; omega
    · rw [setI_other _ _ e] at hg'; exact h.erA y g hg'
  · have h1 : y ≠ x := fun e => hy (mem_addK.2 (.inl e))
    rw [setR_other _ _ h1]
    exact h.no y (fun e => hy (mem_addK.2 (.inr e)))
  · refine (h.below.grown hg h.below.size (fun g e => by have := hrl g e; omega)).grown hg2 (Nat.le_trans h.below.size hg.size) (fun g e => by injection e with e; omega)
/-- The map where a row has turned. -/
theorem MSt.mp1 (h : MSt W0 W f ks rw v es nk) {x : Int} {r : Option Nat} (hr : r = none ∨ r = (f x).ownBlock) (hg : W.grownBy W1 r) : NMap W1 W0.heap.size (.slice none 0 0) f ks :=
  h.mp.kept hg (fun e => by
    rcases hr with e' | e'
    · rw [e'] at e; cases e
    · rw [e'] at e; have := (h.own x e.symm).1; omega)
/-- A flag is set. -/
theorem MSt.flag (h : MSt W0 W f ks rw v es nk) {x : Int} {g n c k : Nat} (hf : f x = .slice (some ⟨g, 0, none⟩) n c) (hn : n = (rw x).length) {y : SW} (hy : (rw x)[k]? = some y) (b : Bool) :
    MSt W0 (W.setCell ⟨g, k * 4 + 3, none⟩ (.bool b)) f ks (setR rw x ((rw x).set k (y.1, b))) v es nk := by
  have hfo : (f x).ownBlock = some g := by rw [hf]; rfl
  have hgl := h.own x hfo
  have hgr := gr_set W g (k * 4 + 3) (.bool b)
  refine ⟨h.mp.setCell (a := ⟨g, k * 4 + 3, none⟩) (by show W0.heap.size ≠ g; omega) _, h.kl, h.kf, fun z => ?_, h.apart, ?_, h.erA, fun z hz => ?_, h.below.setCell (p := ⟨g, k * 4 + 3, none⟩) (by show W0.heap.size ≤ g; omega) _⟩
  · by_cases e : z = x
    · subst e
      rw [setR_same]
      have ht := h.row z
      rw [hf] at ht ⊢
      exact Tab.set1 ht hn hy rfl (by decide)
    · rw [setR_other _ _ e]
      exact (h.row z).kept hgr (by
        cases e' : (f z).ownBlock with
        | none => exact .inl rfl
        | some q => exact .inr (fun e2 => h.apart x z (fun e3 => e e3.symm) g hfo (by rw [e', e2])))
  · exact h.er.kept hgr (by
      cases e' : v.ownBlock with
      | none => exact .inl rfl
      | some q => exact .inr (fun e2 => h.erA x g hfo (by rw [e', e2])))
  · have := h.no z hz
    unfold setR
    split
    · rename_i e
      subst e
      rw [this] at hy
      simp at hy
    · exact this
/-- An error more. -/
theorem MSt.err (h : MSt W0 W f ks rw v es nk) {v' : Value} {es' : List Int} (hg : W.grownBy V v.ownBlock) (T : Tab erE V (W0.heap.size + 1) tEr v' es') (hu : ∀ g, v'.ownBlock = some g → v.ownBlock = some g ∨ W.heap.size ≤ g) : MSt W0 V f ks rw v' es' nk := by
  refine ⟨h.mp.kept hg (fun e => by have := (h.er.lt _ e.symm).1; omega), h.kl, h.kf, fun x => (h.row x).kept hg ?_, h.apart, T, fun x g hg' e => ?_, h.no, h.below.grown hg h.below.size (fun g e => by have := (h.er.lt g e).1; omega)⟩
  · cases e' : (f x).ownBlock with
    | none => exact .inl rfl
    | some q => exact .inr (fun e2 => h.erA x q e' e2.symm)
  · rcases hu g e with h1 | h1
    · exact h.erA x g hg' h1
    · have := (h.own x hg').2; omega
end
end Go.Proofs.Ytdkgclgccicbeaa.Lk
