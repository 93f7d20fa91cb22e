/-
  The document's own answer, NPlay: what lies in memory while it runs; its closure.
-/
import Derived.Test.YtpoielmbdofjlaaSyMem
import Derived.Test.YtpoielmbdofjlaaSyPure3
import Derived.Test.YtpoielmbdofjlaaGMap
import Derived.RangeFuncBox
namespace Go.Proofs.Ytpoielmbdofjlaa.Syn
set_option linter.unusedVariables false
set_option linter.unusedSimpArgs false
open Go.RowKit Mem Gt
open Jump (Gave equalZ_c)

def nvE : Enc Nv 3 := ⟨fun v => [.int .i64 (v.1 : Nat), .int .i64 (v.2.1 : Nat), .int .i64 v.2.2], fun _ => rfl, fun x v hv => by simp at hv; rcases hv with rfl | rfl | rfl <;> rfl⟩
theorem elNv : El 50 55 3 24 := El.of Try.underlying50 (by kernel_rfl)
theorem nv_at {W : World} {A : Option Addr} {l : List Nv} (h : Reads W A (flat nvE l)) {k : Nat} {x : Nv} (hk : l[k]? = some x) :
    ∃ b o, A = some ⟨b, o, none⟩ ∧ b < W.heap.size ∧ W.cell? ⟨b, o + k * 3, none⟩ = some (.int .i64 (x.1 : Nat)) ∧ W.cell? ⟨b, o + k * 3 + 1, none⟩ = some (.int .i64 (x.2.1 : Nat)) ∧ W.cell? ⟨b, o + k * 3 + 2, none⟩ = some (.int .i64 x.2.2) := by
  obtain ⟨b, o, e, hb, hc⟩ := rds_at nvE (by decide) h hk
  exact ⟨b, o, e, hb, hc 0 _ rfl, hc 1 _ rfl, hc 2 _ rfl⟩
abbrev tN : TypeId := 55
abbrev tA : TypeId := 31
def nilV : Value := .slice none 0 0
/-- Keys: ballots, each once. -/
def KeyOk (ks : List Int) : Prop := ks.Nodup ∧ ∀ x ∈ ks, 1 ≤ x ∧ x ≤ 400
theorem KeyOk.nil : KeyOk [] := ⟨List.nodup_nil, fun x h => by simp at h⟩
theorem KeyOk.add {ks : List Int} (h : KeyOk ks) {b : Nat} (h1 : 1 ≤ b) (h2 : b ≤ 400) : KeyOk (addK ks b) := by
  unfold addK
  split
  · exact h
  · rename_i hn
    refine ⟨List.nodup_append.2 ⟨h.1, by simp, fun a ha c hc e => ?_⟩, fun x hx => ?_⟩
    · simp at hc; subst hc; exact hn (e ▸ ha)
    · rcases List.mem_append.1 hx with hx | hx
      · exact h.2 x hx
      · simp at hx; omega
theorem KeyOk.len {ks : List Int} (h : KeyOk ks) : ks.length < 1000000 := by
  have h1 : (ks.map Int.toNat).Nodup := by
    refine List.pairwise_map.2 (List.Pairwise.imp_of_mem (fun {x y} hx hy hne => ?_) h.1)
    have := h.2 x hx
    have := h.2 y hy
    omega
  have := nodup_le 401 (ks.map Int.toNat) h1 (fun x hx => by
    obtain ⟨y, hy, rfl⟩ := List.mem_map.1 hx
    have := h.2 y hy
    omega)
  rw [List.length_map] at this
  omega
/-- Votes: those accepted (va), and those behind each ballot's promises (pv). -/
structure Pm (V : World) (C : Nat) (pv : Nat → Value) (va : Value) (acc : List Nv) (pr : Nat → List Nv) : Prop where
  acc : Tab nvE V C tN va acc
  pr : ∀ b, Tab nvE V C tN (pv b) (pr b)
  aa : ∀ b, (pv b).ownBlock = none ∨ (pv b).ownBlock ≠ va.ownBlock
  ab : ∀ b c, b ≠ c → (pv b).ownBlock = none ∨ (pv b).ownBlock ≠ (pv c).ownBlock
theorem Pm.kept {V V' : World} {C : Nat} {pv : Nat → Value} {va : Value} {acc : List Nv} {pr : Nat → List Nv} {r : Option Nat} (h : Pm V C pv va acc pr) (hg : V.grownBy V' r) (h1 : va.ownBlock = none ∨ va.ownBlock ≠ r) (h2 : ∀ b, (pv b).ownBlock = none ∨ (pv b).ownBlock ≠ r) : Pm V' C pv va acc pr :=
  ⟨h.acc.kept hg h1, fun b => (h.pr b).kept hg (h2 b), h.aa, h.ab⟩
/-- What lies there (the base is W). -/
structure St (W : World) (n : Nat) (s : S) (V : World) (va vo : Value) (outs : List An) (pv : Nat → Value) : Prop where
  below : Below W.heap.size W V
  size : W.heap.size + 7 ≤ V.heap.size
  prom : ∀ k, k < n → V.cell? ⟨W.heap.size, k, none⟩ = some (.int .i64 (s.prom k : Nat)) ∧ V.frozen? ⟨W.heap.size, k, none⟩ = false
  b10 : V.cell? ⟨W.heap.size + 2, 0, none⟩ = some (.map (some (W.heap.size + 1)))
  b11 : V.cell? ⟨W.heap.size + 6, 0, none⟩ = some (.map (some (W.heap.size + 3)))
  mp : ∃ ks, KeyOk ks ∧ GMap V (W.heap.size + 1) nilV (fun x => pv x.toNat) ks
  mf : ∃ ks, KeyOk ks ∧ GMap V (W.heap.size + 3) (.int .i64 0) (fun x => .int .i64 (s.first x.toNat)) ks
  ms : ∃ ks, KeyOk ks ∧ GMap V (W.heap.size + 4) (.bool false) (fun x => .bool (s.seen x.toNat)) ks
  mx : ∃ ks, KeyOk ks ∧ GMap V (W.heap.size + 5) (.bool false) (fun x => .bool (s.fixed x.toNat)) ks
  out : Tab anE V (W.heap.size + 7) tA vo outs
  pm : Pm V (W.heap.size + 7) pv va s.acc s.pr
section
variable {W V V' : World} {n : Nat} {s : S} {va vo : Value} {outs : List An} {pv : Nat → Value}
theorem hi_ne {α : Type} {sz : Nat} {E : Enc α sz} {e : TypeId} {v : Value} {l : List α} {C r : Nat} (h : Tab E V C e v l) (hr : r < C) : v.ownBlock = none ∨ v.ownBlock ≠ some r := by
  cases hv : v.ownBlock with
  | none => exact .inl rfl
  | some g => exact .inr (fun e => by injection e with e; have := (h.lt g hv).1; omega)
theorem low_ne {α : Type} {sz : Nat} {E : Enc α sz} {e : TypeId} {v : Value} {l : List α} {C r : Nat} (h : Tab E V C e v l) (hr : r < C) : some r ≠ v.ownBlock := by
  cases hv : v.ownBlock with
  | none => simp
  | some g => exact fun e => by injection e with e; have := (h.lt g hv).1; omega
/-- Slices of other elements lie elsewhere. -/
theorem other_ne {α β : Type} {sz sz' : Nat} {E : Enc α sz} {F : Enc β sz'} {e e' : TypeId} {v v' : Value} {l : List α} {l' : List β} {C C' : Nat} (h : Tab E V C e v l) (k : Tab F V C' e' v' l') (hne : e ≠ e') : v.ownBlock = none ∨ v.ownBlock ≠ v'.ownBlock := by
  rcases h.2 with ⟨rfl, _⟩ | ⟨g, cap, cur, rfl, _, hg, _⟩
  · exact .inl rfl
  · rcases k.2 with ⟨rfl, _⟩ | ⟨g', cap', cur', rfl, _, hg', _⟩
    · exact .inr (by simp [Value.ownBlock])
    · refine .inr fun e => ?_
      simp [Value.ownBlock] at e
      subst e
      rw [hg] at hg'
      injection hg' with hg'
      injection hg' with _ h2
      exact hne h2
theorem cell_keep {a : Addr} {v : Value} {r : Option Nat} (hg : V.grownBy V' r) (h : V.cell? a = some v) (hne : some a.block ≠ r) : V'.cell? a = some v := hg.cell h hne
theorem St.later (h : St W n s V va vo outs pv) (hb : Below V.heap.size V V') : St W n s V' va vo outs pv where
  below := h.below.trans (hb.mono h.below.size)
  size := Nat.le_trans h.size hb.size
  prom := fun k hk => by
    have hs := h.size
    have hc := (h.prom k hk).1
    have e := hb.block W.heap.size (by omega)
    exact ⟨(World.cell?_of_block (a := ⟨W.heap.size, k, none⟩) e).trans hc, (World.frozen?_of_block (a := ⟨W.heap.size, k, none⟩) e).trans (h.prom k hk).2⟩
  b10 := (hb.cell (World.block_lt_of_cell? _ _ h.b10)).trans h.b10
  b11 := (hb.cell (World.block_lt_of_cell? _ _ h.b11)).trans h.b11
  mp := by obtain ⟨ks, h1, h2⟩ := h.mp; exact ⟨ks, h1, h2.later hb⟩
  mf := by obtain ⟨ks, h1, h2⟩ := h.mf; exact ⟨ks, h1, h2.later hb⟩
  ms := by obtain ⟨ks, h1, h2⟩ := h.ms; exact ⟨ks, h1, h2.later hb⟩
  mx := by obtain ⟨ks, h1, h2⟩ := h.mx; exact ⟨ks, h1, h2.later hb⟩
  out := h.out.later hb
  pm := h.pm.kept (r := none) ⟨hb.os, hb.tape, hb.output, hb.size, fun k hk _ => hb.block k hk⟩ (by cases hv : va.ownBlock <;> simp) (fun b => by cases hv : (pv b).ownBlock <;> simp)
/-- All but one block of the call's own. -/
theorem St.keep (h : St W n s V va vo outs pv) {r : Nat} (hg : V.grownBy V' (some r)) (hr : W.heap.size ≤ r) (hr2 : r < W.heap.size + 7) :
    Below W.heap.size W V' ∧ W.heap.size + 7 ≤ V'.heap.size ∧ (r ≠ W.heap.size → ∀ k, k < n → V'.cell? ⟨W.heap.size, k, none⟩ = some (.int .i64 (s.prom k : Nat)) ∧ V'.frozen? ⟨W.heap.size, k, none⟩ = false) ∧
    (r ≠ W.heap.size + 2 → V'.cell? ⟨W.heap.size + 2, 0, none⟩ = some (.map (some (W.heap.size + 1)))) ∧ (r ≠ W.heap.size + 6 → V'.cell? ⟨W.heap.size + 6, 0, none⟩ = some (.map (some (W.heap.size + 3)))) ∧
    (r ≠ W.heap.size + 1 → ∃ ks, KeyOk ks ∧ GMap V' (W.heap.size + 1) nilV (fun x => pv x.toNat) ks) ∧ (r ≠ W.heap.size + 3 → ∃ ks, KeyOk ks ∧ GMap V' (W.heap.size + 3) (.int .i64 0) (fun x => .int .i64 (s.first x.toNat)) ks) ∧
    (r ≠ W.heap.size + 4 → ∃ ks, KeyOk ks ∧ GMap V' (W.heap.size + 4) (.bool false) (fun x => .bool (s.seen x.toNat)) ks) ∧ (r ≠ W.heap.size + 5 → ∃ ks, KeyOk ks ∧ GMap V' (W.heap.size + 5) (.bool false) (fun x => .bool (s.fixed x.toNat)) ks) ∧
    Tab anE V' (W.heap.size + 7) tA vo outs ∧ Pm V' (W.heap.size + 7) pv va s.acc s.pr := by
  have hs := h.size
  have ne : ∀ {q : Nat}, r ≠ q → some q ≠ some r := fun h e => h (by injection e with e; exact e.symm)
  refine ⟨h.below.grown hg (by omega) (fun k hk => by injection hk with hk; omega), Nat.le_trans hs hg.size, fun hr k hk => ?_, fun hr => cell_keep hg h.b10 (ne hr), fun hr => cell_keep hg h.b11 (ne hr), fun hr => ?_, fun hr => ?_, fun hr => ?_, fun hr => ?_, h.out.kept hg (hi_ne h.out hr2), h.pm.kept hg (hi_ne h.pm.acc hr2) (fun b => hi_ne (h.pm.pr b) hr2)⟩
  · have e := hg.block W.heap.size (by omega) (ne hr)
    exact ⟨(World.cell?_of_block (a := ⟨W.heap.size, k, none⟩) e).trans (h.prom k hk).1, (World.frozen?_of_block (a := ⟨W.heap.size, k, none⟩) e).trans (h.prom k hk).2⟩
  · obtain ⟨ks, h1, h2⟩ := h.mp; exact ⟨ks, h1, h2.kept hg (ne hr)⟩
  · obtain ⟨ks, h1, h2⟩ := h.mf; exact ⟨ks, h1, h2.kept hg (ne hr)⟩
  · obtain ⟨ks, h1, h2⟩ := h.ms; exact ⟨ks, h1, h2.kept hg (ne hr)⟩
  · obtain ⟨ks, h1, h2⟩ := h.mx; exact ⟨ks, h1, h2.kept hg (ne hr)⟩
theorem setI_nat {α : Type} {f : Nat → α} (g : α → Value) {b : Nat} (hb : 1 ≤ b) (v : α) : ∀ x : Int, setI (fun x => g (f x.toNat)) b (g v) x = g (upd f b v x.toNat) := fun x => by
  unfold setI upd
  by_cases e : x = (b : Int)
  · rw [if_pos e, if_pos (by omega)]
  · rw [if_neg e, if_neg (by omega)]
theorem St.seen1 (h : St W n s V va vo outs pv) {b : Nat} (h1 : 1 ≤ b) (h2 : b ≤ 400) {ks : List Int} (hk : KeyOk ks) (hm : GMap V' (W.heap.size + 4) (.bool false) (setI (fun x => .bool (s.seen x.toNat)) b (.bool true)) (addK ks b)) (hg : V.grownBy V' (some (W.heap.size + 4))) :
    St W n { s with seen := upd s.seen b true } V' va vo outs pv := by
  obtain ⟨q1, q2, q3, q4, q5, q6, q7, q8, q9, q10, q11⟩ := h.keep hg (by omega) (by omega)
  exact ⟨q1, q2, q3 (by omega), q4 (by omega), q5 (by omega), q6 (by omega), q7 (by omega), ⟨_, hk.add h1 h2, hm.congr (setI_nat Value.bool h1 true)⟩, q9 (by omega), q10, q11⟩
theorem St.first1 (h : St W n s V va vo outs pv) {b : Nat} {v : Int} (h1 : 1 ≤ b) (h2 : b ≤ 400) {ks : List Int} (hk : KeyOk ks) (hm : GMap V' (W.heap.size + 3) (.int .i64 0) (setI (fun x => .int .i64 (s.first x.toNat)) b (.int .i64 v)) (addK ks b)) (hg : V.grownBy V' (some (W.heap.size + 3))) :
    St W n { s with first := upd s.first b v } V' va vo outs pv := by
  obtain ⟨q1, q2, q3, q4, q5, q6, q7, q8, q9, q10, q11⟩ := h.keep hg (by omega) (by omega)
  exact ⟨q1, q2, q3 (by omega), q4 (by omega), q5 (by omega), q6 (by omega), ⟨_, hk.add h1 h2, hm.congr (setI_nat (Value.int .i64) h1 v)⟩, q8 (by omega), q9 (by omega), q10, q11⟩
theorem St.fixed1 (h : St W n s V va vo outs pv) {b : Nat} {v : Bool} (h1 : 1 ≤ b) (h2 : b ≤ 400) {ks : List Int} (hk : KeyOk ks) (hm : GMap V' (W.heap.size + 5) (.bool false) (setI (fun x => .bool (s.fixed x.toNat)) b (.bool v)) (addK ks b)) (hg : V.grownBy V' (some (W.heap.size + 5))) :
    St W n { s with fixed := upd s.fixed b v } V' va vo outs pv := by
  obtain ⟨q1, q2, q3, q4, q5, q6, q7, q8, q9, q10, q11⟩ := h.keep hg (by omega) (by omega)
  exact ⟨q1, q2, q3 (by omega), q4 (by omega), q5 (by omega), q6 (by omega), q7 (by omega), q8 (by omega), ⟨_, hk.add h1 h2, hm.congr (setI_nat Value.bool h1 v)⟩, q10, q11⟩
theorem grown_set (V : World) (g k : Nat) (v : Value) : V.grownBy (V.setCell ⟨g, k, none⟩ v) (some g) :=
  ⟨rfl, rfl, rfl, by simp [World.setCell], fun b hb hr => Below.heap_setCell V ⟨g, k, none⟩ v b (fun e => hr (congrArg some e))⟩
theorem St.prom1 (h : St W n s V va vo outs pv) {k b : Nat} (hk : k < n) : St W n { s with prom := upd s.prom k b } (V.setCell ⟨W.heap.size, k, none⟩ (.int .i64 (b : Nat))) va vo outs pv := by
  have hg := grown_set V W.heap.size k (.int .i64 (b : Nat))
  obtain ⟨q1, q2, q3, q4, q5, q6, q7, q8, q9, q10, q11⟩ := h.keep hg (by omega) (by omega)
  refine ⟨q1, q2, fun j hj => ⟨?_, ?_⟩, q4 (by omega), q5 (by omega), q6 (by omega), q7 (by omega), q8 (by omega), q9 (by omega), q10, q11⟩
  · show _ = some (Value.int .i64 ((upd s.prom k b j : Nat) : Int))
    by_cases e : j = k
    · subst e
      rw [upd_same]
      exact World.cell?_setCell_same _ _ _ (h.prom j hj).1
    · rw [upd_other _ _ e, World.cell?_setCell_other _ _ _ _ (fun e' => e (by injection e' with _ e'; exact e'.symm))]
      exact (h.prom j hj).1
  · rw [World.frozen?_setCell]; exact (h.prom j hj).2
/-- A row above the blocks of the call's own has turned. -/
theorem St.keepHi (h : St W n s V va vo outs pv) {r : Option Nat} (hg : V.grownBy V' r) (hr : ∀ q, r = some q → W.heap.size + 7 ≤ q) (ho : vo.ownBlock = none ∨ vo.ownBlock ≠ r) (hp : Pm V' (W.heap.size + 7) pv va s.acc s.pr) : St W n s V' va vo outs pv := by
  have ne : ∀ {q : Nat}, q < W.heap.size + 7 → some q ≠ r := fun h e => by have := hr _ e.symm; omega
  have hs := h.size
  refine ⟨h.below.grown hg (by omega) (fun k hk => by have := hr k hk; omega), Nat.le_trans hs hg.size, fun k hk => ?_, cell_keep hg h.b10 (ne (by simp)), cell_keep hg h.b11 (ne (by simp)), ?_, ?_, ?_, ?_, h.out.kept hg ho, hp⟩
  · have e := hg.block W.heap.size (by omega) (ne (by omega))
    exact ⟨(World.cell?_of_block (a := ⟨W.heap.size, k, none⟩) e).trans (h.prom k hk).1, (World.frozen?_of_block (a := ⟨W.heap.size, k, none⟩) e).trans (h.prom k hk).2⟩
  · obtain ⟨ks, h1, h2⟩ := h.mp; exact ⟨ks, h1, h2.kept hg (ne (by omega))⟩
  · obtain ⟨ks, h1, h2⟩ := h.mf; exact ⟨ks, h1, h2.kept hg (ne (by omega))⟩
  · obtain ⟨ks, h1, h2⟩ := h.ms; exact ⟨ks, h1, h2.kept hg (ne (by omega))⟩
  · obtain ⟨ks, h1, h2⟩ := h.mx; exact ⟨ks, h1, h2.kept hg (ne (by omega))⟩
end
end Go.Proofs.Ytpoielmbdofjlaa.Syn
