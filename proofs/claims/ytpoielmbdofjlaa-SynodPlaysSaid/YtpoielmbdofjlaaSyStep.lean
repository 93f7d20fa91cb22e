/-
  The document's own answer, NPlay: how what lies in memory moves on.
-/
import Derived.Test.YtpoielmbdofjlaaSyVal
import Derived.Laws.BitsLemmas
namespace Go.Proofs.Ytpoielmbdofjlaa.Syn
set_option linter.unusedVariables false
set_option linter.unusedSimpArgs false
open Go.RowKit Mem Gt
open Jump (Gave equalZ_c)

/-! ### make -/
theorem infoZ : (Try.prog.info? 3).map (fun i => (i.zero, i.size, i.bytes)) = some (some (.int .i64 0), 1, 8) := by kernel_rfl
theorem madeG (z : Value) (n : Nat) : madeCells #[z] n = Array.replicate n z := by
  apply Array.ext_getElem?
  intro i
  by_cases h : i < n
  · simp [madeCells, h, Nat.mod_one]
  · simp [madeCells, h]
theorem makeZ (n : Nat) (hn : n ≤ 1000) (w : World) :
    (Instr.makeSlice 24 (.int .i64 n) (.int .i64 n)).run Try.prog w = .ok (.slice (some ⟨w.heap.size, 0, none⟩) n n) (w.alloc (.cells (Array.replicate n (.int .i64 0)) 3)) := by
  obtain ⟨i, hi, hz0, hz1, hz2⟩ := info_parts infoZ
  have hb : (i.bytes : Int) * (n : Int) ≤ 281474976710656 := by rw [hz2]; omega
  have hr := run_make (P := Try.prog) w 24 3 i (.int .i64 0) Try.underlying24 hi hz0 .i64 .i64 n n (by omega) (by omega) hb (by omega)
  rw [hr]
  simp only [Int.toNat_natCast, hz1, Nat.mul_one]
  rw [show (Value.int .i64 0).cells = #[Value.int .i64 0] from rfl, madeG]

/-! ### The start -/
def mkW (n : Nat) (W : World) : World :=
  ((((((W.alloc (.cells (Array.replicate n (.int .i64 0)) 3)).alloc (.map #[] 0)).alloc (.cells #[.map (some (W.heap.size + 1))] 51)).alloc (.map #[] 0)).alloc (.map #[] 0)).alloc (.map #[] 0)).alloc (.cells #[.map (some (W.heap.size + 3))] 52)
theorem st_start (n : Nat) (W : World) : St W n S0 (mkW n W) nilV nilV [] (fun _ => nilV) := by
  have hs : ∀ (w : World) (o : Obj), (w.alloc o).heap.size = w.heap.size + 1 := fun w o => by simp
  have e1 := hs W (.cells (Array.replicate n (.int .i64 0)) 3)
  obtain ⟨W1, h1⟩ : ∃ W1, W1 = W.alloc (.cells (Array.replicate n (.int .i64 0)) 3) := ⟨_, rfl⟩
  rw [← h1] at e1
  have k1 : Known W1 W.heap.size 3 (Array.replicate n (.int .i64 0)) := by rw [h1]; exact Known.made W _ _
  have m1 := GMap.made W1 nilV
  have e2 := hs W1 (.map #[] 0)
  obtain ⟨W2, h2⟩ : ∃ W2, W2 = W1.alloc (.map #[] 0) := ⟨_, rfl⟩
  rw [← h2] at m1 e2
  have e3 := hs W2 (.cells #[.map (some (W.heap.size + 1))] 51)
  obtain ⟨W3, h3⟩ : ∃ W3, W3 = W2.alloc (.cells #[.map (some (W.heap.size + 1))] 51) := ⟨_, rfl⟩
  have k3 : Known W3 W2.heap.size 51 #[.map (some (W.heap.size + 1))] := by rw [h3]; exact Known.made W2 _ _
  rw [← h3] at e3
  have m3 := GMap.made W3 (.int .i64 0)
  have e4 := hs W3 (.map #[] 0)
  obtain ⟨W4, h4⟩ : ∃ W4, W4 = W3.alloc (.map #[] 0) := ⟨_, rfl⟩
  rw [← h4] at m3 e4
  have m4 := GMap.made W4 (.bool false)
  have e5 := hs W4 (.map #[] 0)
  obtain ⟨W5, h5⟩ : ∃ W5, W5 = W4.alloc (.map #[] 0) := ⟨_, rfl⟩
  rw [← h5] at m4 e5
  have m5 := GMap.made W5 (.bool false)
  have e6 := hs W5 (.map #[] 0)
  obtain ⟨W6, h6⟩ : ∃ W6, W6 = W5.alloc (.map #[] 0) := ⟨_, rfl⟩
  rw [← h6] at m5 e6
  have e7 := hs W6 (.cells #[.map (some (W.heap.size + 3))] 52)
  obtain ⟨W7, h7⟩ : ∃ W7, W7 = W6.alloc (.cells #[.map (some (W.heap.size + 3))] 52) := ⟨_, rfl⟩
  have k7 : Known W7 W6.heap.size 52 #[.map (some (W.heap.size + 3))] := by rw [h7]; exact Known.made W6 _ _
  rw [← h7] at e7
  have hW : mkW n W = W7 := by unfold mkW; rw [← h1, ← h2, ← h3, ← h4, ← h5, ← h6, ← h7]
  have b2 : Below W1.heap.size W1 W2 := h2 ▸ below_lit W1 _
  have b3 : Below W2.heap.size W2 W3 := h3 ▸ below_lit W2 _
  have b4 : Below W3.heap.size W3 W4 := h4 ▸ below_lit W3 _
  have b5 : Below W4.heap.size W4 W5 := h5 ▸ below_lit W4 _
  have b6 : Below W5.heap.size W5 W6 := h6 ▸ below_lit W5 _
  have b7 : Below W6.heap.size W6 W7 := h7 ▸ below_lit W6 _
  have c67 : Below W5.heap.size W5 W7 := b6.trans (b7.mono b6.size)
  have c57 : Below W4.heap.size W4 W7 := b5.trans (c67.mono b5.size)
  have c47 : Below W3.heap.size W3 W7 := b4.trans (c57.mono b4.size)
  have c37 : Below W2.heap.size W2 W7 := b3.trans (c47.mono b3.size)
  have c27 : Below W1.heap.size W1 W7 := b2.trans (c37.mono b2.size)
  have b1 : Below W.heap.size W W1 := h1 ▸ below_lit W _
  have n1 : W1.heap.size = W.heap.size + 1 := e1
  have n3 : W3.heap.size = W.heap.size + 3 := by omega
  have n4 : W4.heap.size = W.heap.size + 4 := by omega
  have n5 : W5.heap.size = W.heap.size + 5 := by omega
  have n6 : W6.heap.size = W.heap.size + 6 := by omega
  have n2 : W2.heap.size = W.heap.size + 2 := by omega
  rw [n1] at m1
  rw [n3] at m3
  rw [n4] at m4
  rw [n5] at m5
  rw [n2] at k3
  rw [n6] at k7
  rw [hW]
  have q1 := k1.later c27
  exact { below := b1.trans (c27.mono b1.size), size := by omega
          prom := fun k hk => ⟨by rw [q1.cell k]; simp [hk, S0], q1.free k⟩
          b10 := by rw [(k3.later c47).cell 0]; rfl
          b11 := by rw [k7.cell 0]; rfl
          mp := ⟨[], KeyOk.nil, m1.later c37⟩, mf := ⟨[], KeyOk.nil, m3.later c57⟩, ms := ⟨[], KeyOk.nil, m4.later c67⟩, mx := ⟨[], KeyOk.nil, m5.later b7⟩
          out := Tab.nil _ _ _
          pm := ⟨Tab.nil _ _ _, fun b => Tab.nil _ _ _, fun b => .inl rfl, fun b c _ => .inl rfl⟩ }

section
variable {W V V' : World} {n : Nat} {s : S} {va vo : Value} {outs : List An} {pv : Nat → Value}
theorem tA_tN : tA ≠ tN := by decide
/-- An answer more. -/
theorem St.out1 (h : St W n s V va vo outs pv) {vo' : Value} {outs' : List An} (T : Tab anE V' (W.heap.size + 7) tA vo' outs') (hg : V.grownBy V' vo.ownBlock) : St W n s V' va vo' outs' pv := by
  have h2 : Pm V' (W.heap.size + 7) pv va s.acc s.pr := h.pm.kept hg (other_ne h.pm.acc h.out (fun e => tA_tN e.symm)) (fun b => other_ne (h.pm.pr b) h.out (fun e => tA_tN e.symm))
  have ne : ∀ {q : Nat}, q < W.heap.size + 7 → some q ≠ vo.ownBlock := fun hq => low_ne h.out hq
  have hs := h.size
  refine ⟨h.below.grown hg (by omega) (fun k hk => by have := (h.out.lt k hk).1; omega), Nat.le_trans hs hg.size, fun k hk => ?_, cell_keep hg h.b10 (ne (by simp)), cell_keep hg h.b11 (ne (by simp)), ?_, ?_, ?_, ?_, T, h2⟩
  · have e := hg.block W.heap.size (by omega) (ne (by omega))
    exact ⟨(World.cell?_of_block (a := ⟨W.heap.size, k, none⟩) e).trans (h.prom k hk).1, (World.frozen?_of_block (a := ⟨W.heap.size, k, none⟩) e).trans (h.prom k hk).2⟩
  · obtain ⟨ks, h1, h2⟩ := h.mp; exact ⟨ks, h1, h2.kept hg (ne (by omega))⟩
  · obtain ⟨ks, h1, h2⟩ := h.mf; exact ⟨ks, h1, h2.kept hg (ne (by omega))⟩
  · obtain ⟨ks, h1, h2⟩ := h.ms; exact ⟨ks, h1, h2.kept hg (ne (by omega))⟩
  · obtain ⟨ks, h1, h2⟩ := h.mx; exact ⟨ks, h1, h2.kept hg (ne (by omega))⟩
/-- A vote accepted. -/
theorem St.vote1 (h : St W n s V va vo outs pv) {va' : Value} {x : Nv} (T : Tab nvE V' (W.heap.size + 7) tN va' (s.acc ++ [x])) (hg : V.grownBy V' va.ownBlock) (hf : va'.ownBlock = va.ownBlock ∨ ∃ g, va'.ownBlock = some g ∧ V.heap.size ≤ g) :
    St W n { s with acc := s.acc ++ [x] } V' va' vo outs pv := by
  have hp : ∀ b, (pv b).ownBlock = none ∨ (pv b).ownBlock ≠ va.ownBlock := h.pm.aa
  have ne : ∀ {q : Nat}, q < W.heap.size + 7 → some q ≠ va.ownBlock := fun hq => low_ne h.pm.acc hq
  have hs := h.size
  refine ⟨h.below.grown hg (by omega) (fun k hk => by have := (h.pm.acc.lt k hk).1; omega), Nat.le_trans hs hg.size, fun k hk => ?_, cell_keep hg h.b10 (ne (by simp)), cell_keep hg h.b11 (ne (by simp)), ?_, ?_, ?_, ?_, h.out.kept hg (other_ne h.out h.pm.acc tA_tN), ⟨T, fun b => (h.pm.pr b).kept hg (hp b), fun b => ?_, h.pm.ab⟩⟩
  · have e := hg.block W.heap.size (by omega) (ne (by omega))
    exact ⟨(World.cell?_of_block (a := ⟨W.heap.size, k, none⟩) e).trans (h.prom k hk).1, (World.frozen?_of_block (a := ⟨W.heap.size, k, none⟩) e).trans (h.prom k hk).2⟩
  · obtain ⟨ks, h1, h2⟩ := h.mp; exact ⟨ks, h1, h2.kept hg (ne (by omega))⟩
  · obtain ⟨ks, h1, h2⟩ := h.mf; exact ⟨ks, h1, h2.kept hg (ne (by omega))⟩
  · obtain ⟨ks, h1, h2⟩ := h.ms; exact ⟨ks, h1, h2.kept hg (ne (by omega))⟩
  · obtain ⟨ks, h1, h2⟩ := h.mx; exact ⟨ks, h1, h2.kept hg (ne (by omega))⟩
  · rcases hf with hf | ⟨g, hf, hl⟩
    · rw [hf]; exact hp b
    · rw [hf]
      cases hb : (pv b).ownBlock with
      | none => exact .inl rfl
      | some q => exact .inr (fun e => by injection e with e; have := ((h.pm.pr b).lt q hb).2; omega)
/-- A promise made: appended, then stored. V1: behind the append. -/
theorem St.pr1 (h : St W n s V va vo outs pv) {V1 : World} {b : Nat} (h1 : 1 ≤ b) (h4 : b ≤ 400) {v' : Value} {x : Nv} (T : Tab nvE V1 (W.heap.size + 7) tN v' (s.pr b ++ [x])) (hg : V.grownBy V1 (pv b).ownBlock) (hf : v'.ownBlock = (pv b).ownBlock ∨ ∃ g, v'.ownBlock = some g ∧ V.heap.size ≤ g)
    {ks : List Int} (hk : KeyOk ks) (hm : GMap V' (W.heap.size + 1) nilV (setI (fun x => pv x.toNat) b v') (addK ks b)) (hg2 : V1.grownBy V' (some (W.heap.size + 1))) :
    St W n { s with pr := upd s.pr b (s.pr b ++ [x]) } V' va vo outs (upd pv b v') := by
  have hs := h.size
  have ne : ∀ {q : Nat}, q < W.heap.size + 7 → some q ≠ (pv b).ownBlock := fun hq => low_ne (h.pm.pr b) hq
  have n1 : ∀ {q : Nat}, q ≠ W.heap.size + 1 → some q ≠ some (W.heap.size + 1) := fun h e => h (by injection e)
  have s1 := hg.size
  have hi : ∀ {v : Value} {α : Type} {sz : Nat} {E : Enc α sz} {e : TypeId} {l : List α} {U : World}, Tab E U (W.heap.size + 7) e v l → v.ownBlock = none ∨ v.ownBlock ≠ some (W.heap.size + 1) := fun t => hi_ne t (by omega)
  have hac : va.ownBlock = none ∨ va.ownBlock ≠ (pv b).ownBlock := by
    rcases h.pm.aa b with e | e
    · rw [e]; cases va.ownBlock with
      | none => exact .inl rfl
      | some q => exact .inr (by simp)
    · exact .inr (fun e' => e e'.symm)
  have hpb : ∀ c, c ≠ b → (pv c).ownBlock = none ∨ (pv c).ownBlock ≠ (pv b).ownBlock := fun c hc => h.pm.ab c b hc
  have fresh : ∀ {α : Type} {sz : Nat} {E : Enc α sz} {e : TypeId} {v : Value} {l : List α}, Tab E V (W.heap.size + 7) e v l → (v.ownBlock = none ∨ v.ownBlock ≠ (pv b).ownBlock) → v.ownBlock = none ∨ v.ownBlock ≠ v'.ownBlock := fun t hne => by
    rcases hf with hf | ⟨g, hf, hl⟩
    · rw [hf]; exact hne
    · rw [hf]
      rename_i v l
      cases hv : v.ownBlock with
      | none => exact .inl rfl
      | some q => exact .inr (fun e => by injection e with e; have := (t.lt q hv).2; omega)
  have flip : ∀ {a c : Option Nat}, (a = none ∨ a ≠ c) → c = none ∨ c ≠ a := fun {a c} h => by
    rcases h with h | h
    · subst h; cases c with
      | none => exact .inl rfl
      | some q => exact .inr (by simp)
    · exact .inr (fun e => h e.symm)
  refine ⟨(h.below.grown hg (by omega) (fun k hk => by have := ((h.pm.pr b).lt k hk).1; omega)).grown hg2 (by omega) (fun k hk => by injection hk with hk; omega), by have := hg2.size; omega, fun k hk => ?_, cell_keep hg2 (cell_keep hg h.b10 (ne (by simp))) (n1 (by simp)), cell_keep hg2 (cell_keep hg h.b11 (ne (by simp))) (n1 (by simp)), ?_, ?_, ?_, ?_,
    (h.out.kept hg (other_ne h.out (h.pm.pr b) tA_tN)).kept hg2 (hi h.out), ⟨(h.pm.acc.kept hg hac).kept hg2 (hi h.pm.acc), fun c => ?_, fun c => ?_, fun c d hcd => ?_⟩⟩
  · have e := (hg2.block W.heap.size (by omega) (n1 (by omega))).trans (hg.block W.heap.size (by omega) (ne (by omega)))
    exact ⟨(World.cell?_of_block (a := ⟨W.heap.size, k, none⟩) e).trans (h.prom k hk).1, (World.frozen?_of_block (a := ⟨W.heap.size, k, none⟩) e).trans (h.prom k hk).2⟩
  · exact ⟨_, hk.add h1 h4, hm.congr (setI_nat id h1 v')⟩
  · obtain ⟨ks, h1, h2⟩ := h.mf; exact ⟨ks, h1, (h2.kept hg (ne (by omega))).kept hg2 (n1 (by omega))⟩
  · obtain ⟨ks, h1, h2⟩ := h.ms; exact ⟨ks, h1, (h2.kept hg (ne (by omega))).kept hg2 (n1 (by omega))⟩
  · obtain ⟨ks, h1, h2⟩ := h.mx; exact ⟨ks, h1, (h2.kept hg (ne (by omega))).kept hg2 (n1 (by omega))⟩
  · by_cases e : c = b
    · subst e
      show Tab nvE V' _ tN (upd pv c v' c) (upd s.pr c _ c)
      rw [upd_same, upd_same]; exact T.kept hg2 (hi T)
    · show Tab nvE V' _ tN (upd pv b v' c) (upd s.pr b _ c)
      rw [upd_other _ _ e, upd_other _ _ e]; exact ((h.pm.pr c).kept hg (hpb c e)).kept hg2 (hi (h.pm.pr c))
  · by_cases e : c = b
    · subst e
      rw [upd_same]; exact flip (fresh h.pm.acc hac)
    · rw [upd_other _ _ e]; exact h.pm.aa c
  · by_cases e : c = b
    · subst e
      have e2 : d ≠ c := fun e => hcd e.symm
      rw [upd_same, upd_other _ _ e2]; exact flip (fresh (h.pm.pr d) (hpb d e2))
    · rw [upd_other _ _ e]
      by_cases e2 : d = b
      · subst e2
        rw [upd_same]; exact fresh (h.pm.pr c) (hpb c e)
      · rw [upd_other _ _ e2]; exact h.pm.ab c d hcd
end
end Go.Proofs.Ytpoielmbdofjlaa.Syn
