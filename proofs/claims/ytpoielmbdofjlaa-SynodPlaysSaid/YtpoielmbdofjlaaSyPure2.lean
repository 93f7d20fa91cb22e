/-
  Package synod, pure: what was chosen was proposed, and stays; a high ballot lives; a low one is late.
-/
import Derived.Test.YtpoielmbdofjlaaSyPure
namespace Go.Proofs.Ytpoielmbdofjlaa.Syn
set_option linter.unusedVariables false

/-! ### Proposed -/
def Named (s : S) (l : List VO) : Prop := ∀ b, s.seen b = true → ∃ o ∈ l, o.1 = 1 ∧ o.2.2.2 = s.first b
theorem prep_same {b to : Nat} : ∀ (l : List Nat) (x : S × Nat), (l.foldl (prep1 b to) x).1.fixed = x.1.fixed ∧ (l.foldl (prep1 b to) x).1.seen = x.1.seen ∧ (l.foldl (prep1 b to) x).1.first = x.1.first ∧ (l.foldl (prep1 b to) x).1.acc = x.1.acc ∧ ∀ b', b' ≠ b → (l.foldl (prep1 b to) x).1.pr b' = x.1.pr b'
  | [], x => ⟨rfl, rfl, rfl, rfl, fun _ _ => rfl⟩
  | k :: l, x => by
    obtain ⟨h1, h2, h3, h4, h5⟩ := prep_same (b := b) (to := to) l (prep1 b to x k)
    have e : (prep1 b to x k).1.fixed = x.1.fixed ∧ (prep1 b to x k).1.seen = x.1.seen ∧ (prep1 b to x k).1.first = x.1.first ∧ (prep1 b to x k).1.acc = x.1.acc ∧ ∀ b', b' ≠ b → (prep1 b to x k).1.pr b' = x.1.pr b' := by
      unfold prep1
      split
      · exact ⟨rfl, rfl, rfl, rfl, fun b' hb => upd_other _ _ hb⟩
      · exact ⟨rfl, rfl, rfl, rfl, fun _ _ => rfl⟩
    exact ⟨h1.trans e.1, h2.trans e.2.1, h3.trans e.2.2.1, h4.trans e.2.2.2.1, fun b' hb => (h5 b' hb).trans (e.2.2.2.2 b' hb)⟩
theorem acc_same {b to : Nat} {v : Int} : ∀ (l : List Nat) (x : S × Nat), (l.foldl (acc1 b to v) x).1.fixed = x.1.fixed ∧ (l.foldl (acc1 b to v) x).1.seen = x.1.seen ∧ (l.foldl (acc1 b to v) x).1.first = x.1.first ∧ (l.foldl (acc1 b to v) x).1.pr = x.1.pr ∧
      (∀ p ∈ x.1.acc, p ∈ (l.foldl (acc1 b to v) x).1.acc) ∧ ∀ k' b' v', b' ≠ b → (k', b', v') ∈ (l.foldl (acc1 b to v) x).1.acc → (k', b', v') ∈ x.1.acc
  | [], x => ⟨rfl, rfl, rfl, rfl, fun _ h => h, fun _ _ _ _ h => h⟩
  | k :: l, x => by
    obtain ⟨h1, h2, h3, h4, h5, h6⟩ := acc_same (b := b) (to := to) (v := v) l (acc1 b to v x k)
    have e : (acc1 b to v x k).1.fixed = x.1.fixed ∧ (acc1 b to v x k).1.seen = x.1.seen ∧ (acc1 b to v x k).1.first = x.1.first ∧ (acc1 b to v x k).1.pr = x.1.pr ∧
        (∀ p ∈ x.1.acc, p ∈ (acc1 b to v x k).1.acc) ∧ ∀ k' b' v', b' ≠ b → (k', b', v') ∈ (acc1 b to v x k).1.acc → (k', b', v') ∈ x.1.acc := by
      unfold acc1
      split
      · refine ⟨rfl, rfl, rfl, rfl, fun p hp => List.mem_append_left _ hp, fun k' b' v' hne hm => ?_⟩
        rcases List.mem_append.1 hm with hm | hm
        · exact hm
        · simp only [List.mem_singleton, Prod.mk.injEq] at hm
          exact absurd hm.2.1 hne
      · exact ⟨rfl, rfl, rfl, rfl, fun _ h => h, fun _ _ _ _ h => h⟩
    exact ⟨h1.trans e.1, h2.trans e.2.1, h3.trans e.2.2.1, h4.trans e.2.2.2.1, fun p hp => h5 p (e.2.2.2.2.1 p hp), fun k' b' v' hne hm => e.2.2.2.2.2 k' b' v' hne (h6 k' b' v' hne hm)⟩
theorem named_step {n : Nat} {s : S} {l : List VO} (h : Named s l) (o : VO) : Named (step n s o).1 (l ++ [o]) := by
  have mono : Named s (l ++ [o]) := fun b hb => by
    obtain ⟨p, hp, e⟩ := h b hb
    exact ⟨p, List.mem_append_left _ hp, e⟩
  unfold step
  split
  · unfold move
    split
    · rename_i he hk
      obtain ⟨_, h2, h3, _, _⟩ := prep_same (b := o.2.1.toNat) (to := o.2.2.1) (List.range n) (name1 s o.2.1.toNat o.2.2.2, 0)
      intro b hb
      have hb : ((List.range n).foldl (prep1 o.2.1.toNat o.2.2.1) (name1 s o.2.1.toNat o.2.2.2, 0)).1.seen b = true := hb
      show ∃ p ∈ l ++ [o], p.1 = 1 ∧ p.2.2.2 = ((List.range n).foldl (prep1 o.2.1.toNat o.2.2.1) (name1 s o.2.1.toNat o.2.2.2, 0)).1.first b
      rw [h2] at hb
      rw [h3]
      have hb : (name1 s o.2.1.toNat o.2.2.2).seen b = true := hb
      show ∃ p ∈ l ++ [o], p.1 = 1 ∧ p.2.2.2 = (name1 s o.2.1.toNat o.2.2.2).first b
      unfold name1 at hb ⊢
      split at hb
      · rename_i hs
        rw [if_pos hs]
        exact mono b hb
      · rename_i hs
        rw [if_neg hs]
        by_cases e : b = o.2.1.toNat
        · subst e
          exact ⟨o, by simp, hk, (upd_same _ _ _).symm⟩
        · have hb : upd s.seen o.2.1.toNat true b = true := hb
          rw [upd_other _ _ e] at hb
          obtain ⟨p, hp, h1, h2⟩ := mono b hb
          exact ⟨p, hp, h1, by show _ = upd s.first _ _ b; rw [upd_other _ _ e]; exact h2⟩
    · obtain ⟨_, h2, h3, _⟩ := acc_same (b := o.2.1.toNat) (to := o.2.2.1) (v := val s o.2.1.toNat) (List.range n) (fix1 s o.2.1.toNat, 0)
      intro b hb
      have hb : ((List.range n).foldl (acc1 o.2.1.toNat o.2.2.1 (val s o.2.1.toNat)) (fix1 s o.2.1.toNat, 0)).1.seen b = true := hb
      show ∃ p ∈ l ++ [o], p.1 = 1 ∧ p.2.2.2 = ((List.range n).foldl (acc1 o.2.1.toNat o.2.2.1 (val s o.2.1.toNat)) (fix1 s o.2.1.toNat, 0)).1.first b
      rw [h2] at hb
      rw [h3]
      exact mono b hb
  · exact mono
theorem named_run {n : Nat} : ∀ (l : List VO) (s : S) (l0 : List VO), Named s l0 → Named (run n s l).1 (l0 ++ l)
  | [], s, l0, h => by rw [List.append_nil]; exact h
  | o :: l, s, l0, h => by
    have := named_run (n := n) l (step n s o).1 (l0 ++ [o]) (named_step h o)
    rw [List.append_assoc] at this
    exact this
theorem proposed {n : Nat} {s : S} {l : List VO} (h : Inv n s) (hn : Named s l) : ∀ b, s.fixed b = true → ∃ o ∈ l, o.1 = 1 ∧ o.2.2.2 = val s b := by
  intro b
  induction b using Nat.strongRecOn with
  | _ b ih =>
    intro hf
    have hmaj := h.fix_maj b hf
    have hne : s.pr b ≠ [] := fun e => by rw [e] at hmaj; simp at hmaj
    obtain ⟨f1, f2⟩ := hv_facts (s.pr b) (s.first b)
    rcases f2 with f2 | ⟨hpos, p, hpm, hpe⟩
    · have e : val s b = s.first b := by unfold val; rw [f2]
      rw [e]
      exact hn b (h.pr_seen b hne)
    · obtain ⟨kp, bp, vp⟩ := p
      obtain ⟨_, _, hb, hin, _⟩ := h.pr_ok b kp bp vp hpm
      have e1 : bp = (hv (s.pr b) (s.first b)).1 := by rw [← hpe]
      have e2 : vp = val s b := by unfold val; rw [← hpe]
      obtain ⟨_, _, _, hfp, hvp, _⟩ := h.acc_ok _ _ _ (hin (by omega))
      rw [← e2, hvp]
      exact ih bp hb hfp
theorem chosen_named {n : Nat} {s : S} {l : List VO} (h : Inv n s) (hn : Named s l) {x : Int} (hx : x ∈ chosen n s) : ∃ o ∈ l, o.1 = 1 ∧ o.2.2.2 = x := by
  obtain ⟨b, _, _, hb, rfl⟩ := mem_chosen.1 hx
  obtain ⟨_, _, _, fb, _⟩ := most_fixed h hb
  exact proposed h hn b fb
theorem run_inv (n : Nat) (l : List VO) : Inv n (run n S0 l).1 := inv_run l S0 (inv0 n)
theorem run_named (n : Nat) (l : List VO) : Named (run n S0 l).1 l := named_run l S0 [] (fun b hb => by simp [S0] at hb)

/-! ### Stays -/
theorem run_app (n : Nat) : ∀ (l1 l2 : List VO) (s : S), run n s (l1 ++ l2) = ((run n (run n s l1).1 l2).1, (run n s l1).2 ++ (run n (run n s l1).1 l2).2)
  | [], l2, s => rfl
  | o :: l1, l2, s => by
    show ((run n (step n s o).1 (l1 ++ l2)).1, (step n s o).2 :: (run n (step n s o).1 (l1 ++ l2)).2) = _
    rw [run_app n l1 l2 (step n s o).1]
    rfl
theorem run_len (n : Nat) : ∀ (l : List VO) (s : S), (run n s l).2.length = l.length
  | [], s => rfl
  | o :: l, s => by
    show (run n (step n s o).1 l).2.length + 1 = l.length + 1
    rw [run_len n l]
/-- What a fixed ballot keeps. -/
structure Keeps (s s' : S) : Prop where
  fixed : ∀ b, s.fixed b = true → s'.fixed b = true
  val : ∀ b, s.fixed b = true → val s' b = val s b
  acc : ∀ p ∈ s.acc, p ∈ s'.acc
theorem Keeps.refl (s : S) : Keeps s s := ⟨fun _ h => h, fun _ _ => rfl, fun _ h => h⟩
theorem Keeps.trans {s s' s2 : S} (h : Keeps s s') (k : Keeps s' s2) : Keeps s s2 :=
  ⟨fun b hb => k.fixed b (h.fixed b hb), fun b hb => (k.val b (h.fixed b hb)).trans (h.val b hb), fun p hp => k.acc p (h.acc p hp)⟩
theorem keeps_step (n : Nat) (s : S) (o : VO) : Keeps s (step n s o).1 := by
  unfold step
  split
  · rename_i he
    obtain ⟨_, _, h3⟩ := opE_zero he
    unfold move
    rcases h3 with ⟨hk, hf⟩ | ⟨hk, hm⟩
    · rw [if_pos hk]
      obtain ⟨g1, g2, g3, g4, g5⟩ := prep_same (b := o.2.1.toNat) (to := o.2.2.1) (List.range n) (name1 s o.2.1.toNat o.2.2.2, 0)
      obtain ⟨n1, n2, n3, n4, n5⟩ := name_facts s o.2.1.toNat o.2.2.2
      refine ⟨fun b hb => ?_, fun b hb => ?_, fun p hp => ?_⟩
      · show ((List.range n).foldl (prep1 o.2.1.toNat o.2.2.1) (name1 s o.2.1.toNat o.2.2.2, 0)).1.fixed b = true
        rw [g1, n1]; exact hb
      · have hne : b ≠ o.2.1.toNat := fun e => by rw [e, hf] at hb; cases hb
        show (hv (((List.range n).foldl (prep1 o.2.1.toNat o.2.2.1) (name1 s o.2.1.toNat o.2.2.2, 0)).1.pr b) (((List.range n).foldl (prep1 o.2.1.toNat o.2.2.1) (name1 s o.2.1.toNat o.2.2.2, 0)).1.first b)).2 = _
        rw [g5 b hne, g3, n3]
        have : (name1 s o.2.1.toNat o.2.2.2).first b = s.first b := by
          unfold name1
          split
          · rfl
          · exact upd_other _ _ hne
        rw [this]
        rfl
      · show p ∈ ((List.range n).foldl (prep1 o.2.1.toNat o.2.2.1) (name1 s o.2.1.toNat o.2.2.2, 0)).1.acc
        rw [g4, n4]; exact hp
    · rw [if_neg (by omega)]
      obtain ⟨g1, g2, g3, g4, g5, g6⟩ := acc_same (b := o.2.1.toNat) (to := o.2.2.1) (v := val s o.2.1.toNat) (List.range n) (fix1 s o.2.1.toNat, 0)
      refine ⟨fun b hb => ?_, fun b hb => ?_, fun p hp => g5 p hp⟩
      · show ((List.range n).foldl (acc1 o.2.1.toNat o.2.2.1 (val s o.2.1.toNat)) (fix1 s o.2.1.toNat, 0)).1.fixed b = true
        rw [g1]
        show upd s.fixed o.2.1.toNat true b = true
        unfold upd
        split
        · rfl
        · exact hb
      · show (hv (((List.range n).foldl (acc1 o.2.1.toNat o.2.2.1 (val s o.2.1.toNat)) (fix1 s o.2.1.toNat, 0)).1.pr b) (((List.range n).foldl (acc1 o.2.1.toNat o.2.2.1 (val s o.2.1.toNat)) (fix1 s o.2.1.toNat, 0)).1.first b)).2 = _
        rw [g4, g3]
        rfl
  · exact Keeps.refl _
theorem keeps_run (n : Nat) : ∀ (l : List VO) (s : S), Keeps s (run n s l).1
  | [], s => Keeps.refl s
  | o :: l, s => (keeps_step n s o).trans (keeps_run n l _)
theorem filter_mono {p q : Nat → Bool} (h : ∀ x, p x = true → q x = true) : ∀ l : List Nat, (l.filter p).length ≤ (l.filter q).length
  | [] => Nat.le_refl _
  | a :: l => by
    have := filter_mono h l
    rw [List.filter_cons, List.filter_cons]
    by_cases hp : p a = true
    · rw [if_pos hp, if_pos (h a hp)]; simpa using this
    · rw [if_neg hp]
      split
      · simp; omega
      · exact this
theorem who_mono {n : Nat} {s s' : S} (h : ∀ p ∈ s.acc, p ∈ s'.acc) (b : Nat) : (who n s b).length ≤ (who n s' b).length :=
  filter_mono (fun k hk => by
    obtain ⟨p, hp, e⟩ := List.any_eq_true.1 hk
    exact List.any_eq_true.2 ⟨p, h p hp, e⟩) _
theorem most_mono {n : Nat} {s s' : S} (h : Keeps s s') {b : Nat} (hm : most n s b = true) : most n s' b = true := by
  have h1 := of_decide_eq_true hm
  have h2 := who_mono (n := n) h.acc b
  exact decide_eq_true (by omega)
theorem chosen_stays {n : Nat} {s s' : S} (h : Inv n s) (hk : Keeps s s') {x : Int} (hx : x ∈ chosen n s) : x ∈ chosen n s' := by
  obtain ⟨b, h1, h2, hb, rfl⟩ := mem_chosen.1 hx
  obtain ⟨_, _, _, fb, _⟩ := most_fixed h hb
  exact mem_chosen.2 ⟨b, h1, h2, most_mono hk hb, hk.val b fb⟩
/-- The first that was chosen is the first that is. -/
theorem first_stays {n : Nat} (l1 l2 : List VO) {x : Int} {t : List Int} (hx : chosen n (run n S0 l1).1 = x :: t) : ∃ t', chosen n (run n S0 (l1 ++ l2)).1 = x :: t' := by
  rw [run_app]
  have hi := run_inv n l1
  have hk := keeps_run n l2 (run n S0 l1).1
  have hi2 : Inv n (run n (run n S0 l1).1 l2).1 := inv_run l2 _ hi
  have hm : x ∈ chosen n (run n (run n S0 l1).1 l2).1 := chosen_stays hi hk (by rw [hx]; simp)
  show ∃ t', chosen n (run n (run n S0 l1).1 l2).1 = x :: t'
  cases hc : chosen n (run n (run n S0 l1).1 l2).1 with
  | nil => rw [hc] at hm; simp at hm
  | cons y t' => exact ⟨t', by rw [chosen_one hi2 hm (y := y) (by rw [hc]; simp)]⟩
end Go.Proofs.Ytpoielmbdofjlaa.Syn
