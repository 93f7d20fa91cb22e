/-
  Package synod, pure: runs of votes; what is chosen is one value, that somebody would have (Lamport); what was chosen stays.
-/
import Derived.WalkKit
namespace Go.Proofs.Ytpoielmbdofjlaa.Syn
set_option linter.unusedVariables false

/-- An operation: its kind, ballot, voters, value. An answer: error, who did it, value. -/
abbrev VO := Int × Int × Nat × Int
abbrev An := Int × Nat × Int
/-- A voter, a ballot, a value. -/
abbrev Nv := Nat × Nat × Int
/-- What has happened. -/
structure S where
  prom : Nat → Nat
  pr : Nat → List Nv
  first : Nat → Int
  seen : Nat → Bool
  fixed : Nat → Bool
  acc : List Nv
def S0 : S := ⟨fun _ => 0, fun _ => [], fun _ => 0, fun _ => false, fun _ => false, []⟩
def upd {α : Type} (f : Nat → α) (k : Nat) (v : α) : Nat → α := fun j => if j = k then v else f j
theorem upd_same {α : Type} (f : Nat → α) (k : Nat) (v : α) : upd f k v k = v := if_pos rfl
theorem upd_other {α : Type} (f : Nat → α) {k j : Nat} (v : α) (h : j ≠ k) : upd f k v j = f j := if_neg h
/-- The highest so far. -/
def hstep (h : Nat × Int) (p : Nv) : Nat × Int := if h.1 < p.2.1 then p.2 else h
def hv (l : List Nv) (v : Int) : Nat × Int := l.foldl hstep (0, v)
def val (s : S) (b : Nat) : Int := (hv (s.pr b) (s.first b)).2
/-- The last that a voter accepted. -/
def lstep (k : Nat) (l : Nat × Int) (v : Nv) : Nat × Int := if v.1 = k then v.2 else l
def lastOf (acc : List Nv) (k : Nat) : Nat × Int := acc.foldl (lstep k) (0, 0)
def prep1 (b to : Nat) (x : S × Nat) (k : Nat) : S × Nat :=
  if to.testBit k = true ∧ x.1.prom k < b then ({ x.1 with prom := upd x.1.prom k b, pr := upd x.1.pr b (x.1.pr b ++ [(k, lastOf x.1.acc k)]) }, x.2 ||| 2 ^ k) else x
def acc1 (b to : Nat) (v : Int) (x : S × Nat) (k : Nat) : S × Nat :=
  if to.testBit k = true ∧ x.1.prom k ≤ b then ({ x.1 with prom := upd x.1.prom k b, acc := x.1.acc ++ [(k, b, v)] }, x.2 ||| 2 ^ k) else x
def opE (n : Nat) (s : S) (o : VO) : Int :=
  if o.2.1 < 1 ∨ 400 < o.2.1 then 2 else if o.1 ≠ 1 ∧ o.1 ≠ 2 then 5 else if o.1 = 1 then (if s.fixed o.2.1.toNat = true then 6 else 0) else if 2 * (s.pr o.2.1.toNat).length ≤ n then 8 else 0
/-- A ballot is named. -/
def name1 (s : S) (b : Nat) (v : Int) : S := if s.seen b = true then s else { s with seen := upd s.seen b true, first := upd s.first b v }
def fix1 (s : S) (b : Nat) : S := { s with fixed := upd s.fixed b true }
def prepare (n : Nat) (s : S) (b to : Nat) (v : Int) : S × Nat := (List.range n).foldl (prep1 b to) (name1 s b v, 0)
def accept (n : Nat) (s : S) (b to : Nat) : S × Nat := (List.range n).foldl (acc1 b to (val s b)) (fix1 s b, 0)
def move (n : Nat) (s : S) (o : VO) : S × Nat := if o.1 = 1 then prepare n s o.2.1.toNat o.2.2.1 o.2.2.2 else accept n s o.2.1.toNat o.2.2.1
def step (n : Nat) (s : S) (o : VO) : S × An :=
  if opE n s o = 0 then ((move n s o).1, 0, (move n s o).2, val (move n s o).1 o.2.1.toNat) else (s, opE n s o, 0, 0)
def run (n : Nat) : S → List VO → S × List An
  | s, [] => (s, [])
  | s, o :: l => ((run n (step n s o).1 l).1, (step n s o).2 :: (run n (step n s o).1 l).2)
/-- Who accepted a ballot. -/
def who (n : Nat) (s : S) (b : Nat) : List Nat := (List.range n).filter (fun k => s.acc.any (fun v => v.1 == k && v.2.1 == b))
def most (n : Nat) (s : S) (b : Nat) : Bool := decide (n < 2 * (who n s b).length)
def chosen (n : Nat) (s : S) : List Int := ((List.range 400).filter (fun b => most n s (b + 1))).map (fun b => val s (b + 1))
theorem mem_who {n : Nat} {s : S} {b k : Nat} : k ∈ who n s b ↔ k < n ∧ ∃ v, (k, b, v) ∈ s.acc := by
  unfold who
  rw [List.mem_filter, List.mem_range, List.any_eq_true]
  refine and_congr_right fun _ => ⟨?_, ?_⟩
  · rintro ⟨⟨k', b', v⟩, h1, h2⟩
    simp at h2
    obtain ⟨rfl, rfl⟩ := h2
    exact ⟨v, h1⟩
  · rintro ⟨v, h⟩
    exact ⟨(k, b, v), h, by simp⟩

/-! ### The highest, the last -/
theorem hv_from (l : List Nv) : ∀ h : Nat × Int, (∀ p ∈ l, p.2.1 ≤ (l.foldl hstep h).1) ∧ h.1 ≤ (l.foldl hstep h).1 ∧ (l.foldl hstep h = h ∨ h.1 < (l.foldl hstep h).1 ∧ ∃ p ∈ l, p.2 = l.foldl hstep h) := by
  induction l with
  | nil => intro h; exact ⟨fun p hp => by simp at hp, Nat.le_refl _, .inl rfl⟩
  | cons a l ih =>
    intro h
    obtain ⟨h1, h2, h3⟩ := ih (hstep h a)
    rw [List.foldl_cons]
    have hs : h.1 ≤ (hstep h a).1 ∧ a.2.1 ≤ (hstep h a).1 ∧ (hstep h a = h ∨ h.1 < (hstep h a).1 ∧ hstep h a = a.2) := by
      unfold hstep
      by_cases e : h.1 < a.2.1
      · rw [if_pos e]; exact ⟨by omega, Nat.le_refl _, .inr ⟨e, rfl⟩⟩
      · rw [if_neg e]; exact ⟨Nat.le_refl _, by omega, .inl rfl⟩
    refine ⟨fun p hp => ?_, Nat.le_trans hs.1 h2, ?_⟩
    · rcases List.mem_cons.1 hp with rfl | hp
      · exact Nat.le_trans hs.2.1 h2
      · exact h1 p hp
    · rcases h3 with h3 | ⟨h3, p, hp, e⟩
      · rcases hs.2.2 with e | ⟨e1, e2⟩
        · left; rw [h3, e]
        · right; rw [h3]; exact ⟨e1, a, by simp, e2.symm⟩
      · right; exact ⟨by omega, p, List.mem_cons_of_mem _ hp, e⟩
theorem hv_facts (l : List Nv) (v : Int) : (∀ p ∈ l, p.2.1 ≤ (hv l v).1) ∧ (hv l v = (0, v) ∨ 0 < (hv l v).1 ∧ ∃ p ∈ l, p.2 = hv l v) := by
  obtain ⟨h1, _, h3⟩ := hv_from l (0, v)
  exact ⟨h1, h3⟩
theorem lastOf_snoc (acc : List Nv) (v : Nv) (k : Nat) : lastOf (acc ++ [v]) k = if v.1 = k then v.2 else lastOf acc k := by
  unfold lastOf
  rw [List.foldl_append]
  rfl
theorem lastOf_mem (acc : List Nv) (k : Nat) : lastOf acc k = (0, 0) ∨ (k, lastOf acc k) ∈ acc := by
  have : ∀ (l : List Nv) (h : Nat × Int), l.foldl (lstep k) h = h ∨ (k, l.foldl (lstep k) h) ∈ l := by
    intro l
    induction l with
    | nil => intro h; exact .inl rfl
    | cons a l ih =>
      intro h
      rw [List.foldl_cons]
      rcases ih (lstep k h a) with e | e
      · rw [e]
        unfold lstep
        by_cases hk : a.1 = k
        · rw [if_pos hk]; right; subst hk; exact List.mem_cons_self
        · rw [if_neg hk]; exact .inl rfl
      · exact .inr (List.mem_cons_of_mem _ e)
  exact this acc (0, 0)

/-! ### What holds in every run -/
structure Inv (n : Nat) (s : S) : Prop where
  acc_ok : ∀ k b v, (k, b, v) ∈ s.acc → k < n ∧ 1 ≤ b ∧ b ≤ 400 ∧ s.fixed b = true ∧ v = val s b ∧ b ≤ s.prom k
  acc_max : ∀ k b v, (k, b, v) ∈ s.acc → b ≤ (lastOf s.acc k).1
  pr_ok : ∀ b k bl vl, (k, bl, vl) ∈ s.pr b → k < n ∧ b ≤ s.prom k ∧ bl < b ∧ (bl ≠ 0 → (k, bl, vl) ∈ s.acc) ∧ ∀ b' v', (k, b', v') ∈ s.acc → b' < b → b' ≤ bl
  pr_dup : ∀ b, ((s.pr b).map (·.1)).Nodup
  fix_maj : ∀ b, s.fixed b = true → n < 2 * (s.pr b).length
  pr_seen : ∀ b, s.pr b ≠ [] → s.seen b = true
theorem inv0 (n : Nat) : Inv n S0 := ⟨fun k b v h => by simp [S0] at h, fun k b v h => by simp [S0] at h, fun b k bl vl h => by simp [S0] at h, fun b => by simp [S0], fun b h => by simp [S0] at h, fun b h => by simp [S0] at h⟩
theorem inv_name {n : Nat} {s : S} (h : Inv n s) {b : Nat} (v : Int) (hf : s.fixed b = false) : Inv n (name1 s b v) := by
  unfold name1
  split
  · exact h
  · rename_i hs
    refine ⟨fun k b' v' hm => ?_, h.acc_max, h.pr_ok, h.pr_dup, h.fix_maj, fun b' hb => ?_⟩
    · obtain ⟨h1, h2, h3, h4, h5, h6⟩ := h.acc_ok k b' v' hm
      refine ⟨h1, h2, h3, h4, ?_, h6⟩
      have hne : b' ≠ b := fun e => by rw [e, hf] at h4; cases h4
      show v' = (hv (s.pr b') (upd s.first b v b')).2
      rw [upd_other _ _ hne]
      exact h5
    · show upd s.seen b true b' = true
      unfold upd
      split
      · rfl
      · exact h.pr_seen b' hb
theorem inv_fix {n : Nat} {s : S} (h : Inv n s) {b : Nat} (hm : n < 2 * (s.pr b).length) : Inv n (fix1 s b) := by
  refine ⟨fun k b' v' hmm => ?_, h.acc_max, h.pr_ok, h.pr_dup, fun b' hb => ?_, h.pr_seen⟩
  · obtain ⟨h1, h2, h3, h4, h5, h6⟩ := h.acc_ok k b' v' hmm
    refine ⟨h1, h2, h3, ?_, h5, h6⟩
    show upd s.fixed b true b' = true
    unfold upd
    split
    · rfl
    · exact h4
  · have hb : upd s.fixed b true b' = true := hb
    unfold upd at hb
    split at hb
    · rename_i e; subst e; exact hm
    · exact h.fix_maj b' hb
/-- The state while a ballot is asked for. -/
theorem inv_prep1 {n b to k : Nat} {x : S × Nat} (h : Inv n x.1) (hk : k < n) (hb : 1 ≤ b) (hf : x.1.fixed b = false) (hs : x.1.seen b = true) :
    Inv n (prep1 b to x k).1 ∧ (prep1 b to x k).1.fixed = x.1.fixed ∧ (prep1 b to x k).1.seen = x.1.seen ∧ (prep1 b to x k).1.first = x.1.first := by
  unfold prep1
  split
  · rename_i hc
    obtain ⟨_, hp⟩ := hc
    have hno : ∀ p ∈ x.1.pr b, p.1 ≠ k := fun p hpm e => by
      obtain ⟨k', bl, vl⟩ := p
      have := (h.pr_ok b k' bl vl hpm).2.1
      have e : k' = k := e
      subst e
      omega
    refine ⟨⟨fun k' b' v' hm => ?_, h.acc_max, fun b' k' bl vl hm => ?_, fun b' => ?_, fun b' hb' => ?_, fun b' hb' => ?_⟩, rfl, rfl, rfl⟩
    · obtain ⟨h1, h2, h3, h4, h5, h6⟩ := h.acc_ok k' b' v' hm
      have hne : b' ≠ b := fun e => by rw [e, hf] at h4; cases h4
      refine ⟨h1, h2, h3, h4, ?_, ?_⟩
      · show v' = (hv (upd x.1.pr b _ b') (x.1.first b')).2
        rw [upd_other _ _ hne]; exact h5
      · show b' ≤ upd x.1.prom k b k'
        unfold upd
        split
        · rename_i e; subst e; omega
        · exact h6
    · have hm : (k', bl, vl) ∈ upd x.1.pr b (x.1.pr b ++ [(k, lastOf x.1.acc k)]) b' := hm
      have hmono : x.1.prom k' ≤ upd x.1.prom k b k' := by
        unfold upd
        split
        · rename_i e; subst e; omega
        · exact Nat.le_refl _
      have old : (k', bl, vl) ∈ x.1.pr b' → k' < n ∧ b' ≤ upd x.1.prom k b k' ∧ bl < b' ∧ (bl ≠ 0 → (k', bl, vl) ∈ x.1.acc) ∧ ∀ b2 v2, (k', b2, v2) ∈ x.1.acc → b2 < b' → b2 ≤ bl := fun hm => by
        obtain ⟨h1, h2, h3, h4, h5⟩ := h.pr_ok b' k' bl vl hm
        exact ⟨h1, Nat.le_trans h2 hmono, h3, h4, h5⟩
      by_cases e : b' = b
      · subst e
        rw [upd_same] at hm
        rcases List.mem_append.1 hm with hm | hm
        · exact old hm
        · simp only [List.mem_singleton, Prod.mk.injEq] at hm
          obtain ⟨rfl, hm⟩ := hm
          have e1 : bl = (lastOf x.1.acc k').1 := by rw [← hm]
          have e2 : vl = (lastOf x.1.acc k').2 := by rw [← hm]
          subst e1 e2
          refine ⟨hk, by show b' ≤ upd x.1.prom k' b' k'; rw [upd_same]; exact Nat.le_refl _, ?_, ?_, fun b2 v2 hm2 _ => h.acc_max k' b2 v2 hm2⟩
          · rcases lastOf_mem x.1.acc k' with e | e
            · rw [e]; show 0 < b'; omega
            · have := (h.acc_ok k' (lastOf x.1.acc k').1 (lastOf x.1.acc k').2 e).2.2.2.2.2
              omega
          · intro hne
            rcases lastOf_mem x.1.acc k' with e | e
            · rw [e] at hne; exact absurd rfl hne
            · exact e
      · rw [upd_other _ _ e] at hm
        exact old hm
    · show ((upd x.1.pr b (x.1.pr b ++ [(k, lastOf x.1.acc k)]) b').map (·.1)).Nodup
      by_cases e : b' = b
      · subst e
        rw [upd_same, List.map_append, List.nodup_append]
        refine ⟨h.pr_dup b', by simp, fun a ha c hc => ?_⟩
        obtain ⟨p, hpm, rfl⟩ := List.mem_map.1 ha
        simp at hc
        subst hc
        exact hno p hpm
      · rw [upd_other _ _ e]; exact h.pr_dup b'
    · have hl := h.fix_maj b' hb'
      show n < 2 * (upd x.1.pr b (x.1.pr b ++ [(k, lastOf x.1.acc k)]) b').length
      have hne : b' ≠ b := fun e => by have hb' : x.1.fixed b' = true := hb'; rw [e, hf] at hb'; cases hb'
      rw [upd_other _ _ hne]; exact hl
    · by_cases e : b' = b
      · subst e; exact hs
      · have hb' : upd x.1.pr b (x.1.pr b ++ [(k, lastOf x.1.acc k)]) b' ≠ [] := hb'
        rw [upd_other _ _ e] at hb'
        exact h.pr_seen b' hb'
  · exact ⟨h, rfl, rfl, rfl⟩
/-- The state while a ballot is accepted. -/
theorem inv_acc1 {n b to k : Nat} {v : Int} {x : S × Nat} (h : Inv n x.1) (hk : k < n) (hb : 1 ≤ b) (hb2 : b ≤ 400) (hf : x.1.fixed b = true) (hv' : v = val x.1 b) :
    Inv n (acc1 b to v x k).1 ∧ (acc1 b to v x k).1.fixed = x.1.fixed ∧ (acc1 b to v x k).1.pr = x.1.pr ∧ (acc1 b to v x k).1.first = x.1.first ∧ (acc1 b to v x k).1.seen = x.1.seen := by
  unfold acc1
  split
  · rename_i hc
    obtain ⟨_, hp⟩ := hc
    have hmono : ∀ k', x.1.prom k' ≤ upd x.1.prom k b k' := fun k' => by
      unfold upd
      split
      · rename_i e; subst e; exact hp
      · exact Nat.le_refl _
    refine ⟨⟨fun k' b' v' hm => ?_, fun k' b' v' hm => ?_, fun b' k' bl vl hm => ?_, h.pr_dup, h.fix_maj, h.pr_seen⟩, rfl, rfl, rfl, rfl⟩
    · rcases List.mem_append.1 hm with hm | hm
      · obtain ⟨h1, h2, h3, h4, h5, h6⟩ := h.acc_ok k' b' v' hm
        exact ⟨h1, h2, h3, h4, h5, Nat.le_trans h6 (hmono k')⟩
      · simp only [List.mem_singleton, Prod.mk.injEq] at hm
        obtain ⟨rfl, rfl, rfl⟩ := hm
        exact ⟨hk, hb, hb2, hf, hv', by show b' ≤ upd x.1.prom k' b' k'; rw [upd_same]; exact Nat.le_refl _⟩
    · show b' ≤ (lastOf (x.1.acc ++ [(k, b, v)]) k').1
      rw [lastOf_snoc]
      rcases List.mem_append.1 hm with hm | hm
      · by_cases e : k = k'
        · rw [if_pos e]
          have := (h.acc_ok k' b' v' hm).2.2.2.2.2
          rw [← e] at this
          show b' ≤ b
          omega
        · rw [if_neg e]; exact h.acc_max k' b' v' hm
      · simp only [List.mem_singleton, Prod.mk.injEq] at hm
        obtain ⟨rfl, rfl, rfl⟩ := hm
        rw [if_pos rfl]
        exact Nat.le_refl _
    · obtain ⟨h1, h2, h3, h4, h5⟩ := h.pr_ok b' k' bl vl hm
      refine ⟨h1, Nat.le_trans h2 (hmono k'), h3, fun hne => List.mem_append_left _ (h4 hne), fun b2 v2 hm2 hlt => ?_⟩
      rcases List.mem_append.1 hm2 with hm2 | hm2
      · exact h5 b2 v2 hm2 hlt
      · simp only [List.mem_singleton, Prod.mk.injEq] at hm2
        obtain ⟨rfl, rfl, rfl⟩ := hm2
        omega
  · exact ⟨h, rfl, rfl, rfl, rfl⟩
theorem inv_prep {n b to : Nat} (hb : 1 ≤ b) : ∀ (l : List Nat) (x : S × Nat), (∀ k ∈ l, k < n) → Inv n x.1 → x.1.fixed b = false → x.1.seen b = true →
    Inv n (l.foldl (prep1 b to) x).1 ∧ (l.foldl (prep1 b to) x).1.fixed = x.1.fixed ∧ (l.foldl (prep1 b to) x).1.seen = x.1.seen ∧ (l.foldl (prep1 b to) x).1.first = x.1.first
  | [], x, _, h, _, _ => ⟨h, rfl, rfl, rfl⟩
  | k :: l, x, hl, h, hf, hs => by
    obtain ⟨h1, h2, h3, h4⟩ := inv_prep1 (to := to) (x := x) h (hl k (by simp)) hb hf hs
    obtain ⟨g1, g2, g3, g4⟩ := inv_prep hb (to := to) l (prep1 b to x k) (fun j hj => hl j (List.mem_cons_of_mem _ hj)) h1 (by rw [h2]; exact hf) (by rw [h3]; exact hs)
    exact ⟨g1, g2.trans h2, g3.trans h3, g4.trans h4⟩
theorem inv_acc {n b to : Nat} {v : Int} (hb : 1 ≤ b) (hb2 : b ≤ 400) : ∀ (l : List Nat) (x : S × Nat), (∀ k ∈ l, k < n) → Inv n x.1 → x.1.fixed b = true → v = val x.1 b →
    Inv n (l.foldl (acc1 b to v) x).1 ∧ (l.foldl (acc1 b to v) x).1.fixed = x.1.fixed ∧ (l.foldl (acc1 b to v) x).1.pr = x.1.pr ∧ (l.foldl (acc1 b to v) x).1.first = x.1.first ∧ (l.foldl (acc1 b to v) x).1.seen = x.1.seen
  | [], x, _, h, _, _ => ⟨h, rfl, rfl, rfl, rfl⟩
  | k :: l, x, hl, h, hf, hv => by
    obtain ⟨h1, h2, h3, h4, h5⟩ := inv_acc1 (to := to) (x := x) h (hl k (by simp)) hb hb2 hf hv
    have hv2 : v = val (acc1 b to v x k).1 b := by
      unfold val
      rw [h3, h4]
      exact hv
    obtain ⟨g1, g2, g3, g4, g5⟩ := inv_acc hb hb2 (to := to) (v := v) l (acc1 b to v x k) (fun j hj => hl j (List.mem_cons_of_mem _ hj)) h1 (by rw [h2]; exact hf) hv2
    exact ⟨g1, g2.trans h2, g3.trans h3, g4.trans h4, g5.trans h5⟩
/-- What the error says of an operation that goes on. -/
theorem opE_zero {n : Nat} {s : S} {o : VO} (h : opE n s o = 0) : 1 ≤ o.2.1 ∧ o.2.1 ≤ 400 ∧ (o.1 = 1 ∧ s.fixed o.2.1.toNat = false ∨ o.1 = 2 ∧ n < 2 * (s.pr o.2.1.toNat).length) := by
  unfold opE at h
  split at h
  · cases h
  · split at h
    · cases h
    · split at h
      · split at h
        · cases h
        · rename_i h1 h2 h3 h4
          exact ⟨by omega, by omega, .inl ⟨h3, by simpa using h4⟩⟩
      · split at h
        · cases h
        · rename_i h1 h2 h3 h4
          exact ⟨by omega, by omega, .inr ⟨by omega, by omega⟩⟩
theorem name_facts (s : S) (b : Nat) (v : Int) : (name1 s b v).fixed = s.fixed ∧ (name1 s b v).seen b = true ∧ (name1 s b v).pr = s.pr ∧ (name1 s b v).acc = s.acc ∧ (name1 s b v).prom = s.prom := by
  unfold name1
  split
  · rename_i h; exact ⟨rfl, h, rfl, rfl, rfl⟩
  · exact ⟨rfl, upd_same _ _ _, rfl, rfl, rfl⟩
theorem inv_move {n : Nat} {s : S} {o : VO} (h : Inv n s) (he : opE n s o = 0) : Inv n (move n s o).1 := by
  obtain ⟨h1, h2, h3⟩ := opE_zero he
  have hb : 1 ≤ o.2.1.toNat := by omega
  have hb2 : o.2.1.toNat ≤ 400 := by omega
  have hr : ∀ k ∈ List.range n, k < n := fun k hk => List.mem_range.1 hk
  unfold move
  rcases h3 with ⟨hk, hf⟩ | ⟨hk, hm⟩
  · rw [if_pos hk]
    obtain ⟨n1, n2, n3, n4, n5⟩ := name_facts s o.2.1.toNat o.2.2.2
    exact (inv_prep hb (List.range n) (name1 s o.2.1.toNat o.2.2.2, 0) hr (inv_name h _ hf) (by rw [n1]; exact hf) n2).1
  · rw [if_neg (by omega)]
    exact (inv_acc hb hb2 (List.range n) (fix1 s o.2.1.toNat, 0) hr (inv_fix h hm) (upd_same _ _ _) rfl).1
theorem inv_step {n : Nat} {s : S} (o : VO) (h : Inv n s) : Inv n (step n s o).1 := by
  unfold step
  split
  · rename_i he; exact inv_move h he
  · exact h
theorem inv_run {n : Nat} : ∀ (l : List VO) (s : S), Inv n s → Inv n (run n s l).1
  | [], s, h => h
  | o :: l, s, h => inv_run l _ (inv_step o h)

/-! ### One value -/
theorem nodup_le : ∀ (n : Nat) (l : List Nat), l.Nodup → (∀ x ∈ l, x < n) → l.length ≤ n
  | 0, l, _, h => by
    cases l with
    | nil => exact Nat.le_refl _
    | cons a l => have := h a (by simp); omega
  | n + 1, l, hd, h => by
    by_cases hm : n ∈ l
    · have := nodup_le n (l.erase n) (hd.erase n) (fun x hx => by
        have h1 := h x (List.mem_of_mem_erase hx)
        have h2 : x ≠ n := (hd.mem_erase_iff.1 hx).1
        omega)
      rw [List.length_erase_of_mem hm] at this
      have : 0 < l.length := List.length_pos_of_mem hm
      omega
    · have := nodup_le n l hd (fun x hx => by
        have h1 := h x hx
        have h2 : x ≠ n := fun e => hm (e ▸ hx)
        omega)
      omega
theorem meet_two {n : Nat} {l k : List Nat} (hl : l.Nodup) (hk : k.Nodup) (h1 : ∀ x ∈ l, x < n) (h2 : ∀ x ∈ k, x < n) (h : n < l.length + k.length) : ∃ x, x ∈ l ∧ x ∈ k := by
  refine Classical.byContradiction fun hn => ?_
  have := nodup_le n (l ++ k) (List.nodup_append.2 ⟨hl, hk, fun a ha b hb e => hn ⟨a, ha, e ▸ hb⟩⟩) (fun x hx => by
    rcases List.mem_append.1 hx with h | h
    · exact h1 x h
    · exact h2 x h)
  rw [List.length_append] at this
  omega
theorem who_dup (n : Nat) (s : S) (b : Nat) : (who n s b).Nodup := List.Pairwise.filter _ List.nodup_range
theorem most_fixed {n : Nat} {s : S} (h : Inv n s) {b : Nat} (hm : most n s b = true) : ∃ k v, (k, b, v) ∈ s.acc ∧ s.fixed b = true ∧ 1 ≤ b ∧ b ≤ 400 := by
  unfold most at hm
  have hm := of_decide_eq_true hm
  cases hw : who n s b with
  | nil => rw [hw] at hm; simp at hm
  | cons k l =>
    have hk : k ∈ who n s b := by rw [hw]; simp
    obtain ⟨_, v, hv⟩ := mem_who.1 hk
    obtain ⟨_, h1, h2, h3, _⟩ := h.acc_ok k b v hv
    exact ⟨k, v, hv, h3, h1, h2⟩
/-- LAMPORT: whatever was chosen is the value of each later fixed ballot. -/
theorem safe {n : Nat} {s : S} (h : Inv n s) {b1 : Nat} (hm : most n s b1 = true) : ∀ b, b1 < b → s.fixed b = true → val s b = val s b1 := by
  intro b
  induction b using Nat.strongRecOn with
  | _ b ih =>
    intro hlt hf
    have hmaj := h.fix_maj b hf
    have hw := of_decide_eq_true hm
    obtain ⟨k, hk1, hk2⟩ := meet_two (n := n) (l := who n s b1) (k := (s.pr b).map (·.1)) (who_dup n s b1) (h.pr_dup b)
      (fun x hx => (mem_who.1 hx).1) (fun x hx => by
        obtain ⟨⟨k, bl, vl⟩, hp, rfl⟩ := List.mem_map.1 hx
        exact (h.pr_ok b k bl vl hp).1) (by rw [List.length_map]; omega)
    obtain ⟨_, v1, hv1⟩ := mem_who.1 hk1
    obtain ⟨⟨k', bl, vl⟩, hp, hke⟩ := List.mem_map.1 hk2
    have hke : k' = k := hke
    subst hke
    have hge := (h.pr_ok b k' bl vl hp).2.2.2.2 b1 v1 hv1 hlt
    have hb1 : 1 ≤ b1 := (h.acc_ok _ _ _ hv1).2.1
    obtain ⟨f1, f2⟩ := hv_facts (s.pr b) (s.first b)
    have hhigh := f1 _ hp
    have hhigh : bl ≤ (hv (s.pr b) (s.first b)).1 := hhigh
    rcases f2 with f2 | ⟨_, p, hpm, hpe⟩
    · rw [f2] at hhigh
      have hhigh : bl ≤ 0 := hhigh
      omega
    · obtain ⟨kp, bp, vp⟩ := p
      obtain ⟨_, _, hb, hin, _⟩ := h.pr_ok b kp bp vp hpm
      have e1 : bp = (hv (s.pr b) (s.first b)).1 := by rw [← hpe]
      have e2 : vp = val s b := by unfold val; rw [← hpe]
      obtain ⟨_, _, _, hfp, hvp, _⟩ := h.acc_ok _ _ _ (hin (by omega))
      rw [← e2, hvp]
      by_cases e : bp = b1
      · rw [e]
      · exact ih bp hb (by omega) hfp
theorem mem_chosen {n : Nat} {s : S} {x : Int} : x ∈ chosen n s ↔ ∃ b, 1 ≤ b ∧ b ≤ 400 ∧ most n s b = true ∧ val s b = x := by
  unfold chosen
  rw [List.mem_map]
  constructor
  · rintro ⟨b, hb, e⟩
    obtain ⟨h1, h2⟩ := List.mem_filter.1 hb
    have := List.mem_range.1 h1
    exact ⟨b + 1, by omega, by omega, h2, e⟩
  · rintro ⟨b, h1, h2, h3, e⟩
    exact ⟨b - 1, List.mem_filter.2 ⟨List.mem_range.2 (by omega), by rw [show b - 1 + 1 = b by omega]; exact h3⟩, by rw [show b - 1 + 1 = b by omega]; exact e⟩
theorem chosen_one {n : Nat} {s : S} (h : Inv n s) {x y : Int} (hx : x ∈ chosen n s) (hy : y ∈ chosen n s) : x = y := by
  obtain ⟨b, _, _, hb, rfl⟩ := mem_chosen.1 hx
  obtain ⟨c, _, _, hc, rfl⟩ := mem_chosen.1 hy
  obtain ⟨_, _, _, fb, _⟩ := most_fixed h hb
  obtain ⟨_, _, _, fc, _⟩ := most_fixed h hc
  rcases Nat.lt_trichotomy b c with hlt | rfl | hlt
  · exact (safe h hb c hlt fc).symm
  · rfl
  · exact safe h hc b hlt fb
end Go.Proofs.Ytpoielmbdofjlaa.Syn
