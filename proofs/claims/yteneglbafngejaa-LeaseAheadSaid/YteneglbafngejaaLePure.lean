/-
  Package lease, pure: runs; never two may act (Gray, Cheriton); a lease ends, is had again, is given back; what comes later changes nothing.
-/
import Derived.WalkKit
namespace Go.Proofs.Yteneglbafngejaa.Le
set_option linter.unusedVariables false
set_option linter.unusedSimpArgs false

/-- An operation: kind, node, number. An answer: error, may it? -/
abbrev LO := Int × Int × Int
abbrev LA := Int × Bool
structure Ls where
  now : Int
  holder : Int
  given : Int
  offs : Int → Int
  unt : Int → Option Int
def L0 : Ls := ⟨0, -1, 0, fun _ => 0, fun _ => none⟩
def put {α : Type} (f : Int → α) (k : Int) (v : α) : Int → α := fun j => if j = k then v else f j
theorem put_same {α : Type} (f : Int → α) (k : Int) (v : α) : put f k v k = v := if_pos rfl
theorem put_other {α : Type} (f : Int → α) {k j : Int} (v : α) (h : j ≠ k) : put f k v j = f j := if_neg h
section
variable (nodes long off : Int)
def opE (s : Ls) (o : LO) : Int :=
  if o.1 = 3 ∧ (o.2.2 < 0 ∨ 1099511627776 < o.2.2 ∨ 1099511627776 < s.now + o.2.2) then 2 else
  if o.1 = 3 then 0 else
  if o.1 < 1 ∨ 5 < o.1 then 5 else
  if ¬ (0 ≤ o.2.1 ∧ o.2.1 < nodes) then 3 else
  if o.1 = 4 ∧ (off < o.2.2 ∨ o.2.2 < -off) then 2 else
  if o.1 = 4 then 0 else
  if o.1 = 1 ∧ 0 ≤ s.holder ∧ s.holder ≠ o.2.1 ∧ s.now - s.given < long + 2 * off then 6 else
  if o.1 = 1 then 0 else
  if o.1 = 2 ∧ s.holder ≠ o.2.1 then 3 else 0
/-- What an operation that goes well does. -/
def act (s : Ls) (o : LO) : Ls :=
  if o.1 = 3 then { s with now := s.now + o.2.2 } else
  if o.1 = 4 then { s with offs := put s.offs o.2.1 o.2.2 } else
  if o.1 = 1 then { s with holder := o.2.1, given := s.now, unt := put s.unt o.2.1 (some (s.now + s.offs o.2.1 + long)) } else
  if o.1 = 2 then { s with holder := -1, unt := put s.unt o.2.1 none } else s
def may (s : Ls) (k : Int) : Bool := match s.unt k with
  | some u => decide (s.now + s.offs k < u)
  | none => false
def step (s : Ls) (o : LO) : Ls := if opE nodes long off s o = 0 then act long s o else s
def ans (s : Ls) (o : LO) : LA := (opE nodes long off s o, decide (opE nodes long off s o = 0) && decide (o.1 ≠ 3) && may (step nodes long off s o) o.2.1)
def run : Ls → List LO → Ls
  | s, [] => s
  | s, o :: l => run (step nodes long off s o) l
def answers : Ls → List LO → List LA
  | _, [] => []
  | s, o :: l => ans nodes long off s o :: answers (step nodes long off s o) l
def playE (n : Nat) : Int := if nodes < 1 ∨ 16 < nodes ∨ long < 1 ∨ 1048576 < long ∨ off < 0 ∨ 1048576 < off ∨ 400 < n then 2 else 0
def playL (l : List LO) : List LA := if playE nodes long off l.length = 0 then answers nodes long off L0 l else []
variable {nodes long off}
theorem run_app (s : Ls) : ∀ (a b : List LO), run nodes long off s (a ++ b) = run nodes long off (run nodes long off s a) b
  | [], _ => rfl
  | o :: a, b => run_app _ a b
theorem answers_app (s : Ls) : ∀ (a b : List LO), answers nodes long off s (a ++ b) = answers nodes long off s a ++ answers nodes long off (run nodes long off s a) b
  | [], _ => rfl
  | o :: a, b => by
    show _ :: answers nodes long off _ (a ++ b) = _ :: _
    rw [answers_app _ a b]; rfl
theorem answers_len (s : Ls) : ∀ l : List LO, (answers nodes long off s l).length = l.length
  | [] => rfl
  | o :: l => by show (answers nodes long off _ l).length + 1 = _; rw [answers_len _ l]; rfl
theorem answers_snoc (s : Ls) (a : List LO) (o : LO) : answers nodes long off s (a ++ [o]) = answers nodes long off s a ++ [ans nodes long off (run nodes long off s a) o] := by rw [answers_app]; rfl
theorem run_snoc (s : Ls) (a : List LO) (o : LO) : run nodes long off s (a ++ [o]) = step nodes long off (run nodes long off s a) o := by rw [run_app]; rfl

/-! ### What holds at any time -/
structure Inv (nodes long off : Int) (s : Ls) : Prop where
  t0 : 0 ≤ s.now ∧ s.now ≤ 1099511627776
  g0 : 0 ≤ s.given ∧ s.given ≤ s.now
  ho : -1 ≤ s.holder ∧ s.holder < nodes
  of : ∀ k, -off ≤ s.offs k ∧ s.offs k ≤ off
  un : ∀ k u, s.unt k = some u → (0 ≤ k ∧ k < nodes) ∧ u ≤ s.given + off + long ∧ -off ≤ u ∧ (k ≠ s.holder → u ≤ s.now - off)
  ha : 0 ≤ s.holder → ∃ u, s.unt s.holder = some u
theorem inv0 (h1 : 1 ≤ nodes) (h2 : 0 ≤ off) (h3 : 0 ≤ long) : Inv nodes long off L0 :=
  ⟨by simp [L0], by simp [L0], by simp [L0]; omega, fun k => by simp [L0]; exact h2, fun k u h => by simp [L0] at h, fun h => by simp [L0] at h⟩
theorem Inv.step {s : Ls} (h : Inv nodes long off s) (h2 : 0 ≤ off) (h3 : 0 ≤ long) (h1 : 1 ≤ nodes) (o : LO) : Inv nodes long off (step nodes long off s o) := by
  unfold Le.step
  split
  · rename_i he
    unfold opE at he
    unfold act
    by_cases k3 : o.1 = 3
    · rw [if_pos k3]
      simp only [k3, true_and, if_true] at he
      split at he
      · cases he
      · rename_i hn
        exact ⟨by simp only; have := h.t0; omega, by simp only; have := h.g0; omega, h.ho, h.of, fun k u hu => by
          obtain ⟨a1, a2, a3, a4⟩ := h.un k u hu
          exact ⟨a1, a2, a3, fun hk => by have := a4 hk; simp only; omega⟩, h.ha⟩
    · rw [if_neg k3]
      rw [if_neg (fun e => k3 e.1), if_neg k3] at he
      split at he
      · cases he
      split at he
      · cases he
      rename_i hk hin
      have hin : 0 ≤ o.2.1 ∧ o.2.1 < nodes := by
        rcases Classical.em (0 ≤ o.2.1 ∧ o.2.1 < nodes) with e | e
        · exact e
        · exact absurd e hin
      by_cases k4 : o.1 = 4
      · rw [if_pos k4]
        simp only [k4, true_and, if_true] at he
        split at he
        · cases he
        · rename_i hn
          refine ⟨h.t0, h.g0, h.ho, fun k => ?_, h.un, h.ha⟩
          simp only
          by_cases e : k = o.2.1
          · subst e; rw [put_same]; omega
          · rw [put_other _ _ e]; exact h.of k
      · rw [if_neg k4]
        rw [if_neg (fun e => k4 e.1), if_neg k4] at he
        by_cases k1 : o.1 = 1
        · rw [if_pos k1]
          simp only [k1, true_and, if_true] at he
          split at he
          · cases he
          · rename_i hn
            refine ⟨h.t0, by simp only; have := h.t0; omega, by simp only; omega, h.of, fun k u hu => ?_, fun _ => ⟨_, put_same _ _ _⟩⟩
            simp only at hu ⊢
            by_cases e : k = o.2.1
            · subst e
              rw [put_same] at hu
              injection hu with hu
              have := h.of o.2.1
              have := h.t0
              exact ⟨hin, by omega, by omega, fun e => absurd rfl e⟩
            · rw [put_other _ _ e] at hu
              obtain ⟨a1, a2, a3, a4⟩ := h.un k u hu
              refine ⟨a1, by have := h.g0; omega, a3, fun _ => ?_⟩
              by_cases ek : k = s.holder
              · subst ek
                have : s.holder ≠ o.2.1 := e
                omega
              · exact a4 ek
        · rw [if_neg k1]
          by_cases k2 : o.1 = 2
          · rw [if_pos k2]
            rw [if_neg (fun e => k1 e.1), if_neg k1] at he
            simp only [k2, true_and] at he
            split at he
            · cases he
            · rename_i hn
              have hn : s.holder = o.2.1 := by
                rcases Classical.em (s.holder = o.2.1) with e | e
                · exact e
                · exact absurd e hn
              refine ⟨h.t0, h.g0, by simp only; omega, h.of, fun k u hu => ?_, fun e => by simp only at e; omega⟩
              simp only at hu ⊢
              by_cases e : k = o.2.1
              · subst e; rw [put_same] at hu; cases hu
              · rw [put_other _ _ e] at hu
                obtain ⟨a1, a2, a3, a4⟩ := h.un k u hu
                exact ⟨a1, a2, a3, fun _ => a4 (by rw [hn]; exact e)⟩
          · rw [if_neg k2]; exact h
  · exact h
theorem Inv.run {s : Ls} (h2 : 0 ≤ off) (h3 : 0 ≤ long) (h1 : 1 ≤ nodes) : ∀ (l : List LO), Inv nodes long off s → Inv nodes long off (run nodes long off s l)
  | [], h => h
  | o :: l, h => Inv.run h2 h3 h1 l (h.step h2 h3 h1 o)
/-- Who may is the holder. -/
theorem may_holder {s : Ls} (h : Inv nodes long off s) {k : Int} (hm : may s k = true) : k = s.holder := by
  unfold may at hm
  cases hu : s.unt k with
  | none => rw [hu] at hm; cases hm
  | some u =>
    rw [hu] at hm
    have hm := of_decide_eq_true hm
    rcases Classical.em (k = s.holder) with e | e
    · exact e
    · have := (h.un k u hu).2.2.2 e
      have := h.of k
      omega
theorem playE_zero {n : Nat} (h : playE nodes long off n = 0) : (1 ≤ nodes ∧ nodes ≤ 16) ∧ (1 ≤ long ∧ long ≤ 1048576) ∧ (0 ≤ off ∧ off ≤ 1048576) ∧ n ≤ 400 := by
  unfold playE at h
  split at h
  · cases h
  · omega
theorem may_op {s : Ls} {k : Int} (hk : 0 ≤ k ∧ k < nodes) : opE nodes long off s (5, k, 0) = 0 ∧ step nodes long off s (5, k, 0) = s := by
  have e : opE nodes long off s (5, k, 0) = 0 := by unfold opE; simp [hk]
  refine ⟨e, ?_⟩
  unfold step
  rw [if_pos e]
  unfold act
  simp
/-- All are asked. -/
def asks (n : Nat) : List LO := (List.range n).map (fun (k : Nat) => ((5 : Int), (k : Int), (0 : Int)))
theorem asks_run {s : Ls} : ∀ (l : List Nat), (∀ k ∈ l, (k : Int) < nodes) → answers nodes long off s (l.map (fun (k : Nat) => ((5 : Int), (k : Int), (0 : Int)))) = l.map (fun (k : Nat) => ((0 : Int), may s (k : Int)))
  | [], _ => rfl
  | k :: l, h => by
    obtain ⟨e1, e2⟩ := may_op (nodes := nodes) (long := long) (off := off) (s := s) (k := (k : Int)) ⟨by omega, h k (by simp)⟩
    show ans nodes long off s (5, (k : Int), 0) :: answers nodes long off (step nodes long off s (5, (k : Int), 0)) _ = _
    rw [e2, asks_run l (fun j hj => h j (by simp [hj]))]
    rw [List.map_cons]
    congr 1
    unfold ans
    rw [e1, e2]
    simp
def mays (l : List LA) : Nat := (l.filter (·.2)).length
theorem mays_snoc (l : List LA) (x : LA) : mays (l ++ [x]) = mays l + (if x.2 = true then 1 else 0) := by
  unfold mays
  rw [List.filter_append, List.length_append]
  congr 1
  cases h : x.2 <;> simp [h]
theorem one_may {s : Ls} (h : Inv nodes long off s) : ∀ (l : List Nat), l.Nodup → mays (l.map (fun (k : Nat) => ((0 : Int), may s (k : Int)))) ≤ 1
  | [], _ => by simp [mays]
  | k :: l, hn => by
    rw [List.nodup_cons] at hn
    have ih := one_may h l hn.2
    unfold mays at ih ⊢
    rw [List.map_cons, List.filter_cons]
    cases hm : may s (k : Int) with
    | false => simpa [hm] using ih
    | true =>
      have e : (l.map (fun (k : Nat) => ((0 : Int), may s (k : Int)))).filter (·.2) = [] := by
        rw [List.filter_eq_nil_iff]
        intro x hx hx2
        obtain ⟨j, hj, rfl⟩ := List.mem_map.1 hx
        have h1 := may_holder h hm
        have h2 := may_holder h hx2
        have : j = k := by omega
        subst this
        exact hn.1 hj
      simp [hm, e]
/-- LeaseOne. -/
theorem lease_one {l : List LO} {n : Nat} (hn : nodes = n) (hE : playE nodes long off (l ++ asks n).length = 0) : mays ((playL nodes long off (l ++ asks n)).drop l.length) ≤ 1 := by
  obtain ⟨a1, a2, a3, _⟩ := playE_zero hE
  unfold playL
  rw [if_pos hE, answers_app, List.drop_left' (answers_len _ _)]
  unfold asks
  rw [asks_run _ (fun k hk => by have := List.mem_range.1 hk; omega)]
  exact one_may (Inv.run a3.1 (by omega) a1.1 l (inv0 a1.1 a3.1 (by omega))) _ List.nodup_range
theorem opE_ask {s : Ls} {k : Int} (hk : 0 ≤ k ∧ k < nodes) : opE nodes long off s (1, k, 0) = if 0 ≤ s.holder ∧ s.holder ≠ k ∧ s.now - s.given < long + 2 * off then 6 else 0 := by
  unfold opE
  rw [if_neg (by simp), if_neg (by simp), if_neg (by simp), if_neg (by simp only [Classical.not_not]; exact hk), if_neg (by simp), if_neg (by simp)]
  simp
theorem ask_gets {s : Ls} {k : Int} (hl : 1 ≤ long) (h : opE nodes long off s (1, k, 0) = 0) : ans nodes long off s (1, k, 0) = (0, true) ∧ (step nodes long off s (1, k, 0)).holder = k := by
  have e : step nodes long off s (1, k, 0) = { s with holder := k, given := s.now, unt := put s.unt k (some (s.now + s.offs k + long)) } := by
    unfold step
    rw [if_pos h]
    rfl
  refine ⟨?_, by rw [e]⟩
  unfold ans
  rw [h, e]
  unfold may
  simp only [put_same]
  rw [decide_eq_true (show s.now + s.offs k < s.now + s.offs k + long by omega)]
  rfl
/-- LeaseEnd. -/
theorem lease_end {l : List LO} {who : Int} (hw : 0 ≤ who ∧ who < nodes) (hE : playE nodes long off (l.length + 2) = 0) :
    ∃ x y, playL nodes long off (l ++ [(3, 0, long + 2 * off), (1, who, 0)]) = answers nodes long off L0 l ++ [x, y] ∧ (x.1 ≠ 0 ∨ y = (0, true)) := by
  obtain ⟨a1, a2, a3, _⟩ := playE_zero hE
  refine ⟨ans nodes long off (run nodes long off L0 l) (3, 0, long + 2 * off), ans nodes long off (step nodes long off (run nodes long off L0 l) (3, 0, long + 2 * off)) (1, who, 0), ?_, ?_⟩
  · unfold playL
    rw [List.length_append]
    show (if playE nodes long off (l.length + 2) = 0 then _ else _) = _
    rw [if_pos hE, answers_app]
    rfl
  · have hI := Inv.run a3.1 (by omega) a1.1 l (inv0 (nodes := nodes) (long := long) a1.1 a3.1 (by omega))
    generalize run nodes long off L0 l = s at hI
    by_cases h0 : opE nodes long off s (3, 0, long + 2 * off) = 0
    · right
      have e : step nodes long off s (3, 0, long + 2 * off) = { s with now := s.now + (long + 2 * off) } := by
        unfold step
        rw [if_pos h0]
        rfl
      rw [e]
      refine (ask_gets a2.1 ?_).1
      rw [opE_ask hw, if_neg]
      have := hI.g0
      simp only
      omega
    · exact .inl h0
/-- LeaseAgain. -/
theorem lease_again {l : List LO} {who : Int} (hw : 0 ≤ who ∧ who < nodes) (hE : playE nodes long off (l.length + 3) = 0) :
    ∃ x y z, playL nodes long off (l ++ [(1, who, 0), (1, who, 0), (2, who, 0)]) = answers nodes long off L0 l ++ [x, y, z] ∧ x = y ∧ ((x = (0, true) ∧ z = (0, false)) ∨ x.1 = 6) := by
  obtain ⟨a1, a2, a3, _⟩ := playE_zero hE
  generalize hs : run nodes long off L0 l = s
  refine ⟨ans nodes long off s (1, who, 0), ans nodes long off (step nodes long off s (1, who, 0)) (1, who, 0), ans nodes long off (step nodes long off (step nodes long off s (1, who, 0)) (1, who, 0)) (2, who, 0), ?_, ?_⟩
  · unfold playL
    rw [List.length_append]
    show (if playE nodes long off (l.length + 3) = 0 then _ else _) = _
    rw [if_pos hE, answers_app, hs]
    rfl
  · by_cases h0 : opE nodes long off s (1, who, 0) = 0
    · obtain ⟨x1, x2⟩ := ask_gets (nodes := nodes) (off := off) a2.1 h0
      generalize step nodes long off s (1, who, 0) = s1 at x2
      have h1 : opE nodes long off s1 (1, who, 0) = 0 := by rw [opE_ask hw, if_neg (by rw [x2]; simp)]
      obtain ⟨y1, y2⟩ := ask_gets (nodes := nodes) (off := off) a2.1 h1
      generalize step nodes long off s1 (1, who, 0) = s2 at y2
      refine ⟨x1.trans y1.symm, .inl ⟨x1, ?_⟩⟩
      have h2 : opE nodes long off s2 (2, who, 0) = 0 := by
        unfold opE
        rw [if_neg (by simp), if_neg (by simp), if_neg (by simp), if_neg (by simp only [Classical.not_not]; exact hw), if_neg (by simp), if_neg (by simp), if_neg (by simp), if_neg (by simp), if_neg (by simp [y2])]
      have e : step nodes long off s2 (2, who, 0) = { s2 with holder := -1, unt := put s2.unt who none } := by
        unfold step
        rw [if_pos h2]
        rfl
      unfold ans
      rw [h2, e]
      unfold may
      simp [put_same]
    · have e6 : opE nodes long off s (1, who, 0) = 6 := by
        rw [opE_ask hw] at h0 ⊢
        split
        · rfl
        · rename_i hn; rw [if_neg hn] at h0; exact absurd rfl h0
      have e : step nodes long off s (1, who, 0) = s := by unfold step; rw [if_neg h0]
      rw [e]
      exact ⟨rfl, .inr e6⟩
/-- LeaseAhead. -/
theorem lease_ahead {l : List LO} {n : Nat} (h1 : playE nodes long off l.length = 0) (h2 : playE nodes long off (l.take n).length = 0) : (playL nodes long off l).take (l.take n).length = playL nodes long off (l.take n) := by
  have e : playL nodes long off l = answers nodes long off L0 (l.take n) ++ answers nodes long off (run nodes long off L0 (l.take n)) (l.drop n) := by
    unfold playL
    rw [if_pos h1, ← answers_app, List.take_append_drop]
  have e2 : playL nodes long off (l.take n) = answers nodes long off L0 (l.take n) := by unfold playL; rw [if_pos h2]
  rw [e, e2, List.take_left' (answers_len _ _)]
theorem play_len {l : List LO} (h : playE nodes long off l.length = 0) : (playL nodes long off l).length = l.length := by unfold playL; rw [if_pos h, answers_len]
end
end Go.Proofs.Yteneglbafngejaa.Le
