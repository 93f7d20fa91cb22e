/-
  Package lease, pure: what the server keeps, and that it is like the document's state.
-/
import Derived.Test.YteneglbafngejaaLePure2
namespace Go.Proofs.Yteneglbafngejaa.Le
set_option linter.unusedVariables false
set_option linter.unusedSimpArgs false

structure Rs where
  now : Int
  holder : Int
  exp : Int
  offs : Nat → Int
  till : Nat → Int
  has : Nat → Bool
def updN {α : Type} (f : Nat → α) (k : Nat) (v : α) : Nat → α := fun j => if j = k then v else f j
theorem updN_same {α : Type} (f : Nat → α) (k : Nat) (v : α) : updN f k v k = v := if_pos rfl
theorem updN_other {α : Type} (f : Nat → α) {k j : Nat} (v : α) (h : j ≠ k) : updN f k v j = f j := if_neg h
def R0 : Rs := ⟨0, -1, 0, fun _ => 0, fun _ => 0, fun _ => false⟩
structure Like (m : Nat) (long off : Int) (s : Ls) (p : Rs) : Prop where
  now : p.now = s.now
  holder : p.holder = s.holder
  exp : 0 ≤ s.holder → p.exp = s.given + long + 2 * off
  offs : ∀ k : Nat, p.offs k = s.offs k
  has : ∀ k : Nat, p.has k = (s.unt k).isSome
  till : ∀ (k : Nat) z, s.unt k = some z → p.till k = z
theorem like0 (m : Nat) (long off : Int) : Like m long off L0 R0 :=
  ⟨rfl, rfl, fun h => by simp [L0] at h, fun _ => rfl, fun _ => rfl, fun k z h => by simp [L0] at h⟩

/-! ### One operation, as the server does it -/
def tickR (p : Rs) (n : Int) : Int × Rs := if 0 ≤ n ∧ n ≤ 1099511627776 - p.now then (0, { p with now := p.now + n }) else (2, p)
def offR (off : Int) (p : Rs) (k : Nat) (n : Int) : Int × Rs := if -off ≤ n ∧ n ≤ off then (0, { p with offs := updN p.offs k n }) else (2, p)
def askR (long off : Int) (p : Rs) (k : Nat) : Int × Rs :=
  if p.holder ≠ -1 ∧ p.holder ≠ (k : Int) ∧ p.now < p.exp then (6, p) else
  (0, { p with holder := (k : Int), exp := p.now + long + 2 * off, has := updN p.has k true, till := updN p.till k (p.now + p.offs k + long) })
def giveR (p : Rs) (k : Nat) : Int × Rs := if p.holder ≠ (k : Int) then (3, p) else (0, { p with holder := -1, has := updN p.has k false })
def mayR (p : Rs) (k : Nat) : Bool := p.has k && decide (p.now + p.offs k < p.till k)
def nodeR (m : Nat) (long off : Int) (p : Rs) (a b c : Int) : Int × Rs :=
  if a < 1 ∨ 5 < a then (5, p) else
  if b < 0 ∨ (m : Int) - 1 < b then (3, p) else
  if a = 1 then askR long off p b.toNat else
  if a = 2 then giveR p b.toNat else
  if a = 4 then offR off p b.toNat c else (0, p)
def perfR (m : Nat) (long off : Int) (p : Rs) (o : LO) : LA × Rs :=
  if o.1 = 3 then (((tickR p o.2.2).1, false), (tickR p o.2.2).2) else
  if (nodeR m long off p o.1 o.2.1 o.2.2).1 ≠ 0 then (((nodeR m long off p o.1 o.2.1 o.2.2).1, false), (nodeR m long off p o.1 o.2.1 o.2.2).2) else
  ((0, mayR (nodeR m long off p o.1 o.2.1 o.2.2).2 o.2.1.toNat), (nodeR m long off p o.1 o.2.1 o.2.2).2)
def runR (m : Nat) (long off : Int) : Rs → List LO → Rs
  | p, [] => p
  | p, o :: l => runR m long off (perfR m long off p o).2 l
def ansR (m : Nat) (long off : Int) : Rs → List LO → List LA
  | _, [] => []
  | p, o :: l => (perfR m long off p o).1 :: ansR m long off (perfR m long off p o).2 l
theorem runR_snoc (m : Nat) (long off : Int) : ∀ (p : Rs) (a : List LO) (o : LO), runR m long off p (a ++ [o]) = (perfR m long off (runR m long off p a) o).2
  | _, [], _ => rfl
  | _, _ :: a, o => runR_snoc m long off _ a o
theorem ansR_snoc (m : Nat) (long off : Int) : ∀ (p : Rs) (a : List LO) (o : LO), ansR m long off p (a ++ [o]) = ansR m long off p a ++ [(perfR m long off (runR m long off p a) o).1]
  | _, [], _ => rfl
  | _, _ :: a, o => by show _ :: ansR m long off _ (a ++ [o]) = _ :: _; rw [ansR_snoc m long off _ a o]; rfl
theorem ansR_len (m : Nat) (long off : Int) : ∀ (p : Rs) (a : List LO), (ansR m long off p a).length = a.length
  | _, [] => rfl
  | _, _ :: a => by show (ansR m long off _ a).length + 1 = _; rw [ansR_len m long off _ a]; rfl
theorem may_like {m : Nat} {long off : Int} {s : Ls} {p : Rs} (h : Like m long off s p) (k : Nat) : mayR p k = may s (k : Int) := by
  unfold mayR may
  rw [h.has, h.now, h.offs]
  cases e : s.unt (k : Int) with
  | none => rfl
  | some z => rw [h.till k z e]; rfl
/-- A step that does nothing. -/
theorem perf_err {m : Nat} {long off : Int} {s : Ls} {p : Rs} {o : LO} {x : Int} (h : Like m long off s p) (hx : x ≠ 0) (e1 : opE m long off s o = x) (e2 : perfR m long off p o = ((x, false), p)) :
    (perfR m long off p o).1 = ans m long off s o ∧ Like m long off (step m long off s o) (perfR m long off p o).2 := by
  rw [e2, step_no (by rw [e1]; exact hx)]
  refine ⟨?_, h⟩
  unfold ans
  rw [e1]
  simp [hx]
theorem perf_node {m : Nat} {long off : Int} {p : Rs} {a b c : Int} (h3 : a ≠ 3) {x : Int} {q : Rs} (hn : nodeR m long off p a b c = (x, q)) : perfR m long off p (a, b, c) = if x ≠ 0 then ((x, false), q) else ((0, mayR q b.toNat), q) := by
  unfold perfR
  simp only [if_neg h3, hn]
theorem perf_yes {m : Nat} {long off : Int} {s : Ls} {p q : Rs} {a c : Int} {k : Nat} (h3 : a ≠ 3) (e1 : opE m long off s (a, (k : Int), c) = 0) (hn : nodeR m long off p a k c = (0, q)) (hq : Like m long off (act long s (a, (k : Int), c)) q) :
    (perfR m long off p (a, (k : Int), c)).1 = ans m long off s (a, (k : Int), c) ∧ Like m long off (step m long off s (a, (k : Int), c)) (perfR m long off p (a, (k : Int), c)).2 := by
  rw [perf_node h3 hn, if_neg (by simp)]
  refine ⟨?_, by rw [step_yes e1]; exact hq⟩
  unfold ans
  rw [step_yes e1, e1]
  simp only [Int.toNat_natCast, h3, decide_true, ne_eq, not_false_eq_true, Bool.and_self, Bool.true_and]
  rw [may_like hq]
theorem like_perf {m : Nat} {long off : Int} (hm : 1 ≤ m) {s : Ls} {p : Rs} (h : Like m long off s p) (hi : Inv m long off s) (o : LO) :
    (perfR m long off p o).1 = ans m long off s o ∧ Like m long off (step m long off s o) (perfR m long off p o).2 := by
  obtain ⟨a, b, c⟩ := o
  by_cases h3 : a = 3
  · subst h3
    by_cases hb : c < 0 ∨ 1099511627776 < c ∨ 1099511627776 < s.now + c
    · refine perf_err h (x := 2) (by decide) (c_tick_bad hb) ?_
      unfold perfR
      rw [if_pos rfl]
      simp only
      unfold tickR
      rw [if_neg (by rw [h.now]; have := hi.t0; omega)]
    · have e := c_tick (nodes := m) (long := long) (off := off) (nd := b) hb
      have e2 : perfR m long off p (3, b, c) = ((0, false), { p with now := p.now + c }) := by
        unfold perfR
        rw [if_pos rfl]
        simp only
        unfold tickR
        rw [if_pos (by rw [h.now]; omega)]
      rw [e2, step_yes e, a_tick]
      refine ⟨?_, ⟨by simp only; rw [h.now], h.holder, h.exp, h.offs, h.has, h.till⟩⟩
      unfold ans
      rw [e]
      simp
  · by_cases hk : a < 1 ∨ 5 < a
    · refine perf_err h (x := 5) (by decide) (c_kind h3 hk) ?_
      rw [perf_node h3 (x := 5) (q := p) (by unfold nodeR; rw [if_pos hk]), if_pos (by decide)]
    by_cases hin : 0 ≤ b ∧ b < (m : Int)
    · obtain ⟨k, rfl⟩ : ∃ k : Nat, b = (k : Int) := ⟨b.toNat, by omega⟩
      have nr : nodeR m long off p a k c = (if a = 1 then askR long off p k else if a = 2 then giveR p k else if a = 4 then offR off p k c else (0, p)) := by
        unfold nodeR
        rw [if_neg hk, if_neg (by omega), Int.toNat_natCast]
      have ha : a = 1 ∨ a = 2 ∨ a = 4 ∨ a = 5 := by omega
      rcases ha with rfl | rfl | rfl | rfl
      · rw [if_pos rfl] at nr
        by_cases hb : 0 ≤ s.holder ∧ s.holder ≠ (k : Int) ∧ s.now - s.given < long + 2 * off
        · refine perf_err h (x := 6) (by decide) (c_ask_bad hin hb) ?_
          rw [perf_node h3 (x := 6) (q := p) (by rw [nr]; unfold askR; rw [if_pos ⟨by rw [h.holder]; omega, by rw [h.holder]; exact hb.2.1, by rw [h.now, h.exp hb.1]; omega⟩]), if_pos (by decide)]
        · refine perf_yes (q := { p with holder := (k : Int), exp := p.now + long + 2 * off, has := updN p.has k true, till := updN p.till k (p.now + p.offs k + long) }) h3 (c_ask hin hb) (nr.trans ?_) ?_
          · unfold askR
            rw [if_neg (by
              rintro ⟨q1, q2, q3⟩
              rw [h.holder] at q1 q2
              have := hi.ho
              rw [h.now, h.exp (by omega)] at q3
              exact hb ⟨by omega, q2, by omega⟩)]
          · rw [a_ask]
            refine ⟨h.now, rfl, fun _ => by show p.now + long + 2 * off = _; rw [h.now], h.offs, fun j => ?_, fun j z hz => ?_⟩
            · by_cases e : j = k
              · subst e; simp only [updN_same, put_same]; rfl
              · simp only; rw [updN_other _ _ e, put_other _ _ (by omega)]; exact h.has j
            · by_cases e : j = k
              · subst e
                simp only [put_same] at hz
                injection hz with hz
                simp only [updN_same]
                rw [h.now, h.offs]; exact hz
              · simp only at hz ⊢
                rw [put_other _ _ (by omega)] at hz
                rw [updN_other _ _ e]; exact h.till j z hz
      · rw [if_neg (by decide), if_pos rfl] at nr
        by_cases hb : s.holder = (k : Int)
        · refine perf_yes (q := { p with holder := -1, has := updN p.has k false }) h3 (c_give hin hb) (nr.trans ?_) ?_
          · unfold giveR
            rw [if_neg (by rw [h.holder]; exact fun e => e hb)]
          · rw [a_give]
            refine ⟨h.now, rfl, fun e => by simp at e, h.offs, fun j => ?_, fun j z hz => ?_⟩
            · by_cases e : j = k
              · subst e; simp only [updN_same, put_same]; rfl
              · simp only; rw [updN_other _ _ e, put_other _ _ (by omega)]; exact h.has j
            · by_cases e : j = k
              · subst e
                simp only [put_same] at hz
                cases hz
              · simp only at hz ⊢
                rw [put_other _ _ (by omega)] at hz
                exact h.till j z hz
        · refine perf_err h (x := 3) (by decide) (c_give_bad hin hb) ?_
          rw [perf_node h3 (x := 3) (q := p) (by rw [nr]; unfold giveR; rw [if_pos (by rw [h.holder]; exact hb)]), if_pos (by decide)]
      · rw [if_neg (by decide), if_neg (by decide), if_pos rfl] at nr
        by_cases hb : off < c ∨ c < -off
        · refine perf_err h (x := 2) (by decide) (c_fast_bad hin hb) ?_
          rw [perf_node h3 (x := 2) (q := p) (by rw [nr]; unfold offR; rw [if_neg (by omega)]), if_pos (by decide)]
        · refine perf_yes (q := { p with offs := updN p.offs k c }) h3 (c_fast hin hb) (nr.trans ?_) ?_
          · unfold offR
            rw [if_pos (by omega)]
          · rw [a_fast]
            refine ⟨h.now, h.holder, h.exp, fun j => ?_, h.has, h.till⟩
            by_cases e : j = k
            · subst e; simp only [updN_same, put_same]
            · simp only; rw [updN_other _ _ e, put_other _ _ (by omega)]; exact h.offs j
      · rw [if_neg (by decide), if_neg (by decide), if_neg (by decide)] at nr
        exact perf_yes h3 (c_may hin) nr (by rw [a_may]; exact h)
    · refine perf_err h (x := 3) (by decide) (c_out h3 hk hin) ?_
      rw [perf_node h3 (x := 3) (q := p) (by unfold nodeR; rw [if_neg hk, if_pos (by omega)]), if_pos (by decide)]
theorem like_run {m : Nat} {long off : Int} (h1 : 1 ≤ m) (h2 : 0 ≤ off) (h3 : 0 ≤ long) : ∀ (l : List LO) (s : Ls) (p : Rs), Inv m long off s → Like m long off s p → ansR m long off p l = answers m long off s l
  | [], _, _, _, _ => rfl
  | o :: l, s, p, hi, h => by
    obtain ⟨e1, e2⟩ := like_perf h1 h hi o
    show _ :: ansR m long off _ l = _ :: answers m long off _ l
    rw [e1, like_run h1 h2 h3 l _ _ (hi.step h2 h3 (by omega) o) e2]
/-! ### Bounds -/
structure Bd (off : Int) (p : Rs) : Prop where
  t0 : 0 ≤ p.now ∧ p.now ≤ 1099511627776
  of : ∀ k, -off ≤ p.offs k ∧ p.offs k ≤ off
theorem bd0 {off : Int} (h : 0 ≤ off) : Bd off R0 := ⟨by simp [R0], fun k => by simp [R0]; exact h⟩
theorem bd_node {m : Nat} {long off : Int} {p : Rs} (h : Bd off p) (a b c : Int) : Bd off (nodeR m long off p a b c).2 := by
  unfold nodeR
  split
  · exact h
  split
  · exact h
  split
  · unfold askR
    split
    · exact h
    · exact ⟨h.t0, h.of⟩
  split
  · unfold giveR
    split
    · exact h
    · exact ⟨h.t0, h.of⟩
  split
  · unfold offR
    split
    · rename_i hc
      refine ⟨h.t0, fun k => ?_⟩
      by_cases e : k = b.toNat
      · subst e; simp only [updN_same]; exact hc
      · simp only; rw [updN_other _ _ e]; exact h.of k
    · exact h
  · exact h
theorem bd_perf {m : Nat} {long off : Int} {p : Rs} (h : Bd off p) (o : LO) : Bd off (perfR m long off p o).2 := by
  unfold perfR
  split
  · unfold tickR
    split
    · exact ⟨by have := h.t0; simp only; omega, h.of⟩
    · exact h
  split
  · exact bd_node h _ _ _
  · exact bd_node h _ _ _
theorem bd_run {m : Nat} {long off : Int} : ∀ (l : List LO) (p : Rs), Bd off p → Bd off (runR m long off p l)
  | [], _, h => h
  | o :: l, _, h => bd_run l _ (bd_perf h o)
end Go.Proofs.Yteneglbafngejaa.Le
