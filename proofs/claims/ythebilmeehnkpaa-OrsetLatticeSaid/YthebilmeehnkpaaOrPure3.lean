/-
  Package orset, pure: two bags brought together who by who, number by number.
-/
import Derived.Test.YthebilmeehnkpaaOrPure2
namespace Go.Proofs.Ythebilmeehnkpaa.Ors
set_option linter.unusedVariables false
set_option linter.unusedSimpArgs false
open Gt

def isKey (t u : Tg) : Bool := decide (u.1 = t.1) && decide (u.2.1 = t.2.1)
def findT (l : List Tg) (t : Tg) : Option Tg := l.find? (isKey t)
theorem findT_some {l : List Tg} {t u : Tg} (h : findT l t = some u) : u ∈ l ∧ u.1 = t.1 ∧ u.2.1 = t.2.1 := by
  unfold findT at h
  have h1 := List.mem_of_find?_eq_some h
  have h2 := List.find?_some h
  unfold isKey at h2
  rw [Bool.and_eq_true, decide_eq_true_eq, decide_eq_true_eq] at h2
  exact ⟨h1, h2⟩
theorem findT_none {l : List Tg} {t : Tg} (h : findT l t = none) {u : Tg} (hu : u ∈ l) : ¬ (u.1 = t.1 ∧ u.2.1 = t.2.1) := fun e => by
  unfold findT at h
  have := List.find?_eq_none.1 h u hu
  unfold isKey at this
  simp [e.1, e.2] at this
theorem findT_no {l : List Tg} {t : Tg} (h : ∀ u ∈ l, ¬ (u.1 = t.1 ∧ u.2.1 = t.2.1)) : findT l t = none := by
  unfold findT
  rw [List.find?_eq_none]
  intro u hu
  unfold isKey
  simpa using h u hu
/-- At who w, x of a's and y of b's are still to come; out: what stays so far. -/
structure QI (a b : Bg) (w : Int) (x y out : List Tg) : Prop where
  xr : x.Pairwise Klt
  yr : y.Pairwise Klt
  xm : ∀ t ∈ x, t ∈ a.1 ∧ t.1 = w
  ym : ∀ t ∈ y, t ∈ b.1 ∧ t.1 = w
  xd : ∀ t ∈ a.1, t.1 = w → t ∈ x ∨ ((∀ u ∈ x, t.2.1 < u.2.1) ∧ ∀ u ∈ y, t.2.1 < u.2.1)
  yd : ∀ t ∈ b.1, t.1 = w → t ∈ y ∨ ((∀ u ∈ x, t.2.1 < u.2.1) ∧ ∀ u ∈ y, t.2.1 < u.2.1)
  rise : out.Pairwise Klt
  mem : ∀ t, t ∈ out ↔ Keep a b t ∧ (t.1 < w ∨ t.1 = w ∧ t ∉ x ∧ t ∉ y)
  apart : ∀ t ∈ a.1, ∀ u ∈ b.1, t.1 = u.1 → t.2.1 = u.2.1 → (t.1 < w ∨ t.1 = w ∧ t ∉ x) → t.2.2 = u.2.2
section
variable {a b : Bg} {w : Int} {x y out : List Tg} {t u : Tg}
theorem tail_gt {l : List Tg} (h : (t :: l).Pairwise Klt) (hw : ∀ s ∈ t :: l, s.1 = w) : ∀ s ∈ l, t.2.1 < s.2.1 := fun s hs => by
  have h1 := (List.pairwise_cons.1 h).1 s hs
  have h2 := hw t (by simp)
  have h3 := hw s (List.mem_cons_of_mem _ hs)
  unfold Klt at h1
  omega
theorem QI.snoc (h : QI a b w x y out) (ht : t.1 = w) (hx : ∀ s, s.1 = w → s ∈ out → s.2.1 < t.2.1) : (out ++ [t]).Pairwise Klt := by
  rw [List.pairwise_append]
  refine ⟨h.rise, by simp, fun s hs z hz => ?_⟩
  simp only [List.mem_singleton] at hz
  subst hz
  have h1 := (h.mem s).1 hs
  rcases h1.2 with h2 | h2
  · unfold Klt; omega
  · have := hx s h2.1 hs; unfold Klt; omega
theorem QI.before (h : QI a b w x y out) {s : Tg} (hs : s ∈ out) (hw : s.1 = w) : (∀ u ∈ x, s.2.1 < u.2.1) ∧ ∀ u ∈ y, s.2.1 < u.2.1 := by
  have h1 := (h.mem s).1 hs
  have h2 : s ∉ x ∧ s ∉ y := by
    rcases h1.2 with h2 | h2
    · omega
    · exact h2.2
  rcases keep_in h1.1 with h3 | h3
  · exact (h.xd s h3 hw).resolve_left h2.1
  · exact (h.yd s h3 hw).resolve_left h2.2
/-- The next of a's is in b too: so it is what comes next of b's. -/
theorem QI.head (h : QI a b w (t :: x) y out) (hle : ∀ s ∈ y, t.2.1 ≤ s.2.1) (hf : findT b.1 t = some u) : ∃ y', y = u :: y' := by
  obtain ⟨h1, h2, h3⟩ := findT_some hf
  have hw := (h.xm t (by simp)).2
  have hu : u ∈ y := (h.yd u h1 (by omega)).resolve_right (fun e => by have := e.1 t (by simp); omega)
  cases y with
  | nil => simp at hu
  | cons v y' =>
    rcases List.mem_cons.1 hu with rfl | hu'
    · exact ⟨y', rfl⟩
    · have := tail_gt (w := w) h.yr (fun s hs => (h.ym s hs).2) u hu'
      have := hle v (by simp)
      omega
theorem QI.bad (h : QI a b w (t :: x) y out) (hf : findT b.1 t = some u) (hne : u.2.2 ≠ t.2.2) : ¬ Apart a b := fun e => by
  obtain ⟨h1, h2, h3⟩ := findT_some hf
  exact hne (e t (h.xm t (by simp)).1 u h1 h2.symm h3.symm).symm
theorem QI.both (h : QI a b w (t :: x) (u :: y) out) (hf : findT b.1 t = some u) (he : u.2.2 = t.2.2) : QI a b w x y (out ++ [t]) := by
  obtain ⟨h1, h2, h3⟩ := findT_some hf
  obtain rfl : u = t := by
    obtain ⟨u1, u2, u3⟩ := u
    obtain ⟨t1, t2, t3⟩ := t
    simp only at h2 h3 he
    rw [h2, h3, he]
  have hta := h.xm u (by simp)
  have htx := tail_gt (w := w) h.xr (fun s hs => (h.xm s hs).2)
  have hty := tail_gt (w := w) h.yr (fun s hs => (h.ym s hs).2)
  refine ⟨(List.pairwise_cons.1 h.xr).2, (List.pairwise_cons.1 h.yr).2, fun s hs => h.xm s (List.mem_cons_of_mem _ hs), fun s hs => h.ym s (List.mem_cons_of_mem _ hs), fun s hs hw => ?_, fun s hs hw => ?_, h.snoc hta.2 (fun s hw hs => (h.before hs hw).1 u (by simp)), fun s => ?_, fun s hs v hv e1 e2 e3 => ?_⟩
  · rcases h.xd s hs hw with h4 | h4
    · rcases List.mem_cons.1 h4 with rfl | h4
      · exact .inr ⟨htx, hty⟩
      · exact .inl h4
    · exact .inr ⟨fun v hv => h4.1 v (List.mem_cons_of_mem _ hv), fun v hv => h4.2 v (List.mem_cons_of_mem _ hv)⟩
  · rcases h.yd s hs hw with h4 | h4
    · rcases List.mem_cons.1 h4 with rfl | h4
      · exact .inr ⟨htx, hty⟩
      · exact .inl h4
    · exact .inr ⟨fun v hv => h4.1 v (List.mem_cons_of_mem _ hv), fun v hv => h4.2 v (List.mem_cons_of_mem _ hv)⟩
  · rw [List.mem_append, List.mem_singleton, h.mem]
    constructor
    · rintro (⟨k1, k2⟩ | rfl)
      · refine ⟨k1, k2.imp id (fun k => ⟨k.1, fun e => k.2.1 (List.mem_cons_of_mem _ e), fun e => k.2.2 (List.mem_cons_of_mem _ e)⟩)⟩
      · exact ⟨.inl ⟨hta.1, h1⟩, .inr ⟨hta.2, fun e => by have := htx s e; omega, fun e => by have := hty s e; omega⟩⟩
    · rintro ⟨k1, k2⟩
      by_cases e : s = u
      · exact .inr e
      · left
        refine ⟨k1, k2.imp id (fun k => ⟨k.1, fun e' => ?_, fun e' => ?_⟩)⟩
        · exact k.2.1 ((List.mem_cons.1 e').resolve_left e)
        · exact k.2.2 ((List.mem_cons.1 e').resolve_left e)
  · by_cases e : s = u
    · subst e
      by_cases e4 : v = s
      · rw [e4]
      · exfalso
        rcases h.yd v hv (by omega) with h4 | h4
        · have := hty v ((List.mem_cons.1 h4).resolve_left e4); omega
        · have := h4.2 s (by simp); omega
    · exact h.apart s hs v hv e1 e2 (e3.imp id (fun k => ⟨k.1, fun e' => k.2 ((List.mem_cons.1 e').resolve_left e)⟩))
theorem QI.alone (h : QI a b w (t :: x) y out) (hle : ∀ s ∈ y, t.2.1 ≤ s.2.1) (hf : findT b.1 t = none) : (∀ s ∈ y, t.2.1 < s.2.1) ∧ t ∉ b.1 := by
  have hw := (h.xm t (by simp)).2
  refine ⟨fun s hs => ?_, fun e => findT_none hf e ⟨rfl, rfl⟩⟩
  have h1 := hle s hs
  have h2 := h.ym s hs
  have h3 := findT_none hf h2.1
  have : s.2.1 ≠ t.2.1 := fun e => h3 ⟨by omega, e⟩
  omega
theorem QI.nextA (h : QI a b w (t :: x) y out) (hle : ∀ s ∈ y, t.2.1 ≤ s.2.1) (hf : findT b.1 t = none) {out' : List Tg} (hr : out'.Pairwise Klt) (hm : ∀ s, s ∈ out' ↔ s ∈ out ∨ (s = t ∧ Keep a b t)) : QI a b w x y out' := by
  obtain ⟨hy, hb⟩ := h.alone hle hf
  have hta := h.xm t (by simp)
  have htx := tail_gt (w := w) h.xr (fun s hs => (h.xm s hs).2)
  refine ⟨(List.pairwise_cons.1 h.xr).2, h.yr, fun s hs => h.xm s (List.mem_cons_of_mem _ hs), h.ym, fun s hs hw => ?_, fun s hs hw => ?_, hr, fun s => ?_, fun s hs v hv e1 e2 e3 => ?_⟩
  · rcases h.xd s hs hw with h4 | h4
    · rcases List.mem_cons.1 h4 with rfl | h4
      · exact .inr ⟨htx, hy⟩
      · exact .inl h4
    · exact .inr ⟨fun v hv => h4.1 v (List.mem_cons_of_mem _ hv), h4.2⟩
  · rcases h.yd s hs hw with h4 | h4
    · exact .inl h4
    · exact .inr ⟨fun v hv => h4.1 v (List.mem_cons_of_mem _ hv), h4.2⟩
  · rw [hm, h.mem]
    constructor
    · rintro (⟨k1, k2⟩ | ⟨rfl, k⟩)
      · exact ⟨k1, k2.imp id (fun k => ⟨k.1, fun e => k.2.1 (List.mem_cons_of_mem _ e), k.2.2⟩)⟩
      · exact ⟨k, .inr ⟨hta.2, fun e => by have := htx s e; omega, fun e => by have := hy s e; omega⟩⟩
    · rintro ⟨k1, k2⟩
      by_cases e : s = t
      · subst e; exact .inr ⟨rfl, k1⟩
      · exact .inl ⟨k1, k2.imp id (fun k => ⟨k.1, fun e' => k.2.1 ((List.mem_cons.1 e').resolve_left e), k.2.2⟩)⟩
  · by_cases e : s = t
    · subst e; exact absurd ⟨e1.symm, e2.symm⟩ (findT_none hf hv)
    · exact h.apart s hs v hv e1 e2 (e3.imp id (fun k => ⟨k.1, fun e' => k.2 ((List.mem_cons.1 e').resolve_left e)⟩))
theorem QI.keepA (h : QI a b w (t :: x) y out) (hle : ∀ s ∈ y, t.2.1 ≤ s.2.1) (hf : findT b.1 t = none) (hs : sawAt b.2 w < t.2.1) : QI a b w x y (out ++ [t]) := by
  have hta := h.xm t (by simp)
  refine h.nextA hle hf (h.snoc hta.2 (fun s hw hs => (h.before hs hw).1 t (by simp))) (fun s => ?_)
  rw [List.mem_append, List.mem_singleton]
  exact or_congr_right ⟨fun e => ⟨e, .inr (.inl ⟨hta.1, by rw [hta.2]; exact hs⟩)⟩, fun e => e.1⟩
theorem QI.skipA (h : QI a b w (t :: x) y out) (hle : ∀ s ∈ y, t.2.1 ≤ s.2.1) (hf : findT b.1 t = none) (hs : ¬ sawAt b.2 w < t.2.1) : QI a b w x y out := by
  have hta := h.xm t (by simp)
  have hb := (h.alone hle hf).2
  refine h.nextA hle hf h.rise (fun s => ⟨.inl, ?_⟩)
  rintro (k | ⟨_, k⟩)
  · exact k
  · rcases k with k | k | k
    · exact absurd k.2 hb
    · rw [hta.2] at k; exact absurd k.2 hs
    · exact absurd k.1 hb
/-- The next of b's comes before all of a's that are left: it is none of a's. -/
theorem QI.other (h : QI a b w x (u :: y) out) (hlt : ∀ s ∈ x, u.2.1 < s.2.1) : findT a.1 u = none := findT_no (fun s hs e => by
  have hw := (h.ym u (by simp)).2
  rcases h.xd s hs (by omega) with h4 | h4
  · have := hlt s h4; omega
  · have := h4.2 u (by simp); omega)
theorem QI.nextB (h : QI a b w x (u :: y) out) (hlt : ∀ s ∈ x, u.2.1 < s.2.1) {out' : List Tg} (hr : out'.Pairwise Klt) (hm : ∀ s, s ∈ out' ↔ s ∈ out ∨ (s = u ∧ Keep a b u)) : QI a b w x y out' := by
  have hf := h.other hlt
  have hub := h.ym u (by simp)
  have huy := tail_gt (w := w) h.yr (fun s hs => (h.ym s hs).2)
  have hua : u ∉ a.1 := fun e => findT_none hf e ⟨rfl, rfl⟩
  refine ⟨h.xr, (List.pairwise_cons.1 h.yr).2, h.xm, fun s hs => h.ym s (List.mem_cons_of_mem _ hs), fun s hs hw => ?_, fun s hs hw => ?_, hr, fun s => ?_, h.apart⟩
  · rcases h.xd s hs hw with h4 | h4
    · exact .inl h4
    · exact .inr ⟨h4.1, fun v hv => h4.2 v (List.mem_cons_of_mem _ hv)⟩
  · rcases h.yd s hs hw with h4 | h4
    · rcases List.mem_cons.1 h4 with rfl | h4
      · exact .inr ⟨hlt, huy⟩
      · exact .inl h4
    · exact .inr ⟨h4.1, fun v hv => h4.2 v (List.mem_cons_of_mem _ hv)⟩
  · rw [hm, h.mem]
    constructor
    · rintro (⟨k1, k2⟩ | ⟨rfl, k⟩)
      · exact ⟨k1, k2.imp id (fun k => ⟨k.1, k.2.1, fun e => k.2.2 (List.mem_cons_of_mem _ e)⟩)⟩
      · exact ⟨k, .inr ⟨hub.2, fun e => hua (h.xm s e).1, fun e => by have := huy s e; omega⟩⟩
    · rintro ⟨k1, k2⟩
      by_cases e : s = u
      · subst e; exact .inr ⟨rfl, k1⟩
      · exact .inl ⟨k1, k2.imp id (fun k => ⟨k.1, k.2.1, fun e' => k.2.2 ((List.mem_cons.1 e').resolve_left e)⟩)⟩
theorem QI.keepB (h : QI a b w x (u :: y) out) (hlt : ∀ s ∈ x, u.2.1 < s.2.1) (hs : sawAt a.2 w < u.2.1) : QI a b w x y (out ++ [u]) := by
  have hub := h.ym u (by simp)
  refine h.nextB hlt (h.snoc hub.2 (fun s hw hs => (h.before hs hw).2 u (by simp))) (fun s => ?_)
  rw [List.mem_append, List.mem_singleton]
  exact or_congr_right ⟨fun e => ⟨e, .inr (.inr ⟨hub.1, by rw [hub.2]; exact hs⟩)⟩, fun e => e.1⟩
theorem QI.skipB (h : QI a b w x (u :: y) out) (hlt : ∀ s ∈ x, u.2.1 < s.2.1) (hs : ¬ sawAt a.2 w < u.2.1) : QI a b w x y out := by
  have hub := h.ym u (by simp)
  have hua : u ∉ a.1 := fun e => findT_none (h.other hlt) e ⟨rfl, rfl⟩
  refine h.nextB hlt h.rise (fun s => ⟨.inl, ?_⟩)
  rintro (k | ⟨_, k⟩)
  · exact k
  · rcases k with k | k | k
    · exact absurd k.1 hua
    · exact absurd k.1 hua
    · rw [hub.2] at k; exact absurd k.2 hs
end
/-- Those of one who. -/
def ofW (w : Int) (l : List Tg) : List Tg := l.filter (fun t => decide (t.1 = w))
theorem ofW_mem {w : Int} {l : List Tg} {t : Tg} : t ∈ ofW w l ↔ t ∈ l ∧ t.1 = w := by unfold ofW; rw [List.mem_filter, decide_eq_true_eq]
theorem ofW_step {w : Int} {l : List Tg} {k : Nat} {t : Tg} (h : l[k]? = some t) : ofW w (l.take (k + 1)) = if t.1 = w then ofW w (l.take k) ++ [t] else ofW w (l.take k) := by
  rw [List.take_add_one, h]
  unfold ofW
  rw [List.filter_append]
  by_cases e : t.1 = w <;> simp [e]
/-- All of the whos below w are done. -/
structure QO (a b : Bg) (w : Int) (out : List Tg) : Prop where
  rise : out.Pairwise Klt
  mem : ∀ t, t ∈ out ↔ Keep a b t ∧ t.1 < w
  apart : ∀ t ∈ a.1, ∀ u ∈ b.1, t.1 = u.1 → t.2.1 = u.2.1 → t.1 < w → t.2.2 = u.2.2
theorem QO.start {a b : Bg} (ha : OkB a) (hb : OkB b) : QO a b 0 [] := ⟨by simp, fun t => by
  constructor
  · intro h; simp at h
  · rintro ⟨h1, h2⟩
    rcases keep_in h1 with h | h
    · have := (ha.tags t h).1; omega
    · have := (hb.tags t h).1; omega, fun t ht u _ _ _ h => by have := (ha.tags t ht).1; omega⟩
theorem QO.into {a b : Bg} {w : Int} {out : List Tg} (ha : OkB a) (hb : OkB b) (h : QO a b w out) : QI a b w (ofW w a.1) (ofW w b.1) out := by
  refine ⟨ha.rise.filter _, hb.rise.filter _, fun t ht => ofW_mem.1 ht, fun t ht => ofW_mem.1 ht, fun t ht hw => .inl (ofW_mem.2 ⟨ht, hw⟩), fun t ht hw => .inl (ofW_mem.2 ⟨ht, hw⟩), h.rise, fun t => ?_, fun t ht u hu e1 e2 e3 => ?_⟩
  · rw [h.mem]
    constructor
    · rintro ⟨h1, h2⟩; exact ⟨h1, .inl h2⟩
    · rintro ⟨h1, h2 | h2⟩
      · exact ⟨h1, h2⟩
      · rcases keep_in h1 with h3 | h3
        · exact absurd (ofW_mem.2 ⟨h3, h2.1⟩) h2.2.1
        · exact absurd (ofW_mem.2 ⟨h3, h2.1⟩) h2.2.2
  · rcases e3 with e3 | e3
    · exact h.apart t ht u hu e1 e2 e3
    · exact absurd (ofW_mem.2 ⟨ht, e3.1⟩) e3.2
theorem QI.out {a b : Bg} {w : Int} {out : List Tg} (h : QI a b w [] [] out) : QO a b (w + 1) out := by
  refine ⟨h.rise, fun t => ?_, fun t ht u hu e1 e2 e3 => ?_⟩
  · rw [h.mem]
    constructor
    · rintro ⟨h1, h2 | h2⟩
      · exact ⟨h1, by omega⟩
      · exact ⟨h1, by omega⟩
    · rintro ⟨h1, h2⟩
      by_cases e : t.1 = w
      · exact ⟨h1, .inr ⟨e, by simp, by simp⟩⟩
      · exact ⟨h1, .inl (by omega)⟩
  · by_cases e : t.1 = w
    · exact h.apart t ht u hu e1 e2 (.inr ⟨e, by simp⟩)
    · exact h.apart t ht u hu e1 e2 (.inl (by omega))
theorem QO.done {a b : Bg} {out : List Tg} (ha : OkB a) (hb : OkB b) (hl : a.2.length = b.2.length) (h : QO a b (a.2.length : Int) out) : joinH a b = out ∧ Apart a b := by
  refine ⟨joinH_is ha hb h.rise (fun t => ?_), fun t ht u hu e1 e2 => h.apart t ht u hu e1 e2 (ha.tags t ht).2.1⟩
  rw [h.mem]
  constructor
  · exact fun h => h.1
  · intro k
    refine ⟨k, ?_⟩
    rcases keep_in k with h1 | h1
    · exact (ha.tags t h1).2.1
    · have := (hb.tags t h1).2.1; omega
theorem QO.len {a b : Bg} {w : Int} {out : List Tg} (h : QO a b w out) : out.length ≤ a.1.length + b.1.length := by
  have := rise_len (k := a.1 ++ b.1) h.rise (fun t ht => List.mem_append.2 (keep_in ((h.mem t).1 ht).1))
  rwa [List.length_append] at this
theorem QI.len {a b : Bg} {w : Int} {x y out : List Tg} (h : QI a b w x y out) : out.length ≤ a.1.length + b.1.length := by
  have := rise_len (k := a.1 ++ b.1) h.rise (fun t ht => List.mem_append.2 (keep_in ((h.mem t).1 ht).1))
  rwa [List.length_append] at this
theorem head_le {a b : Bg} {w : Int} {x y out : List Tg} {t u : Tg} (h : QI a b w (t :: x) (u :: y) out) (hle : t.2.1 ≤ u.2.1) : ∀ s ∈ u :: y, t.2.1 ≤ s.2.1 := fun s hs => by
  rcases List.mem_cons.1 hs with rfl | hs
  · exact hle
  · have := tail_gt (w := w) h.yr (fun s hs => (h.ym s hs).2) s hs; omega
theorem head_lt {a b : Bg} {w : Int} {x y out : List Tg} {t u : Tg} (h : QI a b w (t :: x) (u :: y) out) (hlt : u.2.1 < t.2.1) : ∀ s ∈ t :: x, u.2.1 < s.2.1 := fun s hs => by
  rcases List.mem_cons.1 hs with rfl | hs
  · exact hlt
  · have := tail_gt (w := w) h.xr (fun s hs => (h.xm s hs).2) s hs; omega
end Go.Proofs.Ythebilmeehnkpaa.Ors
