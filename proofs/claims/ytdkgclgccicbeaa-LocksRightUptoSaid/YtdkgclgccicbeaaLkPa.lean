/-
  Package locks, pure: what the program keeps of a key (alone, who has it, who waits), and that it is like the document's row.
-/
import Derived.Test.YtdkgclgccicbeaaLkPure2
namespace Go.Proofs.Ytdkgclgccicbeaa.LkP
set_option linter.unusedVariables false
set_option linter.unusedSimpArgs false
open Lk

/-- Alone, who has it, who waits. -/
abbrev Sk := Bool × List Int × List LO
def sk0 : Sk := (false, [], [])
def admits (al : Bool) (h : List Int) (o : LO) : Bool := h.isEmpty || (!al && decide (o.1 = 1))
def grantF : Bool → List Int → List LO → Sk
  | al, h, [] => (al, h, [])
  | al, h, o :: r => if admits al h o = true then grantF (decide (o.1 = 2)) (h ++ [o.2.1]) r else (al, h, o :: r)
theorem grantF_nil (al : Bool) (h : List Int) : grantF al h [] = (al, h, []) := by unfold grantF; rfl
theorem grantF_yes {al : Bool} {h : List Int} {o : LO} {r : List LO} (e : admits al h o = true) : grantF al h (o :: r) = grantF (decide (o.1 = 2)) (h ++ [o.2.1]) r := by rw [grantF, if_pos e]
theorem grantF_no {al : Bool} {h : List Int} {o : LO} {r : List LO} (e : admits al h o = false) : grantF al h (o :: r) = (al, h, o :: r) := by rw [grantF, if_neg (by rw [e]; decide)]
theorem grantF_len : ∀ (w : List LO) (al : Bool) (h : List Int), (grantF al h w).2.1.length + (grantF al h w).2.2.length = h.length + w.length
  | [], al, h => by rw [grantF_nil]
  | o :: r, al, h => by
    cases e : admits al h o with
    | false => rw [grantF_no e]
    | true => rw [grantF_yes e, grantF_len r]; simp; omega
def askF (s : Sk) (o : LO) : Int × Sk :=
  if o.2.1 ∈ s.2.1 ∨ o.2.1 ∈ nodes s.2.2 then (1, s) else
  ((if o.2.1 ∈ nodes (grantF s.1 s.2.1 (s.2.2 ++ [o])).2.2 then 6 else 0), grantF s.1 s.2.1 (s.2.2 ++ [o]))
def freeF (s : Sk) (n : Int) : Int × Sk :=
  if n ∈ s.2.1 then (0, grantF s.1 (s.2.1.filter (fun x => x != n)) s.2.2) else
  if n ∈ nodes s.2.2 then (0, grantF s.1 s.2.1 (without s.2.2 n)) else (3, s)
def performK (s : Sk) (o : LO) : Int × Sk := if o.1 = 3 then freeF s o.2.1 else askF s o
/-- Those that have the key: nobody; one, alone; some, all shared. -/
def Top (al : Bool) (a : List LO) : Prop := a = [] ∨ (∃ o, a = [o] ∧ al = true ∧ o.1 = 2) ∨ (a ≠ [] ∧ al = false ∧ ∀ o ∈ a, o.1 = 1)
structure Good (s : Sk) (l : List LO) : Prop where
  ex : ∃ a, l = a ++ s.2.2 ∧ s.2.1 = nodes a ∧ Top s.1 a
def Stuck (s : Sk) : Prop := s.2.2 = [] ∨ ∃ o r, s.2.2 = o :: r ∧ admits s.1 s.2.1 o = false
def Kinds (l : List LO) : Prop := ∀ o ∈ l, o.1 = 1 ∨ o.1 = 2
theorem nodes_empty {a : List LO} : (nodes a).isEmpty = a.isEmpty := by cases a <;> rfl
theorem grant_good : ∀ (w : List LO) (al : Bool) (h : List Int) (l : List LO), Good (al, h, w) l → Kinds l → Good (grantF al h w) l ∧ Stuck (grantF al h w)
  | [], al, h, l, hg, _ => by rw [grantF_nil]; exact ⟨hg, .inl rfl⟩
  | o :: r, al, h, l, hg, hk => by
    cases e : admits al h o with
    | false => rw [grantF_no e]; exact ⟨hg, .inr ⟨o, r, rfl, e⟩⟩
    | true =>
      rw [grantF_yes e]
      refine grant_good r _ _ l ?_ hk
      obtain ⟨a, h1, h2, h3⟩ := hg.ex
      simp only at h1 h2 h3
      refine ⟨a ++ [o], by rw [h1]; simp, by rw [h2, nodes_app]; rfl, ?_⟩
      have ho := hk o (by rw [h1]; simp)
      unfold admits at e
      rw [h2, nodes_empty] at e
      rcases h3 with rfl | ⟨x, rfl, rfl, _⟩ | ⟨h4, rfl, h5⟩
      · rcases ho with ho | ho
        · exact .inr (.inr ⟨by simp, by simp [ho], fun x hx => by simp at hx; rw [hx]; exact ho⟩)
        · exact .inr (.inl ⟨o, by simp, by simp [ho], ho⟩)
      · simp at e
      · have e' : o.1 = 1 := by cases a with
          | nil => exact absurd rfl h4
          | cons x a => simpa using e
        exact .inr (.inr ⟨by simp, by simp [e'], fun x hx => by
          rcases List.mem_append.1 hx with hx | hx
          · exact h5 x hx
          · rw [List.mem_singleton.1 hx]; exact e'⟩)
/-- Like: the row is who has it, then who waits; nobody who waits could have it. -/
structure Like (s : Sk) (l : List LO) : Prop where
  good : Good s l
  stuck : Stuck s
theorem Like.nil : Like sk0 [] := ⟨⟨[], rfl, rfl, .inl rfl⟩, .inl rfl⟩
theorem Like.empty {s : Sk} {l : List LO} (h : Like s l) : s.2.1 = [] ↔ l = [] := by
  obtain ⟨a, h1, h2, _⟩ := h.good.ex
  constructor
  · intro e
    have ha : a = [] := by rw [h2] at e; exact List.map_eq_nil_iff.1 e
    rw [h1, ha]
    rcases h.stuck with h3 | ⟨o, r, h3, h4⟩
    · rw [h3]; rfl
    · unfold admits at h4; rw [e] at h4; simp at h4
  · intro e
    rw [h2]
    have : a = [] := by rw [e] at h1; exact (List.append_eq_nil_iff.1 h1.symm).1
    rw [this]; rfl
theorem share_1 {o : LO} (h : o.1 = 1) : share o = true := decide_eq_true h
theorem takeWhile_app {α : Type} {p : α → Bool} : ∀ {a b : List α}, (∀ x ∈ a, p x = true) → (a ++ b).takeWhile p = a ++ b.takeWhile p
  | [], b, _ => rfl
  | x :: a, b, h => by
    rw [List.cons_append, List.takeWhile_cons, if_pos (h x (by simp)), takeWhile_app (fun y hy => h y (by simp [hy])), List.cons_append]
theorem Like.lock {s : Sk} {l : List LO} (h : Like s l) (hk : Kinds l) (hn : l ≠ []) (k : Int) : lockOf k l = (k, s.1, s.2.1, s.2.2) := by
  obtain ⟨al, hs, w⟩ := s
  obtain ⟨a, h1, h2, h3⟩ := h.good.ex
  have hne : a ≠ [] := fun e => hn (h.empty.1 (by rw [h2, e]; rfl))
  have hst := h.stuck
  simp only at h1 h2 h3 hst
  subst h1
  have key : held (a ++ w) = a.length ∧ decide ((a ++ w).head?.map (·.1) = some 2) = al := by
    rcases h3 with rfl | ⟨o, rfl, rfl, ho⟩ | ⟨_, rfl, h5⟩
    · exact absurd rfl hne
    · refine ⟨?_, by simp [ho]⟩
      show held (o :: w) = 1
      rw [held_cons, if_neg (by omega)]
    · cases a with
      | nil => exact absurd rfl hne
      | cons o a =>
        have ho := h5 o (by simp)
        refine ⟨?_, by simp [ho]⟩
        show held (o :: (a ++ w)) = a.length + 1
        rw [held_cons, if_pos ho, takeWhile_app (fun x hx => share_1 (h5 x (by simp [hx])))]
        have : w.takeWhile share = [] := by
          rcases hst with h6 | ⟨x, r, h6, h7⟩
          · simp only at h6; rw [h6]; rfl
          · simp only at h6 h7
            unfold admits at h7
            rw [h2] at h7
            have hx : share x = false := by simpa [nodes, share] using h7
            rw [h6, List.takeWhile_cons, if_neg (by rw [hx]; decide)]
        rw [this]; simp
  unfold lockOf
  rw [key.1, key.2, List.take_left' rfl, List.drop_left' rfl, h2]
  rfl
theorem kinds_of {k : Int} {l : List LO} (h : Ok k l) : Kinds l := h.kind
theorem kinds_sub {l r : List LO} (h : Kinds l) (hs : r.Sublist l) : Kinds r := fun o ho => h o (hs.subset ho)
theorem filter_nodes (a : List LO) (n : Int) : (nodes a).filter (fun x => x != n) = nodes (without a n) := by
  unfold nodes without
  rw [List.filter_map]
  rfl
theorem without_none {a : List LO} {n : Int} (h : n ∉ nodes a) : without a n = a := by
  unfold without
  refine List.filter_eq_self.2 fun o ho => ?_
  have : o.2.1 ≠ n := fun e => h (mem_nodes.2 ⟨o, ho, e⟩)
  simp [this]
theorem Top.without {al : Bool} {a : List LO} (h : Top al a) (n : Int) : Top al (without a n) := by
  rcases h with rfl | ⟨o, rfl, h1, h2⟩ | ⟨h1, h2, h3⟩
  · exact .inl rfl
  · unfold Lk.without
    by_cases e : o.2.1 = n
    · exact .inl (by simp [e])
    · exact .inr (.inl ⟨o, by simp [e], h1, h2⟩)
  · cases hw : Lk.without a n with
    | nil => exact .inl rfl
    | cons x r =>
      refine .inr (.inr ⟨by simp, h2, fun o ho => h3 o ?_⟩)
      rw [← hw] at ho
      exact (List.mem_filter.1 ho).1
/-- A request that keeps the rules: the program answers as the document does, and what it keeps is like the row. -/
theorem perform_like {s : Sk} {l : List LO} {o : LO} (h : Like s l) (hl : Ok o.2.2 l) (hk : ¬ (o.1 < 1 ∨ 3 < o.1)) (hn : ¬ (o.2.1 < 0 ∨ 15 < o.2.1)) : (performK s o).1 = errL l o ∧ Like (performK s o).2 (stepL l o) := by
  obtain ⟨al, hs, w⟩ := s
  have hst := h.stuck
  obtain ⟨a, h1, h2, h3⟩ := h.good.ex
  simp only at h1 h2 h3
  have hmem : ∀ n, n ∈ nodes l ↔ n ∈ hs ∨ n ∈ nodes w := fun n => by rw [h1, nodes_app, List.mem_append, h2]
  unfold performK
  by_cases k3 : o.1 = 3
  · rw [if_pos k3]
    unfold freeF
    have el : errL l o = if o.2.1 ∈ nodes l then 0 else 3 := by
      unfold errL
      rw [if_neg hk, if_neg hn]
      by_cases c : o.2.1 ∈ nodes l
      · rw [if_neg (fun c' => c'.2 c), if_pos k3, if_pos c]
      · rw [if_pos ⟨k3, c⟩, if_neg c]
    have es : o.2.1 ∈ nodes l → stepL l o = without l o.2.1 := fun c => by
      unfold stepL
      rw [el, if_pos c, if_pos (.inl rfl), if_pos k3]
    have hkw : Kinds (without l o.2.1) := kinds_sub hl.kind List.filter_sublist
    by_cases c1 : o.2.1 ∈ hs
    · have c : o.2.1 ∈ nodes l := (hmem _).2 (.inl c1)
      simp only [if_pos c1]
      rw [el, if_pos c, es c]
      refine ⟨rfl, ?_⟩
      have nw : o.2.1 ∉ nodes w := by
        have hd := hl.nd
        rw [h1, nodes_app] at hd
        exact fun c' => (List.nodup_append.1 hd).2.2 _ (h2 ▸ c1) _ c' rfl
      have hg : Good (al, hs.filter (fun x => x != o.2.1), w) (without l o.2.1) := by
        refine ⟨without a o.2.1, ?_, by rw [h2]; exact filter_nodes a _, h3.without _⟩
        show _ = without a o.2.1 ++ w
        rw [h1]
        unfold without
        rw [List.filter_append]
        congr 1
        exact without_none nw
      exact ⟨(grant_good _ _ _ _ hg hkw).1, (grant_good _ _ _ _ hg hkw).2⟩
    · simp only [if_neg c1]
      by_cases c2 : o.2.1 ∈ nodes w
      · have c : o.2.1 ∈ nodes l := (hmem _).2 (.inr c2)
        simp only [if_pos c2]
        rw [el, if_pos c, es c]
        refine ⟨rfl, ?_⟩
        have hg : Good (al, hs, without w o.2.1) (without l o.2.1) := by
          refine ⟨a, ?_, h2, h3⟩
          show _ = a ++ without w o.2.1
          rw [h1]
          unfold without
          rw [List.filter_append]
          congr 1
          exact without_none (by rw [← h2]; exact c1)
        exact ⟨(grant_good _ _ _ _ hg hkw).1, (grant_good _ _ _ _ hg hkw).2⟩
      · have c : o.2.1 ∉ nodes l := fun c => ((hmem _).1 c).elim c1 c2
        simp only [if_neg c2]
        rw [el, if_neg c]
        refine ⟨rfl, ?_⟩
        have : stepL l o = l := by unfold stepL; rw [el, if_neg c, if_neg (by decide)]
        rw [this]; exact h
  · rw [if_neg k3]
    unfold askF
    by_cases c : o.2.1 ∈ nodes l
    · have el : errL l o = 1 := by unfold errL; rw [if_neg hk, if_neg hn, if_neg (fun c' => k3 c'.1), if_neg k3, if_pos c]
      simp only [if_pos ((hmem _).1 c)]
      refine ⟨el.symm, ?_⟩
      have : stepL l o = l := by unfold stepL; rw [el, if_neg (by decide)]
      rw [this]; exact h
    · simp only [if_neg (fun c' => c ((hmem o.2.1).2 c'))]
      have el : errL l o = if held (l ++ [o]) = l.length + 1 then 0 else 6 := by unfold errL; rw [if_neg hk, if_neg hn, if_neg (fun c' => k3 c'.1), if_neg k3, if_neg c]
      have es : stepL l o = l ++ [o] := by
        unfold stepL
        rw [if_pos (by rw [el]; split <;> simp), if_neg k3]
      have hkl : Kinds (l ++ [o]) := fun x hx => by
        rcases List.mem_append.1 hx with hx | hx
        · exact hl.kind x hx
        · rw [List.mem_singleton.1 hx]; omega
      have hg : Good (al, hs, w ++ [o]) (l ++ [o]) := ⟨a, by rw [h1]; simp, h2, h3⟩
      obtain ⟨g1, g2⟩ := grant_good _ _ _ _ hg hkl
      rw [es]
      refine ⟨?_, g1, g2⟩
      have hlk := Like.lock ⟨g1, g2⟩ hkl (by simp) 0
      unfold lockOf at hlk
      simp only [Prod.mk.injEq] at hlk
      rw [← hlk.2.2.2, el]
      have hle := held_le (l ++ [o])
      rw [List.length_append, List.length_singleton] at hle
      by_cases e : held (l ++ [o]) = l.length + 1
      · rw [if_pos e, e, if_neg]
        rw [List.drop_of_length_le (by simp)]
        simp [nodes]
      · rw [if_neg e, if_pos]
        refine mem_nodes.2 ⟨o, ?_, rfl⟩
        rw [List.drop_append_of_le_length (by omega)]
        simp
/-! ### All keys -/
def updK (p : Int → Sk) (k : Int) (s : Sk) : Int → Sk := fun x => if x = k then s else p x
theorem updK_same (p : Int → Sk) (k : Int) (s : Sk) : updK p k s k = s := if_pos rfl
theorem updK_other (p : Int → Sk) {k x : Int} (s : Sk) (h : x ≠ k) : updK p k s x = p x := if_neg h
def clean (s : Sk) : Sk := if s.2.1 = [] then sk0 else s
def performB (p : Int → Sk) (o : LO) : Int × (Int → Sk) :=
  if o.1 < 1 ∨ 3 < o.1 then (5, p) else if o.2.1 < 0 ∨ 15 < o.2.1 then (2, p) else ((performK (p o.2.2) o).1, updK p o.2.2 (clean (performK (p o.2.2) o).2))
/-- What the board keeps after the operations. -/
structure LikeB (p : Int → Sk) (ops : List LO) : Prop where
  at_ : ∀ k, Like (p k) (st ops k)
  none : ∀ k, st ops k = [] → p k = sk0
theorem LikeB.start : LikeB (fun _ => sk0) [] := ⟨fun k => Like.nil, fun k _ => rfl⟩
theorem LikeB.step {p : Int → Sk} {ops : List LO} (h : LikeB p ops) (o : LO) : (performB p o).1 = errL (st ops o.2.2) o ∧ LikeB (performB p o).2 (ops ++ [o]) := by
  unfold performB
  have same : ¬ (errL (st ops o.2.2) o = 0 ∨ errL (st ops o.2.2) o = 6) → LikeB p (ops ++ [o]) := fun hne => by
    have e : ∀ k, st (ops ++ [o]) k = st ops k := fun k => by
      by_cases e : o.2.2 = k
      · subst e; rw [st_same, err_same hne]
      · exact st_other _ _ e
    exact ⟨fun k => by rw [e]; exact h.at_ k, fun k hk => h.none k (by rw [← e]; exact hk)⟩
  by_cases hk : o.1 < 1 ∨ 3 < o.1
  · rw [if_pos hk]
    have el : errL (st ops o.2.2) o = 5 := by unfold errL; rw [if_pos hk]
    exact ⟨el.symm, same (by rw [el]; decide)⟩
  rw [if_neg hk]
  by_cases hn : o.2.1 < 0 ∨ 15 < o.2.1
  · rw [if_pos hn]
    have el : errL (st ops o.2.2) o = 2 := by unfold errL; rw [if_neg hk, if_pos hn]
    exact ⟨el.symm, same (by rw [el]; decide)⟩
  rw [if_neg hn]
  obtain ⟨h1, h2⟩ := perform_like (h.at_ o.2.2) (st_ok _ ops) hk hn
  refine ⟨h1, fun k => ?_, fun k hk' => ?_⟩
  · by_cases e : k = o.2.2
    · subst e
      show Like (updK p o.2.2 _ o.2.2) _
      rw [updK_same, st_same]
      unfold clean
      split
      · rename_i e
        rw [h2.empty.1 e]
        exact Like.nil
      · exact h2
    · show Like (updK p o.2.2 _ k) _
      rw [updK_other _ _ e, st_other _ _ (fun e' => e e'.symm)]
      exact h.at_ k
  · by_cases e : k = o.2.2
    · subst e
      show updK p o.2.2 _ o.2.2 = _
      rw [updK_same]
      rw [st_same] at hk'
      unfold clean
      rw [if_pos (h2.empty.2 hk')]
    · show updK p o.2.2 _ k = _
      rw [updK_other _ _ e]
      rw [st_other _ _ (fun e' => e e'.symm)] at hk'
      exact h.none k hk'
/-- The locks, told by what is kept. -/
def lockK (p : Int → Sk) (k : Int) : Lc := (k, (p k).1, (p k).2.1, (p k).2.2)
theorem locks_like {p : Int → Sk} {ops : List LO} (h : LikeB p ops) {ks : List Int} (hs : ks.Pairwise (· < ·)) (hin : ∀ x, x ∈ ks ↔ (p x).2.1 ≠ []) : ks.map (lockK p) = locks ops := by
  refine locks_unique ?_ fun x => ?_
  · exact List.pairwise_map.2 hs
  · have key : ∀ k, (p k).2.1 ≠ [] → lockK p k = lockOf k (st ops k) := fun k hk => ((h.at_ k).lock (st_ok k ops).kind (fun e => hk ((h.at_ k).empty.2 e)) k).symm
    rw [List.mem_map]
    constructor
    · rintro ⟨k, hk, rfl⟩
      have hk' := (hin k).1 hk
      exact ⟨fun e => hk' ((h.at_ k).empty.2 e), key k hk'⟩
    · rintro ⟨h1, h2⟩
      have hk' : (p x.1).2.1 ≠ [] := fun e => h1 ((h.at_ x.1).empty.1 e)
      exact ⟨x.1, (hin _).2 hk', by rw [key _ hk']; exact h2.symm⟩
end Go.Proofs.Ytdkgclgccicbeaa.LkP
