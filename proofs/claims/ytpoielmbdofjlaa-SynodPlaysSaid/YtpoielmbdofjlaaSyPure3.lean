/-
  Package synod, pure: a ballot above all that is heard by most has a value chosen; one that comes late changes nothing.
-/
import Derived.Test.YtpoielmbdofjlaaSyPure2
namespace Go.Proofs.Ytpoielmbdofjlaa.Syn
set_option linter.unusedVariables false

/-! ### Above h nothing has happened -/
structure Fresh (h : Nat) (s : S) : Prop where
  prom : ∀ k, s.prom k ≤ h
  pr : ∀ b, h < b → s.pr b = []
  seen : ∀ b, h < b → s.seen b = false
  fixed : ∀ b, h < b → s.fixed b = false
  acc : ∀ k b v, (k, b, v) ∈ s.acc → b ≤ h
theorem fresh0 (h : Nat) : Fresh h S0 := ⟨fun _ => Nat.zero_le _, fun _ _ => rfl, fun _ _ => rfl, fun _ _ => rfl, fun k b v hm => by simp [S0] at hm⟩
theorem fresh_prep {h b to : Nat} (hb : b ≤ h) : ∀ (l : List Nat) (x : S × Nat), Fresh h x.1 → Fresh h (l.foldl (prep1 b to) x).1
  | [], x, hf => hf
  | k :: l, x, hf => by
    refine fresh_prep hb l (prep1 b to x k) ?_
    unfold prep1
    split
    · refine ⟨fun j => ?_, fun b' hb' => ?_, hf.seen, hf.fixed, hf.acc⟩
      · show upd x.1.prom k b j ≤ h
        unfold upd
        split
        · exact hb
        · exact hf.prom j
      · show upd x.1.pr b _ b' = []
        rw [upd_other _ _ (by omega)]; exact hf.pr b' hb'
    · exact hf
theorem fresh_acc {h b to : Nat} {v : Int} (hb : b ≤ h) : ∀ (l : List Nat) (x : S × Nat), Fresh h x.1 → Fresh h (l.foldl (acc1 b to v) x).1
  | [], x, hf => hf
  | k :: l, x, hf => by
    refine fresh_acc hb l (acc1 b to v x k) ?_
    unfold acc1
    split
    · refine ⟨fun j => ?_, hf.pr, hf.seen, hf.fixed, fun k' b' v' hm => ?_⟩
      · show upd x.1.prom k b j ≤ h
        unfold upd
        split
        · exact hb
        · exact hf.prom j
      · rcases List.mem_append.1 hm with hm | hm
        · exact hf.acc k' b' v' hm
        · simp only [List.mem_singleton, Prod.mk.injEq] at hm
          omega
    · exact hf
theorem fresh_step {h n : Nat} {s : S} {o : VO} (hf : Fresh h s) (ho : o.2.1 ≤ (h : Int) ∨ 400 < o.2.1) : Fresh h (step n s o).1 := by
  unfold step
  split
  · rename_i he
    obtain ⟨h1, h2, h3⟩ := opE_zero he
    have hb : o.2.1.toNat ≤ h := by omega
    unfold move
    split
    · refine fresh_prep hb _ _ ?_
      show Fresh h (name1 s _ _)
      unfold name1
      split
      · exact hf
      · refine ⟨hf.prom, hf.pr, fun b' hb' => ?_, hf.fixed, hf.acc⟩
        show upd s.seen _ true b' = false
        rw [upd_other _ _ (by omega)]; exact hf.seen b' hb'
    · refine fresh_acc hb _ _ ?_
      refine ⟨hf.prom, hf.pr, hf.seen, fun b' hb' => ?_, hf.acc⟩
      show upd s.fixed _ true b' = false
      rw [upd_other _ _ (by omega)]; exact hf.fixed b' hb'
  · exact hf
theorem fresh_run {h n : Nat} : ∀ (l : List VO) (s : S), Fresh h s → (∀ o ∈ l, o.2.1 ≤ (h : Int) ∨ 400 < o.2.1) → Fresh h (run n s l).1
  | [], s, hf, _ => hf
  | o :: l, s, hf, ho => fresh_run l _ (fresh_step hf (ho o (by simp))) (fun p hp => ho p (List.mem_cons_of_mem _ hp))

/-! ### All who are asked promise; all who promised accept -/
def bits (n to : Nat) : List Nat := (List.range n).filter (fun k => to.testBit k)
theorem prep_all {b to : Nat} : ∀ (l : List Nat) (x : S × Nat), l.Nodup → (∀ k ∈ l, x.1.prom k < b) →
    ((l.foldl (prep1 b to) x).1.pr b).map (·.1) = (x.1.pr b).map (·.1) ++ l.filter (fun k => to.testBit k) ∧ (∀ k ∈ l, to.testBit k = true → (l.foldl (prep1 b to) x).1.prom k = b) ∧ ∀ k, k ∉ l → (l.foldl (prep1 b to) x).1.prom k = x.1.prom k
  | [], x, _, _ => ⟨by simp, fun k hk => by simp at hk, fun _ _ => rfl⟩
  | j :: l, x, hd, hp => by
    rw [List.nodup_cons] at hd
    by_cases hb : to.testBit j = true
    · have e : prep1 b to x j = ({ x.1 with prom := upd x.1.prom j b, pr := upd x.1.pr b (x.1.pr b ++ [(j, lastOf x.1.acc j)]) }, x.2 ||| 2 ^ j) := by
        unfold prep1
        rw [if_pos ⟨hb, hp j (by simp)⟩]
      obtain ⟨h1, h2, h3⟩ := prep_all (b := b) (to := to) l (prep1 b to x j) hd.2 (fun k hk => by
        rw [e]
        show upd x.1.prom j b k < b
        have hkj : k ≠ j := fun e => hd.1 (by rw [← e]; exact hk)
        rw [upd_other _ _ hkj]
        exact hp k (List.mem_cons_of_mem _ hk))
      rw [List.foldl_cons]
      refine ⟨?_, fun k hk hkb => ?_, fun k hk => ?_⟩
      · rw [h1, e]
        show ((upd x.1.pr b _ b).map (·.1)) ++ _ = _
        rw [upd_same, List.map_append, List.filter_cons, if_pos hb, List.append_assoc]
        rfl
      · rcases List.mem_cons.1 hk with rfl | hk
        · rw [h3 k hd.1, e]
          exact upd_same _ _ _
        · exact h2 k hk hkb
      · have hkj : k ≠ j := fun e => hk (by rw [e]; simp)
        rw [h3 k (fun h => hk (List.mem_cons_of_mem _ h)), e]
        exact upd_other _ _ hkj
    · have e : prep1 b to x j = x := by
        unfold prep1
        rw [if_neg (fun h => hb h.1)]
      obtain ⟨h1, h2, h3⟩ := prep_all (b := b) (to := to) l (prep1 b to x j) hd.2 (fun k hk => by rw [e]; exact hp k (List.mem_cons_of_mem _ hk))
      rw [List.foldl_cons]
      refine ⟨?_, fun k hk hkb => ?_, fun k hk => ?_⟩
      · rw [h1, e, List.filter_cons, if_neg hb]
      · rcases List.mem_cons.1 hk with rfl | hk
        · exact absurd hkb hb
        · exact h2 k hk hkb
      · rw [h3 k (fun h => hk (List.mem_cons_of_mem _ h)), e]
theorem acc_all {b to : Nat} {v : Int} : ∀ (l : List Nat) (x : S × Nat), (∀ k ∈ l, to.testBit k = true → x.1.prom k ≤ b) → ∀ k ∈ l, to.testBit k = true → (k, b, v) ∈ (l.foldl (acc1 b to v) x).1.acc
  | [], x, _, k, hk, _ => by simp at hk
  | j :: l, x, hp, k, hk, hb => by
    rw [List.foldl_cons]
    have hp2 : ∀ i ∈ l, to.testBit i = true → (acc1 b to v x j).1.prom i ≤ b := fun i hi hib => by
      unfold acc1
      split
      · show upd x.1.prom j b i ≤ b
        unfold upd
        split
        · exact Nat.le_refl _
        · exact hp i (List.mem_cons_of_mem _ hi) hib
      · exact hp i (List.mem_cons_of_mem _ hi) hib
    rcases List.mem_cons.1 hk with rfl | hk
    · refine (acc_same (b := b) (to := to) (v := v) l (acc1 b to v x k)).2.2.2.2.1 _ ?_
      unfold acc1
      rw [if_pos ⟨hb, hp k (by simp) hb⟩]
      simp
    · exact acc_all l (acc1 b to v x j) hp2 k hk hb
theorem range_split {h : Nat} (hh : h < 400) : List.range 400 = List.range h ++ h :: (List.range (399 - h)).map (fun x => h + 1 + x) := by
  have : 400 = h + (1 + (399 - h)) := by omega
  conv => lhs; rw [this]
  rw [List.range_add, List.range_add]
  simp [Nat.add_assoc]
/-- A ballot above all others. -/
theorem lives {n h to : Nat} {v : Int} {l : List VO} (hh : h < 400) (ho : ∀ o ∈ l, o.2.1 ≤ (h : Int)) (hm : n < 2 * (bits n to).length) :
    opE n (run n S0 l).1 (1, (h : Int) + 1, to, v) = 0 ∧ opE n (step n (run n S0 l).1 (1, (h : Int) + 1, to, v)).1 (2, (h : Int) + 1, to, 0) = 0 ∧
    ∃ x, chosen n (step n (step n (run n S0 l).1 (1, (h : Int) + 1, to, v)).1 (2, (h : Int) + 1, to, 0)).1 = chosen n (run n S0 l).1 ++ [x] := by
  obtain ⟨s, hs⟩ : ∃ s, s = (run n S0 l).1 := ⟨_, rfl⟩
  have hf : Fresh h s := by rw [hs]; exact fresh_run l S0 (fresh0 h) (fun o h => .inl (ho o h))
  have hi : Inv n s := by rw [hs]; exact run_inv n l
  rw [← hs]
  have e1 : ((h : Int) + 1).toNat = h + 1 := by omega
  have E1 : opE n s (1, (h : Int) + 1, to, v) = 0 := by
    unfold opE
    rw [if_neg (by show ¬ ((h : Int) + 1 < 1 ∨ 400 < (h : Int) + 1); omega), if_neg (by simp), if_pos rfl]
    show (if s.fixed ((h : Int) + 1).toNat = true then (6 : Int) else 0) = 0
    rw [e1, hf.fixed (h + 1) (by omega)]
    rfl
  obtain ⟨s1, hs1⟩ : ∃ s1, s1 = (step n s (1, (h : Int) + 1, to, v)).1 := ⟨_, rfl⟩
  have hs1' : s1 = ((List.range n).foldl (prep1 (h + 1) to) (name1 s (h + 1) v, 0)).1 := by
    rw [hs1, step, if_pos E1]
    show (move n s (1, (h : Int) + 1, to, v)).1 = _
    unfold move
    rw [if_pos rfl]
    show (prepare n s ((h : Int) + 1).toNat to v).1 = _
    rw [e1]; rfl
  obtain ⟨n1, n2, n3, n4, n5⟩ := name_facts s (h + 1) v
  obtain ⟨p1, p2, p3⟩ := prep_all (b := h + 1) (to := to) (List.range n) (name1 s (h + 1) v, 0) List.nodup_range (fun k _ => by
    show (name1 s (h + 1) v).prom k < h + 1
    rw [n5]; have := hf.prom k; omega)
  rw [← hs1'] at p1 p2 p3
  have plen : (s1.pr (h + 1)).length = (bits n to).length := by
    have := congrArg List.length p1
    rw [List.length_map, List.length_append, List.length_map] at this
    have e : (name1 s (h + 1) v).pr (h + 1) = [] := by rw [n3]; exact hf.pr (h + 1) (by omega)
    have this : (s1.pr (h + 1)).length = ((name1 s (h + 1) v).pr (h + 1)).length + (bits n to).length := this
    rw [e] at this
    simpa using this
  have E2 : opE n s1 (2, (h : Int) + 1, to, 0) = 0 := by
    unfold opE
    rw [if_neg (by show ¬ ((h : Int) + 1 < 1 ∨ 400 < (h : Int) + 1); omega), if_neg (by simp), if_neg (by show ¬ (2 : Int) = 1; omega)]
    show (if 2 * (s1.pr ((h : Int) + 1).toNat).length ≤ n then (8 : Int) else 0) = 0
    rw [e1, plen, if_neg (by omega)]
  rw [← hs1]
  refine ⟨E1, E2, ?_⟩
  obtain ⟨s2, hs2⟩ : ∃ s2, s2 = (step n s1 (2, (h : Int) + 1, to, 0)).1 := ⟨_, rfl⟩
  have hs2' : s2 = ((List.range n).foldl (acc1 (h + 1) to (val s1 (h + 1))) (fix1 s1 (h + 1), 0)).1 := by
    rw [hs2, step, if_pos E2]
    show (move n s1 (2, (h : Int) + 1, to, 0)).1 = _
    unfold move
    rw [if_neg (by show ¬ (2 : Int) = 1; omega)]
    show (accept n s1 ((h : Int) + 1).toNat to).1 = _
    rw [e1]; rfl
  obtain ⟨g1, g2, g3, g4, g5⟩ := prep_same (b := h + 1) (to := to) (List.range n) (name1 s (h + 1) v, 0)
  rw [← hs1'] at g1 g2 g3 g4 g5
  obtain ⟨a1, a2, a3, a4, a5, a6⟩ := acc_same (b := h + 1) (to := to) (v := val s1 (h + 1)) (List.range n) (fix1 s1 (h + 1), 0)
  rw [← hs2'] at a1 a2 a3 a4 a5 a6
  rw [← hs2]
  have accs : ∀ k b w, b ≠ h + 1 → ((k, b, w) ∈ s2.acc ↔ (k, b, w) ∈ s.acc) := fun k b w hb => by
    have e : s1.acc = s.acc := g4.trans n4
    constructor
    · intro hm
      have : (k, b, w) ∈ s1.acc := a6 k b w hb hm
      rwa [e] at this
    · intro hm
      exact a5 _ (by show _ ∈ s1.acc; rw [e]; exact hm)
  have whos : ∀ b, b ≠ h + 1 → who n s2 b = who n s b := fun b hb => by
    unfold who
    refine List.filter_congr fun k _ => ?_
    rw [Bool.eq_iff_iff, List.any_eq_true, List.any_eq_true]
    constructor
    · rintro ⟨⟨k', b', w⟩, h1, h2⟩
      simp at h2
      obtain ⟨rfl, rfl⟩ := h2
      exact ⟨(k', b', w), (accs k' b' w hb).1 h1, by simp⟩
    · rintro ⟨⟨k', b', w⟩, h1, h2⟩
      simp at h2
      obtain ⟨rfl, rfl⟩ := h2
      exact ⟨(k', b', w), (accs k' b' w hb).2 h1, by simp⟩
  have vals : ∀ b, b ≠ h + 1 → val s2 b = val s b := fun b hb => by
    unfold val
    rw [a4, a3]
    show (hv (s1.pr b) (s1.first b)).2 = _
    rw [g5 b hb, g3, n3]
    have : (name1 s (h + 1) v).first b = s.first b := by
      unfold name1
      split
      · rfl
      · exact upd_other _ _ hb
    rw [this]
  have none_above : ∀ b, h < b → most n s b = false := fun b hb => by
    unfold most
    refine decide_eq_false fun hlt => ?_
    cases hw : who n s b with
    | nil => rw [hw] at hlt; simp at hlt
    | cons k t =>
      obtain ⟨_, w, hw2⟩ := mem_who.1 (show k ∈ who n s b by rw [hw]; simp)
      have := hf.acc k b w hw2
      omega
  have most_new : most n s2 (h + 1) = true := by
    unfold most
    refine decide_eq_true ?_
    have hge : (bits n to).length ≤ (who n s2 (h + 1)).length := by
      have sub : ∀ k, k ∈ bits n to → k ∈ who n s2 (h + 1) := fun k hk => by
        obtain ⟨hk1, hk2⟩ := List.mem_filter.1 hk
        refine mem_who.2 ⟨List.mem_range.1 hk1, val s1 (h + 1), ?_⟩
        rw [hs2']
        exact acc_all (List.range n) (fix1 s1 (h + 1), 0) (fun i hi hib => by show s1.prom i ≤ h + 1; rw [p2 i hi hib]; exact Nat.le_refl _) k hk1 hk2
      unfold who
      refine Nat.le_trans ?_ (Nat.le_refl _)
      unfold bits
      have : ∀ l : List Nat, (∀ k ∈ l, to.testBit k = true → s2.acc.any (fun v => v.1 == k && v.2.1 == h + 1) = true) → (l.filter (fun k => to.testBit k)).length ≤ (l.filter (fun k => s2.acc.any (fun v => v.1 == k && v.2.1 == h + 1))).length := by
        intro l
        induction l with
        | nil => intro _; exact Nat.le_refl _
        | cons a l ih =>
          intro hl
          have := ih (fun k hk => hl k (List.mem_cons_of_mem _ hk))
          rw [List.filter_cons, List.filter_cons]
          by_cases hp : to.testBit a = true
          · rw [if_pos hp, if_pos (hl a (by simp) hp)]; simpa using this
          · rw [if_neg hp]
            split
            · simp; omega
            · exact this
      refine this _ fun k hk hkb => ?_
      have := sub k (List.mem_filter.2 ⟨hk, hkb⟩)
      exact (List.mem_filter.1 this).2
    omega
  refine ⟨val s2 (h + 1), ?_⟩
  unfold chosen
  rw [range_split hh, List.filter_append, List.filter_append, List.map_append, List.map_append, List.filter_cons, List.filter_cons, if_pos most_new, none_above (h + 1) (by omega)]
  have tail2 : ((List.range (399 - h)).map (fun x => h + 1 + x)).filter (fun b => most n s2 (b + 1)) = [] := by
    rw [List.filter_eq_nil_iff]
    intro b hb
    obtain ⟨x, _, rfl⟩ := List.mem_map.1 hb
    unfold most
    rw [whos _ (by omega)]
    have := none_above (h + 1 + x + 1) (by omega)
    unfold most at this
    rw [this]; simp
  have tail1 : ((List.range (399 - h)).map (fun x => h + 1 + x)).filter (fun b => most n s (b + 1)) = [] := by
    rw [List.filter_eq_nil_iff]
    intro b hb
    obtain ⟨x, _, rfl⟩ := List.mem_map.1 hb
    rw [none_above _ (by omega)]; simp
  have front : (List.range h).filter (fun b => most n s2 (b + 1)) = (List.range h).filter (fun b => most n s (b + 1)) := by
    refine List.filter_congr fun b hb => ?_
    have := List.mem_range.1 hb
    unfold most
    rw [whos _ (by omega)]
  have frontv : ((List.range h).filter (fun b => most n s (b + 1))).map (fun b => val s2 (b + 1)) = ((List.range h).filter (fun b => most n s (b + 1))).map (fun b => val s (b + 1)) := by
    refine List.map_congr_left fun b hb => ?_
    have := List.mem_range.1 (List.mem_filter.1 hb).1
    exact vals _ (by omega)
  rw [tail2, tail1, front, frontv]
  simp
/-! ### Who comes late -/
theorem prep_none {b to : Nat} : ∀ (l : List Nat) (x : S × Nat), (∀ k ∈ l, b ≤ x.1.prom k) → l.foldl (prep1 b to) x = x
  | [], x, _ => rfl
  | k :: l, x, h => by
    have e : prep1 b to x k = x := by
      unfold prep1
      rw [if_neg (fun hc => by have := h k (by simp); omega)]
    rw [List.foldl_cons, e]
    exact prep_none l x (fun j hj => h j (List.mem_cons_of_mem _ hj))
theorem acc_none {b to : Nat} {v : Int} : ∀ (l : List Nat) (x : S × Nat), (∀ k ∈ l, b < x.1.prom k) → l.foldl (acc1 b to v) x = x
  | [], x, _ => rfl
  | k :: l, x, h => by
    have e : acc1 b to v x k = x := by
      unfold acc1
      rw [if_neg (fun hc => by have := h k (by simp); omega)]
    rw [List.foldl_cons, e]
    exact acc_none l x (fun j hj => h j (List.mem_cons_of_mem _ hj))
theorem late {n : Nat} {l : List VO} {o : VO} (hn : n ≤ 16) (hl : ∀ o ∈ l, o.2.1 ≠ 400) (ho : o.2.1 ≠ 400) :
    (step n (step n (run n S0 l).1 (1, 400, 65535, 0)).1 o).2.2.1 = 0 ∧ chosen n (step n (step n (run n S0 l).1 (1, 400, 65535, 0)).1 o).1 = chosen n (step n (run n S0 l).1 (1, 400, 65535, 0)).1 := by
  obtain ⟨s, hs⟩ : ∃ s, s = (run n S0 l).1 := ⟨_, rfl⟩
  have hf : Fresh 399 s := by
    rw [hs]
    exact fresh_run l S0 (fresh0 399) (fun o h => by have := hl o h; show o.2.1 ≤ 399 ∨ 400 < o.2.1; omega)
  have hi : Inv n s := by rw [hs]; exact run_inv n l
  rw [← hs]
  obtain ⟨s1, hs1⟩ : ∃ s1, s1 = (step n s (1, 400, 65535, 0)).1 := ⟨_, rfl⟩
  have hi1 : Inv n s1 := by rw [hs1]; exact inv_step _ hi
  have E1 : opE n s (1, 400, 65535, 0) = 0 := by
    unfold opE
    rw [if_neg (by show ¬ ((400 : Int) < 1 ∨ 400 < (400 : Int)); omega), if_neg (by simp), if_pos rfl]
    show (if s.fixed 400 = true then (6 : Int) else 0) = 0
    rw [hf.fixed 400 (by omega)]
    rfl
  have hs1' : s1 = ((List.range n).foldl (prep1 400 65535) (name1 s 400 0, 0)).1 := by
    rw [hs1, step, if_pos E1]
    rfl
  obtain ⟨n1, n2, n3, n4, n5⟩ := name_facts s 400 0
  obtain ⟨p1, p2, p3⟩ := prep_all (b := 400) (to := 65535) (List.range n) (name1 s 400 0, 0) List.nodup_range (fun k _ => by
    show (name1 s 400 0).prom k < 400
    rw [n5]; have := hf.prom k; omega)
  rw [← hs1'] at p2
  have hp : ∀ k ∈ List.range n, s1.prom k = 400 := fun k hk => p2 k hk (by
    have : k < 16 := by have := List.mem_range.1 hk; omega
    rw [show (65535 : Nat) = 2 ^ 16 - 1 from rfl, Nat.testBit_two_pow_sub_one]
    exact decide_eq_true this)
  rw [← hs1]
  unfold step
  split
  · rename_i he
    obtain ⟨h1, h2, h3⟩ := opE_zero he
    have hb : o.2.1.toNat < 400 := by omega
    unfold move
    rcases h3 with ⟨hk, hfx⟩ | ⟨hk, hm⟩
    · rw [if_pos hk]
      obtain ⟨m1, m2, m3, m4, m5⟩ := name_facts s1 o.2.1.toNat o.2.2.2
      have e : prepare n s1 o.2.1.toNat o.2.2.1 o.2.2.2 = (name1 s1 o.2.1.toNat o.2.2.2, 0) := prep_none _ _ (fun k hk => by
        show o.2.1.toNat ≤ (name1 s1 o.2.1.toNat o.2.2.2).prom k
        rw [m5, hp k hk]; omega)
      rw [e]
      refine ⟨rfl, ?_⟩
      have hw : ∀ b, most n (name1 s1 o.2.1.toNat o.2.2.2) b = most n s1 b := fun b => by unfold most who; rw [m4]
      show chosen n (name1 s1 o.2.1.toNat o.2.2.2) = chosen n s1
      unfold chosen
      have e1 : (List.range 400).filter (fun b => most n (name1 s1 o.2.1.toNat o.2.2.2) (b + 1)) = (List.range 400).filter (fun b => most n s1 (b + 1)) := List.filter_congr fun b _ => by rw [hw]
      rw [e1]
      refine List.map_congr_left fun b hb => ?_
      have hmb := (List.mem_filter.1 hb).2
      obtain ⟨_, _, _, fb, _⟩ := most_fixed hi1 hmb
      have hne : b + 1 ≠ o.2.1.toNat := fun e => by rw [e, hfx] at fb; cases fb
      unfold val
      rw [m3]
      have : (name1 s1 o.2.1.toNat o.2.2.2).first (b + 1) = s1.first (b + 1) := by
        unfold name1
        split
        · rfl
        · exact upd_other _ _ hne
      rw [this]
    · rw [if_neg (by omega)]
      have e : accept n s1 o.2.1.toNat o.2.2.1 = (fix1 s1 o.2.1.toNat, 0) := acc_none _ _ (fun k hk => by
        show o.2.1.toNat < s1.prom k
        rw [hp k hk]; exact hb)
      rw [e]
      exact ⟨rfl, rfl⟩
  · exact ⟨rfl, rfl⟩
end Go.Proofs.Ytpoielmbdofjlaa.Syn
