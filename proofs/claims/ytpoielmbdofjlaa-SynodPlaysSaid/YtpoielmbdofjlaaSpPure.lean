/-
  Package synod, pure: what the program keeps (voters and ballots), and that it is what has happened.
-/
import Derived.Test.YtpoielmbdofjlaaSyPure3
import Derived.Test.YtpoielmbdofjlaaQrPure
namespace Go.Proofs.Ytpoielmbdofjlaa.Syn
set_option linter.unusedVariables false
open Go.Lib

/-- Voters: promise, last accepted ballot. Ballots: value, highest, who promised, who accepted, fixed; which there are. -/
structure PS where
  prom : Nat → Nat
  last : Nat → Nat
  value : Nat → Int
  high : Nat → Nat
  pb : Nat → Nat
  ab : Nat → Nat
  fixed : Nat → Bool
  seen : Nat → Bool
def P0 : PS := ⟨fun _ => 0, fun _ => 0, fun _ => 0, fun _ => 0, fun _ => 0, fun _ => 0, fun _ => false, fun _ => false⟩
def up1 (prom : Nat → Nat) (num to : Nat) (a k : Nat) : Nat := if prom k ≤ num then a ||| (to &&& 2 ^ k) else a
def upTo (prom : Nat → Nat) (n num to : Nat) : Nat := (List.range n).foldl (up1 prom num to) 0
def take1 (b : Nat) (p : PS) (k : Nat) : PS :=
  if p.high b < p.last k then { p with prom := upd p.prom k b, pb := upd p.pb b (p.pb b ||| 2 ^ k), high := upd p.high b (p.last k), value := upd p.value b (p.value (p.last k)) }
  else { p with prom := upd p.prom k b, pb := upd p.pb b (p.pb b ||| 2 ^ k) }
def takeIf (b now : Nat) (p : PS) (k : Nat) : PS := if now.testBit k = true then take1 b p k else p
def putIf (b now : Nat) (p : PS) (k : Nat) : PS := if now.testBit k = true then { p with prom := upd p.prom k b, last := upd p.last k b } else p
def pname (p : PS) (b : Nat) (v : Int) : PS :=
  if p.seen b = true then p else { p with value := upd p.value b v, high := upd p.high b 0, pb := upd p.pb b 0, ab := upd p.ab b 0, fixed := upd p.fixed b false, seen := upd p.seen b true }
def pfix (p : PS) (b : Nat) : PS := { p with fixed := upd p.fixed b true }
def padd (p : PS) (b now : Nat) : PS := { p with ab := upd p.ab b (p.ab b ||| now) }
def ptest (n x : Nat) : Bool := decide (n < 2 * popAux 16 x)
def pprep (n : Nat) (p : PS) (b to : Nat) (v : Int) : PS × An :=
  let q := pname p b v
  if q.fixed b = true then (q, 6, 0, 0)
  else
    let now := upTo q.prom n (b - 1) to
    let r := (List.range n).foldl (takeIf b now) q
    (r, 0, now, r.value b)
def pacc (n : Nat) (p : PS) (b to : Nat) : PS × An :=
  if p.seen b = true ∧ ptest n (p.pb b) = true then
    let q := pfix p b
    let now := upTo q.prom n b to
    let r := padd ((List.range n).foldl (putIf b now) q) b now
    (r, 0, now, r.value b)
  else (p, 8, 0, 0)
def pstep (n : Nat) (p : PS) (o : VO) : PS × An :=
  if o.2.1 < 1 ∨ 400 < o.2.1 then (p, 2, 0, 0)
  else if o.1 = 1 then pprep n p o.2.1.toNat o.2.2.1 o.2.2.2
  else if o.1 = 2 then pacc n p o.2.1.toNat o.2.2.1
  else (p, 5, 0, 0)
def prun (n : Nat) : PS → List VO → PS × List An
  | p, [] => (p, [])
  | p, o :: l => ((prun n (pstep n p o).1 l).1, (pstep n p o).2 :: (prun n (pstep n p o).1 l).2)
def pchosen (n : Nat) (p : PS) : List Int := ((List.range 400).filter (fun b => p.seen (b + 1) && ptest n (p.ab (b + 1)))).map (fun b => p.value (b + 1))

theorem fold_suc {α : Type} (f : α → Nat → α) (a : α) (k : Nat) : (List.range (k + 1)).foldl f a = f ((List.range k).foldl f a) k := by
  rw [List.range_succ, List.foldl_append]; rfl
theorem upto_bit (prom : Nat → Nat) (num to k : Nat) : ∀ j, ((List.range j).foldl (up1 prom num to) 0).testBit k = (decide (k < j) && to.testBit k && decide (prom k ≤ num))
  | 0 => by simp
  | j + 1 => by
    rw [fold_suc]
    have ih := upto_bit prom num to k j
    generalize (List.range j).foldl (up1 prom num to) 0 = a at ih ⊢
    unfold up1
    split
    · rename_i h
      rw [Nat.testBit_or, ih, Nat.testBit_and, Nat.testBit_two_pow]
      by_cases e : j = k
      · subst e; simp [h]
      · have e2 : decide (k < j + 1) = decide (k < j) := decide_eq_decide.2 ⟨fun h => by omega, fun h => by omega⟩
        simp [e, e2]
    · rename_i h
      rw [ih]
      by_cases e : j = k
      · subst e; simp [h]
      · have e2 : decide (k < j + 1) = decide (k < j) := decide_eq_decide.2 ⟨fun h => by omega, fun h => by omega⟩
        rw [e2]
theorem upto_lt (prom : Nat → Nat) (num to : Nat) (ht : to < 65536) : ∀ j, (List.range j).foldl (up1 prom num to) 0 < 65536
  | 0 => by simp
  | j + 1 => by
    rw [fold_suc]
    have ih := upto_lt prom num to ht j
    generalize (List.range j).foldl (up1 prom num to) 0 = a at ih ⊢
    unfold up1
    split
    · exact Nat.or_lt_two_pow (n := 16) ih (Nat.lt_of_le_of_lt Nat.and_le_left ht)
    · exact ih

/-! ### How many -/
theorem pc_filter : ∀ f x : Nat, popAux f x = ((List.range f).filter (fun k => x.testBit k)).length
  | 0, x => rfl
  | f + 1, x => by
    rw [popAux, pc_filter f (x / 2), List.range_succ_eq_map, List.filter_cons]
    have h1 : ((List.map Nat.succ (List.range f)).filter (fun k => x.testBit k)).length = ((List.range f).filter (fun k => (x / 2).testBit k)).length := by
      rw [List.filter_map, List.length_map]
      congr 1
      congr 1
      funext k
      show x.testBit (k + 1) = _
      rw [Nat.testBit_succ]
    by_cases h : x % 2 = 1
    · have : x.testBit 0 = true := by rw [Nat.testBit_zero]; simpa using h
      rw [this, if_pos rfl, List.length_cons, h1]
      omega
    · have : x.testBit 0 = false := by rw [Nat.testBit_zero]; simpa using h
      rw [this, if_neg (by simp), h1]
      omega
theorem pc_list {x : Nat} {l : List Nat} (hd : l.Nodup) (hl : ∀ k ∈ l, k < 16) (h : ∀ k, x.testBit k = true ↔ k ∈ l) : popAux 16 x = l.length := by
  rw [pc_filter]
  refine List.Perm.length_eq ((List.perm_ext_iff_of_nodup (List.Pairwise.filter _ List.nodup_range) hd).2 fun k => ?_)
  rw [List.mem_filter, List.mem_range]
  exact ⟨fun h' => (h k).1 h'.2, fun h' => ⟨hl k h', (h k).2 h'⟩⟩

/-! ### It is what has happened -/
structure Like (s : S) (p : PS) : Prop where
  prom : ∀ k, p.prom k = s.prom k
  last : ∀ k, p.last k = (lastOf s.acc k).1
  seen : ∀ b, p.seen b = s.seen b
  value : ∀ b, s.seen b = true → p.value b = val s b
  high : ∀ b, s.seen b = true → p.high b = (hv (s.pr b) (s.first b)).1
  pb : ∀ b, s.seen b = true → ∀ k, (p.pb b).testBit k = true ↔ k ∈ (s.pr b).map (·.1)
  fixed : ∀ b, s.seen b = true → p.fixed b = s.fixed b
def LikeA (s : S) (p : PS) : Prop := ∀ b, s.seen b = true → ∀ k, (p.ab b).testBit k = true ↔ ∃ v, (k, b, v) ∈ s.acc
theorem like0 : Like S0 P0 := ⟨fun _ => rfl, fun _ => rfl, fun _ => rfl, fun _ h => by simp [S0] at h, fun _ h => by simp [S0] at h, fun _ h => by simp [S0] at h, fun _ h => by simp [S0] at h⟩
theorem likeA0 : LikeA S0 P0 := fun _ h => by simp [S0] at h
theorem fixed_seen {n : Nat} {s : S} (h : Inv n s) {b : Nat} (hf : s.fixed b = true) : s.seen b = true := by
  have := h.fix_maj b hf
  exact h.pr_seen b (fun e => by rw [e] at this; simp at this)
theorem acc_seen {n : Nat} {s : S} (h : Inv n s) {k b : Nat} {v : Int} (hm : (k, b, v) ∈ s.acc) : s.seen b = true := fixed_seen h (h.acc_ok k b v hm).2.2.2.1
theorem hv_snoc (l : List Nv) (y : Nv) (v : Int) : hv (l ++ [y]) v = hstep (hv l v) y := by unfold hv; rw [List.foldl_append]; rfl
theorem like_name {n : Nat} {s : S} {p : PS} (hI : Inv n s) (h : Like s p) (b : Nat) (v : Int) : Like (name1 s b v) (pname p b v) := by
  unfold name1 pname
  by_cases hs : s.seen b = true
  · rw [if_pos hs, if_pos ((h.seen b).trans hs)]; exact h
  · have hs' : s.seen b = false := by simpa using hs
    have hf : s.fixed b = false := by
      cases hf : s.fixed b with
      | false => rfl
      | true => exact absurd (fixed_seen hI hf) hs
    have hpr : s.pr b = [] := by
      cases hp : s.pr b with
      | nil => rfl
      | cons a l => exact absurd (hI.pr_seen b (by rw [hp]; simp)) hs
    rw [if_neg hs, if_neg (by rw [h.seen b]; exact hs)]
    have o : ∀ c, upd s.seen b true c = true → c ≠ b → s.seen c = true := fun c hc hne => by rwa [upd_other _ _ hne] at hc
    refine ⟨h.prom, h.last, fun c => ?_, fun c hc => ?_, fun c hc => ?_, fun c hc k => ?_, fun c hc => ?_⟩
    · show upd p.seen b true c = upd s.seen b true c
      unfold upd; split
      · rfl
      · exact h.seen c
    · show upd p.value b v c = (hv (s.pr c) (upd s.first b v c)).2
      by_cases e : c = b
      · subst e; rw [upd_same, upd_same, hpr]; rfl
      · rw [upd_other _ _ e, upd_other _ _ e]; exact h.value c (o c hc e)
    · show upd p.high b 0 c = (hv (s.pr c) (upd s.first b v c)).1
      by_cases e : c = b
      · subst e; rw [upd_same, upd_same, hpr]; rfl
      · rw [upd_other _ _ e, upd_other _ _ e]; exact h.high c (o c hc e)
    · show (upd p.pb b 0 c).testBit k = true ↔ k ∈ (s.pr c).map (·.1)
      by_cases e : c = b
      · subst e; rw [upd_same, hpr]; simp
      · rw [upd_other _ _ e]; exact h.pb c (o c hc e) k
    · show upd p.fixed b false c = s.fixed c
      by_cases e : c = b
      · subst e; rw [upd_same, hf]
      · rw [upd_other _ _ e]; exact h.fixed c (o c hc e)
theorem likeA_name {n : Nat} {s : S} {p : PS} (hI : Inv n s) (h : Like s p) (hA : LikeA s p) (b : Nat) (v : Int) : LikeA (name1 s b v) (pname p b v) := by
  unfold name1 pname
  by_cases hs : s.seen b = true
  · rw [if_pos hs, if_pos ((h.seen b).trans hs)]; exact hA
  · rw [if_neg hs, if_neg (by rw [h.seen b]; exact hs)]
    intro c hc k
    show (upd p.ab b 0 c).testBit k = true ↔ ∃ v, (k, c, v) ∈ s.acc
    by_cases e : c = b
    · subst e
      rw [upd_same]
      exact ⟨fun h => by simp at h, fun ⟨v, hm⟩ => absurd (acc_seen hI hm) hs⟩
    · rw [upd_other _ _ e]
      have hc : upd s.seen b true c = true := hc
      rw [upd_other _ _ e] at hc
      exact hA c hc k
theorem like_take {n b to k : Nat} {x : S × Nat} {p : PS} (hI : Inv n x.1) (h : Like x.1 p) (hb : to.testBit k = true) (hp : x.1.prom k < b) (hs : x.1.seen b = true) : Like (prep1 b to x k).1 (take1 b p k) := by
  unfold prep1
  rw [if_pos ⟨hb, hp⟩]
  obtain ⟨⟨prom, pr, first, seen, fixed, acc⟩, did⟩ := x
  simp only at *
  have hl := h.last k
  have hh := h.high b hs
  have hlast : p.high b < p.last k → p.value (p.last k) = (lastOf acc k).2 := fun hlt => by
    rcases lastOf_mem acc k with e | e
    · have hl : p.last k = (lastOf acc k).1 := hl
      rw [e] at hl; have hl : p.last k = 0 := hl; omega
    · have hm : (k, (lastOf acc k).1, (lastOf acc k).2) ∈ acc := e
      have h1 := (hI.acc_ok k _ _ hm).2.2.2.2.1
      rw [hl, h1]
      exact h.value _ (acc_seen hI hm)
  have hval : (hv (pr b ++ [(k, lastOf acc k)]) (first b)) = if p.high b < p.last k then lastOf acc k else hv (pr b) (first b) := by
    rw [hv_snoc]
    unfold hstep
    have e1 : p.high b = (hv (pr b) (first b)).1 := hh
    have e2 : p.last k = (lastOf acc k).1 := hl
    rw [e1, e2]
  have hpb : ∀ c, seen c = true → ∀ j, (upd p.pb b (p.pb b ||| 2 ^ k) c).testBit j = true ↔ j ∈ (upd pr b (pr b ++ [(k, lastOf acc k)]) c).map (·.1) := fun c hc j => by
    by_cases e : c = b
    · subst e
      rw [upd_same, upd_same, Nat.testBit_or, Nat.testBit_two_pow, List.map_append, List.mem_append, Bool.or_eq_true]
      refine or_congr (h.pb c hc j) ?_
      simp [eq_comm]
    · rw [upd_other _ _ e, upd_other _ _ e]; exact h.pb c hc j
  have hpr : ∀ c, upd p.prom k b c = upd prom k b c := fun c => by unfold upd; split; rfl; exact h.prom c
  unfold take1
  split
  · rename_i hlt
    rw [if_pos hlt] at hval
    refine ⟨hpr, h.last, h.seen, fun c hc => ?_, fun c hc => ?_, hpb, h.fixed⟩
    · show upd p.value b (p.value (p.last k)) c = (hv (upd pr b _ c) (first c)).2
      by_cases e : c = b
      · subst e; rw [upd_same, upd_same, hval]; exact hlast hlt
      · rw [upd_other _ _ e, upd_other _ _ e]; exact h.value c hc
    · show upd p.high b (p.last k) c = (hv (upd pr b _ c) (first c)).1
      by_cases e : c = b
      · subst e; rw [upd_same, upd_same, hval]; exact hl
      · rw [upd_other _ _ e, upd_other _ _ e]; exact h.high c hc
  · rename_i hlt
    rw [if_neg hlt] at hval
    refine ⟨hpr, h.last, h.seen, fun c hc => ?_, fun c hc => ?_, hpb, h.fixed⟩
    · show p.value c = (hv (upd pr b _ c) (first c)).2
      by_cases e : c = b
      · subst e; rw [upd_same, hval]; exact h.value c hc
      · rw [upd_other _ _ e]; exact h.value c hc
    · show p.high c = (hv (upd pr b _ c) (first c)).1
      by_cases e : c = b
      · subst e; rw [upd_same, hval]; exact hh
      · rw [upd_other _ _ e]; exact h.high c hc
theorem take_ab (b : Nat) (p : PS) (k : Nat) : (take1 b p k).ab = p.ab ∧ (take1 b p k).last = p.last ∧ (take1 b p k).seen = p.seen ∧ (take1 b p k).fixed = p.fixed := by unfold take1; split <;> exact ⟨rfl, rfl, rfl, rfl⟩
theorem bit_set {a j k : Nat} : (a ||| 2 ^ j).testBit k = (a.testBit k || decide (j = k)) := by rw [Nat.testBit_or, Nat.testBit_two_pow]
theorem like_prep {n b to : Nat} {s : S} {p : PS} (hI : Inv n s) (h : Like s p) (hA : LikeA s p) (hb : 1 ≤ b) (hf : s.fixed b = false) (hs : s.seen b = true) : ∀ j, j ≤ n →
    Inv n ((List.range j).foldl (prep1 b to) (s, 0)).1 ∧ Like ((List.range j).foldl (prep1 b to) (s, 0)).1 ((List.range j).foldl (takeIf b (upTo p.prom n (b - 1) to)) p) ∧
    LikeA ((List.range j).foldl (prep1 b to) (s, 0)).1 ((List.range j).foldl (takeIf b (upTo p.prom n (b - 1) to)) p) ∧
    ((List.range j).foldl (prep1 b to) (s, 0)).1.fixed = s.fixed ∧ ((List.range j).foldl (prep1 b to) (s, 0)).1.seen = s.seen ∧
    (∀ k, j ≤ k → ((List.range j).foldl (prep1 b to) (s, 0)).1.prom k = s.prom k) ∧
    (∀ k, ((List.range j).foldl (prep1 b to) (s, 0)).2.testBit k = (decide (k < j) && to.testBit k && decide (s.prom k ≤ b - 1)))
  | 0, _ => ⟨hI, h, hA, rfl, rfl, fun _ _ => rfl, fun k => by simp⟩
  | j + 1, hj => by
    obtain ⟨h1, h2, h3, h4, h5, h6, h7⟩ := like_prep (to := to) hI h hA hb hf hs j (by omega)
    rw [fold_suc, fold_suc]
    generalize hx : (List.range j).foldl (prep1 b to) (s, 0) = x at *
    generalize hq : (List.range j).foldl (takeIf b (upTo p.prom n (b - 1) to)) p = q at *
    obtain ⟨g1, g2, g3, _⟩ := inv_prep1 (to := to) (x := x) h1 (show j < n by omega) hb (by rw [h4]; exact hf) (by rw [h5]; exact hs)
    have hnow : (upTo p.prom n (b - 1) to).testBit j = (to.testBit j && decide (s.prom j ≤ b - 1)) := by
      unfold upTo
      rw [upto_bit, h.prom j, decide_eq_true (show j < n by omega), Bool.true_and]
    have hpj := h6 j (Nat.le_refl _)
    have hlt : ∀ k, k ≠ j → decide (k < j + 1) = decide (k < j) := fun k hk => decide_eq_decide.2 ⟨fun h => by omega, fun h => by omega⟩
    by_cases hc : to.testBit j = true ∧ x.1.prom j < b
    · have hn : (upTo p.prom n (b - 1) to).testBit j = true := by rw [hnow, hc.1]; simp; omega
      refine ⟨g1, ?_, ?_, g2.trans h4, g3.trans h5, fun k hk => ?_, fun k => ?_⟩
      · unfold takeIf; rw [if_pos hn]; exact like_take h1 h2 hc.1 hc.2 (by rw [h5]; exact hs)
      · unfold takeIf; rw [if_pos hn]
        intro c hc' k
        rw [(take_ab b q j).1]
        have e : (prep1 b to x j).1.acc = x.1.acc := by unfold prep1; rw [if_pos hc]
        rw [e]
        rw [g3] at hc'
        exact h3 c hc' k
      · unfold prep1; rw [if_pos hc]
        show upd x.1.prom j b k = s.prom k
        rw [upd_other _ _ (by omega)]; exact h6 k (by omega)
      · unfold prep1; rw [if_pos hc]
        show (x.2 ||| 2 ^ j).testBit k = _
        rw [bit_set, h7 k]
        by_cases e : k = j
        · subst e; simp [hc.1]; omega
        · rw [hlt k e]; simp [show ¬ j = k from fun h => e h.symm]
    · have hn : (upTo p.prom n (b - 1) to).testBit j = false := by
        rw [hnow]
        cases ht : to.testBit j with
        | false => rfl
        | true => simp; have : ¬ x.1.prom j < b := fun h => hc ⟨ht, h⟩; omega
      have e : prep1 b to x j = x := by unfold prep1; rw [if_neg hc]
      have e2 : takeIf b (upTo p.prom n (b - 1) to) q j = q := by unfold takeIf; rw [if_neg (by rw [hn]; simp)]
      rw [e, e2]
      refine ⟨h1, h2, h3, h4, h5, fun k hk => h6 k (by omega), fun k => ?_⟩
      rw [h7 k]
      by_cases e : k = j
      · subst e
        rw [hnow] at hn
        simp only [Nat.lt_irrefl, decide_false, Bool.false_and]
        rw [decide_eq_true (show k < k + 1 by omega), Bool.true_and, hn]
      · rw [hlt k e]
theorem like_acc {n b to : Nat} {v : Int} {s : S} {p : PS} (hI : Inv n s) (h : Like s p) (hb : 1 ≤ b) (hb2 : b ≤ 400) (hf : s.fixed b = true) (hv' : v = val s b) : ∀ j, j ≤ n →
    Inv n ((List.range j).foldl (acc1 b to v) (s, 0)).1 ∧ Like ((List.range j).foldl (acc1 b to v) (s, 0)).1 ((List.range j).foldl (putIf b (upTo p.prom n b to)) p) ∧
    ((List.range j).foldl (acc1 b to v) (s, 0)).1.fixed = s.fixed ∧ ((List.range j).foldl (acc1 b to v) (s, 0)).1.seen = s.seen ∧ ((List.range j).foldl (acc1 b to v) (s, 0)).1.pr = s.pr ∧ ((List.range j).foldl (acc1 b to v) (s, 0)).1.first = s.first ∧
    ((List.range j).foldl (putIf b (upTo p.prom n b to)) p).ab = p.ab ∧
    (∀ k, j ≤ k → ((List.range j).foldl (acc1 b to v) (s, 0)).1.prom k = s.prom k) ∧
    (∀ k c u, (k, c, u) ∈ ((List.range j).foldl (acc1 b to v) (s, 0)).1.acc ↔ (k, c, u) ∈ s.acc ∨ k < j ∧ c = b ∧ u = v ∧ (upTo p.prom n b to).testBit k = true) ∧
    (∀ k, ((List.range j).foldl (acc1 b to v) (s, 0)).2.testBit k = (decide (k < j) && to.testBit k && decide (s.prom k ≤ b)))
  | 0, _ => ⟨hI, h, rfl, rfl, rfl, rfl, rfl, fun _ _ => rfl, fun k c u => by simp, fun k => by simp⟩
  | j + 1, hj => by
    obtain ⟨h1, h2, h3, h4, h5, h6, h7, h8, h9, h10⟩ := like_acc (to := to) hI h hb hb2 hf hv' j (by omega)
    rw [fold_suc, fold_suc]
    generalize hx : (List.range j).foldl (acc1 b to v) (s, 0) = x at *
    generalize hq : (List.range j).foldl (putIf b (upTo p.prom n b to)) p = q at *
    obtain ⟨g1, g2, g3, g4, g5⟩ := inv_acc1 (to := to) (v := v) (x := x) h1 (show j < n by omega) hb hb2 (by rw [h3]; exact hf) (by unfold val; rw [h5, h6]; exact hv')
    have hnow : (upTo p.prom n b to).testBit j = (to.testBit j && decide (s.prom j ≤ b)) := by
      unfold upTo
      rw [upto_bit, h.prom j, decide_eq_true (show j < n by omega), Bool.true_and]
    have hpj := h8 j (Nat.le_refl _)
    have hlt : ∀ k, k ≠ j → decide (k < j + 1) = decide (k < j) := fun k hk => decide_eq_decide.2 ⟨fun h => by omega, fun h => by omega⟩
    by_cases hc : to.testBit j = true ∧ x.1.prom j ≤ b
    · have hn : (upTo p.prom n b to).testBit j = true := by rw [hnow, hc.1]; simp; omega
      have e2 : putIf b (upTo p.prom n b to) q j = { q with prom := upd q.prom j b, last := upd q.last j b } := by unfold putIf; rw [if_pos hn]
      have e1 : acc1 b to v x j = ({ x.1 with prom := upd x.1.prom j b, acc := x.1.acc ++ [(j, b, v)] }, x.2 ||| 2 ^ j) := by unfold acc1; rw [if_pos hc]
      refine ⟨g1, ?_, g2.trans h3, g5.trans h4, g3.trans h5, g4.trans h6, by rw [e2]; exact h7, fun k hk => ?_, fun k c u => ?_, fun k => ?_⟩
      · rw [e1, e2]
        refine ⟨fun k => ?_, fun k => ?_, h2.seen, h2.value, h2.high, h2.pb, h2.fixed⟩
        · show upd q.prom j b k = upd x.1.prom j b k
          unfold upd; split; rfl; exact h2.prom k
        · show upd q.last j b k = (lastOf (x.1.acc ++ [(j, b, v)]) k).1
          rw [lastOf_snoc]
          by_cases e : k = j
          · subst e; rw [upd_same, if_pos rfl]
          · rw [upd_other _ _ e, if_neg (fun h => e h.symm)]; exact h2.last k
      · rw [e1]
        show upd x.1.prom j b k = s.prom k
        rw [upd_other _ _ (by omega)]; exact h8 k (by omega)
      · rw [e1]
        show (k, c, u) ∈ x.1.acc ++ [(j, b, v)] ↔ _
        rw [List.mem_append, h9 k c u]
        simp only [List.mem_singleton, Prod.mk.injEq]
        constructor
        · rintro ((h | ⟨h, h'⟩) | ⟨rfl, rfl, rfl⟩)
          · exact .inl h
          · exact .inr ⟨by omega, h'⟩
          · exact .inr ⟨by omega, rfl, rfl, hn⟩
        · rintro (h | ⟨h, e1, e2, h'⟩)
          · exact .inl (.inl h)
          · by_cases e : k = j
            · exact .inr ⟨e, e1, e2⟩
            · exact .inl (.inr ⟨by omega, e1, e2, h'⟩)
      · rw [e1]
        show (x.2 ||| 2 ^ j).testBit k = _
        rw [bit_set, h10 k]
        by_cases e : k = j
        · subst e; simp [hc.1]; omega
        · rw [hlt k e]; simp [show ¬ j = k from fun h => e h.symm]
    · have hn : (upTo p.prom n b to).testBit j = false := by
        rw [hnow]
        cases ht : to.testBit j with
        | false => rfl
        | true => simp; have : ¬ x.1.prom j ≤ b := fun h => hc ⟨ht, h⟩; omega
      have e : acc1 b to v x j = x := by unfold acc1; rw [if_neg hc]
      have e2 : putIf b (upTo p.prom n b to) q j = q := by unfold putIf; rw [if_neg (by rw [hn]; simp)]
      rw [e, e2]
      refine ⟨h1, h2, h3, h4, h5, h6, h7, fun k hk => h8 k (by omega), fun k c u => ?_, fun k => ?_⟩
      · rw [h9 k c u]
        refine or_congr_right ⟨fun ⟨a, b⟩ => ⟨by omega, b⟩, fun ⟨a, b1, b2, b3⟩ => ⟨?_, b1, b2, b3⟩⟩
        by_cases e : k = j
        · subst e; rw [hn] at b3; cases b3
        · omega
      · rw [h10 k]
        by_cases e : k = j
        · subst e
          rw [hnow] at hn
          simp only [Nat.lt_irrefl, decide_false, Bool.false_and]
          rw [decide_eq_true (show k < k + 1 by omega), Bool.true_and, hn]
        · rw [hlt k e]
theorem ptest_pb {n : Nat} (hn : n ≤ 16) {s : S} {p : PS} (hI : Inv n s) (h : Like s p) {b : Nat} (hs : s.seen b = true) : ptest n (p.pb b) = decide (n < 2 * (s.pr b).length) := by
  unfold ptest
  rw [pc_list (hI.pr_dup b) (fun k hk => ?_) (h.pb b hs), List.length_map]
  obtain ⟨⟨k', bl, vl⟩, hm, rfl⟩ := List.mem_map.1 hk
  have := (hI.pr_ok b k' bl vl hm).1
  show k' < 16
  omega
theorem ptest_ab {n : Nat} (hn : n ≤ 16) {s : S} {p : PS} (hI : Inv n s) (hA : LikeA s p) {b : Nat} (hs : s.seen b = true) : ptest n (p.ab b) = most n s b := by
  unfold ptest most
  rw [pc_list (who_dup n s b) (fun k hk => ?_) (fun k => ?_)]
  · have := (mem_who.1 hk).1; omega
  · rw [hA b hs k, mem_who]
    exact ⟨fun ⟨v, h⟩ => ⟨(hI.acc_ok k b v h).1, v, h⟩, fun h => h.2⟩
theorem like_step {n : Nat} (hn : n ≤ 16) {s : S} {p : PS} (hI : Inv n s) (h : Like s p) (hA : LikeA s p) (o : VO) : (pstep n p o).2 = (step n s o).2 ∧ Like (step n s o).1 (pstep n p o).1 ∧ LikeA (step n s o).1 (pstep n p o).1 := by
  obtain ⟨kd, b, to, v⟩ := o
  unfold pstep step
  simp only
  by_cases hr : b < 1 ∨ 400 < b
  · have e : opE n s (kd, b, to, v) = 2 := by unfold opE; rw [if_pos hr]
    rw [if_pos hr, e, if_neg (by decide)]
    exact ⟨rfl, h, hA⟩
  · rw [if_neg hr]
    obtain ⟨c, rfl⟩ : ∃ c : Nat, b = (c : Int) := ⟨b.toNat, by omega⟩
    have hc : 1 ≤ c ∧ c ≤ 400 := by omega
    rw [Int.toNat_natCast]
    by_cases h1 : kd = 1
    · subst h1
      rw [if_pos rfl]
      have q1 := like_name hI h c v
      have q2 := likeA_name hI h hA c v
      obtain ⟨f1, f2, f3, f4, f5⟩ := name_facts s c v
      have hq : (pname p c v).fixed c = s.fixed c := by rw [q1.fixed c f2, f1]
      unfold pprep
      simp only
      by_cases hf : s.fixed c = true
      · have e : opE n s (1, (c : Int), to, v) = 6 := by unfold opE; rw [if_neg hr, if_neg (by simp), if_pos rfl]; simp only [Int.toNat_natCast]; rw [if_pos hf]
        have hs := fixed_seen hI hf
        rw [if_pos (by rw [hq]; exact hf), e, if_neg (by decide)]
        have e3 : pname p c v = p := by unfold pname; rw [if_pos (by rw [h.seen]; exact hs)]
        rw [e3]
        exact ⟨rfl, h, hA⟩
      · have hf' : s.fixed c = false := by simpa using hf
        have e : opE n s (1, (c : Int), to, v) = 0 := by unfold opE; rw [if_neg hr, if_neg (by simp), if_pos rfl]; simp only [Int.toNat_natCast]; rw [if_neg hf]
        rw [if_neg (by rw [hq]; exact hf), e, if_pos rfl]
        have e4 : move n s (1, (c : Int), to, v) = prepare n s c to v := by unfold move; rw [if_pos rfl]; simp only [Int.toNat_natCast]
        rw [e4]
        unfold prepare
        obtain ⟨g1, g2, g3, g4, g5, g6, g7⟩ := like_prep (to := to) (inv_name hI v hf') q1 q2 hc.1 (by rw [f1]; exact hf') f2 n (Nat.le_refl _)
        refine ⟨?_, g2, g3⟩
        refine Prod.ext rfl (Prod.ext ?_ ?_)
        · show upTo _ _ _ _ = _
          refine Nat.eq_of_testBit_eq fun k => ?_
          rw [g7 k]
          unfold upTo
          rw [upto_bit, q1.prom k]
        · show PS.value _ c = val _ c
          exact g2.value c (by rw [g5]; exact f2)
    · rw [if_neg h1]
      by_cases h2 : kd = 2
      · subst h2
        rw [if_pos rfl]
        unfold pacc
        have hopE : opE n s (2, (c : Int), to, v) = if 2 * (s.pr c).length ≤ n then 8 else 0 := by unfold opE; rw [if_neg hr, if_neg (by simp), if_neg (show ¬ (2 : Int) = 1 by decide)]; simp only [Int.toNat_natCast]
        by_cases hm : n < 2 * (s.pr c).length
        · have hs : s.seen c = true := hI.pr_seen c (fun e => by rw [e] at hm; simp at hm)
          have ht : ptest n (p.pb c) = true := by rw [ptest_pb hn hI h hs]; exact decide_eq_true hm
          have e0 : opE n s (2, (c : Int), to, v) = 0 := by rw [hopE, if_neg (by omega)]
          rw [if_pos ⟨(h.seen c).trans hs, ht⟩, e0, if_pos rfl]
          have e4 : move n s (2, (c : Int), to, v) = accept n s c to := by unfold move; rw [if_neg (show ¬ (2 : Int) = 1 by decide)]; simp only [Int.toNat_natCast]
          rw [e4]
          unfold accept
          have q1 : Like (fix1 s c) (pfix p c) := ⟨h.prom, h.last, h.seen, h.value, h.high, h.pb, fun d hd => by
            show upd p.fixed c true d = upd s.fixed c true d
            unfold upd; split; rfl; exact h.fixed d hd⟩
          obtain ⟨g1, g2, g3, g4, g5, g6, g7, g8, g9, g10⟩ := like_acc (to := to) (v := val s c) (inv_fix hI hm) q1 hc.1 hc.2 (show upd s.fixed c true c = true from upd_same _ _ _) rfl n (Nat.le_refl _)
          simp only
          have hnow : upTo (pfix p c).prom n c to = ((List.range n).foldl (acc1 c to (val s c)) (fix1 s c, 0)).2 := by
            refine Nat.eq_of_testBit_eq fun k => ?_
            rw [g10 k]
            unfold upTo
            rw [upto_bit, q1.prom k]
          refine ⟨Prod.ext rfl (Prod.ext hnow ?_), ⟨g2.prom, g2.last, g2.seen, g2.value, g2.high, g2.pb, g2.fixed⟩, fun d hd k => ?_⟩
          · exact g2.value c (by rw [g4]; exact hs)
          · rw [g4] at hd
            have hd : s.seen d = true := hd
            show Nat.testBit (upd (PS.ab _) c (PS.ab _ c ||| upTo (pfix p c).prom n c to) d) k = true ↔ _
            rw [g7]
            by_cases e : d = c
            · subst e
              rw [upd_same, Nat.testBit_or, Bool.or_eq_true]
              constructor
              · rintro (h' | h')
                · obtain ⟨u, hu⟩ := (hA d hd k).1 h'
                  exact ⟨u, (g9 k d u).2 (.inl hu)⟩
                · have h'' := h'
                  unfold upTo at h''
                  rw [upto_bit] at h''
                  simp only [Bool.and_eq_true, decide_eq_true_eq] at h''
                  exact ⟨_, (g9 k d _).2 (.inr ⟨h''.1.1, rfl, rfl, h'⟩)⟩
              · rintro ⟨u, hu⟩
                rcases (g9 k d u).1 hu with h' | ⟨_, _, _, h'⟩
                · exact .inl ((hA d hd k).2 ⟨u, h'⟩)
                · exact .inr h'
            · rw [upd_other _ _ e]
              rw [show (pfix p c).ab d = p.ab d from rfl, hA d hd k]
              constructor
              · rintro ⟨u, hu⟩; exact ⟨u, (g9 k d u).2 (.inl hu)⟩
              · rintro ⟨u, hu⟩
                rcases (g9 k d u).1 hu with h' | ⟨_, h', _⟩
                · exact ⟨u, h'⟩
                · exact absurd h' e
        · have ht : ¬ (p.seen c = true ∧ ptest n (p.pb c) = true) := by
            rintro ⟨hs, ht⟩
            rw [ptest_pb hn hI h ((h.seen c).symm.trans hs)] at ht
            exact hm (of_decide_eq_true ht)
          have e0 : opE n s (2, (c : Int), to, v) = 8 := by rw [hopE, if_pos (by omega)]
          rw [if_neg ht, e0, if_neg (by decide)]
          exact ⟨rfl, h, hA⟩
      · have e : opE n s (kd, (c : Int), to, v) = 5 := by unfold opE; rw [if_neg hr, if_pos ⟨h1, h2⟩]
        rw [if_neg h2, e, if_neg (by decide)]
        exact ⟨rfl, h, hA⟩
theorem like_run {n : Nat} (hn : n ≤ 16) : ∀ (l : List VO) (s : S) (p : PS), Inv n s → Like s p → LikeA s p → (prun n p l).2 = (run n s l).2 ∧ Like (run n s l).1 (prun n p l).1 ∧ LikeA (run n s l).1 (prun n p l).1 ∧ Inv n (run n s l).1
  | [], s, p, hI, h, hA => ⟨rfl, h, hA, hI⟩
  | o :: l, s, p, hI, h, hA => by
    obtain ⟨e, h1, h2⟩ := like_step hn hI h hA o
    obtain ⟨e2, g1, g2, g3⟩ := like_run hn l _ _ (inv_step o hI) h1 h2
    exact ⟨by show _ :: _ = _ :: _; rw [e, e2], g1, g2, g3⟩
theorem pchosen_like {n : Nat} (hn : n ≤ 16) {s : S} {p : PS} (hI : Inv n s) (h : Like s p) (hA : LikeA s p) : pchosen n p = chosen n s := by
  unfold pchosen chosen
  have e : ∀ b, (p.seen (b + 1) && ptest n (p.ab (b + 1))) = most n s (b + 1) := fun b => by
    cases hs : s.seen (b + 1) with
    | true => rw [h.seen, hs, Bool.true_and, ptest_ab hn hI hA hs]
    | false =>
      rw [h.seen, hs, Bool.false_and]
      cases hm : most n s (b + 1) with
      | false => rfl
      | true =>
        obtain ⟨k, v, h1, _⟩ := most_fixed hI hm
        rw [acc_seen hI h1] at hs; cases hs
  rw [List.filter_congr (fun b _ => e b)]
  refine List.map_congr_left fun b hb => ?_
  have hm := (List.mem_filter.1 hb).2
  obtain ⟨k, v, h1, _⟩ := most_fixed hI hm
  exact h.value _ (acc_seen hI h1)
theorem prun_app (n : Nat) : ∀ (l1 l2 : List VO) (p : PS), prun n p (l1 ++ l2) = ((prun n (prun n p l1).1 l2).1, (prun n p l1).2 ++ (prun n (prun n p l1).1 l2).2)
  | [], l2, p => rfl
  | o :: l1, l2, p => by
    have ih := prun_app n l1 l2 (pstep n p o).1
    rw [List.cons_append, prun, ih]
    rfl
theorem prun_snoc (n : Nat) (l : List VO) (o : VO) (p : PS) : prun n p (l ++ [o]) = ((pstep n (prun n p l).1 o).1, (prun n p l).2 ++ [(pstep n (prun n p l).1 o).2]) := by rw [prun_app]; rfl
end Go.Proofs.Ytpoielmbdofjlaa.Syn
