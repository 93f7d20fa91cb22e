/-
  Package locks: slices.Delete of one element: of operations, of numbers.
-/
import Derived.Test.YtdkgclgccicbeaaLkPc
import Derived.Lib.LazyBuf
import Derived.Lib.SliceRun
import Derived.Shelf.RegionOpenPlain
namespace Go.Proofs.Ytdkgclgccicbeaa.LkP
set_option linter.unusedVariables false
set_option linter.unusedSimpArgs false
open Go.RowKit Mem Gt Lk

/-! ### Cells laid over a row -/
def layV : List Value → Nat → List Value → List Value
  | xs, _, [] => xs
  | xs, o, v :: vs => layV (xs.set o v) (o + 1) vs
theorem layV_eq : ∀ (vs xs : List Value) (o : Nat), o + vs.length ≤ xs.length → layV xs o vs = xs.take o ++ vs ++ xs.drop (o + vs.length)
  | [], xs, o, h => by simp [layV]
  | v :: vs, xs, o, h => by
    have h' : o + (vs.length + 1) ≤ xs.length := h
    show layV (xs.set o v) (o + 1) vs = _
    rw [layV_eq vs _ _ (by rw [List.length_set]; omega)]
    have e1 : (xs.set o v).take (o + 1) = xs.take o ++ [v] := by
      rw [List.take_add_one, List.getElem?_set_self (by omega), List.take_set_of_le (by omega)]; rfl
    have e2 : (xs.set o v).drop (o + 1 + vs.length) = xs.drop (o + (vs.length + 1)) := by
      rw [List.drop_set_of_lt (by omega)]; congr 1; omega
    rw [e1, e2]; simp
theorem layV_past : ∀ (vs xs : List Value) (o : Nat), xs.length ≤ o → layV xs o vs = xs
  | [], xs, o, h => rfl
  | v :: vs, xs, o, h => by
    show layV (xs.set o v) (o + 1) vs = _
    rw [List.set_eq_of_length_le h]
    exact layV_past vs xs (o + 1) (by omega)
theorem row_lay {B g n c sz : Nat} {e : TypeId} : ∀ (vs : List Value) (o : Nat) (W : World) (xs : List Value), W.ownsRow B e sz (.slice (some ⟨g, 0, none⟩) n c) n xs → (W.setCells g o vs).ownsRow B e sz (.slice (some ⟨g, 0, none⟩) n c) n (layV xs o vs)
  | [], o, W, xs, h => h
  | v :: vs, o, W, xs, h => row_lay vs (o + 1) _ _ (World.ownsRow.stored h o v).1
theorem row_front {B g n c sz q : Nat} {e : TypeId} {W : World} {xs : List Value} (h : W.ownsRow B e sz (.slice (some ⟨g, 0, none⟩) n c) n xs) (hq : q ≤ n) : W.ownsRow B e sz (.slice (some ⟨g, 0, none⟩) q c) q (xs.take (q * sz)) := by
  have hx := h.1
  have hm : q * sz ≤ n * sz := Nat.mul_le_mul_right _ hq
  rcases h.2 with ⟨h', _⟩ | ⟨g', cap', cur, h', hb, hg, hnc, hcm, hcs, htake⟩
  · simp at h'
  · simp only [Value.slice.injEq, Option.some.injEq, Addr.mk.injEq, and_true, true_and] at h'
    obtain ⟨rfl, rfl⟩ := h'
    refine ⟨by rw [List.length_take, hx]; omega, .inr ⟨g, c, cur, rfl, hb, hg, by omega, hcm, hcs, ?_⟩⟩
    rw [← htake, List.take_take, Nat.min_eq_left hm]
theorem gr_sets {g : Nat} {a : World} : ∀ (vs : List Value) (o : Nat) (w : World), a.grownBy w (some g) → a.grownBy (w.setCells g o vs) (some g)
  | [], o, w, h => h
  | v :: vs, o, w, h => gr_sets vs (o + 1) _ ⟨h.os, h.tape, h.output, Nat.le_trans h.size (gr_set w g o v).size, fun b hb hr => ((gr_set w g o v).block b (Nat.lt_of_lt_of_le hb h.size) hr).trans (h.block b hb hr)⟩
/-- One element taken out, what lies behind it moved up; the last place cleared. -/
theorem tab_del {α : Type} {sz : Nat} {E : Enc α sz} {W : World} {B g n c i : Nat} {e : TypeId} {l : List α} (h : Tab E W B e (.slice (some ⟨g, 0, none⟩) n c) l) (hn : l.length = n) (hi : i < n) (zs : List Value) :
    Tab E ((W.drew.setCells g (i * sz) (flat E (l.drop (i + 1)))).setCells g ((n - 1) * sz) zs) B e (.slice (some ⟨g, 0, none⟩) (n - 1) c) (l.take i ++ l.drop (i + 1)) := by
  subst hn
  have hl : (l.take i ++ l.drop (i + 1)).length = l.length - 1 := by simp; omega
  have hd : W.drew.ownsRow B e sz (.slice (some ⟨g, 0, none⟩) l.length c) l.length (flat E l) := h
  have h1 := row_front (row_lay (flat E (l.drop (i + 1))) (i * sz) _ _ hd) (Nat.sub_le l.length 1)
  have e1 : (layV (flat E l) (i * sz) (flat E (l.drop (i + 1)))).take ((l.length - 1) * sz) = flat E (l.take i ++ l.drop (i + 1)) := by
    have hlen : (l.length - 1) * sz = (l.take i ++ l.drop (i + 1)).length * sz := by rw [hl]
    rw [layV_eq _ _ _ (by
      rw [flat_len, flat_len, List.length_drop, ← Nat.add_mul]
      exact Nat.mul_le_mul_right _ (by omega))]
    have e2 : (flat E l).take (i * sz) = flat E (l.take i) := by
      have e3 : flat E l = flat E (l.take i) ++ flat E (l.drop i) := by rw [← flat_app, List.take_append_drop]
      have e4 : (flat E (l.take i)).length = i * sz := by rw [flat_len, List.length_take]; congr 1; omega
      rw [e3, ← e4, List.take_left' rfl]
    rw [e2, ← flat_app, hlen, ← flat_len E (l.take i ++ l.drop (i + 1)), List.take_left' rfl]
  rw [e1] at h1
  have h2 := row_lay zs ((l.length - 1) * sz) _ _ h1
  rw [layV_past _ _ _ (by rw [flat_len, hl]; exact Nat.le_refl _)] at h2
  unfold Tab
  rw [hl]
  exact h2

/-! ### Operations -/
theorem zero_lo : ∀ w : World, (zeroValue 36).run Try.prog w = .ok (Value.agg #[.int .i64 0, .int .i64 0, .int .i64 0]) w := fun _ => by kernel_rfl
theorem zeros_lo (n : Nat) : (Builtin.zeroCells (Value.agg #[.int .i64 0, .int .i64 0, .int .i64 0]).cells n).toList = List.replicate (n * 3) (.int .i64 0) := by
  have e : (Value.agg #[.int .i64 0, .int .i64 0, .int .i64 0]).cells = #[.int .i64 0, .int .i64 0, .int .i64 0] := rfl
  rw [e]
  unfold Builtin.zeroCells
  apply List.ext_getElem
  · simp
  · intro i h1 h2
    simp at h1
    have : i % 3 = 0 ∨ i % 3 = 1 ∨ i % 3 = 2 := by omega
    rcases this with h | h | h <;> simp [h]
theorem clear_lo (w : World) (ty : TypeId) (g o n c : Nat) (hn : 0 < n) (hc : ∀ j, j < n * 3 → (w.cell? ⟨g, o + j, none⟩).isSome = true) (hf : ∀ j, w.frozen? ⟨g, j, none⟩ = false) :
    (Builtin.clear_ #[22] ty #[.slice (some ⟨g, o, none⟩) n c]).run Try.prog w = .ok (.tuple #[]) (w.setCells g o (List.replicate (n * 3) (.int .i64 0))) := by
  have hst := run_storeCells_cells (P := Try.prog) g o (List.replicate (n * 3) (.int .i64 0)) 0 w (by simpa using hc) (fun j _ => hf _) (by intro v hv'; rw [List.eq_of_mem_replicate hv']; rfl)
  simp only [Nat.add_zero, Nat.mul_one] at hst
  obtain ⟨m, rfl⟩ : ∃ m, n = m + 1 := ⟨n - 1, by omega⟩
  simp [Builtin.clear_, run_underlying Try.underlying22, zero_lo, zeros_lo, hst]
set_option maxRecDepth 1000000 in
set_option maxHeartbeats 4000000 in
theorem del_lo (B : Nat) (A : Option Addr) (l : List LO) (n c i : Nat) (j : Int) (w : World) (hn : l.length = n) (hbig : n ≤ 8388608) (hz : Tab loE w B 36 (.slice A n c) l) (hi : i < n) (hj : j = (i : Int) + 1) :
    Calls Try.prog 54 #[.slice A n c, .int .i64 i, .int .i64 j] w fun e w' => e = .returned (.slice A (n - 1) c) ∧ Tab loE w' B 36 (.slice A (n - 1) c) (l.take i ++ l.drop (i + 1)) ∧ w.grownBy w' (Value.slice A n c).ownBlock := by
  obtain ⟨g, rfl, -, hgB, hgl⟩ := hz.head (by rw [hn]; omega)
  have hcap : n ≤ c ∧ c ≤ maxLen := by
    obtain ⟨A', c', e, h1, h2⟩ := hz.form
    injection e with e1 e2 e3; omega
  obtain ⟨k, rfl⟩ : ∃ k : Nat, j = (k : Int) := ⟨i + 1, by omega⟩
  have hk : k = i + 1 := by omega
  have fr : ∀ V : World, ∀ m cs, Tab loE V B 36 (.slice (some ⟨g, 0, none⟩) m c) cs → cs.length = m → ∀ a, V.frozen? ⟨g, a, none⟩ = false := fun V m cs h e a => h.free e.symm a
  obtain ⟨i0, hi0, z0, hz0, hz1, hz2, hz3⟩ := elLO.hi
  -- the cells that are moved up
  obtain ⟨news, hnews⟩ : ∃ news, news = flat loE (l.drop (i + 1)) := ⟨_, rfl⟩
  have hlen : news.length = (n - k) * 3 := by rw [hnews, flat_len, List.length_drop, hn, hk]
  have hcellD : ∀ a v, (flat loE l)[a]? = some v → w.cell? ⟨g, a, none⟩ = some v := fun a v hv => by
    obtain ⟨b', o', e, _, h3⟩ := hz.reads a v hv
    injection e with e
    injection e with e1 e2
    subst e1 e2
    rw [Nat.zero_add] at h3
    exact h3
  have hsome : ∀ a, a < n * 3 → ∃ v, (flat loE l)[a]? = some v := fun a ha => ⟨_, List.getElem?_eq_getElem (by rw [flat_len, hn]; exact ha)⟩
  obtain ⟨A, hA, hsrc⟩ : ∃ A : Addr, (if c = k then some (⟨g, 0, none⟩ : Addr) else some ⟨g, k * 3, none⟩) = some A ∧ Hid (∀ t u, news[t]? = some u → w.drew.cell? (A.add t) = some u) := by
    by_cases h : c = k
    · refine ⟨⟨g, 0, none⟩, by simp [h], fun t u hu => ?_⟩
      have h0 : news.length = 0 := by rw [hlen, show n - k = 0 by omega, Nat.zero_mul]
      rw [List.length_eq_zero_iff.1 h0] at hu
      simp at hu
    · refine ⟨⟨g, k * 3, none⟩, by simp [h], fun t u hu => ?_⟩
      rw [Addr.add_lit]
      refine hcellD _ _ ?_
      have e3 : flat loE l = flat loE (l.take (i + 1)) ++ flat loE (l.drop (i + 1)) := by rw [← flat_app, List.take_append_drop]
      have e4 : (flat loE (l.take (i + 1))).length = (i + 1) * 3 := by rw [flat_len, List.length_take]; congr 1; omega
      rw [e3, List.getElem?_append_right (by rw [e4, hk]; omega), e4, ← hnews, hk]
      rw [show (i + 1) * 3 + t - (i + 1) * 3 = t by omega]
      exact hu
  have s1 : Hid (news.length = (n - k) * 3) := hlen
  have s2 : Hid (∀ u ∈ news, u.oneCell' = true) := by rw [hnews]; exact flat_one _ _
  have s3 : Hid (∀ t, t < news.length → (w.drew.cell? ⟨g, 0 + i * 3 + t, none⟩).isSome = true ∧ w.drew.frozen? ⟨g, 0 + i * 3 + t, none⟩ = false) := by
    intro t ht
    rw [hlen] at ht
    obtain ⟨v, hv⟩ := hsome (i * 3 + t) (by omega)
    rw [Nat.zero_add]
    exact ⟨by show (w.cell? _).isSome = true; rw [hcellD _ _ hv]; rfl, fr w n l hz hn _⟩
  obtain ⟨W1, hW1⟩ : ∃ W1, W1 = w.drew.setCells g (0 + i * 3) news := ⟨_, rfl⟩
  have ho1 : W1.ownsRow B 36 3 (.slice (some ⟨g, 0, none⟩) n c) n (layV (flat loE l) (i * 3) news) := by
    rw [hW1, Nat.zero_add]
    refine row_lay news (i * 3) _ _ ?_
    have h2 := hz
    unfold Tab at h2
    rw [hn] at h2
    exact h2
  obtain ⟨q, hq⟩ : ∃ q, q = n - 1 := ⟨_, rfl⟩
  have hll : (layV (flat loE l) (i * 3) news).length = n * 3 := ho1.1
  have hcl : ∀ ty, (Builtin.clear_ #[22] ty #[.slice (some ⟨g, q * 3, none⟩) (n - q) (c - q)]).run Try.prog W1 = .ok (.tuple #[]) (W1.setCells g (q * 3) (List.replicate ((n - q) * 3) (.int .i64 0))) :=
    fun ty => clear_lo W1 ty g (q * 3) (n - q) (c - q) (by omega) (fun t ht => by
      rw [ho1.cellAt (q * 3 + t) (by omega), List.getElem?_eq_getElem (by rw [hll]; omega)]; rfl) (fun t => ho1.frozenAt t)
  have FIN := Lib.hid (tab_del hz hn hi (List.replicate ((n - q) * 3) (.int .i64 0)))
  have GR := Lib.hid (gr_sets (List.replicate ((n - q) * 3) (.int .i64 0)) (q * 3) W1 (show w.grownBy W1 (some g) by rw [hW1]; exact gr_sets news _ _ ((gr_below (Mem.below_drew (Below.refl _ w))).but _)))
  obtain ⟨zs, hzs⟩ : ∃ zs : List Value, zs = List.replicate ((n - q) * 3) (.int .i64 0) := ⟨_, rfl⟩
  rw [← hzs] at hcl FIN GR
  have X := Lib.hid (show W1 = w.drew.setCells g (i * 3) (flat loE (l.drop (i + 1))) by rw [hW1, hnews, Nat.zero_add])
  have hW : Hid (W1 = w.drew.setCells g (0 + i * 3) news) := hW1
  have HQ := Lib.hid hq
  have HK := Lib.hid hk
  have HQ2 := Lib.hid (show i + (n - k) = q by omega)
  have hb := hcap.2
  unfold maxLen at hb
  have a1 : (0 : Int) ≤ (i : Int) := by omega
  have a2 : (i : Int) ≤ (k : Int) := by omega
  have a3 : (k : Int) ≤ (n : Int) := by omega
  have a4 : (n : Int) ≤ (c : Int) := by omega
  have a5 : (i : Int) ≤ (c : Int) := by omega
  have a6 : (k : Int) ≤ (c : Int) := by omega
  have a7 : (0 : Int) ≤ (k : Int) := by omega
  have a8 : ¬ n = i := by omega
  have a9 : ((i : Int) == (k : Int)) = false := by rw [beq_eq_false_iff_ne]; omega
  have b1 : (0 : Int) ≤ (q : Int) := by omega
  have b2 : (q : Int) ≤ (n : Int) := by omega
  have b3 : (q : Int) ≤ (c : Int) := by omega
  have b4 : ¬ c = q := by omega
  have b5 : i ≤ c := by omega
  have b6 : i + (n - k) ≤ c := by omega
  have mx : Try.prog.follows .mixedOrders = true := by kernel_rfl
  clear hz hi hj fr hnews hlen hcellD hsome hW1 ho1 hll hq hk hzs hcap hb hn
  go_enter Try.func54, Try.ntmps54
  go_wp2_with fail
  go_region_law_o (refine step_append_room rfl (.tmp 22) (.tmp 25) 22 rfl 36 i0 3 Try.underlying22 hi0 hz1 g 0 i c (by simp [Act.eval, Act.put]) A (n - k) (c - k) news (by simp [Act.eval, Act.put, *]) s1.out hsrc.out s2.out b6 s3.out ?_; rw [← hW.out, HQ2.out])
  go_wp2
  go_ret
  refine ⟨by rw [HQ.out]; rfl, ?_, GR.out⟩
  have h := FIN.out
  rw [← X.out, ← HQ.out] at h
  try simp only [Nat.mul_one] at h
  rw [← HQ.out]
  exact h

/-! ### Numbers -/
theorem zero_in : ∀ w : World, (zeroValue 3).run Try.prog w = .ok (Value.int .i64 0) w := fun _ => by kernel_rfl
theorem zeros_in (n : Nat) : (Builtin.zeroCells (Value.int .i64 0).cells n).toList = List.replicate (n * 1) (.int .i64 0) := by
  have e : (Value.int .i64 0).cells = #[.int .i64 0] := rfl
  rw [e]
  unfold Builtin.zeroCells
  apply List.ext_getElem
  · simp
  · intro i h1 h2
    simp at h1
    simp [Nat.mod_one]
theorem clear_in (w : World) (ty : TypeId) (g o n c : Nat) (hn : 0 < n) (hc : ∀ j, j < n * 1 → (w.cell? ⟨g, o + j, none⟩).isSome = true) (hf : ∀ j, w.frozen? ⟨g, j, none⟩ = false) :
    (Builtin.clear_ #[32] ty #[.slice (some ⟨g, o, none⟩) n c]).run Try.prog w = .ok (.tuple #[]) (w.setCells g o (List.replicate (n * 1) (.int .i64 0))) := by
  have hst := run_storeCells_cells (P := Try.prog) g o (List.replicate (n * 1) (.int .i64 0)) 0 w (by simpa using hc) (fun j _ => hf _) (by intro v hv'; rw [List.eq_of_mem_replicate hv']; rfl)
  simp only [Nat.add_zero, Nat.mul_one] at hst
  obtain ⟨m, rfl⟩ : ∃ m, n = m + 1 := ⟨n - 1, by omega⟩
  simp [Builtin.clear_, run_underlying Try.underlying32, zero_in, zeros_in, hst]
set_option maxRecDepth 1000000 in
set_option maxHeartbeats 4000000 in
theorem del_in (B : Nat) (A : Option Addr) (l : List Int) (n c i : Nat) (j : Int) (w : World) (hn : l.length = n) (hbig : n ≤ 8388608) (hz : Tab erE w B 3 (.slice A n c) l) (hi : i < n) (hj : j = (i : Int) + 1) :
    Calls Try.prog 52 #[.slice A n c, .int .i64 i, .int .i64 j] w fun e w' => e = .returned (.slice A (n - 1) c) ∧ Tab erE w' B 3 (.slice A (n - 1) c) (l.take i ++ l.drop (i + 1)) ∧ w.grownBy w' (Value.slice A n c).ownBlock := by
  obtain ⟨g, rfl, -, hgB, hgl⟩ := hz.head (by rw [hn]; omega)
  have hcap : n ≤ c ∧ c ≤ maxLen := by
    obtain ⟨A', c', e, h1, h2⟩ := hz.form
    injection e with e1 e2 e3; omega
  obtain ⟨k, rfl⟩ : ∃ k : Nat, j = (k : Int) := ⟨i + 1, by omega⟩
  have hk : k = i + 1 := by omega
  have fr : ∀ V : World, ∀ m cs, Tab erE V B 3 (.slice (some ⟨g, 0, none⟩) m c) cs → cs.length = m → ∀ a, V.frozen? ⟨g, a, none⟩ = false := fun V m cs h e a => h.free e.symm a
  obtain ⟨i0, hi0, z0, hz0, hz1, hz2, hz3⟩ := elI.hi
  -- the cells that are moved up
  obtain ⟨news, hnews⟩ : ∃ news, news = flat erE (l.drop (i + 1)) := ⟨_, rfl⟩
  have hlen : news.length = (n - k) * 1 := by rw [hnews, flat_len, List.length_drop, hn, hk]
  have hcellD : ∀ a v, (flat erE l)[a]? = some v → w.cell? ⟨g, a, none⟩ = some v := fun a v hv => by
    obtain ⟨b', o', e, _, h3⟩ := hz.reads a v hv
    injection e with e
    injection e with e1 e2
    subst e1 e2
    rw [Nat.zero_add] at h3
    exact h3
  have hsome : ∀ a, a < n * 1 → ∃ v, (flat erE l)[a]? = some v := fun a ha => ⟨_, List.getElem?_eq_getElem (by rw [flat_len, hn]; exact ha)⟩
  obtain ⟨A, hA, hsrc⟩ : ∃ A : Addr, (if c = k then some (⟨g, 0, none⟩ : Addr) else some ⟨g, k, none⟩) = some A ∧ Hid (∀ t u, news[t]? = some u → w.drew.cell? (A.add t) = some u) := by
    by_cases h : c = k
    · refine ⟨⟨g, 0, none⟩, by simp [h], fun t u hu => ?_⟩
      have h0 : news.length = 0 := by rw [hlen, show n - k = 0 by omega, Nat.zero_mul]
      rw [List.length_eq_zero_iff.1 h0] at hu
      simp at hu
    · refine ⟨⟨g, k, none⟩, by simp [h], fun t u hu => ?_⟩
      rw [Addr.add_lit]
      refine hcellD _ _ ?_
      have e3 : flat erE l = flat erE (l.take (i + 1)) ++ flat erE (l.drop (i + 1)) := by rw [← flat_app, List.take_append_drop]
      have e4 : (flat erE (l.take (i + 1))).length = (i + 1) * 1 := by rw [flat_len, List.length_take]; congr 1; omega
      rw [e3, List.getElem?_append_right (by rw [e4, hk]; omega), e4, ← hnews, hk]
      rw [show (i + 1) + t - (i + 1) * 1 = t by omega]
      exact hu
  have s1 : Hid (news.length = (n - k) * 1) := hlen
  have s2 : Hid (∀ u ∈ news, u.oneCell' = true) := by rw [hnews]; exact flat_one _ _
  have s3 : Hid (∀ t, t < news.length → (w.drew.cell? ⟨g, 0 + i * 1 + t, none⟩).isSome = true ∧ w.drew.frozen? ⟨g, 0 + i * 1 + t, none⟩ = false) := by
    intro t ht
    rw [hlen] at ht
    obtain ⟨v, hv⟩ := hsome (i * 1 + t) (by omega)
    rw [Nat.zero_add]
    exact ⟨by show (w.cell? _).isSome = true; rw [hcellD _ _ hv]; rfl, fr w n l hz hn _⟩
  obtain ⟨W1, hW1⟩ : ∃ W1, W1 = w.drew.setCells g (0 + i * 1) news := ⟨_, rfl⟩
  have ho1 : W1.ownsRow B 3 1 (.slice (some ⟨g, 0, none⟩) n c) n (layV (flat erE l) (i * 1) news) := by
    rw [hW1, Nat.zero_add]
    refine row_lay news (i * 1) _ _ ?_
    have h2 := hz
    unfold Tab at h2
    rw [hn] at h2
    exact h2
  obtain ⟨q, hq⟩ : ∃ q, q = n - 1 := ⟨_, rfl⟩
  have hll : (layV (flat erE l) (i * 1) news).length = n * 1 := ho1.1
  have hcl : ∀ ty, (Builtin.clear_ #[32] ty #[.slice (some ⟨g, q, none⟩) (n - q) (c - q)]).run Try.prog W1 = .ok (.tuple #[]) (W1.setCells g (q) (List.replicate ((n - q) * 1) (.int .i64 0))) :=
    fun ty => clear_in W1 ty g (q) (n - q) (c - q) (by omega) (fun t ht => by
      rw [ho1.cellAt (q + t) (by omega), List.getElem?_eq_getElem (by rw [hll]; omega)]; rfl) (fun t => ho1.frozenAt t)
  have FIN := Lib.hid (tab_del hz hn hi (List.replicate ((n - q) * 1) (.int .i64 0)))
  have GR := Lib.hid (gr_sets (List.replicate ((n - q) * 1) (.int .i64 0)) (q) W1 (show w.grownBy W1 (some g) by rw [hW1]; exact gr_sets news _ _ ((gr_below (Mem.below_drew (Below.refl _ w))).but _)))
  obtain ⟨zs, hzs⟩ : ∃ zs : List Value, zs = List.replicate ((n - q) * 1) (.int .i64 0) := ⟨_, rfl⟩
  rw [← hzs] at hcl FIN GR
  have X := Lib.hid (show W1 = w.drew.setCells g (i * 1) (flat erE (l.drop (i + 1))) by rw [hW1, hnews, Nat.zero_add])
  have hW : Hid (W1 = w.drew.setCells g (0 + i * 1) news) := hW1
  have HQ := Lib.hid hq
  have HK := Lib.hid hk
  have HQ2 := Lib.hid (show i + (n - k) = q by omega)
  have hb := hcap.2
  unfold maxLen at hb
  have a1 : (0 : Int) ≤ (i : Int) := by omega
  have a2 : (i : Int) ≤ (k : Int) := by omega
  have a3 : (k : Int) ≤ (n : Int) := by omega
  have a4 : (n : Int) ≤ (c : Int) := by omega
  have a5 : (i : Int) ≤ (c : Int) := by omega
  have a6 : (k : Int) ≤ (c : Int) := by omega
  have a7 : (0 : Int) ≤ (k : Int) := by omega
  have a8 : ¬ n = i := by omega
  have a9 : ((i : Int) == (k : Int)) = false := by rw [beq_eq_false_iff_ne]; omega
  have b1 : (0 : Int) ≤ (q : Int) := by omega
  have b2 : (q : Int) ≤ (n : Int) := by omega
  have b3 : (q : Int) ≤ (c : Int) := by omega
  have b4 : ¬ c = q := by omega
  have b5 : i ≤ c := by omega
  have b6 : i + (n - k) ≤ c := by omega
  have mx : Try.prog.follows .mixedOrders = true := by kernel_rfl
  clear hz hi hj fr hnews hlen hcellD hsome hW1 ho1 hll hq hk hzs hcap hb hn
  go_enter Try.func52, Try.ntmps52
  go_wp2_with fail
  go_region_law_o (refine step_append_room rfl (.tmp 22) (.tmp 25) 32 rfl 3 i0 1 Try.underlying32 hi0 hz1 g 0 i c (by simp [Act.eval, Act.put]) A (n - k) (c - k) news (by simp [Act.eval, Act.put, *]) s1.out hsrc.out s2.out b6 s3.out ?_; rw [← hW.out, HQ2.out])
  go_wp2
  go_ret
  refine ⟨by rw [HQ.out]; rfl, ?_, GR.out⟩
  have h := FIN.out
  rw [← X.out, ← HQ.out] at h
  try simp only [Nat.mul_one] at h
  rw [← HQ.out]
  exact h
end Go.Proofs.Ytdkgclgccicbeaa.LkP
