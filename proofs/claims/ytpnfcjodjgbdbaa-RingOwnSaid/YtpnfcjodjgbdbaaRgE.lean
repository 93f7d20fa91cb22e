/-
  Contracts of package ring: Some, Without; slices.Contains of numbers.
-/
import Derived.Test.YtpnfcjodjgbdbaaRgD
namespace Go.Proofs.Ytpnfcjodjgbdbaa.Ring
set_option linter.unusedVariables false
set_option linter.unusedSimpArgs false
open Go.RowKit Mem

theorem infoI : (Try.prog.info? 3).map (fun i => (i.zero, i.size, i.bytes)) = some (some (.int .i64 0), 1, 8) := by kernel_rfl
theorem elemI : Elem 22 3 8 := by
  obtain ⟨i, hi, hz0, hz1, hz2⟩ := info_parts infoI
  exact ⟨Try.underlying22, i, _, hi, hz0, hz1, hz2, rfl⟩
/-- v is a slice of the call's own (block B or later) of the numbers l. -/
def ZTab (W : World) (B : Nat) (v : Value) (l : List Int) : Prop := Grows W B 3 v (l.map (Value.int .i64))
section
variable {W V : World} {B : Nat} {v : Value} {l : List Int}
theorem ZTab.nil (W : World) (B : Nat) : ZTab W B (.slice none 0 0) [] := Grows.nil W B _
theorem ZTab.form (h : ZTab W B v l) : ∃ A cap, v = .slice A l.length cap ∧ l.length ≤ cap ∧ cap ≤ maxLen := by
  have := Grows.form h; simpa using this
theorem ZTab.later (h : ZTab W B v l) (hb : Below W.heap.size W V) : ZTab V B v l := Grows.later h hb
theorem ZTab.drew (h : ZTab W B v l) : ZTab W.drew B v l := h
theorem ZTab.lt (h : ZTab W B v l) : ∀ k, v.ownBlock = some k → B ≤ k ∧ k < W.heap.size := Grows.lt h
theorem ZTab.kept {row : Option Nat} (h : ZTab W B v l) (hg : W.grownBy V row) (hne : v.ownBlock = none ∨ v.ownBlock ≠ row) : ZTab V B v l := Grows.kept h hg hne
theorem ZTab.reads {A : Option Addr} {n cap : Nat} (h : ZTab W B (.slice A n cap) l) : Reads W A (l.map (Value.int .i64)) := Grows.reads h
end
/-- 'append(v, x)'. -/
theorem wpList_append_z {ops : Array Oper} {rest : List Oper} {o : Oper} {a : Act} {Q : Exit → Act → World → Prop} (hgd : o.guard = none) (s x : Operand)
    (ho : o.op = .call { callee := .builtin .append, args := #[s, x], argTypes := #[22, 22] }) {w : World} {y : Int} {B : Nat} {v : Value} {l : List Int} {n : Nat} (hs : a.eval s = v)
    {sz : Nat} (hx : a.eval x = .slice (some ⟨sz, 0, none⟩) 1 1) (hsz : w.heap.size = sz) (hg : ZTab w B v l) (hn : l.length = n) (hl2 : (n + 1) * 8 ≤ 140737488355328) (hB : B ≤ w.heap.size) {B0 : Nat} {w0 : World} (hb : Below B0 w0 w) (hB0 : B0 ≤ B)
    (h : ∀ A c w', Hid (ZTab w' B (.slice A (n + 1) c) (l ++ [y])) → Hid ((w.alloc (.cells #[.int .i64 y] 3)).grownBy w' v.ownBlock) → Hid (Below B0 w0 w') → wpList Try.prog ops Q rest (a.put o.dst (.slice A (n + 1) c)) w') :
    wpList Try.prog ops Q (o :: rest) a (w.alloc (.cells #[.int .i64 y] 3)) := by
  subst hsz
  subst hn
  refine wpList_append_one elemI hgd s x ho rfl hs hx hg (by simp; unfold maxLen; omega) (by simpa using hl2) hB ?_
  intro v' w' h1 h2
  have hT : ZTab w' B v' (l ++ [y]) := by unfold ZTab; rw [List.map_append]; exact h1
  obtain ⟨A, c, hv, _, _⟩ := hT.form
  rw [List.length_append] at hv
  have hv : v' = .slice A (l.length + 1) c := hv
  subst hv
  exact h A c w' hT h2 ((Grows.alloc hg _).below h2 (hb.alloc (Nat.le_trans hB0 hB) _) hB0 (by simp; omega))

/-- The cells of numbers, as the shelf's contracts take them. -/
theorem reads_cells {W : World} {A : Option Addr} {l : List Int} (h : Reads W A (l.map (Value.int .i64))) (h0 : 0 < l.length) : ∃ b o, A = some ⟨b, o, none⟩ ∧ b < W.heap.size ∧ ∀ j, j < l.length → W.cell? ⟨b, o + j, none⟩ = some (.int .i64 (l.getD j 0)) := by
  have key : ∀ j (hj : j < l.length), ∃ b o, A = some ⟨b, o, none⟩ ∧ b < W.heap.size ∧ W.cell? ⟨b, o + j, none⟩ = some (.int .i64 (l.getD j 0)) := fun j hj => by
    obtain ⟨b, o, h1, h2, h3⟩ := h j (.int .i64 l[j]) (by rw [List.getElem?_map, List.getElem?_eq_getElem hj]; rfl)
    exact ⟨b, o, h1, h2, by rw [h3, List.getD_eq_getElem?_getD, List.getElem?_eq_getElem hj]; rfl⟩
  obtain ⟨b, o, h1, h2, _⟩ := key 0 h0
  refine ⟨b, o, h1, h2, fun j hj => ?_⟩
  obtain ⟨b', o', e, _, h3⟩ := key j hj
  rw [h1] at e
  injection e with e
  injection e with e1 e2
  subst e1 e2
  exact h3
theorem contains_c (A : Option Addr) (l : List Int) (n ca : Nat) (x : Int) (W : World) (hn : l.length = n) (hbig : n ≤ 9223372036854775807) (hx : Reads W A (l.map (Value.int .i64))) (c : Bool) (hc : decide (x ∈ l) = c) :
    Calls Try.prog 35 #[.slice A n ca, .int .i64 x] W fun e w' => e = .returned (.bool c) ∧ W = w' := by
  subst hn hc
  rcases Nat.eq_zero_or_pos l.length with h0 | h0
  · rw [h0]
    have e := List.eq_nil_of_length_eq_zero h0
    subst e
    refine (Try.slices_Contains_int_empty A ca x W).mono ?_
    rintro e w ⟨rfl, rfl⟩
    exact ⟨rfl, rfl⟩
  · obtain ⟨b, o, rfl, _, hc⟩ := reads_cells hx h0
    refine (Try.slices_Contains_int b o l.length ca l x W (Nat.le_refl _) hbig hc).mono ?_
    rintro e w ⟨rfl, rfl⟩
    refine ⟨?_, rfl⟩
    rw [List.take_length]
    congr 2
    rw [Bool.eq_iff_iff]; simp

/-! ### Some -/
theorem some_bad (A : Option Addr) (ts : List Tk) (n ca : Nat) (key : UInt64) (many : Int) (W : World) (hn : ts.length = n) (hbig : n ≤ maxLen) (hx : TRds W A ts) (h : ¬ Right ts) :
    Calls Try.prog 16 #[.slice A n ca, .int .u64 key.toNat, .int .i64 many] W (Gave (.tuple #[.slice none 0 0, .int .i64 1]) W) := by
  have H := Lib.hid (right_no A ts n ca W hn hbig hx h)
  clear hn hx h
  go_enter Try.func16, Try.ntmps16
  go_wp2_with (go_at_call 13; refine H.out.mono ?_; rintro e w' ⟨rfl, hb⟩; have HB := Lib.hid hb; clear hb)
  go_ret2
  exact ⟨rfl, HB.out⟩
theorem some_range (A : Option Addr) (ts : List Tk) (n ca : Nat) (key : UInt64) (many : Int) (W : World) (hn : ts.length = n) (hx : TRds W A ts) (h : Right ts) (hm : many < 0 ∨ 16 < many) :
    Calls Try.prog 16 #[.slice A n ca, .int .u64 key.toNat, .int .i64 many] W (Gave (.tuple #[.slice none 0 0, .int .i64 2]) W) := by
  have H := Lib.hid (right_yes A ts n ca W hn hx h)
  clear hn hx h
  by_cases h0 : many < 0
  · clear hm
    go_enter Try.func16, Try.ntmps16
    go_wp2_with (go_at_call 13; refine H.out.mono ?_; rintro e w' ⟨rfl, hb⟩; have HB := Lib.hid hb; clear hb)
    go_ret2
    exact ⟨rfl, HB.out⟩
  · have h1 : 16 < many := by omega
    clear hm
    go_enter Try.func16, Try.ntmps16
    go_wp2_with (go_at_call 13; refine H.out.mono ?_; rintro e w' ⟨rfl, hb⟩; have HB := Lib.hid hb; clear hb)
    go_ret2
    exact ⟨rfl, HB.out⟩
/-- What Some returns: so many of the nodes that a key meets, or that there are not so many. -/
def SomeIs (met : List Int) (many : Nat) (W : World) (e : Ending) (W' : World) : Prop :=
  (many ≤ met.length ∧ ∃ A c, e = .returned (.tuple #[.slice A many c, .int .i64 0]) ∧ ZTab W' W.heap.size (.slice A many c) (met.take many) ∧ Below W.heap.size W W') ∨
  (met.length < many ∧ e = .returned (.tuple #[.slice none 0 0, .int .i64 8]) ∧ Below W.heap.size W W')
/-- What stands in the loop of Some. -/
def SomeAt (W : World) (T : List Int) (k m : Nat) (A : Option Addr) (c : Nat) (wr : World) : Prop :=
  ∃ nodes, nodes.length = m ∧ nodes = nub (T.take k) ∧ ZTab wr W.heap.size (.slice A m c) nodes ∧ Below W.heap.size W wr
theorem some_end {T : List Int} {k m many : Nat} {nodes : List Int} (hm : nodes.length = m) (hN : nodes = nub (T.take k)) (h : m = many ∨ T.length ≤ k) (hle : m ≤ many) :
    (m = many ∧ many ≤ (nub T).length ∧ nodes = (nub T).take many) ∨ (m < many ∧ (nub T).length < many) := by
  have h1 := nub_take T k
  rw [← hN, hm] at h1
  rcases h with h | h
  · subst h
    refine .inl ⟨rfl, ?_, h1⟩
    have := congrArg List.length h1
    rw [hm, List.length_take] at this; omega
  · rw [List.take_of_length_le h] at hN
    by_cases e : m = many
    · subst e
      exact .inl ⟨rfl, by rw [← hN, hm]; omega, h1⟩
    · exact .inr ⟨by omega, by rw [← hN, hm]; omega⟩
set_option maxRecDepth 100000 in
set_option maxHeartbeats 4000000 in
theorem some_ok (A : Option Addr) (ts : List Tk) (n ca : Nat) (key : UInt64) (many : Nat) (W : World) (hn : ts.length = n) (hx : TRds W A ts) (h : Right ts) (hm : many ≤ 16) :
    Calls Try.prog 16 #[.slice A n ca, .int .u64 key.toNat, .int .i64 many] W (SomeIs (met key ts) many W) := by
  have H := Lib.hid (right_yes A ts n ca W hn hx h)
  have h4 : n ≤ 400 := by rw [← hn]; exact h.1
  have HX := Lib.hid hx
  have HS : Hid (∀ V, Below W.heap.size W V → Calls Try.prog 34 #[.slice A n ca, .int .u64 key.toNat] V (Gave (.int .i64 (first (Mix.one key) ts)) V)) := fun V hb => start_c _ ts n ca key V (hx.below hb) hn h4 h.2
  have hfl : 0 < n → first (Mix.one key) ts < n := fun h0 => by rw [← hn]; exact first_lt (by omega)
  have HT : Hid (∀ k, k < n → ∃ t, ts[(first (Mix.one key) ts + k) % n]? = some t ∧ (turn (Mix.one key) ts)[k]? = some t.2) := fun k hk => by
    have := turn_at (Mix.one key) h.2 (k := k) (by omega); rwa [hn] at this
  have TL := Lib.hid (turn_len (Mix.one key) h.2)
  have HM := Lib.hid (show met key ts = nub (turn (Mix.one key) ts) from rfl)
  generalize hT : turn (Mix.one key) ts = T at *
  generalize hf : first (Mix.one key) ts = f at *
  have hfn : f < n ∨ n = 0 := by
    rcases Nat.eq_zero_or_pos n with e | e
    · exact .inr e
    · exact .inl (hfl e)
  have HN := Lib.hid hn
  clear hn hx h hT hf hfl
  have i1 : ¬ (many : Int) < 0 := by omega
  have i2 : ¬ (16 : Int) < (many : Int) := by omega
  have i3 : decide ((many : Int) < 0) = false := by rw [decide_eq_false_iff_not]; omega
  have i4 : decide ((16 : Int) < (many : Int)) = false := by rw [decide_eq_false_iff_not]; omega
  go_enter Try.func16, Try.ntmps16
  go_wp2_with (first | (go_at_call 13; refine H.out.mono ?_; rintro e w1 ⟨rfl, hb⟩; have HB := Lib.hid hb; clear hb) | (go_at_call 34; refine (HS.out _ HB.out).mono ?_; rintro e w2 ⟨rfl, hb⟩; have HC := Lib.hid (HB.out.trans (hb.mono HB.out.size)); clear hb))
  clear i1 i2 i3 i4 H HS HB
  go_loopw [9, 10] (fun s9 i wr => ∃ (k m : Nat) (A2 : Option Addr) (c2 : Nat), k ≤ n ∧ m ≤ many ∧ i = .int .i64 k ∧ s9 = .slice A2 m c2 ∧ SomeAt W T k m A2 c2 wr) (fun _ i _ => n - (intOf i).toNat)
  case atStart => exact ⟨0, 0, none, 0, by omega, by omega, rfl, rfl, [], rfl, rfl, ZTab.nil _ _, HC.out⟩
  case round =>
    obtain ⟨k, m, A2, c2, hk, hmm, rfl, rfl, nodes, hnl, hnn, hz, hB⟩ := hrel
    have HE := Lib.hid (fun h => some_end (many := many) hnl hnn h hmm)
    have hnm : m ≤ k := by rw [← hnl, hnn]; exact Nat.le_trans (nub_len _) (List.length_take_le _ _)
    by_cases hlt : k < n
    · by_cases hlm : m < many
      · obtain ⟨t, t1, t2⟩ := HT.out k hlt
        have hr : (f + k) % n < n := Nat.mod_lt _ (by omega)
        obtain ⟨b, o, rfl, _, _, x1⟩ := (HX.out.below hB) _ _ t1
        have NN := Lib.hid hnn
        have NL := Lib.hid hnl
        have HZ := Lib.hid hz
        have HB := Lib.hid hB
        have TT := Lib.hid (show nub (T.take (k + 1)) = add nodes t.2 by rw [hnn, List.take_add_one, t2]; exact nub_snoc _ _)
        have md : ((f : Int) + (k : Int)).tmod (n : Int) = (((f + k) % n : Nat) : Int) := by
          rw [Int.tmod_eq_emod_of_nonneg (by omega), Int.natCast_emod]; rfl
        have md2 : ((f : Int) + (k : Int)) % (n : Int) = (((f + k) % n : Nat) : Int) := by
          rw [Int.natCast_emod]; rfl
        generalize hq : (f + k) % n = q at *
        obtain ⟨t0, id⟩ := t
        have n0 : ((n : Int) == 0) = false := by simp; omega
        have n1 : ¬ n = 0 := by omega
        have j1 : (q : Int) < (n : Int) := by omega
        clear hq t1 t2 hnn hnl hz hB hr
        by_cases hin : id ∈ nodes
        · have HC2 := Lib.hid (fun V (hz : ZTab V W.heap.size (.slice A2 m c2) nodes) => contains_c A2 nodes m c2 id V NL.out (by omega) hz.reads true (decide_eq_true hin))
          have AD := Lib.hid (show add nodes id = nodes from if_pos hin)
          clear hin
          go_wp2_with (go_at_call 35; refine (HC2.out _ HZ.out).mono ?_; rintro e w' ⟨rfl, rfl⟩)
          go_roundw
          case rel => exact ⟨k + 1, m, A2, c2, by omega, hmm, by go_num, rfl, nodes, NL.out, by rw [TT.out, AD.out], HZ.out, HB.out⟩
          case measure => simp [intOf]; omega
        · have HC2 := Lib.hid (fun V (hz : ZTab V W.heap.size (.slice A2 m c2) nodes) => contains_c A2 nodes m c2 id V NL.out (by omega) hz.reads false (decide_eq_false hin))
          have AD := Lib.hid (show add nodes id = nodes ++ [id] from if_neg hin)
          clear hin
          go_wp2_with (first | (go_at_call 35; refine (HC2.out _ HZ.out).mono ?_; rintro e w' ⟨rfl, rfl⟩) | (refine wpList_append_z rfl _ _ (by rfl) (l := nodes) (n := m) rfl rfl rfl HZ.out NL.out (by omega) HB.out.size HB.out (Nat.le_refl _) ?_; intro A3 c3 w3 Z3 G3 B3))
          go_roundw
          case rel => exact ⟨k + 1, m + 1, A3, c3, by omega, by omega, by go_num, rfl, nodes ++ [id], by simp [NL.out], by rw [TT.out, AD.out], Z3.out, B3.out⟩
          case measure => simp [intOf]; omega
      · obtain rfl : m = many := by omega
        have HR := Lib.hid (HE.out (.inl rfl))
        have HZ := Lib.hid hz
        have HB := Lib.hid hB
        clear hnl hnn hz hB HE
        go_wp2
        go_ret2
        refine .inl ?_
        rcases HR.out with ⟨_, r2, r3⟩ | ⟨r1, _⟩
        · rw [HM.out]
          exact ⟨r2, A2, c2, rfl, by rw [← r3]; exact HZ.out, HB.out⟩
        · omega
    · have HR := Lib.hid (HE.out (.inr (by rw [TL.out, HN.out]; omega)))
      have HZ := Lib.hid hz
      have HB := Lib.hid hB
      clear hnl hnn hz hB HE
      by_cases hlm : m < many
      · go_wp2
        go_ret2
        refine .inr ?_
        rcases HR.out with ⟨r1, _⟩ | ⟨_, r2⟩
        · omega
        · rw [HM.out]
          exact ⟨r2, rfl, HB.out⟩
      · obtain rfl : m = many := by omega
        go_wp2
        go_ret2
        refine .inl ?_
        rcases HR.out with ⟨_, r2, r3⟩ | ⟨r1, _⟩
        · rw [HM.out]
          exact ⟨r2, A2, c2, rfl, by rw [← r3]; exact HZ.out, HB.out⟩
        · omega
end Go.Proofs.Ytpnfcjodjgbdbaa.Ring
