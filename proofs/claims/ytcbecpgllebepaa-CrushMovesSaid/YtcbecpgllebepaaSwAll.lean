/-
  Items put in their place, pure; the two appends that put one in its place; the document's own answer on all items in the order of their straws: HAll.
-/
import Derived.Test.YtcbecpgllebepaaSwApp
import Derived.Test.YtcbecpgllebepaaSwA
import Derived.Test.YtcbecpgllebepaaSwLong
import Derived.Test.YtcbecpgllebepaaSwFuncs
import Derived.Deep.RegionHeld3
import Derived.Deep.DeepCutAuto
import Derived.BigQuiet
namespace Go.Proofs.Ytcbecpgllebepaa.Straw
set_option linter.unusedVariables false
set_option linter.unusedSimpArgs false
open Go.RowKit Mem

/-- All of the first p are longer than w. -/
def Ahead (key : UInt64) (w : It) (s : List It) (p : Nat) : Prop := ∀ a ∈ s.take p, longer key a w = true
theorem ahead_zero (key : UInt64) (w : It) (s : List It) : Ahead key w s 0 := fun a ha => by simp at ha
theorem ahead_next {key : UInt64} {w a : It} {s : List It} {p : Nat} (h : Ahead key w s p) (ha : s[p]? = some a) (hl : longer key a w = true) : Ahead key w s (p + 1) := fun b hb => by
  rw [List.take_add_one, ha] at hb
  rcases List.mem_append.1 hb with hb | hb
  · exact h b hb
  · simp at hb; subst hb; exact hl
theorem ins_sorted {key : UInt64} {w : It} {s : List It} {p : Nat} (hs : Sorted key s) (h1 : Ahead key w s p) (h2 : ∀ a, s[p]? = some a → longer key a w = false) : Sorted key (s.take p ++ w :: s.drop p) := by
  unfold Sorted at *
  have hs' := hs
  rw [← List.take_append_drop p s] at hs'
  obtain ⟨s1, s2, s3⟩ := List.pairwise_append.1 hs'
  refine List.pairwise_append.2 ⟨s1, List.pairwise_cons.2 ⟨fun b hb => ?_, s2⟩, fun a ha b hb => ?_⟩
  · cases hd : s.drop p with
    | nil => rw [hd] at hb; cases hb
    | cons x xs =>
      have hx : s[p]? = some x := by
        have := congrArg (fun l => l[0]?) hd
        simpa using this
      rw [hd] at hb s2
      have hxw := h2 x hx
      rcases List.mem_cons.1 hb with e | e
      · rw [e]; exact hxw
      · exact longer_ntr ((List.pairwise_cons.1 s2).1 b e) hxw
  · rcases List.mem_cons.1 hb with e | e
    · rw [e]; exact longer_asym (h1 a ha)
    · exact s3 a ha b e
theorem ins_srt {key : UInt64} {l : List It} {k p : Nat} {w : It} (ho : Once l) (hw : l[k]? = some w) (hpos : 0 < w.2) (h1 : Ahead key w (srt key (pos (l.take k))) p) (h2 : ∀ a, (srt key (pos (l.take k)))[p]? = some a → longer key a w = false) :
    srt key (pos (l.take (k + 1))) = (srt key (pos (l.take k))).take p ++ w :: (srt key (pos (l.take k))).drop p := by
  have hp : ((srt key (pos (l.take k))).take p ++ w :: (srt key (pos (l.take k))).drop p).Perm (pos (l.take (k + 1))) := by
    rw [pos_yes hw hpos]
    refine List.perm_middle.trans ?_
    rw [List.take_append_drop]
    exact ((srt_perm key _).cons w).trans (List.perm_append_singleton w _).symm
  have hon : Once (l.take (k + 1)) := ho.sublist ((List.take_sublist _ _).map _)
  exact srt_eq ((pos_once hon).perm hp) (ins_sorted (srt_sorted key _) h1 h2) hp
set_option maxRecDepth 100000 in
theorem wtab_one (w : World) (u : It) : WTab (w.alloc (.cells #[.int .i64 u.1, .int .i64 u.2] 47)) w.heap.size (.slice (some ⟨w.heap.size, 0, none⟩) 1 1) [u] :=
  ⟨rfl, .inr ⟨w.heap.size, 1, #[.int .i64 u.1, .int .i64 u.2], rfl, Nat.le_refl _, heap_alloc_new _ _, Nat.le_refl _, by simp [maxLen], rfl, rfl⟩⟩
set_option maxRecDepth 100000 in
theorem step_append_grow_its {ops : Array Oper} {o : Oper} {a : Act} {w : World} {K : Act → World → Prop} {Q : Exit → Act → World → Prop} {E : Prop} (hgd : o.guard = none) (s x : Operand)
    (ho : o.op = .call { callee := .builtin .append, args := #[s, x], argTypes := #[41, 41] }) {n cap m c b o' : Nat} {AO AD : Option Addr} {es ys : List It} (hs : a.eval s = .slice AO n cap) (hx : a.eval x = .slice AD m c) (had : AD = some ⟨b, o', none⟩)
    (hnone : AO = none → n = 0 ∧ cap = 0) (hn : es.length = n) (he : WRds w AO es) (hr : WRds w (some ⟨b, o', none⟩) ys) (hy : ys.length = m) (hfull : cap < n + m) (hl : n + m ≤ 400)
    (h : ∀ A' c' w', Hid (WTab w' w.heap.size (.slice A' (n + m) c') (es ++ ys)) → Hid (w.grownBy w' none) → K (a.put o.dst (.slice A' (n + m) c')) w') :
    if Region.wanted o (yielded ops a.tmps) = true then Oper.wp Try.prog o a w K Q else E := by
  subst hn hy had
  obtain ⟨i, hi, z, hz0, hz1, hz2, hz3⟩ := info_it
  refine step_append_grows hgd s x 41 ho 47 i z 2 16 Try.underlying41 hi hz0 hz1 hz2 hz3 (by decide) AO es.length cap (flat es) hs hnone (flat_len es) (fun ad hA j u hj => ?_) ⟨b, o', none⟩ ys.length c (flat ys) hx (flat_len ys) (fun j u hj => ?_) (flat_one ys) hfull (by unfold maxLen; omega) (by omega) (fun v' w' h1 h2 => ?_)
  · obtain ⟨b', q, e, _, h3⟩ := wrds_reads he j u hj
    rw [hA] at e
    injection e with e
    subst e
    rw [Addr.add_lit]; exact h3
  · obtain ⟨b', q, e, _, h3⟩ := wrds_reads hr j u hj
    injection e with e
    injection e with e1 e2
    subst e1 e2
    rw [Addr.add_lit]; exact h3
  · have hT : WTab w' w.heap.size v' (es ++ ys) := by
      unfold WTab
      rw [List.length_append, flat_app]
      exact h1
    obtain ⟨A', c', hv, _, _⟩ := hT.form
    rw [List.length_append] at hv
    subst hv
    exact h A' c' w' hT h2
end Go.Proofs.Ytcbecpgllebepaa.Straw

namespace Go.Proofs.Ytcbecpgllebepaa.Straw
set_option linter.unusedVariables false
set_option linter.unusedSimpArgs false
open Go.RowKit Mem

theorem wpList_append_z {ops : Array Oper} {rest : List Oper} {o : Oper} {a : Act} {Q : Exit → Act → World → Prop} (hgd : o.guard = none) (s x : Operand)
    (ho : o.op = .call { callee := .builtin .append, args := #[s, x], argTypes := #[57, 57] }) {w : World} {y : Int} {B : Nat} {v : Value} {l : List Int} {n : Nat} (hs : a.eval s = v)
    {sz : Nat} (hx : a.eval x = .slice (some ⟨sz, 0, none⟩) 1 1) (hsz : w.heap.size = sz) (hg : ZTab w B v l) (hn : l.length = n) (hl2 : (n + 1) * 8 ≤ 140737488355328) (hB : B ≤ w.heap.size) {B0 : Nat} {w0 : World} (hb : Below B0 w0 w) (hB0 : B0 ≤ B)
    (h : ∀ A c w', Hid (ZTab w' B (.slice A (n + 1) c) (l ++ [y])) → Hid ((w.alloc (.cells #[.int .i64 y] 3)).grownBy w' v.ownBlock) → Hid (Below B0 w0 w') → wpList Try.prog ops Q rest (a.put o.dst (.slice A (n + 1) c)) w') :
    wpList Try.prog ops Q (o :: rest) a (w.alloc (.cells #[.int .i64 y] 3)) := by
  subst hsz
  subst hn
  refine wpList_append_one elemI hgd s x ho rfl hs hx hg (by simp; unfold maxLen; omega) (by simpa using hl2) hB ?_
  intro v' w' h1 h2
  have hT : ZTab w' B v' (l ++ [y]) := by unfold ZTab; rw [List.map_append]; exact h1
  obtain ⟨A, c, hv, _, _⟩ := hT.form
  rw [List.length_append] at hv
  have hv : v' = .slice A (l.length + 1) c := hv
  subst hv
  exact h A c w' hT h2 ((Grows.alloc hg _).below h2 (hb.alloc (Nat.le_trans hB0 hB) _) hB0 (by simp; omega))

def S8 (key : UInt64) (l : List It) (k : Nat) : List It := srt key (pos (l.take k))
def SAt (key : UInt64) (l : List It) (k m : Nat) (A2 : Option Addr) (c2 : Nat) (wr : World) : Prop :=
  (S8 key l k).length = m ∧ m ≤ c2 ∧ WRds wr A2 (S8 key l k) ∧ (A2 = none ∧ m = 0 ∧ c2 = 0 ∨ ∃ b o, A2 = some ⟨b, o, none⟩)
theorem SAt.below {key : UInt64} {l : List It} {k m c2 : Nat} {A2 : Option Addr} {w w' : World} (h : SAt key l k m A2 c2 w) (hb : Below w.heap.size w w') : SAt key l k m A2 c2 w' := ⟨h.1, h.2.1, h.2.2.1.below hb, h.2.2.2⟩
theorem s8_le (key : UInt64) (l : List It) (k : Nat) : (S8 key l k).length ≤ k := by
  unfold S8
  rw [(srt_perm key _).length_eq]
  exact Nat.le_trans (List.length_filter_le _ _) (by simp; omega)
theorem s8_mem {key : UInt64} {l : List It} {k : Nat} {a : It} (h : a ∈ S8 key l k) : a ∈ l ∧ 0 < a.2 := by
  have h1 := (srt_perm key _).mem_iff.1 h
  obtain ⟨h2, h3⟩ := List.mem_filter.1 h1
  exact ⟨List.mem_of_mem_take h2, by simpa using h3⟩
theorem below_undrew8 {B : Nat} {W V : World} (h : Below B W.drew V) : Below B W V := ⟨h.os, h.tape, h.output, h.size, h.block⟩
theorem mk_func8 (fn : Fn) (first cap : Array Value) (w : World) : (Instr.makeFunc fn first cap).run Try.prog w = .ok (.func fn first cap) w := rfl
theorem boxed8 {W : World} {key : UInt64} {wr : World} (hB : Below (W.heap.size + 1) (W.alloc (.cells #[.int .u64 key.toNat] 22)) wr) : wr.cell? ⟨W.heap.size, 0, none⟩ = some (.int .u64 key.toNat) :=
  (hB.cell (p := ⟨W.heap.size, 0, none⟩) (by simp)).trans ((Known.made W _ #[.int .u64 key.toNat]).cell 0)
theorem wrds_drop {W : World} {b o : Nat} {l : List It} (h : WRds W (some ⟨b, o, none⟩) l) (k : Nat) : WRds W (some ⟨b, o + k * 2, none⟩) (l.drop k) := fun j e hj => by
  rw [List.getElem?_drop] at hj
  obtain ⟨b', o', e', h2, h3, h4⟩ := h _ e hj
  injection e' with e'
  injection e' with e1 e2
  subst e1 e2
  rw [show o + (k + j) * 2 = o + k * 2 + j * 2 by omega] at h3 h4
  exact ⟨b, _, rfl, h2, h3, h4⟩
theorem sat_next {key : UInt64} {l s' : List It} {k N c B : Nat} {A : Option Addr} {w : World} (hs : S8 key l (k + 1) = s') (hZ : WTab w B (.slice A N c) s') (hl : s'.length = N) (h0 : 0 < N) : SAt key l (k + 1) N A c w := by
  subst hs
  obtain ⟨g, hA, _⟩ := hZ.head (by omega)
  obtain ⟨A', c', e, hc, _⟩ := hZ.form
  injection e with e1 e2 e3
  exact ⟨hl, by omega, hZ.rds, .inr ⟨g, 0, hA⟩⟩
set_option maxRecDepth 100000 in
set_option maxHeartbeats 8000000 in
theorem hall_c (key : UInt64) (A : Option Addr) (l : List It) (n ca : Nat) (W : World) (hn : l.length = n) (hv : Valid l) (hx : WRds W A l) :
    Calls Try.prog 29 #[.int .u64 key.toNat, .slice A n ca] W fun e w' => ∃ A' c', e = .returned (.slice A' (ids key l).length c') ∧ (ids key l).length ≤ c' ∧ Reads w' A' ((ids key l).map (Value.int .i64)) ∧ Below W.heap.size W w' := by
  have HX := Lib.hid hx
  have HN := Lib.hid hn
  have HV := Lib.hid hv
  have h16 : n ≤ 16 := by rw [← hn]; exact hv.1
  have mk := fun fn first cap w => mk_func8 fn first cap w
  have B00 := Lib.hid (show Below (W.heap.size + 1) (W.alloc (.cells #[.int .u64 key.toNat] 22)) (W.alloc (.cells #[.int .u64 key.toNat] 22)) from Below.refl _ _)
  have BW0 := Lib.hid (show Below W.heap.size W (W.alloc (.cells #[.int .u64 key.toNat] 22)) from (Below.refl _ _).alloc (Nat.le_refl _) _)
  have SW0 := Lib.hid (show (W.alloc (.cells #[.int .u64 key.toNat] 22)).heap.size = W.heap.size + 1 by simp)
  have K0 := Lib.hid (fun wr hB => boxed8 (W := W) (key := key) (wr := wr) hB)
  clear hx hn hv
  go_enter Try.func29, Try.ntmps29
  go_wp2
  generalize hW0 : W.alloc (.cells #[.int .u64 key.toNat] 22) = W0 at *
  clear hW0
  go_loopw [5, 16] (fun v5 i wr => ∃ (k m c2 : Nat) (A2 : Option Addr), k ≤ n ∧ i = .int .i64 k ∧ v5 = .slice A2 m c2 ∧ SAt key l k m A2 c2 wr ∧ Below (W.heap.size + 1) W0 wr) (fun _ i _ => n - (intOf i).toNat)
  case atStart => exact ⟨0, 0, 0, none, by omega, rfl, rfl, ⟨by simp [S8, srt, pos], by omega, fun k t h => by simp [S8, srt, pos] at h, .inl ⟨rfl, rfl, rfl⟩⟩, B00.out⟩
  case round =>
    obtain ⟨wo, rfl⟩ : ∃ w : World, w = wr := ⟨_, rfl⟩
    obtain ⟨k, m, c2, A2, hk, rfl, rfl, hS, hB⟩ := hrel
    have HS := Lib.hid hS
    have HB := Lib.hid hB
    have hmk : m ≤ k := by rw [← hS.1]; exact s8_le key l k
    have hmc : m ≤ c2 := hS.2.1
    clear hS hB B00
    by_cases hlt : k < n
    · have k1 : k < l.length := by rw [HN.out]; exact hlt
      obtain ⟨b, o, rfl, _, x0, x1⟩ := (HX.out.below (BW0.out.trans (HB.out.mono (Nat.le_succ _)))).it k1
      have EX := Lib.hid (show l[k]? = some l[k] from List.getElem?_eq_getElem k1)
      have WT := Lib.hid (HV.out.2.1 l[k] (List.getElem_mem k1)).2
      generalize hu : l[k] = u at *
      obtain ⟨u0, u1⟩ := u
      have i1 : (k : Int) < (n : Int) := by omega
      obtain ⟨d0, d1⟩ := boxI wo (.int .i64 u0) (.int .i64 u1)
      have BA := Lib.hid (show Below wo.heap.size wo (wo.alloc (.cells #[.int .i64 u0, .int .i64 u1] 47)) from (Below.refl _ _).alloc (Nat.le_refl _) _)
      have SZ := Lib.hid (show (wo.alloc (.cells #[.int .i64 u0, .int .i64 u1] 47)).heap.size = wo.heap.size + 1 by simp)
      clear hu k1
      by_cases hz : u1 = 0
      · have PN := Lib.hid (show S8 key l (k + 1) = S8 key l k by unfold S8; rw [pos_no EX.out (by show ¬ 0 < u1; omega)])
        have n1 : (u1 == 0) = true := by simp [hz]
        have RL := Lib.hid (show SAt key l (k + 1) m A2 c2 (wo.alloc (.cells #[.int .i64 u0, .int .i64 u1] 47)) from by have := HS.out.below BA.out; unfold SAt at *; rwa [PN.out])
        clear hz
        go_wp2
        go_roundw
        case rel => exact ⟨k + 1, m, c2, A2, by omega, by go_num, rfl, RL.out, HB.out.trans (BA.out.mono (by have := HB.out.size; have := SW0.out; omega))⟩
        case measure => simp [intOf]; omega
      · have hpos : 0 < u1 := by have := WT.out.1; omega
        have n1 : (u1 == 0) = false := by simp [hz]
        clear hz
        have E0 := Lib.hid d0
        have E1 := Lib.hid d1
        have HS1 := Lib.hid (HS.out.below BA.out)
        have HB1 := Lib.hid (show Below (W.heap.size + 1) W0 (wo.alloc (.cells #[.int .i64 u0, .int .i64 u1] 47)) from HB.out.trans (BA.out.mono (by have := HB.out.size; have := SW0.out; omega)))
        clear d0 d1
        go_wp2
        generalize hw1 : wo.alloc (.cells #[.int .i64 u0, .int .i64 u1] 47) = w1 at *
        clear hw1
        go_loopw [9] (fun v9 wr => ∃ p : Nat, p ≤ m ∧ v9 = .int .i64 p ∧ Ahead key (u0, u1) (S8 key l k) p ∧ Below w1.heap.size w1 wr) (fun v9 _ => m - (intOf v9).toNat)
        case atStart => exact ⟨0, by omega, rfl, ahead_zero _ _ _, Below.refl _ _⟩
        case round =>
          obtain ⟨wi, rfl⟩ : ∃ w : World, w = wr := ⟨_, rfl⟩
          obtain ⟨p, hp, rfl, hA, hB⟩ := hrel
          have HA := Lib.hid hA
          have HB2 := Lib.hid hB
          have HS2 := Lib.hid (HS1.out.below hB)
          have HB3 := Lib.hid (show Below (W.heap.size + 1) W0 wi from HB1.out.trans (hB.mono (by have := HB1.out.size; have := SW0.out; omega)))
          have e0 := (hB.cell (p := ⟨wo.heap.size, 0, none⟩) (show wo.heap.size < w1.heap.size by rw [SZ.out]; omega)).trans E0.out
          have e1 := (hB.cell (p := ⟨wo.heap.size, 1, none⟩) (show wo.heap.size < w1.heap.size by rw [SZ.out]; omega)).trans E1.out
          have kb := Lib.hid (K0.out wi HB3.out)
          clear hA hB
          obtain ⟨q, hq⟩ : ∃ q : Bool, q = (match (S8 key l k)[p]? with | some a => longer key a (u0, u1) | none => false) := ⟨_, rfl⟩
          have QQ := Lib.hid hq
          clear hq
          go_upto_region 8 with fail
          go_cut [35] (fun v wx => v = .bool q ∧ Below wi.heap.size wi wx)
          case first =>
            by_cases hpm : p < m
            · have k1 : p < (S8 key l k).length := by rw [HS2.out.1]; exact hpm
              obtain ⟨b2, o2, rfl, _, y0, y1⟩ := HS2.out.2.2.1.it k1
              have EQ := Lib.hid (show (S8 key l k)[p]? = some (S8 key l k)[p] from List.getElem?_eq_getElem k1)
              have MM := Lib.hid (s8_mem (List.getElem_mem k1))
              generalize ha : (S8 key l k)[p] = a at *
              obtain ⟨a0, a1⟩ := a
              have CA := Lib.hid (longer_c W.heap.size key (a0, a1) (u0, u1) wi.drew MM.out.2 (HV.out.2.1 _ MM.out.1).2.2 hpos WT.out.2 kb.out)
              have QH := Lib.hid (show q = longer key (a0, a1) (u0, u1) by
                have h := QQ.out
                rw [EQ.out] at h
                exact h)
              have j1 : (p : Int) < (m : Int) := by omega
              have j2 : decide ((p : Int) < (m : Int)) = true := decide_eq_true j1
              clear ha k1
              refine Mem.region_tail 11 (by kernel_rfl) (by kernel_rfl) ?_
              simp only [List.take_succ_cons, List.take_zero, List.drop_succ_cons, List.drop_zero]
              repeat still_step
              refine wpStill_nil ?_
              go_wp2_with (go_at_call 45; refine CA.out.mono ?_; rintro e w2 ⟨rfl, hb⟩; have B2 := Lib.hid (below_undrew8 (show Below wi.heap.size wi.drew w2 from hb)); clear hb)
              go_meet
              exact ⟨by rw [QH.out], B2.out⟩
            · have QH := Lib.hid (show q = false by
                have h := QQ.out
                rw [List.getElem?_eq_none (by rw [HS2.out.1]; omega)] at h
                exact h)
              have j2 : decide ((p : Int) < (m : Int)) = false := decide_eq_false (by omega)
              have j3 : decide (p < m) = false := decide_eq_false hpm
              clear e0 e1
              refine Mem.region_tail 11 (by kernel_rfl) (by kernel_rfl) ?_
              simp only [List.take_succ_cons, List.take_zero, List.drop_succ_cons, List.drop_zero]
              repeat still_step
              refine wpStill_nil ?_
              go_wp2
              go_meet
              exact ⟨by rw [QH.out], below_drew (Below.refl _ _)⟩
          case rest =>
            obtain ⟨rfl, hb⟩ := hcut
            have B3 := Lib.hid hb
            have F0 := Lib.hid ((hb.cell (p := ⟨wo.heap.size, 0, none⟩) (World.block_lt_of_cell? _ _ e0)).trans e0)
            have F1 := Lib.hid ((hb.cell (p := ⟨wo.heap.size, 1, none⟩) (World.block_lt_of_cell? _ _ e1)).trans e1)
            clear hb e0 e1
            cases q with
            | true =>
              have AN := Lib.hid (show p < m ∧ Ahead key (u0, u1) (S8 key l k) (p + 1) from by
                have QE := QQ.out
                cases hs : (S8 key l k)[p]? with
                | none => rw [hs] at QE; cases QE
                | some a =>
                  rw [hs] at QE
                  have hl := (List.getElem?_eq_some_iff.1 hs).1
                  rw [HS2.out.1] at hl
                  exact ⟨hl, ahead_next HA.out hs QE.symm⟩)
              have hp2 := AN.out.1
              go_wp2
              go_roundw
              case rel => exact ⟨p + 1, by omega, by go_num, AN.out.2, HB2.out.trans (B3.out.mono HB2.out.size)⟩
              case measure => simp [intOf]; omega
            | false =>
              have HS3 := Lib.hid (HS2.out.below B3.out)
              have B4 := Lib.hid (show Below (W.heap.size + 1) W0 wc from HB3.out.trans (B3.out.mono (by have := HB3.out.size; have := SW0.out; omega)))
              have NW := Lib.hid (show S8 key l (k + 1) = (S8 key l k).take p ++ ([(u0, u1)] ++ (S8 key l k).drop p) from ins_srt HV.out.2.2 EX.out hpos HA.out (fun a ha => by
                have h := QQ.out
                unfold S8 at h
                rw [ha] at h
                exact h.symm))
              have f0 := F0.out
              have f1 := F1.out
              have SK := Lib.hid (show ∀ w, Below wc.heap.size wc w → w.cell? ⟨wo.heap.size, 0, none⟩ = some (.int .i64 u0) ∧ w.cell? ⟨wo.heap.size, 1, none⟩ = some (.int .i64 u1) from fun w hb => ⟨(hb.cell (p := ⟨wo.heap.size, 0, none⟩) (World.block_lt_of_cell? _ _ f0)).trans f0, (hb.cell (p := ⟨wo.heap.size, 1, none⟩) (World.block_lt_of_cell? _ _ f1)).trans f1⟩)
              have g1 : (0 : Int) ≤ (p : Int) := by omega
              have g2 : (p : Int) ≤ (p : Int) := by omega
              have g3 : (p : Int) ≤ (m : Int) := by omega
              have g4 : (p : Int) ≤ (c2 : Int) := by omega
              have g5 : (m : Int) ≤ (c2 : Int) := by omega
              have LT := Lib.hid (show ((S8 key l k).take p).length = p by rw [List.length_take, HS3.out.1]; omega)
              have LD := Lib.hid (show ((S8 key l k).drop p).length = m - p by rw [List.length_drop, HS3.out.1])
              have LY := Lib.hid (show ([(u0, u1)] ++ (S8 key l k).drop p).length = 1 + (m - p) by rw [List.length_append, List.length_drop, HS3.out.1]; rfl)
              rcases HS3.out.2.2.2 with ⟨rfl, hm0, hc0⟩ | ⟨b2, o2, rfl⟩
              · obtain rfl : m = 0 := hm0
                obtain rfl : c2 = 0 := hc0
                obtain rfl : p = 0 := by omega
                go_wp2
                go_region_held3 (fun w' => w'.cell? ⟨wo.heap.size, 0, none⟩ = some (.int .i64 u0) ∧ w'.cell? ⟨wo.heap.size, 1, none⟩ = some (.int .i64 u1)) (first | go_keep | exact SK.out _ K5.out)
                  (first
                    | (refine step_append_nil (by rfl) _ _ (by rfl) rfl (by omega) rfl ?_)
                    | (refine step_append_grow_its (by rfl) _ _ (by rfl) (es := []) (ys := [(u0, u1)]) rfl rfl rfl (fun _ => ⟨rfl, rfl⟩) rfl WRds.nil (wtab_one wc (u0, u1)).rds rfl (by simp) (by simp) ?_; intro A5 c5 w5 Z5 G5; have K5 := Lib.hid (show Below wc.heap.size wc w5 from (below_drew ((Below.refl wc.heap.size wc).alloc (Nat.le_refl _) _)).grown G5.out (by simp) (fun k hk => by cases hk))))
                go_wp2
                have E5 := Lib.hid (show S8 key l (k + 1) = [] ++ [(u0, u1)] by
                  rw [NW.out, List.eq_nil_of_length_eq_zero HS3.out.1]; rfl)
                go_roundw
                case rel => exact ⟨k + 1, 1, c5, A5, by omega, by go_num, rfl, sat_next E5.out Z5.out rfl (by omega), B4.out.trans (K5.out.mono (by have := B4.out.size; have := SW0.out; omega))⟩
                case measure => simp [intOf]; omega
              · have TWO : Hid ((∃ o', ((c2 = p) = True ∧ o2 = o' ∨ (c2 = p) = False ∧ o2 + p * 2 = o') ∧ ∀ V, WRds V (some ⟨b2, o2, none⟩) (S8 key l k) → WRds V (some ⟨b2, o', none⟩) ((S8 key l k).drop p))) := Lib.hid (by
                  by_cases hcap : c2 = p
                  · exact ⟨o2, .inl ⟨eq_true hcap, rfl⟩, fun V _ => by rw [List.eq_nil_of_length_eq_zero (show ((S8 key l k).drop p).length = 0 by rw [LD.out]; omega)]; exact WRds.nil⟩
                  · exact ⟨_, .inr ⟨eq_false hcap, rfl⟩, fun V h => wrds_drop h _⟩)
                obtain ⟨o', ho, hR⟩ := TWO.out
                have HR := Lib.hid hR
                have HS4 := Lib.hid HS3.out.2.2.1
                clear TWO hR
                rcases ho with ⟨hcd, rfl⟩ | ⟨hcd, rfl⟩
                all_goals
                  go_wp2
                  go_region_held3 (fun w' => w'.cell? ⟨wo.heap.size, 0, none⟩ = some (.int .i64 u0) ∧ w'.cell? ⟨wo.heap.size, 1, none⟩ = some (.int .i64 u1)) (first | go_keep | exact SK.out _ K5.out | exact SK.out _ K4.out)
                    (first
                      | (refine step_append_its (n := 1) (v := .slice (some ⟨wc.heap.size, 0, none⟩) 1 1) (by rfl) _ _ (by rfl) rfl rfl rfl (wtab_one wc (u0, u1)) rfl (HR.out _ (HS4.out.below (below_drew ((Below.refl wc.heap.size wc).alloc (Nat.le_refl _) (.cells #[.int .i64 u0, .int .i64 u1] 47))))) LD.out (by omega) (by simp) ?_; intro A4 c4 w4 Z4 G4; obtain ⟨g4, rfl, -⟩ := Z4.out.head (by simp); have K4 := Lib.hid (show Below wc.heap.size wc w4 from (below_drew ((Below.refl wc.heap.size wc).alloc (Nat.le_refl _) (.cells #[.int .i64 u0, .int .i64 u1] 47))).grown G4.out (by simp) (fun k hk => by simp [Value.ownBlock] at hk; omega)))
                      | (refine step_append_grow_its (by rfl) _ _ (by rfl) (es := (S8 key l k).take p) (ys := [(u0, u1)] ++ (S8 key l k).drop p) rfl rfl rfl (fun h => by cases h) LT.out ((HS4.out.take p).below K4.out) Z4.out.rds LY.out (by omega) (by omega) ?_; intro A5 c5 w5 Z5 G5; have K5 := Lib.hid (show Below wc.heap.size wc w5 from K4.out.grown G5.out K4.out.size (fun k hk => by cases hk))))
                  go_wp2
                  go_roundw
                  case rel => exact ⟨k + 1, p + (1 + (m - p)), c5, A5, by omega, by go_num, rfl, sat_next NW.out Z5.out (by rw [List.length_append, LT.out, LY.out]) (by omega), B4.out.trans (K5.out.mono (by have := B4.out.size; have := SW0.out; omega))⟩
                  case measure => simp [intOf]; omega
    · obtain rfl : k = n := by omega
      have ID := Lib.hid (show ids key l = (S8 key l k).map (·.1) by unfold S8 ids order; rw [List.take_of_length_le (by rw [HN.out]; omega)])
      have IL := Lib.hid (show (ids key l).length = m by rw [ID.out, List.length_map, HS.out.1])
      have m16 : m ≤ 16 := by omega
      have BE := Lib.hid (BW0.out.trans (HB.out.mono (Nat.le_succ _)))
      have SL := Lib.hid HS.out.1
      have SR := Lib.hid HS.out.2.2.1
      obtain ⟨L, hLd⟩ : ∃ L, ids key l = L := ⟨_, rfl⟩
      obtain ⟨s, hsd⟩ : ∃ s, S8 key l k = s := ⟨_, rfl⟩
      rw [hLd] at IL ID
      rw [hsd] at ID SL SR
      have HLD := Lib.hid hLd
      clear hlt mk hLd hsd HS
      go_wp2
      go_loopw [10, 52] (fun v10 i wr => ∃ (j : Nat) (A6 : Option Addr) (c6 : Nat), j ≤ m ∧ i = .int .i64 j ∧ v10 = .slice A6 j c6 ∧ ZTab wr wo.heap.size (.slice A6 j c6) (L.take j) ∧ Below wo.heap.size wo wr) (fun _ i _ => m - (intOf i).toNat)
      case atStart => exact ⟨0, none, 0, by omega, rfl, rfl, ZTab.nil _ _, Below.refl _ _⟩
      case round =>
        obtain ⟨j, A6, c6, hj, rfl, rfl, hZ, hB⟩ := hrel
        have HZ := Lib.hid hZ
        have HB6 := Lib.hid hB
        have HSB := Lib.hid (SR.out.below hB)
        clear hZ hB
        by_cases hjm : j < m
        · have k1 : j < s.length := by rw [SL.out]; exact hjm
          obtain ⟨b2, o2, rfl, _, y0, y1⟩ := HSB.out.it k1
          have EL := Lib.hid (show L.take (j + 1) = L.take j ++ [(s[j]).1] by
            rw [List.take_add_one, ID.out, List.getElem?_map, List.getElem?_eq_getElem k1]; rfl)
          generalize ha : s[j] = a at *
          obtain ⟨a0, a1⟩ := a
          have i1 : (j : Int) < (m : Int) := by omega
          obtain ⟨d0, d1⟩ := boxI wr (.int .i64 a0) (.int .i64 a1)
          have HZA := Lib.hid (show ZTab (wr.alloc (.cells #[.int .i64 a0, .int .i64 a1] 47)) wo.heap.size (.slice A6 j c6) (L.take j) from Grows.alloc HZ.out _)
          have HBA := Lib.hid (show Below wo.heap.size wo (wr.alloc (.cells #[.int .i64 a0, .int .i64 a1] 47)) from HB6.out.alloc HB6.out.size _)
          have LJ := Lib.hid (show (L.take j).length = j by rw [List.length_take, IL.out]; omega)
          clear ha k1
          go_wp2_with (refine wpList_append_z rfl _ _ (by rfl) rfl rfl (by simp) HZA.out LJ.out (by omega) (by simp; exact Nat.le_succ_of_le HB6.out.size) HBA.out (Nat.le_refl _) ?_; intro A7 c7 w7 Z7 G7 B7)
          go_roundw
          case rel => exact ⟨j + 1, A7, c7, by omega, by go_num, rfl, by rw [EL.out]; exact Z7.out, B7.out⟩
          case measure => simp [intOf]; omega
        · obtain rfl : j = m := by omega
          go_wp2
          go_ret
          have hZ := HZ.out
          rw [List.take_of_length_le (by rw [IL.out]; omega)] at hZ
          obtain ⟨A8, c8, e8, hc8, _⟩ := hZ.form
          injection e8 with e1 e2 e3
          rw [IL.out] at hc8
          exact ⟨A6, c6, by rw [HLD.out, IL.out]; rfl, by rw [HLD.out, IL.out]; omega, by rw [HLD.out]; exact hZ.reads, BE.out.trans (HB6.out.mono BE.out.size)⟩
end Go.Proofs.Ytcbecpgllebepaa.Straw
