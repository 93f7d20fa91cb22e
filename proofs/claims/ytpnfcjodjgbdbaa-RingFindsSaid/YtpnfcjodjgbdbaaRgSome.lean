/-
  The document's own answer on the nodes that a key meets: GSome.
-/
import Derived.Test.YtpnfcjodjgbdbaaRgApp
import Derived.Test.YtpnfcjodjgbdbaaRgF
import Derived.Test.YtpnfcjodjgbdbaaBigOne
namespace Go.Proofs.Ytpnfcjodjgbdbaa.Ring
set_option linter.unusedVariables false
set_option linter.unusedSimpArgs false
open Go.RowKit Mem

/-- Numbers, in memory of the call's own. -/
def ZsOut (l : List Int) (W : World) (e : Ending) (W' : World) : Prop :=
  ∃ A c, e = .returned (.slice A l.length c) ∧ ZTab W' W.heap.size (.slice A l.length c) l ∧ Below W.heap.size W W'
/-- Ids of those at a place or behind it; of those ahead. -/
def behs (p : UInt64) (ts : List Tk) : List Int := (ts.filter (fun t => decide (p.toNat ≤ t.1.toNat))).map (·.2)
def ahds (p : UInt64) (ts : List Tk) : List Int := (ts.filter (fun t => !decide (p.toNat ≤ t.1.toNat))).map (·.2)
theorem turn_eq (p : UInt64) (ts : List Tk) : turn p ts = behs p ts ++ ahds p ts := by unfold turn behs ahds; rw [List.map_append]
theorem beh_yes {p : UInt64} {ts : List Tk} {k : Nat} {t : Tk} (h : ts[k]? = some t) (hp : p.toNat ≤ t.1.toNat) : behs p (ts.take (k + 1)) = behs p (ts.take k) ++ [t.2] ∧ ahds p (ts.take (k + 1)) = ahds p (ts.take k) := by
  unfold behs ahds
  rw [List.take_add_one, h, List.filter_append, List.filter_append]
  simp [hp]
theorem beh_no {p : UInt64} {ts : List Tk} {k : Nat} {t : Tk} (h : ts[k]? = some t) (hp : ¬ p.toNat ≤ t.1.toNat) : behs p (ts.take (k + 1)) = behs p (ts.take k) ∧ ahds p (ts.take (k + 1)) = ahds p (ts.take k) ++ [t.2] := by
  unfold behs ahds
  rw [List.take_add_one, h, List.filter_append, List.filter_append]
  simp [hp]
theorem turn_mem {p : UInt64} {ts : List Tk} {x : Int} (h : x ∈ turn p ts) : ∃ t ∈ ts, t.2 = x := by
  unfold turn at h
  obtain ⟨t, ht, rfl⟩ := List.mem_map.1 h
  rcases List.mem_append.1 ht with ht | ht
  · exact ⟨t, (List.mem_filter.1 ht).1, rfl⟩
  · exact ⟨t, (List.mem_filter.1 ht).1, rfl⟩
/-- What stands in GSome's first loop. -/
def PartAt (W : World) (p : UInt64) (ts : List Tk) (q m : Nat) (A7 A8 : Option Addr) (c7 c8 : Nat) (wr : World) : Prop :=
  ∃ av bv : List Int, av = ahds p ts ∧ bv = behs p ts ∧ av.length = q ∧ bv.length = m ∧ ZTab wr W.heap.size (.slice A7 q c7) av ∧ ZTab wr W.heap.size (.slice A8 m c8) bv ∧ ApartV (.slice A7 q c7) (.slice A8 m c8) ∧ Below W.heap.size W wr
/-- What stands in its second loop: the nodes met among the first k. -/
def MetAt (W V : World) (A : Option Addr) (T : List Int) (g k m : Nat) (A5 : Option Addr) (c5 : Nat) (wr : World) : Prop :=
  ∃ (S nodes : List Int), nodes = nub (T.take k) ∧ nodes.length = m ∧ S.length = m ∧ (∀ x, x ∈ S ↔ x ∈ nodes) ∧ IntSet wr g S ∧ Reads wr A (T.map (Value.int .i64)) ∧ ZTab wr V.heap.size (.slice A5 m c5) nodes ∧ V.heap.size ≤ wr.heap.size ∧ Below W.heap.size W wr
theorem zreads_kept {W V : World} {A : Option Addr} {l : List Int} {B : Nat} {v : Value} {xs : List Int} (h : Reads W A (l.map (Value.int .i64))) (hA : ∀ a, A = some a → a.block < B) (hz : ZTab W B v xs) (hg : W.grownBy V v.ownBlock) : Reads V A (l.map (Value.int .i64)) :=
  h.grown hg fun a ha e => by have h1 := (hz.lt a.block e.symm).1; have h2 := hA a ha; omega
theorem reads_lt_of {W : World} {A : Option Addr} {l : List Int} (h : Reads W A (l.map (Value.int .i64))) {n c : Nat} (hn : l.length = n) {B : Nat} (hz : ZTab W B (.slice A n c) l) : ∀ a, A = some a → a.block < W.heap.size := fun a ha => by
  subst ha; exact (hz.lt a.block rfl).2
theorem Grows.down {W : World} {B B' : Nat} {e : TypeId} {v : Value} {xs : List Value} (h : Grows W B e v xs) (hb : B' ≤ B) : Grows W B' e v xs := by
  refine ⟨h.1, ?_⟩
  rcases h.2 with h1 | ⟨g, cap, cur, h1, h2, h3⟩
  · exact .inl h1
  · exact .inr ⟨g, cap, cur, h1, Nat.le_trans hb h2, h3⟩
set_option maxRecDepth 100000 in
set_option maxHeartbeats 8000000 in
theorem gsome_c (A : Option Addr) (ts : List Tk) (n ca : Nat) (key : UInt64) (W : World) (hn : ts.length = n) (h4 : n ≤ 400) (hx : TRds W A ts) (hwf : ∀ t ∈ ts, (Lit.int .i64 t.2).wf = true) :
    Calls Try.prog 17 #[.slice A n ca, .int .u64 key.toNat] W (ZsOut (met key ts) W) := by
  have HX := Lib.hid hx
  have HN := Lib.hid hn
  have HW : Hid (∀ x ∈ turn (Mix.one key) ts, (Lit.int .i64 x).wf = true) := fun x hx => by obtain ⟨t, ht, rfl⟩ := turn_mem hx; exact hwf t ht
  have ME := Lib.hid (show met key ts = nub (turn (Mix.one key) ts) from rfl)
  have HA := Lib.hid (fun V => Big.aOne_c key V)
  have TE := Lib.hid (turn_eq (Mix.one key) ts)
  generalize hp : Mix.one key = p at *
  generalize hT : turn p ts = T at *
  have hmm := @run_makeMap Try.prog
  clear hx hn hwf hp hT
  go_enter Try.func17, Try.ntmps17
  go_wp2_with (go_at_call 31; refine (HA.out _).mono ?_; rintro e w1 ⟨rfl, hb⟩; have HB1 := Lib.hid hb; clear hb)
  clear HA
  go_loopw [7, 8, 18] (fun s7 s8 i wr => ∃ (k q m : Nat) (A7 : Option Addr) (c7 : Nat) (A8 : Option Addr) (c8 : Nat), k ≤ n ∧ q ≤ k ∧ m ≤ k ∧ q + m = k ∧ i = .int .i64 k ∧ s7 = .slice A7 q c7 ∧ s8 = .slice A8 m c8 ∧ PartAt W p (ts.take k) q m A7 A8 c7 c8 wr) (fun _ _ i _ => n - (intOf i).toNat)
  case atStart => exact ⟨0, 0, 0, none, 0, none, 0, by omega, by omega, by omega, by omega, rfl, rfl, rfl, [], [], rfl, rfl, rfl, rfl, ZTab.nil _ _, ZTab.nil _ _, .inl rfl, HB1.out⟩
  case round =>
    obtain ⟨k, q, m, A7, c7, A8, c8, hk, hq, hm, hqm, rfl, rfl, rfl, av, bv, ha, hb, hal, hbl, z7, z8, hap, hB⟩ := hrel
    have AL := Lib.hid hal
    have BL := Lib.hid hbl
    have HA := Lib.hid ha
    have HBS := Lib.hid hb
    have Z7 := Lib.hid z7
    have Z8 := Lib.hid z8
    have AP := Lib.hid hap
    have HB := Lib.hid hB
    clear HB1
    by_cases hlt : k < n
    · have k1 : k < ts.length := by rw [HN.out]; exact hlt
      obtain ⟨b, o, rfl, _, x0, x1⟩ := (HX.out.below hB).tk k1
      have EX := Lib.hid (show ts[k]? = some ts[k] from List.getElem?_eq_getElem k1)
      generalize hu : ts[k] = u at *
      obtain ⟨u0, u1⟩ := u
      have i1 : (k : Int) < (n : Int) := by omega
      obtain ⟨d0, d1⟩ := boxT wr (.int .u64 u0.toNat) (.int .i64 u1)
      have hba : Below wr.heap.size wr (wr.alloc (.cells #[.int .u64 u0.toNat, .int .i64 u1] 31)) := (Below.refl _ _).alloc (Nat.le_refl _) _
      have Y7 := Lib.hid (z7.later hba)
      have Y8 := Lib.hid (z8.later hba)
      have YB := Lib.hid (hB.trans (hba.mono hB.size))
      have YS := Lib.hid (hB.trans (hba.mono hB.size)).size
      clear hu hal hbl ha hb z7 z8 hap hB k1 hba Z7 Z8
      by_cases hp : p.toNat ≤ u0.toNat
      · have NX := Lib.hid (beh_yes EX.out hp)
        have i2 : (p.toNat : Int) ≤ (u0.toNat : Int) := by omega
        go_wp2_with (refine wpList_append_z2 rfl _ _ (by rfl) (v := .slice A8 m c8) (u := .slice A7 q c7) (n := m) rfl rfl (by simp) Y8.out Y7.out AP.out BL.out (by omega) YS.out YB.out (Nat.le_refl _) ?_; intro A9 c9 w9 Z9 U9 P9 B9)
        go_roundw
        case rel => exact ⟨k + 1, q, m + 1, A7, c7, A9, c9, by omega, by omega, by omega, by omega, by go_num, rfl, rfl, av, bv ++ [u1], by rw [NX.out.2]; exact HA.out, by rw [NX.out.1, HBS.out], AL.out, by simp [BL.out], U9.out, Z9.out, P9.out, B9.out⟩
        case measure => simp [intOf]; omega
      · have NX := Lib.hid (beh_no EX.out hp)
        have i2 : ¬ (p.toNat : Int) ≤ (u0.toNat : Int) := by omega
        go_wp2_with (refine wpList_append_z2 rfl _ _ (by rfl) (v := .slice A7 q c7) (u := .slice A8 m c8) (n := q) rfl rfl (by simp) Y7.out Y8.out AP.out.symm AL.out (by omega) YS.out YB.out (Nat.le_refl _) ?_; intro A9 c9 w9 Z9 U9 P9 B9)
        go_roundw
        case rel => exact ⟨k + 1, q + 1, m, A9, c9, A8, c8, by omega, by omega, by omega, by omega, by go_num, rfl, rfl, av ++ [u1], bv, by rw [NX.out.2, HA.out], by rw [NX.out.1]; exact HBS.out, by simp [AL.out], BL.out, Z9.out, U9.out, P9.out.symm, B9.out⟩
        case measure => simp [intOf]; omega
    · obtain rfl : k = n := by omega
      have TK := Lib.hid (show ts.take k = ts from List.take_of_length_le (by rw [HN.out]; omega))
      have TT := Lib.hid (show T = bv ++ av by rw [TE.out, hb, ha, TK.out])
      have hba : Below wr.heap.size wr (wr.alloc (.map #[] 0)) := (Below.refl _ _).alloc (Nat.le_refl _) _
      have Y7 := Lib.hid (z7.later hba)
      have Y8 := Lib.hid (z8.later hba)
      have YB := Lib.hid (hB.trans (hba.mono hB.size))
      have YS := Lib.hid (hB.trans (hba.mono hB.size)).size
      have IS := Lib.hid (IntSet.made wr)
      have GG := Lib.hid hB.size
      clear hal hbl ha hb z7 z8 hap hB hba Z7 Z8
      go_wp2_with (refine wpList_append_zs rfl _ _ (by rfl) (n := m) (m := q) rfl rfl BL.out AL.out Y7.out.reads Y8.out (by omega) YS.out YB.out (Nat.le_refl _) YS.out ?_; intro A9 c9 w9 Z9 G9 B9)
      have LT := Lib.hid (show T.length = m + q by rw [TT.out, List.length_append, BL.out, AL.out])
      have R9 := Lib.hid (show Reads w9 A9 (T.map (Value.int .i64)) by rw [TT.out]; exact Z9.out.reads)
      have A9L := Lib.hid (show ∀ a, A9 = some a → a.block < w9.heap.size from fun a ha => by subst ha; exact (Z9.out.lt a.block rfl).2)
      have IS9 := Lib.hid (IS.out.kept G9.out (set_apart IS.out Y8.out))
      have HB1S := Lib.hid B9.out.size
      clear IS G9 Y7 Y8 YB YS AL BL HA HBS AP TT TK HX TE Z9
      obtain ⟨wo, rfl⟩ : ∃ wo : World, wo = wr := ⟨_, rfl⟩
      go_loopw [5, 42] (fun s5 i wx => ∃ (j mm : Nat) (A5 : Option Addr) (c5 : Nat), j ≤ m + q ∧ mm ≤ j ∧ i = .int .i64 j ∧ s5 = .slice A5 mm c5 ∧ MetAt W w9 A9 T wo.heap.size j mm A5 c5 wx) (fun _ i _ => m + q - (intOf i).toNat)
      case atStart => exact ⟨0, 0, none, 0, by omega, by omega, rfl, rfl, [], [], rfl, rfl, rfl, fun x => Iff.rfl, IS9.out, R9.out, ZTab.nil _ _, Nat.le_refl _, B9.out⟩
      case round =>
        obtain ⟨j, mm, A5, c5, hj, hmm2, rfl, rfl, S, nodes, hno, hnl, hsl, hmem, hset, hrd, hz, hsz, hB⟩ := hrel
        have NO := Lib.hid hno
        have NL := Lib.hid hnl
        have SL := Lib.hid hsl
        have ME2 := Lib.hid hmem
        have IS := Lib.hid hset
        have RD := Lib.hid hrd
        have Z5 := Lib.hid hz
        have SZ := Lib.hid hsz
        have HB := Lib.hid hB
        clear IS9 R9 hno hnl hsl hmem hset hz hsz hB
        by_cases hlt : j < m + q
        · have k1 : j < T.length := by rw [LT.out]; exact hlt
          obtain ⟨b, o, e9, _, x0⟩ := reads_z hrd k1
          have HW1 := Lib.hid (HW.out T[j] (List.getElem_mem k1))
          have TJ := Lib.hid (show nub (T.take (j + 1)) = add nodes T[j] by rw [List.take_add_one, List.getElem?_eq_getElem k1, NO.out]; exact nub_snoc _ _)
          generalize hu : T[j] = x at *
          have i1 : (j : Int) < (m : Int) + (q : Int) := by omega
          subst e9
          clear hu k1 hrd
          by_cases hin : x ∈ nodes
          · have HC := Lib.hid (show decide (x ∈ S) = true from decide_eq_true ((ME2.out x).2 hin))
            have AD := Lib.hid (show add nodes x = nodes from if_pos hin)
            clear hin
            go_wp2_with (refine wpList_lookup_set rfl _ _ (by rfl) IS.out x HW1.out rfl rfl true HC.out ?_)
            go_roundw
            case rel => exact ⟨j + 1, mm, A5, c5, by omega, by omega, by go_num, rfl, S, nodes, by rw [TJ.out, AD.out], NL.out, SL.out, ME2.out, IS.out, RD.out, Z5.out, SZ.out, HB.out⟩
            case measure => simp [intOf]; omega
          · have HC := Lib.hid (show decide (x ∈ S) = false from decide_eq_false (fun h => hin ((ME2.out x).1 h)))
            have AD := Lib.hid (show add nodes x = nodes ++ [x] from if_neg hin)
            have SS := Lib.hid (show S.length < maxLen by rw [SL.out]; unfold maxLen; omega)
            clear hin
            go_wp2_with (first | (refine wpList_lookup_set rfl _ _ (by rfl) IS.out x HW1.out rfl rfl false HC.out ?_) | (refine wpList_update_set rfl _ _ _ (by rfl) IS.out SS.out x HW1.out rfl rfl rfl ?_; intro V hS hG; have IS2 := Lib.hid hS; have RD2 := Lib.hid (reads_apart RD.out IS.out hG); have Z6 := Lib.hid (Z5.out.kept hG (.inr (fun e => set_apart IS.out Z5.out e.symm))); have SZ2 := Lib.hid (Nat.le_trans SZ.out hG.size); have HB2 := Lib.hid (HB.out.grown hG HB.out.size (fun k hk => by injection hk with hk; subst hk; exact GG.out)); clear hS hG) | (refine wpList_append_z rfl _ _ (by rfl) (l := nodes) (n := mm) rfl rfl rfl Z6.out NL.out (by omega) SZ2.out HB2.out (Nat.le_trans HB1S.out (Nat.le_refl _)) ?_; intro A6 c6 w6 Z7 G7 B7))
            go_roundw
            case rel => exact ⟨j + 1, mm + 1, A6, c6, by omega, by omega, by go_num, rfl, x :: S, nodes ++ [x], by rw [TJ.out, AD.out], by simp [NL.out], by simp [SL.out], fun y => by rw [List.mem_cons, List.mem_append, List.mem_singleton, ME2.out]; exact Or.comm, (IS2.out.alloc (.cells #[.int .i64 x] 3)).kept G7.out (set_apart (IS2.out.alloc (.cells #[.int .i64 x] 3)) (Grows.alloc Z6.out (.cells #[.int .i64 x] 3))), zreads_kept (RD2.out.alloc (.cells #[.int .i64 x] 3)) A9L.out (Grows.alloc Z6.out (.cells #[.int .i64 x] 3)) G7.out, Z7.out, Nat.le_trans SZ2.out (by have := G7.out.size; simp at this; omega), B7.out⟩
            case measure => simp [intOf]; omega
        · obtain rfl : j = m + q := by omega
          have E := Lib.hid (show nodes = met key ts by rw [NO.out, ME.out, List.take_of_length_le (by rw [LT.out]; omega)])
          clear hrd
          go_wp2
          go_ret
          exact ⟨A5, c5, by rw [← E.out, NL.out]; rfl, by rw [← E.out, NL.out]; exact Grows.down Z5.out HB1S.out, HB.out⟩
end Go.Proofs.Ytpnfcjodjgbdbaa.Ring
