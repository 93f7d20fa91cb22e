/-
  Package straw: Choose and Some.
-/
import Derived.Test.YtcbecpgllebepaaSwSort
namespace Go.Proofs.Ytcbecpgllebepaa.Straw
set_option linter.unusedVariables false
set_option linter.unusedSimpArgs false
open Go.RowKit Mem

theorem longestFirst_c (key : UInt64) (W : World) : Calls Try.prog 40 #[.int .u64 key.toNat] W fun e w' => e = .returned (clo W.heap.size) ∧ w'.cell? ⟨W.heap.size, 0, none⟩ = some (.int .u64 key.toNat) ∧ Below W.heap.size W w' := by
  have mk := fun fn first cap w => mk_func fn first cap w
  go_enter Try.func40, Try.ntmps40
  go_wp2
  go_ret
  exact ⟨rfl, (Known.made W _ #[.int .u64 key.toNat]).cell 0, (Below.refl _ _).alloc (Nat.le_refl _) _⟩

theorem fieldIt (a b : Int) (w : World) : (Instr.field 47 (.agg #[.int .i64 a, .int .i64 b]) 0).run Try.prog w = .ok (.int .i64 a) w := by kernel_rfl

/-! ### Choose -/
def chooseE (key : UInt64) (l : List It) : Int := if wrongE l ≠ 0 then wrongE l else if ids key l = [] then 3 else 0
def chooseV (key : UInt64) (l : List It) : Int := if wrongE l ≠ 0 then 0 else (ids key l).head?.getD 0
theorem pos_good {l : List It} (h : Valid l) : ∀ a ∈ pos l, 0 < a.2 ∧ a.2 ≤ 100 := fun a ha => by
  obtain ⟨h1, h2⟩ := List.mem_filter.1 ha
  exact ⟨by simpa using h2, (h.2.1 a h1).2.2⟩
theorem ids_nil {key : UInt64} {l : List It} : ids key l = [] ↔ (pos l).length = 0 := by rw [← ids_len key l, List.length_eq_zero_iff]
set_option maxRecDepth 100000 in
set_option maxHeartbeats 4000000 in
theorem choose_c (key : UInt64) (A : Option Addr) (l : List It) (n ca : Nat) (W : World) (hn : l.length = n) (hbig : n ≤ maxLen) (hca : n ≤ ca) (hx : WRds W A l) :
    Calls Try.prog 43 #[.int .u64 key.toNat, .slice A n ca] W (Gave (.tuple #[.int .i64 (chooseV key l), .int .i64 (chooseE key l)]) W) := by
  have WC := Lib.hid (wrong_c A l n ca W hn hbig hca hx)
  by_cases h0 : wrongE l = 0
  · have hv := wrongE_zero.1 h0
    have h16 : n ≤ 16 := by rw [← hn]; exact hv.1
    have hpl : (pos l).length ≤ n := by rw [← hn]; exact List.length_filter_le _ _
    have PC := Lib.hid (fun V hb => positive_c A l n ca V hn h16 (hx.below hb))
    rw [h0] at WC
    have EV := Lib.hid (show chooseV key l = (ids key l).head?.getD 0 by unfold chooseV; rw [if_neg (by simpa using h0)])
    have EE := Lib.hid (show chooseE key l = if ids key l = [] then 3 else 0 by unfold chooseE; rw [if_neg (by simpa using h0)])
    have PG := Lib.hid (pos_good hv)
    have PO := Lib.hid (pos_once hv.2.2)
    have PI := Lib.hid (@ids_nil key l)
    have IDO := Lib.hid (show ids key l = (srt key (pos l)).map (·.1) from rfl)
    generalize pos l = p at *
    generalize hm : p.length = m at *
    have HM := Lib.hid hm
    clear h0 hv hn hx hm
    rcases Nat.eq_zero_or_pos m with hz | hz
    · subst hz
      have IN := Lib.hid (PI.out.2 rfl)
      go_enter Try.func43, Try.ntmps43
      go_wp2_with (first
        | (go_at_call 32; refine WC.out.mono ?_; rintro e w1 ⟨rfl, hb⟩; have B1 := Lib.hid hb; clear hb)
        | (go_at_call 38; refine (PC.out _ B1.out).mono ?_; rintro e w2 ⟨A2, c2, rfl, hT, hb⟩; have B2 := Lib.hid (B1.out.trans (hb.mono B1.out.size)); clear hT hb))
      go_ret2
      exact ⟨by rw [EV.out, EE.out, IN.out]; rfl, B2.out⟩
    · have IN := Lib.hid (show ids key l ≠ [] from fun h => by have := PI.out.1 h; omega)
      have m16 : m ≤ 16 := by omega
      have n1 : ((m : Int) == 0) = false := by simp; omega
      have fld : ∀ (a b : Int) (w : World), (Instr.field 47 (.agg #[.int .i64 a, .int .i64 b]) 0).run Try.prog w = .ok (.int .i64 a) w := fun a b w => fieldIt a b w
      go_enter Try.func43, Try.ntmps43
      go_wp2_with (first
        | (go_at_call 32; refine WC.out.mono ?_; rintro e w1 ⟨rfl, hb⟩; have B1 := Lib.hid hb; clear hb)
        | (go_at_call 38; refine (PC.out _ B1.out).mono ?_; rintro e w2 ⟨A2, c2, rfl, hT, hb⟩; have T2 := Lib.hid hT; have B2 := Lib.hid (B1.out.trans (hb.mono B1.out.size)); clear hT hb)
        | (go_at_call 40; refine (longestFirst_c key _).mono ?_; rintro e w3 ⟨rfl, hk, hb⟩; have K3 := Lib.hid hk; have R3 := Lib.hid (T2.out.rds.below hb); have B3 := Lib.hid (B2.out.trans (hb.mono B2.out.size)); clear hk hb)
        | (go_at_call 64; refine (min_c _ p m _ _ key _ HM.out m16 hz PG.out R3.out K3.out).mono ?_; rintro e w4 ⟨a, ha, rfl, hb⟩; have HA := Lib.hid ha; have B4 := Lib.hid (B3.out.trans (hb.mono B3.out.size)); clear ha hb))
      go_ret2
      refine ⟨?_, B4.out⟩
      have h := best_head PO.out (by rw [HM.out]; exact HA.out)
      have hv : (ids key l).head?.getD 0 = a.1 := by
        rw [IDO.out]
        cases hs : srt key p with
        | nil => rw [hs] at h; simp at h
        | cons x xs => rw [hs] at h; simp at h; subst h; rfl
      rw [EV.out, EE.out, if_neg IN.out, hv]
      rfl
  · have V1 := wrongE_vals l
    have EV := Lib.hid (show chooseV key l = 0 by unfold chooseV; rw [if_pos h0])
    have EE := Lib.hid (show chooseE key l = wrongE l by unfold chooseE; rw [if_pos h0])
    generalize wrongE l = e0 at *
    clear hn hx
    rcases V1 with rfl | rfl | rfl
    · exact absurd rfl h0
    all_goals
      clear h0
      go_enter Try.func43, Try.ntmps43
      go_wp2_with (go_at_call 32; refine WC.out.mono ?_; rintro e w1 ⟨rfl, hb⟩; have B1 := Lib.hid hb; clear hb)
      go_ret2
      exact ⟨by rw [EV.out, EE.out]; rfl, B1.out⟩

/-! ### Some -/
theorem infoZ : (Try.prog.info? 3).map (fun i => (i.zero, i.size, i.bytes)) = some (some (.int .i64 0), 1, 8) := by kernel_rfl
theorem madeZ (n : Nat) : madeCells #[Value.int .i64 0] n = Array.replicate n (Value.int .i64 0) := by
  apply Array.ext_getElem?
  intro i
  by_cases h : i < n
  · simp [madeCells, h, Nat.mod_one]
  · simp [madeCells, h]
theorem makeZ (n : Nat) (hn : n ≤ 400) (w : World) :
    (Instr.makeSlice 57 (.int .i64 n) (.int .i64 n)).run Try.prog w = .ok (.slice (some ⟨w.heap.size, 0, none⟩) n n) (w.alloc (.cells (Array.replicate n (Value.int .i64 0)) 3)) := by
  obtain ⟨i, hi, hz0, hz1, hz2⟩ := info_parts infoZ
  have hb : (i.bytes : Int) * (n : Int) ≤ 281474976710656 := by rw [hz2]; omega
  have hr := run_make (P := Try.prog) w 57 3 i (.int .i64 0) Try.underlying57 hi hz0 .i64 .i64 n n (by omega) (by omega) hb (by omega)
  rw [hr]
  simp only [Int.toNat_natCast, hz1, Nat.mul_one]
  rw [show (Value.int .i64 0).cells = #[Value.int .i64 0] from rfl, madeZ]
/-- The first k of L are there already. -/
def partZ (L : List Int) (j k : Nat) : List Int := L.take k ++ List.replicate (j - k) 0
theorem partZ_len {L : List Int} {j k : Nat} (h : L.length = j) (hk : k ≤ j) : (partZ L j k).length = j := by unfold partZ; simp; omega
theorem partZ_set {L : List Int} {j k : Nat} {x : Int} (h : L.length = j) (hk : L[k]? = some x) : (partZ L j k).set k x = partZ L j (k + 1) := by
  obtain ⟨h1, rfl⟩ := List.getElem?_eq_some_iff.1 hk
  unfold partZ
  have hl : (L.take k).length = k := by simp; omega
  obtain ⟨d, hd⟩ : ∃ d, j - k = d + 1 := ⟨j - k - 1, by omega⟩
  rw [List.set_append_right _ _ (by omega), hl, Nat.sub_self, hd, List.replicate_succ, List.set_cons_zero, List.take_succ_eq_append_getElem h1, show j - (k + 1) = d by omega, List.append_assoc]
  rfl
theorem partZ_end {L : List Int} {j : Nat} (h : L.length = j) : partZ L j j = L := by unfold partZ; simp [← h]
def OwnZ (W : World) (g : Nat) (L : List Int) : Prop := Known W g 3 (L.map (Value.int .i64)).toArray
theorem OwnZ.put {W : World} {g : Nat} {L L' : List Int} (h : OwnZ W g L) (k : Nat) (x : Int) (e : L.set k x = L') : OwnZ (W.setCell ⟨g, k, none⟩ (.int .i64 x)) g L' := by
  have h1 := Known.put h k (.int .i64 x)
  unfold OwnZ
  rw [← e, List.map_set]
  simpa using h1
theorem OwnZ.cell {W : World} {g : Nat} {L : List Int} (h : OwnZ W g L) {k : Nat} (hk : k < L.length) : ∃ v, W.cell? ⟨g, k, none⟩ = some v := ⟨_, (Known.cell h k).trans (by simp [hk]; rfl)⟩
theorem OwnZ.reads {W : World} {g : Nat} {L : List Int} (h : OwnZ W g L) : Reads W (some ⟨g, 0, none⟩) (L.map (Value.int .i64)) := fun k v hv =>
  ⟨g, 0, rfl, Known.lt h, by rw [Nat.zero_add]; exact (Known.cell h k).trans (by simpa using hv)⟩
set_option maxRecDepth 100000 in
set_option maxHeartbeats 4000000 in
theorem some_ok (key : UInt64) (A : Option Addr) (l : List It) (n ca j : Nat) (W : World) (hn : l.length = n) (hbig : n ≤ maxLen) (hca : n ≤ ca) (hx : WRds W A l) (hv : Valid l) (hj : j ≤ 16) (hjl : j ≤ (ids key l).length) :
    Calls Try.prog 26 #[.int .u64 key.toNat, .slice A n ca, .int .i64 j] W (NodesErr ((ids key l).take j) 0 W) := by
  have WC := Lib.hid (wrong_c A l n ca W hn hbig hca hx)
  rw [wrongE_zero.2 hv] at WC
  have h16 : n ≤ 16 := by rw [← hn]; exact hv.1
  have hpl : (pos l).length ≤ n := by rw [← hn]; exact List.length_filter_le _ _
  have PC := Lib.hid (fun V hb => positive_c A l n ca V hn h16 (hx.below hb))
  have PG := Lib.hid (pos_good hv)
  have PO := Lib.hid (pos_once hv.2.2)
  have hjm : j ≤ (pos l).length := by rw [← ids_len key l]; exact hjl
  have LL := Lib.hid (show ((ids key l).take j).length = j by rw [List.length_take]; omega)
  have LA := Lib.hid (show ∀ k, k < j → ∃ a, (srt key (pos l))[k]? = some a ∧ ((ids key l).take j)[k]? = some a.1 from fun k hk => by
    have hk2 : k < (srt key (pos l)).length := by rw [(srt_perm key (pos l)).length_eq]; omega
    refine ⟨(srt key (pos l))[k], List.getElem?_eq_getElem hk2, ?_⟩
    rw [List.getElem?_take_of_lt hk]
    show ((srt key (pos l)).map (·.1))[k]? = _
    rw [List.getElem?_map, List.getElem?_eq_getElem hk2]; rfl)
  have SL := Lib.hid (srt_perm key (pos l)).length_eq
  generalize (ids key l).take j = L at *
  generalize hs : srt key (pos l) = s at *
  have HSS := Lib.hid hs
  generalize pos l = p at *
  generalize hm : p.length = m at *
  have HM := Lib.hid hm
  have mkz := fun w => makeZ j (by omega) w
  have q1 : decide ((j : Int) < 0) = false := by rw [decide_eq_false_iff_not]; omega
  have q2 : decide ((16 : Int) < (j : Int)) = false := by rw [decide_eq_false_iff_not]; omega
  have q3 : ¬ (m : Int) < (j : Int) := by omega
  clear hv hn hx hm hs hjl
  go_enter Try.func26, Try.ntmps26
  go_wp2_with (first
    | (go_at_call 32; refine WC.out.mono ?_; rintro e w1 ⟨rfl, hb⟩; have B1 := Lib.hid hb; clear hb)
    | (go_at_call 38; refine (PC.out _ B1.out).mono ?_; rintro e w2 ⟨A2, c2, rfl, hT, hb⟩; have T2 := Lib.hid hT; have B2 := Lib.hid (B1.out.trans (hb.mono B1.out.size)); clear hT hb)
    | (go_at_call 40; refine (longestFirst_c key _).mono ?_; rintro e w3 ⟨rfl, hk, hb⟩; have K3 := Lib.hid hk; have N3 := Lib.hid T2.out.lt; have T3 := Lib.hid (T2.out.later hb); have B3 := Lib.hid (B2.out.trans (hb.mono B2.out.size)); clear hk hb)
    | (go_at_call 39; refine (sort_c W.heap.size _ p m _ _ key _ HM.out (by omega) PG.out PO.out (T3.out.down B1.out.size) K3.out ?_).mono ?_; (rintro a rfl e; exact absurd (N3.out a.block rfl).2 (by omega)); rintro e w4 ⟨rfl, hr, hb⟩; have R4 := Lib.hid (HSS.out ▸ hr); have B4 := Lib.hid (B3.out.trans hb); clear hr hb))
  have O5 := Lib.hid (show OwnZ (w4.alloc (.cells (Array.replicate j (Value.int .i64 0)) 3)) w4.heap.size (partZ L j 0) from by
    have h := Known.made w4 3 (Array.replicate j (Value.int .i64 0))
    unfold OwnZ partZ
    simpa using h)
  have B5 := Lib.hid (show Below w4.heap.size w4 (w4.alloc (.cells (Array.replicate j (Value.int .i64 0)) 3)) from (Below.refl _ _).alloc (Nat.le_refl _) _)
  clear mkz
  go_loopw [37] (fun i wr => ∃ k : Nat, k ≤ j ∧ i = .int .i64 k ∧ OwnZ wr w4.heap.size (partZ L j k) ∧ Below w4.heap.size w4 wr) (fun i _ => j - (intOf i).toNat)
  case atStart => exact ⟨0, by omega, rfl, O5.out, B5.out⟩
  case round =>
    obtain ⟨k, hk, rfl, hO, hB⟩ := hrel
    have HO := Lib.hid hO
    have HB := Lib.hid hB
    by_cases hlt : k < j
    · obtain ⟨a, ea, el⟩ := LA.out k hlt
      obtain ⟨b, o, rfl, _, x0, x1⟩ := (R4.out.below hB) k a ea
      obtain ⟨v, c0⟩ := hO.cell (k := k) (by rw [partZ_len LL.out (by omega)]; exact hlt)
      have f0 := Known.free hO k
      have PS := Lib.hid (hO.put k a.1 (partZ_set LL.out el))
      obtain ⟨a0, a1⟩ := a
      have i1 : (k : Int) < (j : Int) := by omega
      have i2 : (k : Int) < (m : Int) := by omega
      clear hO hB ea el
      go_wp2
      go_roundw
      case rel => exact ⟨k + 1, by omega, by go_num, PS.out, HB.out.setCell (Nat.le_refl _) _⟩
      case measure => simp [intOf]; omega
    · obtain rfl : k = j := by omega
      clear hO hB
      go_wp2
      go_ret2
      have hO := HO.out
      rw [partZ_end LL.out] at hO
      exact ⟨some ⟨w4.heap.size, 0, none⟩, k, by rw [LL.out]; rfl, hO.reads, B4.out.trans (HB.out.mono B4.out.size)⟩
set_option maxRecDepth 100000 in
set_option maxHeartbeats 4000000 in
theorem some_bad (key : UInt64) (A : Option Addr) (l : List It) (n ca : Nat) (many : Int) (e0 : Int) (W : World) (hn : l.length = n) (hbig : n ≤ maxLen) (hca : n ≤ ca) (hx : WRds W A l) (he : someE key l many = e0) (h : e0 ≠ 0) :
    Calls Try.prog 26 #[.int .u64 key.toNat, .slice A n ca, .int .i64 many] W (NodesErr [] e0 W) := by
  have WC := Lib.hid (wrong_c A l n ca W hn hbig hca hx)
  unfold someE at he
  by_cases h0 : wrongE l = 0
  · have hv := wrongE_zero.1 h0
    have h16 : n ≤ 16 := by rw [← hn]; exact hv.1
    have hpl : (pos l).length ≤ n := by rw [← hn]; exact List.length_filter_le _ _
    rw [if_neg (by simpa using h0), ids_len] at he
    have PC := Lib.hid (fun V hb => positive_c A l n ca V hn h16 (hx.below hb))
    rw [h0] at WC
    generalize pos l = p at *
    generalize hm : p.length = m at *
    clear h0 hv hn hx hm
    by_cases h1 : many < 0 ∨ 16 < many
    · rw [if_pos h1] at he
      subst he
      by_cases h2 : many < 0
      · have q1 : decide (many < 0) = true := decide_eq_true h2
        clear h1
        go_enter Try.func26, Try.ntmps26
        go_wp2_with (go_at_call 32; refine WC.out.mono ?_; rintro e w1 ⟨rfl, hb⟩; have B1 := Lib.hid hb; clear hb)
        go_ret2
        exact ⟨none, 0, rfl, Reads.nil, B1.out⟩
      · have q1 : decide (many < 0) = false := decide_eq_false h2
        have q2 : decide (16 < many) = true := decide_eq_true (by omega)
        clear h1
        go_enter Try.func26, Try.ntmps26
        go_wp2_with (go_at_call 32; refine WC.out.mono ?_; rintro e w1 ⟨rfl, hb⟩; have B1 := Lib.hid hb; clear hb)
        go_ret2
        exact ⟨none, 0, rfl, Reads.nil, B1.out⟩
    · rw [if_neg h1] at he
      by_cases h2 : (m : Int) < many
      · rw [if_pos h2] at he
        subst he
        have q1 : decide (many < 0) = false := decide_eq_false (by omega)
        have q2 : decide (16 < many) = false := decide_eq_false (by omega)
        clear h1
        go_enter Try.func26, Try.ntmps26
        go_wp2_with (first
          | (go_at_call 32; refine WC.out.mono ?_; rintro e w1 ⟨rfl, hb⟩; have B1 := Lib.hid hb; clear hb)
          | (go_at_call 38; refine (PC.out _ B1.out).mono ?_; rintro e w2 ⟨A2, c2, rfl, hT, hb⟩; have B2 := Lib.hid (B1.out.trans (hb.mono B1.out.size)); clear hT hb))
        go_ret2
        exact ⟨none, 0, rfl, Reads.nil, B2.out⟩
      · rw [if_neg h2] at he
        exact absurd he.symm h
  · have V1 := wrongE_vals l
    rw [if_pos h0] at he
    generalize wrongE l = e1 at *
    subst he
    clear hn hx
    rcases V1 with rfl | rfl | rfl
    · exact absurd rfl h0
    all_goals
      clear h0 h
      go_enter Try.func26, Try.ntmps26
      go_wp2_with (go_at_call 32; refine WC.out.mono ?_; rintro e w1 ⟨rfl, hb⟩; have B1 := Lib.hid hb; clear hb)
      go_ret2
      exact ⟨none, 0, rfl, Reads.nil, B1.out⟩
theorem some_spec : SomeSpec := by
  intro key A l n ca many V hn hbig hca hx hf
  by_cases h : someE key l many = 0
  · obtain ⟨hv, ⟨h1, h2⟩, h3⟩ := someE_zero.1 h
    obtain ⟨j, rfl⟩ : ∃ j : Nat, many = j := ⟨many.toNat, by omega⟩
    have := some_ok key A l n ca j V hn hbig hca hx hv (by omega) (by omega)
    unfold someL
    rw [h, if_pos rfl]; exact this
  · have := some_bad key A l n ca many _ V hn hbig hca hx rfl h
    unfold someL
    rw [if_neg h]; exact this
end Go.Proofs.Ytcbecpgllebepaa.Straw
