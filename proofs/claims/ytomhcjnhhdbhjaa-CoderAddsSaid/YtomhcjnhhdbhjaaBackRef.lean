/-
  The reference's DBack.
-/
import Derived.Test.YtomhcjnhhdbhjaaBackPure
import Derived.Test.YtomhcjnhhdbhjaaIntSet
import Derived.Deep.RegionHeld3
import Derived.Deep.DrawnRows
import Derived.RegionTactic
namespace Go.Proofs.Ytomhcjnhhdbhjaa.Cdr
set_option linter.unusedVariables false
open Go.RowKit Gf Mem Poly

theorem Grows.typed {W : World} {B : Nat} {e : TypeId} {v : Value} {xs : List Value} (h : Grows W B e v xs) : ∀ g, v.ownBlock = some g → ∃ cur, W.heap[g]? = some (.cells cur e (0, 0)) := by
  intro g hg
  rcases h.2 with ⟨rfl, _⟩ | ⟨g', cap, cur, rfl, _, h1, _⟩
  · simp [Value.ownBlock] at hg
  · simp [Value.ownBlock] at hg
    subst hg
    exact ⟨cur, h1⟩
theorem Grows.apart {W : World} {B B' : Nat} {e e' : TypeId} {v v' : Value} {xs xs' : List Value} (h : Grows W B e v xs) (h' : Grows W B' e' v' xs') (hne : e ≠ e') : v.ownBlock = none ∨ v.ownBlock ≠ v'.ownBlock := by
  cases hv : v.ownBlock with
  | none => exact .inl rfl
  | some g =>
    right
    intro e0
    obtain ⟨c, h1⟩ := Grows.typed h g hv
    obtain ⟨c', h2⟩ := Grows.typed h' g e0.symm
    rw [h1] at h2
    injection h2 with h2
    injection h2 with _ h2
    exact hne h2
theorem IntSet.apart {W : World} {B g : Nat} {e : TypeId} {v : Value} {xs : List Value} {S : List Int} (h : IntSet W g S) (h' : Grows W B e v xs) : some g ≠ v.ownBlock := fun e0 => by
  obtain ⟨c, h1⟩ := Grows.typed h' g e0.symm
  obtain ⟨D, n, _, _, ⟨es, clock, h2, _⟩, _⟩ := h
  rw [h1] at h2
  injection h2 with h2
  cases h2

theorem _root_.Go.Proofs.Ytomhcjnhhdbhjaa.Mem.Known.kept' {W V : World} {g : Nat} {t : TypeId} {cs : Array Value} {row : Option Nat} (h : Known W g t cs) (hg : W.grownBy V row) (hne : some g ≠ row) : Known V g t cs := (hg.block g h.lt hne).trans h
/-- Two growing rows of different element types and a set, all of the call's own. -/
def Two (W V : World) (s8 : Value) (xs : List Value) (s9 : Value) (us : List Value) (g : Nat) (S : List Int) : Prop :=
  Grows V W.heap.size 5 s8 xs ∧ Grows V W.heap.size 33 s9 us ∧ IntSet V g S ∧ W.heap.size ≤ g ∧ Below W.heap.size W V
section
variable {W V V' : World} {s8 s9 s : Value} {xs us xs' : List Value} {g : Nat} {S : List Int}
theorem Two.drew (h : Two W V s8 xs s9 us g S) : Two W V.drew s8 xs s9 us g S := ⟨h.1.drew, h.2.1.drew, h.2.2.1.drawn ⟨1, rfl⟩, h.2.2.2.1, h.2.2.2.2.drew⟩
theorem Two.alloc (h : Two W V s8 xs s9 us g S) (o : Obj) : Two W (V.alloc o) s8 xs s9 us g S := ⟨h.1.alloc o, h.2.1.alloc o, h.2.2.1.alloc o, h.2.2.2.1, h.2.2.2.2.alloc h.2.2.2.2.size o⟩
theorem Two.put8 (h : Two W V s8 xs s9 us g S) (hg : V.grownBy V' s8.ownBlock) (hG : Grows V' W.heap.size 5 s xs') : Two W V' s xs' s9 us g S :=
  ⟨hG, h.2.1.kept hg (Grows.apart h.2.1 h.1 (by decide)), h.2.2.1.kept hg (IntSet.apart h.2.2.1 h.1), h.2.2.2.1, h.1.below hg h.2.2.2.2 (Nat.le_refl _) h.2.2.2.2.size⟩
theorem Two.put9 (h : Two W V s8 xs s9 us g S) (hg : V.grownBy V' s9.ownBlock) (hG : Grows V' W.heap.size 33 s xs') : Two W V' s8 xs s xs' g S :=
  ⟨h.1.kept hg (Grows.apart h.1 h.2.1 (by decide)), hG, h.2.2.1.kept hg (IntSet.apart h.2.2.1 h.2.1), h.2.2.2.1, h.2.1.below hg h.2.2.2.2 (Nat.le_refl _) h.2.2.2.2.size⟩
theorem Two.far8 (h : Two W V s8 xs s9 us g S) {b : Nat} (hb : V.heap.size ≤ b) : some b ≠ s8.ownBlock := fun e => by have := (h.1.lt b e.symm).2; omega
theorem Two.size (h : Two W V s8 xs s9 us g S) : W.heap.size ≤ V.heap.size := h.2.2.2.2.size
end
theorem new_cell (w : World) (t : TypeId) (u : Value) : (w.alloc (.cells #[u] t)).cell? ⟨w.heap.size, 0, none⟩ = some u := (Known.made w t #[u]).cell 0
theorem new_cell1 (w : World) (t t' : TypeId) (u u' : Value) : ((w.alloc (.cells #[u] t)).alloc (.cells #[u'] t')).cell? ⟨w.heap.size, 0, none⟩ = some u := ((Known.made w t #[u]).alloc _).cell 0
theorem new_cell2 (w : World) (t t' : TypeId) (u u' : Value) : ((w.alloc (.cells #[u] t)).alloc (.cells #[u'] t')).cell? ⟨w.heap.size + 1, 0, none⟩ = some u' := by
  have h := (Known.made (w.alloc (.cells #[u] t)) t' #[u']).cell 0
  rw [show (w.alloc (.cells #[u] t)).heap.size = w.heap.size + 1 by simp] at h
  exact h
/-- What stands in DBack's first loop. -/
def BackAt (W : World) (lim : Int) (ps : List Pc) (k : Nat) (s8 s9 : Value) (g : Nat) (V : World) : Prop :=
  ∃ (S : List Int) (us : List Value), Scanned lim ps k S ∧ Grows V W.heap.size 5 s8 ((nums8 (ps.take k)).map byt) ∧ Grows V W.heap.size 33 s9 us ∧ AreRows W us (datas (ps.take k)) ∧ IntSet V g S ∧ W.heap.size ≤ g ∧ Below W.heap.size W V

theorem old_cell {V : World} {o : Obj} {p : Addr} {u : Value} (h : V.cell? p = some u) : (V.alloc o).drew.cell? p = some u := by
  rw [World.cell?_drew, World.cell?_alloc_lt _ _ _ (World.block_lt_of_cell? _ _ h)]; exact h
theorem old_cell2 {V : World} {o o' : Obj} {p : Addr} {u : Value} (h : V.cell? p = some u) : ((V.alloc o).alloc o').drew.cell? p = some u := by
  have h1 : (V.alloc o).cell? p = some u := by rw [World.cell?_alloc_lt _ _ _ (World.block_lt_of_cell? _ _ h)]; exact h
  exact old_cell h1
theorem byt_int {x : Int} (h0 : 0 ≤ x) (h1 : x < 256) : byt (UInt8.ofNat x.toNat) = .int .u8 x := by
  unfold byt; rw [UInt8.toNat_ofNat', Nat.mod_eq_of_lt (by omega)]; congr 1; omega
theorem back_next {W V : World} {lim : Int} {ps : List Pc} {k : Nat} {S : List Int} {at_ : Int} {data : List UInt8} {us : List Value} {C A4 A5 : Option Addr} {c c4 c5 g : Nat} (hs : Scanned lim ps (k + 1) (at_ :: S)) (ep : ps[k]? = some (at_, data))
    (ha : AreRows W us (datas (ps.take k))) (hr : IsRow W (.slice C data.length c) data)
    (h : Two W V (.slice A4 (((nums8 (ps.take k)).map byt).length + 1) c4) ((nums8 (ps.take k)).map byt ++ [.int .u8 at_]) (.slice A5 (us.length + 1) c5) (us ++ [.slice C data.length c]) g (at_ :: S))
    (x8 : ((nums8 (ps.take k)).map byt).length = k) (xu : us.length = k) (h0 : 0 ≤ at_) (h1 : at_ < 256) : BackAt W lim ps (k + 1) (.slice A4 (k + 1) c4) (.slice A5 (k + 1) c5) g V := by
  obtain ⟨g8, g9, gi, gg, gw⟩ := h
  rw [x8] at g8
  rw [xu] at g9
  have e : (nums8 (ps.take k)).map byt ++ [Value.int .u8 at_] = (nums8 (ps.take (k + 1))).map byt := by
    rw [Poly.take_next ep]; unfold nums8
    rw [List.map_append, List.map_append, ← byt_int h0 h1]; rfl
  rw [e] at g8
  refine ⟨_, _, hs, g8, g9, ?_, gi, gg, gw⟩
  rw [Poly.take_next ep]
  unfold datas
  rw [List.map_append]
  exact ha.snoc hr

theorem head_le {ps : List Pc} {L : Nat} (h : ∀ p ∈ ps, p.2.length ≤ L) : ((datas ps).headD []).length ≤ L := by
  cases ps with
  | nil => simp [datas]
  | cons p ps => exact h p (by simp)
theorem nums8_take (ps : List Pc) (r : Nat) : (nums8 ps).take r = nums8 (ps.take r) := by unfold nums8; rw [List.map_take]
theorem datas_take (ps : List Pc) (r : Nat) : (datas ps).take r = datas (ps.take r) := by unfold datas; rw [List.map_take]
/-- The first j data rows. -/
def BackTo (r : Nat) (ps : List Pc) (j : Nat) (outs : List (List UInt8)) : Prop :=
  outs.length = j ∧ ∀ (i : Nat) (out : List UInt8), outs[i]? = some out → out.length = ((datas ps).headD []).length ∧ Fill (nums8 (ps.take r)) (datas (ps.take r)) (UInt8.ofNat i) out
theorem backTo_nil (r : Nat) (ps : List Pc) : BackTo r ps 0 [] := ⟨rfl, fun j out h => by simp at h⟩
theorem backTo_snoc {r : Nat} {ps : List Pc} {j : Nat} {outs : List (List UInt8)} {out : List UInt8} (h : BackTo r ps j outs) (hl : out.length = ((datas ps).headD []).length) (hf : Fill (nums8 (ps.take r)) (datas (ps.take r)) (UInt8.ofNat j) out) : BackTo r ps (j + 1) (outs ++ [out]) := by
  refine ⟨by rw [List.length_append, h.1]; rfl, fun i o ho => ?_⟩
  by_cases hj : i < outs.length
  · rw [List.getElem?_append_left hj] at ho; exact h.2 i o ho
  · rw [List.getElem?_append_right (by omega)] at ho
    have h0 : i - outs.length = 0 := by
      rcases Nat.eq_zero_or_pos (i - outs.length) with h3 | h3
      · exact h3
      · rw [List.getElem?_eq_none (by simp; omega)] at ho; cases ho
    rw [h0] at ho
    simp at ho
    subst ho
    have : i = j := by have := h.1; omega
    subst this
    exact ⟨hl, hf⟩

set_option maxRecDepth 100000 in
set_option maxHeartbeats 4000000 in
theorem back_walk (r m n : Nat) (h1 : 1 ≤ r) (h2 : r ≤ 100) (h3 : m ≤ 100) (A : Option Addr) (ps : List Pc) (ca : Nat) (hn : ps.length = n) (hl : n ≤ 4398046511104) (hwf : ∀ p ∈ ps, (Lit.int .i64 p.1).wf = true ∧ p.2.length ≤ 140737488351232) (W : World) (hP : Pcs W A ps) :
    Calls Try.prog 14 #[.int .i64 r, .int .i64 m, .slice A n ca] W (RowsErr (BackIs r m ps) W) := by
  have i1 : (1 : Int) ≤ (r : Int) := by omega
  have i2 : (r : Int) ≤ 100 := by omega
  have i3 : (m : Int) ≤ 100 := by omega
  have i4 : (0 : Int) ≤ (m : Int) := by omega
  have HP := Lib.hid hP
  have HN := Lib.hid hn
  have HWF := Lib.hid hwf
  clear hP hn hwf
  have hbad : ¬ badRange (r : Int) (m : Int) := by unfold badRange; omega
  have hmm := @run_makeMap Try.prog
  go_enter Try.func14, Try.ntmps14
  go_wp2
  go_loopw [8, 9, 32] (fun s8 s9 i wr => ∃ (k : Nat) (A2 : Option Addr) (c2 : Nat) (A3 : Option Addr) (c3 : Nat), k ≤ n ∧ i = .int .i64 k ∧ s8 = .slice A2 k c2 ∧ s9 = .slice A3 k c3 ∧ BackAt W ((r : Int) + (m : Int)) ps k s8 s9 W.heap.size wr) (fun _ _ i _ => n - (intOf i).toNat)
  case atStart => exact ⟨0, none, 0, none, 0, by omega, rfl, rfl, rfl, [], [], scanned_zero _ _, Grows.nil _ _ _, Grows.nil _ _ _, AreRows.nil, IntSet.made W, Nat.le_refl _, (Below.refl _ _).alloc (Nat.le_refl _) _⟩
  case round =>
    obtain ⟨k, A2, c2, A3, c3, hk, rfl, rfl, rfl, hB⟩ := hrel
    obtain ⟨S, us, hS, hG8, hG9, hA, hI, hg, hW⟩ := hB
    by_cases hlt : k < n
    · obtain ⟨b, o, C, c, p, rfl, hbl, ep, cq0, cq1, lc, lr, rr⟩ := HP.out.piece (k := k) (by rw [HN.out]; exact hlt)
      have cp0 := (hW.cell (p := ⟨b, o + k * 2, none⟩) hbl).trans cq0
      have cp1 := (hW.cell (p := ⟨b, o + k * 2 + 1, none⟩) hbl).trans cq1
      clear cq0 cq1
      obtain ⟨wf1, wf2⟩ := HWF.out p (List.mem_of_getElem? ep)
      have HS := Lib.hid hS
      have HG8 := Lib.hid hG8
      have HG9 := Lib.hid hG9
      have HA := Lib.hid hA
      have HI := Lib.hid hI
      have HW := Lib.hid hW
      have EP := Lib.hid ep
      have RR := Lib.hid rr
      have WF1 := Lib.hid wf1
      clear hS hG8 hG9 hA hI hW ep rr wf1
      obtain ⟨at_, data⟩ := p
      simp only at cp0 cp1 lc lr wf2
      by_cases ho : at_ < 0
      · go_wp2
        go_ret2
        have hsc := scanned_range HS.out EP.out (.inl ho)
        exact rowsErr_nil (HW.out.alloc HW.out.size _) (.inr (.inl ⟨hbad, hsc, rfl⟩))
      · by_cases ho2 : (r : Int) + (m : Int) - 1 < at_
        · have ho' : (0 : Int) ≤ at_ := by omega
          go_wp2
          go_ret2
          have hsc := scanned_range HS.out EP.out (.inr ho2)
          exact rowsErr_nil (HW.out.alloc HW.out.size _) (.inr (.inl ⟨hbad, hsc, rfl⟩))
        · have ho' : (0 : Int) ≤ at_ := by omega
          have ho2' : at_ ≤ (r : Int) + (m : Int) - 1 := by omega
          by_cases hin : at_ ∈ S
          · have hdi : decide (at_ ∈ S) = true := by simpa using hin
            have HIN := Lib.hid hin
            clear hin
            go_wp2_with (at_lookup; refine wpList_lookup_set rfl (.tmp 48) (.tmp 50) rfl (HI.out.alloc _) at_ WF1.out rfl rfl true hdi ?_)
            go_ret2
            have hsc := scanned_held HS.out EP.out ho' ho2' HIN.out
            exact rowsErr_nil (HW.out.alloc HW.out.size _) (.inr (.inl ⟨hbad, hsc, rfl⟩))
          · have hdi : decide (at_ ∈ S) = false := by simpa using hin
            have hsl : S.length = k := by rw [HS.out.2.1, List.length_reverse, List.length_map, Poly.take_len (by rw [HN.out]; exact hk)]
            have hsl2 : S.length < maxLen := by rw [hsl]; unfold maxLen; omega
            have HSL := Lib.hid hsl2
            have HSN := Lib.hid (scanned_next HS.out EP.out ho' ho2' hin)
            clear hin hsl hsl2
            go_wp2_with (first | (at_lookup; refine wpList_lookup_set rfl (.tmp 48) (.tmp 50) rfl (HI.out.alloc _) at_ WF1.out rfl rfl false hdi ?_) | (at_mapUpdate; refine wpList_update_set rfl (.tmp 52) (.tmp 54) (.const (.bool true)) rfl (HI.out.alloc _) HSL.out at_ WF1.out rfl rfl rfl ?_; intro V hIV hgV; have HIV := Lib.hid hIV; have HGV := Lib.hid hgV; clear hIV hgV))
            have hne8 : Value.ownBlock (.slice A2 k c2) ≠ some W.heap.size := fun e => IntSet.apart HI.out HG8.out e.symm
            have hne9 : Value.ownBlock (.slice A3 k c3) ≠ some W.heap.size := fun e => IntSet.apart HI.out HG9.out e.symm
            have hpb : wr.heap.size ≠ W.heap.size := by have := HI.out.lt; omega
            have KP := Lib.hid ((Known.made wr 35 #[Value.int .i64 at_, Value.slice C data.length c]).kept' HGV.out (by intro e; injection e with e; exact hpb e))
            have VG8 := Lib.hid ((HG8.out.alloc (.cells #[Value.int .i64 at_, Value.slice C data.length c] 35)).kept HGV.out (.inr hne8))
            have VG9 := Lib.hid ((HG9.out.alloc (.cells #[Value.int .i64 at_, Value.slice C data.length c] 35)).kept HGV.out (.inr hne9))
            have VW := (HW.out.alloc HW.out.size (.cells #[Value.int .i64 at_, Value.slice C data.length c] 35)).grown HGV.out (by simp; have := HW.out.size; omega) (fun g e => by injection e with e; omega)
            have T0 := Lib.hid (show Two W V (.slice A2 k c2) _ (.slice A3 k c3) us W.heap.size (at_ :: S) from ⟨VG8.out, VG9.out, HIV.out, Nat.le_refl _, VW⟩)
            have hx8 : ((nums8 (ps.take k)).map byt).length = k := by unfold nums8; rw [List.length_map, List.length_map, Poly.take_len (by rw [HN.out]; exact hk)]
            have hus : us.length = k := by rw [HA.out.1]; unfold datas; rw [List.length_map, Poly.take_len (by rw [HN.out]; exact hk)]
            have l1 : ((nums8 (ps.take k)).map byt).length + 1 ≤ maxLen := by rw [hx8]; unfold maxLen; omega
            have l2 : (((nums8 (ps.take k)).map byt).length + 1) * 1 ≤ 140737488355328 := by rw [hx8]; omega
            have l3 : us.length + 1 ≤ maxLen := by rw [hus]; unfold maxLen; omega
            have l4 : (us.length + 1) * 24 ≤ 140737488355328 := by rw [hus]; omega
            have X8 := Lib.hid hx8
            have XU := Lib.hid hus
            have L1 := Lib.hid l1
            have L2 := Lib.hid l2
            have L3 := Lib.hid l3
            have L4 := Lib.hid l4
            have LS := Lib.hid T0.out.size
            clear hx8 hus l1 l2 l3 l4 VW
            have hp0 : V.cell? ⟨wr.heap.size, 0, none⟩ = some (.int .i64 at_) := KP.out.cell 0
            have hp1 : V.cell? ⟨wr.heap.size, 1, none⟩ = some (.slice C data.length c) := KP.out.cell 1
            have hfar : some wr.heap.size ≠ Value.ownBlock (.slice A2 k c2) := fun e => by have := (HG8.out.lt _ e.symm).2; omega
            have hfar9 : some wr.heap.size ≠ Value.ownBlock (.slice A3 k c3) := fun e => by have := (HG9.out.lt _ e.symm).2; omega
            have HFAR := Lib.hid hfar
            have HFAR9 := Lib.hid hfar9
            clear hfar9
            clear hfar
            have hwr : IntKind.u8.wrap at_ = at_ := by rw [IntKind.wrap_u8]; omega
            clear hne8 hne9 hpb
            go_region_held3 (fun w' => w'.cell? ⟨wr.heap.size, 0, none⟩ = some (.int .i64 at_) ∧ w'.cell? ⟨wr.heap.size, 1, none⟩ = some (.slice C data.length c)) (first | go_keep | (go_split_ands; exact ⟨World.grownBy.cell hgr5.out (by assumption) HFAR9.out, World.grownBy.cell hgr5.out (by assumption) HFAR9.out⟩) | (go_split_ands; exact ⟨World.grownBy.cell hgr4.out (by assumption) HFAR.out, World.grownBy.cell hgr4.out (by assumption) HFAR.out⟩))
              (first
                | (refine step_append_gen elem8 (by rfl) (.tmp 55) (.tmp 59) (by rfl) (u := .int .u8 at_) (by rfl) (.slice A2 k c2) (by rfl) V.heap.size (by rfl) (by first | exact (T0.out.alloc _).drew.1 | exact ((T0.out.alloc _).alloc _).drew.1) (by first | exact new_cell _ _ _ | exact new_cell1 _ _ _ _ _) L1.out L2.out (by have := LS.out; simp; omega) ?_; intro A4 c4 w4 hG4 hgr4)
                | (refine step_append_gen elem8 (by rfl) (.tmp 55) (.tmp 59) (by rfl) (u := .int .u8 at_) (by rfl) (.slice A2 k c2) (by rfl) (V.heap.size + 1) (by rfl) ((T0.out.alloc _).alloc _).drew.1 (new_cell2 _ _ _ _ _) L1.out L2.out (by have := LS.out; simp; omega) ?_; intro A4 c4 w4 hG4 hgr4)
                | (refine step_append_gen elemS8 (by rfl) (.tmp 61) (.tmp 64) (by rfl) (u := .slice C data.length c) (by rfl) (.slice A3 k c3) (by rfl) w4.heap.size (by rfl) (by exact (((T0.out.alloc (.cells #[.int .u8 at_] 5)).drew).put8 hgr4.out hG4.out).alloc (.cells #[.slice C data.length c] 33) |>.2.1) (by exact new_cell _ _ _) L3.out L4.out (by have := (((T0.out.alloc (.cells #[.int .u8 at_] 5)).drew).put8 hgr4.out hG4.out).alloc (.cells #[.slice C data.length c] 33) |>.size; exact this) ?_; intro A5 c5 w5 hG5 hgr5; have FIN := Lib.hid (((((T0.out.alloc (.cells #[.int .u8 at_] 5)).drew).put8 hgr4.out hG4.out).alloc (.cells #[.slice C data.length c] 33)).put9 hgr5.out hG5.out); clear hG4 hgr4 hG5)
                | (refine step_append_gen elemS8 (by rfl) (.tmp 61) (.tmp 64) (by rfl) (u := .slice C data.length c) (by rfl) (.slice A3 k c3) (by rfl) (V.heap.size + 1) (by rfl) (by exact ((((T0.out.alloc (.cells #[.int .u8 at_] 5)).alloc (.cells #[.slice C data.length c] 33)).drew).put8 hgr4.out hG4.out).2.1) (by exact World.grownBy.cell hgr4.out (new_cell2 _ _ _ _ _) (T0.out.far8 (by simp))) L3.out L4.out (by have := ((((T0.out.alloc (.cells #[.int .u8 at_] 5)).alloc (.cells #[.slice C data.length c] 33)).drew).put8 hgr4.out hG4.out).size; exact this) ?_; intro A5 c5 w5 hG5 hgr5; have FIN := Lib.hid ((((((T0.out.alloc (.cells #[.int .u8 at_] 5)).alloc (.cells #[.slice C data.length c] 33)).drew).put8 hgr4.out hG4.out)).put9 hgr5.out hG5.out); clear hG4 hgr4 hG5)
                | (refine step_append_gen elemS8 (by rfl) (.tmp 61) (.tmp 64) (by rfl) (u := .slice C data.length c) (by rfl) (.slice A3 k c3) (by rfl) V.heap.size (by rfl) (by exact ((((T0.out.alloc (.cells #[.slice C data.length c] 33)).alloc (.cells #[.int .u8 at_] 5)).drew).put8 hgr4.out hG4.out).2.1) (by exact World.grownBy.cell hgr4.out (new_cell1 _ _ _ _ _) (T0.out.far8 (by simp))) L3.out L4.out (by have := ((((T0.out.alloc (.cells #[.slice C data.length c] 33)).alloc (.cells #[.int .u8 at_] 5)).drew).put8 hgr4.out hG4.out).size; exact this) ?_; intro A5 c5 w5 hG5 hgr5; have FIN := Lib.hid ((((((T0.out.alloc (.cells #[.slice C data.length c] 33)).alloc (.cells #[.int .u8 at_] 5)).drew).put8 hgr4.out hG4.out)).put9 hgr5.out hG5.out); clear hG4 hgr4 hG5))
            all_goals
              rw [show (nums8 (ps.take k)).length = k by have := X8.out; rwa [List.length_map] at this, XU.out]
              have HNX := Lib.hid (show BackAt W ((r : Int) + (m : Int)) ps (k + 1) (.slice A4 (k + 1) c4) (.slice A5 (k + 1) c5) W.heap.size w5 from back_next HSN.out EP.out HA.out ⟨C, c, rfl, lc, lr, RR.out⟩ FIN.out X8.out XU.out ho' (by omega))
              go_wp2
              go_roundw
              case rel => exact ⟨k + 1, A4, c4, A5, c5, by omega, by go_num, rfl, rfl, HNX.out⟩
              case measure => simp [intOf]; omega
    · obtain rfl : k = n := by omega
      have htk : ps.take k = ps := List.take_of_length_le (by rw [HN.out]; exact Nat.le_refl _)
      rw [htk] at hG8 hA
      have hsc := scanned_all (by rw [← HN.out] at hS; exact hS)
      have hnd := scanned_nodup hS (by omega)
      rw [htk] at hnd
      obtain ⟨_, _, hf8, hc8, _⟩ := hG8.form
      injection hf8 with e8a e8b e8c
      subst e8a e8c
      obtain ⟨_, _, hf9, hc9, _⟩ := hG9.form
      injection hf9 with e9a e9b e9c
      subst e9a e9c
      rw [← e8b] at hc8
      rw [← e9b] at hc9
      have hRd : Rds wr A3 (datas ps) := ⟨us, hG9.reads, hA.below hW⟩
      have hR8 := hG8.reads
      have hdl : (datas ps).length = k := by unfold datas; rw [List.length_map, HN.out]
      have hE := dEven_c A3 (datas ps) c3 (by rw [hdl]; omega) wr hRd
      rw [hdl] at hE
      have HE := Lib.hid hE
      have RD := Lib.hid hRd
      have R8 := Lib.hid hR8
      have HW := Lib.hid hW
      have HSC := Lib.hid hsc
      have HND := Lib.hid hnd
      have HDL := Lib.hid hdl
      clear hS hG8 hG9 hA hI hg hW htk hsc hnd e8b e9b hE hRd hR8 hdl
      by_cases hsh : k < r
      · have j1 : (k : Int) < (r : Int) := by omega
        go_wp2
        go_ret2
        exact rowsErr_nil HW.out (.inr (.inr ⟨hbad, HSC.out, .inl ⟨by rw [HN.out]; exact j1, rfl, rfl⟩⟩))
      · have j1 : (r : Int) ≤ (k : Int) := by omega
        cases hev : evenB (datas ps) with
        | false =>
          rw [hev] at HE
          have HEV := Lib.hid hev
          clear hev
          go_wp2_with fail
          refine HE.out.mono ?_
          rintro e w2 ⟨rfl, hd⟩
          have HB2 := Lib.hid (HW.out.trans (hd.below _))
          clear hd
          go_wp2
          go_ret2
          exact rowsErr_nil HB2.out (.inr (.inr ⟨hbad, HSC.out, .inr (.inl ⟨by rw [HN.out]; exact j1, HEV.out, rfl, rfl⟩)⟩))
        | true =>
          rw [hev] at HE
          have HEV := Lib.hid hev
          clear hev
          go_wp2_with fail
          refine HE.out.mono ?_
          rintro e w2 ⟨rfl, hd⟩
          have HB2 := Lib.hid (HW.out.trans (hd.below _))
          have RD2 := Lib.hid (RD.out.drawn hd)
          have R82 := Lib.hid (R8.out.drawn hd)
          clear hd
          go_wp2
          have k2 : r ≤ c2 := by omega
          have k3 : r ≤ c3 := by omega
          have hL : ((datas ps).headD []).length ≤ 140737488351232 := head_le (fun q hq => (HWF.out q hq).2)
          have hF := fun (v : UInt8) (V : World) (hb : Below w2.heap.size w2 V) => dFill_c A2 A3 (nums8 (ps.take r)) (datas (ps.take r)) c2 c3 r ((datas ps).headD []).length v V (by
              have := (R82.out.below hb).takeB r
              rwa [nums8_take] at this) (by
              have := (RD2.out.below hb).take r
              rwa [datas_take] at this) (by unfold nums8; rw [List.length_map, Poly.take_len (by rw [HN.out]; omega)]) (by unfold datas; rw [List.length_map, Poly.take_len (by rw [HN.out]; omega)]) (by omega)
              (by rw [← nums8_take]; exact HND.out.sublist (List.take_sublist _ _)) (fun j q hq => evenB_len HEV.out (by rw [← datas_take, List.getElem?_take] at hq; split at hq; exact hq; cases hq)) (by omega)
          have HF := Lib.hid hF
          clear hF
          go_loopw [13, 75] (fun s i wr => ∃ (j : Nat) (A4 : Option Addr) (c4 : Nat) (outs : List (List UInt8)), j ≤ r ∧ i = .int .i64 j ∧ s = .slice A4 j c4 ∧ BackTo r ps j outs ∧ Table wr w2.heap.size s outs ∧ Below w2.heap.size w2 wr) (fun _ i _ => r - (intOf i).toNat)
          case atStart => exact ⟨0, none, 0, [], by omega, rfl, rfl, backTo_nil r ps, Table.nil _ _, Below.refl _ _⟩
          case round =>
            obtain ⟨j, A4, c4, outs, hj, rfl, rfl, hT, hTb, hB3⟩ := hrel
            have HT := Lib.hid hT
            have HTb := Lib.hid hTb
            have HB3 := Lib.hid hB3
            have hol : outs.length = j := hT.1
            have HOL := Lib.hid hol
            clear hT hTb hB3 hol
            by_cases hlt2 : j < r
            · have h8 : ((UInt8.ofNat j).toNat : Int) = (j : Int) := by rw [UInt8.toNat_ofNat', Nat.mod_eq_of_lt (by omega)]
              have hF2 := HF.out (UInt8.ofNat j) _ HB3.out.drew
              rw [h8] at hF2
              have HF2 := Lib.hid hF2
              have hw8 : IntKind.u8.wrap (j : Int) = (j : Int) := by rw [IntKind.wrap_u8]; omega
              have k2i : (r : Int) ≤ (c2 : Int) := by omega
              have k3i : (r : Int) ≤ (c3 : Int) := by omega
              clear hF2 h8
              go_wp2
              go_region_held3 (fun w' => True) (first | trivial | go_keep)
                (first
                  | (go_at_call 25; refine HF2.out.mono ?_; rintro e w4 ⟨out, hfo, hol2, A5, c5, rfl, hoc, hR4, hB4, hf4⟩; have HO := Lib.hid (HTb.out.row_new (Below.trans (Below.drew (Below.refl _ _)) hB4) hR4 hoc (by omega) hf4); have HT4 := Lib.hid (HTb.out.later (Below.trans (Below.drew (Below.refl _ _)) hB4)); have HB4 := Lib.hid (HB3.out.drew.trans (hB4.mono HB3.out.size)); have HFO := Lib.hid hfo; have HOL2 := Lib.hid hol2; clear hfo hol2 hoc hR4 hB4 hf4)
                  | (refine step_append_row (by rfl) (.tmp 78) (.tmp 88) (by rfl) (.slice A4 j c4) (by rfl) (by rfl) HT4.out HO.out (by rw [HOL.out]; omega) HB4.out.size HB4.out (Nat.le_refl _) ?_; intro A6 c6 w6 hT6 hB6))
              rw [HOL.out]
              go_wp2
              go_roundw
              case rel => exact ⟨j + 1, A6, c6, outs ++ [out], by omega, by go_num, rfl, backTo_snoc HT.out HOL2.out HFO.out, by have := hT6.out; rwa [HOL.out] at this, hB6.out⟩
              case measure => simp [intOf]; omega
            · obtain rfl : j = r := by omega
              go_wp2
              go_ret2
              obtain ⟨A7, c7, hv, h6, h7⟩ := HTb.out.form
              injection hv with hv1 hv2 hv3
              subst hv1 hv3
              exact ⟨_, _, outs, 0, by rw [HOL.out]; rfl, h6, h7, HTb.out.rds, HB2.out.trans (HB3.out.mono HB2.out.size), fun a ha => Nat.le_trans HB2.out.size (HTb.out.from_ a ha),
                .inr (.inr ⟨hbad, HSC.out, .inr (.inr ⟨by rw [HN.out]; exact j1, HEV.out, rfl, HT.out⟩)⟩)⟩

set_option maxHeartbeats 4000000 in
theorem back_bad (r m : Int) (A : Option Addr) (n ca : Nat) (hb : badRange r m) (W : World) :
    Calls Try.prog 14 #[.int .i64 r, .int .i64 m, .slice A n ca] W fun e W' => e = .returned (.tuple #[.slice none 0 0, .int .i64 2]) ∧ W = W' := by
  unfold badRange at hb
  by_cases h1 : r < 1
  · clear hb
    go_enter Try.func14, Try.ntmps14
    go_wp2
    go_ret2
    exact ⟨rfl, rfl⟩
  · by_cases h2 : 100 < r
    · clear hb
      go_enter Try.func14, Try.ntmps14
      go_wp2
      go_ret2
      exact ⟨rfl, rfl⟩
    · by_cases h3 : m < 0
      · clear hb
        go_enter Try.func14, Try.ntmps14
        go_wp2
        go_ret2
        exact ⟨rfl, rfl⟩
      · have h4 : 100 < m := by omega
        clear hb
        go_enter Try.func14, Try.ntmps14
        go_wp2
        go_ret2
        exact ⟨rfl, rfl⟩
theorem dBack_c (r m : Int) (A : Option Addr) (ps : List Pc) (ca : Nat) (hl : ps.length ≤ 4398046511104) (hwf : ∀ p ∈ ps, (Lit.int .i64 p.1).wf = true ∧ p.2.length ≤ 140737488351232) (W : World) (hP : Pcs W A ps) :
    Calls Try.prog 14 #[.int .i64 r, .int .i64 m, .slice A ps.length ca] W (RowsErr (BackIs r m ps) W) := by
  by_cases hb : badRange r m
  · refine (back_bad r m A ps.length ca hb W).mono fun e W' ⟨h1, h2⟩ => ?_
    subst h1 h2
    exact rowsErr_nil (Below.refl _ _) (.inl ⟨hb, rfl, rfl⟩)
  · have hb' := hb
    unfold badRange at hb'
    obtain ⟨r, rfl⟩ : ∃ n : Nat, r = n := ⟨r.toNat, by omega⟩
    obtain ⟨m, rfl⟩ : ∃ n : Nat, m = n := ⟨m.toNat, by omega⟩
    exact back_walk r m ps.length (by omega) (by omega) (by omega) A ps ca rfl hl hwf W hP
end Go.Proofs.Ytomhcjnhhdbhjaa.Cdr
