/-
  Package straw: the items sorted by their straws, and the longest of them.
-/
import Derived.Test.YtcbecpgllebepaaSwOrd
import Derived.Test.YtcbecpgllebepaaSwA
import Derived.Test.YtcbecpgllebepaaSwOrder
import Derived.Test.YtcbecpgllebepaaShSort
namespace Go.Proofs.Ytcbecpgllebepaa.Straw
set_option linter.unusedVariables false
set_option linter.unusedSimpArgs false
open Go.RowKit Mem
open Go.Sort (grow alloc_eq_grow grow_grow)

def clo (bk : Nat) : Value := .func (.func 58) #[] #[.pointer (some ⟨bk, 0, none⟩)]
def encP (a : Pos) : List Value := encI2 a.1
def ordP (key : UInt64) (a b : Pos) : Int := ordS key a.1 b.1
theorem ltOf_ordP (key : UInt64) : ltOf (ordP key) = fun a b => longer key a.1 b.1 := by
  funext x y; exact ordS_lt x.2.2 y.2.2
theorem ordP_swo (key : UInt64) : Sort.SWO (ltOf (ordP key)) := by
  rw [ltOf_ordP]
  exact ⟨fun x => longer_irr key x.1, fun _ _ _ h1 h2 => longer_tr h1 h2, fun _ _ _ h1 h2 => longer_ntr h1 h2⟩
theorem cell_sorting {bk g : Nat} {W : World} {v : Value} (h : W.cell? ⟨bk, 0, none⟩ = some v) (hne : bk ≠ g) (m : Nat) (os : Array Obj) (dk : Array Pos) : (sortWorldK encP 2 W g 0 m dk os).cell? ⟨bk, 0, none⟩ = some v := by
  have hlt := World.block_lt_of_cell? _ _ h
  unfold sortWorldK
  have h2 : (Sort.putRowK encP 2 (Sort.ahead W m) g 0 dk).heap[bk]? = W.heap[bk]? := by
    simp only [Sort.putRowK, Sort.putRow, Sort.mapBlock, Array.getElem?_modify]
    rw [if_neg (fun e => hne e.symm)]; rfl
  have h3 : (grow (Sort.putRowK encP 2 (Sort.ahead W m) g 0 dk) os).heap[bk]? = W.heap[bk]? := by
    show (_ ++ os)[bk]? = _
    rw [Array.getElem?_append_left (by simp [Sort.putRowK, Sort.putRow, Sort.mapBlock]; exact hlt), h2]
  rw [← h]
  unfold World.cell?
  rw [h3]
theorem flat_pos (ps : List Pos) : Sort.flatK encP 2 ps.toArray = Sort.flatK encI2 2 (ps.map (·.1)).toArray := by
  unfold Sort.flatK
  have hs : (ps.map (fun a : Pos => a.1)).toArray.size = ps.toArray.size := by simp
  rw [hs]
  refine Array.map_congr_left fun t ht => ?_
  have ht : t < ps.toArray.size * 2 := by simpa using ht
  have h1 : t / 2 < ps.length := by simp at ht; omega
  have e1 : ps.toArray[t / 2]! = ps[t / 2] := by rw [getElem!_pos ps.toArray (t / 2) (by simpa using h1)]; simp
  have e2 : (ps.map (fun a : Pos => a.1)).toArray[t / 2]! = ps[t / 2].1 := by rw [getElem!_pos _ (t / 2) (by simpa using h1)]; simp
  rw [e1, e2]; rfl
def toPos (es : List It) (h : ∀ a ∈ es, 0 < a.2 ∧ a.2 ≤ 100) : List Pos := es.pmap (fun a h => (⟨a, h⟩ : Pos)) h
theorem toPos_val (es : List It) (h : ∀ a ∈ es, 0 < a.2 ∧ a.2 ≤ 100) : (toPos es h).map (·.1) = es := by
  unfold toPos
  rw [List.map_pmap]
  simp
theorem srt_of_sort {key : UInt64} {ps : List Pos} {d' : Array Pos} (ho : Once (ps.map (·.1))) (hp : Sort.PermIn 0 ps.toArray.size ps.toArray d') (hs : Sort.SortedIn (ltOf (ordP key)) 0 ps.toArray.size d') : d'.toList.map (·.1) = srt key (ps.map (·.1)) := by
  obtain ⟨hz, _, hpm⟩ := hp
  have e1 : (d'.extract 0 ps.toArray.size).toList = d'.toList := by rw [← hz]; simp
  have e2 : (ps.toArray.extract 0 ps.toArray.size).toList = ps := by simp
  rw [e1, e2] at hpm
  refine (srt_eq (ho.perm (hpm.map _)) ?_ (hpm.map _)).symm
  unfold Sorted
  rw [List.pairwise_map, List.pairwise_iff_getElem]
  intro i j hi hj hij
  have hj2 : j < d'.size := by simpa using hj
  have h := hs i j (Nat.zero_le _) hij (by rw [← hz]; exact hj2)
  rw [ltOf_ordP] at h
  rw [getElem!_pos d' j hj2, getElem!_pos d' i (by omega)] at h
  simpa using h
theorem sort_c (B : Nat) (A : Option Addr) (es : List It) (n cap bk : Nat) (key : UInt64) (W : World) (hn : es.length = n) (h16 : n ≤ 16) (hpos : ∀ a ∈ es, 0 < a.2 ∧ a.2 ≤ 100) (ho : Once es) (hT : WTab W B (.slice A n cap) es)
    (hk : W.cell? ⟨bk, 0, none⟩ = some (.int .u64 key.toNat)) (hne : ∀ a, A = some a → a.block ≠ bk) :
    Calls Try.prog 39 #[.slice A n cap, clo bk] W fun e w' => e = .returned (.tuple #[]) ∧ WRds w' A (srt key es) ∧ Below B W w' := by
  rcases Nat.eq_zero_or_pos n with h0 | h0
  · subst h0
    obtain rfl := List.eq_nil_of_length_eq_zero hn
    refine (AnyF.slices_SortFunc_none Try.sortIt A cap (clo bk) W).mono ?_
    rintro e w ⟨rfl, rfl⟩
    exact ⟨rfl, fun k t h => by rw [srt, List.mergeSort_nil] at h; simp at h, Below.refl _ _⟩
  · obtain ⟨g, rfl, _, hg, hgl⟩ := hT.head (by omega)
    have hbg : bk ≠ g := fun e => hne _ rfl e.symm
    have hps := toPos_val es hpos
    generalize toPos es hpos = ps at hps
    have hd : ps.toArray.size = n := by rw [← hn, ← hps]; simp
    have hH : Sort.HoldsK encP 2 W g 0 ps.toArray := by
      have := holds_w hT hn
      unfold Sort.HoldsK at *
      rw [flat_pos, hps]; exact this
    have hcon := AnyQ.slices_SortFunc Try.sortIt 2 Try.isAgg47 Try.sizeOf47 encP (fun _ => rfl) (fun x v hv => by simp [encP, encI2] at hv; rcases hv with rfl | rfl <;> rfl) (ordP key) (ordP_swo key) 58 #[.pointer (some ⟨bk, 0, none⟩)] g 0 cap ps.toArray W
      (enters_of Try.func58 (by kernel_rfl) rfl)
      (fun m os dk _ x y => (ordS_it bk key x.1 y.1 _ x.2 y.2 (cell_sorting hk hbg m os dk)).mono fun _ _ ⟨h1, h2, h3⟩ => ⟨h1, grown_of_below h2 h3⟩) hH hgl (by rw [hd]; omega)
    rw [hd] at hcon
    refine hcon.mono ?_
    rintro e w' ⟨rfl, d', q, os, hp, hs, hw⟩
    rw [← hd] at hp hs
    have hdz : d'.size = ps.toArray.size := hp.1
    have hl := srt_of_sort (key := key) (by rw [hps]; exact ho) hp hs
    rw [hps] at hl
    have hH' := holdsK_sortWorldK encP 2 W g 0 q ps.toArray d' os hgl hH hdz
    rw [← hw] at hH'
    have hH2 : Sort.HoldsK encI2 2 w' g 0 (srt key es).toArray := by
      unfold Sort.HoldsK at *
      rw [← hl, ← flat_pos]; simpa using hH'
    refine ⟨rfl, wrds_held hH2, ?_⟩
    subst hw
    refine ⟨rfl, rfl, rfl, ?_, fun b hb => ?_⟩
    · show _ ≤ (_ ++ os).size
      simp [Sort.putRowK, Sort.putRow, Sort.mapBlock]
    · show (_ ++ os)[b]? = _
      rw [Array.getElem?_append_left (by simp [Sort.putRowK, Sort.putRow, Sort.mapBlock]; omega)]
      simp only [Sort.putRowK, Sort.putRow, Sort.mapBlock, Array.getElem?_modify]
      rw [if_neg (by omega)]; rfl

/-! ### The longest -/
/-- None of the first k is longer than a, which is one of them. -/
def BestOf (key : UInt64) (es : List It) (k : Nat) (a : It) : Prop := a ∈ es.take k ∧ ∀ b ∈ es.take k, longer key b a = false
theorem best_keep {key : UInt64} {es : List It} {k : Nat} {a b : It} (h : BestOf key es k a) (hb : es[k]? = some b) (hl : longer key b a = false) : BestOf key es (k + 1) a := by
  unfold BestOf at *
  rw [List.take_add_one, hb]
  refine ⟨List.mem_append_left _ h.1, fun c hc => ?_⟩
  rcases List.mem_append.1 hc with hc | hc
  · exact h.2 c hc
  · simp at hc; subst hc; exact hl
theorem best_new {key : UInt64} {es : List It} {k : Nat} {a b : It} (h : BestOf key es k a) (hb : es[k]? = some b) (hl : longer key b a = true) : BestOf key es (k + 1) b := by
  unfold BestOf at *
  rw [List.take_add_one, hb]
  refine ⟨List.mem_append_right _ (by simp), fun c hc => ?_⟩
  rcases List.mem_append.1 hc with hc | hc
  · exact longer_ntr (h.2 c hc) (longer_asym hl)
  · simp at hc; subst hc; exact longer_irr _ _
theorem best_head {key : UInt64} {es : List It} {a : It} (ho : Once es) (h : BestOf key es es.length a) : (srt key es)[0]? = some a := by
  unfold BestOf at h
  rw [List.take_length] at h
  obtain ⟨h1, h2⟩ := h
  cases hs : srt key es with
  | nil =>
    have := (srt_perm key es).mem_iff.2 h1
    rw [hs] at this; cases this
  | cons x xs =>
    have hx : x ∈ es := (srt_perm key es).mem_iff.1 (by rw [hs]; simp)
    have ha : a ∈ x :: xs := by rw [← hs]; exact (srt_perm key es).mem_iff.2 h1
    have hxa : longer key a x = false := by
      rcases List.mem_cons.1 ha with e | e
      · rw [e]; exact longer_irr _ _
      · have h3 := srt_sorted key es
        rw [hs] at h3
        exact (List.pairwise_cons.1 h3).1 a e
    have hid := longer_id hxa (h2 x hx)
    have := ho.inj h1 hx hid
    subst this; rfl
theorem below_undrew {B : Nat} {W V : World} (h : Below B W.drew V) : Below B W V := ⟨h.os, h.tape, h.output, h.size, h.block⟩
theorem best_one {key : UInt64} {es : List It} {a : It} (h : es[0]? = some a) : BestOf key es 1 a := by
  cases es with
  | nil => simp at h
  | cons x xs =>
    simp at h; subst h
    exact ⟨by simp, fun b hb => by simp at hb; subst hb; exact longer_irr _ _⟩
theorem min_after {W wr w2 : World} {a0 a1 v0 v1 : Int} {b o k : Nat} (hb : Below wr.heap.size wr w2) (hA : Known wr (W.heap.size + 1) 47 #[.int .i64 a0, .int .i64 a1]) (hZ : Known wr W.heap.size 47 #[.int .i64 0, .int .i64 0]) (hB : Below W.heap.size W wr)
    (y0 : wr.cell? ⟨b, o + k * 2, none⟩ = some (.int .i64 v0)) (y1 : wr.cell? ⟨b, o + k * 2 + 1, none⟩ = some (.int .i64 v1)) :
    Hid (Known w2 (W.heap.size + 1) 47 #[.int .i64 a0, .int .i64 a1]) ∧ Hid (Known w2 W.heap.size 47 #[.int .i64 0, .int .i64 0]) ∧ Hid (Below W.heap.size W w2) ∧
      w2.cell? ⟨W.heap.size + 1, 0, none⟩ = some (.int .i64 a0) ∧ w2.cell? ⟨W.heap.size + 1, 1, none⟩ = some (.int .i64 a1) ∧ w2.frozen? ⟨W.heap.size + 1, 0, none⟩ = false ∧ w2.frozen? ⟨W.heap.size + 1, 1, none⟩ = false ∧
      w2.cell? ⟨b, o + k * 2, none⟩ = some (.int .i64 v0) ∧ w2.cell? ⟨b, o + k * 2 + 1, none⟩ = some (.int .i64 v1) := by
  have k2 := hA.later hb
  exact ⟨Lib.hid k2, Lib.hid (hZ.later hb), Lib.hid (hB.trans (hb.mono hB.size)), k2.cell 0, k2.cell 1, k2.free 0, k2.free 1, (hb.cell (World.block_lt_of_cell? _ _ y0)).trans y0, (hb.cell (World.block_lt_of_cell? _ _ y1)).trans y1⟩
theorem sizeIt : (Try.prog.info? 47).map (·.size) = some 2 := by kernel_rfl
set_option maxRecDepth 100000 in
set_option maxHeartbeats 4000000 in
theorem min_c (A : Option Addr) (es : List It) (n cap bk : Nat) (key : UInt64) (W : World) (hn : es.length = n) (h16 : n ≤ 16) (h0 : 0 < n) (hpos : ∀ a ∈ es, 0 < a.2 ∧ a.2 ≤ 100) (hx : WRds W A es) (hk : W.cell? ⟨bk, 0, none⟩ = some (.int .u64 key.toNat)) :
    Calls Try.prog 64 #[.slice A n cap, clo bk] W fun e w' => ∃ a, BestOf key es n a ∧ e = .returned (.agg #[.int .i64 a.1, .int .i64 a.2]) ∧ Below W.heap.size W w' := by
  have k0 : 0 < es.length := by omega
  obtain ⟨b, o, rfl, _, x0, x1⟩ := hx.it k0
  have E0 := Lib.hid (show es[0]? = some es[0] from List.getElem?_eq_getElem k0)
  rw [Nat.zero_mul, Nat.add_zero] at x0 x1
  generalize hu : es[0] = u at *
  obtain ⟨u0, u1⟩ := u
  have BO := Lib.hid (best_one (key := key) E0.out)
  have HX := Lib.hid hx
  have HN := Lib.hid hn
  have HK := Lib.hid hk
  have HP := Lib.hid hpos
  have i0 : (0 : Int) < (n : Int) := by omega
  have i1 : ¬ (n : Int) < 1 := by omega
  have i2 : (1 : Int) ≤ (n : Int) := by omega
  clear hu hx hn hk hpos k0 E0
  unfold clo
  go_enter Try.func64, Try.ntmps64
  go_wp2
  go_loopw [6] (fun i wr => ∃ (k : Nat) (a : It), 1 ≤ k ∧ k ≤ n ∧ i = .int .i64 k ∧ BestOf key es k a ∧ Known wr W.heap.size 47 #[.int .i64 0, .int .i64 0] ∧ Known wr (W.heap.size + 1) 47 #[.int .i64 a.1, .int .i64 a.2] ∧ Below W.heap.size W wr) (fun i _ => n - (intOf i).toNat)
  case atStart => exact ⟨1, (u0, u1), by omega, by omega, rfl, BO.out, (Known.made W _ _).alloc _, heap_alloc2_new _ _ _, ((Below.refl _ _).alloc (Nat.le_refl _) _).alloc (by simp) _⟩
  case round =>
    obtain ⟨k, a, hk1, hk, rfl, hb, hZ, hA, hB⟩ := hrel
    have HZ := Lib.hid hZ
    have HA := Lib.hid hA
    have HB := Lib.hid hB
    have HBO := Lib.hid hb
    obtain ⟨a0, a1⟩ := a
    by_cases hlt : k < n
    · have k1 : k < es.length := by rw [HN.out]; exact hlt
      have am : (a0, a1) ∈ es := List.mem_of_mem_take hb.1
      obtain ⟨b', o', e, _, y0, y1⟩ := (HX.out.below hB).it k1
      injection e with e
      injection e with e1 e2
      subst e1 e2
      have EX := Lib.hid (show es[k]? = some es[k] from List.getElem?_eq_getElem k1)
      have CA := Lib.hid (ordS_it bk key es[k] (a0, a1) wr.drew (HP.out _ (List.getElem_mem k1)) (HP.out _ am) ((hB.cell (p := ⟨bk, 0, none⟩) (World.block_lt_of_cell? _ _ HK.out)).trans HK.out))
      have OL := Lib.hid (ordS_lt (key := key) (a := es[k]) (b := (a0, a1)) (HP.out _ (List.getElem_mem k1)).2 (HP.out _ am).2)
      generalize hv : es[k] = v at *
      obtain ⟨v0, v1⟩ := v
      have c0 := hA.cell 0
      have c1 := hA.cell 1
      have f0 := hA.free 0
      have f1 := hA.free 1
      have j1 : (k : Int) < (n : Int) := by omega
      have MA := Lib.hid (fun w2 hb => min_after (w2 := w2) hb hA hZ hB y0 y1)
      clear hv k1 am hb hZ hA hB x0 x1
      cases hlg : longer key (v0, v1) (a0, a1) with
      | true =>
        have r1 : decide (ordS key (v0, v1) (a0, a1) < 0) = true := by rw [OL.out, hlg]
        have BN := Lib.hid (best_new HBO.out EX.out hlg)
        generalize ordS key (v0, v1) (a0, a1) = r at *
        clear hlg OL
        have r2 : r < 0 := of_decide_eq_true r1
        go_wp2
        refine Mem.region_tail 6 (by kernel_rfl) (by kernel_rfl) ?_
        simp only [List.take_succ_cons, List.take_zero, List.drop_succ_cons, List.drop_zero]
        repeat still_step
        refine wpStill_nil ?_
        go_wp2_with (go_at_call 58; refine CA.out.mono ?_; rintro e w2 ⟨rfl, hb, -⟩; obtain ⟨K2, Z2, B2, d0, d1, g0, g1, t0, t1⟩ := MA.out w2 (below_undrew hb); clear hb)
        go_roundw
        case rel => exact ⟨k + 1, (v0, v1), by omega, by omega, by go_num, BN.out, Known.off (p := ⟨W.heap.size + 1, 1, none⟩) (Known.off (p := ⟨W.heap.size + 1, 0, none⟩) Z2.out (by show W.heap.size ≠ W.heap.size + 1; omega) _) (by show W.heap.size ≠ W.heap.size + 1; omega) _, (K2.out.put 0 (.int .i64 v0)).put 1 (.int .i64 v1), (B2.out.setCell (Nat.le_succ _) _).setCell (Nat.le_succ _) _⟩
        case measure => simp [intOf]; omega
      | false =>
        have r1 : decide (ordS key (v0, v1) (a0, a1) < 0) = false := by rw [OL.out, hlg]
        have BN := Lib.hid (best_keep HBO.out EX.out hlg)
        generalize ordS key (v0, v1) (a0, a1) = r at *
        clear hlg OL
        have r2 : ¬ r < 0 := of_decide_eq_false r1
        go_wp2
        refine Mem.region_tail 6 (by kernel_rfl) (by kernel_rfl) ?_
        simp only [List.take_succ_cons, List.take_zero, List.drop_succ_cons, List.drop_zero]
        repeat still_step
        refine wpStill_nil ?_
        go_wp2_with (go_at_call 58; refine CA.out.mono ?_; rintro e w2 ⟨rfl, hb, -⟩; obtain ⟨K2, Z2, B2, d0, d1, g0, g1, t0, t1⟩ := MA.out w2 (below_undrew hb); clear hb)
        go_roundw
        case rel => exact ⟨k + 1, (a0, a1), by omega, by omega, by go_num, BN.out, Z2.out, K2.out, B2.out⟩
        case measure => simp [intOf]; omega
    · obtain rfl : k = n := by omega
      have c0 := hA.cell 0
      have c1 := hA.cell 1
      have z0 := hZ.cell 0
      have z1 := hZ.cell 1
      have f0 := hZ.free 0
      have f1 := hZ.free 1
      clear hb hZ hA hB x0 x1
      go_wp2
      refine bodyPost_ret (v := .agg #[.int .i64 a0, .int .i64 a1]) ?_ rfl ⟨a0, a1, HBO.out, rfl, (HB.out.setCell (Nat.le_refl _) _).setCell (Nat.le_refl _) _⟩
      exact results_cell_row rfl _ _ W.heap.size 47 _ (0, 0) _ rfl ((HZ.out.put 0 (.int .i64 a0)).put 1 (.int .i64 a1)) fieldsIt rfl sizeIt
end Go.Proofs.Ytcbecpgllebepaa.Straw
