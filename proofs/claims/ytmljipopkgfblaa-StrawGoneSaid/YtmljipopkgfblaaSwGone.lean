/-
  What StrawGone takes of the library: DeleteFunc; and lists without one item.
-/
import Derived.Test.YtmljipopkgfblaaSwApp
import Derived.Test.YtmljipopkgfblaaSwFuncs
import Derived.Test.YtmljipopkgfblaaShFuncs
import Derived.Test.YtmljipopkgfblaaShIdx
namespace Go.Proofs.Ytmljipopkgfblaa.Straw
set_option linter.unusedVariables false
set_option linter.unusedSimpArgs false
open Go.RowKit Mem
open Go.Sort (grow alloc_eq_grow grow_grow putRow Holds)

/-! ### Lists -/
def less (l : List It) (k : Nat) : List It := l.take k ++ l.drop (k + 1)
theorem less_eq {l : List It} {k : Nat} {u : It} (ho : Once l) (hu : l[k]? = some u) : less l k = l.filter (fun a => a.1 != u.1) := by
  obtain ⟨h1, h2⟩ := List.getElem?_eq_some_iff.1 hu
  have e : l = l.take k ++ u :: l.drop (k + 1) := by
    rw [← h2, ← List.drop_eq_getElem_cons h1, List.take_append_drop]
  have ho' := ho
  rw [e] at ho'
  unfold Once at ho'
  rw [List.map_append, List.map_cons, List.nodup_append] at ho'
  obtain ⟨_, s2, s3⟩ := ho'
  have f1 : (l.take k).filter (fun a => a.1 != u.1) = l.take k := List.filter_eq_self.2 fun a ha => by
    have := s3 a.1 (List.mem_map.2 ⟨a, ha, rfl⟩) u.1 (by simp)
    simpa using this
  have f2 : (l.drop (k + 1)).filter (fun a => a.1 != u.1) = l.drop (k + 1) := List.filter_eq_self.2 fun a ha => by
    have h := (List.nodup_cons.1 s2).1
    have : a.1 ≠ u.1 := fun e => h (List.mem_map.2 ⟨a, ha, e⟩)
    simpa using this
  unfold less
  have e2 := congrArg (List.filter (fun a : It => a.1 != u.1)) e
  rw [List.filter_append, List.filter_cons, if_neg (by simp), f1, f2] at e2
  exact e2.symm
theorem less_len {l : List It} {k : Nat} (h : k < l.length) : (less l k).length = l.length - 1 := by unfold less; simp; omega
theorem less_valid {l : List It} {k : Nat} {u : It} (hv : Valid l) (hu : l[k]? = some u) : Valid (less l k) := by
  have h1 := (List.getElem?_eq_some_iff.1 hu).1
  refine ⟨by rw [less_len h1]; have := hv.1; omega, fun a ha => ?_, ?_⟩
  · rw [less_eq hv.2.2 hu] at ha
    exact hv.2.1 a (List.mem_filter.1 ha).1
  · rw [less_eq hv.2.2 hu]; exact hv.2.2.filter _
theorem less_fits {l : List It} {k : Nat} (hf : Fits l) : Fits (less l k) := fun a ha => by
  unfold less at ha
  rcases List.mem_append.1 ha with h | h
  · exact hf a (List.mem_of_mem_take h)
  · exact hf a (List.mem_of_mem_drop h)
theorem filter_take_prefix (l : List Int) (p : Int → Bool) (k : Nat) : (l.filter p).take ((l.take k).filter p).length = (l.take k).filter p := by
  have h := congrArg (List.filter p) (List.take_append_drop k l)
  rw [List.filter_append] at h
  rw [← h, List.take_left' rfl]
/-- What is selected without one item. -/
theorem gone_some {key : UInt64} {l : List It} {k j : Nat} {u : It} (hu : l[k]? = some u) (h : someE key l j = 0) :
    someE key (less l k) ((((ids key l).take j).filter (fun x => x != u.1)).length : Int) = 0 ∧ someL key (less l k) ((((ids key l).take j).filter (fun x => x != u.1)).length : Int) = ((ids key l).take j).filter (fun x => x != u.1) := by
  obtain ⟨hv, ⟨_, hj⟩, hjl⟩ := someE_zero.1 h
  have hm : ids key (less l k) = (ids key l).filter (fun x => x != u.1) := by rw [less_eq hv.2.2 hu, ids_without hv.2.2]
  have hpre := filter_take_prefix (ids key l) (fun x => x != u.1) j
  have hlen : (((ids key l).take j).filter (fun x => x != u.1)).length ≤ 16 := Nat.le_trans (List.length_filter_le _ _) (by rw [List.length_take]; omega)
  have hle : (((ids key l).take j).filter (fun x => x != u.1)).length ≤ ((ids key l).filter (fun x => x != u.1)).length := by
    have := congrArg List.length hpre
    rw [List.length_take] at this; omega
  have h0 : someE key (less l k) ((((ids key l).take j).filter (fun x => x != u.1)).length : Int) = 0 := someE_zero.2 ⟨less_valid hv hu, by omega, by rw [hm]; omega⟩
  refine ⟨h0, ?_⟩
  unfold someL
  rw [h0, if_pos rfl, hm, Int.toNat_natCast, hpre]

theorem wrds_drop {W : World} {b o : Nat} {l : List It} (h : WRds W (some ⟨b, o, none⟩) l) (k : Nat) : WRds W (some ⟨b, o + k * 2, none⟩) (l.drop k) := fun j e hj => by
  rw [List.getElem?_drop] at hj
  obtain ⟨b', o', e', h2, h3, h4⟩ := h _ e hj
  injection e' with e'
  injection e' with e1 e2
  subst e1 e2
  rw [show o + (k + j) * 2 = o + k * 2 + j * 2 by omega] at h3 h4
  exact ⟨b, _, rfl, h2, h3, h4⟩
theorem below_undrew' {B : Nat} {W V : World} (h : Below B W.drew V) : Below B W V := ⟨h.os, h.tape, h.output, h.size, h.block⟩
/-- What an append to a slice of the call's own leaves. -/
theorem below_app {w2 w3 w4 : World} {B : Nat} {v : Value} {es : List It} (hb : Below w2.heap.size w2 w3) (hT : WTab w3 B v es) (hB : w2.heap.size ≤ B) (hg : w3.grownBy w4 v.ownBlock) : Below w2.heap.size w2 w4 :=
  hb.grown hg hb.size fun k hk => Nat.le_trans hB (hT.lt k hk).1

/-! ### DeleteFunc -/
/-- What the closure reads. -/
def GC (V : World) (b5 b6 b o n ca k : Nat) (id : Int) : Prop :=
  V.cell? ⟨b5, 0, none⟩ = some (.slice (some ⟨b, o, none⟩) n ca) ∧ V.cell? ⟨b6, 0, none⟩ = some (.int .i64 k) ∧ V.cell? ⟨b, o + k * 2, none⟩ = some (.int .i64 id)
theorem GC.later {B : Nat} {V V' : World} {b5 b6 b o n ca k : Nat} {id : Int} (h : GC V b5 b6 b o n ca k id) (hb : Below B V V') (h5 : b5 < B) (h6 : b6 < B) (h7 : b < B) : GC V' b5 b6 b o n ca k id :=
  ⟨(hb.cell (p := ⟨b5, 0, none⟩) h5).trans h.1, (hb.cell (p := ⟨b6, 0, none⟩) h6).trans h.2.1, (hb.cell (p := ⟨b, _, none⟩) h7).trans h.2.2⟩
set_option maxRecDepth 100000 in
theorem clos_eq (b5 b6 b o n ca k : Nat) (x id : Int) (V : World) (hk : k < n) (h : GC V b5 b6 b o n ca k id) :
    Calls Try.prog 20 #[.int .i64 x, .pointer (some ⟨b5, 0, none⟩), .pointer (some ⟨b6, 0, none⟩)] V fun e w' => e = .returned (.bool (decide (x = id))) ∧ ∃ q, w' = V.drewN q := by
  obtain ⟨c5, c6, c7⟩ := h
  have i1 : (k : Int) < (n : Int) := by omega
  by_cases e : x = id
  · have E := Lib.hid (show decide (x = id) = true from decide_eq_true e)
    have n1 : (x == id) = true := by simp [e]
    clear e
    go_enter Try.func20, Try.ntmps20
    go_wp2
    go_ret
    exact ⟨by rw [E.out]; rfl, 0, rfl⟩
  · have E := Lib.hid (show decide (x = id) = false from decide_eq_false e)
    have n1 : (x == id) = false := by simp [e]
    clear e
    go_enter Try.func20, Try.ntmps20
    go_wp2
    go_ret
    exact ⟨by rw [E.out]; rfl, 0, rfl⟩
def cloG (b5 b6 : Nat) : Value := .func (.func 20) #[] #[.pointer (some ⟨b5, 0, none⟩), .pointer (some ⟨b6, 0, none⟩)]
theorem below_grow {B : Nat} {W V : World} (h : Below B W V) (hs : B ≤ V.heap.size) (os : Array Obj) : Below B W (grow V os) := by
  refine ⟨h.os, h.tape, h.output, ?_, fun b hb => ?_⟩
  · show _ ≤ (V.heap ++ os).size
    rw [Array.size_append]; have := h.size; omega
  · have h1 := h.block b hb
    show (V.heap ++ os)[b]? = _
    rw [Array.getElem?_append_left (by omega)]; exact h1
set_option maxRecDepth 100000 in
theorem deleteF_c (B : Nat) (A : Option Addr) (l : List Int) (n c b5 b6 b o n' ca k : Nat) (id : Int) (W : World) (hn : l.length = n) (hbig : n ≤ 400) (hz : ZTab W B (.slice A n c) l) (hk : k < n') (hg : GC W b5 b6 b o n' ca k id) (h5 : b5 < B) (h6 : b6 < B) (h7 : b < B) :
    Calls Try.prog 18 #[.slice A n c, cloG b5 b6] W fun e W' =>
      e = .returned (.slice A (l.filter (fun x => x != id)).length c) ∧ Reads W' A ((l.filter (fun x => x != id)).map (Value.int .i64)) ∧ Below B W W' := by
  unfold cloG
  subst hn
  rcases Nat.eq_zero_or_pos l.length with h0 | h0
  · obtain rfl := List.eq_nil_of_length_eq_zero h0
    have IE := Lib.hid (fun V => AnyE.slices_IndexFunc_empty Try.indexFInt A c (.func (.func 20) #[] #[.pointer (some ⟨b5, 0, none⟩), .pointer (some ⟨b6, 0, none⟩)]) V)
    clear hz hg
    go_enter Try.func18, Try.ntmps18
    go_wp2_with (go_at_call 37; refine (IE.out _).mono ?_; rintro e w' ⟨rfl, rfl⟩)
    go_ret
    exact ⟨rfl, Reads.nil, Below.refl _ _⟩
  · obtain ⟨g, rfl, _, hgB, hgl, hc⟩ := z_head hz h0
    have hH := z_holds hz rfl
    have hs : l.toArray.size = l.length := by simp
    have H := AnyE.slices_DeleteFunc Try.deleteInt (Value.int .i64) (fun _ => rfl) (fun x : Int => decide (x = id)) 20 #[.pointer (some ⟨b5, 0, none⟩), .pointer (some ⟨b6, 0, none⟩)] (enters_of Try.func20 (by kernel_rfl) rfl) 0 Try.zeroValue3
      g 0 c l.toArray W (fun V x hb => clos_eq b5 b6 b o n' ca k x id V hk (hg.later hb (by omega) (by omega) (by omega)))
      (fun m os dk x _ => clos_eq b5 b6 b o n' ca k x id _ hk (by
        have h1 : Below B W (putRow (Value.int .i64) (Sort.ahead W m) g 0 dk) := below_put hgB
        exact hg.later (below_grow h1 (Nat.le_trans (show B ≤ W.heap.size by omega) h1.size) os) h5 h6 h7))
      hH (by rw [hs]; omega) (by rw [hs]; exact hc)
    rw [hs] at H
    refine H.mono ?_
    rintro e w ⟨rfl, q, rfl⟩
    have ef : (l.toArray.toList.filter fun x => !decide (x = id)) = l.filter (fun x => x != id) := by
      refine List.filter_congr (fun x _ => ?_)
      by_cases e : x = id <;> simp [e]
    rw [ef]
    refine ⟨rfl, ?_, below_put hgB⟩
    have hlen : (l.filter (fun x => x != id)).length ≤ l.length := List.length_filter_le _ _
    refine holds_reads (Sort.holds_putRow (Value.int .i64) (Sort.ahead W q) g 0 l.toArray _ (Sort.holds_ahead _ _ _ _ _ _ hH) (by simp; omega)) (k := (l.filter (fun x => x != id)).length) ?_
    rw [List.take_left' rfl]
end Go.Proofs.Ytmljipopkgfblaa.Straw
