/-
  slices.DeleteFunc of spots, with the closure that CrushGone hands to it.
-/
import Derived.Test.YtcbecpgllebepaaCrTab
import Derived.Test.YtcbecpgllebepaaCrEqS
import Derived.Test.YtcbecpgllebepaaCrIdx
import Derived.Test.YtcbecpgllebepaaShIdx
import Derived.Lib.SliceRun
import Derived.Lib.LazyBuf
import Derived.BigQuiet
namespace Go.Proofs.Ytcbecpgllebepaa.Crush
set_option linter.unusedVariables false
set_option linter.unusedSimpArgs false
open Go.RowKit Mem Straw

/-! ### The closure -/
/-- What the closure reads. -/
def GCh (V : World) (b5 b6 b o n ca k : Nat) (id : Int) : Prop :=
  V.cell? ⟨b5, 0, none⟩ = some (.slice (some ⟨b, o, none⟩) n ca) ∧ V.cell? ⟨b6, 0, none⟩ = some (.int .i64 k) ∧ V.cell? ⟨b, o + k * 2, none⟩ = some (.int .i64 id)
theorem GCh.later {B : Nat} {V V' : World} {b5 b6 b o n ca k : Nat} {id : Int} (h : GCh V b5 b6 b o n ca k id) (hb : Below B V V') (h5 : b5 < B) (h6 : b6 < B) (h7 : b < B) : GCh V' b5 b6 b o n ca k id :=
  ⟨(hb.cell (p := ⟨b5, 0, none⟩) h5).trans h.1, (hb.cell (p := ⟨b6, 0, none⟩) h6).trans h.2.1, (hb.cell (p := ⟨b, _, none⟩) h7).trans h.2.2⟩
set_option maxRecDepth 100000 in
set_option maxHeartbeats 4000000 in
theorem gone1_c (b5 b6 b o n ca k : Nat) (s : It) (id : Int) (V : World) (hk : k < n) (h : GCh V b5 b6 b o n ca k id) :
    Calls Try.prog 24 #[.agg #[.int .i64 s.1, .int .i64 s.2], .pointer (some ⟨b5, 0, none⟩), .pointer (some ⟨b6, 0, none⟩)] V (Gave (.bool (decide (s.1 = id))) V) := by
  obtain ⟨c5, c6, c7⟩ := h
  obtain ⟨x, y⟩ := s
  have i1 : (k : Int) < (n : Int) := by omega
  have i2 : (0 : Int) ≤ (k : Int) := by omega
  obtain ⟨d0, d1⟩ := boxS V (.int .i64 x) (.int .i64 y)
  have k5 := box_old (.cells #[.int .i64 x, .int .i64 y] 31) c5
  have k6 := box_old (.cells #[.int .i64 x, .int .i64 y] 31) c6
  have k7 := box_old (.cells #[.int .i64 x, .int .i64 y] 31) c7
  have HB := Lib.hid ((Below.refl V.heap.size V).alloc (Nat.le_refl _) (.cells #[.int .i64 x, .int .i64 y] 31))
  clear c5 c6 c7 d1
  by_cases e : x = id
  · have E := Lib.hid (show decide (x = id) = true from decide_eq_true e)
    have n1 : (x == id) = true := by simp [e]
    clear e
    go_enter Try.func24, Try.ntmps24
    go_wp2
    go_quiet (fail)
    go_wp2
    go_ret
    exact ⟨by rw [E.out]; rfl, below_drewN HB.out _⟩
  · have E := Lib.hid (show decide (x = id) = false from decide_eq_false e)
    have n1 : (x == id) = false := by simp [e]
    clear e
    go_enter Try.func24, Try.ntmps24
    go_wp2
    go_quiet (fail)
    go_wp2
    go_ret
    exact ⟨by rw [E.out]; rfl, below_drewN HB.out _⟩
def cloH (b5 b6 : Nat) : Value := .func (.func 24) #[] #[.pointer (some ⟨b5, 0, none⟩), .pointer (some ⟨b6, 0, none⟩)]

/-! ### IndexFunc -/
set_option maxHeartbeats 2000000 in
theorem indexF_none (D : Option Addr) (c b5 b6 : Nat) (V : World) : Calls Try.prog 37 #[.slice D 0 c, cloH b5 b6] V (Gave (.int .i64 (-1)) V) := by
  unfold cloH
  go_enter Try.func37, Try.ntmps37
  go_wp2
  go_loopw [8] (fun i wr => i = .int .i64 0 ∧ Below V.heap.size V wr) (fun _ _ => 0)
  case atStart => exact ⟨rfl, Below.refl _ _⟩
  case round =>
    obtain ⟨rfl, hb⟩ := hrel
    have HR := Lib.hid hb
    clear hb
    go_wp2
    go_ret
    exact ⟨rfl, HR.out⟩
theorem indexF_c (b5 b6 b o n' ca k : Nat) (id : Int) (hk : k < n') (g : Nat) (l : List It) (n c : Nat) (V : World) (hn : l.length = n) (hb : n ≤ 8796093022208) (h0 : 0 < n) (hx : WRds V (some ⟨g, 0, none⟩) l) (hg : GCh V b5 b6 b o n' ca k id) :
    Calls Try.prog 37 #[.slice (some ⟨g, 0, none⟩) n c, cloH b5 b6] V (Gave (.int .i64 (Lib.idxBy (fun _ y : It => decide (y.1 = id)) (l.take n) default)) V) := by
  have h5 := World.block_lt_of_cell? _ _ hg.1
  have h6 := World.block_lt_of_cell? _ _ hg.2.1
  have h7 := World.block_lt_of_cell? _ _ hg.2.2
  have hgl : g < V.heap.size := by obtain ⟨b', o', e, h, _⟩ := hx 0 l[0] (List.getElem?_eq_getElem (by omega)); injection e with e; injection e with e1 e2; omega
  have H := AnyQ.slices_IndexFunc Try.indexSpot 2 Try.isAgg31 Try.sizeOf31 enc2 (fun _ => rfl) (fun z : It => decide (z.1 = id)) 24 #[.pointer (some ⟨b5, 0, none⟩), .pointer (some ⟨b6, 0, none⟩)]
    (enters_of Try.func24 (by kernel_rfl) rfl) g 0 n c l V
    (fun W z hb => (gone1_c b5 b6 b o n' ca k z id W hk (hg.later hb h5 h6 h7)).mono fun _ _ ⟨he, hb2⟩ => ⟨he, hb.trans (hb2.mono hb.size)⟩)
    (by omega) (by omega) hgl (enc_cells hx rfl)
  exact H

/-! ### Cells that are cleared -/
theorem zeroSp : ∀ w : World, (zeroValue 31).run Try.prog w = .ok (.agg #[.int .i64 0, .int .i64 0]) w := fun _ => by kernel_rfl
theorem zero_two (n : Nat) : (Builtin.zeroCells (Value.agg #[.int .i64 0, .int .i64 0]).cells n).toList = List.replicate (n * 2) (.int .i64 0) := by
  have e : (Value.agg #[.int .i64 0, .int .i64 0]).cells = #[.int .i64 0, .int .i64 0] := rfl
  rw [e]
  unfold Builtin.zeroCells
  apply List.ext_getElem
  · simp
  · intro i h1 h2
    simp at h1
    have : i % 2 = 0 ∨ i % 2 = 1 := by omega
    rcases this with h | h <;> simp [h]
theorem run_clear_spots (w : World) (ty : TypeId) (g o n c : Nat) (hn : 0 < n) (hc : ∀ j, j < n * 2 → (w.cell? ⟨g, o + j, none⟩).isSome = true) (hf : ∀ j, w.frozen? ⟨g, j, none⟩ = false) :
    (Builtin.clear_ #[24] ty #[.slice (some ⟨g, o, none⟩) n c]).run Try.prog w = .ok (.tuple #[]) (w.setCells g o (List.replicate (n * 2) (.int .i64 0))) := by
  have hst := run_storeCells_cells (P := Try.prog) g o (List.replicate (n * 2) (.int .i64 0)) 0 w (by simpa using hc) (fun j _ => hf _) (by intro v hv'; rw [List.eq_of_mem_replicate hv']; rfl)
  simp only [Nat.add_zero] at hst
  obtain ⟨m, rfl⟩ : ∃ m, n = m + 1 := ⟨n - 1, by omega⟩
  simp [Builtin.clear_, run_underlying Try.underlying24, zeroSp, zero_two, hst]

/-! ### Deleting -/
def keepS (id : Int) (s : It) : Bool := s.1 != id
theorem keep_none {l : List It} {id : Int} (h : ∀ j, j < l.length → decide ((l[j]!).1 = id) = false) : l.filter (keepS id) = l := List.filter_eq_self.2 fun s hs => by
  obtain ⟨j, hj⟩ := List.mem_iff_getElem?.1 hs
  obtain ⟨h1, h2⟩ := List.getElem?_eq_some_iff.1 hj
  have := h j h1
  rw [getElem!_pos l j h1, h2] at this
  simpa [keepS] using this
theorem keep_step {l : List It} {id : Int} {j : Nat} {s : It} (h : l[j]? = some s) : (l.take (j + 1)).filter (keepS id) = (l.take j).filter (keepS id) ++ if keepS id s then [s] else [] := by
  rw [List.take_add_one, h, List.filter_append]
  congr 1
  simp only [Option.toList_some, List.filter_cons, List.filter_nil]
theorem at_drop {cur l : List It} {j : Nat} (h : cur.drop j = l.drop j) : cur[j]? = l[j]? := by
  have := congrArg (fun x => x[0]?) h
  simpa using this
theorem drop_next {cur l : List It} {j : Nat} (h : cur.drop j = l.drop j) : cur.drop (j + 1) = l.drop (j + 1) := by
  have := congrArg (List.drop 1) h
  simpa [List.drop_drop] using this
theorem set_take {cur : List It} {q : Nat} {s : It} (h : q < cur.length) : (cur.set q s).take (q + 1) = cur.take q ++ [s] := by
  rw [List.take_add_one, List.getElem?_set_self h, List.take_set_of_le (by omega)]; rfl
theorem set_drop {cur : List It} {q j : Nat} {s : It} (h : q < j) : (cur.set q s).drop j = cur.drop j := List.drop_set_of_lt h
theorem stab_at {W : World} {B g n c k : Nat} {es : List It} (h : STab W B (.slice (some ⟨g, 0, none⟩) n c) es) {s : It} (hk : es[k]? = some s) : W.cell? ⟨g, k * 2, none⟩ = some (.int .i64 s.1) ∧ W.cell? ⟨g, k * 2 + 1, none⟩ = some (.int .i64 s.2) := by
  obtain ⟨b', o', e, _, c0, c1⟩ := h.rds k s hk
  injection e with e
  injection e with e1 e2
  subst e1 e2
  rw [Nat.zero_add] at c0 c1
  exact ⟨c0, c1⟩
theorem stab_any {W : World} {B g n c k : Nat} {es : List It} (h : STab W B (.slice (some ⟨g, 0, none⟩) n c) es) (hn : es.length = n) (hk : k < n) :
    (∃ u v, W.cell? ⟨g, k * 2, none⟩ = some u ∧ W.cell? ⟨g, k * 2 + 1, none⟩ = some v) ∧ W.frozen? ⟨g, k * 2, none⟩ = false ∧ W.frozen? ⟨g, k * 2 + 1, none⟩ = false := by
  obtain ⟨c0, c1⟩ := stab_at h (List.getElem?_eq_getElem (show k < es.length by omega))
  exact ⟨⟨_, _, c0, c1⟩, h.free hn.symm _, h.free hn.symm _⟩
theorem stab_some {W : World} {B g n c : Nat} {es : List It} (h : STab W B (.slice (some ⟨g, 0, none⟩) n c) es) (hn : es.length = n) (q : Nat) : ∀ j, j < (n - q) * 2 → (W.cell? ⟨g, q * 2 + j, none⟩).isSome = true := fun j hj => by
  obtain ⟨⟨u, v, c0, c1⟩, _⟩ := stab_any h hn (k := q + j / 2) (by omega)
  have hm : j % 2 = 0 ∨ j % 2 = 1 := by omega
  rcases hm with hm | hm
  · rw [show q * 2 + j = (q + j / 2) * 2 by omega, c0]; rfl
  · rw [show q * 2 + j = (q + j / 2) * 2 + 1 by omega, c1]; rfl
/-- The front is what is kept; what lies behind it is cleared. -/
theorem front_rds {W : World} {B g n c q : Nat} {es ks : List It} (h : STab W B (.slice (some ⟨g, 0, none⟩) n c) es) (hn : es.length = n) (hq : q ≤ n) (hk : es.take q = ks) (vs : List Value) : WRds (W.setCells g (q * 2) vs) (some ⟨g, 0, none⟩) ks := fun k s hs => by
  have hkl := (List.getElem?_eq_some_iff.1 hs).1
  have hql : k < q := by rw [← hk, List.length_take] at hkl; omega
  rw [← hk, List.getElem?_take_of_lt hql] at hs
  obtain ⟨c0, c1⟩ := stab_at h hs
  have hlt := World.block_lt_of_cell? _ _ c0
  refine ⟨g, 0, rfl, ?_, ?_, ?_⟩
  · have := (World.keptBut_setCells g (may := fun _ => True) vs (q * 2) W (fun _ _ => trivial))
    have hb := Go.below_setCells (B := 0) (Nat.zero_le g) vs (q * 2) W (Below.refl 0 W)
    exact Nat.lt_of_lt_of_le hlt hb.size
  · rw [Nat.zero_add, World.cell?_setCells_out g vs (q * 2) W ⟨g, k * 2, none⟩ (fun _ _ => .inl (by show k * 2 < q * 2; omega))]; exact c0
  · rw [Nat.zero_add, World.cell?_setCells_out g vs (q * 2) W ⟨g, k * 2 + 1, none⟩ (fun _ _ => .inl (by show k * 2 + 1 < q * 2; omega))]; exact c1
set_option maxRecDepth 100000 in
set_option maxHeartbeats 8000000 in
theorem del_loop (B g : Nat) (l : List It) (n c b5 b6 b o n' ca k i0 : Nat) (id : Int) (s0 : It) (W : World) (hn : l.length = n) (hbig : n ≤ 16) (hz : STab W B (.slice (some ⟨g, 0, none⟩) n c) l) (hk : k < n') (hg : GCh W b5 b6 b o n' ca k id) (h5 : b5 < B) (h6 : b6 < B) (h7 : b < B)
    (hs0 : l[i0]? = some s0) (he0 : s0.1 = id) (hfirst : ∀ j, j < i0 → decide ((l[j]!).1 = id) = false) :
    Calls Try.prog 22 #[.slice (some ⟨g, 0, none⟩) n c, cloH b5 b6] W fun e W' => ∃ m, (l.filter (keepS id)).length = m ∧ m ≤ c ∧ e = .returned (.slice (some ⟨g, 0, none⟩) m c) ∧ WRds W' (some ⟨g, 0, none⟩) (l.filter (keepS id)) ∧ Below B W W' := by
  have hi0 : i0 < n := by rw [← hn]; exact (List.getElem?_eq_some_iff.1 hs0).1
  have hgB : B ≤ g ∧ g < W.heap.size := by
    obtain ⟨g', e, _, h1, h2⟩ := hz.head (by omega)
    injection e with e; injection e with e1 e2; subst e1; exact ⟨h1, h2⟩
  have hBW : B ≤ W.heap.size := by omega
  have hcap : n ≤ c := by
    obtain ⟨A', c', e, h1, _⟩ := hz.form
    injection e with e1 e2 e3; omega
  have IX := Lib.hid (indexF_c b5 b6 b o n' ca k id hk g l n c W hn (by omega) (by omega) hz.rds hg)
  have IV := Lib.hid (show Lib.idxBy (fun _ y : It => decide (y.1 = id)) (l.take n) default = (i0 : Int) from Lib.idxBy_hit (fun _ y : It => decide (y.1 = id)) l n i0 default hi0 (by omega) (by
    obtain ⟨h1, h2⟩ := List.getElem?_eq_some_iff.1 hs0
    rw [getElem!_pos l i0 h1, h2]; exact decide_eq_true he0) hfirst)
  have hp0 : (l.take (i0 + 1)).filter (keepS id) = l.take i0 := by
    rw [keep_step hs0, keep_none (l := l.take i0) (fun j hj => by
      rw [List.length_take] at hj
      have h := hfirst j (by omega)
      rw [getElem!_pos l j (by omega)] at h
      rw [getElem!_pos _ j (by rw [List.length_take]; omega), List.getElem_take]; exact h)]
    have : keepS id s0 = false := by simp [keepS, he0]
    rw [this]; simp
  rw [IV.out] at IX
  have P0 := Lib.hid hp0
  have HN := Lib.hid hn
  have HG := Lib.hid hg
  have Z0 := Lib.hid hz
  have CL := Lib.hid (fun s V (hB : Below B W V) => gone1_c b5 b6 b o n' ca k s id V hk (hg.later hB h5 h6 h7))
  have CZ := Lib.hid (fun (q : Nat) (hq : q < n) (w : World) (cur : List It) (h : STab w B (.slice (some ⟨g, 0, none⟩) n c) cur) (hl : cur.length = n) => fun ty => run_clear_spots w ty g (q * 2) (n - q) (c - q) (by omega) (stab_some h hl q) (fun j => h.free hl.symm j))
  have wi : IntKind.i64.wrap ((i0 : Int) + 1) = ((i0 + 1 : Nat) : Int) := by rw [IntWalk.i64_in _ (by omega)]; simp
  have nm : ((i0 : Int) == -1) = false := by rw [beq_eq_false_iff_ne]; omega
  unfold cloH at IX ⊢
  clear hp0 hn hg hz hs0 he0 hfirst hk h5 h6 h7 IV
  go_enter Try.func22, Try.ntmps22
  go_wp2_with fail
  refine IX.out.mono ?_
  rintro e w1 ⟨rfl, hb1⟩
  have Z1 := Lib.hid (Z0.out.later hb1)
  have B1 := Lib.hid (hb1.mono hBW)
  clear hb1 IX Z0 HG
  go_wp2
  go_loopw [5, 6] (fun vi vj wr => ∃ (q j : Nat) (cur : List It), q < j ∧ j ≤ n ∧ vi = .int .i64 q ∧ vj = .int .i64 j ∧ STab wr B (.slice (some ⟨g, 0, none⟩) n c) cur ∧ cur.length = n ∧ cur.take q = (l.take j).filter (keepS id) ∧ cur.drop j = l.drop j ∧ Below B W wr) (fun _ vj _ => n - (intOf vj).toNat)
  case atStart => exact ⟨i0, i0 + 1, l, by omega, by omega, rfl, by go_num, Z1.out, HN.out, P0.out.symm, rfl, B1.out⟩
  case round =>
    obtain ⟨q, j, cur, hqj, hj, rfl, rfl, hT, hcl, htk, hdr, hB⟩ := hrel
    have HT := Lib.hid hT
    have HCL := Lib.hid hcl
    have HTK := Lib.hid htk
    have HDR := Lib.hid hdr
    have HB := Lib.hid hB
    clear hT hcl htk hdr hB
    by_cases hlt : j < n
    · have jl : j < l.length := by rw [HN.out]; exact hlt
      obtain ⟨s, hs⟩ : ∃ s, l[j]? = some s := ⟨_, List.getElem?_eq_getElem jl⟩
      have hcur : cur[j]? = some s := by rw [at_drop HDR.out]; exact hs
      obtain ⟨y0, y1⟩ := stab_at HT.out hcur
      have KS := Lib.hid (keep_step (id := id) hs)
      obtain ⟨x0, x1⟩ := s
      obtain ⟨d0, d1⟩ := boxS wr (.int .i64 x0) (.int .i64 x1)
      have LA := Lib.hid ((Below.refl wr.heap.size wr).alloc (Nat.le_refl _) (.cells #[.int .i64 x0, .int .i64 x1] 31))
      have HT2 := Lib.hid (HT.out.alloc (.cells #[.int .i64 x0, .int .i64 x1] 31))
      have HB2 := Lib.hid (HB.out.alloc (Nat.le_trans hBW HB.out.size) (.cells #[.int .i64 x0, .int .i64 x1] 31))
      have CC := Lib.hid (CL.out (x0, x1) _ HB2.out)
      have j1 : (j : Int) < (n : Int) := by omega
      have w1' : IntKind.i64.wrap ((j : Int) + 1) = ((j + 1 : Nat) : Int) := by rw [IntWalk.i64_in _ (by omega)]; simp
      have w2' : IntKind.i64.wrap ((q : Int) + 1) = ((q + 1 : Nat) : Int) := by rw [IntWalk.i64_in _ (by omega)]; simp
      have q1 : (q : Int) < (n : Int) := by omega
      clear hs hcur jl
      by_cases he : x0 = id
      · have CF := Lib.hid (show decide (x0 = id) = true from decide_eq_true he)
        have KF := Lib.hid (show (l.take (j + 1)).filter (keepS id) = (l.take j).filter (keepS id) by rw [KS.out, show keepS id (x0, x1) = false by simp [keepS, he]]; simp)
        clear he
        go_wp2_with (go_at_call 24; refine CC.out.mono ?_; rintro e w2 ⟨rfl, hb2⟩; rw [CF.out]; have T2 := Lib.hid (HT2.out.later hb2); have B2 := Lib.hid (HB2.out.trans (hb2.mono (Nat.le_trans hBW HB2.out.size))); clear hb2)
        go_roundw
        case rel => exact ⟨q, j + 1, cur, by omega, by omega, rfl, by go_num, T2.out, HCL.out, by rw [KF.out]; exact HTK.out, drop_next HDR.out, B2.out⟩
        case measure => simp [intOf]; omega
      · have CF := Lib.hid (show decide (x0 = id) = false from decide_eq_false he)
        have KF := Lib.hid (show (l.take (j + 1)).filter (keepS id) = (l.take j).filter (keepS id) ++ [(x0, x1)] by rw [KS.out, show keepS id (x0, x1) = true by simp [keepS, he]]; simp)
        clear he
        go_wp2_with (go_at_call 24; refine CC.out.mono ?_; rintro e w2 ⟨rfl, hb2⟩; rw [CF.out]; have T2 := Lib.hid (HT2.out.later hb2); have B2 := Lib.hid (HB2.out.trans (hb2.mono (Nat.le_trans hBW HB2.out.size))); have e0 := (hb2.cell (World.block_lt_of_cell? _ _ d0)).trans d0; have e1 := (hb2.cell (World.block_lt_of_cell? _ _ d1)).trans d1; obtain ⟨⟨u, v, z0, z1⟩, f0, f1⟩ := stab_any (k := q) T2.out HCL.out (by omega); clear hb2 d0 d1)
        go_roundw
        case rel => exact ⟨q + 1, j + 1, cur.set q (x0, x1), by omega, by omega, by go_num, by go_num, T2.out.put HCL.out.symm (by omega) (x0, x1), by rw [List.length_set]; exact HCL.out, by rw [KF.out, set_take (by rw [HCL.out]; omega), HTK.out], by rw [set_drop (by omega)]; exact drop_next HDR.out, (B2.out.setCell hgB.1 _).setCell hgB.1 _⟩
        case measure => simp [intOf]; omega
    · obtain rfl : j = n := by omega
      have TF := Lib.hid (show cur.take q = l.filter (keepS id) by rw [HTK.out, List.take_of_length_le (l := l) (by rw [HN.out]; exact Nat.le_refl _)])
      have ML := Lib.hid (show (l.filter (keepS id)).length = q by rw [← TF.out, List.length_take, HCL.out]; omega)
      have hcz := CZ.out q (by omega) wr cur HT.out HCL.out
      have FR := Lib.hid (front_rds HT.out HCL.out (by omega) TF.out (List.replicate ((j - q) * 2) (.int .i64 0)))
      have FB := Lib.hid (Go.below_setCells hgB.1 (List.replicate ((j - q) * 2) (.int .i64 0)) (q * 2) wr HB.out)
      have c1 : ¬ c = q := by omega
      have c2 : (q : Int) ≤ (j : Int) := by omega
      have c3 : (j : Int) ≤ (c : Int) := by omega
      have c4 : (q : Int) ≤ (c : Int) := by omega
      have c5 : (0 : Int) ≤ (q : Int) := by omega
      obtain ⟨vs, hvs⟩ : ∃ vs : List Value, vs = List.replicate ((j - q) * 2) (.int .i64 0) := ⟨_, rfl⟩
      rw [← hvs] at hcz FR FB
      clear hvs
      go_wp2
      go_ret
      exact ⟨q, ML.out, by omega, rfl, FR.out, FB.out⟩
end Go.Proofs.Ytcbecpgllebepaa.Crush
