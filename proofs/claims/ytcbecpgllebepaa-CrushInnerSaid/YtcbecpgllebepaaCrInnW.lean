/-
  The law CrushInner over what it takes of the program.
-/
import Derived.Test.YtcbecpgllebepaaCrNewW
import Derived.BigQuiet
import Derived.Laws.StructEq
namespace Go.Proofs.Ytcbecpgllebepaa.Crush
set_option linter.unusedVariables false
set_option linter.unusedSimpArgs false
open Go.RowKit Mem Straw

/-! ### One cell written over -/
theorem set_same {α : Type} {l : List α} {i : Nat} {a : α} (h : l[i]? = some a) : l.set i a = l := by
  obtain ⟨h1, rfl⟩ := List.getElem?_eq_some_iff.1 h
  exact List.set_getElem_self h1
theorem VTab.put1 {W : World} {B g n cap k : Nat} {es : List Hz} {x : Hz} (h : VTab W B (.slice (some ⟨g, 0, none⟩) n cap) es) (hn : n = es.length) (hx : es[k]? = some x) (u : Value) :
    VTab (W.setCell ⟨g, k * 2 + 1, none⟩ u) B (.slice (some ⟨g, 0, none⟩) n cap) (es.set k (x.1, u)) := by
  subst hn
  have hk := (List.getElem?_eq_some_iff.1 hx).1
  unfold VTab at h ⊢
  have h2 := (World.ownsRow.stored h (k * 2 + 1) u).1
  have e := flatv_set es k (x.1, u) hk
  rw [set_same (flatv_at hx).1] at e
  rw [e] at h2
  rw [List.length_set]
  exact h2
theorem wtab_put0 {W : World} {B g n cap k : Nat} {es : List It} {x : It} (h : WTab W B (.slice (some ⟨g, 0, none⟩) n cap) es) (hn : n = es.length) (hx : es[k]? = some x) (i : Int) :
    WTab (W.setCell ⟨g, k * 2, none⟩ (.int .i64 i)) B (.slice (some ⟨g, 0, none⟩) n cap) (es.set k (i, x.2)) := by
  subst hn
  have hk := (List.getElem?_eq_some_iff.1 hx).1
  unfold WTab at h ⊢
  have h2 := (World.ownsRow.stored h (k * 2) (.int .i64 i)).1
  have e := flat_set es k (i, x.2) hk
  rw [set_same (l := (flat es).set (k * 2) (.int .i64 i)) (by rw [List.getElem?_set_ne (by omega)]; exact (flat_at hx).2)] at e
  rw [e] at h2
  rw [List.length_set]
  exact h2
theorem Enc.set {W : World} {zs : List Hz} {hs : List Ht} (h : Enc W zs hs) (k : Nat) (y : Ht) (u : Value) (hu : IsDevs W u y.2) : Enc W (zs.set k (y.1, u)) (hs.set k y) := by
  refine ⟨by simp [h.1], fun i z x h1 h2 => ?_⟩
  rw [List.getElem?_set] at h1 h2
  by_cases e : k = i
  · rw [if_pos e] at h1 h2
    split at h1
    · split at h2
      · injection h1 with h1; injection h2 with h2; subst h1 h2; exact ⟨rfl, hu⟩
      · cases h2
    · cases h1
  · rw [if_neg e] at h1 h2
    exact h.2 i z x h1 h2
/-- The hosts behind the two stores. -/
theorem inner_mem {w4 : World} {B B2 g3 n c3 gd nd c' k d : Nat} {zs : List Hz} {hs : List Ht} {x : Ht} {a : It} {z2 : Value} {id : Int} (T3 : VTab w4 B (.slice (some ⟨g3, 0, none⟩) n c3) zs) (T4 : WTab w4 B2 (.slice (some ⟨gd, 0, none⟩) nd c') x.2) (hlt : g3 < gd)
    (hE : Enc ((w4.setCell ⟨g3, k * 2 + 1, none⟩ (.slice (some ⟨gd, 0, none⟩) nd c')).setCell ⟨gd, d * 2, none⟩ (.int .i64 id)) zs hs) (hzk : zs[k]? = some (x.1, z2)) (ha : x.2[d]? = some a) (hdl : x.2.length = nd) (hc' : nd ≤ c') (hnd : nd ≤ 8796093022208) (hn : zs.length = n) :
    HRds ((w4.setCell ⟨g3, k * 2 + 1, none⟩ (.slice (some ⟨gd, 0, none⟩) nd c')).setCell ⟨gd, d * 2, none⟩ (.int .i64 id)) (some ⟨g3, 0, none⟩) (hs.set k (x.1, x.2.set d (id, a.2))) := by
  have v1 := T3.put1 hn.symm hzk (.slice (some ⟨gd, 0, none⟩) nd c')
  have v2 := v1.off (p := ⟨gd, d * 2, none⟩) (fun g hg => by injection hg with hg; subst hg; show g3 ≠ gd; omega) (.int .i64 id)
  have d1 := T4.off (p := ⟨g3, k * 2 + 1, none⟩) (fun g hg => by injection hg with hg; subst hg; show gd ≠ g3; omega) (.slice (some ⟨gd, 0, none⟩) nd c')
  have d2 := wtab_put0 d1 hdl.symm ha id
  exact cells_hosts (hE.set k (x.1, x.2.set d (id, a.2)) _ ⟨some ⟨gd, 0, none⟩, nd, c', rfl, by rw [List.length_set]; exact hdl, hc', hnd, d2.rds⟩) v2.rds
theorem fits_set {hs : List Ht} (h : FitsH hs) {k d : Nat} {x : Ht} {a : It} {id : Int} (hu : hs[k]? = some x) (ha : x.2[d]? = some a) (hid : (Lit.int .i64 id).wf = true) : FitsH (hs.set k (x.1, x.2.set d (id, a.2))) := fun y hy => by
  have hx := h x (List.mem_of_getElem? hu)
  rcases List.mem_or_eq_of_mem_set hy with hy | rfl
  · exact h y hy
  · refine ⟨hx.1, fun q hq => ?_⟩
    rcases List.mem_or_eq_of_mem_set hq with hq | rfl
    · exact hx.2 q hq
    · exact ⟨hid, (hx.2 a (List.mem_of_getElem? ha)).2⟩
theorem vtab_at {W : World} {B g n c k : Nat} {es : List Hz} (h : VTab W B (.slice (some ⟨g, 0, none⟩) n c) es) {s : Hz} (hk : es[k]? = some s) : W.cell? ⟨g, k * 2, none⟩ = some (.int .i64 s.1) ∧ W.cell? ⟨g, k * 2 + 1, none⟩ = some s.2 := by
  obtain ⟨b', o', e, _, c0, c1⟩ := h.rds k s hk
  injection e with e
  injection e with e1 e2
  subst e1 e2
  rw [Nat.zero_add] at c0 c1
  exact ⟨c0, c1⟩
theorem wtab_at {W : World} {B g n c k : Nat} {es : List It} (h : WTab W B (.slice (some ⟨g, 0, none⟩) n c) es) {s : It} (hk : es[k]? = some s) : W.cell? ⟨g, k * 2, none⟩ = some (.int .i64 s.1) ∧ W.cell? ⟨g, k * 2 + 1, none⟩ = some (.int .i64 s.2) := by
  obtain ⟨b', o', e, _, c0, c1⟩ := h.rds k s hk
  injection e with e
  injection e with e1 e2
  subst e1 e2
  rw [Nat.zero_add] at c0 c1
  exact ⟨c0, c1⟩

/-! ### Out of the bounds -/
set_option maxRecDepth 100000 in
set_option maxHeartbeats 8000000 in
theorem inner_out (hP : PlaceSpec) (hM : MovedSpec) (key : UInt64) (A : Option Addr) (hs : List Ht) (n ca : Nat) (k d id many : Int) (W : World) (hn : hs.length = n) (hx : HRds W A hs)
    (h : k < 0 ∨ (n : Int) ≤ k ∨ ∃ (j : Nat) (x : Ht), k = j ∧ hs[j]? = some x ∧ (d < 0 ∨ (x.2.length : Int) ≤ d)) :
    Calls Try.prog 8 #[.int .u64 key.toNat, .slice A n ca, .int .i64 k, .int .i64 d, .int .i64 id, .int .i64 many] W (Law.Yes W) := by
  have AL := Lib.hid (alive_c hP hM)
  by_cases h1 : k < 0
  · have q1 : decide (k < 0) = true := decide_eq_true h1
    clear h hx hn
    go_enter Try.func8, Try.ntmps8
    go_wp2_with fail
    refine (AL.out _).mono ?_
    rintro e w1 ⟨rfl, hb⟩
    have G1 := Lib.hid hb
    clear hb
    go_wp2
    go_ret
    exact ⟨rfl, G1.out⟩
  · have q1 : decide (k < 0) = false := decide_eq_false h1
    by_cases h2 : (n : Int) ≤ k
    · have q2 : decide ((n : Int) ≤ k) = true := decide_eq_true h2
      clear h hx hn
      go_enter Try.func8, Try.ntmps8
      go_wp2_with fail
      refine (AL.out _).mono ?_
      rintro e w1 ⟨rfl, hb⟩
      have G1 := Lib.hid hb
      clear hb
      go_wp2
      go_ret
      exact ⟨rfl, G1.out⟩
    · obtain ⟨j, x, rfl, hj, h3⟩ : ∃ (j : Nat) (x : Ht), k = j ∧ hs[j]? = some x ∧ (d < 0 ∨ (x.2.length : Int) ≤ d) := by
        rcases h with h | h | h
        · exact absurd h h1
        · exact absurd h h2
        · exact h
      have q2 : decide ((n : Int) ≤ (j : Int)) = false := decide_eq_false h2
      have q3 : (j : Int) < (n : Int) := by omega
      have q4 : (0 : Int) ≤ (j : Int) := by omega
      obtain ⟨b, o, D, nd, cd, rfl, hbW, x0, x1, hdl, _⟩ := hx.host hj
      rw [hdl] at h3
      have X1 := Lib.hid x1
      have HBW := Lib.hid hbW
      clear h hx hn hj h1 h2 x0 x1 hdl hbW
      by_cases h4 : d < 0
      · have q5 : decide (d < 0) = true := decide_eq_true h4
        clear h3
        go_enter Try.func8, Try.ntmps8
        go_wp2_with fail
        refine (AL.out _).mono ?_
        rintro e w1 ⟨rfl, hb⟩
        have G1 := Lib.hid hb
        clear hb
        go_wp2
        go_ret
        exact ⟨rfl, G1.out⟩
      · have q5 : decide (d < 0) = false := decide_eq_false h4
        have h5 : (nd : Int) ≤ d := by omega
        have q6 : decide ((nd : Int) ≤ d) = true := decide_eq_true h5
        clear h3
        go_enter Try.func8, Try.ntmps8
        go_wp2_with fail
        refine (AL.out _).mono ?_
        rintro e w1 ⟨rfl, hb⟩
        have y1 := (hb.cell (p := ⟨b, o + j * 2 + 1, none⟩) HBW.out).trans X1.out
        have G1 := Lib.hid hb
        clear hb
        go_wp2
        go_ret
        exact ⟨rfl, G1.out⟩

/-! ### Within the bounds -/
theorem neq_spot (a b c d : Int) (w : World) : (binOp .neq 31 (.agg #[.int .i64 a, .int .i64 b]) (.agg #[.int .i64 c, .int .i64 d])).run Try.prog w = .ok (.bool (!(decide ((a, b) = (c, d))))) w := by
  by_cases h1 : a = c <;> by_cases h2 : b = d <;> go_simp <;> simp [h1, h2]
theorem guard_spot (op : BinOp) (x y : Operand) (xs ys : Array Value) (w : World) : (eqGuard op 31 x y (.agg xs) (.agg ys)).run Try.prog w = .ok () w := run_eqGuard_agg w op _ x y xs ys (by kernel_rfl)
/-- What the two placements have to do with each other, place by place. -/
def Tied (xi a1 id : Int) (s t : It) : Prop := (s.1 = xi ∧ t.1 = xi ∧ (s.2 = t.2 ∨ s.2 ≠ t.2 ∧ s.2 = a1 ∨ s.2 ≠ t.2 ∧ s.2 ≠ a1 ∧ t.2 = id)) ∨ (s.1 ≠ xi ∧ s = t)
theorem tied_of {key : UInt64} {hs : List Ht} {k d : Nat} {x : Ht} {a : It} {id many : Int} (hu : hs[k]? = some x) (ha : x.2[d]? = some a) (h1 : plE key hs many = 0) (h2 : plE key (hs.set k (x.1, x.2.set d (id, a.2))) many = 0) :
    (plL key hs many).length = (plL key (hs.set k (x.1, x.2.set d (id, a.2))) many).length ∧ (plL key hs many).length ≤ 16 ∧
    ∀ (i : Nat) (s t : It), (plL key hs many)[i]? = some s → (plL key (hs.set k (x.1, x.2.set d (id, a.2))) many)[i]? = some t → Tied x.1 a.1 id s t := by
  obtain ⟨j, rfl⟩ : ∃ j : Nat, many = j := ⟨many.toNat, by have := (plE_zero.1 h1).2.1; omega⟩
  refine ⟨by rw [plL_len h1, plL_len h2], by rw [plL_len h1]; have := (plE_zero.1 h1).2.1; omega, fun i s t hs' ht => ?_⟩
  obtain ⟨p1, p2, p3⟩ := inner hu ha (a' := (id, a.2)) rfl h1 h2 hs' ht
  by_cases e : s.1 = x.1
  · refine .inl ⟨e, by rw [← p1]; exact e, ?_⟩
    by_cases e2 : s.2 = t.2
    · exact .inl e2
    · by_cases e3 : s.2 = a.1
      · exact .inr (.inl ⟨e2, e3⟩)
      · exact .inr (.inr ⟨e2, e3, p3 e e2 e3⟩)
  · exact .inr ⟨e, p2 e⟩
set_option maxRecDepth 100000 in
set_option maxHeartbeats 16000000 in
theorem inner_main (hP : PlaceSpec) (hM : MovedSpec) (key : UInt64) (b o : Nat) (hs : List Ht) (n ca k d : Nat) (x : Ht) (a : It) (id many : Int) (W : World) (hn : hs.length = n) (hb : n ≤ 4398046511104) (hca : n ≤ ca) (hx : HRds W (some ⟨b, o, none⟩) hs) (hf : FitsH hs)
    (hid : (Lit.int .i64 id).wf = true) (hu : hs[k]? = some x) (ha : x.2[d]? = some a) :
    Calls Try.prog 8 #[.int .u64 key.toNat, .slice (some ⟨b, o, none⟩) n ca, .int .i64 k, .int .i64 d, .int .i64 id, .int .i64 many] W (Law.Yes W) := by
  have hkn : k < n := by rw [← hn]; exact (List.getElem?_eq_some_iff.1 hu).1
  obtain ⟨b', o', D, nd, cd, e', hbW, x0, x1, hdl, hdc, hdb, hD⟩ := hx.host hu
  injection e' with e'
  injection e' with e1 e2
  subst e1 e2
  have hdn : d < nd := by rw [← hdl]; exact (List.getElem?_eq_some_iff.1 ha).1
  obtain ⟨bd, od, rfl, hbd, a0, _⟩ := hD d a ha
  obtain ⟨zs, hz, hv⟩ := hosts_cells hx
  have hzl : zs.length = n := by rw [hz.1, hn]
  have hzk : zs[k]? = some (x.1, .slice (some ⟨bd, od, none⟩) nd cd) := by
    have e := List.getElem?_eq_getElem (show k < zs.length by omega)
    obtain ⟨b', o', e', _, v0, v1⟩ := hv k _ e
    injection e' with e'
    injection e' with e1 e2
    subst e1 e2
    rw [e]
    rw [x1] at v1
    injection v1 with v1
    have := (hz.2 k _ x e hu).1
    exact congrArg some (Prod.ext this v1.symm)
  have AL := Lib.hid (alive_c hP hM)
  obtain ⟨hs2, hhs2⟩ : ∃ hs2, hs2 = hs.set k (x.1, x.2.set d (id, a.2)) := ⟨_, rfl⟩
  have TI := Lib.hid (fun h1 h2 => tied_of (key := key) (many := many) (id := id) hu ha h1 h2)
  have FTS := fits_set hf hu ha hid
  rw [← hhs2] at TI FTS
  obtain ⟨l1, hl1⟩ : ∃ l1, l1 = plL key hs many := ⟨_, rfl⟩
  obtain ⟨l2, hl2⟩ : ∃ l2, l2 = plL key hs2 many := ⟨_, rfl⟩
  obtain ⟨m1, hm1⟩ : ∃ m1, m1 = l1.length := ⟨_, rfl⟩
  obtain ⟨m2, hm2⟩ : ∃ m2, m2 = l2.length := ⟨_, rfl⟩
  obtain ⟨k1, hk1⟩ : ∃ k1, k1 = plE key hs many := ⟨_, rfl⟩
  obtain ⟨k2, hk2⟩ : ∃ k2, k2 = plE key hs2 many := ⟨_, rfl⟩
  have P1 := Lib.hid (fun V (hB : Below W.heap.size W V) => place_named hP key (some ⟨b, o, none⟩) hs n ca many V hn (by omega) hca (hx.below hB) hf l1 m1 k1 hl1.symm hm1.symm hk1.symm)
  have P2 := Lib.hid (fun V A3 c3 (hc : n ≤ c3) hx3 => place_named hP key A3 hs2 n c3 many V (by rw [hhs2, List.length_set]; exact hn) (by omega) hc hx3 FTS l2 m2 k2 hl2.symm hm2.symm hk2.symm)
  have V1 : k1 = 0 ∨ k1 = 2 ∨ k1 = 6 ∨ k1 = 8 := hk1 ▸ plE_vals key hs many
  have V2 : k2 = 0 ∨ k2 = 2 ∨ k2 = 6 ∨ k2 = 8 := hk2 ▸ plE_vals key hs2 many
  rw [← hl1, ← hl2, ← hk1, ← hk2, ← hm1, ← hm2] at TI
  have M1 := Lib.hid hm1
  have M2 := Lib.hid hm2
  have EZ := Lib.hid (fun V (hB : Below W.heap.size W V) => hz.below hB)
  have HV := Lib.hid hv
  have ON := Lib.hid hz.ones
  have ZN := Lib.hid hzl
  have ZK := Lib.hid hzk
  have HA := Lib.hid ha
  have HDL := Lib.hid hdl
  have HD := Lib.hid hD
  have X0 := Lib.hid x0
  have X1 := Lib.hid x1
  have A0 := Lib.hid a0
  have HBW := Lib.hid hbW
  have HBD := Lib.hid hbd
  have HS2 := Lib.hid hhs2
  have q1 : decide ((k : Int) < 0) = false := by rw [decide_eq_false_iff_not]; omega
  have q2 : decide ((n : Int) ≤ (k : Int)) = false := by rw [decide_eq_false_iff_not]; omega
  have q3 : (k : Int) < (n : Int) := by omega
  have q4 : (0 : Int) ≤ (k : Int) := by omega
  have q5 : decide ((d : Int) < 0) = false := by rw [decide_eq_false_iff_not]; omega
  have q6 : decide ((nd : Int) ≤ (d : Int)) = false := by rw [decide_eq_false_iff_not]; omega
  have q7 : (d : Int) < (nd : Int) := by omega
  have q8 : (0 : Int) ≤ (d : Int) := by omega
  clear hl1 hl2 hm1 hm2 hk1 hk2 FTS hhs2 hx hf hn hu ha hz hv hzl hzk hdl hD x0 x1 a0 hbW hbd hid
  go_enter Try.func8, Try.ntmps8
  go_wp2_with fail
  refine (AL.out _).mono ?_
  rintro e w1 ⟨rfl, hb⟩
  have y1 := (hb.cell (p := ⟨b, o + k * 2 + 1, none⟩) HBW.out).trans X1.out
  have B1 := Lib.hid hb
  clear hb
  go_wp2_with fail
  refine (clone_h (some ⟨b, o, none⟩) zs n ca _ ZN.out hb (HV.out.below B1.out) ON.out).mono ?_
  rintro e w3 ⟨A3, c3, rfl, hT, hc3, hb3⟩
  obtain ⟨g3, rfl, -, hg3a, hg3b⟩ := hT.head (by rw [ZN.out]; omega)
  have y3 := (hb3.cell (p := ⟨b, o + k * 2 + 1, none⟩) (World.block_lt_of_cell? _ _ y1)).trans y1
  have T3 := Lib.hid hT
  have B3 := Lib.hid (B1.out.trans (hb3.mono B1.out.size))
  have GA := Lib.hid (show W.heap.size ≤ g3 from Nat.le_trans B1.out.size hg3a)
  have GB := Lib.hid hg3b
  clear hT hb3 y1 hg3a hg3b
  go_wp2_with fail
  refine (clone_d (some ⟨bd, od, none⟩) x.2 nd cd w3 HDL.out (by omega) (HD.out.below B3.out)).mono ?_
  rintro e w4 ⟨A4, c4, rfl, hT, hc4, hb4⟩
  obtain ⟨gd, rfl, -, hgda, hgdb⟩ := hT.head (by rw [HDL.out]; omega)
  have T4 := Lib.hid hT
  have T3b := Lib.hid (T3.out.later hb4)
  have B4 := Lib.hid (B3.out.trans (hb4.mono B3.out.size))
  have GD := Lib.hid (show g3 < gd from Nat.lt_of_lt_of_le GB.out hgda)
  obtain ⟨_, z1⟩ := vtab_at T3b.out ZK.out
  have f1 := T3b.out.free ZN.out.symm (k * 2 + 1)
  clear hT hb4 y3 hgda hgdb T3
  go_upto_region 7 with fail
  obtain ⟨w5, hw5⟩ : ∃ w5, w5 = w4.setCell ⟨g3, k * 2 + 1, none⟩ (.slice (some ⟨gd, 0, none⟩) nd c4) := ⟨_, rfl⟩
  have V5 := Lib.hid (T3b.out.put1 ZN.out.symm ZK.out (.slice (some ⟨gd, 0, none⟩) nd c4))
  have D5 := Lib.hid (T4.out.off (p := ⟨g3, k * 2 + 1, none⟩) (fun g hg => by injection hg with hg; subst hg; show gd ≠ g3; have := GD.out; omega) (.slice (some ⟨gd, 0, none⟩) nd c4))
  obtain ⟨_, u1⟩ := vtab_at V5.out (show (zs.set k (x.1, .slice (some ⟨gd, 0, none⟩) nd c4))[k]? = some (x.1, .slice (some ⟨gd, 0, none⟩) nd c4) by rw [List.getElem?_set_self (by rw [ZN.out]; omega)])
  obtain ⟨u2, _⟩ := wtab_at D5.out HA.out
  have f2 := D5.out.free HDL.out.symm (d * 2)
  have MM := Lib.hid (fun hE => inner_mem (hs := hs) (id := id) (d := d) T3b.out T4.out GD.out hE ZK.out HA.out HDL.out hc4 hdb ZN.out)
  have B5 := Lib.hid (show Below W.heap.size W (w4.setCell ⟨g3, k * 2 + 1, none⟩ (.slice (some ⟨gd, 0, none⟩) nd c4)) from B4.out.setCell GA.out _)
  rw [← hw5] at V5 D5 u1 u2 f2 MM B5 ⊢
  clear hw5 z1 f1 T4 T3b
  go_upto_region 8 with fail
  obtain ⟨w6, hw6⟩ : ∃ w6, w6 = w5.setCell ⟨gd, d * 2, none⟩ (.int .i64 id) := ⟨_, rfl⟩
  have B6 := Lib.hid (show Below W.heap.size W (w5.setCell ⟨gd, d * 2, none⟩ (.int .i64 id)) from B5.out.setCell (Nat.le_trans GA.out (Nat.le_of_lt GD.out)) _)
  have M6 := Lib.hid (MM.out (EZ.out _ B6.out))
  rw [← hw6] at B6 M6 ⊢
  rw [← HS2.out] at M6
  clear hw6 u1 u2 f2 V5 D5 MM B5
  go_wp2_with fail
  refine (P1.out _ B6.out).mono ?_
  rintro e w7 ⟨A7, c7, rfl, hc7, hr7, hb7⟩
  have B7 := Lib.hid (B6.out.trans (hb7.mono B6.out.size))
  have M7 := Lib.hid (M6.out.below hb7)
  have R7 := Lib.hid hr7
  clear hb7 hr7 M6
  go_wp2_with fail
  refine (P2.out _ _ _ hc3 M7.out).mono ?_
  rintro e w8 ⟨A8, c8, rfl, hc8, hr8, hb8⟩
  have B8 := Lib.hid (B7.out.trans (hb8.mono B7.out.size))
  have R7b := Lib.hid (R7.out.below hb8)
  have R8 := Lib.hid hr8
  clear hb8 hr8 M7 R7
  rcases V1 with rfl | h1
  · rcases V2 with rfl | h2
    · obtain ⟨hm12, hm16, hti⟩ := TI.out rfl rfl
      subst hm12
      have TT := Lib.hid hti
      have Y0 := (B8.out.cell (p := ⟨b, o + k * 2, none⟩) HBW.out).trans X0.out
      have Y1 := (B8.out.cell (p := ⟨b, o + k * 2 + 1, none⟩) HBW.out).trans X1.out
      have Y2 := (B8.out.cell (p := ⟨bd, od + d * 2, none⟩) HBD.out).trans A0.out
      have LY0 := World.block_lt_of_cell? _ _ Y0
      have LY1 := World.block_lt_of_cell? _ _ Y1
      have LY2 := World.block_lt_of_cell? _ _ Y2
      have SK := Lib.hid (fun w (hb : Below w8.heap.size w8 w) => show w.cell? ⟨b, o + k * 2, none⟩ = some (.int .i64 x.1) ∧ w.cell? ⟨b, o + k * 2 + 1, none⟩ = some (.slice (some ⟨bd, od, none⟩) nd cd) ∧ w.cell? ⟨bd, od + d * 2, none⟩ = some (.int .i64 a.1) from
        ⟨(hb.cell (p := ⟨b, o + k * 2, none⟩) LY0).trans Y0, (hb.cell (p := ⟨b, o + k * 2 + 1, none⟩) LY1).trans Y1, (hb.cell (p := ⟨bd, od + d * 2, none⟩) LY2).trans Y2⟩)
      obtain ⟨xi, hxi⟩ : ∃ xi, xi = x.1 := ⟨_, rfl⟩
      obtain ⟨a1, ha1⟩ : ∃ a1, a1 = a.1 := ⟨_, rfl⟩
      rw [← hxi, ← ha1] at SK TT
      have n0 : ((m1 : Int) == (m1 : Int)) = true := by simp
      have n00 : ((m1 : Int) != (m1 : Int)) = false := by simp
      clear hti TI Y0 Y1 Y2 LY0 LY1 LY2 hxi ha1
      go_wp2
      go_loopw [99] (fun i wr => ∃ q : Nat, q ≤ m1 ∧ i = .int .i64 q ∧ Below w8.heap.size w8 wr) (fun i _ => m1 - (intOf i).toNat)
      case atStart => exact ⟨0, by omega, rfl, Below.refl _ _⟩
      case round =>
        obtain ⟨q, hq, rfl, hB⟩ := hrel
        have HB := Lib.hid hB
        clear hB
        by_cases hlt : q < m1
        · have i1 : (q : Int) < (m1 : Int) := by omega
          have i2 : (0 : Int) ≤ (q : Int) := by omega
          obtain ⟨s, hs'⟩ : ∃ s, l1[q]? = some s := ⟨_, List.getElem?_eq_getElem (by rw [← M1.out]; exact hlt)⟩
          obtain ⟨t, ht'⟩ : ∃ t, l2[q]? = some t := ⟨_, List.getElem?_eq_getElem (by rw [← M2.out]; exact hlt)⟩
          have ti := TT.out q s t hs' ht'
          obtain ⟨ba, oa, rfl, _, s0c, s1c⟩ := (R7b.out.below HB.out) q s hs'
          obtain ⟨bb, ob, rfl, _, t0c, t1c⟩ := (R8.out.below HB.out) q t ht'
          obtain ⟨Y0, Y1, Y2⟩ := SK.out _ HB.out
          obtain ⟨s0, s1⟩ := s
          obtain ⟨t0, t1⟩ := t
          clear hs' ht'
          rcases ti with ⟨h1, h2, h3⟩ | ⟨h1, h2⟩
          · obtain rfl : s0 = xi := h1
            obtain rfl : t0 = s0 := h2
            have r1 : (t0 != t0) = false := by simp
            have r2 : (t0 == t0) = true := by simp
            rcases h3 with h3 | ⟨h3, h4⟩ | ⟨h3, h4, h5⟩
            · obtain rfl : s1 = t1 := h3
              have r3 : (s1 != s1) = false := by simp
              go_wp2
              go_quiet (fail)
              go_wp2
              go_quiet (fail)
              go_wp2
              go_roundw
              case rel => exact ⟨q + 1, by omega, by go_num, below_drewN HB.out _⟩
              case measure => simp [intOf]; omega
            · obtain rfl : s1 = a1 := h4
              have r3 : (s1 != t1) = true := by simpa using h3
              have r4 : (s1 != s1) = false := by simp
              clear h3
              go_wp2
              go_quiet (fail)
              go_wp2
              go_quiet (fail)
              go_wp2
              go_roundw
              case rel => exact ⟨q + 1, by omega, by go_num, below_drewN HB.out _⟩
              case measure => simp [intOf]; omega
            · obtain rfl : t1 = id := h5
              have r3 : (s1 != t1) = true := by simpa using h3
              have r4 : (s1 != a1) = true := by simpa using h4
              have r5 : (t1 != t1) = false := by simp
              clear h3 h4
              go_wp2
              go_quiet (fail)
              go_wp2
              go_quiet (fail)
              go_wp2
              go_roundw
              case rel => exact ⟨q + 1, by omega, by go_num, below_drewN HB.out _⟩
              case measure => simp [intOf]; omega
          · injection h2 with h2 h3
            subst h2 h3
            have r1 : (s0 != s0) = false := by simp
            have r2 : (s0 != xi) = true := by simpa using h1
            have r3 : (s0 == xi) = false := by simpa using h1
            have ne := fun w => neq_spot s0 s1 s0 s1 w
            simp only [decide_true, Bool.not_true] at ne
            have gd' := fun op x y w => guard_spot op x y #[.int .i64 s0, .int .i64 s1] #[.int .i64 s0, .int .i64 s1] w
            clear h1
            go_wp2
            go_quiet (fail)
            go_wp2
            go_quiet (fail)
            go_wp2
            go_roundw
            case rel => exact ⟨q + 1, by omega, by go_num, below_drewN HB.out _⟩
            case measure => simp [intOf]; omega
        · obtain rfl : q = m1 := by omega
          go_wp2
          go_ret
          exact ⟨rfl, B8.out.trans (HB.out.mono B8.out.size)⟩
    · clear TI
      rcases h2 with rfl | rfl | rfl
      all_goals
        go_wp2
        go_ret
        exact ⟨rfl, B8.out⟩
  · clear TI V2
    rcases h1 with rfl | rfl | rfl
    all_goals
      go_wp2
      go_ret
      exact ⟨rfl, B8.out⟩
theorem inner_words (hP : PlaceSpec) (hM : MovedSpec) (key : UInt64) (A : Option Addr) (hs : List Ht) (n ca : Nat) (k d id many : Int) (W : World) (hn : hs.length = n) (hb : n ≤ 4398046511104) (hca : n ≤ ca) (hx : HRds W A hs) (hf : FitsH hs) (hid : (Lit.int .i64 id).wf = true) :
    Calls Try.prog 8 #[.int .u64 key.toNat, .slice A n ca, .int .i64 k, .int .i64 d, .int .i64 id, .int .i64 many] W (Law.Yes W) := by
  by_cases h1 : k < 0
  · exact inner_out hP hM key A hs n ca k d id many W hn hx (.inl h1)
  · by_cases h2 : (n : Int) ≤ k
    · exact inner_out hP hM key A hs n ca k d id many W hn hx (.inr (.inl h2))
    · obtain ⟨j, rfl⟩ : ∃ j : Nat, k = j := ⟨k.toNat, by omega⟩
      have hj := List.getElem?_eq_getElem (show j < hs.length by omega)
      by_cases h3 : d < 0 ∨ ((hs[j]'(by omega)).2.length : Int) ≤ d
      · exact inner_out hP hM key A hs n ca j d id many W hn hx (.inr (.inr ⟨j, _, rfl, hj, h3⟩))
      · obtain ⟨i, rfl⟩ : ∃ i : Nat, d = i := ⟨d.toNat, by omega⟩
        obtain ⟨b, o, _, _, _, rfl, _⟩ := hx.host hj
        exact inner_main hP hM key b o hs n ca j i _ _ id many W hn hb hca hx hf hid hj (List.getElem?_eq_getElem (by omega))
end Go.Proofs.Ytcbecpgllebepaa.Crush
