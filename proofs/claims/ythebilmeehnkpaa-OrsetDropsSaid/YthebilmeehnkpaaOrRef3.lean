/-
  The document's own answers of package orset: the closure of QJoin.
-/
import Derived.Test.YthebilmeehnkpaaOrRef2
import Derived.Test.YthebilmeehnkpaaOrPure3
namespace Go.Proofs.Ythebilmeehnkpaa.Ors
set_option linter.unusedVariables false
set_option linter.unusedSimpArgs false
open Go.RowKit Mem Gt
open Jump (Gave equalZ_c)

/-- A result whose first part lies in memory. -/
theorem results_row2 {fn : Func} {p u : Tmp} {ty : TypeId} (h : fn.results = #[.cell p ty, .tmp u]) (tmps : Array Value) (w : World) (g : Nat) (t : TypeId) (cs : Array Value) (fr : Nat × Nat) (fs : Array Field)
    (hp : tmps.getD p undef = .pointer (some ⟨g, 0, none⟩)) (hg : w.heap[g]? = some (.cells cs t fr))
    (hu : Try.prog.underlying ty = some (.struct fs)) (hi : (Try.prog.info? ty).map (·.size) = some cs.size) {r : Value} (hr : tmps.getD u undef = r) :
    (results fn tmps).run Try.prog w = .ok (.tuple #[.agg cs, r]) w := by
  subst hr
  rw [results_cell_tmp h, hp]
  simp [asAddr, Result.andThen, run_loadVar_row w g t ty cs fr (.struct fs) hg hu rfl hi]
theorem fieldsTag : Try.prog.underlying 37 = some (.struct (Try.prog.fieldsOf 37)) := by kernel_rfl
theorem findT_at {l : List Tg} {t u : Tg} {k : Nat} (h : ∀ v ∈ l.take k, ¬ (v.1 = t.1 ∧ v.2.1 = t.2.1)) (hu : l[k]? = some u) (e : u.1 = t.1 ∧ u.2.1 = t.2.1) : findT l t = some u := by
  obtain ⟨hk, hk2⟩ := List.getElem?_eq_some_iff.1 hu
  unfold findT
  have e1 : l = l.take k ++ u :: l.drop (k + 1) := by
    rw [← hk2, List.getElem_cons_drop, List.take_append_drop]
  have e2 : (l.take k).find? (isKey t) = none := by
    rw [List.find?_eq_none]
    intro v hv
    unfold isKey
    simpa using h v hv
  rw [e1, List.find?_append, e2, Option.none_or, List.find?_cons_of_pos]
  unfold isKey
  simp [e.1, e.2]
theorem step_no {l : List Tg} {t u : Tg} {k : Nat} (h : ∀ v ∈ l.take k, ¬ (v.1 = t.1 ∧ v.2.1 = t.2.1)) (hu : l[k]? = some u) (e : ¬ (u.1 = t.1 ∧ u.2.1 = t.2.1)) : ∀ v ∈ l.take (k + 1), ¬ (v.1 = t.1 ∧ v.2.1 = t.2.1) := fun v hv => by
  rw [List.take_add_one, hu] at hv
  rcases List.mem_append.1 hv with hv | hv
  · exact h v hv
  · simp at hv; subst hv; exact e
/-- What the search answers. -/
def Finds (l : List Tg) (t f : Tg) (r : Bool) : Prop := (r = true ∧ findT l t = some f) ∨ (r = false ∧ findT l t = none ∧ f = (0, 0, 0))
theorem finds_exists (l : List Tg) (t : Tg) : ∃ f r, Finds l t f r := by
  cases h : findT l t with
  | none => exact ⟨(0, 0, 0), false, .inr ⟨rfl, h, rfl⟩⟩
  | some f => exact ⟨f, true, .inl ⟨rfl, h⟩⟩
set_option maxRecDepth 100000 in
set_option maxHeartbeats 32000000 in
theorem find_c (H S : Option Addr) (nh ch ns cs : Nat) (b : Bg) (t0 t1 t2 f0 f1 f2 : Int) (r : Bool) (V : World) (h : HB V H S nh ch ns cs b) (hf : Finds b.1 (t0, t1, t2) (f0, f1, f2) r) :
    Calls Try.prog 48 #[.agg #[.slice H nh ch, .slice S ns cs], .agg #[.int .i64 t0, .int .i64 t1, .int .i64 t2]] V (Gave (.tuple #[.agg #[.int .i64 f0, .int .i64 f1, .int .i64 f2], .bool r]) V) := by
  obtain ⟨o1, ho1⟩ : ∃ o : Obj, o = .cells #[.int .i64 t0, .int .i64 t1, .int .i64 t2] tT := ⟨_, rfl⟩
  obtain ⟨o2, ho2⟩ : ∃ o : Obj, o = .cells #[.int .i64 0, .int .i64 0, .int .i64 0] tT := ⟨_, rfl⟩
  have G0 := ((HG.new h rfl).alloc o1).alloc o2
  have KT0 := (Known.made (V.alloc (.cells #[.slice H nh ch, .slice S ns cs] 25)) tT #[.int .i64 t0, .int .i64 t1, .int .i64 t2]).alloc o2
  have KR0 := Known.made ((V.alloc (.cells #[.slice H nh ch, .slice S ns cs] 25)).alloc o1) tT #[.int .i64 0, .int .i64 0, .int .i64 0]
  have B0 := (((low_lit V (.cells #[.slice H nh ch, .slice S ns cs] 25))).alloc (by simp) o1).alloc (by simp; omega) o2
  rw [show (V.alloc (.cells #[.slice H nh ch, .slice S ns cs] 25)).heap.size = V.heap.size + 1 by simp] at KT0
  rw [show ((V.alloc (.cells #[.slice H nh ch, .slice S ns cs] 25)).alloc o1).heap.size = V.heap.size + 2 by simp] at KR0
  subst ho1 ho2
  have GG := Lib.hid G0
  have KT := Lib.hid KT0
  have KR := Lib.hid KR0
  have BV := Lib.hid B0
  have LH := Lib.hid h.lenH
  have HF := Lib.hid hf
  have bh := h.bh
  obtain ⟨has, saw⟩ := b
  simp only at LH HF
  obtain ⟨z0, z1, -⟩ := G0
  clear h hf KT0 KR0 B0
  go_enter Try.func48, Try.ntmps48
  go_wp2_with fail
  obtain ⟨W3, hW3⟩ : ∃ W3, W3 = ((V.alloc (.cells #[.slice H nh ch, .slice S ns cs] 25)).alloc (.cells #[.int .i64 t0, .int .i64 t1, .int .i64 t2] tT)).alloc (.cells #[.int .i64 0, .int .i64 0, .int .i64 0] tT) := ⟨_, rfl⟩
  have S3 : W3.heap.size = V.heap.size + 3 := by rw [hW3]; simp
  go_loopw [11] (fun i wr => ∃ k : Nat, k ≤ nh ∧ i = .int .i64 k ∧ (∀ v ∈ has.take k, ¬ (v.1 = t0 ∧ v.2.1 = t1)) ∧ Below W3.heap.size W3 wr) (fun i _ => nh - (Go.RowKit.intOf i).toNat)
  case atStart => exact ⟨0, by omega, rfl, fun v hv => by simp at hv, by rw [hW3]; exact Below.refl _ _⟩
  case round =>
    obtain ⟨k, hk, rfl, hno, hB⟩ := hrel
    have NO := Lib.hid hno
    have BB := Lib.hid hB
    have BVW := Lib.hid (show Below V.heap.size V wr from (hW3 ▸ BV.out : Below V.heap.size V W3).trans (hB.mono (by omega)))
    have G1 := (show HG W3 V.heap.size H S nh ch ns cs (has, saw) by rw [hW3]; exact GG.out).below hB
    have T1 := (show Known W3 (V.heap.size + 1) tT #[.int .i64 t0, .int .i64 t1, .int .i64 t2] by rw [hW3]; exact KT.out).below hB (by omega)
    have R1 := (show Known W3 (V.heap.size + 2) tT #[.int .i64 0, .int .i64 0, .int .i64 0] by rw [hW3]; exact KR.out).below hB (by omega)
    have hsz : V.heap.size + 3 ≤ wr.heap.size := by have := hB.size; omega
    clear z0 z1 hno
    by_cases hlt : k < nh
    · obtain ⟨⟨u0, u1, u2⟩, hu⟩ : ∃ x, has[k]? = some x := ⟨_, List.getElem?_eq_getElem (by rw [LH.out]; exact hlt)⟩
      obtain ⟨b1, o1, rfl, _, x0, x1, x2⟩ := tg_at G1.2.2.has hu
      have T2 := T1.alloc (.cells #[.int .i64 u0, .int .i64 u1, .int .i64 u2] tT)
      have R2 := R1.alloc (.cells #[.int .i64 u0, .int .i64 u1, .int .i64 u2] tT)
      have U2 := Known.made wr tT #[.int .i64 u0, .int .i64 u1, .int .i64 u2]
      have B2 := Lib.hid (hB.trans ((low_lit wr (.cells #[.int .i64 u0, .int .i64 u1, .int .i64 u2] tT)).mono hB.size))
      have BV2 := Lib.hid (BVW.out.trans ((low_lit wr (.cells #[.int .i64 u0, .int .i64 u1, .int .i64 u2] tT)).mono BVW.out.size))
      obtain ⟨g0, g1, -⟩ := G1
      have c0 := T2.cell 0
      have c1 := T2.cell 1
      have d0 := U2.cell 0
      have d1 := U2.cell 1
      have d2 := U2.cell 2
      have i1 : (k : Int) < (nh : Int) := by omega
      have HU := Lib.hid hu
      simp at c0 c1 d0 d1 d2
      simp only at x0 x1 x2
      by_cases e : u0 = t0 ∧ u1 = t1
      · obtain ⟨rfl, rfl⟩ := e
        have E := Lib.hid (show (f0, f1, f2) = (u0, u1, u2) ∧ r = true by
          have h1 := findT_at (t := (u0, u1, t2)) NO.out HU.out ⟨rfl, rfl⟩
          rcases HF.out with ⟨h2, h3⟩ | ⟨_, h3, _⟩
          · rw [h1] at h3; injection h3 with h3; exact ⟨h3.symm, h2⟩
          · rw [h1] at h3; cases h3)
        have e1 : (u0 == u0) = true := by simp
        have e2 : (u1 == u1) = true := by simp
        have c5 := R2.cell 0
        have c6 := R2.cell 1
        have c7 := R2.cell 2
        have f5 := R2.free 0
        have f6 := R2.free 1
        have f7 := R2.free 2
        simp at c5 c6 c7
        have KK := Lib.hid (((R2.put 0 (.int .i64 u0)).put 1 (.int .i64 u1)).put 2 (.int .i64 u2))
        have NV : ¬ wr.heap.size = V.heap.size + 2 := by omega
        have BK := Lib.hid (((BV2.out.setCell (p := ⟨V.heap.size + 2, 0, none⟩) (by show _ ≤ V.heap.size + 2; omega) (.int .i64 u0)).setCell (p := ⟨V.heap.size + 2, 1, none⟩) (by show _ ≤ V.heap.size + 2; omega) (.int .i64 u1)).setCell (p := ⟨V.heap.size + 2, 2, none⟩) (by show _ ≤ V.heap.size + 2; omega) (.int .i64 u2))
        clear hu T2 R2 U2 T1 R1 hB hW3
        go_wp2
        refine bodyPost_ret (v := .tuple #[.agg #[.int .i64 f0, .int .i64 f1, .int .i64 f2], .bool r]) ?_ rfl ⟨rfl, BK.out⟩
        obtain ⟨E1, E2⟩ := E.out
        injection E1 with E1 E3
        injection E3 with E3 E4
        rw [E1, E2, E3, E4]
        exact results_row2 rfl _ _ (V.heap.size + 2) tT _ (0, 0) _ rfl KK.out fieldsTag sizeTag rfl
      · have N2 := Lib.hid (step_no (t := (t0, t1, t2)) NO.out HU.out e)
        clear hu T2 R2 U2 T1 R1 hB hW3
        by_cases e0 : u0 = t0
        · subst e0
          have e1 : (u0 == u0) = true := by simp
          have e2 : (u1 == t1) = false := by simpa using fun h => e ⟨rfl, h⟩
          clear e
          go_wp2
          go_roundw
          case rel => exact ⟨k + 1, by omega, by go_num, N2.out, B2.out⟩
          case measure => simp [Go.RowKit.intOf]; omega
        · have e1 : (u0 == t0) = false := by simpa using e0
          clear e
          go_wp2
          go_roundw
          case rel => exact ⟨k + 1, by omega, by go_num, N2.out, B2.out⟩
          case measure => simp [Go.RowKit.intOf]; omega
    · obtain rfl : k = nh := by omega
      have E := Lib.hid (show (f0, f1, f2) = (0, 0, 0) ∧ r = false by
        have h1 : findT has (t0, t1, t2) = none := findT_no (by have := NO.out; rwa [List.take_of_length_le (Nat.le_of_eq LH.out)] at this)
        rcases HF.out with ⟨_, h3⟩ | ⟨h2, _, h4⟩
        · rw [h1] at h3; cases h3
        · exact ⟨h4, h2⟩)
      have c5 := R1.cell 0
      have c6 := R1.cell 1
      have c7 := R1.cell 2
      have f5 := R1.free 0
      have f6 := R1.free 1
      have f7 := R1.free 2
      simp at c5 c6 c7
      have KK := Lib.hid (((R1.put 0 (.int .i64 0)).put 1 (.int .i64 0)).put 2 (.int .i64 0))
      have BK := Lib.hid (((BVW.out.setCell (p := ⟨V.heap.size + 2, 0, none⟩) (by show _ ≤ V.heap.size + 2; omega) (.int .i64 0)).setCell (p := ⟨V.heap.size + 2, 1, none⟩) (by show _ ≤ V.heap.size + 2; omega) (.int .i64 0)).setCell (p := ⟨V.heap.size + 2, 2, none⟩) (by show _ ≤ V.heap.size + 2; omega) (.int .i64 0))
      clear T1 R1 G1 hB hW3
      go_wp2
      refine bodyPost_ret (v := .tuple #[.agg #[.int .i64 f0, .int .i64 f1, .int .i64 f2], .bool r]) ?_ rfl ⟨rfl, BK.out⟩
      obtain ⟨E1, E2⟩ := E.out
      injection E1 with E1 E3
      injection E3 with E3 E4
      rw [E1, E2, E3, E4]
      exact results_row2 rfl _ _ (V.heap.size + 2) tT _ (0, 0) _ rfl KK.out fieldsTag sizeTag rfl
end Go.Proofs.Ythebilmeehnkpaa.Ors
