/-
  MapsDiff: for all maps a and b, the law MapsDiff answers true (Right and Diff answer what the document says), and its arguments read afterwards as before. No condition.
-/
import Derived.Test.YtmijjaihedbjgaaMpHold
import Derived.Maps.AppendAt
import Derived.Deep.RegionLawGrows
import Derived.Deep.Upon
namespace Go.Proofs.Ytmijjaihedbjgaa.mapsDiff
open Go.ChangeShapes Go.WideShapes Go.ChangeAt Go.RowKit
open Mem Mps
set_option linter.unusedVariables false
set_option linter.unusedSimpArgs false

theorem equal_same (A B : Option Addr) (xs : List Ch) (n ca cb : Nat) (W : World) (hn : xs.length = n) (hbig : n ≤ 5864062014805) (hx : CRds W A xs) (hy : CRds W B xs) :
    Calls Try.prog 12 #[.slice A n ca, .slice B n cb] W (Gave (.bool true) W) := by
  have h := equalCh_c A B xs xs n n ca cb W hn hn (by omega) hx hy
  rwa [show eqCh xs xs = true from decide_eq_true rfl] at h
set_option maxRecDepth 100000 in
theorem step_append_ch {ops : Array Oper} {o : Oper} {a : Act} {w : World} {K : Act → World → Prop} {Q : Exit → Act → World → Prop} {E : Prop} (hgd : o.guard = none) (s x : Operand)
    (ho : o.op = .call { callee := .builtin .append, args := #[s, x], argTypes := #[25, 25] }) {B n m c b o' : Nat} {v : Value} {es ys : List Ch} {AD : Option Addr} (hs : a.eval s = v) (hx : a.eval x = .slice AD m c) (had : AD = some ⟨b, o', none⟩)
    (hg : CTab w B v es) (hn : es.length = n) (hr : CRds w (some ⟨b, o', none⟩) ys) (hy : ys.length = m) (hl : (n + m) * 24 ≤ 140737488355328) (hB : B ≤ w.heap.size)
    (h : ∀ A' c' w', Hid (CTab w' B (.slice A' (n + m) c') (es ++ ys)) → Hid (w.grownBy w' v.ownBlock) → K (a.put o.dst (.slice A' (n + m) c')) w') :
    if Region.wanted o (yielded ops a.tmps) = true then Oper.wp Try.prog o a w K Q else E := by
  subst hn hy had
  have hw : Region.wanted o (yielded ops a.tmps) = true := by simp [Region.wanted, hgd]
  rw [if_pos hw]
  obtain ⟨i, hi, z, hz0, hz1, hz2, hz3⟩ := info_ch
  obtain ⟨v', w', hrun, h2, h3, _, _⟩ := run_append_own_at (P := Try.prog) w B 25 o.type 33 i z 3 24 Try.underlying25 hi hz0 hz1 hz2 hz3 (by decide) v es.length (flat es) hg ⟨b, o', none⟩ ys.length c (flat ys) (flat_len ys)
    (fun j u hj => by
      obtain ⟨b', q, e, _, h3⟩ := hr.reads j u hj
      injection e with e
      injection e with e1 e2
      subst e1 e2
      rw [Addr.add_lit]; exact h3) (flat_one ys) (by unfold maxLen; omega) hl hB
  have hT : CTab w' B v' (es ++ ys) := by
    unfold CTab
    rw [List.length_append, flat_app]
    exact h2
  obtain ⟨A', c', hv, _, _⟩ := hT.form
  rw [List.length_append] at hv
  subst hv
  unfold Oper.wp execOp
  simp only [ho, resolve, invoke, builtin, Sem.run_bind, Sem.run_pure, Result.andThen_ok, List.map_toArray, List.map_cons, List.map_nil, hs, hx, hrun]
  exact h A' c' w' hT h3
theorem one_ch (w : World) (a b c : Int) : CRds (w.alloc (.cells #[.int .i64 a, .int .i64 b, .int .i64 c] 33)) (some ⟨w.heap.size, 0, none⟩) [(a, b, c)] := fun k z hk => by
  rcases k with _ | k
  · simp at hk; subst hk
    exact ⟨_, 0, rfl, by simp, (boxC w _ _ _).1, (boxC w _ _ _).2.1, (boxC w _ _ _).2.2⟩
  · simp at hk
theorem ctab_grown {w0 w3 w4 : World} {B : Nat} {v : Value} {es : List Ch} {o : Obj} (hb : Below B w0 w3) (hs : B ≤ w3.heap.size) (hT : CTab w3 B v es) (hg : (w3.alloc o).grownBy w4 v.ownBlock) : Below B w0 w4 :=
  (hb.alloc hs o).grown hg (by simp; omega) fun k hk => (hT.lt k hk).1
set_option maxRecDepth 100000 in
set_option maxHeartbeats 16000000 in
theorem badA (a1 : Int) (A : Option Addr) (la : List Int) (n c : Nat) (b1 : Int) (B : Option Addr) (lb : List Int) (m cb : Nat) (W : World) (hn : la.length = n) (hbig : n ≤ 17592186044416) (hx : Reads W A (ints la)) (hm : lb.length = m) (hmb : m ≤ 17592186044416) (hy : Reads W B (ints lb))
    (ha : okB a1 n = false) (hs : SaysS (dfE (a1, la) (b1, lb)) (dfS (a1, la) (b1, lb)) 0 [] 0 1) :
    Calls Try.prog 3 #[.agg #[.int .i64 a1, .slice A n c], .agg #[.int .i64 b1, .slice B m cb]] W (Law.Yes W) := by
  have SY := Lib.hid hs
  have RA := Lib.hid (fun V => right_c a1 A n c V false ha)
  have LA := Lib.hid (fun V => lright_c a1 A n c V false ha)
  clear ha
  have X0 := Lib.hid ((HM.new (e := a1) (n := n) (c := c) hx rfl).alloc (.cells #[.int .i64 b1, .slice B m cb] 24))
  have Y0 := Lib.hid (HM.new (V := W.alloc (.cells #[.int .i64 a1, .slice A n c] 24)) (g := W.heap.size + 1) (e := b1) (n := m) (c := cb) (hy.alloc _) (alloc2_size _ _))
  have B0 := Lib.hid (show Below W.heap.size W ((W.alloc (.cells #[.int .i64 a1, .slice A n c] 24)).alloc (.cells #[.int .i64 b1, .slice B m cb] 24)) from (below_alloc _ _).alloc (by simp) _)
  have HN := Lib.hid hn
  have HMM := Lib.hid hm
  clear hn hx hm hy
  clear hs
  go_enter Try.func3, Try.ntmps3
  obtain ⟨X_0, X_1, -⟩ := X0.out
  obtain ⟨Y_0, Y_1, -⟩ := Y0.out
  go_wp2_with fail
  refine (diff_c _ _ la n _ _ _ lb m _ _ HN.out hbig X0.out.2.2 HMM.out hmb Y0.out.2.2 0 [] 0 1 SY.out).mono ?_
  rintro e w1 ⟨A1, c1, rfl, hr, hb, -⟩
  clear X_0 X_1 Y_0 Y_1
  have Xr1 := Lib.hid (X0.out.below hb)
  have Yr1 := Lib.hid (Y0.out.below hb)
  have Br1 := Lib.hid (B0.out.trans (hb.mono B0.out.size))
  clear X0 Y0
  have Xa1 := Lib.hid (Xr1.out.alloc (.cells #[.int .i64 (0 : Int), .slice A1 0 c1] 27))
  have Ya1 := Lib.hid (Yr1.out.alloc (.cells #[.int .i64 (0 : Int), .slice A1 0 c1] 27))
  have Ba1 := Lib.hid (Br1.out.alloc Br1.out.size (.cells #[.int .i64 (0 : Int), .slice A1 0 c1] 27))
  have Sa1 := Lib.hid (HS.new (e := (0 : Int)) (n := 0) (c := c1) hr (rfl : w1.heap.size = w1.heap.size))
  clear hr hb Xr1 Yr1
  obtain ⟨X_0, X_1, -⟩ := Xa1.out
  obtain ⟨Y_0, Y_1, -⟩ := Ya1.out
  obtain ⟨S_0, S_1, -⟩ := Sa1.out
  go_upto_region 5 with fail
  obtain ⟨V, hV⟩ : ∃ V, V = w1.alloc (.cells #[.int .i64 (0 : Int), .slice A1 0 c1] 27) := ⟨_, rfl⟩
  rw [← hV] at Xa1 Ya1 Sa1 Ba1 X_0 X_1 Y_0 Y_1 S_0 S_1 ⊢
  clear hV
  clear X_0 X_1 Y_0 Y_1 S_0 S_1
  have SK := Lib.hid (show ∀ w, Below V.heap.size V w → w.cell? ⟨W.heap.size, 0, none⟩ = some (.int .i64 a1) ∧ w.cell? ⟨W.heap.size, 1, none⟩ = some (.slice A n c) from fun w hb => ⟨(Xa1.out.below hb).1, (Xa1.out.below hb).2.1⟩)
  go_cut [20] (fun v wx => v = .bool false ∧ Below V.heap.size V wx)
  case first =>
    go_region_held3 (fun w' => w'.cell? ⟨W.heap.size, 0, none⟩ = some (.int .i64 a1) ∧ w'.cell? ⟨W.heap.size, 1, none⟩ = some (.slice A n c)) (first | exact SK.out _ (below_drew (Below.refl _ _)) | exact SK.out _ KA.out | exact SK.out _ KB.out | go_keep)
      (first
        | (go_at_call 10; refine (RA.out V.drew).mono ?_; rintro e wA ⟨rfl, hb⟩; have KA := Lib.hid (show Below V.heap.size V wA from undrew_ hb); clear hb)
        | (go_at_call 11; refine (LA.out V.drew).mono ?_; rintro e wB ⟨rfl, hb⟩; have KB := Lib.hid (show Below V.heap.size V wB from undrew_ hb); clear hb)
        | (go_at_call 11; refine (LA.out wA).mono ?_; rintro e wB ⟨rfl, hb⟩; have KB := Lib.hid (show Below V.heap.size V wB from KA.out.trans (hb.mono KA.out.size)); clear hb)
        | (go_at_call 10; refine (RA.out wB).mono ?_; rintro e wA ⟨rfl, hb⟩; have KA := Lib.hid (show Below V.heap.size V wA from KB.out.trans (hb.mono KB.out.size)); clear hb))
    all_goals go_wp2_with fail
    all_goals go_meet
    all_goals first | exact ⟨rfl, KB.out⟩ | exact ⟨rfl, KA.out⟩
  case rest =>
    obtain ⟨rfl, hcb⟩ := hcut
    obtain ⟨w9, rfl⟩ : ∃ w : World, w = wc := ⟨_, rfl⟩
    have Xp := Lib.hid (Xa1.out.below hcb)
    have Yp := Lib.hid (Ya1.out.below hcb)
    have Sp := Lib.hid (Sa1.out.below hcb)
    have Bp := Lib.hid (Ba1.out.trans (hcb.mono Ba1.out.size))
    clear Xa1 Ya1 Sa1
    clear hcb SK
    obtain ⟨X_0, X_1, -⟩ := Xp.out
    obtain ⟨Y_0, Y_1, -⟩ := Yp.out
    obtain ⟨S_0, S_1, -⟩ := Sp.out
    go_wp2_with fail
    refine (LA.out _).mono ?_
    rintro e w11 ⟨rfl, hb⟩
    clear X_0 X_1 Y_0 Y_1 S_0 S_1
    have Xr11 := Lib.hid (Xp.out.below hb)
    have Yr11 := Lib.hid (Yp.out.below hb)
    have Sr11 := Lib.hid (Sp.out.below hb)
    have Br11 := Lib.hid (Bp.out.trans (hb.mono Bp.out.size))
    clear Xp Yp Sp
    clear hb
    obtain ⟨X_0, X_1, -⟩ := Xr11.out
    obtain ⟨Y_0, Y_1, -⟩ := Yr11.out
    obtain ⟨S_0, S_1, -⟩ := Sr11.out
    go_wp2
    go_ret
    exact ⟨rfl, Br11.out⟩
set_option maxRecDepth 100000 in
set_option maxHeartbeats 16000000 in
theorem badB (a1 : Int) (A : Option Addr) (la : List Int) (n c : Nat) (b1 : Int) (B : Option Addr) (lb : List Int) (m cb : Nat) (W : World) (hn : la.length = n) (hbig : n ≤ 17592186044416) (hx : Reads W A (ints la)) (hm : lb.length = m) (hmb : m ≤ 17592186044416) (hy : Reads W B (ints lb))
    (ha : okB a1 n = true) (hb0 : okB b1 m = false) (hs : SaysS (dfE (a1, la) (b1, lb)) (dfS (a1, la) (b1, lb)) 0 [] 0 1) :
    Calls Try.prog 3 #[.agg #[.int .i64 a1, .slice A n c], .agg #[.int .i64 b1, .slice B m cb]] W (Law.Yes W) := by
  have SY := Lib.hid hs
  have RA := Lib.hid (fun V => right_c a1 A n c V true ha)
  have LA := Lib.hid (fun V => lright_c a1 A n c V true ha)
  have LB := Lib.hid (fun V => lright_c b1 B m cb V false hb0)
  clear ha hb0
  have X0 := Lib.hid ((HM.new (e := a1) (n := n) (c := c) hx rfl).alloc (.cells #[.int .i64 b1, .slice B m cb] 24))
  have Y0 := Lib.hid (HM.new (V := W.alloc (.cells #[.int .i64 a1, .slice A n c] 24)) (g := W.heap.size + 1) (e := b1) (n := m) (c := cb) (hy.alloc _) (alloc2_size _ _))
  have B0 := Lib.hid (show Below W.heap.size W ((W.alloc (.cells #[.int .i64 a1, .slice A n c] 24)).alloc (.cells #[.int .i64 b1, .slice B m cb] 24)) from (below_alloc _ _).alloc (by simp) _)
  have HN := Lib.hid hn
  have HMM := Lib.hid hm
  clear hn hx hm hy
  clear hs
  go_enter Try.func3, Try.ntmps3
  obtain ⟨X_0, X_1, -⟩ := X0.out
  obtain ⟨Y_0, Y_1, -⟩ := Y0.out
  go_wp2_with fail
  refine (diff_c _ _ la n _ _ _ lb m _ _ HN.out hbig X0.out.2.2 HMM.out hmb Y0.out.2.2 0 [] 0 1 SY.out).mono ?_
  rintro e w1 ⟨A1, c1, rfl, hr, hb, -⟩
  clear X_0 X_1 Y_0 Y_1
  have Xr1 := Lib.hid (X0.out.below hb)
  have Yr1 := Lib.hid (Y0.out.below hb)
  have Br1 := Lib.hid (B0.out.trans (hb.mono B0.out.size))
  clear X0 Y0
  have Xa1 := Lib.hid (Xr1.out.alloc (.cells #[.int .i64 (0 : Int), .slice A1 0 c1] 27))
  have Ya1 := Lib.hid (Yr1.out.alloc (.cells #[.int .i64 (0 : Int), .slice A1 0 c1] 27))
  have Ba1 := Lib.hid (Br1.out.alloc Br1.out.size (.cells #[.int .i64 (0 : Int), .slice A1 0 c1] 27))
  have Sa1 := Lib.hid (HS.new (e := (0 : Int)) (n := 0) (c := c1) hr (rfl : w1.heap.size = w1.heap.size))
  clear hr hb Xr1 Yr1
  obtain ⟨X_0, X_1, -⟩ := Xa1.out
  obtain ⟨Y_0, Y_1, -⟩ := Ya1.out
  obtain ⟨S_0, S_1, -⟩ := Sa1.out
  go_upto_region 5 with fail
  obtain ⟨V, hV⟩ : ∃ V, V = w1.alloc (.cells #[.int .i64 (0 : Int), .slice A1 0 c1] 27) := ⟨_, rfl⟩
  rw [← hV] at Xa1 Ya1 Sa1 Ba1 X_0 X_1 Y_0 Y_1 S_0 S_1 ⊢
  clear hV
  clear X_0 X_1 Y_0 Y_1 S_0 S_1
  have SK := Lib.hid (show ∀ w, Below V.heap.size V w → w.cell? ⟨W.heap.size, 0, none⟩ = some (.int .i64 a1) ∧ w.cell? ⟨W.heap.size, 1, none⟩ = some (.slice A n c) from fun w hb => ⟨(Xa1.out.below hb).1, (Xa1.out.below hb).2.1⟩)
  go_cut [20] (fun v wx => v = .bool false ∧ Below V.heap.size V wx)
  case first =>
    go_region_held3 (fun w' => w'.cell? ⟨W.heap.size, 0, none⟩ = some (.int .i64 a1) ∧ w'.cell? ⟨W.heap.size, 1, none⟩ = some (.slice A n c)) (first | exact SK.out _ (below_drew (Below.refl _ _)) | exact SK.out _ KA.out | exact SK.out _ KB.out | go_keep)
      (first
        | (go_at_call 10; refine (RA.out V.drew).mono ?_; rintro e wA ⟨rfl, hb⟩; have KA := Lib.hid (show Below V.heap.size V wA from undrew_ hb); clear hb)
        | (go_at_call 11; refine (LA.out V.drew).mono ?_; rintro e wB ⟨rfl, hb⟩; have KB := Lib.hid (show Below V.heap.size V wB from undrew_ hb); clear hb)
        | (go_at_call 11; refine (LA.out wA).mono ?_; rintro e wB ⟨rfl, hb⟩; have KB := Lib.hid (show Below V.heap.size V wB from KA.out.trans (hb.mono KA.out.size)); clear hb)
        | (go_at_call 10; refine (RA.out wB).mono ?_; rintro e wA ⟨rfl, hb⟩; have KA := Lib.hid (show Below V.heap.size V wA from KB.out.trans (hb.mono KB.out.size)); clear hb))
    all_goals go_wp2_with fail
    all_goals go_meet
    all_goals first | exact ⟨rfl, KB.out⟩ | exact ⟨rfl, KA.out⟩
  case rest =>
    obtain ⟨rfl, hcb⟩ := hcut
    obtain ⟨w9, rfl⟩ : ∃ w : World, w = wc := ⟨_, rfl⟩
    have Xp := Lib.hid (Xa1.out.below hcb)
    have Yp := Lib.hid (Ya1.out.below hcb)
    have Sp := Lib.hid (Sa1.out.below hcb)
    have Bp := Lib.hid (Ba1.out.trans (hcb.mono Ba1.out.size))
    clear Xa1 Ya1 Sa1
    clear hcb SK
    obtain ⟨X_0, X_1, -⟩ := Xp.out
    obtain ⟨Y_0, Y_1, -⟩ := Yp.out
    obtain ⟨S_0, S_1, -⟩ := Sp.out
    go_wp2_with fail
    refine (LA.out _).mono ?_
    rintro e w11 ⟨rfl, hb⟩
    clear X_0 X_1 Y_0 Y_1 S_0 S_1
    have Xr11 := Lib.hid (Xp.out.below hb)
    have Yr11 := Lib.hid (Yp.out.below hb)
    have Sr11 := Lib.hid (Sp.out.below hb)
    have Br11 := Lib.hid (Bp.out.trans (hb.mono Bp.out.size))
    clear Xp Yp Sp
    clear hb
    obtain ⟨X_0, X_1, -⟩ := Xr11.out
    obtain ⟨Y_0, Y_1, -⟩ := Yr11.out
    obtain ⟨S_0, S_1, -⟩ := Sr11.out
    go_wp2_with fail
    refine (LB.out _).mono ?_
    rintro e w12 ⟨rfl, hb⟩
    clear X_0 X_1 Y_0 Y_1 S_0 S_1
    have Xr12 := Lib.hid (Xr11.out.below hb)
    have Yr12 := Lib.hid (Yr11.out.below hb)
    have Sr12 := Lib.hid (Sr11.out.below hb)
    have Br12 := Lib.hid (Br11.out.trans (hb.mono Br11.out.size))
    clear Xr11 Yr11 Sr11
    clear hb
    obtain ⟨X_0, X_1, -⟩ := Xr12.out
    obtain ⟨Y_0, Y_1, -⟩ := Yr12.out
    obtain ⟨S_0, S_1, -⟩ := Sr12.out
    go_wp2
    go_ret
    exact ⟨rfl, Br12.out⟩
set_option maxRecDepth 100000 in
set_option maxHeartbeats 16000000 in
theorem badN (a1 : Int) (A : Option Addr) (la : List Int) (n c : Nat) (b1 : Int) (B : Option Addr) (lb : List Int) (m cb : Nat) (W : World) (hn : la.length = n) (hbig : n ≤ 17592186044416) (hx : Reads W A (ints la)) (hm : lb.length = m) (hmb : m ≤ 17592186044416) (hy : Reads W B (ints lb))
    (ha : okB a1 n = true) (hb0 : okB b1 m = true) (hne : n ≠ m) (hs : SaysS (dfE (a1, la) (b1, lb)) (dfS (a1, la) (b1, lb)) 0 [] 0 1) :
    Calls Try.prog 3 #[.agg #[.int .i64 a1, .slice A n c], .agg #[.int .i64 b1, .slice B m cb]] W (Law.Yes W) := by
  have SY := Lib.hid hs
  have q0 : ((n : Int) != (m : Int)) = true := by simp; omega
  have q0n : (n != m) = true := by simpa using hne
  clear hne
  have RA := Lib.hid (fun V => right_c a1 A n c V true ha)
  have LA := Lib.hid (fun V => lright_c a1 A n c V true ha)
  have LB := Lib.hid (fun V => lright_c b1 B m cb V true hb0)
  clear ha hb0
  have X0 := Lib.hid ((HM.new (e := a1) (n := n) (c := c) hx rfl).alloc (.cells #[.int .i64 b1, .slice B m cb] 24))
  have Y0 := Lib.hid (HM.new (V := W.alloc (.cells #[.int .i64 a1, .slice A n c] 24)) (g := W.heap.size + 1) (e := b1) (n := m) (c := cb) (hy.alloc _) (alloc2_size _ _))
  have B0 := Lib.hid (show Below W.heap.size W ((W.alloc (.cells #[.int .i64 a1, .slice A n c] 24)).alloc (.cells #[.int .i64 b1, .slice B m cb] 24)) from (below_alloc _ _).alloc (by simp) _)
  have HN := Lib.hid hn
  have HMM := Lib.hid hm
  clear hn hx hm hy
  clear hs
  go_enter Try.func3, Try.ntmps3
  obtain ⟨X_0, X_1, -⟩ := X0.out
  obtain ⟨Y_0, Y_1, -⟩ := Y0.out
  go_wp2_with fail
  refine (diff_c _ _ la n _ _ _ lb m _ _ HN.out hbig X0.out.2.2 HMM.out hmb Y0.out.2.2 0 [] 0 1 SY.out).mono ?_
  rintro e w1 ⟨A1, c1, rfl, hr, hb, -⟩
  clear X_0 X_1 Y_0 Y_1
  have Xr1 := Lib.hid (X0.out.below hb)
  have Yr1 := Lib.hid (Y0.out.below hb)
  have Br1 := Lib.hid (B0.out.trans (hb.mono B0.out.size))
  clear X0 Y0
  have Xa1 := Lib.hid (Xr1.out.alloc (.cells #[.int .i64 (0 : Int), .slice A1 0 c1] 27))
  have Ya1 := Lib.hid (Yr1.out.alloc (.cells #[.int .i64 (0 : Int), .slice A1 0 c1] 27))
  have Ba1 := Lib.hid (Br1.out.alloc Br1.out.size (.cells #[.int .i64 (0 : Int), .slice A1 0 c1] 27))
  have Sa1 := Lib.hid (HS.new (e := (0 : Int)) (n := 0) (c := c1) hr (rfl : w1.heap.size = w1.heap.size))
  clear hr hb Xr1 Yr1
  obtain ⟨X_0, X_1, -⟩ := Xa1.out
  obtain ⟨Y_0, Y_1, -⟩ := Ya1.out
  obtain ⟨S_0, S_1, -⟩ := Sa1.out
  go_upto_region 5 with fail
  obtain ⟨V, hV⟩ : ∃ V, V = w1.alloc (.cells #[.int .i64 (0 : Int), .slice A1 0 c1] 27) := ⟨_, rfl⟩
  rw [← hV] at Xa1 Ya1 Sa1 Ba1 X_0 X_1 Y_0 Y_1 S_0 S_1 ⊢
  clear hV
  clear X_0 X_1 Y_0 Y_1 S_0 S_1
  have SK := Lib.hid (show ∀ w, Below V.heap.size V w → w.cell? ⟨W.heap.size, 0, none⟩ = some (.int .i64 a1) ∧ w.cell? ⟨W.heap.size, 1, none⟩ = some (.slice A n c) from fun w hb => ⟨(Xa1.out.below hb).1, (Xa1.out.below hb).2.1⟩)
  go_cut [20] (fun v wx => v = .bool false ∧ Below V.heap.size V wx)
  case first =>
    go_region_held3 (fun w' => w'.cell? ⟨W.heap.size, 0, none⟩ = some (.int .i64 a1) ∧ w'.cell? ⟨W.heap.size, 1, none⟩ = some (.slice A n c)) (first | exact SK.out _ (below_drew (Below.refl _ _)) | exact SK.out _ KA.out | exact SK.out _ KB.out | go_keep)
      (first
        | (go_at_call 10; refine (RA.out V.drew).mono ?_; rintro e wA ⟨rfl, hb⟩; have KA := Lib.hid (show Below V.heap.size V wA from undrew_ hb); clear hb)
        | (go_at_call 11; refine (LA.out V.drew).mono ?_; rintro e wB ⟨rfl, hb⟩; have KB := Lib.hid (show Below V.heap.size V wB from undrew_ hb); clear hb)
        | (go_at_call 11; refine (LA.out wA).mono ?_; rintro e wB ⟨rfl, hb⟩; have KB := Lib.hid (show Below V.heap.size V wB from KA.out.trans (hb.mono KA.out.size)); clear hb)
        | (go_at_call 10; refine (RA.out wB).mono ?_; rintro e wA ⟨rfl, hb⟩; have KA := Lib.hid (show Below V.heap.size V wA from KB.out.trans (hb.mono KB.out.size)); clear hb))
    all_goals go_wp2_with fail
    all_goals go_meet
    all_goals first | exact ⟨rfl, KB.out⟩ | exact ⟨rfl, KA.out⟩
  case rest =>
    obtain ⟨rfl, hcb⟩ := hcut
    obtain ⟨w9, rfl⟩ : ∃ w : World, w = wc := ⟨_, rfl⟩
    have Xp := Lib.hid (Xa1.out.below hcb)
    have Yp := Lib.hid (Ya1.out.below hcb)
    have Sp := Lib.hid (Sa1.out.below hcb)
    have Bp := Lib.hid (Ba1.out.trans (hcb.mono Ba1.out.size))
    clear Xa1 Ya1 Sa1
    clear hcb SK
    obtain ⟨X_0, X_1, -⟩ := Xp.out
    obtain ⟨Y_0, Y_1, -⟩ := Yp.out
    obtain ⟨S_0, S_1, -⟩ := Sp.out
    go_wp2_with fail
    refine (LA.out _).mono ?_
    rintro e w11 ⟨rfl, hb⟩
    clear X_0 X_1 Y_0 Y_1 S_0 S_1
    have Xr11 := Lib.hid (Xp.out.below hb)
    have Yr11 := Lib.hid (Yp.out.below hb)
    have Sr11 := Lib.hid (Sp.out.below hb)
    have Br11 := Lib.hid (Bp.out.trans (hb.mono Bp.out.size))
    clear Xp Yp Sp
    clear hb
    obtain ⟨X_0, X_1, -⟩ := Xr11.out
    obtain ⟨Y_0, Y_1, -⟩ := Yr11.out
    obtain ⟨S_0, S_1, -⟩ := Sr11.out
    go_wp2_with fail
    refine (LB.out _).mono ?_
    rintro e w12 ⟨rfl, hb⟩
    clear X_0 X_1 Y_0 Y_1 S_0 S_1
    have Xr12 := Lib.hid (Xr11.out.below hb)
    have Yr12 := Lib.hid (Yr11.out.below hb)
    have Sr12 := Lib.hid (Sr11.out.below hb)
    have Br12 := Lib.hid (Br11.out.trans (hb.mono Br11.out.size))
    clear Xr11 Yr11 Sr11
    clear hb
    obtain ⟨X_0, X_1, -⟩ := Xr12.out
    obtain ⟨Y_0, Y_1, -⟩ := Yr12.out
    obtain ⟨S_0, S_1, -⟩ := Sr12.out
    go_wp2
    go_ret
    exact ⟨rfl, Br12.out⟩
set_option maxRecDepth 100000 in
set_option maxHeartbeats 16000000 in
theorem badE (a1 : Int) (A : Option Addr) (la : List Int) (n c : Nat) (b1 : Int) (B : Option Addr) (lb : List Int) (m cb : Nat) (W : World) (hn : la.length = n) (hbig : n ≤ 17592186044416) (hx : Reads W A (ints la)) (hm : lb.length = m) (hmb : m ≤ 17592186044416) (hy : Reads W B (ints lb))
    (ha : okB a1 n = true) (hb0 : okB b1 m = true) (heq : n = m) (hep : b1 ≠ a1 + 1) (hs : SaysS (dfE (a1, la) (b1, lb)) (dfS (a1, la) (b1, lb)) 0 [] 0 2) :
    Calls Try.prog 3 #[.agg #[.int .i64 a1, .slice A n c], .agg #[.int .i64 b1, .slice B m cb]] W (Law.Yes W) := by
  have SY := Lib.hid hs
  have q0 : ((n : Int) != (m : Int)) = false := by simp [heq]
  have q0n : (n != m) = false := by simp [heq]
  have wb : IntKind.i64.wrap (b1 - a1) = b1 - a1 := by
    have h1 := ha
    have h2 := hb0
    unfold okB at h1 h2
    rw [decide_eq_true_iff] at h1 h2
    exact IntWalk.i64_in _ (by omega)
  have q1 : (b1 - a1 != 1) = true := by simp; omega
  clear heq hep
  have RA := Lib.hid (fun V => right_c a1 A n c V true ha)
  have LA := Lib.hid (fun V => lright_c a1 A n c V true ha)
  have LB := Lib.hid (fun V => lright_c b1 B m cb V true hb0)
  clear ha hb0
  have X0 := Lib.hid ((HM.new (e := a1) (n := n) (c := c) hx rfl).alloc (.cells #[.int .i64 b1, .slice B m cb] 24))
  have Y0 := Lib.hid (HM.new (V := W.alloc (.cells #[.int .i64 a1, .slice A n c] 24)) (g := W.heap.size + 1) (e := b1) (n := m) (c := cb) (hy.alloc _) (alloc2_size _ _))
  have B0 := Lib.hid (show Below W.heap.size W ((W.alloc (.cells #[.int .i64 a1, .slice A n c] 24)).alloc (.cells #[.int .i64 b1, .slice B m cb] 24)) from (below_alloc _ _).alloc (by simp) _)
  have HN := Lib.hid hn
  have HMM := Lib.hid hm
  clear hn hx hm hy
  clear hs
  go_enter Try.func3, Try.ntmps3
  obtain ⟨X_0, X_1, -⟩ := X0.out
  obtain ⟨Y_0, Y_1, -⟩ := Y0.out
  go_wp2_with fail
  refine (diff_c _ _ la n _ _ _ lb m _ _ HN.out hbig X0.out.2.2 HMM.out hmb Y0.out.2.2 0 [] 0 2 SY.out).mono ?_
  rintro e w1 ⟨A1, c1, rfl, hr, hb, -⟩
  clear X_0 X_1 Y_0 Y_1
  have Xr1 := Lib.hid (X0.out.below hb)
  have Yr1 := Lib.hid (Y0.out.below hb)
  have Br1 := Lib.hid (B0.out.trans (hb.mono B0.out.size))
  clear X0 Y0
  have Xa1 := Lib.hid (Xr1.out.alloc (.cells #[.int .i64 (0 : Int), .slice A1 0 c1] 27))
  have Ya1 := Lib.hid (Yr1.out.alloc (.cells #[.int .i64 (0 : Int), .slice A1 0 c1] 27))
  have Ba1 := Lib.hid (Br1.out.alloc Br1.out.size (.cells #[.int .i64 (0 : Int), .slice A1 0 c1] 27))
  have Sa1 := Lib.hid (HS.new (e := (0 : Int)) (n := 0) (c := c1) hr (rfl : w1.heap.size = w1.heap.size))
  clear hr hb Xr1 Yr1
  obtain ⟨X_0, X_1, -⟩ := Xa1.out
  obtain ⟨Y_0, Y_1, -⟩ := Ya1.out
  obtain ⟨S_0, S_1, -⟩ := Sa1.out
  go_upto_region 5 with fail
  obtain ⟨V, hV⟩ : ∃ V, V = w1.alloc (.cells #[.int .i64 (0 : Int), .slice A1 0 c1] 27) := ⟨_, rfl⟩
  rw [← hV] at Xa1 Ya1 Sa1 Ba1 X_0 X_1 Y_0 Y_1 S_0 S_1 ⊢
  clear hV
  clear X_0 X_1 Y_0 Y_1 S_0 S_1
  have SK := Lib.hid (show ∀ w, Below V.heap.size V w → w.cell? ⟨W.heap.size, 0, none⟩ = some (.int .i64 a1) ∧ w.cell? ⟨W.heap.size, 1, none⟩ = some (.slice A n c) from fun w hb => ⟨(Xa1.out.below hb).1, (Xa1.out.below hb).2.1⟩)
  go_cut [20] (fun v wx => v = .bool false ∧ Below V.heap.size V wx)
  case first =>
    go_region_held3 (fun w' => w'.cell? ⟨W.heap.size, 0, none⟩ = some (.int .i64 a1) ∧ w'.cell? ⟨W.heap.size, 1, none⟩ = some (.slice A n c)) (first | exact SK.out _ (below_drew (Below.refl _ _)) | exact SK.out _ KA.out | exact SK.out _ KB.out | go_keep)
      (first
        | (go_at_call 10; refine (RA.out V.drew).mono ?_; rintro e wA ⟨rfl, hb⟩; have KA := Lib.hid (show Below V.heap.size V wA from undrew_ hb); clear hb)
        | (go_at_call 11; refine (LA.out V.drew).mono ?_; rintro e wB ⟨rfl, hb⟩; have KB := Lib.hid (show Below V.heap.size V wB from undrew_ hb); clear hb)
        | (go_at_call 11; refine (LA.out wA).mono ?_; rintro e wB ⟨rfl, hb⟩; have KB := Lib.hid (show Below V.heap.size V wB from KA.out.trans (hb.mono KA.out.size)); clear hb)
        | (go_at_call 10; refine (RA.out wB).mono ?_; rintro e wA ⟨rfl, hb⟩; have KA := Lib.hid (show Below V.heap.size V wA from KB.out.trans (hb.mono KB.out.size)); clear hb))
    all_goals go_wp2_with fail
    all_goals go_meet
    all_goals first | exact ⟨rfl, KB.out⟩ | exact ⟨rfl, KA.out⟩
  case rest =>
    obtain ⟨rfl, hcb⟩ := hcut
    obtain ⟨w9, rfl⟩ : ∃ w : World, w = wc := ⟨_, rfl⟩
    have Xp := Lib.hid (Xa1.out.below hcb)
    have Yp := Lib.hid (Ya1.out.below hcb)
    have Sp := Lib.hid (Sa1.out.below hcb)
    have Bp := Lib.hid (Ba1.out.trans (hcb.mono Ba1.out.size))
    clear Xa1 Ya1 Sa1
    clear hcb SK
    obtain ⟨X_0, X_1, -⟩ := Xp.out
    obtain ⟨Y_0, Y_1, -⟩ := Yp.out
    obtain ⟨S_0, S_1, -⟩ := Sp.out
    go_wp2_with fail
    refine (LA.out _).mono ?_
    rintro e w11 ⟨rfl, hb⟩
    clear X_0 X_1 Y_0 Y_1 S_0 S_1
    have Xr11 := Lib.hid (Xp.out.below hb)
    have Yr11 := Lib.hid (Yp.out.below hb)
    have Sr11 := Lib.hid (Sp.out.below hb)
    have Br11 := Lib.hid (Bp.out.trans (hb.mono Bp.out.size))
    clear Xp Yp Sp
    clear hb
    obtain ⟨X_0, X_1, -⟩ := Xr11.out
    obtain ⟨Y_0, Y_1, -⟩ := Yr11.out
    obtain ⟨S_0, S_1, -⟩ := Sr11.out
    go_wp2_with fail
    refine (LB.out _).mono ?_
    rintro e w12 ⟨rfl, hb⟩
    clear X_0 X_1 Y_0 Y_1 S_0 S_1
    have Xr12 := Lib.hid (Xr11.out.below hb)
    have Yr12 := Lib.hid (Yr11.out.below hb)
    have Sr12 := Lib.hid (Sr11.out.below hb)
    have Br12 := Lib.hid (Br11.out.trans (hb.mono Br11.out.size))
    clear Xr11 Yr11 Sr11
    clear hb
    obtain ⟨X_0, X_1, -⟩ := Xr12.out
    obtain ⟨Y_0, Y_1, -⟩ := Yr12.out
    obtain ⟨S_0, S_1, -⟩ := Sr12.out
    go_wp2
    go_ret
    exact ⟨rfl, Br12.out⟩
set_option maxRecDepth 100000 in
set_option maxHeartbeats 16000000 in
theorem good (a1 : Int) (A : Option Addr) (la : List Int) (n c : Nat) (b1 : Int) (B : Option Addr) (lb : List Int) (m cb : Nat) (W : World) (hn : la.length = n) (hbig : n ≤ 17592186044416) (hx : Reads W A (ints la)) (hm : lb.length = m) (hmb : m ≤ 17592186044416) (hy : Reads W B (ints lb))
    (d0 : List Ch) (n0 : Nat) (ha : okB a1 n = true) (hb0 : okB b1 m = true) (heq : n = m) (hep : b1 = a1 + 1) (hd : d0 = df 0 la lb) (hs : SaysS (dfE (a1, la) (b1, lb)) (dfS (a1, la) (b1, lb)) a1 d0 n0 0) :
    Calls Try.prog 3 #[.agg #[.int .i64 a1, .slice A n c], .agg #[.int .i64 b1, .slice B m cb]] W (Law.Yes W) := by
  have SY := Lib.hid hs
  have q0 : ((n : Int) != (m : Int)) = false := by simp [heq]
  have q0n : (n != m) = false := by simp [heq]
  have n4 : n ≤ 400 := by
    have h1 := ha
    unfold okB at h1
    rw [decide_eq_true_iff] at h1
    omega
  have wb : IntKind.i64.wrap (b1 - a1) = b1 - a1 := by
    have h1 := ha
    have h2 := hb0
    unfold okB at h1 h2
    rw [decide_eq_true_iff] at h1 h2
    exact IntWalk.i64_in _ (by omega)
  have q1 : (b1 - a1 != 1) = false := by rw [hep]; simp; omega
  have q2 : (a1 == a1) = true := by simp
  have DD := Lib.hid hd
  have HNM := Lib.hid heq
  have DL := Lib.hid (show d0.length = n0 from hs.2.2)
  have dq : n0 ≤ 400 := by rw [← DL.out, hd]; have := df_len 0 la lb; omega
  clear heq hep hd
  have RA := Lib.hid (fun V => right_c a1 A n c V true ha)
  have LA := Lib.hid (fun V => lright_c a1 A n c V true ha)
  have LB := Lib.hid (fun V => lright_c b1 B m cb V true hb0)
  clear ha hb0
  have X0 := Lib.hid ((HM.new (e := a1) (n := n) (c := c) hx rfl).alloc (.cells #[.int .i64 b1, .slice B m cb] 24))
  have Y0 := Lib.hid (HM.new (V := W.alloc (.cells #[.int .i64 a1, .slice A n c] 24)) (g := W.heap.size + 1) (e := b1) (n := m) (c := cb) (hy.alloc _) (alloc2_size _ _))
  have B0 := Lib.hid (show Below W.heap.size W ((W.alloc (.cells #[.int .i64 a1, .slice A n c] 24)).alloc (.cells #[.int .i64 b1, .slice B m cb] 24)) from (below_alloc _ _).alloc (by simp) _)
  have HN := Lib.hid hn
  have HMM := Lib.hid hm
  clear hn hx hm hy
  clear hs
  go_enter Try.func3, Try.ntmps3
  obtain ⟨X_0, X_1, -⟩ := X0.out
  obtain ⟨Y_0, Y_1, -⟩ := Y0.out
  go_wp2_with fail
  refine (diff_c _ _ la n _ _ _ lb m _ _ HN.out hbig X0.out.2.2 HMM.out hmb Y0.out.2.2 a1 d0 n0 0 SY.out).mono ?_
  rintro e w1 ⟨A1, c1, rfl, hr, hb, -⟩
  clear X_0 X_1 Y_0 Y_1
  have Xr1 := Lib.hid (X0.out.below hb)
  have Yr1 := Lib.hid (Y0.out.below hb)
  have Br1 := Lib.hid (B0.out.trans (hb.mono B0.out.size))
  clear X0 Y0
  have Xa1 := Lib.hid (Xr1.out.alloc (.cells #[.int .i64 a1, .slice A1 n0 c1] 27))
  have Ya1 := Lib.hid (Yr1.out.alloc (.cells #[.int .i64 a1, .slice A1 n0 c1] 27))
  have Ba1 := Lib.hid (Br1.out.alloc Br1.out.size (.cells #[.int .i64 a1, .slice A1 n0 c1] 27))
  have Sa1 := Lib.hid (HS.new (e := a1) (n := n0) (c := c1) hr (rfl : w1.heap.size = w1.heap.size))
  clear hr hb Xr1 Yr1
  obtain ⟨X_0, X_1, -⟩ := Xa1.out
  obtain ⟨Y_0, Y_1, -⟩ := Ya1.out
  obtain ⟨S_0, S_1, -⟩ := Sa1.out
  go_upto_region 5 with fail
  obtain ⟨V, hV⟩ : ∃ V, V = w1.alloc (.cells #[.int .i64 a1, .slice A1 n0 c1] 27) := ⟨_, rfl⟩
  rw [← hV] at Xa1 Ya1 Sa1 Ba1 X_0 X_1 Y_0 Y_1 S_0 S_1 ⊢
  clear hV
  clear X_0 X_1 Y_0 Y_1 S_0 S_1
  have SK := Lib.hid (show ∀ w, Below V.heap.size V w → w.cell? ⟨W.heap.size, 0, none⟩ = some (.int .i64 a1) ∧ w.cell? ⟨W.heap.size, 1, none⟩ = some (.slice A n c) from fun w hb => ⟨(Xa1.out.below hb).1, (Xa1.out.below hb).2.1⟩)
  go_cut [20] (fun v wx => v = .bool false ∧ Below V.heap.size V wx)
  case first =>
    go_region_held3 (fun w' => w'.cell? ⟨W.heap.size, 0, none⟩ = some (.int .i64 a1) ∧ w'.cell? ⟨W.heap.size, 1, none⟩ = some (.slice A n c)) (first | exact SK.out _ (below_drew (Below.refl _ _)) | exact SK.out _ KA.out | exact SK.out _ KB.out | go_keep)
      (first
        | (go_at_call 10; refine (RA.out V.drew).mono ?_; rintro e wA ⟨rfl, hb⟩; have KA := Lib.hid (show Below V.heap.size V wA from undrew_ hb); clear hb)
        | (go_at_call 11; refine (LA.out V.drew).mono ?_; rintro e wB ⟨rfl, hb⟩; have KB := Lib.hid (show Below V.heap.size V wB from undrew_ hb); clear hb)
        | (go_at_call 11; refine (LA.out wA).mono ?_; rintro e wB ⟨rfl, hb⟩; have KB := Lib.hid (show Below V.heap.size V wB from KA.out.trans (hb.mono KA.out.size)); clear hb)
        | (go_at_call 10; refine (RA.out wB).mono ?_; rintro e wA ⟨rfl, hb⟩; have KA := Lib.hid (show Below V.heap.size V wA from KB.out.trans (hb.mono KB.out.size)); clear hb))
    all_goals go_wp2_with fail
    all_goals go_meet
    all_goals first | exact ⟨rfl, KB.out⟩ | exact ⟨rfl, KA.out⟩
  case rest =>
    obtain ⟨rfl, hcb⟩ := hcut
    obtain ⟨w9, rfl⟩ : ∃ w : World, w = wc := ⟨_, rfl⟩
    have Xp := Lib.hid (Xa1.out.below hcb)
    have Yp := Lib.hid (Ya1.out.below hcb)
    have Sp := Lib.hid (Sa1.out.below hcb)
    have Bp := Lib.hid (Ba1.out.trans (hcb.mono Ba1.out.size))
    clear Xa1 Ya1 Sa1
    clear hcb SK
    obtain ⟨X_0, X_1, -⟩ := Xp.out
    obtain ⟨Y_0, Y_1, -⟩ := Yp.out
    obtain ⟨S_0, S_1, -⟩ := Sp.out
    go_wp2_with fail
    refine (LA.out _).mono ?_
    rintro e w11 ⟨rfl, hb⟩
    clear X_0 X_1 Y_0 Y_1 S_0 S_1
    have Xr11 := Lib.hid (Xp.out.below hb)
    have Yr11 := Lib.hid (Yp.out.below hb)
    have Sr11 := Lib.hid (Sp.out.below hb)
    have Br11 := Lib.hid (Bp.out.trans (hb.mono Bp.out.size))
    clear Xp Yp Sp
    clear hb
    obtain ⟨X_0, X_1, -⟩ := Xr11.out
    obtain ⟨Y_0, Y_1, -⟩ := Yr11.out
    obtain ⟨S_0, S_1, -⟩ := Sr11.out
    go_wp2_with fail
    refine (LB.out _).mono ?_
    rintro e w12 ⟨rfl, hb⟩
    clear X_0 X_1 Y_0 Y_1 S_0 S_1
    have Xr12 := Lib.hid (Xr11.out.below hb)
    have Yr12 := Lib.hid (Yr11.out.below hb)
    have Sr12 := Lib.hid (Sr11.out.below hb)
    have Br12 := Lib.hid (Br11.out.trans (hb.mono Br11.out.size))
    clear Xr11 Yr11 Sr11
    clear hb
    obtain ⟨X_0, X_1, -⟩ := Xr12.out
    obtain ⟨Y_0, Y_1, -⟩ := Yr12.out
    obtain ⟨S_0, S_1, -⟩ := Sr12.out
    go_wp2
    obtain ⟨w5, hw5⟩ : ∃ w : World, w = w12 := ⟨_, rfl⟩
    rw [← hw5] at X_0 X_1 Y_0 Y_1 S_0 S_1 Xr12 Yr12 Sr12 Br12 ⊢
    clear hw5
    clear X_0 X_1 Y_0 Y_1 S_0 S_1
    go_loopw [8, 65] (fun v i wr => ∃ (k q : Nat) (D : Option Addr) (dc : Nat), k ≤ n ∧ q ≤ k ∧ i = .int .i64 k ∧ v = .slice D q dc ∧ (df 0 (la.take k) (lb.take k)).length = q ∧ CTab wr w5.heap.size (.slice D q dc) (df 0 (la.take k) (lb.take k)) ∧ Below w5.heap.size w5 wr) (fun _ i _ => n - (intOf i).toNat)
    case atStart => exact ⟨0, 0, none, 0, by omega, by omega, rfl, rfl, rfl, CTab.nil _ _, Below.refl _ _⟩
    case round =>
      obtain ⟨k, q, D, dc, hk, hqk, rfl, rfl, hdl, hT, hB⟩ := hrel
      obtain ⟨X_0, X_1, hRX⟩ := Xr12.out.below hB
      obtain ⟨Y_0, Y_1, hRY⟩ := Yr12.out.below hB
      obtain ⟨S_0, S_1, hRS⟩ := Sr12.out.below hB
      have HT := Lib.hid hT
      have HB := Lib.hid hB
      by_cases hlt : k < n
      · have ka : k < la.length := by rw [HN.out]; exact hlt
        have kb : k < lb.length := by rw [HMM.out, ← HNM.out]; exact hlt
        have ea : la[k]? = some la[k] := List.getElem?_eq_getElem ka
        have eb : lb[k]? = some lb[k] := List.getElem?_eq_getElem kb
        obtain ⟨x, hu⟩ : ∃ x, x = la[k] := ⟨_, rfl⟩
        obtain ⟨y, hv⟩ : ∃ y, y = lb[k] := ⟨_, rfl⟩
        rw [← hu] at ea
        rw [← hv] at eb
        obtain ⟨ba, oa, rfl, hba, xa5⟩ := Xr12.out.2.2 k (.int .i64 x) (by rw [List.getElem?_map, ea]; rfl)
        obtain ⟨bb, ob, rfl, hbb, xb5⟩ := Yr12.out.2.2 k (.int .i64 y) (by rw [List.getElem?_map, eb]; rfl)
        have xa := (hB.cell (p := ⟨ba, oa + k, none⟩) hba).trans xa5
        have xb := (hB.cell (p := ⟨bb, ob + k, none⟩) hbb).trans xb5
        have SK5 := Lib.hid (show ∀ w, Below w5.heap.size w5 w → w.cell? ⟨W.heap.size, 1, none⟩ = some (.slice (some ⟨ba, oa, none⟩) n c) ∧ w.cell? ⟨W.heap.size + 1, 1, none⟩ = some (.slice (some ⟨bb, ob, none⟩) m cb) ∧ w.cell? ⟨ba, oa + k, none⟩ = some (.int .i64 x) ∧ w.cell? ⟨bb, ob + k, none⟩ = some (.int .i64 y) from
          fun w hb => ⟨(Xr12.out.below hb).2.1, (Yr12.out.below hb).2.1, (hb.cell (p := ⟨ba, oa + k, none⟩) hba).trans xa5, (hb.cell (p := ⟨bb, ob + k, none⟩) hbb).trans xb5⟩)
        obtain ⟨t1, t2⟩ := df_take HN.out (by rw [HMM.out, HNM.out]) ea eb
        have i1 : (k : Int) < (n : Int) := by omega
        have i2 : (k : Int) < (m : Int) := by have := HNM.out; omega
        have DL := Lib.hid hdl
        clear hu hv ka kb ea eb hT hB hdl hRX hRY hRS hba hbb xa5 xb5
        by_cases hxy : x = y
        · have q5 : (x != y) = false := by simp [hxy]
          have EQ := Lib.hid (t1 hxy)
          clear t1 t2 hxy
          go_wp2
          go_quiet (fail)
          go_wp2
          go_roundw
          case rel => exact ⟨k + 1, q, D, dc, by omega, by omega, by go_num, rfl, by rw [EQ.out]; exact DL.out, by rw [EQ.out]; exact HT.out.later (below_drewN (Below.refl _ _) _), below_drewN HB.out _⟩
          case measure => simp [intOf]; omega
        · have q5 : (x != y) = true := by simpa using hxy
          have EQ := Lib.hid (t2 hxy)
          clear t1 t2 hxy
          go_wp2
          go_quiet (fail)
          go_wp2
          clear X_0 X_1 Y_0 Y_1 S_0 S_1 xa xb
          go_region_held3 (fun w' => w'.cell? ⟨W.heap.size, 1, none⟩ = some (.slice (some ⟨ba, oa, none⟩) n c) ∧ w'.cell? ⟨W.heap.size + 1, 1, none⟩ = some (.slice (some ⟨bb, ob, none⟩) m cb) ∧ w'.cell? ⟨ba, oa + k, none⟩ = some (.int .i64 x) ∧ w'.cell? ⟨bb, ob + k, none⟩ = some (.int .i64 y)) (first | exact SK5.out _ (below_drew (below_drewN HB.out _)) | exact SK5.out _ ((below_drew (below_drewN HB.out _)).alloc HB.out.size _) | exact SK5.out _ K4.out | go_keep)
            (first
              | (refine step_append_ch (B := w5.heap.size) (n := q) (m := 1) (c := 1) (b := wr.heap.size) (o' := 0) (v := .slice D q dc) (es := df 0 (la.take k) (lb.take k)) (ys := [((k : Int), x, y)]) (AD := some ⟨wr.heap.size, 0, none⟩) (by rfl) _ _ (by rfl) rfl rfl rfl ((HT.out.later (below_drew (below_drewN (Below.refl wr.heap.size wr) _))).alloc _) DL.out (one_ch _ _ _ _) rfl (by omega) (Nat.le_trans HB.out.size (by simp)) ?_; intro D3 c3 w3 T3 G3; have K4 := Lib.hid (show Below w5.heap.size w5 w3 from ctab_grown (below_drew (below_drewN HB.out _)) HB.out.size (HT.out.later (below_drew (below_drewN (Below.refl wr.heap.size wr) _))) G3.out)))
          go_wp2
          go_roundw
          case rel => exact ⟨k + 1, q + 1, D3, c3, by omega, by omega, by go_num, rfl, by rw [EQ.out, List.length_append, DL.out]; rfl, by rw [EQ.out]; exact T3.out, K4.out⟩
          case measure => simp [intOf]; omega
      · obtain rfl : k = n := by omega
        have ET : df 0 (la.take k) (lb.take k) = d0 := by rw [DD.out, List.take_of_length_le (by rw [HN.out]; omega), List.take_of_length_le (by rw [HMM.out, ← HNM.out]; omega)]
        rw [ET] at HT hdl
        obtain rfl : q = n0 := by rw [← hdl, DL.out]
        have HRS := Lib.hid hRS
        have B9 := Lib.hid (Br12.out.trans (hB.mono Br12.out.size))
        clear hT hB hdl ET hRX hRY hRS
        go_wp2_with fail
        refine (equal_same _ _ d0 q _ _ _ DL.out (by omega) HRS.out HT.out.rds).mono ?_
        rintro e w6 ⟨rfl, hb⟩
        have B10 := Lib.hid (B9.out.trans (hb.mono B9.out.size))
        clear hb
        go_wp2
        go_ret
        exact ⟨rfl, B10.out⟩
set_option maxRecDepth 100000 in
theorem walk {H : Type} {enc : TypeId × Value → H} {base : Nat} {W : World} {v0 : Value} {d0 : DataW H} {p0 : List MemPlace}
    (o0 : Value.okWide Try.prog W .any base 24 v0) (h0 : DataW.Trod enc Try.prog W 0 (fun _ => true) true 24 v0 d0 p0) {v1 : Value} {d1 : DataW H} {p1 : List MemPlace}
    (o1 : Value.okWide Try.prog W .any base 24 v1) (h1 : DataW.Trod enc Try.prog W 0 (fun _ => true) true 24 v1 d1 p1)
    (hz : (DataW.weightsEach Try.prog [24, 24] [d0, d1]).all (· ≤ reachBytes) = true) :
    Calls Try.prog 3 #[v0, v1] W (Law.Yes W) := by
  obtain ⟨a1, A, la, n, c, rfl, _, hn, hnb, hx⟩ := open_mapZ o0 h0 hz (j := 0) rfl rfl
  obtain ⟨b1, B, lb, m, cb, rfl, _, hm, hmb, hy⟩ := open_mapZ o1 h1 hz (j := 1) rfl rfl
  have bad : ∀ k, dfE (a1, la) (b1, lb) = k → k ≠ 0 → SaysS (dfE (a1, la) (b1, lb)) (dfS (a1, la) (b1, lb)) 0 [] 0 k := fun k h h0 => ⟨h, dfS_bad (by rw [h]; exact h0), rfl⟩
  cases ha : okB a1 n with
  | false => exact badA a1 A la n c b1 B lb m cb W hn hnb hx hm hmb hy ha (bad 1 (df_one (.inl ((okB_false (m := (a1, la)) hn).1 ha))) (by decide))
  | true =>
    have ha' := (okB_iff (m := (a1, la)) hn).1 ha
    cases hb : okB b1 m with
    | false => exact badB a1 A la n c b1 B lb m cb W hn hnb hx hm hmb hy ha hb (bad 1 (df_one (.inr (.inl ((okB_false (m := (b1, lb)) hm).1 hb)))) (by decide))
    | true =>
      have hb' := (okB_iff (m := (b1, lb)) hm).1 hb
      by_cases hne : n = m
      · have hl : la.length = lb.length := by rw [hn, hm, hne]
        by_cases hep : b1 = a1 + 1
        · have h0 := df_zero ha' hb' hl hep
          exact good a1 A la n c b1 B lb m cb W hn hnb hx hm hmb hy _ _ ha hb hne hep rfl ⟨h0, dfS_of h0, rfl⟩
        · exact badE a1 A la n c b1 B lb m cb W hn hnb hx hm hmb hy ha hb hne hep (bad 2 (df_two ha' hb' hl hep) (by decide))
      · exact badN a1 A la n c b1 B lb m cb W hn hnb hx hm hmb hy ha hb hne (bad 1 (df_one (.inr (.inr (show la.length ≠ lb.length by rw [hn, hm]; exact hne)))) (by decide))
theorem own : ownKnob Try.prog.godebug = none := by kernel_rfl
theorem laid : laidOutB Try.prog = true := by kernel_rfl
theorem pars : ∀ t ∈ Try.f3.params.toList, Try.prog.readableRec t = true ∧ t < Try.prog.types.size := by
  have h : Try.f3.params.toList.all (fun t => Try.prog.readableRec t && decide (t < Try.prog.types.size)) = true := by kernel_rfl
  intro t ht; have := List.all_eq_true.1 h t ht; simpa using this
set_option maxRecDepth 100000 in
theorem calls (H : Type) (enc : TypeId × Value → H) (W : World) (base : Nat) (args : Array Value) (ds : List (DataW H)) (before : List MemPlace)
    (hval : ∀ (j : Nat) t v, Try.f3.params[j]? = some t → args[j]? = some v → Value.okWide Try.prog W .any base t v)
    (hA : DataW.TrodAll enc Try.prog W 0 (fun _ => true) true Try.f3.params.toList args.toList ds before) (hz : (DataW.weightsEach Try.prog Try.f3.params.toList ds).all (· ≤ reachBytes) = true) :
    Calls Try.prog 3 args W (Law.Yes W) := by
  rw [Try.params3] at hA hval hz
  obtain ⟨v0, vs0, d0, ds0, p0, q0, hargs, rfl, rfl, h0, r0⟩ := trodAll_cons hA
  obtain ⟨v1, vs1, d1, ds1, p1, q1, rfl, rfl, rfl, h1, r1⟩ := trodAll_cons r0
  obtain ⟨rfl, rfl, rfl⟩ := trodAll_nil r1
  obtain rfl : args = #[v0, v1] := by cases args; simp_all
  exact walk (W := W) (hval 0 24 v0 rfl rfl) h0 (hval 1 24 v1 rfl rfl) h1 hz
theorem fnOf (H : Type) : ∀ ds : List (DataW H), ds.length = Try.f3.params.toList.length → Rows.mapsDiffSpec.fn H ds = { results := [.lit (.bool true)], args := ds } := by
  intro ds h
  have h : ds.length = 2 := h
  obtain _ | ⟨x0, ds⟩ := ds
  · simp at h
  obtain _ | ⟨x1, ds⟩ := ds
  · simp at h
  obtain rfl : ds = [] := List.eq_nil_of_length_eq_zero (by simpa using h)
  rfl
set_option maxRecDepth 100000 in
theorem lifted (os : Os) (started : os.Started) (H : Type) (enc : TypeId × Value → H) :
    ReturnsInHanded {} Try.checked os 3 .any (Rows.mapsDiffSpec.pre6 enc Try.prog Try.f3 Rows.mapsDiffRow.domain false) (Rows.mapsDiffSpec.post enc Try.prog Try.f3 false true false false) := by
  refine returnsInHanded_of_change_sized (C := Try.checked) own started (by kernel_rfl) Try.func3
    (ChangeSpec.witness6 (enc := enc) (C := Try.checked) false ⟨#[], #[.agg #[.int .i64 0, .slice none 0 0], .agg #[.int .i64 0, .slice none 0 0]], []⟩ 8 (by kernel_rfl) (by kernel_rfl) (by kernel_rfl) (by kernel_rfl)) ?_
  intro W base args ds gs before hval hW _ hz _
  obtain ⟨p, q, hA, hV, rfl, hfz, hnd⟩ := id hW
  obtain ⟨rfl, rfl⟩ := trodVars_none hV
  simp only [List.append_nil] at hz
  have hz2 : (DataW.weightsEach Try.prog Try.f3.params.toList ds).all (· ≤ reachBytes) = true := hz
  exact Law.ending (C := Try.checked) (s := Rows.mapsDiffSpec) laid pars rfl Try.underlying4 rfl (fnOf H) hW (calls H enc W base args ds p hval hA hz2)
theorem over : Rows.mapsDiffRow.holds Try.pinned (OpenSpec.ofChange Rows.mapsDiffSpec) :=
  OpenClaim.holds_of_wide 3 Try.f3 rfl rfl rfl rfl rfl rfl rfl ⟨rfl, rfl, rfl, rfl, rfl⟩ rfl rfl rfl rfl rfl (by kernel_rfl) Try.func3 (by kernel_rfl)
    (of_decide_eq_true (by kernel_rfl)) (by unfold Func.isWrapper; first | (rw [if_pos (by decide +kernel)]; kernel_rfl) | (rw [if_neg (by decide +kernel)]; exact ⟨rfl, rfl⟩))
    (fun os started H enc _ => lifted os started H enc)
theorem proved : Rows.MapsDiffSaid := over
end Go.Proofs.Ytmijjaihedbjgaa.mapsDiff
