/-
  RingNext: for every ring, every node, every key and every number of nodes, the law RingNext answers true (who takes over is who stood next), and its arguments read afterwards av before. No condition.
-/
import Derived.Test.YtpnfcjodjgbdbaaRgFuncs
namespace Go.Proofs.Ytpnfcjodjgbdbaa.ringNext
open Go.ChangeShapes Go.WideShapes Go.ChangeAt Go.RowKit
open Mem Ring
set_option linter.unusedVariables false
set_option linter.unusedSimpArgs false

/-- Tokens and what is wrong. -/
def TksErr (l : List Tk) (n : Nat) (k : Int) (W : World) (e : Ending) (W' : World) : Prop :=
  ∃ A c, e = .returned (.tuple #[.slice A n c, .int .i64 k]) ∧ TRds W' A l ∧ Below W.heap.size W W'
/-- Nodes and what is wrong. -/
def NodesErr (l : List Int) (n : Nat) (k : Int) (W : World) (e : Ending) (W' : World) : Prop :=
  ∃ A c, e = .returned (.tuple #[.slice A n c, .int .i64 k]) ∧ Reads W' A (l.map (Value.int .i64)) ∧ Below W.heap.size W W'
theorem box1 (w : World) (t : TypeId) (u : Value) : (w.alloc (.cells #[u] t)).cell? ⟨w.heap.size, 0, none⟩ = some u := (Known.made w t #[u]).cell 0
set_option maxRecDepth 100000 in
set_option maxHeartbeats 4000000 in
theorem early (A : Option Addr) (n ca : Nat) (id : Int) (key : UInt64) (many : Int) (W : World) (ls : List Tk) (m : Nat) (e f : Int)
    (h1 : ∀ V, Below W.heap.size W V → Calls Try.prog 11 #[.slice A n ca, .int .i64 id] V (TksErr ls m e V))
    (h2 : ∀ V, Below W.heap.size W V → Calls Try.prog 16 #[.slice A n ca, .int .u64 key.toNat, .int .i64 many] V (NodesErr [] 0 f V))
    (hc : (e = 1 ∧ f = 1) ∨ (e = 0 ∧ f = 2) ∨ (e = 0 ∧ f = 8) ∨ (e = 0 ∧ f = 0 ∧ many = 0)) :
    Calls Try.prog 6 #[.slice A n ca, .int .i64 id, .int .u64 key.toNat, .int .i64 many] W (Law.Yes W) := by
  have H1 := Lib.hid h1
  have H2 := Lib.hid h2
  have c0 := box1 W 3 (.int .i64 id)
  have B0 := Lib.hid ((Below.refl _ W).alloc (Nat.le_refl _) (.cells #[.int .i64 id] 3))
  clear h1 h2
  rcases hc with ⟨rfl, rfl⟩ | ⟨rfl, rfl⟩ | ⟨rfl, rfl⟩ | ⟨rfl, rfl, rfl⟩
  all_goals
    go_enter Try.func6, Try.ntmps6
    go_wp2_with fail
    refine (alive_c _).mono ?_
    rintro e w1 ⟨rfl, hb⟩
    have c1 := (hb.cell (p := ⟨W.heap.size, 0, none⟩) (by simp)).trans c0
    have B1 := Lib.hid (B0.out.trans (hb.mono B0.out.size))
    clear hb c0 B0
    go_wp2_with fail
    refine (H1.out _ B1.out).mono ?_
    rintro e w2 ⟨A2, c2, rfl, hT, hb⟩
    have B2 := Lib.hid (B1.out.trans (hb.mono B1.out.size))
    clear hb hT B1 c1
    go_wp2_with fail
    refine (H2.out _ B2.out).mono ?_
    rintro e w3 ⟨A3, c3, rfl, hr, hb⟩
    have B3 := Lib.hid (B2.out.trans (hb.mono B2.out.size))
    clear hb B2 hr
    go_wp2
    go_ret
    exact ⟨rfl, B3.out⟩
set_option maxRecDepth 100000 in
set_option maxHeartbeats 8000000 in
theorem main (A : Option Addr) (n ca : Nat) (id : Int) (key : UInt64) (many : Nat) (W : World) (ls : List Tk) (m : Nat) (av left : List Int) (p : Nat)
    (h1 : ∀ V, Below W.heap.size W V → Calls Try.prog 11 #[.slice A n ca, .int .i64 id] V (TksErr ls m 0 V))
    (h2 : ∀ V, Below W.heap.size W V → Calls Try.prog 16 #[.slice A n ca, .int .u64 key.toNat, .int .i64 many] V (NodesErr av many 0 V))
    (h3 : ∀ V A c, TRds V A ls → Calls Try.prog 16 #[.slice A m c, .int .u64 key.toNat, .int .i64 p] V (NodesErr left p 0 V))
    (hm1 : 1 ≤ many) (hm2 : many ≤ 16) (ha : av.length = many) (hl : av.filter (fun x => x != id) = left) (hp : left.length = p) :
    Calls Try.prog 6 #[.slice A n ca, .int .i64 id, .int .u64 key.toNat, .int .i64 many] W (Law.Yes W) := by
  have H1 := Lib.hid h1
  have H2 := Lib.hid h2
  have H3 := Lib.hid h3
  have HA := Lib.hid ha
  have HL := Lib.hid hl
  have HP := Lib.hid hp
  have hpb : p ≤ 16 := by have := List.length_filter_le (fun x => x != id) av; rw [hl] at this; omega
  have i1 : ¬ (many : Int) < 1 := by omega
  have i2 : decide ((many : Int) < 1) = false := by rw [decide_eq_false_iff_not]; omega
  have c0 := box1 W 3 (.int .i64 id)
  have B0 := Lib.hid ((Below.refl _ W).alloc (Nat.le_refl _) (.cells #[.int .i64 id] 3))
  have mk := fun fn first cap w => mk_func fn first cap w
  clear h1 h2 h3 ha hl hp
  go_enter Try.func6, Try.ntmps6
  go_wp2_with fail
  refine (alive_c _).mono ?_
  rintro e w1 ⟨rfl, hb⟩
  have c1 := (hb.cell (p := ⟨W.heap.size, 0, none⟩) (by simp)).trans c0
  have B1 := Lib.hid (B0.out.trans (hb.mono B0.out.size))
  clear hb c0 B0
  go_wp2_with fail
  refine (H1.out _ B1.out).mono ?_
  rintro e w2 ⟨A2, c2, rfl, hT, hb⟩
  have d2 := (hb.cell (p := ⟨W.heap.size, 0, none⟩) (World.block_lt_of_cell? _ _ c1)).trans c1
  have T2 := Lib.hid hT
  have B2 := Lib.hid (B1.out.trans (hb.mono B1.out.size))
  clear hb hT B1 c1
  go_wp2_with fail
  refine (H2.out _ B2.out).mono ?_
  rintro e w3 ⟨A3, c3, rfl, hr, hb⟩
  have d3 := (hb.cell (p := ⟨W.heap.size, 0, none⟩) (World.block_lt_of_cell? _ _ d2)).trans d2
  have T3 := Lib.hid (T2.out.below hb)
  have R3 := Lib.hid hr
  have B3 := Lib.hid (B2.out.trans (hb.mono B2.out.size))
  clear hb hr B2 d2 T2
  go_wp2_with fail
  refine (clone_z A3 av many c3 w3 HA.out (by omega) R3.out).mono ?_
  rintro e w4 ⟨A4, c4, rfl, hz, hb⟩
  have d4 := (hb.cell (p := ⟨W.heap.size, 0, none⟩) (World.block_lt_of_cell? _ _ d3)).trans d3
  have H34 := Lib.hid hb
  have Z4 := Lib.hid hz
  have B4 := Lib.hid (B3.out.trans (hb.mono B3.out.size))
  have SZ := Lib.hid hb.size
  have BX := Lib.hid (World.block_lt_of_cell? _ _ d3)
  clear hb hz B3 d3 R3
  have DL := Lib.hid (delete_z w3.heap.size A4 av many c4 W.heap.size id w4 HA.out (by omega) (by omega) Z4.out BX.out d4)
  rw [HL.out, HP.out] at DL
  go_wp2_with fail
  refine DL.out.mono ?_
  rintro e w5 ⟨rfl, hr, hb⟩
  have R5 := Lib.hid hr
  have B5 := Lib.hid (show Below W.heap.size W w5 from B4.out.trans (hb.mono (Nat.le_of_lt BX.out)))
  have T5 := Lib.hid (T3.out.below (H34.out.trans hb))
  clear hb hr B4 d4 T3 H34 DL Z4 SZ BX
  go_wp2_with fail
  refine (H3.out _ A2 c2 T5.out).mono ?_
  rintro e w6 ⟨A6, c6, rfl, hr, hb⟩
  have R6 := Lib.hid hr
  have L6 := Lib.hid (R5.out.below hb)
  have B6 := Lib.hid (B5.out.trans (hb.mono B5.out.size))
  have EQ := Lib.hid (equalZ_c A6 A4 left left p p c6 c4 w6 HP.out HP.out (by omega) (by omega) R6.out L6.out)
  rw [show decide (left = left) = true from decide_eq_true rfl] at EQ
  clear hb hr B5 T5 R5
  go_wp2_with (go_at_call 18; refine EQ.out.mono ?_; rintro e w7 ⟨rfl, hb⟩; have B7 := Lib.hid (B6.out.trans (hb.mono B6.out.size)); clear hb)
  go_ret
  exact ⟨rfl, B7.out⟩
theorem words (A : Option Addr) (ts : List Tk) (n ca : Nat) (id : Int) (key : UInt64) (many : Int) (W : World) (hn : ts.length = n) (hbig : n ≤ maxLen) (hx : TRds W A ts) :
    Calls Try.prog 6 #[.slice A n ca, .int .i64 id, .int .u64 key.toNat, .int .i64 many] W (Law.Yes W) := by
  by_cases h : Right ts
  · have hw : ∀ V, Below W.heap.size W V → Calls Try.prog 11 #[.slice A n ca, .int .i64 id] V (TksErr (rest id ts) (rest id ts).length 0 V) := fun V hb =>
      (without_ok A ts n ca id V hn (hx.below hb) h).mono fun _ _ ⟨A2, c2, he, hT, hb2⟩ => ⟨A2, c2, he, hT.rds, hb2⟩
    by_cases hr : many < 0 ∨ 16 < many
    · exact early A n ca id key many W _ _ 0 2 hw (fun V hb => (some_range A ts n ca key many V hn (hx.below hb) h hr).mono fun _ _ ⟨he, hb2⟩ => ⟨none, 0, he, Reads.nil, hb2⟩) (.inr (.inl ⟨rfl, rfl⟩))
    · obtain ⟨k, rfl⟩ : ∃ k : Nat, many = k := ⟨many.toNat, by omega⟩
      have hk : k ≤ 16 := by omega
      by_cases hl : k ≤ (met key ts).length
      · have hs : ∀ V, Below W.heap.size W V → Calls Try.prog 16 #[.slice A n ca, .int .u64 key.toNat, .int .i64 k] V (NodesErr ((met key ts).take k) k 0 V) := fun V hb =>
          (some_ok A ts n ca key k V hn (hx.below hb) h hk).mono fun _ _ hs => by
            rcases hs with ⟨_, A2, c2, he, hz, hb2⟩ | ⟨h1, _⟩
            · exact ⟨A2, c2, he, hz.reads, hb2⟩
            · omega
        rcases Nat.eq_zero_or_pos k with h0 | h0
        · subst h0
          exact early A n ca id key 0 W _ _ 0 0 hw hs (.inr (.inr (.inr ⟨rfl, rfl, rfl⟩)))
        · have hr : Right (rest id ts) := h.filter _
          have hm : met key (rest id ts) = (met key ts).filter (fun x => x != id) := met_without key ts id
          have hpre := filter_take_prefix (met key ts) (fun x => x != id) k
          have hlen : (((met key ts).take k).filter (fun x => x != id)).length ≤ 16 := Nat.le_trans (List.length_filter_le _ _) (by rw [List.length_take]; omega)
          have hle : (((met key ts).take k).filter (fun x => x != id)).length ≤ ((met key ts).filter (fun x => x != id)).length := by
            have := congrArg List.length hpre
            rw [List.length_take] at this; omega
          refine main A n ca id key k W (rest id ts) _ ((met key ts).take k) _ _ hw hs (fun V A2 c2 hT => ?_) h0 hk (by rw [List.length_take]; omega) rfl rfl
          refine (some_ok A2 (rest id ts) _ c2 key _ V rfl hT hr hlen).mono fun _ _ hs => ?_
          rw [hm] at hs
          rcases hs with ⟨_, A3, c3, he, hz, hb2⟩ | ⟨h1, _⟩
          · rw [hpre] at hz
            exact ⟨A3, c3, he, hz.reads, hb2⟩
          · omega
      · exact early A n ca id key k W _ _ 0 8 hw (fun V hb => (some_ok A ts n ca key k V hn (hx.below hb) h hk).mono fun _ _ hs => by
          rcases hs with ⟨h1, _⟩ | ⟨_, he, hb2⟩
          · omega
          · exact ⟨none, 0, he, Reads.nil, hb2⟩) (.inr (.inr (.inl ⟨rfl, rfl⟩)))
  · exact early A n ca id key many W [] 0 1 1 (fun V hb => (without_bad A ts n ca id V hn hbig (hx.below hb) h).mono fun _ _ ⟨he, hb2⟩ => ⟨none, 0, he, TRds.nil, hb2⟩)
      (fun V hb => (some_bad A ts n ca key many V hn hbig (hx.below hb) h).mono fun _ _ ⟨he, hb2⟩ => ⟨none, 0, he, Reads.nil, hb2⟩) (.inl ⟨rfl, rfl⟩)
set_option maxRecDepth 100000 in
theorem walk {H : Type} {enc : TypeId × Value → H} {base : Nat} {W : World} {v0 : Value} {d0 : DataW H} {p0 : List MemPlace}
    (o0 : Value.okWide Try.prog W .any base 23 v0) (h0 : DataW.Trod enc Try.prog W 0 (fun _ => true) true 23 v0 d0 p0) (a1 : Int) (w1 : (Lit.int .i64 a1).wf = true) (a2 : Int) (w2 : (Lit.int .u64 a2).wf = true) (a3 : Int) (w3 : (Lit.int .i64 a3).wf = true) :
    Calls Try.prog 6 #[v0, .int .i64 a1, .int .u64 a2, .int .i64 a3] W (Law.Yes W) := by
  obtain ⟨A, ca, ts, rfl, hl, _, _, hx, _⟩ := open_tks o0 h0
  obtain ⟨key, rfl⟩ := Words.of_wf64 w2
  exact words A ts _ ca a1 key a3 W rfl hl hx
theorem own : ownKnob Try.prog.godebug = none := by kernel_rfl
theorem laid : laidOutB Try.prog = true := by kernel_rfl
theorem pars : ∀ t ∈ Try.f6.params.toList, Try.prog.readableRec t = true ∧ t < Try.prog.types.size := by
  have h : Try.f6.params.toList.all (fun t => Try.prog.readableRec t && decide (t < Try.prog.types.size)) = true := by kernel_rfl
  intro t ht; have := List.all_eq_true.1 h t ht; simpa using this
set_option maxRecDepth 100000 in
theorem calls (H : Type) (enc : TypeId × Value → H) (W : World) (base : Nat) (args : Array Value) (ds : List (DataW H)) (before : List MemPlace)
    (hval : ∀ (j : Nat) t v, Try.f6.params[j]? = some t → args[j]? = some v → Value.okWide Try.prog W .any base t v)
    (hA : DataW.TrodAll enc Try.prog W 0 (fun _ => true) true Try.f6.params.toList args.toList ds before) :
    Calls Try.prog 6 args W (Law.Yes W) := by
  rw [Try.params6] at hA hval
  obtain ⟨v0, vs0, d0, ds0, p0, q0, hargs, rfl, rfl, h0, r0⟩ := trodAll_cons hA
  obtain ⟨v1, vs1, d1, ds1, p1, q1, rfl, rfl, rfl, h1, r1⟩ := trodAll_cons r0
  obtain ⟨v2, vs2, d2, ds2, p2, q2, rfl, rfl, rfl, h2, r2⟩ := trodAll_cons r1
  obtain ⟨v3, vs3, d3, ds3, p3, q3, rfl, rfl, rfl, h3, r3⟩ := trodAll_cons r2
  obtain ⟨rfl, rfl, rfl⟩ := trodAll_nil r3
  obtain rfl : args = #[v0, v1, v2, v3] := by cases args; simp_all
  obtain ⟨a1, rfl, rfl, rfl, w1⟩ := open_int Try.underlying3 (hval 1 3 v1 rfl rfl) h1
  obtain ⟨a2, rfl, rfl, rfl, w2⟩ := open_int Try.underlying29 (hval 2 29 v2 rfl rfl) h2
  obtain ⟨a3, rfl, rfl, rfl, w3⟩ := open_int Try.underlying3 (hval 3 3 v3 rfl rfl) h3
  exact walk (W := W) (hval 0 23 v0 rfl rfl) h0 a1 w1 a2 w2 a3 w3
theorem fnOf (H : Type) : ∀ ds : List (DataW H), ds.length = Try.f6.params.toList.length → Rows.ringNextSpec.fn H ds = { results := [.lit (.bool true)], args := ds } := by
  intro ds h
  have h : ds.length = 4 := h
  obtain _ | ⟨x0, ds⟩ := ds
  · simp at h
  obtain _ | ⟨x1, ds⟩ := ds
  · simp at h
  obtain _ | ⟨x2, ds⟩ := ds
  · simp at h
  obtain _ | ⟨x3, ds⟩ := ds
  · simp at h
  obtain rfl : ds = [] := List.eq_nil_of_length_eq_zero (by simpa using h)
  rfl
set_option maxRecDepth 100000 in
theorem lifted (os : Os) (started : os.Started) (H : Type) (enc : TypeId × Value → H) :
    ReturnsInHanded {} Try.checked os 6 .any (Rows.ringNextSpec.pre6 enc Try.prog Try.f6 Rows.ringNextRow.domain false) (Rows.ringNextSpec.post enc Try.prog Try.f6 false true false false) := by
  refine returnsInHanded_of_change (C := Try.checked) own started (by kernel_rfl) Try.func6
    (ChangeSpec.witness6 (enc := enc) (C := Try.checked) false ⟨#[], #[.slice none 0 0, .int .i64 0, .int .u64 0, .int .i64 0], []⟩ 8 (by kernel_rfl) (by kernel_rfl) (by kernel_rfl) (by kernel_rfl)) ?_
  intro W base args ds gs before hval hW _ _
  obtain ⟨p, q, hA, hV, rfl, hfz, hnd⟩ := id hW
  obtain ⟨rfl, rfl⟩ := trodVars_none hV
  exact Law.ending (C := Try.checked) (s := Rows.ringNextSpec) laid pars rfl Try.underlying4 rfl (fnOf H) hW (calls H enc W base args ds p hval hA)
theorem over : Rows.ringNextRow.holds Try.pinned (OpenSpec.ofChange Rows.ringNextSpec) :=
  OpenClaim.holds_of_wide 6 Try.f6 rfl rfl rfl rfl rfl rfl rfl ⟨rfl, rfl, rfl, rfl, rfl⟩ rfl rfl rfl rfl rfl (by kernel_rfl) Try.func6 (by kernel_rfl)
    (of_decide_eq_true (by kernel_rfl)) (by unfold Func.isWrapper; first | (rw [if_pos (by decide +kernel)]; kernel_rfl) | (rw [if_neg (by decide +kernel)]; exact ⟨rfl, rfl⟩))
    (fun os started H enc _ => lifted os started H enc)
theorem proved : Rows.RingNextSaid := over
end Go.Proofs.Ytpnfcjodjgbdbaa.ringNext
