/-
  RingGone: for every ring, every node and every key, the law RingGone answers true (who goes gives up its own keys alone), and its arguments read afterwards as before. No condition.
-/
import Derived.Test.YtpnfcjodjgbdbaaRgAlive
namespace Go.Proofs.Ytpnfcjodjgbdbaa.ringGone
open Go.ChangeShapes Go.WideShapes Go.ChangeAt Go.RowKit
open Mem Ring
set_option linter.unusedVariables false
set_option linter.unusedSimpArgs false

/-- Tokens and what is wrong. -/
def TksErr (l : List Tk) (n : Nat) (k : Int) (W : World) (e : Ending) (W' : World) : Prop :=
  ∃ A c, e = .returned (.tuple #[.slice A n c, .int .i64 k]) ∧ TRds W' A l ∧ Below W.heap.size W W'
theorem main (A : Option Addr) (n ca : Nat) (id : Int) (key : UInt64) (W : World) (ls : List Tk) (m : Nat) (a b e f g : Int)
    (h1 : ∀ V, Below W.heap.size W V → Calls Try.prog 11 #[.slice A n ca, .int .i64 id] V (TksErr ls m e V))
    (h2 : ∀ V, Below W.heap.size W V → Calls Try.prog 15 #[.slice A n ca, .int .u64 key.toNat] V (Gave (.tuple #[.int .i64 a, .int .i64 f]) V))
    (h3 : ∀ V A c, TRds V A ls → Calls Try.prog 15 #[.slice A m c, .int .u64 key.toNat] V (Gave (.tuple #[.int .i64 b, .int .i64 g]) V))
    (hc : e = 1 ∨ (e = 0 ∧ f = 3) ∨ (e = 0 ∧ f = 0 ∧ g = 3 ∧ m = 0) ∨ (e = 0 ∧ f = 0 ∧ g = 0 ∧ b ≠ id ∧ a = id) ∨ (e = 0 ∧ f = 0 ∧ g = 0 ∧ b ≠ id ∧ a ≠ id ∧ b = a)) :
    Calls Try.prog 5 #[.slice A n ca, .int .i64 id, .int .u64 key.toNat] W (Law.Yes W) := by
  have H1 := Lib.hid h1
  have H2 := Lib.hid h2
  have H3 := Lib.hid h3
  clear h1 h2 h3
  rcases hc with rfl | ⟨rfl, rfl⟩ | ⟨rfl, rfl, rfl, rfl⟩ | ⟨rfl, rfl, rfl, h, h'⟩ | ⟨rfl, rfl, rfl, h, h', h''⟩
  case' inr.inr.inr.inl =>
    have f1 : (b != id) = true := by simp [h]
    have f2 : (b == id) = false := by simp [h]
    have f3 : (a == id) = true := by simp [h']
    clear h h'
  case' inr.inr.inr.inr =>
    have f1 : (b != id) = true := by simp [h]
    have f2 : (b == id) = false := by simp [h]
    have f3 : (a == id) = false := by simp [h']
    have f4 : (b == a) = true := by simp [h'']
    clear h h' h''
  all_goals
    go_enter Try.func5, Try.ntmps5
    go_wp2_with fail
    refine (alive_c _).mono ?_
    rintro e w1 ⟨rfl, hb⟩
    have B1 := Lib.hid hb
    clear hb
    go_wp2_with fail
    refine (H1.out _ B1.out).mono ?_
    rintro e w2 ⟨A2, c2, rfl, hT, hb⟩
    have T2 := Lib.hid hT
    have B2 := Lib.hid (B1.out.trans (hb.mono B1.out.size))
    clear hb hT B1
    go_wp2_with fail
    refine (H2.out _ B2.out).mono ?_
    rintro e w3 ⟨rfl, hb⟩
    have T3 := Lib.hid (T2.out.below hb)
    have B3 := Lib.hid (B2.out.trans (hb.mono B2.out.size))
    clear hb T2 B2
    go_wp2_with fail
    refine (H3.out _ A2 c2 T3.out).mono ?_
    rintro e w4 ⟨rfl, hb⟩
    have B4 := Lib.hid (B3.out.trans (hb.mono B3.out.size))
    clear hb T3 B3
    go_wp2
    go_ret
    exact ⟨rfl, B4.out⟩
theorem words (A : Option Addr) (ts : List Tk) (n ca : Nat) (id : Int) (key : UInt64) (W : World) (hn : ts.length = n) (hbig : n ≤ maxLen) (hx : TRds W A ts) :
    Calls Try.prog 5 #[.slice A n ca, .int .i64 id, .int .u64 key.toNat] W (Law.Yes W) := by
  by_cases h : Right ts
  · have hw : ∀ V, Below W.heap.size W V → Calls Try.prog 11 #[.slice A n ca, .int .i64 id] V (TksErr (rest id ts) (rest id ts).length 0 V) := fun V hb =>
      (without_ok A ts n ca id V hn (hx.below hb) h).mono fun _ _ ⟨A2, c2, he, hT, hb2⟩ => ⟨A2, c2, he, hT.rds, hb2⟩
    have hr : Right (rest id ts) := h.filter _
    have hm : met key (rest id ts) = (met key ts).filter (fun x => x != id) := met_without key ts id
    cases hh : (met key ts)[0]? with
    | none =>
      have h0 : n = 0 := by
        rcases Nat.eq_zero_or_pos ts.length with e | e
        · omega
        · obtain ⟨t, _, h2⟩ := met_head (key := key) h.2 e
          rw [hh] at h2; cases h2
      subst h0
      have hts := List.eq_nil_of_length_eq_zero hn
      subst hts
      exact main A 0 ca id key W [] 0 0 0 0 3 3 hw (fun V _ => find_none A ca key V) (fun V A2 c2 _ => find_none A2 c2 key V) (.inr (.inl ⟨rfl, rfl⟩))
    | some a =>
      cases hh2 : (met key (rest id ts))[0]? with
      | none =>
        have h0 : (rest id ts).length = 0 := by
          rcases Nat.eq_zero_or_pos (rest id ts).length with e | e
          · exact e
          · obtain ⟨t, _, h2⟩ := met_head (key := key) hr.2 e
            rw [hh2] at h2; cases h2
        rw [h0] at hw
        exact main A n ca id key W (rest id ts) 0 a 0 0 0 3 hw (fun V hb => find_ok A ts n ca key a V hn (hx.below hb) h hh) (fun V A2 c2 _ => find_none A2 c2 key V) (.inr (.inr (.inl ⟨rfl, rfl, rfl, rfl⟩)))
      | some b =>
        rw [hm] at hh2
        have hb1 : b ≠ id := by
          have := List.mem_of_getElem? hh2
          simpa using (List.mem_filter.1 this).2
        have hab : a ≠ id → b = a := by
          intro ha
          cases hl : met key ts with
          | nil => rw [hl] at hh; simp at hh
          | cons x l =>
            rw [hl] at hh hh2
            simp at hh
            subst hh
            simp [ha] at hh2
            exact hh2.symm
        refine main A n ca id key W (rest id ts) _ a b 0 0 0 hw (fun V hb => find_ok A ts n ca key a V hn (hx.below hb) h hh) (fun V A2 c2 hT => find_ok A2 (rest id ts) _ c2 key b V rfl hT hr (by rw [hm]; exact hh2)) (.inr (.inr (.inr ?_)))
        by_cases ha : a = id
        · exact .inl ⟨rfl, rfl, rfl, hb1, ha⟩
        · exact .inr ⟨rfl, rfl, rfl, hb1, ha, hab ha⟩
  · exact main A n ca id key W [] 0 0 0 1 1 3 (fun V hb => (without_bad A ts n ca id V hn hbig (hx.below hb) h).mono fun _ _ ⟨he, hb2⟩ => ⟨none, 0, he, TRds.nil, hb2⟩)
      (fun V hb => find_bad A ts n ca key V hn hbig (hx.below hb) h) (fun V A2 c2 _ => find_none A2 c2 key V) (.inl rfl)
set_option maxRecDepth 100000 in
theorem walk {H : Type} {enc : TypeId × Value → H} {base : Nat} {W : World} {v0 : Value} {d0 : DataW H} {p0 : List MemPlace}
    (o0 : Value.okWide Try.prog W .any base 23 v0) (h0 : DataW.Trod enc Try.prog W 0 (fun _ => true) true 23 v0 d0 p0) (a1 : Int) (w1 : (Lit.int .i64 a1).wf = true) (a2 : Int) (w2 : (Lit.int .u64 a2).wf = true) :
    Calls Try.prog 5 #[v0, .int .i64 a1, .int .u64 a2] W (Law.Yes W) := by
  obtain ⟨A, ca, ts, rfl, hl, _, _, hx, _⟩ := open_tks o0 h0
  obtain ⟨key, rfl⟩ := Words.of_wf64 w2
  exact words A ts _ ca a1 key W rfl hl hx
theorem own : ownKnob Try.prog.godebug = none := by kernel_rfl
theorem laid : laidOutB Try.prog = true := by kernel_rfl
theorem pars : ∀ t ∈ Try.f5.params.toList, Try.prog.readableRec t = true ∧ t < Try.prog.types.size := by
  have h : Try.f5.params.toList.all (fun t => Try.prog.readableRec t && decide (t < Try.prog.types.size)) = true := by kernel_rfl
  intro t ht; have := List.all_eq_true.1 h t ht; simpa using this
set_option maxRecDepth 100000 in
theorem calls (H : Type) (enc : TypeId × Value → H) (W : World) (base : Nat) (args : Array Value) (ds : List (DataW H)) (before : List MemPlace)
    (hval : ∀ (j : Nat) t v, Try.f5.params[j]? = some t → args[j]? = some v → Value.okWide Try.prog W .any base t v)
    (hA : DataW.TrodAll enc Try.prog W 0 (fun _ => true) true Try.f5.params.toList args.toList ds before) :
    Calls Try.prog 5 args W (Law.Yes W) := by
  rw [Try.params5] at hA hval
  obtain ⟨v0, vs0, d0, ds0, p0, q0, hargs, rfl, rfl, h0, r0⟩ := trodAll_cons hA
  obtain ⟨v1, vs1, d1, ds1, p1, q1, rfl, rfl, rfl, h1, r1⟩ := trodAll_cons r0
  obtain ⟨v2, vs2, d2, ds2, p2, q2, rfl, rfl, rfl, h2, r2⟩ := trodAll_cons r1
  obtain ⟨rfl, rfl, rfl⟩ := trodAll_nil r2
  obtain rfl : args = #[v0, v1, v2] := by cases args; simp_all
  obtain ⟨a1, rfl, rfl, rfl, w1⟩ := open_int Try.underlying3 (hval 1 3 v1 rfl rfl) h1
  obtain ⟨a2, rfl, rfl, rfl, w2⟩ := open_int Try.underlying29 (hval 2 29 v2 rfl rfl) h2
  exact walk (W := W) (hval 0 23 v0 rfl rfl) h0 a1 w1 a2 w2
theorem fnOf (H : Type) : ∀ ds : List (DataW H), ds.length = Try.f5.params.toList.length → Rows.ringGoneSpec.fn H ds = { results := [.lit (.bool true)], args := ds } := by
  intro ds h
  have h : ds.length = 3 := h
  obtain _ | ⟨x0, ds⟩ := ds
  · simp at h
  obtain _ | ⟨x1, ds⟩ := ds
  · simp at h
  obtain _ | ⟨x2, ds⟩ := ds
  · simp at h
  obtain rfl : ds = [] := List.eq_nil_of_length_eq_zero (by simpa using h)
  rfl
set_option maxRecDepth 100000 in
theorem lifted (os : Os) (started : os.Started) (H : Type) (enc : TypeId × Value → H) :
    ReturnsInHanded {} Try.checked os 5 .any (Rows.ringGoneSpec.pre6 enc Try.prog Try.f5 Rows.ringGoneRow.domain false) (Rows.ringGoneSpec.post enc Try.prog Try.f5 false true false false) := by
  refine returnsInHanded_of_change (C := Try.checked) own started (by kernel_rfl) Try.func5
    (ChangeSpec.witness6 (enc := enc) (C := Try.checked) false ⟨#[], #[.slice none 0 0, .int .i64 0, .int .u64 0], []⟩ 8 (by kernel_rfl) (by kernel_rfl) (by kernel_rfl) (by kernel_rfl)) ?_
  intro W base args ds gs before hval hW _ _
  obtain ⟨p, q, hA, hV, rfl, hfz, hnd⟩ := id hW
  obtain ⟨rfl, rfl⟩ := trodVars_none hV
  exact Law.ending (C := Try.checked) (s := Rows.ringGoneSpec) laid pars rfl Try.underlying4 rfl (fnOf H) hW (calls H enc W base args ds p hval hA)
theorem over : Rows.ringGoneRow.holds Try.pinned (OpenSpec.ofChange Rows.ringGoneSpec) :=
  OpenClaim.holds_of_wide 5 Try.f5 rfl rfl rfl rfl rfl rfl rfl ⟨rfl, rfl, rfl, rfl, rfl⟩ rfl rfl rfl rfl rfl (by kernel_rfl) Try.func5 (by kernel_rfl)
    (of_decide_eq_true (by kernel_rfl)) (by unfold Func.isWrapper; first | (rw [if_pos (by decide +kernel)]; kernel_rfl) | (rw [if_neg (by decide +kernel)]; exact ⟨rfl, rfl⟩))
    (fun os started H enc _ => lifted os started H enc)
theorem proved : Rows.RingGoneSaid := over
end Go.Proofs.Ytpnfcjodjgbdbaa.ringGone
