/-
  Package stripe: wrongRange, Split.
-/
import Derived.Test.YtlcbchpijijilaaStB
import Derived.Test.YtlcbchpijijilaaStMem
namespace Go.Proofs.Ytlcbchpijijilaa.Stripe
set_option linter.unusedVariables false
open Go.RowKit Mem

theorem wr_form (u w d a l : Int) (V : World) (h : ¬ OkZ u w d) :
    Calls Try.prog 32 #[.agg #[.int .i64 u, .int .i64 w, .int .i64 d], .int .i64 a, .int .i64 l] V (Gave (.int .i64 1) V) := by
  have H := Lib.hid (fun V => right_no u w d V h)
  clear h
  go_enter Try.func32, Try.ntmps32
  go_wp2_with fail
  refine (H.out _).mono ?_
  rintro e w1 ⟨rfl, hb⟩
  have HB := Lib.hid hb
  clear hb
  go_wp2
  go_ret
  exact ⟨rfl, below_box HB.out⟩
/-- A range that may be split. -/
def RangeOk (U : Nat) (a l : Int) : Prop := 0 ≤ a ∧ 0 ≤ l ∧ a + l ≤ 1099511627776 ∧ l / U ≤ 400
set_option maxHeartbeats 1000000 in
theorem wr_bad (U W D : Nat) (a l : Int) (V : World) (h : Ok U W D) (wl : l ≤ 9223372036854775807) (hb : ¬ RangeOk U a l) :
    Calls Try.prog 32 #[.agg #[.int .i64 U, .int .i64 W, .int .i64 D], .int .i64 a, .int .i64 l] V (Gave (.int .i64 2) V) := by
  have H := Lib.hid (fun V => right_yes U W D V h.z)
  have hU := h.1
  clear h
  unfold RangeOk at hb
  by_cases h1 : a < 0
  · clear hb
    go_enter Try.func32, Try.ntmps32
    go_wp2_with fail
    refine (H.out _).mono ?_
    rintro e w1 ⟨rfl, hb⟩
    have HB := Lib.hid hb
    clear hb
    go_wp2
    go_ret
    exact ⟨rfl, below_box HB.out⟩
  · by_cases h2 : l < 0
    · clear hb
      go_enter Try.func32, Try.ntmps32
      go_wp2_with fail
      refine (H.out _).mono ?_
      rintro e w1 ⟨rfl, hb⟩
      have HB := Lib.hid hb
      clear hb
      go_wp2
      go_ret
      exact ⟨rfl, below_box HB.out⟩
    · by_cases h3 : 1099511627776 - l < a
      · clear hb
        go_enter Try.func32, Try.ntmps32
        go_wp2_with fail
        refine (H.out _).mono ?_
        rintro e w1 ⟨rfl, hb⟩
        have HB := Lib.hid hb
        clear hb
        go_wp2
        go_ret
        exact ⟨rfl, below_box HB.out⟩
      · obtain ⟨m, rfl⟩ : ∃ m : Nat, l = m := ⟨l.toNat, by omega⟩
        obtain ⟨n, rfl⟩ : ∃ n : Nat, a = n := ⟨a.toNat, by omega⟩
        have q1 := @divs m U
        have t1 := @tdivs m U
        have b1 : m / U ≤ m := Nat.div_le_self _ _
        have h4 : 400 < m / U := by rw [q1] at hb; omega
        generalize hq : m / U = q at *
        clear hb hq
        have h5 : (400 : Int) < (q : Int) := by omega
        have n1 : ((U : Int) == 0) = false := by simp; omega
        go_enter Try.func32, Try.ntmps32
        go_wp2_with fail
        refine (H.out _).mono ?_
        rintro e w1 ⟨rfl, hb⟩
        obtain ⟨c0, c1, c2⟩ := box_cells hb
        have HB := Lib.hid hb
        clear hb
        go_wp2
        go_ret
        exact ⟨rfl, below_box HB.out⟩
theorem wr_ok (U W D n m : Nat) (V : World) (h : Ok U W D) (h1 : n + m ≤ 1099511627776) (h2 : m / U ≤ 400) :
    Calls Try.prog 32 #[.agg #[.int .i64 U, .int .i64 W, .int .i64 D], .int .i64 n, .int .i64 m] V (Gave (.int .i64 0) V) := by
  have H := Lib.hid (fun V => right_yes U W D V h.z)
  have hU := h.1
  clear h
  have q1 := @divs m U
  have t1 := @tdivs m U
  generalize hq : m / U = q at *
  clear hq
  have h5 : ¬ (400 : Int) < (q : Int) := by omega
  have n1 : ((U : Int) == 0) = false := by simp; omega
  have h3 : (n : Int) ≤ 1099511627776 - (m : Int) := by omega
  go_enter Try.func32, Try.ntmps32
  go_wp2_with fail
  refine (H.out _).mono ?_
  rintro e w1 ⟨rfl, hb⟩
  obtain ⟨c0, c1, c2⟩ := box_cells hb
  have HB := Lib.hid hb
  clear hb
  go_wp2
  go_ret
  exact ⟨rfl, below_box HB.out⟩

/-- The extents of m bytes from n on. -/
def exts (U W D n m : Nat) : List Ex := grow (objOf U W D) (frOf U W D) n m
theorem split_err (u w d a l k : Int) (V : World) (hk : k ≠ 0) (h : ∀ V, Calls Try.prog 32 #[.agg #[.int .i64 u, .int .i64 w, .int .i64 d], .int .i64 a, .int .i64 l] V (Gave (.int .i64 k) V)) :
    Calls Try.prog 15 #[.agg #[.int .i64 u, .int .i64 w, .int .i64 d], .int .i64 a, .int .i64 l] V (Gave (.tuple #[.slice none 0 0, .int .i64 k]) V) := by
  have H := Lib.hid h
  have n1 : (k == 0) = false := by simpa using hk
  have n2 : (k != 0) = true := by simpa using hk
  clear h hk
  go_enter Try.func15, Try.ntmps15
  go_wp2_with fail
  refine (H.out _).mono ?_
  rintro e w1 ⟨rfl, hb⟩
  have HB := Lib.hid hb
  clear hb
  go_wp2
  go_ret2
  exact ⟨rfl, below_box HB.out⟩
/-- Extents in new memory, and no error. -/
def ExOut (es : List Ex) (W : World) (e : Ending) (W' : World) : Prop := ∃ A c, e = .returned (.tuple #[.slice A es.length c, .int .i64 0]) ∧ es.length ≤ c ∧ ETab W' W.heap.size (.slice A es.length c) es ∧ Below W.heap.size W W'
set_option maxRecDepth 100000 in
set_option maxHeartbeats 4000000 in
theorem split_ok (U W D n m : Nat) (V : World) (h : Ok U W D) (h1 : n + m ≤ 1099511627776) (h2 : m / U ≤ 400) :
    Calls Try.prog 15 #[.agg #[.int .i64 U, .int .i64 W, .int .i64 D], .int .i64 n, .int .i64 m] V (ExOut (exts U W D n m) V) := by
  have H1 := Lib.hid (fun V => wr_ok U W D n m V h h1 h2)
  have H2 := Lib.hid (fun V => unbroken_c U W D V h)
  have H3 := Lib.hid (fun x (hx : x ≤ 1099511627776) V => place_c U W D x V h hx)
  obtain ⟨hU, hW, hD⟩ := h
  have R0 := run_pos (W := W) hU.1 hD.1
  have RM : runOf U W D ≤ 1048576 * 1024 := by
    have k1 : U * D ≤ 1048576 * 1024 := mul_le (by omega) (by omega)
    unfold runOf; split <;> omega
  have G := Lib.hid (fun k p => @grow_run (objOf U W D) (frOf U W D) (runOf U W D) R0 (run_same hU.1 hW.1 hD.1) (run_break hU.1 hW.1 hD.1) n k p)
  have E0 := Lib.hid (show exts U W D n m = grow (objOf U W D) (frOf U W D) n m from rfl)
  have GL := Lib.hid (fun k => @grow_len (objOf U W D) (frOf U W D) n k)
  generalize hR : runOf U W D = R at *
  clear hR h2 hU hW hD
  go_enter Try.func15, Try.ntmps15
  go_wp2_with fail
  refine (H1.out _).mono ?_
  rintro e w1 ⟨rfl, hb⟩
  obtain ⟨c0, c1, c2⟩ := box_cells hb
  have HB := Lib.hid hb
  clear hb
  go_wp2_with fail
  refine (H2.out _).mono ?_
  rintro e w2 ⟨rfl, hb2⟩
  have HB2 := Lib.hid (HB.out.trans (hb2.mono HB.out.size))
  clear hb2 c0 c1 c2
  go_wp2
  go_loopw [1, 2, 9] (fun s1 s2 s9 wr => ∃ (c : Nat) (A : Option Addr) (cap : Nat), c ≤ m ∧ s1 = .int .i64 (n + c : Nat) ∧ s2 = .int .i64 (m - c : Nat) ∧ s9 = .slice A (grow (objOf U W D) (frOf U W D) n c).length cap ∧ ETab wr (V.heap.size + 1) s9 (grow (objOf U W D) (frOf U W D) n c) ∧ (c = 0 ∨ (n + c) % R = 0 ∨ c = m) ∧ Below (V.alloc (.cells #[.int .i64 U, .int .i64 W, .int .i64 D] 23)).heap.size (V.alloc (.cells #[.int .i64 U, .int .i64 W, .int .i64 D] 23)) wr) (fun _ s2 _ _ => (intOf s2).toNat)
  case atStart => exact ⟨0, none, 0, by omega, rfl, rfl, rfl, ETab.nil _ _, .inl rfl, HB2.out⟩
  case round =>
    obtain ⟨c, A, cap, hc, rfl, rfl, rfl, hT, hk, hB⟩ := hrel
    obtain ⟨c0, c1, c2⟩ := box_cells hB
    have KB := Lib.hid hB
    have KS := Lib.hid (show V.heap.size + 1 ≤ wr.heap.size by have := hB.size; simpa using this)
    have KT := Lib.hid hT
    have gl := GL.out c
    generalize hes : grow (objOf U W D) (frOf U W D) n c = es at *
    have HES := Lib.hid hes
    clear hB hT hes
    generalize hl : es.length = l at *
    have HL := Lib.hid hl
    clear hl
    by_cases hlt : c < m
    · have hk2 : c = 0 ∨ (n + c) % R = 0 := by omega
      have t1 := @tmods (n + c) R
      have m1 := @mods (n + c) R
      have b1 : (n + c) % R < R := Nat.mod_lt _ R0
      have H4 := Lib.hid (H3.out (n + c) (by omega))
      have G2 := Lib.hid (fun p (h1 : 1 ≤ p) (h2 : p ≤ R - (n + c) % R) => G.out c p h1 h2 hk2)
      have j1 : c + (m - c) = m := by omega
      obtain ⟨y, hy⟩ : ∃ y, m - c = y := ⟨_, rfl⟩
      rw [hy] at j1 ⊢
      clear hy
      have hnext : (n + (c + (R - (n + c) % R))) % R = 0 := by
        have d := Nat.div_add_mod' (n + c) R
        rw [show n + (c + (R - (n + c) % R)) = ((n + c) / R + 1) * R + 0 by rw [Nat.add_mul]; omega]
        exact (qr R0).2
      have HNX := Lib.hid hnext
      clear hnext
      generalize hx : n + c = x at *
      generalize hr : x % R = r at *
      clear hr hk hk2
      have hRr : ((R : Int) - (r : Int)) = ((R - r : Nat) : Int) := by omega
      have n1 : ((R : Int) == 0) = false := by simp; omega
      by_cases i0 : y ≤ R - r
      · have i1 : (y : Int) ≤ (R : Int) - (r : Int) := by omega
        have EG := Lib.hid (G2.out y (by omega) i0)
        go_wp2_with fail
        refine (H4.out _).mono ?_
        rintro e w3 ⟨rfl, hb3⟩
        have KB3 := Lib.hid (KB.out.trans (hb3.mono KB.out.size))
        have KT3 := Lib.hid (KT.out.later hb3)
        have KS3 := Lib.hid (Nat.le_trans KS.out hb3.size)
        clear hb3 c0 c1 c2
        go_wp2_with (at_builtin; refine wpList_append_ex (e1 := objOf U W D x) (e2 := frOf U W D x) (e3 := y) (es := es) rfl (.tmp 38) (.tmp 43) rfl rfl rfl KT3.out HL.out (by omega) KS3.out KB3.out (by simp) ?_; intro A4 c4 w4 hT4 hB4)
        have HT4 := Lib.hid hT4.out
        have HB4 := Lib.hid hB4.out
        clear hT4 hB4
        go_wp2
        go_roundw
        case rel => exact ⟨c + y, A4, c4, by omega, by first | go_num | (congr 1; omega), by first | go_num | (congr 1; omega), by rw [EG.out, HES.out, List.length_append, HL.out]; rfl, by rw [EG.out, HES.out]; exact HT4.out, by omega, HB4.out⟩
        case measure => simp [intOf]; omega
      · have i1 : (R : Int) - (r : Int) ≤ (y : Int) := by omega
        have i2 : ¬ (y : Int) ≤ (R : Int) - (r : Int) := by omega
        have i3 : min (y : Int) ((R - r : Nat) : Int) = ((R - r : Nat) : Int) := by omega
        have EG := Lib.hid (G2.out (R - r) (by omega) (Nat.le_refl _))
        go_wp2_with fail
        refine (H4.out _).mono ?_
        rintro e w3 ⟨rfl, hb3⟩
        have KB3 := Lib.hid (KB.out.trans (hb3.mono KB.out.size))
        have KT3 := Lib.hid (KT.out.later hb3)
        have KS3 := Lib.hid (Nat.le_trans KS.out hb3.size)
        clear hb3 c0 c1 c2
        go_wp2_with (at_builtin; refine wpList_append_ex (e1 := objOf U W D x) (e2 := frOf U W D x) (e3 := R - r) (es := es) rfl (.tmp 38) (.tmp 43) rfl rfl rfl KT3.out HL.out (by omega) KS3.out KB3.out (by simp) ?_; intro A4 c4 w4 hT4 hB4)
        have HT4 := Lib.hid hT4.out
        have HB4 := Lib.hid hB4.out
        clear hT4 hB4
        go_wp2
        go_roundw
        case rel => exact ⟨c + (R - r), A4, c4, by omega, by first | go_num | (congr 1; omega), by first | go_num | (congr 1; omega), by rw [EG.out, HES.out, List.length_append, HL.out]; rfl, by rw [EG.out, HES.out]; exact HT4.out, .inr (.inl HNX.out), HB4.out⟩
        case measure => simp [intOf]; omega
    · obtain rfl : c = m := by omega
      have j0 : ((c - c : Nat) : Int) = 0 := by omega
      go_wp2
      go_ret2
      have hl := HL.out
      subst hl
      exact ⟨A, cap, by rw [E0.out, HES.out]; rfl, by obtain ⟨A', c', e, h1, _⟩ := KT.out.form; injection e with _ _ e; rw [E0.out, HES.out, e]; exact h1, by rw [E0.out, HES.out]; exact KT.out.down (Nat.le_succ _), below_box KB.out⟩
end Go.Proofs.Ytlcbchpijijilaa.Stripe
