/-
  The law LeaseEnd over what it takes of the program.
-/
import Derived.Test.YteneglbafngejaaLeOneW
namespace Go.Proofs.Yteneglbafngejaa.Le
set_option linter.unusedVariables false
set_option linter.unusedSimpArgs false
open Go.RowKit Mem Gt

theorem fit_app {l k : List LO} (hf : FitOs l) (h : FitOs k) : FitOs (l ++ k) := fun o ho => (List.mem_append.1 ho).elim (hf o) (h o)
theorem last_at {l : List LO} {n : Nat} {nodes long off : Int} (hn : l.length = n) (r : List LA) (j : Nat) : (answers nodes long off L0 l ++ r)[n + j]? = r[j]? := by
  rw [List.getElem?_append_right (by rw [answers_len]; omega), answers_len, hn, Nat.add_sub_cancel_left]
set_option maxRecDepth 100000 in
set_option maxHeartbeats 16000000 in
theorem end_w (hP : PlaySpec) (m long off : Int) (A : Option Addr) (l : List LO) (n ca : Nat) (who : Int) (W : World) (hm : Fit m) (hlo : Fit long) (hof : Fit off) (hn : l.length = n) (hbig : n ≤ 5864062014805) (hx : Reads W A (flat loE l)) (hf : FitOs l) (hwh : Fit who) :
    Calls Try.prog 5 #[.int .i64 m, .int .i64 long, .int .i64 off, .slice A n ca, .int .i64 who] W (Law.Yes W) := by
  have AL := Lib.hid (fun V => alive_c hP V)
  by_cases h1 : long < 1
  · clear hx hf hn hm hlo hof hwh
    go_enter Try.func5, Try.ntmps5
    go_wp2_with fail
    refine (AL.out _).mono ?_
    rintro e w1 ⟨rfl, hb⟩
    have B1 := Lib.hid hb
    clear hb
    go_wp2
    go_ret
    exact ⟨rfl, B1.out⟩
  by_cases h2 : 1048576 < long
  · clear hx hf hn hm hlo hof hwh
    go_enter Try.func5, Try.ntmps5
    go_wp2_with fail
    refine (AL.out _).mono ?_
    rintro e w1 ⟨rfl, hb⟩
    have B1 := Lib.hid hb
    clear hb
    go_wp2
    go_ret
    exact ⟨rfl, B1.out⟩
  by_cases h3 : off < 0
  · clear hx hf hn hm hlo hof hwh
    go_enter Try.func5, Try.ntmps5
    go_wp2_with fail
    refine (AL.out _).mono ?_
    rintro e w1 ⟨rfl, hb⟩
    have B1 := Lib.hid hb
    clear hb
    go_wp2
    go_ret
    exact ⟨rfl, B1.out⟩
  by_cases h4 : 1048576 < off
  · clear hx hf hn hm hlo hof hwh
    go_enter Try.func5, Try.ntmps5
    go_wp2_with fail
    refine (AL.out _).mono ?_
    rintro e w1 ⟨rfl, hb⟩
    have B1 := Lib.hid hb
    clear hb
    go_wp2
    go_ret
    exact ⟨rfl, B1.out⟩
  by_cases h5 : who < 0
  · clear hx hf hn hm hlo hof hwh
    go_enter Try.func5, Try.ntmps5
    go_wp2_with fail
    refine (AL.out _).mono ?_
    rintro e w1 ⟨rfl, hb⟩
    have B1 := Lib.hid hb
    clear hb
    go_wp2
    go_ret
    exact ⟨rfl, B1.out⟩
  by_cases h6 : m ≤ who
  · clear hx hf hn hm hlo hof hwh
    go_enter Try.func5, Try.ntmps5
    go_wp2_with fail
    refine (AL.out _).mono ?_
    rintro e w1 ⟨rfl, hb⟩
    have B1 := Lib.hid hb
    clear hb
    go_wp2
    go_ret
    exact ⟨rfl, B1.out⟩
  by_cases h7 : (398 : Int) < (n : Int)
  · clear hx hf hn hm hlo hof hwh
    go_enter Try.func5, Try.ntmps5
    go_wp2_with fail
    refine (AL.out _).mono ?_
    rintro e w1 ⟨rfl, hb⟩
    have B1 := Lib.hid hb
    clear hb
    go_wp2
    go_ret
    exact ⟨rfl, B1.out⟩
  have w1' : IntKind.i64.wrap (2 * off) = 2 * off := IntWalk.i64_in _ (by omega)
  have w2' : IntKind.i64.wrap (long + 2 * off) = long + 2 * off := IntWalk.i64_in _ (by omega)
  have wn2 : IntKind.i64.wrap ((n : Int) + 2) = ((n + 2 : Nat) : Int) := by rw [show (n : Int) + 2 = ((n + 2 : Nat) : Int) by omega]; exact IntWalk.i64_in _ (by omega)
  have wn1 : IntKind.i64.wrap ((n : Int) + 1) = ((n + 1 : Nat) : Int) := by rw [show (n : Int) + 1 = ((n + 1 : Nat) : Int) by omega]; exact IntWalk.i64_in _ (by omega)
  have N398 := Lib.hid (show n ≤ 398 by omega)
  have CL := Lib.hid (fun V (h : Below W.heap.size W V) => clone_lo A l n ca V hn (by omega) (hx.below h))
  obtain ⟨k, hk⟩ : ∃ k, playE m long off (n + 2) = k := ⟨_, rfl⟩
  have LN := Lib.hid (show (l ++ [((3 : Int), (0 : Int), long + 2 * off), ((1 : Int), who, (0 : Int))]).length = n + 2 by simp [hn])
  obtain ⟨al, hal⟩ : ∃ al, playL m long off (l ++ [((3 : Int), (0 : Int), long + 2 * off), ((1 : Int), who, (0 : Int))]) = al := ⟨_, rfl⟩
  obtain ⟨na, hna⟩ : ∃ na, al.length = na := ⟨_, rfl⟩
  have FF : FitOs (l ++ [((3 : Int), (0 : Int), long + 2 * off), ((1 : Int), who, (0 : Int))]) := fit_app hf (fun o ho => by
    simp only [List.mem_cons, List.mem_singleton, List.not_mem_nil, or_false] at ho
    unfold FitO Fit
    unfold Fit at hwh
    rcases ho with rfl | rfl <;> simp only <;> omega)
  have P1 := Lib.hid (fun B c V (h : Reads V B (flat loE (l ++ [((3 : Int), (0 : Int), long + 2 * off), ((1 : Int), who, (0 : Int))]))) => hP m long off B _ (n + 2) c V al na k hm hlo hof LN.out (by omega) h FF hk hal hna)
  have HN := Lib.hid hn
  have HAL := Lib.hid hal
  have HNA := Lib.hid hna
  have HK := Lib.hid hk
  have HW := Lib.hid (show 0 ≤ who ∧ who < m by omega)
  clear hx hf hn hm hlo hof hwh hal hna hbig FF
  go_enter Try.func5, Try.ntmps5
  go_wp2_with fail
  refine (AL.out _).mono ?_
  rintro e w1 ⟨rfl, hb⟩
  have B1 := Lib.hid hb
  clear hb
  go_wp2_with fail
  refine (CL.out w1 B1.out).mono ?_
  rintro e w2 ⟨A2, c2, rfl, hT, hb⟩
  have B2 := Lib.hid (B1.out.trans (hb.mono B1.out.size))
  have T2 := Lib.hid (hT.down (B' := W.heap.size) B1.out.size)
  clear hT hb
  have T3 := Lib.hid (T2.out.alloc (.cells #[.int .i64 3, .int .i64 0, .int .i64 (long + 2 * off), .int .i64 1, .int .i64 who, .int .i64 0] 34))
  have B3 := Lib.hid (B2.out.alloc B2.out.size (.cells #[.int .i64 3, .int .i64 0, .int .i64 (long + 2 * off), .int .i64 1, .int .i64 who, .int .i64 0] 34))
  have R3 := Lib.hid (show Reads (w2.alloc (.cells #[.int .i64 3, .int .i64 0, .int .i64 (long + 2 * off), .int .i64 1, .int .i64 who, .int .i64 0] 34)) (some ⟨w2.heap.size, 0, none⟩) (flat loE [((3 : Int), (0 : Int), long + 2 * off), ((1 : Int), who, (0 : Int))]) from reads_lit w2 _ rfl)
  go_wp2_with (at_builtin; refine wpList_append_gm elLO (by decide) rfl (.tmp 48) (.tmp 56) (by rfl) (n := n) (m := 2) (c := 2) (b := w2.heap.size) (o' := 0) (v := .slice A2 n c2) (es := l) (ys := [((3 : Int), (0 : Int), long + 2 * off), ((1 : Int), who, (0 : Int))]) (AD := some ⟨w2.heap.size, 0, none⟩) rfl rfl rfl T3.out HN.out R3.out rfl (by unfold maxLen; have := N398.out; omega) (by have := N398.out; omega) B3.out.size ?_; intro A4 c4 w4 T4 G4; have B4 := Lib.hid (T3.out.below G4.out B3.out (Nat.le_refl _) B3.out.size))
  refine (P1.out A4 c4 w4 T4.out.reads).mono ?_
  rintro e w5 ⟨A5, c5, rfl, hc5, hr5, hb5⟩
  have B5 := Lib.hid (B4.out.trans (hb5.mono B4.out.size))
  have R5 := Lib.hid hr5
  clear hr5 hb5
  rcases playE_vals m long off (n + 2) with h0 | h0
  · obtain rfl : 0 = k := h0.symm.trans HK.out
    obtain rfl : n + 2 = na := by rw [← HNA.out, ← HAL.out]; exact (playL_len LN.out h0).symm
    obtain ⟨x, y, hxy, hor⟩ := lease_end (nodes := m) (long := long) (off := off) (l := l) (who := who) HW.out (by rw [HN.out]; exact h0)
    rw [HAL.out] at hxy
    have e0 : al[n]? = some x := by rw [hxy]; exact last_at HN.out [x, y] 0
    have e1 : al[n + 1]? = some y := by rw [hxy]; exact last_at HN.out [x, y] 1
    obtain ⟨x0, x1⟩ := x
    obtain ⟨y0, y1⟩ := y
    obtain ⟨bb, o, rfl, _, c0, c1⟩ := la_at R5.out e0
    obtain ⟨b', o', e', _, d0, d1⟩ := la_at R5.out e1
    injection e' with e'
    injection e' with e2 e3
    subst e2 e3
    simp only at c0 c1 d0 d1 hor
    have i1 : (n : Int) < ((n + 2 : Nat) : Int) := by omega
    have i2 : ((n + 1 : Nat) : Int) < ((n + 2 : Nat) : Int) := by omega
    have i3 : n < n + 2 := by omega
    have i4 : n + 1 < n + 2 := by omega
    have q1 : (((n + 2 : Nat) : Int) != ((n + 2 : Nat) : Int)) = false := by simp
    clear hxy e0 e1 h0
    by_cases hx0 : x0 = 0
    · subst hx0
      rcases hor with h | h
      · exact absurd rfl h
      · injection h with h1 h2
        subst h1 h2
        have eq := fun w => eql_la 0 true 0 true w
        have gd := fun op x y w => guard_la op x y #[.int .i64 0, .bool true] #[.int .i64 0, .bool true] w
        simp only [beq_self_eq_true, Bool.and_self] at eq
        go_wp2
        go_ret
        exact ⟨rfl, B5.out⟩
    · have q2 : (x0 != 0) = true := by simpa using hx0
      clear hor
      go_wp2
      go_ret
      exact ⟨rfl, B5.out⟩
  · obtain rfl : 2 = k := h0.symm.trans HK.out
    obtain rfl : [] = al := (playL_no LN.out h0).symm.trans HAL.out
    obtain rfl : 0 = na := HNA.out
    clear h0
    go_wp2
    go_ret
    exact ⟨rfl, B5.out⟩
end Go.Proofs.Yteneglbafngejaa.Le
