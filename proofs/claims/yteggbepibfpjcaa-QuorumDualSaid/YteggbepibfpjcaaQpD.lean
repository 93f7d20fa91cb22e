/-
  Package quorum, the program: Grid.
-/
import Derived.Test.YteggbepibfpjcaaQpC
import Derived.Test.YteggbepibfpjcaaQsK
namespace Go.Proofs.Yteggbepibfpjcaa.Qr
set_option linter.unusedVariables false
set_option linter.unusedSimpArgs false
open Go.RowKit Mem
open Go.Lib
open Go.Sort (SortedIn PermIn Holds)

/-! ### row, column -/
def rowN (c r : Nat) : Nat := orAll ((List.range c).map (fun y => r * c + y))
def colN (C c k : Nat) : Nat := orAll ((List.range k).map (fun x => x * C + c))
theorem rowN_eq (c r : Nat) : (2 ^ c - 1) * 2 ^ (r * c) = rowN c r := by
  rw [← Nat.shiftLeft_eq]
  apply Nat.eq_of_testBit_eq
  intro i
  unfold rowN
  rw [orAll_bit, Nat.testBit_shiftLeft, Nat.testBit_two_pow_sub_one, Bool.eq_iff_iff]
  simp only [Bool.and_eq_true, decide_eq_true_eq, List.mem_map, List.mem_range, ge_iff_le]
  constructor
  · rintro ⟨h1, h2⟩
    exact ⟨i - r * c, h2, by omega⟩
  · rintro ⟨y, h1, rfl⟩
    exact ⟨by omega, by omega⟩
theorem colN_succ (C c k : Nat) : colN C c (k + 1) = colN C c k ||| 2 ^ (k * C + c) := by
  unfold colN
  rw [List.range_succ, List.map_append, orAll_app]
  simp [orAll]
theorem gset_rc {R C r c : Nat} (hc : c < C) : rowN C r ||| colN C c R = gset R C (r * C + c) := by
  have h1 : (r * C + c) % C = c := by rw [Nat.add_comm, Nat.add_mul_mod_self_right, Nat.mod_eq_of_lt hc]
  have h2 : (r * C + c) / C = r := by rw [Nat.add_comm, Nat.add_mul_div_right _ _ (by omega), Nat.div_eq_of_lt hc, Nat.zero_add]
  unfold gset cross
  rw [h1, h2, orAll_app, Nat.or_comm]
  rfl
theorem prod_lt {R C r c : Nat} (hr : r < R) (hc : c < C) (h : R * C ≤ 16) : r * C + c < 16 := by
  have : (r + 1) * C ≤ R * C := Nat.mul_le_mul_right C hr
  rw [Nat.add_mul, Nat.one_mul] at this
  omega
theorem rowN_lt {R C r : Nat} (hr : r < R) (h : R * C ≤ 16) : rowN C r < 65536 := by
  refine Nat.lt_of_lt_of_le (orAll_lt (n := 16) (fun j hj => ?_)) (by decide)
  obtain ⟨y, hy, rfl⟩ := List.mem_map.1 hj
  exact prod_lt hr (List.mem_range.1 hy) h
theorem colN_lt {R C c k : Nat} (hk : k ≤ R) (hc : c < C) (h : R * C ≤ 16) : colN C c k < 65536 := by
  refine Nat.lt_of_lt_of_le (orAll_lt (n := 16) (fun j hj => ?_)) (by decide)
  obtain ⟨x, hx, rfl⟩ := List.mem_map.1 hj
  exact prod_lt (Nat.lt_of_lt_of_le (List.mem_range.1 hx) hk) hc h
set_option maxRecDepth 100000 in
theorem row_c (R C r : Nat) (W : World) (hr : r < R) (hC : 1 ≤ C) (h : R * C ≤ 16) : Calls Try.prog 29 #[.int .i64 r, .int .i64 C] W (fun e W' => e = .returned (.int .u16 (rowN C r : Nat)) ∧ W' = W) := by
  have hq16 := prod_lt hr (c := 0) (by omega) h
  have hC16 : C ≤ 16 := by
    have : 1 * C ≤ R * C := Nat.mul_le_mul_right C (by omega)
    omega
  have hb := rowN_lt hr h
  obtain ⟨q, hq⟩ : ∃ q, q = r * C := ⟨_, rfl⟩
  obtain ⟨v, hv⟩ : ∃ v, v = rowN C r := ⟨_, rfl⟩
  have he := rowN_eq C r
  rw [← hv] at hb he
  rw [← hq] at he hq16
  have q16 : q < 16 := by omega
  obtain ⟨p, hp⟩ : ∃ p, p = 2 ^ C := ⟨_, rfl⟩
  have p1 : 1 ≤ p := by rw [hp]; exact Nat.one_le_two_pow
  have p2 : p ≤ 65536 := by rw [hp]; exact two_pow_16 hC16
  have w0 : IntKind.i64.wrap ((r : Int) * (C : Int)) = (q : Int) := by rw [show (r : Int) * (C : Int) = (q : Int) by rw [hq]; simp]; exact IntWalk.i64_in _ (by omega)
  have w1 : IntKind.u16.wrap (2 ^ C) = ((p % 65536 : Nat) : Int) := by rw [show (2 : Int) ^ C = (p : Int) by rw [hp]; simp, wrap_u16]; omega
  obtain ⟨a, ha⟩ : ∃ a, a = p % 65536 := ⟨_, rfl⟩
  rw [← ha] at w1
  obtain ⟨b, hb2⟩ : ∃ b, b = p - 1 := ⟨_, rfl⟩
  have w2 : IntKind.u16.wrap ((a : Int) - 1) = (b : Int) := by rw [wrap_u16]; omega
  have w3 : IntKind.u16.wrap ((b : Int) * 2 ^ q) = (v : Int) := by
    rw [show (b : Int) * 2 ^ q = (v : Int) by rw [← he, hb2, hp]; simp]
    exact wrap16 hb
  rw [← hv]
  clear hb he hp hv hb2 ha p1 p2 hq hr h
  go_enter Try.func29, Try.ntmps29
  go_wp2
  go_ret
  exact ⟨by first | rfl | simp [w3], rfl⟩
set_option maxRecDepth 100000 in
theorem col_c (R C c : Nat) (W : World) (hc : c < C) (hR : R ≤ 16) (h : R * C ≤ 16) : Calls Try.prog 30 #[.int .i64 c, .int .i64 R, .int .i64 C] W (fun e W' => e = .returned (.int .u16 (colN C c R : Nat)) ∧ W' = W) := by
  go_enter Try.func30, Try.ntmps30
  go_wp2
  go_loopw [7, 10] (fun s_ k_ V => ∃ k s : Nat, k_ = .int .i64 k ∧ s_ = .int .u16 s ∧ k ≤ R ∧ s = colN C c k ∧ V = W) (fun s_ k_ _ => R - (intOf k_).toNat)
  case atStart => exact ⟨0, 0, rfl, rfl, Nat.zero_le _, rfl, rfl⟩
  case round =>
    obtain ⟨k, s, rfl, rfl, hk, hs, rfl⟩ := hrel
    by_cases hlt : k < R
    · have i1 : (k : Int) < (R : Int) := by omega
      have e16 := prod_lt hlt hc h
      have S1 := colN_lt (C := C) (c := c) (Nat.le_of_lt hlt) hc h
      rw [← hs] at S1
      obtain ⟨q, hq⟩ : ∃ q, q = k * C := ⟨_, rfl⟩
      obtain ⟨e, he⟩ : ∃ e, e = q + c := ⟨_, rfl⟩
      have w1 : IntKind.i64.wrap ((k : Int) * (C : Int)) = (q : Int) := by rw [show (k : Int) * (C : Int) = (q : Int) by rw [hq]; simp]; exact IntWalk.i64_in _ (by omega)
      have w2 : IntKind.i64.wrap ((q : Int) + (c : Int)) = (e : Int) := by rw [show (q : Int) + (c : Int) = (e : Int) by omega]; exact IntWalk.i64_in _ (by omega)
      obtain ⟨p, hp⟩ : ∃ p, p = 2 ^ e := ⟨_, rfl⟩
      have p1 : p < 65536 := by rw [hp]; exact Nat.pow_lt_pow_right (a := 2) (m := e) (n := 16) (by decide) (by omega)
      have w3 : IntKind.u16.wrap (2 ^ e) = (p : Int) := by rw [show (2 : Int) ^ e = (p : Int) by rw [hp]; simp]; exact wrap16 p1
      obtain ⟨s2, hs2⟩ : ∃ s2, s2 = s ||| p := ⟨_, rfl⟩
      have a1 : bits .or .u16 (s : Int) (p : Int) = (s2 : Int) := by rw [hs2]; exact or16 S1 p1
      have e15 : e < 16 := by omega
      have SN := Lib.hid (show s2 = colN C c (k + 1) by rw [hs2, hp, he, hq, hs, colN_succ])
      have KR := Lib.hid hlt
      clear hk hs e16 S1 hq he hp p1 hs2 hlt
      go_wp2
      go_roundw
      case rel => exact ⟨k + 1, s2, by go_num, rfl, KR.out, SN.out, by first | rfl | trivial⟩
      case measure => have := KR.out; simp [intOf] <;> omega
    · obtain rfl : k = R := by omega
      subst hs
      clear hlt hk
      go_wp2
      go_ret
      first | done | exact ⟨rfl, rfl⟩ | rfl
/-- The unions of the first k places. -/
def gl (R C k : Nat) : List Nat := (List.range k).map (gset R C)
theorem gl_len (R C k : Nat) : (gl R C k).length = k := by simp [gl]
theorem gl_succ (R C k : Nat) : gl R C (k + 1) = gl R C k ++ [gset R C k] := by simp [gl, List.range_succ]
theorem gl_fits {R C : Nat} (hC : 0 < C) (h : R * C ≤ 16) : Fits (gl R C (R * C)) := fun s hs => by
  obtain ⟨k, hk, rfl⟩ := List.mem_map.1 hs
  exact gset_lt hC (List.mem_range.1 hk) h
theorem gl_grid {R C : Nat} : rise 65536 (fun s => decide (s ∈ gl R C (R * C))) = grid R C :=
  rise_congr fun s _ => by
    unfold isGrid gl
    rw [Bool.eq_iff_iff, decide_eq_true_iff, decide_eq_true_iff, List.mem_map]
set_option maxRecDepth 100000 in
set_option maxHeartbeats 8000000 in
theorem grid_c (R C : Nat) (W : World) (l : List Nat) (n : Nat) (hR : 1 ≤ R) (hR2 : R ≤ 16) (hC : 1 ≤ C) (hC2 : C ≤ 16) (h : R * C ≤ 16) (hl : grid R C = l) (hn : l.length = n) :
    Calls Try.prog 11 #[.int .i64 R, .int .i64 C] W (SetsErr l n 0 W) := by
  have BR := Lib.hid (fun V => between_c (R : Int) 16 V true (by simp; omega))
  have BC := Lib.hid (fun V => between_c (C : Int) 16 V true (by simp; omega))
  have RC := Lib.hid (fun r V (hr : r < R) => row_c R C r V hr hC h)
  have CO := Lib.hid (fun c V (hc : c < C) => col_c R C c V hc hR2 h)
  have RL := Lib.hid (fun r (hr : r < R) => rowN_lt hr h)
  have CL := Lib.hid (fun c (hc : c < C) => colN_lt (k := R) (Nat.le_refl _) hc h)
  have PL := Lib.hid (fun r c (hr : r < R) (hc : c < C) => prod_lt hr hc h)
  have GF := Lib.hid (gl_fits hC h)
  obtain ⟨N, hN⟩ : ∃ N, N = R * C := ⟨_, rfl⟩
  have N1 : 1 ≤ N := by rw [hN]; exact Nat.mul_pos hR hC
  rw [← hN] at h GF
  have w0 : IntKind.i64.wrap ((R : Int) * (C : Int)) = (N : Int) := by rw [show (R : Int) * (C : Int) = (N : Int) by rw [hN]; simp]; exact IntWalk.i64_in _ (by omega)
  have i0 : ¬ (16 : Int) < (N : Int) := by omega
  have i0b : decide ((16 : Int) < (N : Int)) = false := decide_eq_false i0
  have i0n : decide (16 < N) = false := decide_eq_false (by omega)
  have HG := Lib.hid (show rise 65536 (fun s => decide (s ∈ gl R C N)) = l by rw [hN, gl_grid]; exact hl)
  have HM := Lib.hid hn
  have NN := Lib.hid (show 1 ≤ N ∧ N ≤ 16 ∧ 1 ≤ R ∧ 1 ≤ C from ⟨N1, h, hR, hC⟩)
  have HN := Lib.hid hN
  obtain ⟨ie, hi, hz0, hz1, hz2⟩ := info_parts info16
  clear hl hn hN N1 hR hC
  go_enter Try.func11, Try.ntmps11
  go_wp2_with fail
  refine (BR.out _).mono ?_
  rintro e w1 ⟨rfl, hw⟩
  rw [hw]
  clear hw
  go_wp2_with fail
  refine (BC.out _).mono ?_
  rintro e w1 ⟨rfl, hw⟩
  rw [hw]
  clear hw
  go_wp2_with (at_make; refine wpList_make_own _ rfl _ _ 22 rfl W.heap.size 23 ie _ 1 Try.underlying22 hi hz0 hz1 .i64 .i64 _ N rfl rfl rfl ?c1 ?c2 (Nat.le_refl _) ?_)
  case c1 => rw [hz2]; omega
  case c2 => unfold maxLen; omega
  intro w1 hr hg
  have T0 := Lib.hid (show UTab w1 W.heap.size (.slice (some ⟨W.heap.size, 0, none⟩) 0 N) [] from hr)
  have B0 := Lib.hid ((Below.refl W.heap.size W).grown hg (Nat.le_refl _) (fun k hk => by cases hk))
  clear hr hg hi hz0 hz1 hz2 w0 i0 i0b i0n
  go_wp2
  go_loopw [6, 28] (fun v r_ V => ∃ (r m : Nat) (A : Option Addr) (c : Nat), v = .slice A m c ∧ r_ = .int .i64 r ∧ r ≤ R ∧ m = r * C ∧ UTab V W.heap.size (.slice A m c) (gl R C m) ∧ Below W.heap.size W V) (fun v r_ _ => R - (intOf r_).toNat)
  case atStart => exact ⟨0, 0, some ⟨W.heap.size, 0, none⟩, N, rfl, rfl, Nat.zero_le _, by simp, T0.out, B0.out⟩
  case round =>
    obtain ⟨r, m, A, c, rfl, rfl, hrR, hm, hT, hB⟩ := hrel
    have TT := Lib.hid hT
    have BB := Lib.hid hB
    have MM := Lib.hid hm
    clear hT hB hm T0 B0
    by_cases hlt : r < R
    · have i1 : (r : Int) < (R : Int) := by omega
      have R1 := Lib.hid hlt
      clear hlt hrR
      go_wp2
      go_loopw [6, 32] (fun v c_ V => ∃ (k m2 : Nat) (A : Option Addr) (c : Nat), v = .slice A m2 c ∧ c_ = .int .i64 k ∧ k ≤ C ∧ m2 = m + k ∧ UTab V W.heap.size (.slice A m2 c) (gl R C m2) ∧ Below W.heap.size W V) (fun v c_ _ => C - (intOf c_).toNat)
      case atStart => exact ⟨0, m, A, c, rfl, rfl, Nat.zero_le _, rfl, TT.out, BB.out⟩
      case round =>
        obtain ⟨k, m2, A2, c2, rfl, rfl, hkC, hm2, hT, hB⟩ := hrel
        have T2 := Lib.hid hT
        have B2 := Lib.hid hB
        have M2 := Lib.hid hm2
        clear hT hB hm2 TT BB
        by_cases hlt : k < C
        · have i2 : (k : Int) < (C : Int) := by omega
          have K1 := Lib.hid hlt
          have rl := RL.out r R1.out
          have cl := CL.out k hlt
          have R2 := Lib.hid (fun V => RC.out r V R1.out)
          have C2 := Lib.hid (fun V => CO.out k V hlt)
          have E2 := Lib.hid (show rowN C r ||| colN C k R = gset R C m2 by rw [gset_rc hlt, ← MM.out, ← M2.out])
          have M16 := Lib.hid (show m2 < 16 by have := PL.out r k R1.out hlt; rw [← MM.out] at this; have := M2.out; omega)
          obtain ⟨x, hx⟩ : ∃ x, x = rowN C r := ⟨_, rfl⟩
          obtain ⟨y, hy⟩ : ∃ y, y = colN C k R := ⟨_, rfl⟩
          obtain ⟨z, hz⟩ : ∃ z, z = gset R C m2 := ⟨_, rfl⟩
          rw [← hx] at R2 E2 rl
          rw [← hy] at C2 E2 cl
          rw [← hz] at E2
          have a1 : bits .or .u16 (x : Int) (y : Int) = (z : Int) := by rw [← E2.out]; exact or16 rl cl
          have GS := Lib.hid (show gl R C (m2 + 1) = gl R C m2 ++ [z] by rw [gl_succ, hz])
          clear hlt rl cl hx hy hz hkC
          go_wp2_with (first | (go_at_call 29; refine (R2.out _).mono ?_; rintro e w1 ⟨rfl, rfl⟩) | (go_at_call 30; refine (C2.out _).mono ?_; rintro e w1 ⟨rfl, rfl⟩) | (refine wpList_append_u rfl _ _ (by rfl) (y := (z : Int)) z rfl (B := W.heap.size) (v := .slice A2 m2 c2) (l := gl R C m2) (n := m2) rfl rfl T2.out (gl_len _ _ _) (by have := M16.out; omega) B2.out.size B2.out (Nat.le_refl _) ?_; intro A3 c3 w3 Z3 G3 B3))
          go_roundw
          case rel => exact ⟨k + 1, m2 + 1, A3, c3, rfl, by go_num, by have := K1.out; omega, by have := M2.out; omega, by rw [GS.out]; exact Z3.out, B3.out⟩
          case measure => have := K1.out; simp [intOf] <;> omega
        · obtain rfl : k = C := by omega
          have MN := Lib.hid (show m2 = (r + 1) * k by rw [Nat.add_mul, Nat.one_mul, ← MM.out]; exact M2.out)
          clear hlt hkC
          go_wp2
          go_roundw
          case rel => exact ⟨r + 1, m2, A2, c2, rfl, by go_num, by have := R1.out; omega, MN.out, T2.out, B2.out⟩
          case measure => have := R1.out; simp [intOf] <;> omega
    · obtain rfl : r = R := by omega
      obtain rfl : m = N := by rw [HN.out]; exact MM.out
      obtain ⟨g, rfl, hg, hc, hcm, hH⟩ := TT.out.holds NN.out.1 (gl_len _ _ _)
      have SC := Lib.hid (Qs.sort_c g 0 m c (gl r C m).toArray wr hH (by simp [gl_len]) (by have := NN.out; omega))
      have GB := Lib.hid hg
      have CC := Lib.hid (show m ≤ c ∧ c ≤ maxLen from ⟨hc, hcm⟩)
      clear hg hc hcm hH hlt hrR
      go_wp2_with fail
      refine SC.out.mono ?_
      rintro e w2 ⟨d', rfl, hp, hs, hL⟩
      have GL := Lib.hid (gl_len r C m)
      have MEM := Lib.hid (perm_mem (n := m) (by simp [gl_len]) hp)
      have DS := Lib.hid (show d'.size = m by rw [hp.1]; simp [gl_len])
      have CE := Lib.hid (show Sort.Holds w16 w2 g 0 d' from hL.2.1)
      have QC := Lib.hid (Qs.compact_c g 0 m c d' l n w2 hL.2.1 DS.out (by have := NN.out; omega) CC.out.1 CC.out.2 (by
        rw [← HG.out]
        exact comp_rise DS.out (sorted_le hs) (fun x => by rw [MEM.out x]) (fun x hx => GF.out x hx)) HM.out)
      have B2 := Lib.hid (BB.out.grown hL.2.2 BB.out.size (fun k hk => by injection hk with hk; rw [← hk]; exact GB.out))
      clear hp hs hL
      go_wp2_with fail
      refine QC.out.mono ?_
      rintro e w3 ⟨A3, c3, rfl, hr, hg⟩
      have R3 := Lib.hid hr
      have B3 := Lib.hid (B2.out.grown hg B2.out.size (fun k hk => by injection hk with hk; rw [← hk]; exact GB.out))
      clear hr hg
      go_wp2
      go_ret2
      exact ⟨A3, c3, rfl, R3.out, B3.out⟩
set_option maxRecDepth 100000 in
theorem gridSpec : GridSpec := by
  intro r c W l n k hk hl hn
  rcases gridE_vals r c with ⟨h0, h1, h2, h3, h4, h5⟩ | h0
  · obtain rfl : k = 0 := by rw [← hk, h0]
    obtain ⟨R, rfl⟩ : ∃ R : Nat, r = R := ⟨r.toNat, by omega⟩
    obtain ⟨C, rfl⟩ : ∃ C : Nat, c = C := ⟨c.toNat, by omega⟩
    have h : R * C ≤ 16 := by
      have e : ((R * C : Nat) : Int) ≤ 16 := by simpa using h5
      omega
    exact grid_c R C W l n (by omega) (by omega) (by omega) (by omega) h (by rw [← hl, gridL, if_pos h0]; rfl) hn
  · obtain rfl : k = 2 := by rw [← hk, h0]
    obtain rfl : l = [] := by rw [← hl, gridL, if_neg (by rw [h0]; decide)]
    obtain rfl : n = 0 := hn.symm
    have hE : r < 1 ∨ c < 1 ∨ 16 < r ∨ 16 < c ∨ 16 < r * c := by
      refine Classical.byContradiction fun hn => ?_
      unfold gridE at h0
      rw [if_neg hn] at h0
      cases h0
    clear hk hl hn
    by_cases hr : 1 ≤ r ∧ r ≤ 16
    · have BR := Lib.hid (fun V => between_c r 16 V true (by simp; omega))
      by_cases hc : 1 ≤ c ∧ c ≤ 16
      · have BC := Lib.hid (fun V => between_c c 16 V true (by simp; omega))
        obtain ⟨p, hp⟩ : ∃ p, p = r * c := ⟨_, rfl⟩
        have p1 : p ≤ 256 := by
          have : r * c ≤ 16 * 16 := Int.mul_le_mul hr.2 hc.2 (by omega) (by omega)
          omega
        have p0 : 16 < p := by omega
        have w0 : IntKind.i64.wrap (r * c) = p := by rw [← hp]; exact IntWalk.i64_in _ (by omega)
        have i0b : decide (16 < p) = true := decide_eq_true p0
        clear hp hE h0
        go_enter Try.func11, Try.ntmps11
        go_wp2_with fail
        refine (BR.out _).mono ?_
        rintro e w1 ⟨rfl, rfl⟩
        go_wp2_with fail
        refine (BC.out _).mono ?_
        rintro e w1 ⟨rfl, rfl⟩
        go_wp2
        go_ret2
        exact ⟨none, 0, rfl, Reads.nil, Below.refl _ _⟩
      · have BC := Lib.hid (fun V => between_c c 16 V false (by rw [Bool.eq_false_iff, ne_eq, Bool.and_eq_true, decide_eq_true_eq, decide_eq_true_eq]; exact hc))
        clear hc hE h0
        go_enter Try.func11, Try.ntmps11
        go_wp2_with fail
        refine (BR.out _).mono ?_
        rintro e w1 ⟨rfl, rfl⟩
        go_wp2_with fail
        refine (BC.out _).mono ?_
        rintro e w1 ⟨rfl, rfl⟩
        go_wp2
        go_ret2
        exact ⟨none, 0, rfl, Reads.nil, Below.refl _ _⟩
    · have BR := Lib.hid (fun V => between_c r 16 V false (by rw [Bool.eq_false_iff, ne_eq, Bool.and_eq_true, decide_eq_true_eq, decide_eq_true_eq]; exact hr))
      clear hr hE h0
      go_enter Try.func11, Try.ntmps11
      go_wp2_with (go_at_call 26; refine (BR.out _).mono ?_; rintro e w1 ⟨rfl, rfl⟩)
      go_ret2
      exact ⟨none, 0, rfl, Reads.nil, Below.refl _ _⟩
end Go.Proofs.Yteggbepibfpjcaa.Qr
