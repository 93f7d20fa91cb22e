/-
  Contracts of package table: Wrong, preferences, Likes, Find.
-/
import Derived.Test.YtahhgeecikljdaaTbA
namespace Go.Proofs.Ytahhgeecikljdaa.Tb
set_option linter.unusedVariables false
set_option linter.unusedSimpArgs false
open Go.RowKit Mem

set_option maxHeartbeats 2000000 in
theorem wrong_size (A : Option Addr) (n ca : Nat) (size : Int) (W : World) (hbig : n ≤ maxLen) (h : BadT n size) :
    Calls Try.prog 12 #[.slice A n ca, .int .i64 size] W (Gave (.int .i64 2) W) := by
  unfold BadT at h
  unfold maxLen at hbig
  by_cases h1 : n < 1
  · have d1 : decide ((n : Int) < 1) = true := decide_eq_true (by omega)
    clear h
    go_enter Try.func12, Try.ntmps12
    go_wp2
    go_ret
    exact ⟨rfl, Below.refl _ _⟩
  have d1 : decide ((n : Int) < 1) = false := decide_eq_false (by omega)
  by_cases h2 : 16 < n
  · have d2 : decide ((16 : Int) < (n : Int)) = true := decide_eq_true (by omega)
    clear h
    go_enter Try.func12, Try.ntmps12
    go_wp2
    go_ret
    exact ⟨rfl, Below.refl _ _⟩
  have d2 : decide ((16 : Int) < (n : Int)) = false := decide_eq_false (by omega)
  by_cases h3 : size < 1
  · have d3 : decide (size < 1) = true := decide_eq_true h3
    clear h
    go_enter Try.func12, Try.ntmps12
    go_wp2
    go_ret
    exact ⟨rfl, Below.refl _ _⟩
  · have d3 : decide (size < 1) = false := decide_eq_false h3
    have d4 : decide (1000 < size) = true := decide_eq_true (by omega)
    clear h
    go_enter Try.func12, Try.ntmps12
    go_wp2
    go_ret
    exact ⟨rfl, Below.refl _ _⟩
set_option maxHeartbeats 4000000 in
theorem wrong_c (A : Option Addr) (ids : List Int) (n ca : Nat) (size : Int) (W : World) (hn : ids.length = n) (hbig : n ≤ maxLen) (hx : Reads W A (ids.map (Value.int .i64))) (hwf : ∀ x ∈ ids, (Lit.int .i64 x).wf = true) :
    Calls Try.prog 12 #[.slice A n ca, .int .i64 size] W (Gave (.int .i64 (tErr ids size)) W) := by
  by_cases hb : BadT n size
  · have h := wrong_size A n ca size W hbig hb
    unfold tErr
    rw [hn, if_pos hb]; exact h
  have e0 : tErr ids size = if ¬ Prm size.toNat then 1 else if size < ids.length then 8 else Ring.scan [] ids := by unfold tErr; rw [hn, if_neg hb]
  unfold BadT at hb
  obtain ⟨p, rfl⟩ : ∃ p : Nat, size = p := ⟨size.toNat, by omega⟩
  have HW := Lib.hid (wrongIds_c A ids n ca W hn (by omega) hx hwf)
  have HP := Lib.hid (fun V => prime_c p (by omega) (by omega) V)
  have d1 : decide ((n : Int) < 1) = false := decide_eq_false (by omega)
  have d2 : decide ((16 : Int) < (n : Int)) = false := decide_eq_false (by omega)
  have d3 : decide ((p : Int) < 1) = false := decide_eq_false (by omega)
  have d4 : decide ((1000 : Int) < (p : Int)) = false := decide_eq_false (by omega)
  rw [Int.toNat_natCast, hn] at e0
  have E := Lib.hid e0
  clear e0 hx hwf hn hbig
  by_cases hp : Prm p
  · rw [decide_eq_true hp] at HP
    by_cases hs : (p : Int) < (n : Int)
    · have d5 : decide ((p : Int) < (n : Int)) = true := decide_eq_true hs
      have E2 := Lib.hid (show tErr ids p = 8 by rw [E.out, if_neg (by simpa using hp), if_pos hs])
      clear hp hb
      go_enter Try.func12, Try.ntmps12
      go_wp2_with (go_at_call 28; refine (HP.out _).mono ?_; rintro e w' ⟨rfl, rfl⟩)
      go_ret
      exact ⟨by rw [E2.out]; rfl, Below.refl _ _⟩
    · have d5 : decide ((p : Int) < (n : Int)) = false := decide_eq_false hs
      have E2 := Lib.hid (show tErr ids p = Ring.scan [] ids by rw [E.out, if_neg (by simpa using hp), if_neg hs])
      generalize Ring.scan [] ids = s at *
      clear hp hb
      go_enter Try.func12, Try.ntmps12
      go_wp2_with (first | (go_at_call 28; refine (HP.out _).mono ?_; rintro e w' ⟨rfl, rfl⟩) | (go_at_call 29; refine HW.out.mono ?_; rintro e w' ⟨rfl, hb⟩; have HB := Lib.hid hb; clear hb))
      go_ret
      exact ⟨by rw [E2.out]; rfl, HB.out⟩
  · rw [decide_eq_false hp] at HP
    have E2 := Lib.hid (show tErr ids p = 1 by rw [E.out, if_pos hp])
    clear hp hb
    go_enter Try.func12, Try.ntmps12
    go_wp2_with (go_at_call 28; refine (HP.out _).mono ?_; rintro e w' ⟨rfl, rfl⟩)
    go_ret
    exact ⟨by rw [E2.out]; rfl, Below.refl _ _⟩

/-! ### preferences -/
theorem two_i0 (x : Int) (h0 : 0 ≤ x) (h1 : x ≤ 1099511627776) (V : World) :
    Calls Try.prog 41 #[.int .u64 0, .int .u64 x] V fun e w' => e = .returned (.int .u64 (hA x).toNat) ∧ V = w' := by
  have h := Mix.two_c 0 (UInt64.ofNat x.toNat) V
  have e1 : ((UInt64.ofNat x.toNat).toNat : Int) = x := by rw [UInt64.toNat_ofNat', Nat.mod_eq_of_lt (by omega)]; omega
  rw [e1] at h
  exact h
theorem two_i1 (x : Int) (h0 : 0 ≤ x) (h1 : x ≤ 1099511627776) (V : World) :
    Calls Try.prog 41 #[.int .u64 1, .int .u64 x] V fun e w' => e = .returned (.int .u64 (hB x).toNat) ∧ V = w' := by
  have h := Mix.two_c 1 (UInt64.ofNat x.toNat) V
  have e1 : ((UInt64.ofNat x.toNat).toNat : Int) = x := by rw [UInt64.toNat_ofNat', Nat.mod_eq_of_lt (by omega)]; omega
  rw [e1] at h
  exact h
/-- The first k of L are there already. -/
def partN (L : List Nat) (j k : Nat) : List Nat := L.take k ++ List.replicate (j - k) 0
theorem partN_set {L : List Nat} {j k : Nat} {x : Nat} (h : L.length = j) (hk : L[k]? = some x) : (partN L j k).set k x = partN L j (k + 1) := by
  obtain ⟨h1, rfl⟩ := List.getElem?_eq_some_iff.1 hk
  unfold partN
  have hl : (L.take k).length = k := by simp; omega
  obtain ⟨d, hd⟩ : ∃ d, j - k = d + 1 := ⟨j - k - 1, by omega⟩
  rw [List.set_append_right _ _ (by omega), hl, Nat.sub_self, hd, List.replicate_succ, List.set_cons_zero, List.take_succ_eq_append_getElem h1, show j - (k + 1) = d by omega, List.append_assoc]
  rfl
theorem partN_end {L : List Nat} {j : Nat} (h : L.length = j) : partN L j j = L := by unfold partN; simp [← h]
theorem partN_cell {L : List Nat} {j k : Nat} (h : L.length = j) (hk : k < j) : ∃ x, (partN L j k)[k]? = some x := by
  have : k < (partN L j k).length := by unfold partN; simp; omega
  exact ⟨_, List.getElem?_eq_getElem this⟩
/-- A slice of the call's own that holds a list of preferences. -/
def Prefs (l : List Nat) (p : Nat) (W : World) (e : Ending) (W' : World) : Prop :=
  ∃ g, e = .returned (.slice (some ⟨g, 0, none⟩) p p) ∧ W.heap.size ≤ g ∧ Cells W' g 3 nz l ∧ Below W.heap.size W W'
def PrefAt (W : World) (L : List Nat) (p k : Nat) (wr : World) : Prop := Cells wr W.heap.size 3 nz (partN L p k) ∧ Below W.heap.size W wr
set_option maxRecDepth 100000 in
set_option maxHeartbeats 4000000 in
theorem preferences_c (x : Int) (p : Nat) (h0 : 0 ≤ x) (h1 : x ≤ 1099511627776) (hp : 2 ≤ p) (hb : p ≤ 1000) (W : World) :
    Calls Try.prog 23 #[.int .i64 x, .int .i64 p] W (Prefs (lik x p) p W) := by
  have wx : IntKind.u64.wrap x = x := by rw [IntKind.wrap_u64]; omega
  have wx2 : x % 18446744073709551616 = x := by omega
  have T0 := Lib.hid (fun V => two_i0 x h0 h1 V)
  have T1 := Lib.hid (fun V => two_i1 x h0 h1 V)
  have R0 := Lib.hid (fun V => reduced_c (hA x) p (by omega) (by omega) V)
  have R1 : Hid (∀ V, Calls Try.prog 25 #[.int .u64 (hB x).toNat, .int .i64 ((p : Int) - 1)] V fun e w' => e = .returned (.int .i64 (((hB x).toNat % (p - 1) : Nat) : Int)) ∧ V = w') := fun V => by
    have := reduced_c (hB x) (p - 1) (by omega) (by omega) V
    rwa [show ((p - 1 : Nat) : Int) = (p : Int) - 1 by omega] at this
  have LE := Lib.hid (show lik x p = pref (st x p) (sp x p) p from rfl)
  have hst : (hA x).toNat % p < p := Nat.mod_lt _ (by omega)
  have hsb : (hB x).toNat % (p - 1) < p - 1 := Nat.mod_lt _ (by omega)
  have S0 : st x p = (hA x).toNat % p := rfl
  have S1 : sp x p = (hB x).toNat % (p - 1) + 1 := rfl
  generalize hl : lik x p = L at *
  generalize hs : st x p = s at *
  generalize hd : sp x p = d at *
  subst S0
  generalize ha : (hA x).toNat % p = s at *
  generalize hq : (hB x).toNat % (p - 1) = q at *
  generalize hA x = ax at *
  generalize hB x = bx at *
  have hwd : IntKind.i64.wrap ((q : Int) + 1) = (d : Int) := by rw [show (q : Int) + 1 = d by omega]; exact IntWalk.i64_in _ (by omega)
  have hwp : IntKind.i64.wrap ((p : Int) - 1) = (p : Int) - 1 := IntWalk.i64_in _ (by omega)
  have hdq : (q : Int) + 1 = (d : Int) := by omega
  have hmk := makeI p hb
  have M0 := Lib.hid (newN W p)
  have B0 := Lib.hid ((Below.refl W.heap.size W).alloc (Nat.le_refl _) (.cells (Array.replicate p (.int .i64 0)) 3))
  have PZ := Lib.hid (pos_zero (a := s) (s := d) hst)
  have PS := Lib.hid (fun k => pos_succ s d p k)
  have PL := Lib.hid (fun k => pos_lt (a := s) (s := d) (show 0 < p by omega) k)
  have LN := Lib.hid (show L.length = p by rw [LE.out]; exact pref_len _ _ _)
  have LA := Lib.hid (show ∀ k, k < p → L[k]? = some (pos s d p k) from fun k hk => by rw [LE.out]; exact pref_at hk)
  clear hl hs hd ha hq LE h0 h1 S1
  go_enter Try.func23, Try.ntmps23
  go_wp2_with (first | (go_at_call 41; with_reducible refine (T0.out _).mono ?_; rintro e w1 ⟨rfl, rfl⟩) | (go_at_call 41; with_reducible refine (T1.out _).mono ?_; rintro e w1 ⟨rfl, rfl⟩) | (go_at_call 25; with_reducible refine (R0.out _).mono ?_; rintro e w1 ⟨rfl, rfl⟩) | (go_at_call 25; with_reducible refine (R1.out _).mono ?_; rintro e w1 ⟨rfl, rfl⟩))
  clear T0 T1 R0 R1 hmk
  go_loopw [5, 8, 25] (fun s5 s8 i wr => ∃ k : Nat, k ≤ p ∧ i = .int .i64 k ∧ s5 = .int .i64 (pos s d p k) ∧ PrefAt W L p k wr) (fun _ _ i _ => p - (intOf i).toNat)
  case atStart => exact ⟨0, by omega, rfl, by rw [PZ.out], by unfold partN; simpa using M0.out, B0.out⟩
  case round =>
    obtain ⟨k, hk, rfl, rfl, hC, hB⟩ := hrel
    have HC := Lib.hid hC
    have HB := Lib.hid hB
    clear M0 B0
    by_cases hlt : k < p
    · have i1 : (k : Int) < (p : Int) := by omega
      obtain ⟨y, hy⟩ := partN_cell LN.out hlt
      have c1 := hC.at_ hy
      have f1 := hC.free k
      have hx1 := PL.out k
      have hx2 := PS.out k
      have EL := LA.out k hlt
      have NX := Lib.hid (partN_set LN.out EL)
      generalize hz : pos s d p k = z at *
      have HZ := Lib.hid hz
      have md : ((z : Int) + (d : Int)).tmod (p : Int) = (((z + d) % p : Nat) : Int) := by rw [Int.tmod_eq_emod_of_nonneg (by omega), Int.natCast_emod]; rfl
      have md2 : ((z : Int) + (d : Int)) % (p : Int) = (((z + d) % p : Nat) : Int) := by rw [Int.natCast_emod]; rfl
      have mb : (z + d) % p < p := Nat.mod_lt _ (by omega)
      generalize hr : (z + d) % p = r at *
      have HR := Lib.hid hx2
      have d0 : ((p : Int) == 0) = false := by simp; omega
      have d1 : ¬ p = 0 := by omega
      clear hz hr hx2 EL hy hC hB
      go_wp2
      go_roundw
      case rel => exact ⟨k + 1, by omega, by go_num, by rw [HR.out], by rw [← NX.out]; exact HC.out.put k z, HB.out.setCell (p := ⟨W.heap.size, k, none⟩) (Nat.le_refl _) _⟩
      case measure => simp [intOf]; omega
    · obtain rfl : k = p := by omega
      have FIN := Lib.hid (show Cells wr W.heap.size 3 nz L by have := hC; rwa [partN_end LN.out] at this)
      clear hC hB
      go_wp2
      go_ret
      exact ⟨W.heap.size, rfl, Nat.le_refl _, FIN.out, HB.out⟩
end Go.Proofs.Ytahhgeecikljdaa.Tb
