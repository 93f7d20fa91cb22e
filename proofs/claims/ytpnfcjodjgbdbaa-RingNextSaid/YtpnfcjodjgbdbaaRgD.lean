/-
  Contracts of package ring: start, Find, Some, Without.
-/
import Derived.Test.YtpnfcjodjgbdbaaRgC
namespace Go.Proofs.Ytpnfcjodjgbdbaa.Ring
set_option linter.unusedVariables false
set_option linter.unusedSimpArgs false
open Go.RowKit Mem
open Go.Sort (grow alloc_eq_grow grow_grow)

theorem mk_func (fn : Fn) (first cap : Array Value) (w : World) : (Instr.makeFunc fn first cap).run Try.prog w = .ok (.func fn first cap) w := rfl
/-- Two boxes laid behind a world. -/
theorem box2 (w : World) (t1 t2 : TypeId) (u v : Value) : ((w.alloc (.cells #[u] t1)).alloc (.cells #[v] t2)).cell? ⟨w.heap.size, 0, none⟩ = some u ∧ ((w.alloc (.cells #[u] t1)).alloc (.cells #[v] t2)).cell? ⟨w.heap.size + 1, 0, none⟩ = some v := by
  have h1 := ((Known.made w t1 #[u]).alloc (.cells #[v] t2)).cell 0
  have h2 := (Known.made (w.alloc (.cells #[u] t1)) t2 #[v]).cell 0
  rw [show (w.alloc (.cells #[u] t1)).heap.size = w.heap.size + 1 by simp] at h2
  exact ⟨h1, h2⟩
theorem below2 (w : World) (o1 o2 : Obj) : Below w.heap.size w ((w.alloc o1).alloc o2) := ((Below.refl _ _).alloc (Nat.le_refl _) _).alloc (by simp) _
/-- The answer of a search behind two boxes. -/
theorem search_box (A : Option Addr) (ts : List Tk) (n ca : Nat) (p : UInt64) (V : World) (hx : TRds V A ts) (hn : ts.length = n) (h4 : n ≤ 400) (hs : Sorted ts) :
    Calls Try.prog 50 #[.int .i64 n, .func (.func 51) #[] #[.pointer (some ⟨V.heap.size, 0, none⟩), .pointer (some ⟨V.heap.size + 1, 0, none⟩)]] ((V.alloc (.cells #[.slice A n ca] 23)).alloc (.cells #[.int .u64 p.toNat] 29))
      fun e w' => e = .returned (.int .i64 (ahd p ts)) ∧ w'.cell? ⟨V.heap.size, 0, none⟩ = some (.slice A n ca) ∧ Below V.heap.size V w' := by
  obtain ⟨h1, h2⟩ := box2 V 23 29 (.slice A n ca) (.int .u64 p.toNat)
  have hb := below2 V (.cells #[.slice A n ca] 23) (.cells #[.int .u64 p.toNat] 29)
  refine (search_c V.heap.size (V.heap.size + 1) A ts n ca p _ h1 h2 (hx.below hb) hn h4 hs).mono ?_
  rintro e w' ⟨rfl, hB⟩
  exact ⟨rfl, (hB.cell (p := ⟨V.heap.size, 0, none⟩) (by simp; omega)).trans h1, hb.trans (hB.mono hb.size)⟩
theorem start_c (A : Option Addr) (ts : List Tk) (n ca : Nat) (key : UInt64) (W : World) (hx : TRds W A ts) (hn : ts.length = n) (h4 : n ≤ 400) (hs : Sorted ts) :
    Calls Try.prog 34 #[.slice A n ca, .int .u64 key.toNat] W (Gave (.int .i64 (first (Mix.one key) ts)) W) := by
  have H := Lib.hid (search_box A ts n ca (Mix.one key) W hx hn h4 hs)
  have mk := fun fn first cap w => mk_func fn first cap w
  have hl := ahd_le (Mix.one key) ts
  have F1 : Hid (ahd (Mix.one key) ts = ts.length → first (Mix.one key) ts = 0) := fun h => if_pos h
  have F2 : Hid (ahd (Mix.one key) ts ≠ ts.length → first (Mix.one key) ts = ahd (Mix.one key) ts) := fun h => if_neg h
  rw [hn] at hl F1 F2
  generalize ha : ahd (Mix.one key) ts = a at *
  generalize hf : first (Mix.one key) ts = f at *
  clear ha hf hx hn hs
  by_cases e : a = n
  · obtain rfl := F1.out e
    subst e
    clear F1 F2
    go_enter Try.func34, Try.ntmps34
    go_wp2_with (first | (go_at_call 38; refine (Mix.one_c _ _).mono ?_; rintro e w' ⟨rfl, rfl⟩) | (go_at_call 50; refine H.out.mono ?_; rintro e w' ⟨rfl, hc, hb⟩; have HB := Lib.hid hb; clear hb))
    go_ret
    exact ⟨rfl, HB.out⟩
  · obtain rfl := F2.out e
    clear F1 F2
    have n1 : ((f : Int) == (n : Int)) = false := by simp; omega
    have n2 : ¬ (f : Int) = (n : Int) := by omega
    clear e
    go_enter Try.func34, Try.ntmps34
    go_wp2_with (first | (go_at_call 38; refine (Mix.one_c _ _).mono ?_; rintro e w' ⟨rfl, rfl⟩) | (go_at_call 50; refine H.out.mono ?_; rintro e w' ⟨rfl, hc, hb⟩; have HB := Lib.hid hb; clear hb))
    go_ret
    exact ⟨rfl, HB.out⟩

theorem find_bad (A : Option Addr) (ts : List Tk) (n ca : Nat) (key : UInt64) (W : World) (hn : ts.length = n) (hbig : n ≤ maxLen) (hx : TRds W A ts) (h : ¬ Right ts) :
    Calls Try.prog 15 #[.slice A n ca, .int .u64 key.toNat] W (Gave (.tuple #[.int .i64 0, .int .i64 1]) W) := by
  have H := Lib.hid (right_no A ts n ca W hn hbig hx h)
  clear hn hx h
  go_enter Try.func15, Try.ntmps15
  go_wp2_with (go_at_call 13; refine H.out.mono ?_; rintro e w' ⟨rfl, hb⟩; have HB := Lib.hid hb; clear hb)
  go_ret2
  exact ⟨rfl, HB.out⟩
theorem right_nil : Right [] := ⟨by simp, List.Pairwise.nil⟩
theorem find_none (A : Option Addr) (ca : Nat) (key : UInt64) (W : World) :
    Calls Try.prog 15 #[.slice A 0 ca, .int .u64 key.toNat] W (Gave (.tuple #[.int .i64 0, .int .i64 3]) W) := by
  have H := Lib.hid (right_yes A [] 0 ca W rfl TRds.nil right_nil)
  go_enter Try.func15, Try.ntmps15
  go_wp2_with (go_at_call 13; refine H.out.mono ?_; rintro e w' ⟨rfl, hb⟩; have HB := Lib.hid hb; clear hb)
  go_ret2
  exact ⟨rfl, HB.out⟩
theorem met_head {key : UInt64} {ts : List Tk} (h : Sorted ts) (h0 : 0 < ts.length) : ∃ t, ts[first (Mix.one key) ts]? = some t ∧ (met key ts)[0]? = some t.2 := by
  obtain ⟨t, h1, h2⟩ := turn_at (Mix.one key) h h0
  rw [Nat.add_zero, Nat.mod_eq_of_lt (first_lt h0)] at h1
  exact ⟨t, h1, by unfold met; rw [nub_head]; exact h2⟩
theorem find_ok (A : Option Addr) (ts : List Tk) (n ca : Nat) (key : UInt64) (id : Int) (W : World) (hn : ts.length = n) (hx : TRds W A ts) (h : Right ts) (hid : (met key ts)[0]? = some id) :
    Calls Try.prog 15 #[.slice A n ca, .int .u64 key.toNat] W (Gave (.tuple #[.int .i64 id, .int .i64 0]) W) := by
  have H := Lib.hid (right_yes A ts n ca W hn hx h)
  have h4 : n ≤ 400 := by rw [← hn]; exact h.1
  have h0 : 0 < ts.length := by
    rcases Nat.eq_zero_or_pos ts.length with e | e
    · rw [List.eq_nil_of_length_eq_zero e] at hid; simp [met, turn, nub] at hid
    · exact e
  obtain ⟨t, t1, t2⟩ := met_head (key := key) h.2 h0
  rw [hid] at t2
  injection t2 with t2
  subst t2
  have fl := (List.getElem?_eq_some_iff.1 t1).1
  obtain ⟨b, o, rfl, hbl, _, x1⟩ := hx _ _ t1
  have HS : Hid (∀ V, Below W.heap.size W V → Calls Try.prog 34 #[.slice (some ⟨b, o, none⟩) n ca, .int .u64 key.toNat] V (Gave (.int .i64 (first (Mix.one key) ts)) V)) := fun V hb => start_c _ ts n ca key V (hx.below hb) hn h4 h.2
  generalize hf : first (Mix.one key) ts = f at *
  obtain ⟨t0, id⟩ := t
  have i1 : (f : Int) < (n : Int) := by omega
  have n1 : ((n : Int) == 0) = false := by simp; omega
  have n2 : ¬ n = 0 := by omega
  clear hf hx hn h h0 hid t1 fl
  go_enter Try.func15, Try.ntmps15
  go_wp2_with (first | (go_at_call 13; refine H.out.mono ?_; rintro e w' ⟨rfl, hb⟩; have HB := Lib.hid hb; clear hb) | (go_at_call 34; refine (HS.out _ HB.out).mono ?_; rintro e w2 ⟨rfl, hb⟩; have HC := Lib.hid (HB.out.trans (hb.mono HB.out.size)); clear hb; have cx := (HC.out.cell (p := ⟨b, o + f * 2 + 1, none⟩) hbl).trans x1))
  go_ret2
  exact ⟨rfl, HC.out⟩
end Go.Proofs.Ytpnfcjodjgbdbaa.Ring
