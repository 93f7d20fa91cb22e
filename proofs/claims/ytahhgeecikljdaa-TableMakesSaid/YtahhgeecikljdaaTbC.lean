/-
  Contracts of package table: Likes, Find, the first free position of a list.
-/
import Derived.Test.YtahhgeecikljdaaTbB
namespace Go.Proofs.Ytahhgeecikljdaa.Tb
set_option linter.unusedVariables false
set_option linter.unusedSimpArgs false
open Go.RowKit Mem

/-! ### Likes -/
theorem one_row (W : World) (x : Int) : Reads (W.alloc (.cells #[.int .i64 x] 3)) (some ⟨W.heap.size, 0, none⟩) ([x].map (Value.int .i64)) :=
  (Cells.new W 3 (Value.int .i64) [x] #[.int .i64 x] rfl).reads
theorem wrong_one (x : Int) (hx : (Lit.int .i64 x).wf = true) (size : Int) (W : World) :
    Calls Try.prog 12 #[.slice (some ⟨W.heap.size, 0, none⟩) 1 1, .int .i64 size] (W.alloc (.cells #[.int .i64 x] 3)) fun e w' => e = .returned (.int .i64 (tErr [x] size)) ∧ Below W.heap.size W w' := by
  refine (wrong_c _ [x] 1 1 size _ rfl (by unfold maxLen; omega) (one_row W x) (fun y hy => by simp at hy; subst hy; exact hx)).mono ?_
  rintro e w' ⟨rfl, hb⟩
  have h0 : Below W.heap.size W (W.alloc (.cells #[.int .i64 x] 3)) := (Below.refl _ _).alloc (Nat.le_refl _) _
  exact ⟨rfl, h0.trans (hb.mono h0.size)⟩
set_option maxHeartbeats 2000000 in
theorem likes_bad (x : Int) (hx : (Lit.int .i64 x).wf = true) (size : Int) (k : Int) (hk : tErr [x] size = k) (h0 : k ≠ 0) (W : World) :
    Calls Try.prog 8 #[.int .i64 x, .int .i64 size] W (Gave (.tuple #[.slice none 0 0, .int .i64 k]) W) := by
  have H := Lib.hid (wrong_one x hx size W)
  rw [hk] at H
  have hv := tErr_vals [x] size
  rw [hk] at hv
  clear hk hx
  rcases hv with rfl | rfl | rfl | rfl | rfl
  · exact absurd rfl h0
  all_goals
    clear h0
    go_enter Try.func8, Try.ntmps8
    go_wp2_with (go_at_call 12; refine H.out.mono ?_; rintro e w' ⟨rfl, hb⟩; have HB := Lib.hid hb; clear hb)
    go_ret2
    exact ⟨rfl, HB.out⟩
/-- A list of preferences and no error. -/
def LikesOut (l : List Nat) (p : Nat) (W : World) (e : Ending) (W' : World) : Prop :=
  ∃ g, e = .returned (.tuple #[.slice (some ⟨g, 0, none⟩) p p, .int .i64 0]) ∧ W.heap.size ≤ g ∧ Cells W' g 3 nz l ∧ Below W.heap.size W W'
set_option maxHeartbeats 2000000 in
theorem likes_ok (x : Int) (p : Nat) (hx : (Lit.int .i64 x).wf = true) (hk : tErr [x] p = 0) (W : World) :
    Calls Try.prog 8 #[.int .i64 x, .int .i64 p] W (LikesOut (lik x p) p W) := by
  have H := Lib.hid (wrong_one x hx p W)
  rw [hk] at H
  obtain ⟨q, hq, h1, h2, _, _, _, h3, _⟩ := tErr_zero hk
  obtain rfl : p = q := by omega
  obtain ⟨h4, h5⟩ := h3 x (by simp)
  have P := Lib.hid (fun V => preferences_c x p h4 h5 h1.1 h2 V)
  generalize lik x p = l at *
  clear hk hx hq h3
  go_enter Try.func8, Try.ntmps8
  go_wp2_with (first | (go_at_call 12; refine H.out.mono ?_; rintro e w' ⟨rfl, hb⟩; have HB := Lib.hid hb; clear hb) | (go_at_call 23; refine (P.out _).mono ?_; rintro e w2 ⟨g, rfl, hg, hc, hb⟩; have HC := Lib.hid hc; have HG := Lib.hid (Nat.le_trans HB.out.size hg); have HB2 := Lib.hid (HB.out.trans (hb.mono HB.out.size)); clear hb hc hg))
  go_ret2
  exact ⟨g, rfl, HG.out, HC.out, HB2.out⟩

/-! ### Find -/
theorem find_none (A : Option Addr) (ca : Nat) (key : UInt64) (W : World) :
    Calls Try.prog 10 #[.slice A 0 ca, .int .u64 key.toNat] W fun e w' => e = .returned (.tuple #[.int .i64 0, .int .i64 3]) ∧ W = w' := by
  go_enter Try.func10, Try.ntmps10
  go_wp2
  go_ret2
  exact ⟨rfl, rfl⟩
/-- What a table says of a key. -/
def fnd (t : List Int) (key : UInt64) : Int := t.getD ((Mix.one key).toNat % t.length) 0
theorem fnd_at {t : List Int} (key : UInt64) (h : 0 < t.length) : t[(Mix.one key).toNat % t.length]? = some (fnd t key) := by
  have := List.getElem?_eq_getElem (Nat.mod_lt (Mix.one key).toNat h)
  unfold fnd
  rw [List.getD_eq_getElem?_getD, this]; rfl
theorem find_core (b o q n ca : Nat) (v : Int) (key u : UInt64) (W : World) (h1 : 1 ≤ n) (hq : q < n) (c0 : W.cell? ⟨b, o + q, none⟩ = some (.int .i64 v))
    (O : Hid (∀ V, Calls Try.prog 26 #[.int .u64 key.toNat] V fun e w' => e = .returned (.int .u64 u.toNat) ∧ V = w'))
    (R : Hid (∀ V, Calls Try.prog 25 #[.int .u64 u.toNat, .int .i64 n] V fun e w' => e = .returned (.int .i64 (q : Int)) ∧ V = w')) :
    Calls Try.prog 10 #[.slice (some ⟨b, o, none⟩) n ca, .int .u64 key.toNat] W fun e w' => e = .returned (.tuple #[.int .i64 v, .int .i64 0]) ∧ W = w' := by
  have i1 : (q : Int) < (n : Int) := by omega
  have n1 : ((n : Int) == 0) = false := by simp; omega
  have n2 : ¬ n = 0 := by omega
  go_enter Try.func10, Try.ntmps10
  go_wp2_with (first | (go_at_call 26; refine (O.out _).mono ?_; rintro e w' ⟨rfl, rfl⟩) | (go_at_call 25; refine (R.out _).mono ?_; rintro e w' ⟨rfl, rfl⟩))
  go_ret2
  exact ⟨rfl, rfl⟩
theorem find_ok (A : Option Addr) (t : List Int) (n ca : Nat) (key : UInt64) (W : World) (hn : t.length = n) (h1 : 1 ≤ n) (hbig : n ≤ 9223372036854775807) (hx : Reads W A (t.map (Value.int .i64))) :
    Calls Try.prog 10 #[.slice A n ca, .int .u64 key.toNat] W fun e w' => e = .returned (.tuple #[.int .i64 (fnd t key), .int .i64 0]) ∧ W = w' := by
  have ha := fnd_at key (t := t) (by omega)
  have hq : (Mix.one key).toNat % t.length < t.length := Nat.mod_lt _ (by omega)
  obtain ⟨b, o, rfl, _, c0⟩ := hx _ (.int .i64 (fnd t key)) (by rw [List.getElem?_map, ha]; rfl)
  rw [hn] at c0 hq
  exact find_core b o _ n ca _ key (Mix.one key) W h1 hq c0 (fun V => Mix.one_c key V) (fun V => reduced_c (Mix.one key) n h1 hbig V)

/-! ### The first free position -/
theorem closure_c (b1 : Nat) (T : Option Addr) (bs : List Bool) (p tc : Nat) (x : Nat) (c : Bool) (V : World) (h1 : V.cell? ⟨b1, 0, none⟩ = some (.slice T p tc)) (hx : Reads V T (bs.map bz)) (hp : bs.length = p) (hc : bs[x]? = some c) :
    Calls Try.prog 42 #[.int .i64 x, .pointer (some ⟨b1, 0, none⟩)] V fun e w' => e = .returned (.bool (!c)) ∧ V = w' := by
  obtain ⟨b, o, rfl, _, c0⟩ := reads_b hx hc
  have hxl := (List.getElem?_eq_some_iff.1 hc).1
  have i1 : (x : Int) < (p : Int) := by omega
  clear hx hp hc hxl
  go_enter Try.func42, Try.ntmps42
  go_wp2
  go_ret
  exact ⟨by cases c <;> rfl, rfl⟩
set_option maxHeartbeats 4000000 in
theorem index_c (b1 : Nat) (T : Option Addr) (bs : List Bool) (p tc : Nat) (A : Option Addr) (pre rest : List Nat) (x n ca : Nat) (V : World) (h1 : V.cell? ⟨b1, 0, none⟩ = some (.slice T p tc)) (hT : Reads V T (bs.map bz)) (hp : bs.length = p)
    (hA : Reads V A ((pre ++ x :: rest).map nz)) (hn : (pre ++ x :: rest).length = n) (hb : n ≤ 1000) (hpre : ∀ y ∈ pre, bs[y]? = some true) (hx : bs[x]? = some false) :
    Calls Try.prog 43 #[.slice A n ca, .func (.func 42) #[] #[.pointer (some ⟨b1, 0, none⟩)]] V fun e w' => e = .returned (.int .i64 pre.length) ∧ V = w' := by
  have HA := Lib.hid hA
  have HC := Lib.hid (show ∀ (y : Nat) (c : Bool), bs[y]? = some c → Calls Try.prog 42 #[.int .i64 y, .pointer (some ⟨b1, 0, none⟩)] V fun e w' => e = .returned (.bool (!c)) ∧ V = w' from fun y c h => closure_c b1 T bs p tc y c V h1 hT hp h)
  have HP := Lib.hid (show ∀ k y, k < pre.length → (pre ++ x :: rest)[k]? = some y → bs[y]? = some true from fun k y hk hy => by
    rw [List.getElem?_append_left hk] at hy
    exact hpre y (List.mem_of_getElem? hy))
  have HX := Lib.hid (show (pre ++ x :: rest)[pre.length]? = some x by simp)
  have HL := Lib.hid (show ∀ k, k ≤ pre.length → ∃ y, (pre ++ x :: rest)[k]? = some y from fun k hk => ⟨_, List.getElem?_eq_getElem (by simp; omega)⟩)
  have hm : pre.length < n := by rw [← hn]; simp
  have HF := Lib.hid hx
  generalize hl : pre ++ x :: rest = l at *
  generalize hj : pre.length = j at *
  clear hA h1 hT hp hn hpre hx hl hj
  go_enter Try.func43, Try.ntmps43
  go_wp2
  go_loop [5, 8] (fun _ i => ∃ k : Nat, k ≤ j ∧ i = .int .i64 k) (fun _ i => n - (intOf i).toNat)
  case atStart => exact ⟨0, by omega, rfl⟩
  case round =>
    obtain ⟨k, hk, rfl⟩ := hrel
    have hk1 : (k : Int) < (n : Int) := by omega
    by_cases hlt : k < j
    · obtain ⟨y, hy⟩ := HL.out k (by omega)
      obtain ⟨b, o, rfl, _, c0⟩ := reads_n HA.out hy
      have CC := Lib.hid (HC.out y true (HP.out k y hlt hy))
      clear hy
      go_wp2_with (go_at_call 42; refine CC.out.mono ?_; rintro e w' ⟨rfl, rfl⟩)
      go_round
      case rel => exact ⟨k + 1, by omega, by go_num⟩
      case measure => simp [intOf]; omega
    · obtain rfl : k = j := by omega
      obtain ⟨b, o, rfl, _, c0⟩ := reads_n HA.out HX.out
      have CC := Lib.hid (HC.out x false HF.out)
      go_wp2_with (go_at_call 42; refine CC.out.mono ?_; rintro e w' ⟨rfl, rfl⟩)
      go_ret
      exact ⟨rfl, rfl⟩
end Go.Proofs.Ytahhgeecikljdaa.Tb
