/-
  The contract of (*Int).Xor.
-/
import Derived.Test.YtahhgeecikljdaaBigApp
import Derived.Deep.QuietTactic
import Derived.BigQuiet
namespace Go.Proofs.Ytahhgeecikljdaa.Big
set_option linter.unusedVariables false
open Go.RowKit

/-- A list that is turned into another one place by place: the first k of out, the rest of base. -/
def part (out base : List UInt32) (k : Nat) : List UInt32 := out.take k ++ base.drop k
theorem part_zero (out base : List UInt32) : part out base 0 = base := by simp [part]
theorem part_len {out base : List UInt32} (h : out.length = base.length) (k : Nat) : (part out base k).length = base.length := by simp [part]; omega
theorem part_at {out base : List UInt32} (h : out.length = base.length) {k : Nat} (hk : k < base.length) : (part out base k)[k]? = base[k]? := by
  unfold part
  rw [List.getElem?_append_right (by simp; omega), List.length_take, Nat.min_eq_left (by omega), Nat.sub_self, List.getElem?_drop, Nat.add_zero]
theorem part_set {out base : List UInt32} (h : out.length = base.length) {k : Nat} {u : UInt32} (hu : out[k]? = some u) : (part out base k).set k u = part out base (k + 1) := by
  have hk : k < out.length := (List.getElem?_eq_some_iff.1 hu).1
  have hu' : out[k] = u := (List.getElem?_eq_some_iff.1 hu).2
  unfold part
  rw [List.set_append_right _ _ (by simp; omega), List.length_take, Nat.min_eq_left (by omega), Nat.sub_self]
  rw [List.drop_eq_getElem_cons (l := base) (i := k) (by omega), List.set_cons_zero, List.take_succ_eq_append_getElem hk, hu']
  simp

def xor32 (a b : UInt32) : UInt32 := a ^^^ b
theorem xored (a b : UInt32) : bits .xor .u32 (a.toNat : Int) (b.toNat : Int) = ((xor32 a b).toNat : Int) := by
  rw [u32_xor_nat _ _ (Words.lt32 a) (Words.lt32 b)]; unfold xor32; rw [UInt32.toNat_xor]
def xs : List UInt32 → List UInt32 → List UInt32
  | a, [] => a
  | [], _ :: _ => []
  | x :: a, y :: b => xor32 x y :: xs a b
theorem xs_len : ∀ a b : List UInt32, (xs a b).length = a.length
  | [], [] => rfl
  | _ :: _, [] => rfl
  | [], _ :: _ => rfl
  | x :: a, y :: b => by simp [xs, xs_len a b]
theorem xs_at : ∀ (a b : List UInt32) (k : Nat) (x y : UInt32), a[k]? = some x → b[k]? = some y → (xs a b)[k]? = some (xor32 x y)
  | [], _, k, x, y, h, _ => by simp at h
  | _ :: _, [], k, x, y, _, h => by simp at h
  | u :: a, v :: b, k, x, y, h, h2 => by
    cases k with
    | zero => simp at h h2; subst h h2; rfl
    | succ k => simpa [xs] using xs_at a b k x y (by simpa using h) (by simpa using h2)
theorem xs_rest : ∀ (a b : List UInt32) (k : Nat), b.length ≤ k → (xs a b).drop k = a.drop k
  | a, [], k, _ => by cases a <;> rfl
  | [], _ :: _, k, _ => by simp [xs]
  | x :: a, y :: b, k, h => by
    cases k with
    | zero => simp at h
    | succ k => simpa [xs] using xs_rest a b k (by simpa using h)
theorem xs_part (a b : List UInt32) : part (xs a b) a b.length = xs a b := by
  unfold part; rw [← xs_rest a b b.length (Nat.le_refl _), List.take_append_drop]
theorem xor_split (x y A B : Nat) (hx : x < 4294967296) (hy : y < 4294967296) : (x + 4294967296 * A) ^^^ (y + 4294967296 * B) = (x ^^^ y) + 4294967296 * (A ^^^ B) := by
  have e : (4294967296 : Nat) = 2 ^ 32 := by decide
  rw [e] at *
  have hxy : x ^^^ y < 2 ^ 32 := Nat.xor_lt_two_pow hx hy
  rw [Nat.add_comm x, Nat.add_comm y, Nat.add_comm (x ^^^ y)]
  apply Nat.eq_of_testBit_eq
  intro i
  rw [Nat.testBit_xor, Nat.testBit_two_pow_mul_add _ hx, Nat.testBit_two_pow_mul_add _ hy, Nat.testBit_two_pow_mul_add _ hxy]
  split
  · rw [Nat.testBit_xor]
  · rw [Nat.testBit_xor]
theorem xs_val : ∀ a b : List UInt32, b.length ≤ a.length → val (xs a b) = val a ^^^ val b
  | [], [], _ => rfl
  | x :: a, [], _ => by simp [xs, val]
  | [], _ :: _, h => by simp at h
  | x :: a, y :: b, h => by
    rw [xs, val, xs_val a b (by simpa using h), val, val, xor_split _ _ _ _ x.toNat_lt y.toNat_lt]
    unfold xor32; rw [UInt32.toNat_xor]
attribute [local go_sem] xored

def RoundXor (W : World) (G : Nat) (l : List UInt32) (wr : World) : Prop := Below W.heap.size W wr ∧ Row wr G l

set_option maxHeartbeats 2000000 in
theorem xor_c (z p q n m : Nat) (W : World) (hz : Slot W z) (hp : Num W p n) (hq : Num W q m) (hn : (digs n).length ≤ 35184372088832) (hm : (digs m).length ≤ (digs n).length) :
    Calls Try.prog 32 #[.pointer (some ⟨z, 0, none⟩), .pointer (some ⟨p, 0, none⟩), .pointer (some ⟨q, 0, none⟩)] W (Trimmed z (n ^^^ m) W) := by
  obtain ⟨A, cap, c0, c1, hcap, hd⟩ := hp.facts
  obtain ⟨B, capB, e0, e1, hcapB, he⟩ := hq.facts
  obtain ⟨s, A', l', c', z0, z1, f0, f1, hlt⟩ := hz.facts
  have hbn : decide ((digs n).length < (digs m).length) = false := by simp; omega
  have hfin : val (xs (digs n) (digs m)) = n ^^^ m := by rw [xs_val _ _ hm, val_digs, val_digs]
  have HF := Lib.hid hfin
  clear hfin
  clear hp hq
  generalize digs n = a at *
  generalize digs m = b at *
  go_enter Try.func32, Try.ntmps32
  go_wp2
  go_quiet (fail)
  go_wp2_with (at_builtin; go_loud (refine wpList_append_digs _ rfl (.tmp 27) (.tmp 28) rfl W.heap.size cap A a rfl rfl (Blk.new (W.drewN nq) _ _) (hd.keep fun g cs h => (Blk.drewN h nq).alloc _) hn ?_); intro g cap' w1 hc1 hrow hgr hge)
  go_loopw [32] (fun i wr => ∃ k : Nat, k ≤ b.length ∧ i = .int .i64 k ∧ RoundXor W g (part (xs a b) a k) wr) (fun i _ => b.length - (intOf i).toNat)
  case atStart => exact ⟨0, Nat.zero_le _, rfl, below_of_new (only_trans (only_alloc (only_drewN (only_refl W (some W.heap.size)) nq) (.cells #[] 71)) hgr) (Nat.le_refl _) (Nat.le_refl _), by rw [part_zero]; exact hrow⟩
  case round =>
    obtain ⟨k, hk, rfl, hR⟩ := hrel
    by_cases hlt2 : k < b.length
    · obtain ⟨hbl, hRow⟩ := hR
      obtain ⟨g2, cs2, y, rfl, hbk, hy, hcy⟩ := he.at_ hlt2
      have hx : a[k]? = some a[k] := List.getElem?_eq_getElem (by omega)
      obtain ⟨x, hxe⟩ : ∃ x, a[k] = x := ⟨_, rfl⟩
      rw [hxe] at hx
      have hcy' : wr.cell? ⟨g2, k, none⟩ = some (.int .u32 y.toNat) := (hbl.cell (p := ⟨g2, k, none⟩) hbk.lt).trans hcy
      have hcx : wr.cell? ⟨g, k, none⟩ = some (.int .u32 x.toNat) := hRow.at_ (by rw [part_at (xs_len a b) (by omega)]; exact hx)
      have hfx : wr.frozen? ⟨g, k, none⟩ = false := hRow.frozen k
      have hka : k < a.length := by omega
      have HX := Lib.hid hx
      have HY := Lib.hid hy
      clear hx hy hxe hcy
      go_wp2
      go_roundw
      case rel =>
        refine ⟨k + 1, by omega, by go_num, hbl.setCell (by simp; omega) _, ?_⟩
        rw [← part_set (xs_len a b) (xs_at a b k x y HX.out HY.out)]
        exact hRow.put_ k _ (by rw [part_len (xs_len a b)]; exact hka)
      case measure => simp [intOf]; omega
    · have hke : k = b.length := by omega
      subst hke
      obtain ⟨hbl, hRow⟩ := hR
      rw [xs_part] at hRow
      have hz1 := hz.below hbl
      obtain ⟨s1, A1, l1, cc1, y0, y1, k0, k1, hlt1⟩ := hz1.facts
      go_wp2_with fail
      have key := stored_trim hz1 (A := some ⟨g, 0, none⟩) (ds := xs a b) (cap := cap') hRow.dig (by rw [xs_len]; exact hc1) (by rw [xs_len]; omega)
      rw [xs_len] at key
      refine key.mono ?_
      intro e w2 h
      have h2 := h.from (only_of_below hbl (some z))
      rw [HF.out] at h2
      have H := Lib.hid h2
      obtain ⟨rfl, _⟩ := h
      go_wp2_with fail
      go_ret
      exact H.out
set_option maxHeartbeats 2000000 in
theorem xor_c2 (z p q n m : Nat) (W : World) (hz : Slot W z) (hp : Num W p n) (hq : Num W q m) (hn : (digs m).length ≤ 35184372088832) (hm : (digs n).length < (digs m).length) :
    Calls Try.prog 32 #[.pointer (some ⟨z, 0, none⟩), .pointer (some ⟨p, 0, none⟩), .pointer (some ⟨q, 0, none⟩)] W (Trimmed z (n ^^^ m) W) := by
  obtain ⟨A, cap, c0, c1, hcap, hd⟩ := hp.facts
  obtain ⟨B, capB, e0, e1, hcapB, he⟩ := hq.facts
  obtain ⟨s, A', l', c', z0, z1, f0, f1, hlt⟩ := hz.facts
  have hbn : decide ((digs n).length < (digs m).length) = true := by simp; omega
  have hfin : val (xs (digs m) (digs n)) = n ^^^ m := by rw [xs_val _ _ (by omega), val_digs, val_digs, Nat.xor_comm]
  have HF := Lib.hid hfin
  clear hfin
  clear hp hq
  generalize digs m = a at *
  generalize digs n = b at *
  go_enter Try.func32, Try.ntmps32
  go_wp2
  go_quiet (fail)
  go_wp2_with (at_builtin; go_loud (refine wpList_append_digs _ rfl (.tmp 27) (.tmp 28) rfl W.heap.size capB B a rfl rfl (Blk.new (W.drewN nq) _ _) (he.keep fun g cs h => (Blk.drewN h nq).alloc _) hn ?_); intro g cap' w1 hc1 hrow hgr hge)
  go_loopw [32] (fun i wr => ∃ k : Nat, k ≤ b.length ∧ i = .int .i64 k ∧ RoundXor W g (part (xs a b) a k) wr) (fun i _ => b.length - (intOf i).toNat)
  case atStart => exact ⟨0, Nat.zero_le _, rfl, below_of_new (only_trans (only_alloc (only_drewN (only_refl W (some W.heap.size)) nq) (.cells #[] 71)) hgr) (Nat.le_refl _) (Nat.le_refl _), by rw [part_zero]; exact hrow⟩
  case round =>
    obtain ⟨k, hk, rfl, hR⟩ := hrel
    by_cases hlt2 : k < b.length
    · obtain ⟨hbl, hRow⟩ := hR
      obtain ⟨g2, cs2, y, rfl, hbk, hy, hcy⟩ := hd.at_ hlt2
      have hx : a[k]? = some a[k] := List.getElem?_eq_getElem (by omega)
      obtain ⟨x, hxe⟩ : ∃ x, a[k] = x := ⟨_, rfl⟩
      rw [hxe] at hx
      have hcy' : wr.cell? ⟨g2, k, none⟩ = some (.int .u32 y.toNat) := (hbl.cell (p := ⟨g2, k, none⟩) hbk.lt).trans hcy
      have hcx : wr.cell? ⟨g, k, none⟩ = some (.int .u32 x.toNat) := hRow.at_ (by rw [part_at (xs_len a b) (by omega)]; exact hx)
      have hfx : wr.frozen? ⟨g, k, none⟩ = false := hRow.frozen k
      have hka : k < a.length := by omega
      have HX := Lib.hid hx
      have HY := Lib.hid hy
      clear hx hy hxe hcy
      go_wp2
      go_roundw
      case rel =>
        refine ⟨k + 1, by omega, by go_num, hbl.setCell (by simp; omega) _, ?_⟩
        rw [← part_set (xs_len a b) (xs_at a b k x y HX.out HY.out)]
        exact hRow.put_ k _ (by rw [part_len (xs_len a b)]; exact hka)
      case measure => simp [intOf]; omega
    · have hke : k = b.length := by omega
      subst hke
      obtain ⟨hbl, hRow⟩ := hR
      rw [xs_part] at hRow
      have hz1 := hz.below hbl
      obtain ⟨s1, A1, l1, cc1, y0, y1, k0, k1, hlt1⟩ := hz1.facts
      go_wp2_with fail
      have key := stored_trim hz1 (A := some ⟨g, 0, none⟩) (ds := xs a b) (cap := cap') hRow.dig (by rw [xs_len]; exact hc1) (by rw [xs_len]; omega)
      rw [xs_len] at key
      refine key.mono ?_
      intro e w2 h
      have h2 := h.from (only_of_below hbl (some z))
      rw [HF.out] at h2
      have H := Lib.hid h2
      obtain ⟨rfl, _⟩ := h
      go_wp2_with fail
      go_ret
      exact H.out

theorem digs_mono {a b : Nat} (h : a ≤ b) : (digs a).length ≤ (digs b).length := by
  have h1 := val_lt (digs b)
  rw [val_digs] at h1
  exact digs_len (by omega)

/-- Whichever is the longer. -/
theorem xor_any (z p q n m : Nat) (W : World) (hz : Slot W z) (hp : Num W p n) (hq : Num W q m) (hn : (digs n).length ≤ 35184372088832) (hm : (digs m).length ≤ 35184372088832) :
    Calls Try.prog 32 #[.pointer (some ⟨z, 0, none⟩), .pointer (some ⟨p, 0, none⟩), .pointer (some ⟨q, 0, none⟩)] W (Trimmed z (n ^^^ m) W) := by
  rcases Nat.lt_or_ge (digs n).length (digs m).length with h | h
  · exact xor_c2 z p q n m W hz hp hq hm h
  · exact xor_c z p q n m W hz hp hq hn h
end Go.Proofs.Ytahhgeecikljdaa.Big
