/-
  Package curve: addMultiple, without, holdsTwice.
-/
import Derived.Test.YtjfaadelhkjpfaaCurveA
import Derived.Test.YtjfaadelhkjpfaaCurvePure
import Derived.Test.YtjfaadelhkjpfaaBytesFns
namespace Go.Proofs.Ytjfaadelhkjpfaa.Poly
set_option linter.unusedVariables false
open Go.RowKit Gf Mem
attribute [local go_sem] xor8_nat

/-- Block g, of elements of type t, holds the bytes l. -/
def OwnT (W : World) (g : Nat) (t : TypeId) (l : List UInt8) : Prop := Known W g t (l.map byt).toArray
section
variable {W V : World} {g : Nat} {t : TypeId} {l : List UInt8}
theorem OwnT.lt (h : OwnT W g t l) : g < W.heap.size := Known.lt h
theorem OwnT.at_ (h : OwnT W g t l) {k : Nat} {x : UInt8} (hk : l[k]? = some x) : W.cell? ⟨g, k, none⟩ = some (.int .u8 (x.toNat : Int)) := by
  rw [Known.cell h]; simp [hk, byt]
theorem OwnT.free (h : OwnT W g t l) (k : Nat) : W.frozen? ⟨g, k, none⟩ = false := Known.free h k
theorem OwnT.put (h : OwnT W g t l) (k : Nat) (x : UInt8) : OwnT (W.setCell ⟨g, k, none⟩ (.int .u8 (x.toNat : Int))) g t (l.set k x) := by
  have := Known.put h k (.int .u8 (x.toNat : Int))
  unfold OwnT
  rw [List.map_set]
  simpa [byt] using this
theorem OwnT.later (h : OwnT W g t l) (hb : Below W.heap.size W V) : OwnT V g t l := Known.later h hb
theorem OwnT.drew (h : OwnT W g t l) : OwnT W.drew g t l := h
theorem OwnT.drawn (h : OwnT W g t l) (hd : Drawn W V) : OwnT V g t l := Known.drawn h hd
theorem OwnT.alloc (h : OwnT W g t l) (o : Obj) : OwnT (W.alloc o) g t l := Known.alloc h o
theorem OwnT.reads (h : OwnT W g t l) : Reads W (some ⟨g, 0, none⟩) (l.map byt) := fun k v hv => by
  refine ⟨g, 0, rfl, h.lt, ?_⟩
  rw [Nat.zero_add, Known.cell h]; simpa using hv
end
section
variable {w w1 w2 : World} {row : Option Nat} {g : Nat}
theorem grown_refl (w : World) (row : Option Nat) : w.grownBy w row := ⟨rfl, rfl, rfl, Nat.le_refl _, fun _ _ _ => rfl⟩
theorem grown_trans (h : w.grownBy w1 row) (k : w1.grownBy w2 row) : w.grownBy w2 row :=
  ⟨k.os.trans h.os, k.tape.trans h.tape, k.output.trans h.output, Nat.le_trans h.size k.size, fun b hb hr => (k.block b (Nat.lt_of_lt_of_le hb h.size) hr).trans (h.block b hb hr)⟩
theorem grown_set (h : w.grownBy w1 (some g)) (k : Nat) (u : Value) : w.grownBy (w1.setCell ⟨g, k, none⟩ u) (some g) :=
  ⟨h.os, h.tape, h.output, by simpa [World.setCell] using h.size, fun b hb hr => (Below.heap_setCell w1 ⟨g, k, none⟩ u b (fun e => hr (congrArg some e))).trans (h.block b hb hr)⟩
theorem grown_drew (h : w.grownBy w1 row) : w.grownBy w1.drew row := ⟨h.os, h.tape, h.output, h.size, h.block⟩
end

/-- What addMultiple leaves: block g holds l, and nothing else turned. -/
def Added (W : World) (g : Nat) (t : TypeId) (l : List UInt8) (e : Ending) (W' : World) : Prop := e = .returned (.tuple #[]) ∧ OwnT W' g t l ∧ W.grownBy W' (some g)
theorem mul_r (a b : UInt8) (W : World) : Calls Try.prog 20 #[.int .u8 a.toNat, .int .u8 b.toNat] W fun e W' => e = .returned (.int .u8 (mul a b).toNat) ∧ W' = W :=
  (mul_c a b W).mono fun _ _ h => ⟨h.1, h.2.symm⟩
set_option maxHeartbeats 2000000 in
theorem addm_c (g off : Nat) (t : TypeId) (l q : List UInt8) (n c1 : Nat) (B : Option Addr) (c2 : Nat) (f : UInt8) (W : World) (hO : OwnT W g t l) (hq : Reads W B (q.map byt)) (hB : ∀ a, B = some a → a.block ≠ g)
    (hn : q.length ≤ n) (ho : off + q.length ≤ l.length) (hm : n ≤ 281474976710656) :
    Calls Try.prog 26 #[.slice (some ⟨g, off, none⟩) n c1, .slice B q.length c2, .int .u8 f.toNat] W (Added W g t (addm l off q f)) := by
  by_cases hf : f = 0
  · subst hf
    rw [addm_zero ho]
    go_enter Try.func26, Try.ntmps26
    go_wp2
    go_end0
    exact ⟨rfl, hO, grown_refl _ _⟩
  · have b1 : ((f.toNat : Int) == 0) = false := by
      rw [beq_eq_false_iff_ne]; intro e; exact hf (UInt8.toNat_inj.1 (by show f.toNat = 0; omega))
    have HO := Lib.hid hO
    have HQ := Lib.hid hq
    have HB := Lib.hid hB
    have HO2 := Lib.hid ho
    have HZ := Lib.hid (addm_nil l off f (by omega))
    clear hf hO hq hB ho
    generalize hN : q.length = m at *
    have HN := Lib.hid hN
    clear hN
    go_enter Try.func26, Try.ntmps26
    go_wp2
    go_loopw [12] (fun i wr => ∃ k : Nat, k ≤ m ∧ i = .int .i64 k ∧ OwnT wr g t (addm l off (q.take k) f) ∧ W.grownBy wr (some g)) (fun i _ => m - (intOf i).toNat)
    case atStart => exact ⟨0, by omega, rfl, by rw [List.take_zero, HZ.out]; exact HO.out, grown_refl _ _⟩
    case round =>
      obtain ⟨k, hk, rfl, hO, hG⟩ := hrel
      have HO1 := Lib.hid hO
      have HG := Lib.hid hG
      clear hO hG
      by_cases hlt : k < m
      · obtain ⟨b, o, c, rfl, ec, cc⟩ := (HQ.out.grown HG.out (fun a ha e => HB.out a ha (by injection e))).bytes (k := k) (by rw [HN.out]; exact hlt)
        have cs := HO1.out.at_ (addm_at (l := l) (q := q) (off := off) f (by rw [HN.out]; exact HO2.out) (by rw [HN.out]; exact hlt))
        have fs := HO1.out.free (off + k)
        have EC := Lib.hid (addm_next (l := l) (off := off) f (by rw [HN.out]; exact HO2.out) ec)
        have i1 : (k : Int) < (n : Int) := by omega
        clear ec
        go_wp2
        refine Mem.region_tail 9 (by kernel_rfl) (by kernel_rfl) ?_
        simp only [List.take_succ_cons, List.take_zero, List.drop_succ_cons, List.drop_zero]
        repeat (first | (refine wpStill_step (fun K hK => ?_); go_simp; (refine ⟨_, mul_r _ _ _, hK _ ?_⟩); clear hK K) | still_step)
        refine wpStill_nil ?_
        go_wp2
        go_roundw
        case rel => exact ⟨k + 1, by omega, by go_num, by rw [← EC.out]; exact (HO1.out.put (off + k) _).drew, grown_drew (grown_set HG.out _ _)⟩
        case measure => simp [intOf]; omega
      · obtain rfl : k = m := by omega
        go_wp2
        go_end0
        have h := HO1.out
        rw [List.take_of_length_le (by rw [HN.out]; exact Nat.le_refl _)] at h
        exact ⟨rfl, h, HG.out⟩

set_option maxHeartbeats 2000000 in
theorem without_c (A : Option Addr) (p : List UInt8) (cap : Nat) (x : UInt8) (hp0 : 0 < p.length) (hl : p.length ≤ 281474976710656) (W : World) (hp : Reads W A (p.map byt)) :
    Calls Try.prog 33 #[.slice A p.length cap, .int .u8 x.toNat] W (Gives (quo p x) W) := by
  obtain ⟨n, hN⟩ : ∃ n, p.length = n + 1 := ⟨p.length - 1, by omega⟩
  have hmk := make8 n (by omega)
  have hmade := Own.made W n
  have htop := quoFrom_top p x
  rw [hN] at htop
  rw [show n + 1 - 1 = n from rfl] at htop
  rw [← htop] at hmade
  have HM := Lib.hid hmade
  have HP := Lib.hid hp
  have HD := Lib.hid (ev_dropped (p := p) (Nat.le_refl _) x)
  have e1 : ((n + 1 : Nat) : Int) - 1 = (n : Int) := by omega
  clear hmade hp htop
  rw [hN] at hl ⊢
  have HN := Lib.hid hN
  clear hN hp0
  go_enter Try.func33, Try.ntmps33
  go_wp2
  go_loopw [6, 7] (fun c i wr => ∃ k : Nat, k ≤ n ∧ i = .int .i64 k ∧ c = .int .u8 (ev (p.drop (k + 1)) x).toNat ∧ Own wr W.heap.size (quoFrom p x k) ∧ Below W.heap.size W wr) (fun _ i _ => (intOf i).toNat)
  case atStart => exact ⟨n, by omega, rfl, by rw [← HN.out, HD.out]; rfl, HM.out, (Below.refl _ _).alloc (Nat.le_refl _) _⟩
  case round =>
    obtain ⟨k, hk, rfl, rfl, hO, hB⟩ := hrel
    have HO := Lib.hid hO
    have HB := Lib.hid hB
    clear hO hB
    rcases k with _ | k
    · go_wp2
      go_ret
      have hlen : (quo p x).length = n := by rw [len_quo, HN.out]; rfl
      refine ⟨some ⟨W.heap.size, 0, none⟩, n, ?_, by omega, HO.out.reads, HB.out, fun a ha => by injection ha with ha; subst ha; exact Nat.le_refl _⟩
      rw [hlen]; rfl
    · obtain ⟨b, o, c, rfl, ec, cc⟩ := (HP.out.below HB.out).bytes (k := k + 1) (by rw [HN.out]; omega)
      have ED := Lib.hid (ev_drop x ec)
      have EN := Lib.hid (quoFrom_next (p := p) (x := x) (k := k) (by rw [HN.out]; omega))
      have fs := HO.out.free k
      have cs := HO.out.at_ (quoFrom_at (p := p) (x := x) (k := k) (by rw [HN.out]; omega))
      have i1 : ((k + 1 : Nat) : Int) < ((n + 1 : Nat) : Int) := by omega
      have i2 : ((k + 1 : Nat) : Int) - 1 = (k : Int) := by omega
      have i3 : (k : Int) < (n : Int) := by omega
      clear ec
      go_wp2
      go_quiet ((go_at_call 20; exact quiet_l (mul_c _ _ _)))
      go_wp2
      go_roundw
      case rel => exact ⟨k, by omega, rfl, by rw [ED.out], by rw [← EN.out, ED.out]; exact (HO.out.drawn ⟨_, rfl⟩).put k _, (below_drewN HB.out _).setCell (Nat.le_refl _) _⟩
      case measure => simp [intOf]

/-- Which bytes stand in l. -/
def marks (l : List UInt8) : Array Value := Array.ofFn (n := 256) fun i => .bool (decide (UInt8.ofNat i.val ∈ l))
theorem marks_nil : marks [] = Array.replicate 256 (.bool false) := by
  apply Array.ext_getElem?
  intro i
  unfold marks
  rw [Array.getElem?_ofFn, Array.getElem?_replicate]
  split <;> simp
theorem marks_at (l : List UInt8) (x : UInt8) : (marks l)[x.toNat]? = some (.bool (decide (x ∈ l))) := by
  unfold marks
  rw [Array.getElem?_ofFn, dif_pos x.toNat_lt]
  simp
theorem marks_put (l : List UInt8) (x : UInt8) : (marks l).setIfInBounds x.toNat (.bool true) = marks (l ++ [x]) := by
  apply Array.ext_getElem?
  intro i
  rw [Array.getElem?_setIfInBounds]
  have hx := x.toNat_lt
  unfold marks
  rw [Array.getElem?_ofFn, Array.getElem?_ofFn]
  by_cases h : i < 256
  · rw [dif_pos h, dif_pos h]
    by_cases e : x.toNat = i
    · subst e
      rw [if_pos rfl, if_pos (by simpa using h)]
      simp
    · rw [if_neg e]
      have : ¬ UInt8.ofNat i = x := fun e2 => e (by rw [← e2, UInt8.toNat_ofNat']; omega)
      simp [this]
  · rw [dif_neg h, dif_neg h]
    have : ¬ x.toNat = i := by omega
    rw [if_neg this]
/-- What holdsTwice answers. -/
def Twice (xs : List UInt8) (W : World) (e : Ending) (W' : World) : Prop := (xs.Nodup ∧ e = .returned (.bool false) ∨ ¬ xs.Nodup ∧ e = .returned (.bool true)) ∧ Below W.heap.size W W'
set_option maxHeartbeats 2000000 in
set_option maxRecDepth 100000 in
theorem twice_c (A : Option Addr) (xs : List UInt8) (cap : Nat) (hl : xs.length ≤ 281474976710656) (W : World) (hp : Reads W A (xs.map byt)) :
    Calls Try.prog 27 #[.slice A xs.length cap] W (Twice xs W) := by
  have HP := Lib.hid hp
  clear hp
  generalize hN : xs.length = n at *
  have HN := Lib.hid hN
  clear hN
  go_enter Try.func27, Try.ntmps27
  have hz : ∀ w : World, (zeroValue 39).run Try.prog w = .ok (.agg (Array.replicate 256 (.bool false))) w := fun _ => by kernel_rfl
  go_wp2
  go_loopw [8] (fun i wr => ∃ k : Nat, k ≤ n ∧ i = .int .i64 k ∧ (xs.take k).Nodup ∧ Known wr W.heap.size 39 (marks (xs.take k)) ∧ Below W.heap.size W wr) (fun i _ => n - (intOf i).toNat)
  case atStart => exact ⟨0, by omega, rfl, by simp, by rw [List.take_zero, marks_nil]; exact Known.made W _ _, (Below.refl _ _).alloc (Nat.le_refl _) _⟩
  case round =>
    obtain ⟨k, hk, rfl, hD, hK, hB⟩ := hrel
    have HK := Lib.hid hK
    have HB := Lib.hid hB
    have HD := Lib.hid hD
    clear hK hB hD hz
    by_cases hlt : k < n
    · obtain ⟨b, o, x, rfl, ex, cx⟩ := (HP.out.below HB.out).bytes (k := k) (by rw [HN.out]; exact hlt)
      have cm := (HK.out.cell x.toNat).trans (marks_at _ _)
      have fm := HK.out.free x.toNat
      have hx := x.toNat_lt
      have EX := Lib.hid ex
      clear ex
      by_cases hm : x ∈ xs.take k
      · rw [decide_eq_true hm] at cm
        have HM := Lib.hid hm
        clear hm
        go_wp2
        go_ret
        exact ⟨.inr ⟨fun h => nodup_not_mem h EX.out HM.out, rfl⟩, HB.out⟩
      · rw [decide_eq_false hm] at cm
        have HM := Lib.hid hm
        clear hm
        go_wp2
        go_roundw
        case rel => exact ⟨k + 1, by omega, by go_num, nodup_take_succ HD.out EX.out HM.out, by rw [take_next EX.out, ← marks_put]; exact HK.out.put _ _, HB.out.setCell (Nat.le_refl _) _⟩
        case measure => simp [intOf]; omega
    · obtain rfl : k = n := by omega
      go_wp2
      go_ret
      have h := HD.out
      rw [List.take_of_length_le (by rw [HN.out]; exact Nat.le_refl _)] at h
      exact ⟨.inl ⟨h, rfl⟩, HB.out⟩
end Go.Proofs.Ytjfaadelhkjpfaa.Poly
