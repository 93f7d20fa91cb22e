/-
  bytes.Repeat of one byte.
-/
import Derived.Test.YtpjopdemhdeelaaBytesFns
import Derived.Test.YtpjopdemhdeelaaSl
import Derived.Lib.MakeNoZero
import Derived.Laws.Externs
import Derived.Laws.CopyOwn
import Derived.Deep.RegionLaw
import Derived.Deep.RegionHeld3
import Derived.Deep.DrawnRows
import Derived.Deep.DeepCutAuto
namespace Go.Proofs.Ytpjopdemhdeelaa.Mem
set_option linter.unusedVariables false
open Go.RowKit

theorem mul1_c (n : Nat) (hn : n < 18446744073709551616) (W : World) : Calls Try.prog 36 #[.int .u64 1, .int .u64 n] W fun e W' => e = .returned (.tuple #[.int .u64 0, .int .u64 n]) ∧ W = W' := by
  have h := Try.bits_Mul 1 n (by omega) hn W
  rw [Nat.one_mul, Nat.div_eq_of_lt hn, Nat.mod_eq_of_lt hn] at h
  exact h.mono fun _ _ k => ⟨k.1, k.2.symm⟩
theorem filled {ds : List Value} {v : Value} {k m : Nat} (h : ∀ j, j < k → ds[j]? = some v) (hk : k + m ≤ ds.length) : ∀ j, j < k + m → (splice ds k (List.replicate m v))[j]? = some v := fun j hj => by
  unfold splice
  rcases Nat.lt_or_ge j k with h1 | h1
  · rw [List.getElem?_append_left (by rw [List.length_take]; omega), List.getElem?_take_of_lt h1]; exact h j h1
  · have hl : (ds.take k).length = k := by rw [List.length_take]; omega
    rw [List.getElem?_append_right (by omega), hl, List.getElem?_append_left (by rw [List.length_replicate]; omega), List.getElem?_replicate, if_pos (by omega)]
theorem reps_map (n : Nat) (x : UInt8) : (List.replicate n x).map byt = List.replicate n (byt x) := List.map_replicate
theorem reads_filled {W : World} {g n : Nat} {t : TypeId} {ds : List Value} {x : UInt8} (hK : Known W g t ds.toArray) (h : ∀ j, j < n → ds[j]? = some (byt x)) : Reads W (some ⟨g, 0, none⟩) ((List.replicate n x).map byt) := fun k v hv => by
  rw [reps_map, List.getElem?_replicate] at hv
  split at hv
  · rename_i hk
    injection hv with hv; subst hv
    exact ⟨g, 0, rfl, hK.lt, by rw [Nat.zero_add, hK.cell]; simpa using h k hk⟩
  · cases hv
def Reps (n : Nat) (x : UInt8) (W : World) (e : Ending) (W' : World) : Prop :=
  ∃ (A : Option Addr) (c : Nat), e = .returned (.slice A n c) ∧ n ≤ c ∧ Reads W' A ((List.replicate n x).map byt) ∧ Below W.heap.size W W' ∧ ∀ a, A = some a → W.heap.size ≤ a.block
theorem size8 : (Try.prog.info? 5).map (·.size) = some 1 := by
  obtain ⟨i, z, hi, hz0, hz1, _⟩ := elem8.hi
  rw [hi, Option.map_some, hz1]
/-- What a row is that begins with k bytes x, k + m of them. -/
structure FillTo (w : World) (g n k c m : Nat) (ds : List Value) (x : UInt8) (B : Nat) (w0 : World) : Prop where
  min : Nat.min c (n - k) = m
  known : Known w g 5 ds.toArray
  full : ∀ j, j < k → ds[j]? = some (byt x)
  few : m ≤ k
  fit : k + m ≤ ds.length
  below : Below B w0 w
  own : B ≤ g
/-- 'copy(nb[bp:], nb[:chunk])' as a step of a region that draws. -/
theorem step_copy_fill {ops : Array Oper} {o : Oper} {a : Act} {w : World} {K : Act → World → Prop} {Q : Exit → Act → World → Prop} {E : Prop} (hgd : o.guard = none) (d s : Operand)
    (ho : o.op = .call { callee := .builtin .copy, args := #[d, s], argTypes := #[23, 23] }) (g n k c m dc sc : Nat) (ds : List Value) (x : UInt8) (hd : a.eval d = .slice (some ⟨g, k, none⟩) (n - k) dc) (hs : a.eval s = .slice (some ⟨g, 0, none⟩) c sc)
    {B : Nat} {w0 : World} (F : FillTo w g n k c m ds x B w0)
    (h : ∀ w', Hid (Known w' g 5 (splice ds k (List.replicate m (byt x))).toArray) → Hid (Below B w0 w') → K (a.put o.dst (.int .i64 m)) w') :
    if Region.wanted o (yielded ops a.tmps) = true then Oper.wp Try.prog o a w K Q else E := by
  refine step_copy_splice hgd d s 23 23 ho 5 elem8.ht size8 (some ⟨g, k, none⟩) (some ⟨g, 0, none⟩) (n - k) dc c sc hd hs g k ds 5 F.known (List.replicate m (byt x)) (by rw [List.length_replicate, F.min]) (fun _ => ⟨rfl, _, rfl, fun j v hv => ?_⟩) (by rw [List.length_replicate]; exact F.fit) (fun v hv => by rw [List.eq_of_mem_replicate hv]; rfl) B w0 F.below F.own ?_
  · rw [List.getElem?_replicate] at hv
    split at hv
    · rename_i hj
      injection hv with hv; subst hv
      have := F.few
      rw [Addr.add_lit, Nat.zero_add]
      exact (F.known.cell j).trans (by simpa using F.full j (by omega))
    · cases hv
  · intro w' h1 h2
    have := h w' h1 h2
    rwa [show goInt (List.replicate m (byt x)).length = Value.int .i64 (m : Int) by rw [List.length_replicate]; rfl]
theorem min_nat (a b : Nat) : min (a : Int) (b : Int) = ((min a b : Nat) : Int) := by omega
set_option maxRecDepth 100000 in
set_option maxHeartbeats 2000000 in
theorem repeat_c (g : Nat) (x : UInt8) (n : Nat) (hn : n ≤ 140737488351232) (W : World) (hO : Own W g [x]) : Calls Try.prog 20 #[.slice (some ⟨g, 0, none⟩) 1 1, .int .i64 n] W (Reps n x W) := by
  by_cases h0 : n = 0
  · subst h0
    go_enter Try.func20, Try.ntmps20
    go_wp2
    go_ret
    exact ⟨some ⟨W.heap.size, 0, none⟩, 0, rfl, Nat.le_refl _, Reads.nil, (Below.refl _ _).alloc (Nat.le_refl _) _, fun a ha => by injection ha with ha; subst ha; exact Nat.le_refl _⟩
  · have t1 : ((n : Int) == 0) = false := by rw [beq_eq_false_iff_ne]; omega
    have hm := mul1_c n (by omega) W
    have HM := Lib.hid hm
    have HO := Lib.hid hO
    obtain ⟨cs, hrunM, hle, _⟩ := Lib.run_makeNoZero (P := Try.prog) W #[3] 23 5 Try.underlying23 n (by omega)
    have hcall : (callFunc 37 #[.int .i64 (n : Int)]).run Try.prog W = .ok (.value (.slice (some ⟨W.heap.size, 0, none⟩) n cs.size)) ((W.alloc (.cells cs 5)).drewN 2) := by
      rw [run_callFunc_extern Try.func37 (by kernel_rfl) (by kernel_rfl) (by kernel_rfl) (e := Extern.BytealgMakeNoZero.makeNoZero #[3] #[23]) (by kernel_rfl), hrunM]
      rfl
    clear hrunM hm hO
    have i1 : (n : Int) ≤ (cs.size : Int) := by omega
    go_enter Try.func20, Try.ntmps20
    go_wp2_with fail
    refine HM.out.mono ?_
    rintro e w' ⟨rfl, rfl⟩
    go_upto_if 42 with fail
    go_cut [8] (fun m wx => ∃ M : Nat, m = .int .i64 M ∧ 1 ≤ M ∧ W = wx)
    case first =>
      by_cases hb : n ≤ 8192
      · have j1 : ¬ (8192 : Int) < (n : Int) := by omega
        go_wp2
        go_meet
        exact ⟨n, rfl, by omega, rfl⟩
      · have j1 : (8192 : Int) < (n : Int) := by omega
        go_wp2
        go_meet
        exact ⟨8192, rfl, by omega, rfl⟩
    case rest =>
      obtain ⟨M, rfl, hM1, rfl⟩ := hcut
      have hsz : (Try.prog.info? 5).map (·.size) = some 1 := by
        obtain ⟨i, z, hi, hz0, hz1, _⟩ := elem8.hi
        rw [hi, Option.map_some, hz1]
      have hK0 : Known ((W.alloc (.cells cs 5)).drewN 2) W.heap.size 5 cs.toList.toArray := by
        rw [Array.toArray_toList]; exact Known.made W 5 cs
      have hB0 : Below W.heap.size W ((W.alloc (.cells cs 5)).drewN 2) := below_drewN ((Below.refl _ _).alloc (Nat.le_refl _) _) 2
      have hO0 : ((W.alloc (.cells cs 5)).drewN 2).cell? ⟨g, 0, none⟩ = some (byt x) := by
        have := (HO.out.alloc (.cells cs 5)).at_ (k := 0) (x := x) rfl
        exact this
      have HSZ := Lib.hid hsz
      have HK0 := Lib.hid (show ((W.alloc (.cells cs 5)).drewN 2).heap[W.heap.size]? = some (.cells cs.toList.toArray 5 (0, 0)) from hK0)
      have HB0 := Lib.hid hB0
      have HO0 := Lib.hid hO0
      have LC := Lib.hid (show n ≤ cs.toList.length by rw [Array.length_toList]; exact hle)
      clear hsz hK0 hB0 hO0 HM HO
      go_wp2_with ((with_reducible refine wpList_copy_splice rfl (.tmp 58) (.tmp 59) 23 23 rfl 5 elem8.ht HSZ.out (some ⟨W.heap.size, 0, none⟩) (some ⟨g, 0, none⟩) n n 1 1 rfl rfl W.heap.size 0 cs.toList 5 HK0.out [byt x] ?c1 ?c2 ?c3 ?c4 W.heap.size W HB0.out (Nat.le_refl _) ?_))
      case c1 => simp [Nat.min_def]; omega
      case c2 =>
        intro j v hv
        cases j with
        | zero => simp at hv; subst hv; exact HO0.out
        | succ j => simp at hv
      case c3 => have := LC.out; simp; simp at this; omega
      case c4 => intro v hv; simp at hv; subst hv; rfl
      intro w1 hK1 hB1
      have HK1 := Lib.hid (show Known w1 W.heap.size 5 (splice cs.toList 0 (List.replicate 1 (byt x))).toArray from hK1.out)
      have HB1 := Lib.hid hB1
      have HF1 := Lib.hid (filled (ds := cs.toList) (v := byt x) (k := 0) (m := 1) (fun j hj => absurd hj (by omega)) (by have := LC.out; omega))
      have LC1 := Lib.hid (show n ≤ (splice cs.toList 0 (List.replicate 1 (byt x))).length by rw [length_splice _ _ _ (by have := LC.out; simp; simp at this; omega)]; exact LC.out)
      clear hK1 hB1 HK0 HB0 HO0
      generalize splice cs.toList 0 (List.replicate 1 (byt x)) = ds0 at *
      clear hcall hle i1 LC
      go_wp2
      go_loopw [10] (fun s wr => ∃ (k : Nat) (ds : List Value), 1 ≤ k ∧ k ≤ n ∧ s = .int .i64 k ∧ Known wr W.heap.size 5 ds.toArray ∧ n ≤ ds.length ∧ (∀ j, j < k → ds[j]? = some (byt x)) ∧ Below W.heap.size W wr) (fun s _ => n - (intOf s).toNat)
      case atStart => exact ⟨1, ds0, by omega, by omega, rfl, HK1.out, LC1.out, HF1.out, HB1.out⟩
      case round =>
        obtain ⟨k, ds, hk1, hkn, rfl, hK, hL, hF, hB⟩ := hrel
        have HK := Lib.hid hK
        have HL := Lib.hid hL
        have HF := Lib.hid hF
        have HB := Lib.hid hB
        clear hK hL hF hB HK1 HB1 HF1 LC1
        by_cases hlt : k < n
        · have hmin := min_nat k M
          have hc1 : min k M ≤ k := Nat.min_le_left _ _
          have hc0 : 1 ≤ min k M := by omega
          generalize min k M = c at *
          have i1 : (c : Int) ≤ (n : Int) := by omega
          have i2 : (k : Int) ≤ (n : Int) := by omega
          have i3 : ¬ n = k := by omega
          obtain ⟨m, hm⟩ : ∃ m, Nat.min c (n - k) = m := ⟨_, rfl⟩
          have hm1 : 1 ≤ m := by rw [← hm]; show 1 ≤ min c (n - k); omega
          have hm3 : m ≤ c := by rw [← hm]; exact Nat.min_le_left _ _
          have hm2 : k + m ≤ n := by rw [← hm]; show k + min c (n - k) ≤ n; omega
          have HWR := Lib.hid (show IntKind.i64.wrap ((k : Int) + (m : Int)) = (k : Int) + (m : Int) from IntWalk.i64_in _ (by omega))
          have HFT := Lib.hid (show FillTo wr.drew W.heap.size n k c m ds x W.heap.size W from ⟨hm, HK.out, HF.out, by omega, by have := HL.out; omega, below_drew HB.out, Nat.le_refl _⟩)
          have HF2 := Lib.hid (filled (m := m) HF.out (by have := HL.out; omega))
          have HL3 := Lib.hid (show n ≤ (splice ds k (List.replicate m (byt x))).length by rw [length_splice _ _ _ (by rw [List.length_replicate]; have := HL.out; omega)]; exact HL.out)
          clear hm
          go_wp2
          clear hmin
          have hw := HWR.out
          go_region_held3 (fun w' => True) (first | trivial | go_keep)
            (first | (refine step_copy_fill (by rfl) (.tmp 70) (.tmp 73) (by rfl) W.heap.size n k c m (n - k) n ds x (by rfl) (by rfl) HFT.out ?_; intro w4 hK4 hB4))
          clear hw
          go_wp2
          go_roundw
          case rel => exact ⟨k + m, _, by omega, by omega, by congr 1, hK4.out, HL3.out, HF2.out, hB4.out⟩
          case measure => simp [intOf]; omega
        · obtain rfl : k = n := by omega
          go_wp2
          go_ret
          exact ⟨some ⟨W.heap.size, 0, none⟩, k, rfl, Nat.le_refl _, reads_filled HK.out HF.out, HB.out, fun a ha => by injection ha with ha; subst ha; exact Nat.le_refl _⟩
end Go.Proofs.Ytpjopdemhdeelaa.Mem
