/-
  The document's own answer: MDual; slices.Equal of sets.
-/
import Derived.Test.YteggbepibfpjcaaQrRef2
namespace Go.Proofs.Yteggbepibfpjcaa.Qr
set_option linter.unusedVariables false
set_option linter.unusedSimpArgs false
open Go.RowKit Mem

/-- A set shares somebody with each of a list. -/
def allShare (l : List Nat) (s : Nat) : Bool := l.all (fun x => share x s)
theorem allShare_meets (l : List Nat) (s : Nat) : allShare l s = meets l s := by
  unfold allShare meets share
  rw [Bool.eq_iff_iff, List.all_eq_true, decide_eq_true_iff]
  simp
theorem share_step {l : List Nat} {j x s : Nat} (h : l[j]? = some x) : allShare (l.take (j + 1)) s = (allShare (l.take j) s && share x s) := by
  unfold allShare
  rw [List.take_add_one, h, List.all_append]
  simp
set_option maxRecDepth 100000 in
set_option maxHeartbeats 8000000 in
theorem mdual_c (m : Nat) (A : Option Addr) (l : List Nat) (n ca : Nat) (W : World) (hm : m ≤ 16) (hn : l.length = n) (hbig : n ≤ 1000000) (hx : Reads W A (l.map w16)) (hf : Fits l) (l0 : List Nat) (n0 : Nat) (hl0 : dual m l = l0) (hn0 : l0.length = n0) :
    Calls Try.prog 23 #[.int .i64 m, .slice A n ca] W (SetsOut l0 n0 W) := by
  have HX := Lib.hid hx
  have HN := Lib.hid hn
  have HF := Lib.hid hf
  obtain ⟨p, hp⟩ : ∃ p, p = 2 ^ m := ⟨_, rfl⟩
  have p6 : p ≤ 65536 := by rw [hp]; exact two_pow_16 hm
  have wp : IntKind.i64.wrap (2 ^ m) = (p : Int) := by rw [show (2 : Int) ^ m = (p : Int) by rw [hp]; simp]; exact IntWalk.i64_in _ (by omega)
  have ML := Lib.hid (fun V A' k c' (hk : (rise p (meets l)).length = k) (hr : Reads V A' ((rise p (meets l)).map w16)) => mleast_c A' (rise p (meets l)) k c' V hk (by rw [← hk]; have := rise_len p (meets l); omega) hr (fun s hs => by have := (mem_rise.1 hs).1; omega) l0 n0 (by rw [hp]; exact hl0) hn0)
  have RS := Lib.hid (fun k => rise_succ k (meets l))
  clear hx hn hf hl0 hn0 hp
  go_enter Try.func23, Try.ntmps23
  go_wp2
  go_loopw [5, 12] (fun v i wr => ∃ (k q : Nat) (D : Option Addr) (dc : Nat), k ≤ p ∧ q ≤ k ∧ i = .int .i64 k ∧ v = .slice D q dc ∧ (rise k (meets l)).length = q ∧ UTab wr W.heap.size (.slice D q dc) (rise k (meets l)) ∧ Below W.heap.size W wr) (fun _ i _ => p - (intOf i).toNat)
  case atStart => exact ⟨0, 0, none, 0, by omega, by omega, rfl, rfl, rfl, UTab.nil _ _, Below.refl _ _⟩
  case round =>
    obtain ⟨k, q, D, dc, hk, hqk, rfl, rfl, hl, hT, hB⟩ := hrel
    have DL := Lib.hid hl
    have ZT := Lib.hid hT
    have BB := Lib.hid hB
    clear hl hT hB
    by_cases hlt : k < p
    · have i1 : (k : Int) < (p : Int) := by omega
      have k6 : k < 65536 := by omega
      have w1 : IntKind.u16.wrap (k : Int) = (k : Int) := wrap16 k6
      obtain ⟨t1, t2⟩ := RS.out k
      have T1 := Lib.hid t1
      have T2 := Lib.hid t2
      obtain ⟨wo, rfl⟩ : ∃ wo : World, wo = wr := ⟨_, rfl⟩
      clear t1 t2
      go_wp2
      go_loopw [7, 17] (fun v i wq => ∃ j : Nat, j ≤ n ∧ i = .int .i64 j ∧ v = .bool (allShare (l.take j) k) ∧ Below wo.heap.size wo wq) (fun _ i _ => n - (intOf i).toNat)
      case atStart => exact ⟨0, by omega, rfl, rfl, Below.refl _ _⟩
      case round =>
        obtain ⟨j, hj, rfl, rfl, hw⟩ := hrel
        have BW := Lib.hid hw
        by_cases hlj : j < n
        · have jl : j < l.length := by rw [HN.out]; exact hlj
          obtain ⟨y, hy⟩ : ∃ y, l[j]? = some y := ⟨_, List.getElem?_eq_getElem jl⟩
          have yf := HF.out y (List.mem_of_getElem? hy)
          obtain ⟨b2, o2, rfl, _, z1⟩ := Reads.at16 (HX.out.below (BB.out.trans (hw.mono BB.out.size))) hy
          have AS := share_step (s := k) hy
          have j1 : (j : Int) < (n : Int) := by omega
          obtain ⟨c, hc⟩ : ∃ c, c = allShare (l.take j) k := ⟨_, rfl⟩
          obtain ⟨d, hd⟩ : ∃ d, share y k = d := ⟨_, rfl⟩
          rw [← hc, hd] at AS
          rw [← hc]
          have MW := Lib.hid (fun V => mshare_c y k V yf k6 d hd)
          have AH := Lib.hid AS
          clear jl hy hc hd AS hw
          cases c with
          | false =>
            go_wp2
            go_roundw
            case rel => exact ⟨j + 1, by omega, by go_num, by rw [AH.out]; rfl, BW.out⟩
            case measure => simp [intOf]; omega
          | true =>
            cases d
            all_goals
              go_wp2_with fail
              refine (MW.out _).mono ?_
              rintro e w2 ⟨rfl, hb⟩
              have B2 := Lib.hid (BW.out.trans (hb.mono BW.out.size))
              clear hb
              go_wp2
              go_roundw
              case rel => exact ⟨j + 1, by omega, by go_num, by rw [AH.out]; rfl, B2.out⟩
              case measure => simp [intOf]; omega
        · obtain rfl : j = n := by omega
          obtain ⟨c, hc⟩ : ∃ c, c = allShare (l.take j) k := ⟨_, rfl⟩
          rw [← hc]
          have HC : meets l k = c := by rw [hc, List.take_of_length_le (by rw [HN.out]; omega), allShare_meets]
          have B2 := Lib.hid (BB.out.trans (hw.mono BB.out.size))
          have Z2 := Lib.hid (ZT.out.later hw)
          clear hw hc
          cases c with
          | false =>
            have EQ := Lib.hid (T2.out HC)
            clear HC
            go_wp2
            go_roundw
            case rel => exact ⟨k + 1, q, D, dc, by omega, by omega, by go_num, rfl, by rw [EQ.out]; exact DL.out, by rw [EQ.out]; exact Z2.out, B2.out⟩
            case measure => simp [intOf]; omega
          | true =>
            have EQ := Lib.hid (T1.out HC)
            clear HC
            go_wp2_with (refine wpList_append_u rfl _ _ (by rfl) (y := (k : Int)) k rfl (B := W.heap.size) (v := .slice D q dc) (l := rise k (meets l)) (n := q) rfl rfl Z2.out DL.out (by omega) B2.out.size B2.out (Nat.le_refl _) ?_; intro A3 c3 w3 Z3 G3 B3)
            go_roundw
            case rel => exact ⟨k + 1, q + 1, A3, c3, by omega, by omega, by go_num, rfl, by rw [EQ.out, List.length_append, DL.out]; rfl, by rw [EQ.out]; exact Z3.out, B3.out⟩
            case measure => simp [intOf]; omega
    · obtain rfl : k = p := by omega
      go_wp2_with fail
      refine (ML.out _ D q dc DL.out ZT.out.reads).mono ?_
      rintro e w2 ⟨A2, c2, rfl, hr, hb⟩
      have R2 := Lib.hid hr
      have B2 := Lib.hid (BB.out.trans (hb.mono BB.out.size))
      clear hr hb
      go_wp2
      go_ret
      exact ⟨A2, c2, rfl, R2.out, B2.out⟩

/-! ### slices.Equal -/
set_option maxRecDepth 100000 in
set_option maxHeartbeats 4000000 in
theorem equal_u (A B : Option Addr) (l : List Nat) (n ca cb : Nat) (W : World) (hn : l.length = n) (hbig : n ≤ 9223372036854775807) (hx : Reads W A (l.map w16)) (hy : Reads W B (l.map w16)) :
    Calls Try.prog 14 #[.slice A n ca, .slice B n cb] W (Gave (.bool true) W) := by
  have HX := Lib.hid hx
  have HY := Lib.hid hy
  have HN := Lib.hid hn
  clear hx hy hn
  go_enter Try.func14, Try.ntmps14
  go_wp2
  go_loopw [13] (fun i wr => ∃ k : Nat, k ≤ n ∧ i = .int .i64 k ∧ Drawn W wr) (fun i _ => n - (intOf i).toNat)
  case atStart => exact ⟨0, by omega, rfl, Drawn.refl _⟩
  case round =>
    obtain ⟨k, hk, rfl, hD⟩ := hrel
    have HD := Lib.hid hD
    have hb := hD.below W.heap.size
    have HB := Lib.hid hb
    clear hD
    by_cases hlt : k < n
    · have kl : k < l.length := by rw [HN.out]; exact hlt
      obtain ⟨x, hx⟩ : ∃ x, l[k]? = some x := ⟨_, List.getElem?_eq_getElem kl⟩
      obtain ⟨b1, o1, rfl, _, y1⟩ := Reads.at16 (HX.out.below hb) hx
      obtain ⟨b2, o2, rfl, _, y2⟩ := Reads.at16 (HY.out.below hb) hx
      have q2 : ((x : Int) != (x : Int)) = false := by simp
      have i1 : (k : Int) < (n : Int) := by omega
      clear kl hx hb
      go_wp2
      go_quiet (fail)
      go_wp2
      go_roundw
      case rel => exact ⟨k + 1, by omega, by go_num, HD.out.more _⟩
      case measure => simp [intOf]; omega
    · obtain rfl : k = n := by omega
      clear hb
      go_wp2
      go_ret
      exact ⟨rfl, HB.out⟩
end Go.Proofs.Yteggbepibfpjcaa.Qr
