/-
  slices.Concat of two slices of extents.
-/
import Derived.Test.YtlcbchpijijilaaStCat
namespace Go.Proofs.Ytlcbchpijijilaa.Stripe
set_option linter.unusedVariables false
open Go.RowKit Mem

set_option maxRecDepth 100000 in
set_option maxHeartbeats 4000000 in
theorem concat_c (g n m ca cb : Nat) (A B : Option Addr) (xs ys : List Ex) (W : World) (hn : xs.length = n) (hm : ys.length = m) (bn : n ≤ 1099511627776) (bm : m ≤ 1099511627776) (hg : g < W.heap.size)
    (h0 : W.cell? ⟨g, 0, none⟩ = some (.slice A n ca)) (h1 : W.cell? ⟨g, 1, none⟩ = some (.slice B m cb)) (hx : ERds W A xs) (hy : ERds W B ys) :
    Calls Try.prog 22 #[.slice (some ⟨g, 0, none⟩) 2 2] W (NewEx (xs ++ ys) (n + m) W) := by
  have HX := Lib.hid hx
  have HY := Lib.hid hy
  have HN := Lib.hid hn
  have HM := Lib.hid hm
  have H0 := Lib.hid h0
  have H1 := Lib.hid h1
  have HG := Lib.hid (grow_c (n + m) W (by omega))
  clear hx hy hn hm
  go_enter Try.func22, Try.ntmps22
  go_wp2
  go_loop [3, 11] (fun s i => (i = .int .i64 0 ∧ s = .int .i64 0) ∨ (i = .int .i64 1 ∧ s = .int .i64 n) ∨ (i = .int .i64 2 ∧ s = .int .i64 ((n : Int) + (m : Int)))) (fun _ i => 2 - (intOf i).toNat)
  case atStart => exact .inl ⟨rfl, rfl⟩
  case round =>
    rcases hrel with ⟨rfl, rfl⟩ | ⟨rfl, rfl⟩ | ⟨rfl, rfl⟩
    · go_wp2
      go_round
      case rel => exact .inr (.inl ⟨rfl, rfl⟩)
      case measure => simp [intOf]
    · go_wp2
      go_round
      case rel => exact .inr (.inr ⟨rfl, rfl⟩)
      case measure => simp [intOf]
    · go_wp2_with fail
      refine HG.out.mono ?_
      rintro e w1 ⟨C, cc, rfl, hT, hb⟩
      have T1 := Lib.hid hT
      have B1 := Lib.hid hb
      have S1 := Lib.hid hb.size
      clear hT hb h0 h1
      go_wp2
      go_loopw [6, 27] (fun s i wr => Below W.heap.size W wr ∧ ((i = .int .i64 0 ∧ ∃ C c, s = .slice C 0 c ∧ ETab wr W.heap.size s []) ∨ (i = .int .i64 1 ∧ ∃ C c, s = .slice C n c ∧ ETab wr W.heap.size s xs) ∨ (i = .int .i64 2 ∧ ∃ C c, s = .slice C (n + m) c ∧ ETab wr W.heap.size s (xs ++ ys)))) (fun _ i _ => 2 - (intOf i).toNat)
      case atStart => exact ⟨B1.out, .inl ⟨rfl, C, cc, rfl, T1.out⟩⟩
      case round =>
        obtain ⟨hb, hc⟩ := hrel
        have B2 := Lib.hid hb
        have S2 := Lib.hid hb.size
        have e0 := (hb.cell (p := ⟨g, 0, none⟩) hg).trans H0.out
        have e1 := (hb.cell (p := ⟨g, 1, none⟩) hg).trans H1.out
        clear hb
        rcases hc with ⟨rfl, C2, c2, rfl, hT⟩ | ⟨rfl, C2, c2, rfl, hT⟩ | ⟨rfl, C2, c2, rfl, hT⟩
        · have T2 := Lib.hid hT
          have X2 := Lib.hid (HX.out.below B2.out)
          clear hT
          go_wp2_with (at_builtin; refine wpList_append_exs (n := 0) rfl (.tmp 31) (.tmp 32) rfl rfl rfl HN.out X2.out T2.out rfl (by omega) S2.out B2.out (Nat.le_refl _) S2.out ?_; intro A3 c3 w3 hT3 hB3)
          have T3 := hT3.out
          rw [List.nil_append, Nat.zero_add] at T3
          have T4 := Lib.hid T3
          have B3 := Lib.hid hB3.out
          clear T3 hT3 hB3
          go_wp2
          go_roundw
          case rel => exact ⟨B3.out, .inr (.inl ⟨rfl, A3, c3, rfl, T4.out⟩)⟩
          case measure => simp [intOf]
        · have T2 := Lib.hid hT
          have X2 := Lib.hid (HY.out.below B2.out)
          clear hT
          go_wp2_with (at_builtin; refine wpList_append_exs rfl (.tmp 31) (.tmp 32) rfl rfl rfl HM.out X2.out T2.out HN.out (by omega) S2.out B2.out (Nat.le_refl _) S2.out ?_; intro A3 c3 w3 hT3 hB3)
          have T4 := Lib.hid hT3.out
          have B3 := Lib.hid hB3.out
          clear hT3 hB3
          go_wp2
          go_roundw
          case rel => exact ⟨B3.out, .inr (.inr ⟨rfl, A3, c3, rfl, T4.out⟩)⟩
          case measure => simp [intOf]
        · have T2 := Lib.hid hT
          clear hT
          go_wp2
          go_ret
          exact ⟨C2, c2, rfl, T2.out, B2.out⟩
theorem concat_t (g n m k ca cb : Nat) (A B : Option Addr) (xs ys : List Ex) (W : World) (hn : xs.length = n) (hm : ys.length = m) (hk : n + m = k) (bn : n ≤ 1099511627776) (bm : m ≤ 1099511627776) (hg : g < W.heap.size)
    (h0 : W.cell? ⟨g, 0, none⟩ = some (.slice A n ca)) (h1 : W.cell? ⟨g, 1, none⟩ = some (.slice B m cb)) (hx : ERds W A xs) (hy : ERds W B ys) :
    Calls Try.prog 22 #[.slice (some ⟨g, 0, none⟩) 2 2] W (NewEx (xs ++ ys) k W) := hk ▸ concat_c g n m ca cb A B xs ys W hn hm bn bm hg h0 h1 hx hy
end Go.Proofs.Ytlcbchpijijilaa.Stripe
