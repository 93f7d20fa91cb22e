/-
  The document's own answer, NPlay: its closure, a ballot's value.
-/
import Derived.Test.YtpoielmbdofjlaaSyRef
import Derived.Test.YtpoielmbdofjlaaSyAlive
import Derived.Deep.Cut
import Derived.BigQuiet
namespace Go.Proofs.Ytpoielmbdofjlaa.Syn
set_option linter.unusedVariables false
set_option linter.unusedSimpArgs false
open Go.RowKit Mem Gt
open Jump (Gave equalZ_c)

theorem box_nv {w : World} (x : Nv) : let w' := w.alloc (.cells #[.int .i64 (x.1 : Nat), .int .i64 (x.2.1 : Nat), .int .i64 x.2.2] tN)
    w'.cell? ⟨w.heap.size, 0, none⟩ = some (.int .i64 (x.1 : Nat)) ∧ w'.cell? ⟨w.heap.size, 1, none⟩ = some (.int .i64 (x.2.1 : Nat)) ∧ w'.cell? ⟨w.heap.size, 2, none⟩ = some (.int .i64 x.2.2) := by
  have kn := Known.made w tN #[.int .i64 (x.1 : Nat), .int .i64 (x.2.1 : Nat), .int .i64 x.2.2]
  exact ⟨kn.cell 0, kn.cell 1, kn.cell 2⟩
theorem hv_step {l : List Nv} {k : Nat} {x : Nv} (h : l[k]? = some x) (v : Int) : hv (l.take (k + 1)) v = hstep (hv (l.take k) v) x := by
  unfold hv
  rw [List.take_add_one, h, List.foldl_append]
  rfl
theorem last_step {l : List Nv} {k : Nat} {x : Nv} (h : l[k]? = some x) (j : Nat) : lastOf (l.take (k + 1)) j = lstep j (lastOf (l.take k) j) x := by
  unfold lastOf
  rw [List.take_add_one, h, List.foldl_append]
  rfl
theorem zeroI (W : World) : (zeroValue 3).run Try.prog W = .ok (.int .i64 0) W := by rfl
theorem zeroB (W : World) : (zeroValue 4).run Try.prog W = .ok (.bool false) W := by rfl
theorem zeroN (W : World) : (zeroValue 50).run Try.prog W = .ok nilV W := by rfl
set_option maxRecDepth 100000 in
set_option maxHeartbeats 8000000 in
theorem value_c (bf bp mf mp b : Nat) (f0 : Int) (A : Option Addr) (n ca : Nat) (l : List Nv) (F G : Int → Value) (ks js : List Int) (V : World) (hb : b ≤ 400) (hn : l.length = n) (hbig : n ≤ 1000000)
    (h1 : V.cell? ⟨bf, 0, none⟩ = some (.map (some mf))) (h2 : V.cell? ⟨bp, 0, none⟩ = some (.map (some mp))) (hF : GMap V mf (.int .i64 0) F ks) (hG : GMap V mp nilV G js) (hFb : F b = .int .i64 f0) (hGb : G b = .slice A n ca) (hx : Reads V A (flat nvE l)) :
    Calls Try.prog 19 #[.int .i64 b, .pointer (some ⟨bf, 0, none⟩), .pointer (some ⟨bp, 0, none⟩)] V (Gave (.int .i64 (hv l f0).2) V) := by
  have HX := Lib.hid hx
  have HN := Lib.hid hn
  have LF : ∀ q, (Instr.lookup 52 (.map (some mf)) (.int .i64 (b : Int)) false).run Try.prog (V.drewN q) = .ok (.int .i64 f0) (V.drewN q) := fun q => by rw [← hFb]; exact (hF.drewN q).look Try.underlying52 (zeroI _) b (wf_of (by unfold Fit; omega))
  have MG := Lib.hid (fun q => hG.drewN q)
  have GB := Lib.hid hGb
  have WB := Lib.hid (show (Lit.int .i64 (b : Int)).wf = true from wf_of (by unfold Fit; omega))
  obtain ⟨r, hr⟩ : ∃ r, (hv l f0).2 = r := ⟨_, rfl⟩
  rw [hr]
  have HR := Lib.hid hr
  have D0 := Lib.hid (Below.refl V.heap.size V.drew)
  clear hx hn hF hG hFb hGb hr
  go_enter Try.func19, Try.ntmps19
  go_upto_region 1 with fail
  go_quiet (fail)
  clear LF
  go_wp2_with (refine wpList_lookup_m Try.underlying51 (zeroN _) rfl _ _ (by rfl) (MG.out _) b WB.out rfl rfl _ GB.out ?_)
  go_loopw [5, 6, 16] (fun h v i wr => ∃ k : Nat, k ≤ n ∧ i = .int .i64 k ∧ h = .int .i64 ((hv (l.take k) f0).1 : Nat) ∧ v = .int .i64 (hv (l.take k) f0).2 ∧ Below V.heap.size V wr) (fun _ _ i _ => n - (intOf i).toNat)
  case atStart => exact ⟨0, by omega, rfl, rfl, rfl, Mem.below_drewN (Below.refl _ _) _⟩
  case round =>
    obtain ⟨k, hk, rfl, rfl, rfl, hB⟩ := hrel
    have BB := Lib.hid hB
    by_cases hlt : k < n
    · have kl : k < l.length := by rw [HN.out]; exact hlt
      obtain ⟨⟨x0, x1, x2⟩, hx⟩ : ∃ x, l[k]? = some x := ⟨_, List.getElem?_eq_getElem kl⟩
      obtain ⟨b1, o1, rfl, hb1, y0, y1, y2⟩ := nv_at (HX.out.below hB) hx
      have ST := Lib.hid (hv_step hx f0)
      have i1 : (k : Int) < (n : Int) := by omega
      generalize hc : hv (l.take k) f0 = cur at *
      obtain ⟨c0, c1⟩ := cur
      obtain ⟨d0, d1, d2⟩ := box_nv (w := wr) (x0, x1, x2)
      simp only at d0 d1 d2 y0 y1 y2
      have BA := Lib.hid (below_lit wr (.cells #[.int .i64 (x0 : Nat), .int .i64 (x1 : Nat), .int .i64 x2] tN))
      simp only
      clear kl hx hB hb1 hc
      by_cases hg : c0 < x1
      · have i2 : (c0 : Int) < (x1 : Int) := by omega
        have S2 := Lib.hid (show hv (l.take (k + 1)) f0 = (x1, x2) by rw [ST.out]; unfold hstep; rw [if_pos hg])
        go_upto_region 6 with fail
        go_quiet (fail)
        go_wp2
        go_roundw
        case rel => exact ⟨k + 1, by omega, by go_num, by rw [S2.out], by rw [S2.out], BB.out.trans ((Mem.below_drewN BA.out _).mono BB.out.size)⟩
        case measure => simp [intOf]; omega
      · have i2 : ¬ (c0 : Int) < (x1 : Int) := by omega
        have S2 := Lib.hid (show hv (l.take (k + 1)) f0 = (c0, c1) by rw [ST.out]; unfold hstep; rw [if_neg hg])
        go_wp2
        go_roundw
        case rel => exact ⟨k + 1, by omega, by go_num, by rw [S2.out], by rw [S2.out], BB.out.trans (BA.out.mono BB.out.size)⟩
        case measure => simp [intOf]; omega
    · obtain rfl : k = n := by omega
      have TK := Lib.hid (show (hv (l.take k) f0).2 = r by rw [List.take_of_length_le (by rw [HN.out]; exact Nat.le_refl _)]; exact HR.out)
      clear hB
      rw [TK.out]
      go_wp2
      go_ret
      exact ⟨rfl, BB.out⟩
end Go.Proofs.Ytpoielmbdofjlaa.Syn
