/-
  The contracts of (*Int).Lsh by 31 places, and of the number 1 by 64.
-/
import Derived.Test.YtahhgeecikljdaaBigShl
import Derived.Deep.RegionLaw
namespace Go.Proofs.Ytahhgeecikljdaa.Big
set_option linter.unusedVariables false
open Go.RowKit
attribute [local go_sem ↓] Go.wp_at_zero Go.wp_at_succ

set_option maxHeartbeats 2000000 in
theorem lsh_c (z p n : Nat) (W : World) (hz : Slot W z) (hp : Num W p n) (hn : (digs n).length + 1 ≤ 35184372088832) :
    Calls Try.prog 52 #[.pointer (some ⟨z, 0, none⟩), .pointer (some ⟨p, 0, none⟩), .int .u64 31] W (Trimmed z (n * 2147483648) W) := by
  obtain ⟨A, cap, c0, c1, hcap, hd⟩ := hp.facts
  obtain ⟨s, A', l', c', z0, z1, f0, f1, hlt⟩ := hz.facts
  have hpl := hp.lt
  have hfin : val (digs n) * 2147483648 = n * 2147483648 := by rw [val_digs]
  have HF := Lib.hid hfin
  clear hfin hp
  generalize digs n = a at *
  go_enter Try.func52, Try.ntmps52
  go_wp2
  have hL : a.length + 1 ≤ 4611686018427387904 := by omega
  go_region_with (go_at_call 62; refine (shl_c _ _ a _ (hd.drewN _) hn).mono ?_; rintro e w1 ⟨g, row, rfl, hl, hv, hge, hb, hB⟩; have k0 : w1.cell? ⟨p, 0, none⟩ = some (.bool false) := (hb.cell (p := ⟨p, 0, none⟩) hpl).trans c0; have hz1 : Slot w1 z := (hz.drewN _).below hb; obtain ⟨s1, A1, l1, cc1, y0, y1, j0, j1, hlt1⟩ := hz1.facts; have HL := Lib.hid hl; have HV := Lib.hid hv; have HB := Lib.hid hb; clear hl hv hb)
  all_goals go_wp2_with fail
  all_goals
    refine (mid_trim (z := z) (V := n * 2147483648) (L := a.length + 1) (W := W) ⟨w1, g, 0, row, Below.undraw (k := 1) HB.out, hz1, hB, HL.out, HV.out.trans HF.out, rfl⟩ hL).mono ?_
    intro e w2 h
    have H := Lib.hid h
    obtain ⟨rfl, _⟩ := h
    go_wp2_with fail
    go_ret
    exact H.out
theorem shl64_drew (g ca k : Nat) (W : World) (hg : g < W.heap.size) (hx : W.cell? ⟨g, 0, none⟩ = some (.int .u32 1)) :
    Calls Try.prog 62 #[.slice (some ⟨g, 0, none⟩) 1 ca, .int .i64 64] (W.drewN k) (Summed 18446744073709551616 4 (W.drewN k)) := shl64_c g ca (W.drewN k) hg hx
theorem appended_below {W w1 : World} {k : Nat} {o : Obj} (h : ((W.alloc o).drewN k).grownBy w1 (some W.heap.size)) : Below W.heap.size W w1 :=
  below_of_new (only_trans (only_drewN (only_alloc (only_refl W (some W.heap.size)) o) k) h) (Nat.le_refl _) (Nat.le_refl _)
theorem digs_one : digs 1 = [1] := by rw [digs_pos (by decide), show 1 / 4294967296 = 0 by decide, digs_zero]; rfl

set_option maxHeartbeats 2000000 in
theorem lsh64_c (z p : Nat) (W : World) (hz : Slot W z) (hp : Num W p 1) :
    Calls Try.prog 52 #[.pointer (some ⟨z, 0, none⟩), .pointer (some ⟨p, 0, none⟩), .int .u64 64] W (Trimmed z 18446744073709551616 W) := by
  obtain ⟨A, cap, c0, c1, hcap, hd⟩ := hp.facts
  obtain ⟨s, A', l', c', z0, z1, f0, f1, hlt⟩ := hz.facts
  have hpl := hp.lt
  rw [digs_one] at c1 hcap hd
  simp only [List.length_cons, List.length_nil, Nat.zero_add] at c1
  obtain ⟨g0, cs0, u0, rfl, hbk0, hu0, hc0⟩ := hd.at_ (k := 0) (by simp)
  obtain rfl : u0 = 1 := by injection hu0 with h; exact h.symm
  have hc0' : W.cell? ⟨g0, 0, none⟩ = some (.int .u32 1) := hc0
  have hg0 := hbk0.lt
  clear hp hc0 hu0
  go_enter Try.func52, Try.ntmps52
  go_wp2
  have hL : 4 ≤ 4611686018427387904 := by omega
  go_region_with (go_at_call 62; refine (shl64_drew g0 _ _ W hg0 hc0').mono ?_; rintro e w1 ⟨g, row, rfl, hl, hv, hge, hb, hB⟩; have k0 : w1.cell? ⟨p, 0, none⟩ = some (.bool false) := (hb.cell (p := ⟨p, 0, none⟩) hpl).trans c0; have hz1 : Slot w1 z := (hz.drewN _).below hb; obtain ⟨s1, A1, l1, cc1, y0, y1, j0, j1, hlt1⟩ := hz1.facts; have HL := Lib.hid hl; have HV := Lib.hid hv; have HB := Lib.hid hb; clear hl hv hb)
  all_goals go_wp2_with fail
  all_goals
    refine (mid_trim (z := z) (V := 18446744073709551616) (L := 4) (W := W) ⟨w1, g, 0, row, Below.undraw (k := 1) HB.out, hz1, hB, HL.out, HV.out, rfl⟩ hL).mono ?_
    intro e w2 h
    have H := Lib.hid h
    obtain ⟨rfl, _⟩ := h
    go_wp2_with fail
    go_ret
    exact H.out

end Go.Proofs.Ytahhgeecikljdaa.Big
