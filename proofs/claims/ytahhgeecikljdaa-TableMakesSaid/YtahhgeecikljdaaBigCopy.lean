/-
  The contract of (*Int).Set.
-/
import Derived.Test.YtahhgeecikljdaaBigLsh
namespace Go.Proofs.Ytahhgeecikljdaa.Big
set_option linter.unusedVariables false
open Go.RowKit
attribute [local go_sem ↓] Go.wp_at_zero Go.wp_at_succ

theorem set_end {W w1 : World} {z g cap n : Nat} {a : List UInt32} (hz : Slot w1 z) (hrow : Row w1 g a) (hc : a.length ≤ cap) (hb : Below W.heap.size W w1) (ha : digs n = a) :
    W.grownBy (stored w1 z false (.slice (some ⟨g, 0, none⟩) a.length cap)) (some z) ∧ Num (stored w1 z false (.slice (some ⟨g, 0, none⟩) a.length cap)) z n := by
  subst ha
  exact ⟨only_trans (only_of_below hb (some z)) (stored_grown w1 z false _), some ⟨g, 0, none⟩, cap, stored_cell hz false _ _ _, dig_stored hz hrow.dig false _, hc⟩

set_option maxHeartbeats 2000000 in
theorem set_c (z p n : Nat) (W : World) (hz : Slot W z) (hp : Num W p n) (hn : (digs n).length ≤ 35184372088832) :
    Calls Try.prog 74 #[.pointer (some ⟨z, 0, none⟩), .pointer (some ⟨p, 0, none⟩)] W fun e W' => e = .returned (.pointer (some ⟨z, 0, none⟩)) ∧ W.grownBy W' (some z) ∧ Num W' z n := by
  obtain ⟨A, cap, c0, c1, hcap, hd⟩ := hp.facts
  obtain ⟨s, A', l', c', z0, z1, f0, f1, hlt⟩ := hz.facts
  have hpl := hp.lt
  obtain ⟨a, ha⟩ : ∃ a, digs n = a := ⟨_, rfl⟩
  have HA := Lib.hid ha
  rw [ha] at c1 hcap hd hn
  clear hp ha
  go_enter Try.func74, Try.ntmps74
  go_wp2
  go_region_law ((refine step_append_digs _ (by rfl) (.tmp 11) (.tmp 15) (by rfl) W.heap.size cap A a (by rfl) (by rfl) (Blk.new W _ _) (hd.keep fun g cs h => h.alloc _) hn ?_; intro g cap' w1 hc1 hrow hgr hge; have hb : Below W.heap.size W w1 := appended_below (k := 1) hgr; have k0 : w1.cell? ⟨p, 0, none⟩ = some (.bool false) := (hb.cell (p := ⟨p, 0, none⟩) hpl).trans c0; have hz1 : Slot w1 z := hz.below hb; obtain ⟨s1, A1, l1, cc1, y0, y1, j0, j1, hlt1⟩ := hz1.facts; clear hb))
  all_goals go_wp2_with fail
  all_goals
    go_ret
    exact ⟨rfl, set_end hz1 hrow hc1 (appended_below (k := 1) hgr) HA.out⟩
end Go.Proofs.Ytahhgeecikljdaa.Big
