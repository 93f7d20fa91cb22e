/-
  slices.DeleteFunc of spots: whole.
-/
import Derived.Test.YtcbecpgllebepaaCrDel
import Derived.Shelf.SlicesE.DeleteFunc
namespace Go.Proofs.Ytcbecpgllebepaa.Crush
set_option linter.unusedVariables false
set_option linter.unusedSimpArgs false
open Go.RowKit Mem Straw

set_option maxHeartbeats 2000000 in
theorem del_same (A : Option Addr) (n c b5 b6 : Nat) (W : World)
    (IX : Hid (Calls Try.prog 37 #[.slice A n c, .func (.func 24) #[] #[.pointer (some ⟨b5, 0, none⟩), .pointer (some ⟨b6, 0, none⟩)]] W (Gave (.int .i64 (-1)) W))) :
    Calls Try.prog 22 #[.slice A n c, cloH b5 b6] W (Gave (.slice A n c) W) := by
  unfold cloH
  go_enter Try.func22, Try.ntmps22
  go_wp2_with fail
  refine IX.out.mono ?_
  rintro e w1 ⟨rfl, hb1⟩
  have B1 := Lib.hid hb1
  clear hb1
  go_wp2
  go_ret
  exact ⟨rfl, B1.out⟩
theorem delete_c (B : Nat) (A : Option Addr) (l : List It) (n c b5 b6 b o n' ca k : Nat) (id : Int) (W : World) (hn : l.length = n) (hbig : n ≤ 16) (hz : STab W B (.slice A n c) l) (hk : k < n') (hg : GCh W b5 b6 b o n' ca k id) (h5 : b5 < B) (h6 : b6 < B) (h7 : b < B) (hBW : B ≤ W.heap.size) :
    Calls Try.prog 22 #[.slice A n c, cloH b5 b6] W fun e W' => ∃ A' m, (l.filter (keepS id)).length = m ∧ m ≤ c ∧ e = .returned (.slice A' m c) ∧ WRds W' A' (l.filter (keepS id)) ∧ Below B W W' := by
  have hcap : n ≤ c := by
    obtain ⟨A', c', e, h1, _⟩ := hz.form
    injection e with e1 e2 e3; omega
  rcases idxByFrom_spec (fun _ y : It => decide (y.1 = id)) default l 0 with ⟨h1, h2⟩ | ⟨i0, h1, _, h3, h4⟩
  · have hf := keep_none h2
    rw [hf]
    refine (del_same A n c b5 b6 W (Lib.hid ?_)).mono ?_
    · rcases Nat.eq_zero_or_pos n with h0 | h0
      · subst h0; exact indexF_none A c b5 b6 W
      · obtain ⟨g, rfl, _⟩ := hz.head (by omega)
        have H := indexF_c b5 b6 b o n' ca k id hk g l n c W hn (by omega) h0 hz.rds hg
        rw [Lib.idxBy_miss (fun _ y : It => decide (y.1 = id)) l n default (fun j hj => h2 j (by omega))] at H
        exact H
    · rintro e W' ⟨rfl, hb⟩
      exact ⟨A, n, hn, hcap, rfl, hz.rds.below hb, hb.mono hBW⟩
  · obtain ⟨g, rfl, _⟩ := hz.head (by omega)
    refine (del_loop B g l n c b5 b6 b o n' ca k i0 id l[i0] W hn hbig hz hk hg h5 h6 h7 (List.getElem?_eq_getElem h1) (by rw [getElem!_pos l i0 h1] at h3; exact of_decide_eq_true h3) h4).mono ?_
    rintro e W' ⟨m, p1, p2, p3, p4, p5⟩
    exact ⟨_, m, p1, p2, p3, p4, p5⟩
end Go.Proofs.Ytcbecpgllebepaa.Crush
