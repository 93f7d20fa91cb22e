/-
  The document's own answer of package lease: RPlay.
-/
import Derived.Test.YteneglbafngejaaLePure2
import Derived.Test.YteneglbafngejaaLeMem
import Derived.Test.YteneglbafngejaaGOMap
import Derived.Test.YteneglbafngejaaGApp
import Derived.Deep.CutRange
import Derived.Deep.DeepCutAuto
import Derived.Deep.CutBlock
namespace Go.Proofs.Yteneglbafngejaa.Le
set_option linter.unusedVariables false
set_option linter.unusedSimpArgs false
open Go.RowKit Mem Gt

theorem known_grown {W V : World} {g : Nat} {t : TypeId} {cs : Array Value} {row : Option Nat} (h : Known W g t cs) (hg : W.grownBy V row) (hne : some g ≠ row) : Known V g t cs := (hg.block g h.lt hne).trans h
/-- The maps hold the state. -/
structure RSt (W : World) (gO : Nat) (s : Ls) (k : Nat) : Prop where
  offs : ∃ fo, OMap W gO fo k ∧ ∀ x, (fo x).getD 0 = s.offs x
  unt : OMap W (gO + 1) s.unt k
theorem RSt.later {W V : World} {gO k : Nat} {s : Ls} (h : RSt W gO s k) (hb : Below W.heap.size W V) : RSt V gO s k := by
  obtain ⟨⟨fo, h1, h2⟩, h3⟩ := h
  exact ⟨⟨fo, h1.later hb, h2⟩, h3.later hb⟩
theorem RSt.up {W : World} {gO k : Nat} {s : Ls} (h : RSt W gO s k) : RSt W gO s (k + 1) := by
  obtain ⟨⟨fo, h1, h2⟩, h3⟩ := h
  exact ⟨⟨fo, h1.mono (Nat.le_succ _), h2⟩, h3.mono (Nat.le_succ _)⟩
theorem RSt.keep {W : World} {gO k : Nat} {s s' : Ls} (h : RSt W gO s k) (e1 : s'.offs = s.offs) (e2 : s'.unt = s.unt) : RSt W gO s' (k + 1) := by
  obtain ⟨⟨fo, h1, h2⟩, h3⟩ := h
  exact ⟨⟨fo, h1.mono (Nat.le_succ _), fun x => by rw [e1]; exact h2 x⟩, by rw [e2]; exact h3.mono (Nat.le_succ _)⟩
theorem RSt.fast {W V : World} {gO k : Nat} {s : Ls} {fo : Int → Option Int} {nd n : Int} (h1 : OMap V gO (putO fo nd (some n)) (k + 1)) (h2 : ∀ x, (fo x).getD 0 = s.offs x) (h3 : OMap W (gO + 1) s.unt k) (hg : W.grownBy V (some gO)) : RSt V gO { s with offs := put s.offs nd n } (k + 1) :=
  ⟨⟨_, h1, fun x => by
    show (if x = nd then some n else fo x).getD 0 = if x = nd then n else s.offs x
    split
    · rfl
    · exact h2 x⟩, (h3.kept hg (by simp)).mono (Nat.le_succ _)⟩
theorem RSt.kept {W V : World} {gO k : Nat} {s : Ls} {row : Option Nat} (h : RSt W gO s k) (hg : W.grownBy V row) (h1 : some gO ≠ row) (h2 : some (gO + 1) ≠ row) : RSt V gO s k := by
  obtain ⟨⟨fo, q1, q2⟩, q3⟩ := h
  exact ⟨⟨fo, q1.kept hg h1, q2⟩, q3.kept hg h2⟩
theorem RSt.setCell {W : World} {gO k : Nat} {s : Ls} {p : Addr} (h : RSt W gO s k) (h1 : gO ≠ p.block) (h2 : gO + 1 ≠ p.block) (u : Value) : RSt (W.setCell p u) gO s k := by
  obtain ⟨⟨fo, q1, q2⟩, q3⟩ := h
  exact ⟨⟨fo, q1.setCell h1 u, q2⟩, q3.setCell h2 u⟩
theorem lit_la (W : World) (o : Obj) (x : LA) : Reads ((W.alloc o).alloc (.cells #[.int .i64 x.1, .bool x.2] 29)) (some ⟨W.heap.size + 1, 0, none⟩) (flat laE [x]) := fun j v hj => by
  have kn := Known.made (W.alloc o) 29 #[.int .i64 x.1, .bool x.2]
  rw [show (W.alloc o).heap.size = W.heap.size + 1 by simp] at kn
  refine ⟨W.heap.size + 1, 0, rfl, kn.lt, ?_⟩
  rw [Nat.zero_add, kn.cell]
  rw [flat_one_el] at hj
  simpa [laE] using hj
theorem putO_eq (f : Int → Option Int) (x : Int) (v : Option Int) : putO f x v = put f x v := rfl
/-- One of the two maps may have turned. -/
def Mv (W V : World) (gO : Nat) : Prop := ∃ r, (r = gO ∨ r = gO + 1) ∧ W.grownBy V (some r)
theorem Mv.refl (W : World) (gO : Nat) : Mv W W gO := ⟨gO, .inl rfl, World.grownBy.refl W _⟩
theorem Mv.known {W V : World} {gO g : Nat} {t : TypeId} {cs : Array Value} (h : Mv W V gO) (k : Known W g t cs) (hg : g ≠ gO ∧ g ≠ gO + 1) : Known V g t cs := by
  obtain ⟨r, hr, hw⟩ := h
  exact known_grown k hw (fun e => by injection e with e; omega)
theorem Mv.tab {α : Type} {sz : Nat} {E : Enc α sz} {W V : World} {gO : Nat} {e : TypeId} {v : Value} {l : List α} (h : Mv W V gO) (k : Tab E W (gO + 2) e v l) : Tab E V (gO + 2) e v l := by
  obtain ⟨r, hr, hw⟩ := h
  refine k.kept hw ?_
  cases hv : v.ownBlock with
  | none => exact .inl rfl
  | some q => exact .inr (fun h => by have := (k.lt q hv).1; injection h with h; omega)
theorem Mv.below {W V W0 : World} {gO : Nat} (h : Mv W V gO) (hb : Below gO W0 W) (hs : gO ≤ W.heap.size) : Below gO W0 V := by
  obtain ⟨r, hr, hw⟩ := h
  exact hb.grown hw hs (fun q hq => by injection hq with hq; omega)
theorem answers_take {nodes long off : Int} {l : List LO} {k : Nat} {o : LO} (h : l[k]? = some o) : answers nodes long off L0 (l.take (k + 1)) = answers nodes long off L0 (l.take k) ++ [ans nodes long off (run nodes long off L0 (l.take k)) o] := by
  rw [List.take_add_one, h]; exact answers_snoc _ _ _
theorem run_take {nodes long off : Int} {l : List LO} {k : Nat} {o : LO} (h : l[k]? = some o) : run nodes long off L0 (l.take (k + 1)) = step nodes long off (run nodes long off L0 (l.take k)) o := by
  rw [List.take_add_one, h]; exact run_snoc _ _ _
theorem playE_ne {nodes long off : Int} {n : Nat} (h : nodes < 1 ∨ 16 < nodes ∨ long < 1 ∨ 1048576 < long ∨ off < 0 ∨ 1048576 < off ∨ 400 < n) : playE nodes long off n = 2 := if_pos h
theorem playL_ne {nodes long off : Int} {l : List LO} (h : playE nodes long off l.length ≠ 0) : playL nodes long off l = [] := if_neg h
set_option maxRecDepth 100000 in
set_option maxHeartbeats 8000000 in
theorem rplay_bad (m long off : Int) (A : Option Addr) (n ca : Nat) (V : World) (h : m < 1 ∨ 16 < m ∨ long < 1 ∨ 1048576 < long ∨ off < 0 ∨ 1048576 < off ∨ 400 < n) (hbig : n ≤ 5864062014806) :
    Calls Try.prog 9 #[.int .i64 m, .int .i64 long, .int .i64 off, .slice A n ca] V (PlayOut [] 0 2 V) := by
  have fin : ∀ {P : Prop}, P → P := fun h => h
  by_cases h1 : m < 1
  · clear h
    go_enter Try.func9, Try.ntmps9
    go_wp2
    go_ret2
    exact ⟨none, 0, rfl, by simp, Reads.nil, Below.refl _ _⟩
  by_cases h2 : 16 < m
  · clear h
    go_enter Try.func9, Try.ntmps9
    go_wp2
    go_ret2
    exact ⟨none, 0, rfl, by simp, Reads.nil, Below.refl _ _⟩
  by_cases h3 : long < 1
  · clear h
    go_enter Try.func9, Try.ntmps9
    go_wp2
    go_ret2
    exact ⟨none, 0, rfl, by simp, Reads.nil, Below.refl _ _⟩
  by_cases h4 : 1048576 < long
  · clear h
    go_enter Try.func9, Try.ntmps9
    go_wp2
    go_ret2
    exact ⟨none, 0, rfl, by simp, Reads.nil, Below.refl _ _⟩
  by_cases h5 : off < 0
  · clear h
    go_enter Try.func9, Try.ntmps9
    go_wp2
    go_ret2
    exact ⟨none, 0, rfl, by simp, Reads.nil, Below.refl _ _⟩
  by_cases h6 : 1048576 < off
  · clear h
    go_enter Try.func9, Try.ntmps9
    go_wp2
    go_ret2
    exact ⟨none, 0, rfl, by simp, Reads.nil, Below.refl _ _⟩
  have h7 : (400 : Int) < (n : Int) := by omega
  clear h
  go_enter Try.func9, Try.ntmps9
  go_wp2
  go_ret2
  exact ⟨none, 0, rfl, by simp, Reads.nil, Below.refl _ _⟩
set_option maxRecDepth 100000 in
set_option maxHeartbeats 32000000 in
theorem rplay_ok (m long off : Int) (A : Option Addr) (l : List LO) (n ca : Nat) (V : World) (hl : l.length = n) (hE : playE m long off n = 0) (hx : Reads V A (flat loE l)) (hf : FitOs l) :
    Calls Try.prog 9 #[.int .i64 m, .int .i64 long, .int .i64 off, .slice A n ca] V (PlayOut (answers m long off L0 l) n 0 V) := by
  obtain ⟨a1, a2, a3, a4⟩ := playE_zero hE
  have g1 : ¬ m < 1 := by omega
  have g2 : ¬ 16 < m := by omega
  have g3 : ¬ long < 1 := by omega
  have g4 : ¬ 1048576 < long := by omega
  have g5 : ¬ off < 0 := by omega
  have g6 : ¬ 1048576 < off := by omega
  have g7 : ¬ (400 : Int) < (n : Int) := by omega
  have PB := Lib.hid (show (1 ≤ m ∧ m ≤ 16) ∧ (1 ≤ long ∧ long ≤ 1048576) ∧ (0 ≤ off ∧ off ≤ 1048576) ∧ n ≤ 400 from ⟨a1, a2, a3, a4⟩)
  have HL := Lib.hid hl
  have HX := Lib.hid hx
  have HF := Lib.hid hf
  have mt := Try.underlying42
  have hmm := @run_makeMap Try.prog
  obtain ⟨gO, hgO⟩ : ∃ g, V.heap.size = g := ⟨_, rfl⟩
  have R0 := Lib.hid (show RSt ((V.alloc (.map #[] 0)).alloc (.map #[] 0)) gO L0 0 from by
    have h1 := OMap.made V
    have h2 := OMap.made (V.alloc (.map #[] 0))
    rw [show (V.alloc (.map #[] 0)).heap.size = V.heap.size + 1 by simp] at h2
    rw [hgO] at h1 h2
    exact ⟨⟨_, h1.alloc _, fun x => rfl⟩, h2⟩)
  have B0 := Lib.hid (show Below gO V ((V.alloc (.map #[] 0)).alloc (.map #[] 0)) from hgO ▸ (low_lit V _).alloc (by simp) _)
  have HG := Lib.hid hgO
  clear hl hE hx hf a1 a2 a3 a4
  go_enter Try.func9, Try.ntmps9
  go_wp2_with fail
  clear hmm hgO
  go_loopw [10, 11, 12, 15, 54] (fun v10 v11 v12 v15 i wr => ∃ (k : Nat) (s : Ls) (c : Nat) (AO : Option Addr), k ≤ n ∧ i = .int .i64 k ∧ s = run m long off L0 (l.take k) ∧ v10 = .int .i64 s.now ∧ v11 = .int .i64 s.holder ∧ v12 = .int .i64 s.given ∧ v15 = .slice AO k c ∧ RSt wr gO s k ∧ Tab laE wr (gO + 2) 29 (.slice AO k c) (answers m long off L0 (l.take k)) ∧ Below gO V wr ∧ gO + 2 ≤ wr.heap.size) (fun _ _ _ _ i _ => n - (intOf i).toNat)
  case atStart => exact ⟨0, L0, 0, none, by omega, rfl, rfl, rfl, rfl, rfl, rfl, R0.out, Tab.nil _ _ _, B0.out, by have := HG.out; simp; omega⟩
  case round =>
    obtain ⟨k, s, c, AO, hk, rfl, hs, rfl, rfl, rfl, rfl, hR, hT, hB, hsz⟩ := hrel
    have HS := Lib.hid hs
    have RR := Lib.hid hR
    have TT := Lib.hid hT
    have BB := Lib.hid hB
    have SZ := Lib.hid hsz
    have IN := Lib.hid (show Inv m long off s from hs ▸ Inv.run PB.out.2.2.1.1 (by have := PB.out; omega) PB.out.1.1 _ (inv0 PB.out.1.1 PB.out.2.2.1.1 (by have := PB.out; omega)))
    clear hs hR hT hsz g1 g2 g3 g4 g5 g6 g7
    by_cases hlt : k < n
    · obtain ⟨⟨kd, nd, nn⟩, ht⟩ : ∃ x, l[k]? = some x := ⟨_, List.getElem?_eq_getElem (by rw [HL.out]; exact hlt)⟩
      obtain ⟨b1, o1, hA1, _, x0, x1, x2⟩ := lo_at (HX.out.below (by rw [HG.out]; exact hB)) ht
      obtain ⟨d0, d1, d2⟩ := box_lo (w := wr) (kd, nd, nn)
      obtain ⟨w20, hw20⟩ : ∃ W, wr.alloc (.cells #[.int .i64 kd, .int .i64 nd, .int .i64 nn] 34) = W := ⟨_, rfl⟩
      have RA := Lib.hid (show RSt w20 gO s k from hw20 ▸ RR.out.later (low_lit wr _))
      have TA := Lib.hid (show Tab laE w20 (gO + 2) _ _ _ from hw20 ▸ TT.out.alloc (.cells #[.int .i64 kd, .int .i64 nd, .int .i64 nn] 34))
      have DA := Lib.hid (show Known w20 wr.heap.size 34 #[.int .i64 kd, .int .i64 nd, .int .i64 nn] from hw20 ▸ Known.made wr _ _)
      have BA := Lib.hid (show Below gO V w20 from hw20 ▸ hB.alloc (by have := SZ.out; omega) _)
      have SA := Lib.hid (show w20.heap.size = wr.heap.size + 1 from by rw [← hw20]; simp)
      rw [hw20] at d0 d1 d2
      have HT := Lib.hid ht
      obtain ⟨f0, f1, f2⟩ := HF.out _ (List.mem_of_getElem? ht)
      have FK := Lib.hid (show Fit kd ∧ Fit nd ∧ Fit nn from ⟨f0, f1, f2⟩)
      have i1 : (k : Int) < (n : Int) := by omega
      have k4 : k < 400 := by have := PB.out; omega
      simp only at x0 x1 x2 d0 d1 d2
      subst hA1
      clear ht hB f0 f1 f2
      obtain ⟨inr, hin⟩ : ∃ r, decide (0 ≤ nd ∧ nd < m) = r := ⟨_, rfl⟩
      have HIN := Lib.hid hin
      clear hin
      go_upto_region 10 with fail
      go_cut [19] from 58 to 66 (fun v wx => v = .bool inr ∧ wx = w20)
      case first =>
        by_cases h1 : 0 ≤ nd
        · by_cases h2 : nd < m
          · obtain rfl : true = inr := by rw [← HIN.out]; exact (decide_eq_true ⟨h1, h2⟩).symm
            go_wp2
            go_meet
            exact ⟨rfl, rfl⟩
          · obtain rfl : false = inr := by rw [← HIN.out]; exact (decide_eq_false (by omega)).symm
            go_wp2
            go_meet
            exact ⟨rfl, rfl⟩
        · obtain rfl : false = inr := by rw [← HIN.out]; exact (decide_eq_false (by omega)).symm
          go_wp2
          go_meet
          exact ⟨rfl, rfl⟩
      case rest =>
        obtain ⟨rfl, hwc⟩ := hcut
        rw [hwc]
        clear hwc wc
        go_upto_block 2 with fail
        go_cut [10, 11, 12, 18] from 67 to 192 (fun v10 v11 v12 v18 wx => v10 = .int .i64 (step m long off s (kd, nd, nn)).now ∧ v11 = .int .i64 (step m long off s (kd, nd, nn)).holder ∧ v12 = .int .i64 (step m long off s (kd, nd, nn)).given ∧ v18 = .int .i64 (opE m long off s (kd, nd, nn)) ∧ RSt wx gO (step m long off s (kd, nd, nn)) (k + 1) ∧ Mv w20 wx gO)
        case first => as_aux_lemma =>
          have TI := Lib.hid (show (0 ≤ s.now ∧ s.now ≤ 1099511627776) ∧ (0 ≤ s.given ∧ s.given ≤ s.now) ∧ (-1 ≤ s.holder ∧ s.holder < m) ∧ (∀ k, -off ≤ s.offs k ∧ s.offs k ≤ off) ∧ ((1 ≤ m ∧ m ≤ 16) ∧ (1 ≤ long ∧ long ≤ 1048576) ∧ (0 ≤ off ∧ off ≤ 1048576) ∧ n ≤ 400) ∧ (Fit kd ∧ Fit nd ∧ Fit nn) from ⟨IN.out.t0, IN.out.g0, IN.out.ho, IN.out.of, PB.out, FK.out⟩)
          have HK4 := Lib.hid (show k < maxLen by unfold maxLen; omega)
          by_cases k3 : kd = 3
          · subst k3
            by_cases h1 : nn < 0
            · have he := c_tick_bad (nodes := m) (long := long) (off := off) (s := s) (nd := nd) (n := nn) (.inl h1)
              have hst := step_no (s := s) (nodes := m) (long := long) (off := off) (o := (3, nd, nn)) (by rw [he]; decide)
              have HE := Lib.hid he
              have HST := Lib.hid hst
              clear he hst
              go_wp2
              go_meet
              rw [HE.out, HST.out]
              exact ⟨rfl, rfl, rfl, rfl, RA.out.keep rfl rfl, Mv.refl _ _⟩
            · by_cases h2 : 1099511627776 < nn
              · have he := c_tick_bad (nodes := m) (long := long) (off := off) (s := s) (nd := nd) (n := nn) (.inr (.inl h2))
                have hst := step_no (s := s) (nodes := m) (long := long) (off := off) (o := (3, nd, nn)) (by rw [he]; decide)
                have HE := Lib.hid he
                have HST := Lib.hid hst
                clear he hst
                go_wp2
                go_meet
                rw [HE.out, HST.out]
                exact ⟨rfl, rfl, rfl, rfl, RA.out.keep rfl rfl, Mv.refl _ _⟩
              · have hw1 : IntKind.i64.wrap (s.now + nn) = s.now + nn := IntWalk.i64_in _ (by have := TI.out; omega)
                by_cases h3 : 1099511627776 < s.now + nn
                · have he := c_tick_bad (nodes := m) (long := long) (off := off) (s := s) (nd := nd) (n := nn) (.inr (.inr h3))
                  have hst := step_no (s := s) (nodes := m) (long := long) (off := off) (o := (3, nd, nn)) (by rw [he]; decide)
                  have HE := Lib.hid he
                  have HST := Lib.hid hst
                  clear he hst
                  go_wp2
                  go_meet
                  rw [HE.out, HST.out]
                  exact ⟨rfl, rfl, rfl, rfl, RA.out.keep rfl rfl, Mv.refl _ _⟩
                · have he := c_tick (nodes := m) (long := long) (off := off) (s := s) (nd := nd) (n := nn) (by omega)
                  have hst := (step_yes (s := s) (nodes := m) (long := long) (off := off) (o := (3, nd, nn)) he).trans a_tick
                  have HE := Lib.hid he
                  have HST := Lib.hid hst
                  clear he hst
                  go_wp2
                  go_meet
                  rw [HE.out, HST.out]
                  exact ⟨rfl, rfl, rfl, rfl, RA.out.keep rfl rfl, Mv.refl _ _⟩
          have n3 : (kd == 3) = false := by simpa using k3
          by_cases q1 : kd < 1
          · have he := c_kind (nodes := m) (long := long) (off := off) (s := s) (nd := nd) (n := nn) k3 (.inl q1)
            have hst := step_no (s := s) (nodes := m) (long := long) (off := off) (o := (kd, nd, nn)) (by rw [he]; decide)
            have HE := Lib.hid he
            have HST := Lib.hid hst
            clear he hst
            go_wp2
            go_meet
            rw [HE.out, HST.out]
            exact ⟨rfl, rfl, rfl, rfl, RA.out.keep rfl rfl, Mv.refl _ _⟩
          by_cases q5 : 5 < kd
          · have he := c_kind (nodes := m) (long := long) (off := off) (s := s) (nd := nd) (n := nn) k3 (.inr q5)
            have hst := step_no (s := s) (nodes := m) (long := long) (off := off) (o := (kd, nd, nn)) (by rw [he]; decide)
            have HE := Lib.hid he
            have HST := Lib.hid hst
            clear he hst
            go_wp2
            go_meet
            rw [HE.out, HST.out]
            exact ⟨rfl, rfl, rfl, rfl, RA.out.keep rfl rfl, Mv.refl _ _⟩
          cases inr with
          | false =>
            have hi : ¬ (0 ≤ nd ∧ nd < m) := of_decide_eq_false HIN.out
            have he := c_out (nodes := m) (long := long) (off := off) (s := s) (nd := nd) (n := nn) k3 (by omega) hi
            have hst := step_no (s := s) (nodes := m) (long := long) (off := off) (o := (kd, nd, nn)) (by rw [he]; decide)
            have HE := Lib.hid he
            have HST := Lib.hid hst
            clear he hst hi
            go_wp2
            go_meet
            rw [HE.out, HST.out]
            exact ⟨rfl, rfl, rfl, rfl, RA.out.keep rfl rfl, Mv.refl _ _⟩
          | true =>
            have HI := Lib.hid (show 0 ≤ nd ∧ nd < m from of_decide_eq_true HIN.out)
            obtain ⟨fo, p1, p2⟩ := RA.out.offs
            have Q1 := Lib.hid p1
            have Q2 := Lib.hid p2
            have Q3 := Lib.hid RA.out.unt
            have WN := Lib.hid (show WfZ nd from wf_of FK.out.2.1)
            have KD := (show kd = 4 ∨ kd = 1 ∨ kd = 2 ∨ kd = 5 by omega)
            clear p1 p2 q1 k3 q5 n3
            rcases KD with rfl | rfl | rfl | rfl
            · have hwn : IntKind.i64.wrap (-off) = -off := IntWalk.i64_in _ (by have := TI.out; omega)
              by_cases h1 : off < nn
              · have he := c_fast_bad (nodes := m) (long := long) (off := off) (s := s) (nd := nd) (n := nn) HI.out (.inl h1)
                have hst := step_no (s := s) (nodes := m) (long := long) (off := off) (o := (4, nd, nn)) (by rw [he]; decide)
                have HE := Lib.hid he
                have HST := Lib.hid hst
                clear he hst
                go_wp2
                go_meet
                rw [HE.out, HST.out]
                exact ⟨rfl, rfl, rfl, rfl, RA.out.keep rfl rfl, Mv.refl _ _⟩
              · by_cases h2 : nn < -off
                · have he := c_fast_bad (nodes := m) (long := long) (off := off) (s := s) (nd := nd) (n := nn) HI.out (.inr h2)
                  have hst := step_no (s := s) (nodes := m) (long := long) (off := off) (o := (4, nd, nn)) (by rw [he]; decide)
                  have HE := Lib.hid he
                  have HST := Lib.hid hst
                  clear he hst
                  go_wp2
                  go_meet
                  rw [HE.out, HST.out]
                  exact ⟨rfl, rfl, rfl, rfl, RA.out.keep rfl rfl, Mv.refl _ _⟩
                · have he := c_fast (nodes := m) (long := long) (off := off) (s := s) (nd := nd) (n := nn) HI.out (by omega)
                  have hst := (step_yes (s := s) (nodes := m) (long := long) (off := off) (o := (4, nd, nn)) he).trans a_fast
                  have HE := Lib.hid he
                  have HST := Lib.hid hst
                  clear he hst
                  have WNN := Lib.hid (show WfZ nn from wf_of ⟨by have := TI.out; omega, by have := TI.out; omega⟩)
                  go_upto_region 22 with fail
                  go_wp2_with (refine wpList_update_o mt rfl (.tmp 129) (.tmp 131) (.tmp 133) rfl Q1.out HK4.out nd WN.out rfl rfl nn WNN.out rfl ?_; intro W1 KV GV)
                  go_meet
                  rw [HE.out, HST.out]
                  exact ⟨rfl, rfl, rfl, rfl, RSt.fast KV.out Q2.out Q3.out GV.out, gO, .inl rfl, GV.out⟩
            · have of1 := IN.out.of nd
              have LKf := Q1.out.look mt nd WN.out
              rw [Q2.out] at LKf
              have hw1 : IntKind.i64.wrap (s.now + s.offs nd) = s.now + s.offs nd := IntWalk.i64_in _ (by have := TI.out; omega)
              have hw2 : IntKind.i64.wrap (s.now + s.offs nd + long) = s.now + s.offs nd + long := IntWalk.i64_in _ (by have := TI.out; omega)
              have hw3 : IntKind.i64.wrap (s.now - s.given) = s.now - s.given := IntWalk.i64_in _ (by have := TI.out; omega)
              have hw4 : IntKind.i64.wrap (2 * off) = 2 * off := IntWalk.i64_in _ (by have := TI.out; omega)
              have hw5 : IntKind.i64.wrap (long + 2 * off) = long + 2 * off := IntWalk.i64_in _ (by have := TI.out; omega)
              have WV := Lib.hid (show WfZ (s.now + s.offs nd + long) from wf_of ⟨by have := TI.out; omega, by have := TI.out; omega⟩)
              clear of1
              by_cases h1 : 0 ≤ s.holder
              · by_cases h2 : s.holder = nd
                · have n2 : (s.holder != nd) = false := by simp [h2]
                  have he := c_ask (nodes := m) (long := long) (off := off) (s := s) (nd := nd) (n := nn) HI.out (fun e => e.2.1 h2)
                  have hst := (step_yes (s := s) (nodes := m) (long := long) (off := off) (o := (1, nd, nn)) he).trans a_ask
                  have HE := Lib.hid he
                  have HST := Lib.hid hst
                  clear he hst
                  go_upto_region 27 with fail
                  go_wp2_with (refine wpList_update_o mt rfl (.tmp 165) (.tmp 167) (.tmp 175) rfl Q3.out HK4.out nd WN.out rfl rfl (s.now + s.offs nd + long) WV.out rfl ?_; intro W1 KV GV)
                  go_meet
                  rw [HE.out, HST.out]
                  exact ⟨rfl, rfl, rfl, rfl, ⟨⟨fo, (Q1.out.kept GV.out (by simp)).mono (Nat.le_succ _), Q2.out⟩, KV.out⟩, gO + 1, .inr rfl, GV.out⟩
                · have n2 : (s.holder != nd) = true := by simp [h2]
                  by_cases h3 : s.now - s.given < long + 2 * off
                  · have he := c_ask_bad (nodes := m) (long := long) (off := off) (s := s) (nd := nd) (n := nn) HI.out ⟨h1, h2, h3⟩
                    have hst := step_no (s := s) (nodes := m) (long := long) (off := off) (o := (1, nd, nn)) (by rw [he]; decide)
                    have HE := Lib.hid he
                    have HST := Lib.hid hst
                    clear he hst
                    go_wp2
                    go_meet
                    rw [HE.out, HST.out]
                    exact ⟨rfl, rfl, rfl, rfl, RA.out.keep rfl rfl, Mv.refl _ _⟩
                  · have he := c_ask (nodes := m) (long := long) (off := off) (s := s) (nd := nd) (n := nn) HI.out (fun e => h3 e.2.2)
                    have hst := (step_yes (s := s) (nodes := m) (long := long) (off := off) (o := (1, nd, nn)) he).trans a_ask
                    have HE := Lib.hid he
                    have HST := Lib.hid hst
                    clear he hst
                    go_upto_region 27 with fail
                    go_wp2_with (refine wpList_update_o mt rfl (.tmp 165) (.tmp 167) (.tmp 175) rfl Q3.out HK4.out nd WN.out rfl rfl (s.now + s.offs nd + long) WV.out rfl ?_; intro W1 KV GV)
                    go_meet
                    rw [HE.out, HST.out]
                    exact ⟨rfl, rfl, rfl, rfl, ⟨⟨fo, (Q1.out.kept GV.out (by simp)).mono (Nat.le_succ _), Q2.out⟩, KV.out⟩, gO + 1, .inr rfl, GV.out⟩
              · have he := c_ask (nodes := m) (long := long) (off := off) (s := s) (nd := nd) (n := nn) HI.out (fun e => h1 e.1)
                have hst := (step_yes (s := s) (nodes := m) (long := long) (off := off) (o := (1, nd, nn)) he).trans a_ask
                have HE := Lib.hid he
                have HST := Lib.hid hst
                clear he hst
                go_upto_region 27 with fail
                go_wp2_with (refine wpList_update_o mt rfl (.tmp 165) (.tmp 167) (.tmp 175) rfl Q3.out HK4.out nd WN.out rfl rfl (s.now + s.offs nd + long) WV.out rfl ?_; intro W1 KV GV)
                go_meet
                rw [HE.out, HST.out]
                exact ⟨rfl, rfl, rfl, rfl, ⟨⟨fo, (Q1.out.kept GV.out (by simp)).mono (Nat.le_succ _), Q2.out⟩, KV.out⟩, gO + 1, .inr rfl, GV.out⟩
            · by_cases h2 : s.holder = nd
              · have n2 : (s.holder != nd) = false := by simp [h2]
                have he := c_give (nodes := m) (long := long) (off := off) (s := s) (nd := nd) (n := nn) HI.out h2
                have hst := (step_yes (s := s) (nodes := m) (long := long) (off := off) (o := (2, nd, nn)) he).trans a_give
                have HE := Lib.hid he
                have HST := Lib.hid hst
                clear he hst
                go_upto_region 32 with fail
                go_wp2_with (refine wpList_delete_o mt rfl (.tmp 190) (.tmp 192) rfl Q3.out nd WN.out rfl rfl ?_; intro W1 KV GV)
                go_meet
                rw [HE.out, HST.out]
                exact ⟨rfl, rfl, rfl, rfl, ⟨⟨fo, (Q1.out.kept GV.out (by simp)).mono (Nat.le_succ _), Q2.out⟩, KV.out.mono (Nat.le_succ _)⟩, gO + 1, .inr rfl, GV.out⟩
              · have n2 : (s.holder != nd) = true := by simp [h2]
                have he := c_give_bad (nodes := m) (long := long) (off := off) (s := s) (nd := nd) (n := nn) HI.out h2
                have hst := step_no (s := s) (nodes := m) (long := long) (off := off) (o := (2, nd, nn)) (by rw [he]; decide)
                have HE := Lib.hid he
                have HST := Lib.hid hst
                clear he hst
                go_wp2
                go_meet
                rw [HE.out, HST.out]
                exact ⟨rfl, rfl, rfl, rfl, RA.out.keep rfl rfl, Mv.refl _ _⟩
            · have he := c_may (nodes := m) (long := long) (off := off) (s := s) (nd := nd) (n := nn) HI.out
              have hst := (step_yes (s := s) (nodes := m) (long := long) (off := off) (o := (5, nd, nn)) he).trans a_may
              have HE := Lib.hid he
              have HST := Lib.hid hst
              clear he hst
              go_wp2
              go_meet
              rw [HE.out, HST.out]
              exact ⟨rfl, rfl, rfl, rfl, RA.out.keep rfl rfl, Mv.refl _ _⟩
        case rest =>
          obtain ⟨h10, h11, h12, h18, hR, hM⟩ := hcut
          obtain ⟨e, he⟩ : ∃ e, opE m long off s (kd, nd, nn) = e := ⟨_, rfl⟩
          obtain ⟨s2, hs2⟩ : ∃ s2, step m long off s (kd, nd, nn) = s2 := ⟨_, rfl⟩
          have AN0 : ans m long off s (kd, nd, nn) = (e, decide (e = 0) && decide (kd ≠ 3) && may s2 nd) := by unfold ans; rw [he, hs2]
          have IN2 := IN.out.step PB.out.2.2.1.1 (by have := PB.out; omega) PB.out.1.1 (kd, nd, nn)
          rw [hs2] at h10 h11 h12 hR IN2
          rw [he] at h18
          subst h10 h11 h12 h18
          have HS2 := Lib.hid hs2
          have RC := Lib.hid hR
          have DC := Lib.hid (hM.known DA.out (by have := SZ.out; omega))
          have TC := Lib.hid (hM.tab TA.out)
          have BC := Lib.hid (hM.below BA.out (by have := SZ.out; have := SA.out; omega))
          have SC := Lib.hid (show gO + 2 ≤ wc.heap.size by have := DC.out.lt; have := SZ.out; omega)
          have LN := Lib.hid (show (answers m long off L0 (l.take k)).length = k by rw [answers_len, List.length_take, HL.out]; omega)
          have RD := Lib.hid (show RSt (wc.alloc (.cells #[.int .i64 e, .bool false] 29)) gO s2 (k + 1) from RC.out.later (low_lit wc _))
          have DD := Lib.hid (show Known (wc.alloc (.cells #[.int .i64 e, .bool false] 29)) wr.heap.size 34 _ from DC.out.alloc (.cells #[.int .i64 e, .bool false] 29))
          have TD := Lib.hid (show Tab laE (wc.alloc (.cells #[.int .i64 e, .bool false] 29)) (gO + 2) _ _ _ from TC.out.alloc (.cells #[.int .i64 e, .bool false] 29))
          have KD := Lib.hid (show Known (wc.alloc (.cells #[.int .i64 e, .bool false] 29)) wc.heap.size 29 #[.int .i64 e, .bool false] from Known.made wc _ _)
          have BD := Lib.hid (show Below gO V (wc.alloc (.cells #[.int .i64 e, .bool false] 29)) from BC.out.alloc (by have := SC.out; omega) _)
          have SD := Lib.hid (show gO + 2 ≤ (wc.alloc (.cells #[.int .i64 e, .bool false] 29)).heap.size by simp; have := SC.out; omega)
          have WN := Lib.hid (show WfZ nd from wf_of FK.out.2.1)
          have LK := RD.out.unt.look2 mt nd WN.out
          have d0 := DD.out.cell 0
          have d1 := DD.out.cell 1
          have d2 := DD.out.cell 2
          have k0 := KD.out.cell 0
          have k1 := KD.out.cell 1
          have kf := KD.out.free 1
          simp at d0 d1 d2 k0 k1
          have u1 := IN2.of nd
          have u2 := IN2.t0
          have hw1 : IntKind.i64.wrap (s2.now + s2.offs nd) = s2.now + s2.offs nd := IntWalk.i64_in _ (by have := PB.out; omega)
          obtain ⟨fo, q1, q2⟩ := RD.out.offs
          have LO := q1.look mt nd WN.out
          rw [q2] at LO
          clear he hs2 hR hM IN2 q1 q2 u1 u2 fo
          by_cases hst : (∃ u, s2.unt nd = some u) ∧ e = 0 ∧ kd ≠ 3
          · obtain ⟨⟨u, hu⟩, rfl, h3⟩ := hst
            have n3 : (kd != 3) = true := by simpa using h3
            obtain ⟨bm, hbm⟩ : ∃ b, decide (s2.now + s2.offs nd < u) = b := ⟨_, rfl⟩
            have AN := Lib.hid (show ans m long off s (kd, nd, nn) = (0, bm) by rw [AN0]; unfold may; rw [hu]; simp only [hbm]; rw [decide_eq_true h3]; simp)
            rw [hu] at LK
            have LK2 : (Option.some u).getD 0 = u := rfl
            simp only [Option.getD_some, Option.isSome_some] at LK
            have R8 := Lib.hid (show RSt (wc.alloc (.cells #[.int .i64 (0 : Int), .bool bm] 29)) gO s2 (k + 1) from RC.out.later (low_lit wc _))
            have TT8 := Lib.hid (TC.out.alloc (.cells #[.int .i64 (0 : Int), .bool bm] 29))
            have B8 := Lib.hid (BC.out.alloc (by have := SC.out; omega) (.cells #[.int .i64 (0 : Int), .bool bm] 29))
            have SZ8 := Lib.hid (show gO + 2 ≤ (wc.alloc (.cells #[.int .i64 (0 : Int), .bool bm] 29)).heap.size by simp; have := SC.out; omega)
            have TL8 := Lib.hid (TT8.out.alloc (.cells #[.int .i64 (0 : Int), .bool bm] 29))
            have RL8 := Lib.hid (lit_la wc (.cells #[.int .i64 (0 : Int), .bool bm] 29) ((0 : Int), bm))
            have SL8 := Lib.hid (show gO + 2 ≤ ((wc.alloc (.cells #[.int .i64 (0 : Int), .bool bm] 29)).alloc (.cells #[.int .i64 (0 : Int), .bool bm] 29)).heap.size by simp; have := SC.out; omega)
            clear AN0 hu h3 LK2
            go_wp2_with (at_builtin; refine wpList_append_gm elLA (by decide) rfl (.tmp 221) (.tmp 223) (by rfl) (n := k) (m := 1) (c := 1) (b := wc.heap.size + 1) (o' := 0) (v := .slice AO k c) (es := answers m long off L0 (l.take k)) (ys := [((0 : Int), bm)]) (AD := some ⟨wc.heap.size + 1, 0, none⟩) rfl rfl rfl TL8.out LN.out RL8.out rfl (by unfold maxLen; have := PB.out; omega) (by have := PB.out; omega) SL8.out ?_; intro A8 c8 w8 T8 G8)
            go_roundw
            case rel =>
              have hown : ∀ q, (Value.slice AO k c).ownBlock = some q → gO + 2 ≤ q := fun q hq => (TT8.out.lt q hq).1
              refine ⟨k + 1, s2, c8, A8, by omega, by go_num, by rw [run_take HT.out, ← HS.out, HS2.out], rfl, rfl, rfl, rfl, ?_, by rw [answers_take HT.out, ← HS.out, AN.out]; exact T8.out, ?_, ?_⟩
              · refine (R8.out.later (low_lit _ _)).kept G8.out (fun h => ?_) (fun h => ?_)
                · have := hown _ h.symm; omega
                · have := hown _ h.symm; omega
              · exact TL8.out.below G8.out (B8.out.alloc (by have := SZ8.out; omega) _) (by omega) (by have h := SZ8.out; simp at h ⊢; omega)
              · have h1 := G8.out.size
                have h2 := SZ8.out
                simp at h1 h2
                omega
            case measure => simp [intOf]; omega
          · have AN := Lib.hid (show ans m long off s (kd, nd, nn) = (e, false) by
              rw [AN0]
              congr 1
              by_cases h1 : e = 0
              · by_cases h2 : kd = 3
                · simp [h2]
                · have : s2.unt nd = none := by
                    cases hu : s2.unt nd with
                    | none => rfl
                    | some u => exact absurd ⟨⟨u, hu⟩, h1, h2⟩ hst
                  unfold may
                  rw [this]; simp
              · simp [h1])
            have R8 := Lib.hid (show RSt (wc.alloc (.cells #[.int .i64 e, .bool false] 29)) gO s2 (k + 1) from RC.out.later (low_lit wc _))
            have TT8 := Lib.hid (TC.out.alloc (.cells #[.int .i64 e, .bool false] 29))
            have B8 := Lib.hid (BC.out.alloc (by have := SC.out; omega) (.cells #[.int .i64 e, .bool false] 29))
            have SZ8 := Lib.hid (show gO + 2 ≤ (wc.alloc (.cells #[.int .i64 e, .bool false] 29)).heap.size by simp; have := SC.out; omega)
            have TL8 := Lib.hid (TT8.out.alloc (.cells #[.int .i64 e, .bool false] 29))
            have RL8 := Lib.hid (lit_la wc (.cells #[.int .i64 e, .bool false] 29) (e, false))
            have SL8 := Lib.hid (show gO + 2 ≤ ((wc.alloc (.cells #[.int .i64 e, .bool false] 29)).alloc (.cells #[.int .i64 e, .bool false] 29)).heap.size by simp; have := SC.out; omega)
            cases hu : s2.unt nd with
            | none =>
              rw [hu] at LK
              simp only [Option.getD_none, Option.isSome_none] at LK
              clear AN0 hu hst
              go_wp2_with (at_builtin; refine wpList_append_gm elLA (by decide) rfl (.tmp 221) (.tmp 223) (by rfl) (n := k) (m := 1) (c := 1) (b := wc.heap.size + 1) (o' := 0) (v := .slice AO k c) (es := answers m long off L0 (l.take k)) (ys := [(e, false)]) (AD := some ⟨wc.heap.size + 1, 0, none⟩) rfl rfl rfl TL8.out LN.out RL8.out rfl (by unfold maxLen; have := PB.out; omega) (by have := PB.out; omega) SL8.out ?_; intro A8 c8 w8 T8 G8)
              go_roundw
              case rel =>
                have hown : ∀ q, (Value.slice AO k c).ownBlock = some q → gO + 2 ≤ q := fun q hq => (TT8.out.lt q hq).1
                refine ⟨k + 1, s2, c8, A8, by omega, by go_num, by rw [run_take HT.out, ← HS.out, HS2.out], rfl, rfl, rfl, rfl, ?_, by rw [answers_take HT.out, ← HS.out, AN.out]; exact T8.out, ?_, ?_⟩
                · refine (R8.out.later (low_lit _ _)).kept G8.out (fun h => ?_) (fun h => ?_)
                  · have := hown _ h.symm; omega
                  · have := hown _ h.symm; omega
                · exact TL8.out.below G8.out (B8.out.alloc (by have := SZ8.out; omega) _) (by omega) (by have h := SZ8.out; simp at h ⊢; omega)
                · have h1 := G8.out.size
                  have h2 := SZ8.out
                  simp at h1 h2
                  omega
              case measure => simp [intOf]; omega
            | some u =>
              rw [hu] at LK
              simp only [Option.getD_some, Option.isSome_some] at LK
              by_cases h1 : e = 0
              · have h2 : kd = 3 := by
                  rcases Classical.em (kd = 3) with h | h
                  · exact h
                  · exact absurd ⟨⟨u, hu⟩, h1, h⟩ hst
                subst h1 h2
                clear AN0 hu hst
                go_wp2_with (at_builtin; refine wpList_append_gm elLA (by decide) rfl (.tmp 221) (.tmp 223) (by rfl) (n := k) (m := 1) (c := 1) (b := wc.heap.size + 1) (o' := 0) (v := .slice AO k c) (es := answers m long off L0 (l.take k)) (ys := [((0 : Int), false)]) (AD := some ⟨wc.heap.size + 1, 0, none⟩) rfl rfl rfl TL8.out LN.out RL8.out rfl (by unfold maxLen; have := PB.out; omega) (by have := PB.out; omega) SL8.out ?_; intro A8 c8 w8 T8 G8)
                go_roundw
                case rel =>
                  have hown : ∀ q, (Value.slice AO k c).ownBlock = some q → gO + 2 ≤ q := fun q hq => (TT8.out.lt q hq).1
                  refine ⟨k + 1, s2, c8, A8, by omega, by go_num, by rw [run_take HT.out, ← HS.out, HS2.out], rfl, rfl, rfl, rfl, ?_, by rw [answers_take HT.out, ← HS.out, AN.out]; exact T8.out, ?_, ?_⟩
                  · refine (R8.out.later (low_lit _ _)).kept G8.out (fun h => ?_) (fun h => ?_)
                    · have := hown _ h.symm; omega
                    · have := hown _ h.symm; omega
                  · exact TL8.out.below G8.out (B8.out.alloc (by have := SZ8.out; omega) _) (by omega) (by have h := SZ8.out; simp at h ⊢; omega)
                  · have h1 := G8.out.size
                    have h2 := SZ8.out
                    simp at h1 h2
                    omega
                case measure => simp [intOf]; omega
              · have n1 : (e == 0) = false := by simpa using h1
                clear AN0 hu hst h1
                go_wp2_with (at_builtin; refine wpList_append_gm elLA (by decide) rfl (.tmp 221) (.tmp 223) (by rfl) (n := k) (m := 1) (c := 1) (b := wc.heap.size + 1) (o' := 0) (v := .slice AO k c) (es := answers m long off L0 (l.take k)) (ys := [(e, false)]) (AD := some ⟨wc.heap.size + 1, 0, none⟩) rfl rfl rfl TL8.out LN.out RL8.out rfl (by unfold maxLen; have := PB.out; omega) (by have := PB.out; omega) SL8.out ?_; intro A8 c8 w8 T8 G8)
                go_roundw
                case rel =>
                  have hown : ∀ q, (Value.slice AO k c).ownBlock = some q → gO + 2 ≤ q := fun q hq => (TT8.out.lt q hq).1
                  refine ⟨k + 1, s2, c8, A8, by omega, by go_num, by rw [run_take HT.out, ← HS.out, HS2.out], rfl, rfl, rfl, rfl, ?_, by rw [answers_take HT.out, ← HS.out, AN.out]; exact T8.out, ?_, ?_⟩
                  · refine (R8.out.later (low_lit _ _)).kept G8.out (fun h => ?_) (fun h => ?_)
                    · have := hown _ h.symm; omega
                    · have := hown _ h.symm; omega
                  · exact TL8.out.below G8.out (B8.out.alloc (by have := SZ8.out; omega) _) (by omega) (by have h := SZ8.out; simp at h ⊢; omega)
                  · have h1 := G8.out.size
                    have h2 := SZ8.out
                    simp at h1 h2
                    omega
                case measure => simp [intOf]; omega
    · obtain rfl : n = k := by omega
      have E := Lib.hid (show l.take n = l from List.take_of_length_le (Nat.le_of_eq HL.out))
      rw [E.out] at TT
      clear hlt hk hB
      go_wp2
      go_ret2
      obtain ⟨A1, c1, e1, p1, p2⟩ := TT.out.form
      injection e1 with e5 e6 e1
      subst e1
      clear e5
      exact ⟨AO, c, rfl, ⟨by omega, by unfold maxLen at p2; omega⟩, TT.out.reads, HG.out ▸ BB.out⟩
end Go.Proofs.Yteneglbafngejaa.Le
