/-
  The document's own answer on which straw is longer: the closure of HAll.
-/
import Derived.Test.YtcbecpgllebepaaSwRef
import Derived.Test.YtcbecpgllebepaaSwWrong
import Derived.Deep.RegionHeld3
import Derived.Deep.DrawnRows
import Derived.Deep.DeepCutAuto
namespace Go.Proofs.Ytcbecpgllebepaa.Straw
set_option linter.unusedVariables false
set_option linter.unusedSimpArgs false
open Go.RowKit Mem Big

def ptr (p : Nat) : Value := .pointer (some ⟨p, 0, none⟩)
/-- Two numbers of the call's own at x and y, and what each is to be multiplied by, if it is there already. -/
def Inv (W2 : World) (x y : Nat) (w : World) (nx ny : Nat) (q r : Option (Nat × Nat)) : Prop :=
  W2.heap.size ≤ x ∧ W2.heap.size ≤ y ∧ x ≠ y ∧ Below W2.heap.size W2 w ∧ Num w x nx ∧ Num w y ny ∧ (∀ p n, q = some (p, n) → Num w p n ∧ p ≠ x ∧ p ≠ y) ∧ ∀ p n, r = some (p, n) → Num w p n ∧ p ≠ x ∧ p ≠ y
section
variable {W2 w w' : World} {x y nx ny m : Nat} {q r : Option (Nat × Nat)} {e : Ending}
theorem Inv.below (h : Inv W2 x y w nx ny q r) : Below W2.heap.size W2 w := h.2.2.2.1
theorem Inv.drew (h : Inv W2 x y w nx ny q r) : Inv W2 x y w.drew nx ny q r := by
  obtain ⟨h1, h2, h3, h4, h5, h6, h7, h8⟩ := h
  have hb : Below w.heap.size w w.drew := below_drew (Below.refl _ _)
  exact ⟨h1, h2, h3, below_drew h4, h5.below hb, h6.below hb, fun p n e => ⟨(h7 p n e).1.below hb, (h7 p n e).2⟩, fun p n e => ⟨(h8 p n e).1.below hb, (h8 p n e).2⟩⟩
theorem Inv.p1 (h : Inv W2 x y w nx ny q r) (hf : Fresh m w e w') : ∃ p, e = .returned (.pointer (some ⟨p, 0, none⟩)) ∧ Inv W2 x y w' nx ny (some (p, m)) r := by
  obtain ⟨h1, h2, h3, h4, h5, h6, h7, h8⟩ := h
  obtain ⟨p, rfl, hp, hb, hn⟩ := hf
  have l5 := h5.lt
  have l6 := h6.lt
  exact ⟨p, rfl, h1, h2, h3, h4.trans (hb.mono h4.size), h5.below hb, h6.below hb, fun p' n e => by injection e with e; injection e with e1 e2; subst e1 e2; exact ⟨hn, by omega, by omega⟩, fun p n e => ⟨(h8 p n e).1.below hb, (h8 p n e).2⟩⟩
theorem Inv.p2 (h : Inv W2 x y w nx ny q r) (hf : Fresh m w e w') : ∃ p, e = .returned (.pointer (some ⟨p, 0, none⟩)) ∧ Inv W2 x y w' nx ny q (some (p, m)) := by
  obtain ⟨h1, h2, h3, h4, h5, h6, h7, h8⟩ := h
  obtain ⟨p, rfl, hp, hb, hn⟩ := hf
  have l5 := h5.lt
  have l6 := h6.lt
  exact ⟨p, rfl, h1, h2, h3, h4.trans (hb.mono h4.size), h5.below hb, h6.below hb, fun p n e => ⟨(h7 p n e).1.below hb, (h7 p n e).2⟩, fun p' n e => by injection e with e; injection e with e1 e2; subst e1 e2; exact ⟨hn, by omega, by omega⟩⟩
theorem Inv.mul1 {p : Nat} (h : Inv W2 x y w nx ny (some (p, m)) r) (hl : (digs nx).length + (digs m).length ≤ 35184372088832) :
    Calls Try.prog 48 #[.pointer (some ⟨x, 0, none⟩), .pointer (some ⟨x, 0, none⟩), .pointer (some ⟨p, 0, none⟩)] w fun e w' => e = .returned (.pointer (some ⟨x, 0, none⟩)) ∧ Inv W2 x y w' (nx * m) ny none r := by
  obtain ⟨h1, h2, h3, h4, h5, h6, h7, h8⟩ := h
  refine (mul_c x x p nx m w h5.slot h5 (h7 p m rfl).1 hl).mono ?_
  rintro e w' ⟨rfl, hg, hn⟩
  exact ⟨rfl, h1, h2, h3, h4.trans (below_of_new hg h1 h4.size), hn, h6.slotgrown hg h5.slot (fun e => h3 e.symm), (fun p n e => by cases e), fun p n e => ⟨(h8 p n e).1.slotgrown hg h5.slot (h8 p n e).2.1, (h8 p n e).2⟩⟩
theorem Inv.mul2 {p : Nat} (h : Inv W2 x y w nx ny q (some (p, m))) (hl : (digs ny).length + (digs m).length ≤ 35184372088832) :
    Calls Try.prog 48 #[.pointer (some ⟨y, 0, none⟩), .pointer (some ⟨y, 0, none⟩), .pointer (some ⟨p, 0, none⟩)] w fun e w' => e = .returned (.pointer (some ⟨y, 0, none⟩)) ∧ Inv W2 x y w' nx (ny * m) q none := by
  obtain ⟨h1, h2, h3, h4, h5, h6, h7, h8⟩ := h
  refine (mul_c y y p ny m w h6.slot h6 (h8 p m rfl).1 hl).mono ?_
  rintro e w' ⟨rfl, hg, hn⟩
  exact ⟨rfl, h1, h2, h3, h4.trans (below_of_new hg h2 h4.size), h5.slotgrown hg h6.slot h3, hn, fun p n e => ⟨(h7 p n e).1.slotgrown hg h6.slot (h7 p n e).2.2, (h7 p n e).2⟩, (fun p n e => by cases e)⟩
theorem Inv.cmp (h : Inv W2 x y w nx ny q r) (h1 : (digs nx).length ≤ 35184372088832) (h2 : (digs ny).length ≤ 35184372088832) :
    Calls Try.prog 49 #[.pointer (some ⟨x, 0, none⟩), .pointer (some ⟨y, 0, none⟩)] w fun e w' => e = .returned (.int .i64 (cmpInt nx ny)) ∧ Below W2.heap.size W2 w' := by
  refine (cmp_w x y nx ny w h.2.2.2.2.1 h.2.2.2.2.2.1 h1 h2).mono ?_
  rintro e w' ⟨rfl, hb⟩
  exact ⟨rfl, h.below.trans (hb.mono h.below.size)⟩
end
theorem mul_len {a b : Nat} (ha : a < 4294967296 ^ 101) (hb : b < 4294967296 ^ 101) : (digs (a * b)).length ≤ 202 := digs_len (by
  rw [show 202 = 101 + 101 by omega, Nat.pow_add]
  exact Nat.mul_lt_mul_of_lt_of_lt ha hb)
/-- The cells that the comparison reads. -/
def Boxes (bk c0 c1 : Nat) (key : UInt64) (ia u ib v : Int) (w : World) : Prop :=
  w.cell? ⟨bk, 0, none⟩ = some (.int .u64 key.toNat) ∧ w.cell? ⟨c0, 0, none⟩ = some (.int .i64 ia) ∧ w.cell? ⟨c0, 1, none⟩ = some (.int .i64 u) ∧ w.cell? ⟨c1, 0, none⟩ = some (.int .i64 ib) ∧ w.cell? ⟨c1, 1, none⟩ = some (.int .i64 v)
theorem boxes_later {bk c0 c1 : Nat} {key : UInt64} {ia u ib v : Int} {w w' : World} (h : Boxes bk c0 c1 key ia u ib v w) (hb : Below w.heap.size w w') : Boxes bk c0 c1 key ia u ib v w' := by
  obtain ⟨h1, h2, h3, h4, h5⟩ := h
  exact ⟨(hb.cell (p := ⟨bk, 0, none⟩) (World.block_lt_of_cell? _ _ h1)).trans h1, (hb.cell (p := ⟨c0, 0, none⟩) (World.block_lt_of_cell? _ _ h2)).trans h2, (hb.cell (p := ⟨c0, 1, none⟩) (World.block_lt_of_cell? _ _ h3)).trans h3, (hb.cell (p := ⟨c1, 0, none⟩) (World.block_lt_of_cell? _ _ h4)).trans h4, (hb.cell (p := ⟨c1, 1, none⟩) (World.block_lt_of_cell? _ _ h5)).trans h5⟩
theorem boxes_made {V : World} {bk : Nat} {key : UInt64} (ia u ib v : Int) (h : V.cell? ⟨bk, 0, none⟩ = some (.int .u64 key.toNat)) :
    Boxes bk V.heap.size (V.heap.size + 1) key ia u ib v ((V.alloc (.cells #[.int .i64 ia, .int .i64 u] 47)).alloc (.cells #[.int .i64 ib, .int .i64 v] 47)) := by
  have hb : Below V.heap.size V ((V.alloc (.cells #[.int .i64 ia, .int .i64 u] 47)).alloc (.cells #[.int .i64 ib, .int .i64 v] 47)) := ((Below.refl _ _).alloc (Nat.le_refl _) _).alloc (by simp) _
  have k1 := (Known.made V 47 #[.int .i64 ia, .int .i64 u]).alloc (.cells #[.int .i64 ib, .int .i64 v] 47)
  have k2 := Known.made (V.alloc (.cells #[.int .i64 ia, .int .i64 u] 47)) 47 #[.int .i64 ib, .int .i64 v]
  rw [show (V.alloc (.cells #[.int .i64 ia, .int .i64 u] 47)).heap.size = V.heap.size + 1 by simp] at k2
  exact ⟨(hb.cell (p := ⟨bk, 0, none⟩) (World.block_lt_of_cell? _ _ h)).trans h, k1.cell 0, k1.cell 1, k2.cell 0, k2.cell 1⟩
/-- What the first cut leaves; the second. -/
def One1 (W2 : World) (n : Nat) (v : Value) (w : World) : Prop := ∃ x, v = .pointer (some ⟨x, 0, none⟩) ∧ W2.heap.size ≤ x ∧ Below W2.heap.size W2 w ∧ Num w x n
def Two2 (W2 : World) (x n m : Nat) (v : Value) (w : World) : Prop := ∃ y, v = .pointer (some ⟨y, 0, none⟩) ∧ Inv W2 x y w n m none none
def aheadB (c ia ib : Int) : Bool := decide (0 < c ∨ c = 0 ∧ ia < ib)
set_option maxRecDepth 100000 in
set_option maxHeartbeats 8000000 in
theorem ahead_c (bk : Nat) (key : UInt64) (ia ib : Int) (u v : Nat) (V : World) (hu : u ≤ 100) (hv : v ≤ 100) (hk : V.cell? ⟨bk, 0, none⟩ = some (.int .u64 key.toNat)) :
    Calls Try.prog 45 #[.agg #[.int .i64 ia, .int .i64 u], .agg #[.int .i64 ib, .int .i64 v], .pointer (some ⟨bk, 0, none⟩)] V
      (Gave (.bool (aheadB (cmpInt (len (draw key ia) u v) (len (draw key ib) v u)) ia ib)) V) := by
  have D1 := Lib.hid (fun X => draw_c key ia X)
  have D2 := Lib.hid (fun X => draw_c key ib X)
  have P1 := Lib.hid (fun X => power_c (draw key ia) v (draw_le key ia) hv X)
  have P2 := Lib.hid (fun X => power_c (draw key ib) u (draw_le key ib) hu X)
  have P3 : Hid (∀ X, Calls Try.prog 46 #[.int .i64 65536, .int .i64 u] X (Fresh (65536 ^ u) X)) := fun X => power_c 65536 u (Nat.le_refl _) hu X
  have P4 : Hid (∀ X, Calls Try.prog 46 #[.int .i64 65536, .int .i64 v] X (Fresh (65536 ^ v) X)) := fun X => power_c 65536 v (Nat.le_refl _) hv X
  have la := pow_lt (draw_le key ia) (show v ≤ 200 by omega)
  have lb := pow_lt (draw_le key ib) (show u ≤ 200 by omega)
  have lu := pow_lt (x := 65536) (Nat.le_refl _) (show u ≤ 200 by omega)
  have lv := pow_lt (x := 65536) (Nat.le_refl _) (show v ≤ 200 by omega)
  have L1 := Lib.hid (show (digs (draw key ia ^ v)).length + (digs (65536 ^ u)).length ≤ 35184372088832 from Nat.le_trans (Nat.add_le_add (digs_len la) (digs_len lu)) (by omega))
  have L2 := Lib.hid (show (digs (draw key ib ^ u)).length + (digs (65536 ^ v)).length ≤ 35184372088832 from Nat.le_trans (Nat.add_le_add (digs_len lb) (digs_len lv)) (by omega))
  have L3 := Lib.hid (show (digs (draw key ia ^ v * 65536 ^ u)).length ≤ 35184372088832 from Nat.le_trans (mul_len la lu) (by omega))
  have L4 := Lib.hid (show (digs (draw key ib ^ u * 65536 ^ v)).length ≤ 35184372088832 from Nat.le_trans (mul_len lb lv) (by omega))
  have E := Lib.hid (show len (draw key ia) u v = draw key ia ^ v * 65536 ^ u ∧ len (draw key ib) v u = draw key ib ^ u * 65536 ^ v from ⟨rfl, rfl⟩)
  have BX := boxes_made ia u ib v hk
  have B0 := Lib.hid (show Below V.heap.size V ((V.alloc (.cells #[.int .i64 ia, .int .i64 u] 47)).alloc (.cells #[.int .i64 ib, .int .i64 v] 47)) from ((Below.refl _ _).alloc (Nat.le_refl _) _).alloc (by simp) _)
  generalize hda : draw key ia = da at *
  generalize hdb : draw key ib = db at *
  generalize h1 : da ^ v = n1 at *
  generalize h2 : db ^ u = n2 at *
  generalize h3 : 65536 ^ u = m1 at *
  generalize h4 : 65536 ^ v = m2 at *
  clear hda hdb h1 h2 h3 h4 la lb lu lv
  have BK := Lib.hid BX
  obtain ⟨b1, b2, b3, b4, b5⟩ := BX
  go_enter Try.func45, Try.ntmps45
  go_upto_region 1 with fail
  generalize hW2 : (V.alloc (.cells #[.int .i64 ia, .int .i64 u] 47)).alloc (.cells #[.int .i64 ib, .int .i64 v] 47) = W2 at *
  clear hW2
  have CL := Lib.hid (show ∀ w, Below W2.heap.size W2 w → Boxes bk V.heap.size (V.heap.size + 1) key ia u ib v w from fun w hb => boxes_later BK.out hb)
  go_cut [6] (fun vx wx => One1 W2 n1 vx wx)
  case first =>
    have K0 := Lib.hid (below_drew (Below.refl W2.heap.size W2))
    go_region_held3 (fun w' => w'.cell? ⟨bk, 0, none⟩ = some (.int .u64 key.toNat) ∧ w'.cell? ⟨V.heap.size, 0, none⟩ = some (.int .i64 ia) ∧ w'.cell? ⟨V.heap.size, 1, none⟩ = some (.int .i64 u) ∧ w'.cell? ⟨V.heap.size + 1, 0, none⟩ = some (.int .i64 ib) ∧ w'.cell? ⟨V.heap.size + 1, 1, none⟩ = some (.int .i64 v)) (first | go_keep | exact CL.out _ K0.out)
      (first
        | (go_at_call 47; refine (D1.out _).mono ?_; rintro e w3 ⟨rfl, hb⟩; replace K0 := Lib.hid (K0.out.trans (hb.mono K0.out.size)); clear hb)
        | (go_at_call 46; refine (P1.out _).mono ?_; rintro e w3 ⟨x, rfl, hx, hb, hnx⟩; have X1 := Lib.hid (show W2.heap.size ≤ x from Nat.le_trans K0.out.size hx); have NX := Lib.hid hnx; replace K0 := Lib.hid (K0.out.trans (hb.mono K0.out.size)); clear hb hx hnx))
    all_goals go_wp2_with fail
    all_goals go_meet
    all_goals exact ⟨_, rfl, X1.out, K0.out, NX.out⟩
  case rest =>
    obtain ⟨x, rfl, hx, hb, hnx⟩ := hcut
    obtain ⟨w3, rfl⟩ : ∃ w : World, w = wc := ⟨_, rfl⟩
    obtain ⟨b1, b2, b3, b4, b5⟩ := CL.out _ hb
    have X1 := Lib.hid hx
    have NX := Lib.hid hnx
    have K3 := Lib.hid hb
    clear hx hb hnx
    go_upto_region 2 with fail
    go_cut [7] (fun vx wx => Two2 W2 x n1 n2 vx wx)
    case first =>
      have K0 := Lib.hid (below_drew (Below.refl w3.heap.size w3))
      have CM := Lib.hid (show ∀ w, Below w3.heap.size w3 w → Boxes bk V.heap.size (V.heap.size + 1) key ia u ib v w from fun w hb => CL.out _ (K3.out.trans (hb.mono K3.out.size)))
      go_region_held3 (fun w' => w'.cell? ⟨bk, 0, none⟩ = some (.int .u64 key.toNat) ∧ w'.cell? ⟨V.heap.size, 0, none⟩ = some (.int .i64 ia) ∧ w'.cell? ⟨V.heap.size, 1, none⟩ = some (.int .i64 u) ∧ w'.cell? ⟨V.heap.size + 1, 0, none⟩ = some (.int .i64 ib) ∧ w'.cell? ⟨V.heap.size + 1, 1, none⟩ = some (.int .i64 v)) (first | go_keep | exact CM.out _ K0.out)
        (first
          | (go_at_call 47; refine (D2.out _).mono ?_; rintro e w4 ⟨rfl, hb⟩; replace K0 := Lib.hid (K0.out.trans (hb.mono K0.out.size)); clear hb)
          | (go_at_call 46; refine (P2.out _).mono ?_; rintro e w4 ⟨y, rfl, hy, hb, hny⟩; have Y1 := Lib.hid (show w3.heap.size ≤ y from Nat.le_trans K0.out.size hy); have NY := Lib.hid hny; replace K0 := Lib.hid (K0.out.trans (hb.mono K0.out.size)); clear hb hy hny))
      all_goals go_wp2_with fail
      all_goals go_meet
      all_goals exact ⟨_, rfl, X1.out, Nat.le_trans K3.out.size Y1.out, fun e => by have h1 := NX.out.lt; have h2 := Y1.out; omega, K3.out.trans (K0.out.mono K3.out.size), NX.out.below K0.out, NY.out, (fun p n e => by cases e), (fun p n e => by cases e)⟩
    case rest =>
      obtain ⟨y, rfl, hI⟩ := hcut
      obtain ⟨w4, rfl⟩ : ∃ w : World, w = wc := ⟨_, rfl⟩
      obtain ⟨b1, b2, b3, b4, b5⟩ := CL.out _ hI.below
      have I4 := Lib.hid hI
      clear hI
      go_upto_region 3 with fail
      go_cut [8] (fun vx wx => vx = .int .i64 (cmpInt (n1 * m1) (n2 * m2)) ∧ Below W2.heap.size W2 wx)
      case first =>
        have HI := Lib.hid I4.out.drew
        go_region_held3 (fun w' => w'.cell? ⟨bk, 0, none⟩ = some (.int .u64 key.toNat) ∧ w'.cell? ⟨V.heap.size, 0, none⟩ = some (.int .i64 ia) ∧ w'.cell? ⟨V.heap.size, 1, none⟩ = some (.int .i64 u) ∧ w'.cell? ⟨V.heap.size + 1, 0, none⟩ = some (.int .i64 ib) ∧ w'.cell? ⟨V.heap.size + 1, 1, none⟩ = some (.int .i64 v)) (first | go_keep | exact CL.out _ KC.out | exact CL.out _ HI.out.below)
          (first
            | ((with_reducible refine (P3.out _).mono ?_); intro e w5 hf; obtain ⟨p, rfl, hI⟩ := HI.out.p1 hf; replace HI := Lib.hid hI; clear hf hI)
            | ((with_reducible refine (P4.out _).mono ?_); intro e w5 hf; obtain ⟨p, rfl, hI⟩ := HI.out.p2 hf; replace HI := Lib.hid hI; clear hf hI)
            | ((with_reducible refine (HI.out.mul1 L1.out).mono ?_); rintro e w5 ⟨rfl, hI⟩; replace HI := Lib.hid hI; clear hI)
            | ((with_reducible refine (HI.out.mul2 L2.out).mono ?_); rintro e w5 ⟨rfl, hI⟩; replace HI := Lib.hid hI; clear hI)
            | ((with_reducible refine (HI.out.cmp L3.out L4.out).mono ?_); rintro e w5 ⟨rfl, hb⟩; have KC := Lib.hid hb; clear hb))
        all_goals go_wp2_with fail
        all_goals go_meet
        all_goals exact ⟨rfl, KC.out⟩
      case rest =>
        obtain ⟨rfl, hb⟩ := hcut
        obtain ⟨b1, b2, b3, b4, b5⟩ := CL.out _ hb
        have KB := Lib.hid (B0.out.trans (hb.mono B0.out.size))
        rw [← E.out.1, ← E.out.2] at *
        generalize hc : cmpInt (len da u v) (len db v u) = c at *
        clear hb hc E L1 L2 L3 L4
        by_cases c1 : 0 < c
        · have p1 : decide (0 < c) = true := decide_eq_true c1
          have EV := Lib.hid (show aheadB c ia ib = true from decide_eq_true (.inl c1))
          go_wp2
          go_ret
          exact ⟨by rw [EV.out]; rfl, KB.out⟩
        · have p1 : decide (0 < c) = false := decide_eq_false c1
          by_cases c2 : c = 0
          · subst c2
            by_cases c3 : ia < ib
            · have p3 : decide (ia < ib) = true := decide_eq_true c3
              have EV := Lib.hid (show aheadB 0 ia ib = true from decide_eq_true (.inr ⟨rfl, c3⟩))
              go_wp2
              go_ret
              exact ⟨by rw [EV.out]; rfl, KB.out⟩
            · have p3 : decide (ia < ib) = false := decide_eq_false c3
              have EV := Lib.hid (show aheadB 0 ia ib = false from decide_eq_false (by omega))
              go_wp2
              go_ret
              exact ⟨by rw [EV.out]; rfl, KB.out⟩
          · have p2 : (c == 0) = false := by simp [c2]
            have EV := Lib.hid (show aheadB c ia ib = false from decide_eq_false (by omega))
            clear c2
            go_wp2
            go_ret
            exact ⟨by rw [EV.out]; rfl, KB.out⟩
theorem cmp_pos (n m : Nat) : (0 < cmpInt n m ↔ m < n) ∧ (cmpInt n m = 0 ↔ n = m) := by
  unfold cmpInt
  constructor
  · split <;> (try split) <;> omega
  · split <;> (try split) <;> omega
/-- Of two items of positive weights. -/
theorem longer_c (bk : Nat) (key : UInt64) (a b : It) (V : World) (ha : 0 < a.2) (ha2 : a.2 ≤ 100) (hb : 0 < b.2) (hb2 : b.2 ≤ 100) (hk : V.cell? ⟨bk, 0, none⟩ = some (.int .u64 key.toNat)) :
    Calls Try.prog 45 #[.agg #[.int .i64 a.1, .int .i64 a.2], .agg #[.int .i64 b.1, .int .i64 b.2], .pointer (some ⟨bk, 0, none⟩)] V (Gave (.bool (longer key a b)) V) := by
  have h := ahead_c bk key a.1 b.1 (wt a) (wt b) V (by rw [wt_of ha]; omega) (by rw [wt_of hb]; omega) hk
  have e1 : ((wt a : Nat) : Int) = a.2 := by rw [wt_of ha]; omega
  have e2 : ((wt b : Nat) : Int) = b.2 := by rw [wt_of hb]; omega
  rw [e1, e2] at h
  have e3 : longer key a b = aheadB (cmpInt (len (draw key a.1) (wt a) (wt b)) (len (draw key b.1) (wt b) (wt a))) a.1 b.1 := by
    unfold aheadB
    rw [Bool.eq_iff_iff, longer_iff, decide_eq_true_iff, (cmp_pos _ _).1, (cmp_pos _ _).2]
  rw [e3]; exact h
end Go.Proofs.Ytcbecpgllebepaa.Straw
