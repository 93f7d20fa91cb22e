/-
  Package lease: perform.
-/
import Derived.Test.YteneglbafngejaaLePe
namespace Go.Proofs.Yteneglbafngejaa.LeP
set_option linter.unusedVariables false
set_option linter.unusedSimpArgs false
open Go.RowKit Mem Gt Le

def anC (x : LA) : Array Value := #[.int .i64 x.1, .bool x.2]
def opC (o : LO) : Array Value := #[.int .i64 o.1, .int .i64 o.2.1, .int .i64 o.2.2]
structure Fr (B m : Nat) (long off : Int) (V : World) (o : LO) (x : LA) (p : Rs) (w : World) : Prop where
  room : B + 2 ≤ V.heap.size
  co : Co B m long off p w
  mv : Mv B V w
  op : Known w V.heap.size tOp (opC o)
  an : Known w (V.heap.size + 1) tAn (anC x)
theorem size2 : (Try.prog.info? 29).map (·.size) = some 2 := by kernel_rfl
section
variable {B m : Nat} {long off : Int} {V w w' : World} {o : LO} {x : LA} {p p' : Rs}
theorem Fr.start (h : Co B m long off p V) (o : LO) : Fr B m long off V o (0, false) p ((V.alloc (.cells (opC o) tOp)).alloc (.cells (anC (0, false)) tAn)) := by
  have k1 := Known.made V tOp (opC o)
  have k2 := Known.made (V.alloc (.cells (opC o) tOp)) tAn (anC (0, false))
  rw [show (V.alloc (.cells (opC o) tOp)).heap.size = V.heap.size + 1 by simp] at k2
  have h1 := h.later (low_lit V (.cells (opC o) tOp))
  exact ⟨h.size, h1.later (low_lit _ _), ((Mv.refl B V).low _).low _, k1.alloc _, k2⟩
theorem Fr.move (h : Fr B m long off V o x p w) (c : Co B m long off p' w') (mv : Mv B w w') : Fr B m long off V o x p' w' :=
  ⟨h.room, c, h.mv.trans mv, mv.known h.op (by have := h.room; omega) (by have := h.room; omega), mv.known h.an (by have := h.room; omega) (by have := h.room; omega)⟩
theorem Fr.put (h : Fr B m long off V o x p w) (j : Nat) (v : Value) (y : LA) (hy : (anC x).setIfInBounds j v = anC y) : Fr B m long off V o y p (w.setCell ⟨V.heap.size + 1, j, none⟩ v) := by
  have hr := h.room
  refine ⟨h.room, h.co.away (by omega) (by omega), h.mv.set (.inr (.inr (by omega))) j v, h.op.off (by show V.heap.size ≠ V.heap.size + 1; omega) v, ?_⟩
  have := h.an.put j v
  rw [hy] at this
  exact this
theorem Fr.put2 (h : Fr B m long off V o x p w) (y : LA) : Fr B m long off V o y p ((w.setCell ⟨V.heap.size + 1, 0, none⟩ (.int .i64 y.1)).setCell ⟨V.heap.size + 1, 1, none⟩ (.bool y.2)) :=
  (h.put 0 _ (y.1, x.2) rfl).put 1 _ y rfl
theorem Fr.ops (h : Fr B m long off V o x p w) : w.cell? ⟨V.heap.size, 0, none⟩ = some (.int .i64 o.1) ∧ w.cell? ⟨V.heap.size, 1, none⟩ = some (.int .i64 o.2.1) ∧ w.cell? ⟨V.heap.size, 2, none⟩ = some (.int .i64 o.2.2) := ⟨h.op.cell 0, h.op.cell 1, h.op.cell 2⟩
theorem Fr.a (h : Fr B m long off V o x p w) : w.cell? ⟨V.heap.size + 1, 0, none⟩ = some (.int .i64 x.1) ∧ w.cell? ⟨V.heap.size + 1, 1, none⟩ = some (.bool x.2) ∧ w.frozen? ⟨V.heap.size + 1, 0, none⟩ = false ∧ w.frozen? ⟨V.heap.size + 1, 1, none⟩ = false :=
  ⟨h.an.cell 0, h.an.cell 1, h.an.free 0, h.an.free 1⟩
theorem Fr.ret {fn : Func} {t : Tmp} (h : Fr B m long off V o x p w) (hf : fn.results = #[.cell t tAn]) (tmps : Array Value) (hp : tmps.getD t undef = .pointer (some ⟨V.heap.size + 1, 0, none⟩)) : (results fn tmps).run Try.prog w = .ok (.agg (anC x)) w :=
  results_cell_row hf _ _ (V.heap.size + 1) tAn _ (0, 0) _ hp h.an Try.underlying29 rfl size2
end
set_option maxRecDepth 100000 in
set_option maxHeartbeats 16000000 in
theorem perf_c (B m : Nat) (long off a b c : Int) (p : Rs) (V : World) (hm : m ≤ 16) (hbd : Bd off p) (ho : 0 ≤ off ∧ off ≤ 1048576) (hlo : 1 ≤ long ∧ long ≤ 1048576) (hc : Fit c) (h : Co B m long off p V) (xe : Int) (xm : Bool) (q : Rs) (hq : perfR m long off p (a, b, c) = ((xe, xm), q)) :
    Calls Try.prog 14 #[.pointer (some ⟨B + 1, 0, none⟩), .agg #[.int .i64 a, .int .i64 b, .int .i64 c]] V (fun e W' => e = .returned (.agg (anC (xe, xm))) ∧ Co B m long off q W' ∧ Mv B V W') := by
  have S0 := Lib.hid (Fr.start h (a, b, c))
  obtain ⟨w0, hw0⟩ : ∃ w0, w0 = (V.alloc (.cells (opC (a, b, c)) tOp)).alloc (.cells (anC (0, false)) tAn) := ⟨_, rfl⟩
  rw [← hw0] at S0
  have HW := Lib.hid (show w0 = (V.alloc (.cells #[.int .i64 a, .int .i64 b, .int .i64 c] tOp)).alloc (.cells #[.int .i64 0, .bool false] tAn) from hw0)
  obtain ⟨y0, y1, y2⟩ := S0.out.ops
  obtain ⟨a0, a1, f0, f1⟩ := S0.out.a
  simp only at y0 y1 y2 a0 a1
  clear h hw0
  by_cases h3 : a = 3
  · subst h3
    obtain ⟨⟨te, tq⟩, htr⟩ : ∃ r, tickR p c = r := ⟨_, rfl⟩
    obtain ⟨rfl, rfl, rfl⟩ : te = xe ∧ false = xm ∧ tq = q := by
      unfold perfR at hq
      rw [if_pos rfl] at hq
      simp only [htr] at hq
      injection hq with h1 h2
      injection h1 with h3 h4
      exact ⟨h3, h4, h2⟩
    have TC := Lib.hid (by have := tick_c B m long off c p w0 hbd hc S0.out.co; rw [htr] at this; exact this)
    clear hq htr hbd hc ho hlo hm
    go_enter Try.func14, Try.ntmps14
    go_upto_region 1 with fail
    rw [← HW.out]
    clear HW a0 a1 f0 f1
    go_wp2_with (go_at_call 15; refine TC.out.mono ?_; rintro e w1 ⟨rfl, hC, hM⟩; have M1 := Lib.hid (S0.out.move hC hM); obtain ⟨a0, a1, f0, f1⟩ := M1.out.a; simp only at a0 a1; have M3 := Lib.hid (M1.out.put2 (te, false)); clear hC hM M1 TC)
    refine bodyPost_ret (v := .agg (anC (te, false))) ?_ rfl ⟨rfl, M3.out.co, M3.out.mv⟩
    exact M3.out.ret rfl _ rfl
  · have e3 : (a == 3) = false := by simpa using h3
    obtain ⟨⟨x, nq⟩, hn⟩ : ∃ r, nodeR m long off p a b c = r := ⟨_, rfl⟩
    have NC := Lib.hid (node_c B m long off a b c p w0 hm hbd ho hlo S0.out.co x nq hn)
    rw [perf_node h3 hn] at hq
    by_cases hx : x = 0
    · subst hx
      rw [if_neg (by simp)] at hq
      obtain ⟨rfl, rfl, rfl⟩ : 0 = xe ∧ mayR nq b.toNat = xm ∧ nq = q := by
        injection hq with h1 h2
        injection h1 with h3 h4
        exact ⟨h3, h4, h2⟩
      have hb := node_zero hn
      obtain ⟨k, rfl⟩ : ∃ k : Nat, b = (k : Int) := ⟨b.toNat, by omega⟩
      rw [Int.toNat_natCast] at hq ⊢
      have hkm : k < m := by omega
      have BD : Bd off nq := by have := bd_node (m := m) (long := long) hbd a k c; rwa [hn] at this
      obtain ⟨r, hr⟩ : ∃ r, r = mayR nq k := ⟨_, rfl⟩
      have MC := Lib.hid (fun U (hU : Co B m long off nq U) => by have := may_c B m k long off nq U hkm BD ho hU; rw [← hr] at this; exact this)
      rw [← hr]
      clear hq hn hbd hc ho hlo hm h3 hb hkm BD hr
      go_enter Try.func14, Try.ntmps14
      go_upto_region 1 with fail
      rw [← HW.out]
      clear HW a0 a1 f0 f1
      go_wp2_with (first
        | (go_at_call 16; refine NC.out.mono ?_; rintro e w1 ⟨rfl, hC, hM⟩; have M1 := Lib.hid (S0.out.move hC hM); replace y1 := M1.out.ops.2.1; simp only at y1; have MD := Lib.hid (MC.out _ M1.out.co); clear hC hM NC y0 y2)
        | (go_at_call 17; refine MD.out.mono ?_; rintro e w2 ⟨rfl, j, rfl⟩; have M2 := Lib.hid (M1.out.move (M1.out.co.drewN j) ((Mv.refl B _).drewN j)); obtain ⟨a0, a1, f0, f1⟩ := M2.out.a; simp only at a0 a1; have M3 := Lib.hid (M2.out.put2 (0, r)); clear MD))
      refine bodyPost_ret (v := .agg (anC (0, r))) ?_ rfl ⟨rfl, M3.out.co, M3.out.mv⟩
      exact M3.out.ret rfl _ rfl
    · rw [if_pos hx] at hq
      obtain ⟨rfl, rfl, rfl⟩ : x = xe ∧ false = xm ∧ nq = q := by
        injection hq with h1 h2
        injection h1 with h3 h4
        exact ⟨h3, h4, h2⟩
      have ex : (x != 0) = true := by simpa using hx
      have ex' : (x == 0) = false := by simpa using hx
      clear hq hn hbd hc ho hlo hm h3 hx
      go_enter Try.func14, Try.ntmps14
      go_upto_region 1 with fail
      rw [← HW.out]
      clear HW a0 a1 f0 f1
      go_wp2_with (go_at_call 16; refine NC.out.mono ?_; rintro e w1 ⟨rfl, hC, hM⟩; have M1 := Lib.hid (S0.out.move hC hM); obtain ⟨a0, a1, f0, f1⟩ := M1.out.a; simp only at a0 a1; have M3 := Lib.hid (M1.out.put2 (x, false)); clear hC hM M1 NC)
      refine bodyPost_ret (v := .agg (anC (x, false))) ?_ rfl ⟨rfl, M3.out.co, M3.out.mv⟩
      exact M3.out.ret rfl _ rfl
end Go.Proofs.Yteneglbafngejaa.LeP
