/-
  Package straw: Draw, and the order of items by their straws.
-/
import Derived.Test.YtcbecpgllebepaaSwFr
import Derived.Test.YtcbecpgllebepaaMix
import Derived.Test.YtcbecpgllebepaaRegInv
import Derived.Deep.DrawnRows
import Derived.Deep.DeepCutAuto
import Derived.Sort.Grow
import Derived.RegionTactic
namespace Go.Proofs.Ytcbecpgllebepaa.Straw
set_option linter.unusedVariables false
set_option linter.unusedSimpArgs false
open Go.RowKit Mem
open Go.Sort (grow alloc_eq_grow grow_grow)

theorem word_val' (id : Int) : IntKind.u64.wrap id = ((word id).toNat : Int) := by
  unfold word
  rw [IntKind.wrap_u64, UInt64.toNat_ofNat', Nat.mod_eq_of_lt (by omega)]; omega
set_option maxHeartbeats 1000000 in
theorem draw_p (key : UInt64) (id : Int) (W : World) :
    Calls Try.prog 60 #[.int .u64 key.toNat, .int .i64 id] W fun e w' => e = .returned (.int .i64 (draw key id)) ∧ w' = W := by
  have wid := word_val' id
  have wid2 : id % 18446744073709551616 = ((word id).toNat : Int) := by rw [← wid, IntKind.wrap_u64]
  have E := Lib.hid (show draw key id = (Mix.two key (word id)).toNat / 281474976710656 + 1 from rfl)
  generalize hw : word id = wv at *
  have A1 := Lib.hid (fun V => Mix.two_c key wv V)
  generalize hd : Mix.two key wv = dv at *
  have lt := dv.toNat_lt
  have dv1 : ((dv.toNat : Int) / 281474976710656) = ((dv.toNat / 281474976710656 : Nat) : Int) := by omega
  have dv2 : (dv.toNat : Int).tdiv 281474976710656 = ((dv.toNat / 281474976710656 : Nat) : Int) := by rw [Int.tdiv_eq_ediv_of_nonneg (by omega)]; omega
  have qb : dv.toNat / 281474976710656 ≤ 65535 := by omega
  generalize hq : dv.toNat / 281474976710656 = q at *
  clear hw hd lt hq
  go_enter Try.func60, Try.ntmps60
  go_wp2_with (go_at_call 44; refine (A1.out _).mono ?_; rintro e w' ⟨rfl, rfl⟩)
  go_ret
  exact ⟨by rw [E.out]; rfl, rfl⟩

/-! ### The region of the two powers -/
def wh (b : Bool) (v : Value) : Value := if b then v else undef
def upd (L : Nat → Bool) (i : Nat) : Nat → Bool := fun k => if k = i then true else L k
/-- What stands when L has come up. -/
def Fr (A B : Value) (bk c0 c1 : Nat) (key : UInt64) (ia u ib v : Int) (da db : Nat) (s t : Value) (L : Nat → Bool) (pa pb : Nat) : Act :=
  { tmps := #[A, B, .pointer (some ⟨bk, 0, none⟩), .pointer (some ⟨c0, 0, none⟩), .pointer (some ⟨c1, 0, none⟩), .int .i64 0,
      wh (L 14) (.pointer (some ⟨pa, 0, none⟩)), wh (L 15) (.pointer (some ⟨pb, 0, none⟩)),
      wh (L 0) (.int .u64 key.toNat), wh (L 1) (.pointer (some ⟨c0, 0, none⟩)), wh (L 2) (.int .i64 ia), wh (L 3) (.int .i64 da), wh (L 4) (.pointer (some ⟨c1, 1, none⟩)), wh (L 5) (.int .i64 v), wh (L 6) s,
      wh (L 7) (.int .u64 key.toNat), wh (L 8) (.pointer (some ⟨c1, 0, none⟩)), wh (L 9) (.int .i64 ib), wh (L 10) (.int .i64 db), wh (L 11) (.pointer (some ⟨c0, 1, none⟩)), wh (L 12) (.int .i64 u), wh (L 13) t,
      undef, undef, undef, undef, undef, undef, undef, undef, undef, undef], defers := [] }
def St (W2 : World) (f g : Nat → Nat) (L : Nat → Bool) (pa pb : Nat) (w : World) : Prop :=
  Below W2.heap.size W2 w ∧ W2.drawn ≤ w.drawn ∧ (L 14 = true → W2.heap.size ≤ pa ∧ Frac w pa (if L 16 then f else fun _ => 0)) ∧ (L 15 = true → W2.heap.size ≤ pb ∧ Frac w pb (if L 17 then g else fun _ => 0)) ∧ (L 14 = true → L 15 = true → pa ≠ pb) ∧ (L 16 = true → L 14 = true) ∧ (L 17 = true → L 15 = true)
section
variable {W2 w w' : World} {f g : Nat → Nat} {L : Nat → Bool} {pa pb : Nat}
theorem St.next (h : St W2 f g L pa pb w) (hb : Below w.heap.size w w') (hd : w.drawn ≤ w'.drawn) : St W2 f g L pa pb w' := by
  obtain ⟨h1, h2, h3, h4, h5, h6⟩ := h
  exact ⟨h1.trans (hb.mono h1.size), Nat.le_trans h2 hd, fun e => ⟨(h3 e).1, (h3 e).2.later hb⟩, fun e => ⟨(h4 e).1, (h4 e).2.later hb⟩, h5, h6⟩
theorem St.newA (h : St W2 f g L pa pb w) (h14 : L 14 = false) : St W2 f g (upd L 14) w.heap.size pb (w.alloc (.cells (cells (fun _ => 0)) 92)) := by
  obtain ⟨h1, h2, h3, h4, h5, h6, h7⟩ := h
  have h16 : L 16 = false := by
    cases h : L 16 with
    | false => rfl
    | true => rw [h6 h] at h14; cases h14
  refine ⟨h1.alloc h1.size _, h2, fun _ => ⟨h1.size, ?_⟩, fun e => ⟨(h4 e).1, (h4 e).2.alloc _⟩, fun _ e he => ?_, fun _ => rfl, h7⟩
  · rw [show upd L 14 16 = L 16 from rfl, h16]
    exact Known.made _ _ _
  · have := (h4 e).2.lt
    omega
theorem St.newB (h : St W2 f g L pa pb w) (h15 : L 15 = false) : St W2 f g (upd L 15) pa w.heap.size (w.alloc (.cells (cells (fun _ => 0)) 92)) := by
  obtain ⟨h1, h2, h3, h4, h5, h6, h7⟩ := h
  have h17 : L 17 = false := by
    cases h : L 17 with
    | false => rfl
    | true => rw [h7 h] at h15; cases h15
  refine ⟨h1.alloc h1.size _, h2, fun e => ⟨(h3 e).1, (h3 e).2.alloc _⟩, fun _ => ⟨h1.size, ?_⟩, fun e _ he => ?_, h6, fun _ => rfl⟩
  · rw [show upd L 15 17 = L 17 from rfl, h17]
    exact Known.made _ _ _
  · have := (h3 e).2.lt
    omega
theorem St.putA (h : St W2 f g L pa pb w) (h14 : L 14 = true) : St W2 f g (upd L 16) pa pb (w.setRow pa (cells f)) := by
  obtain ⟨h1, h2, h3, h4, h5, h6, h7⟩ := h
  exact ⟨below_setRow h1 (h3 h14).1 _, h2, fun e => ⟨(h3 e).1, known_setRow (h3 e).2⟩, fun e => ⟨(h4 e).1, known_offRow (h4 e).2 (fun e' => h5 h14 e e'.symm)⟩, h5, fun _ => h14, h7⟩
theorem St.putB (h : St W2 f g L pa pb w) (h15 : L 15 = true) : St W2 f g (upd L 17) pa pb (w.setRow pb (cells g)) := by
  obtain ⟨h1, h2, h3, h4, h5, h6, h7⟩ := h
  exact ⟨below_setRow h1 (h4 h15).1 _, h2, fun e => ⟨(h3 e).1, known_offRow (h3 e).2 (fun e' => h5 e h15 e')⟩, fun e => ⟨(h4 e).1, known_setRow (h4 e).2⟩, h5, h6, fun _ => h15⟩
end
def lv (l : Array Bool) (k : Nat) : Bool := l[k]?.getD false
theorem upd_set {l : Array Bool} {i : Nat} (h : i < l.size) : lv (l.setIfInBounds i true) = upd (lv l) i := by
  funext k
  unfold upd lv
  by_cases hk : k = i
  · subst hk; simp [h]
  · rw [if_neg hk, Array.getElem?_setIfInBounds_ne (fun e => hk e.symm)]
def Inv1 (A B : Value) (bk c0 c1 : Nat) (key : UInt64) (ia u ib v : Int) (da db : Nat) (s t : Value) (W2 : World) (f g : Nat → Nat) (L : Nat → Bool) (a : Act) (w : World) : Prop :=
  ∃ pa pb, a = Fr A B bk c0 c1 key ia u ib v da db s t L pa pb ∧ St W2 f g L pa pb w
theorem step_of {P : Program} {ops : Array Oper} {Q : Exit → Act → World → Prop} {i : Nat} {o : Oper} {I : Act → World → Prop} {a : Act} {w : World} (hi : ops[i]? = some o) (hg : o.guard = none)
    (h : ∀ K : Act → World → Prop, Hid (∀ a' w', I a' w' → K a' w') → o.wp P a w K Q) : wpOp P ops Q i I a w := Reg.wpOp_plain hi hg (h I (Lib.hid fun _ _ h => h))
def Boxes' (bk c0 c1 : Nat) (key : UInt64) (ia u ib v : Int) (w : World) : Prop :=
  w.cell? ⟨bk, 0, none⟩ = some (.int .u64 key.toNat) ∧ w.cell? ⟨c0, 0, none⟩ = some (.int .i64 ia) ∧ w.cell? ⟨c0, 1, none⟩ = some (.int .i64 u) ∧ w.cell? ⟨c1, 0, none⟩ = some (.int .i64 ib) ∧ w.cell? ⟨c1, 1, none⟩ = some (.int .i64 v)
theorem boxes'_later {bk c0 c1 : Nat} {key : UInt64} {ia u ib v : Int} {w w' : World} (h : Boxes' bk c0 c1 key ia u ib v w) (hb : Below w.heap.size w w') : Boxes' bk c0 c1 key ia u ib v w' := by
  obtain ⟨h1, h2, h3, h4, h5⟩ := h
  exact ⟨(hb.cell (p := ⟨bk, 0, none⟩) (World.block_lt_of_cell? _ _ h1)).trans h1, (hb.cell (p := ⟨c0, 0, none⟩) (World.block_lt_of_cell? _ _ h2)).trans h2, (hb.cell (p := ⟨c0, 1, none⟩) (World.block_lt_of_cell? _ _ h3)).trans h3, (hb.cell (p := ⟨c1, 0, none⟩) (World.block_lt_of_cell? _ _ h4)).trans h4, (hb.cell (p := ⟨c1, 1, none⟩) (World.block_lt_of_cell? _ _ h5)).trans h5⟩
theorem boxes'_made {V : World} {bk : Nat} {key : UInt64} (ia u ib v : Int) (h : V.cell? ⟨bk, 0, none⟩ = some (.int .u64 key.toNat)) :
    Boxes' bk V.heap.size (V.heap.size + 1) key ia u ib v ((V.alloc (.cells #[.int .i64 ia, .int .i64 u] 47)).alloc (.cells #[.int .i64 ib, .int .i64 v] 47)) := by
  have hb : Below V.heap.size V ((V.alloc (.cells #[.int .i64 ia, .int .i64 u] 47)).alloc (.cells #[.int .i64 ib, .int .i64 v] 47)) := ((Below.refl _ _).alloc (Nat.le_refl _) _).alloc (by simp) _
  have k1 := (Known.made V 47 #[.int .i64 ia, .int .i64 u]).alloc (.cells #[.int .i64 ib, .int .i64 v] 47)
  have k2 := Known.made (V.alloc (.cells #[.int .i64 ia, .int .i64 u] 47)) 47 #[.int .i64 ib, .int .i64 v]
  rw [show (V.alloc (.cells #[.int .i64 ia, .int .i64 u] 47)).heap.size = V.heap.size + 1 by simp] at k2
  exact ⟨(hb.cell (p := ⟨bk, 0, none⟩) (World.block_lt_of_cell? _ _ h)).trans h, k1.cell 0, k1.cell 1, k2.cell 0, k2.cell 1⟩
theorem ready_nil {ops : Array Oper} {l : Array Bool} {i : Nat} {o : Oper} (hr : Region.ready .any ops l = []) (ho : ops[i]? = some o) (hz : l.size = ops.size) (hall : ∀ e ∈ o.after, Region.binds .any e = true → lv l e.on = true) : lv l i = true := by
  unfold lv at *
  have hi : i < l.size := by rw [hz]; exact (Array.getElem?_eq_some_iff.1 ho).1
  cases h : l[i] with
  | true => simp [hi, h]
  | false =>
    have : i ∈ Region.ready .any ops l := mem_ready.2 ⟨by simp [hi, h], o, ho, fun e he hb => by simpa using hall e he hb⟩
    rw [hr] at this; cases this
theorem newO (w : World) (t : TypeId) (cs : Array Value) (i : Nat) (v : Value) (h : cs[i]? = some v) : (w.alloc (.cells cs t)).drew.cell? ⟨w.heap.size, i, none⟩ = some v := ((Known.made w t cs).cell i).trans h
set_option maxRecDepth 100000 in
set_option maxHeartbeats 8000000 in
theorem ordS_c (bk : Nat) (key : UInt64) (ia ib : Int) (u v : Nat) (V : World) (hu : u ≤ 100) (hv : v ≤ 100) (hk : V.cell? ⟨bk, 0, none⟩ = some (.int .u64 key.toNat)) :
    Calls Try.prog 58 #[.agg #[.int .i64 ia, .int .i64 u], .agg #[.int .i64 ib, .int .i64 v], .pointer (some ⟨bk, 0, none⟩)] V
      fun e w' => e = .returned (.int .i64 (orI (cmpN (pw (draw key ib) u) (pw (draw key ia) v)) (Lib.compareInt ia ib))) ∧ Below V.heap.size V w' ∧ V.drawn ≤ w'.drawn := by
  have D1 := Lib.hid (fun X => draw_p key ia X)
  have D2 := Lib.hid (fun X => draw_p key ib X)
  have P1 := Lib.hid (fun X => pow_c (draw key ia) v X (draw_le key ia) hv)
  have P2 := Lib.hid (fun X => pow_c (draw key ib) u X (draw_le key ib) hu)
  have BX := Lib.hid (boxes'_made ia u ib v hk)
  have B0 := Lib.hid (show Below V.heap.size V ((V.alloc (.cells #[.int .i64 ia, .int .i64 u] 47)).alloc (.cells #[.int .i64 ib, .int .i64 v] 47)) from ((Below.refl _ _).alloc (Nat.le_refl _) _).alloc (by simp) _)
  have D0 := Lib.hid (show V.drawn ≤ ((V.alloc (.cells #[.int .i64 ia, .int .i64 u] 47)).alloc (.cells #[.int .i64 ib, .int .i64 v] 47)).drawn from Nat.le_refl _)
  have XL := Lib.hid (pw_lt (draw_le key ia) hv)
  have YL := Lib.hid (pw_lt (draw_le key ib) hu)
  generalize hda : draw key ia = da at *
  generalize hdb : draw key ib = db at *
  generalize hX : pw da v = X at *
  generalize hY : pw db u = Y at *
  generalize hf : dg X = f at *
  generalize hg : dg Y = g at *
  clear hda hdb hX hY
  have HF := Lib.hid hf
  have HG := Lib.hid hg
  clear hf hg
  go_enter Try.func58, Try.ntmps58
  go_upto_region 1 with fail
  have hz : ∀ w : World, (zeroValue 92).run Try.prog w = .ok (.agg (cells (fun _ => 0))) w := fun _ => by kernel_rfl
  generalize hW2 : (V.alloc (.cells #[.int .i64 ia, .int .i64 u] 47)).alloc (.cells #[.int .i64 ib, .int .i64 v] 47) = W2 at *
  clear hW2
  have CL := Lib.hid (show ∀ w, Below W2.heap.size W2 w → Boxes' bk V.heap.size (V.heap.size + 1) key ia u ib v w from fun w hb => boxes'_later BX.out hb)
  refine Reg.region_inv (by kernel_rfl) (fun l a w => Inv1 (.agg #[.int .i64 ia, .int .i64 u]) (.agg #[.int .i64 ib, .int .i64 v]) bk V.heap.size (V.heap.size + 1) key ia u ib v da db (.agg (cells f)) (.agg (cells g)) W2 f g (lv l) a w) ?_ ?_ ?_
  · exact ⟨0, 0, rfl, below_drew (Below.refl _ _), Nat.le_succ _, fun e => by simp [lv] at e, fun e => by simp [lv] at e, fun e => by simp [lv] at e, fun e => by simp [lv] at e, fun e => by simp [lv] at e⟩
  · intro l a w i o hsz hI ho hl hall
    obtain ⟨pa, pb, rfl, hS⟩ := hI
    have HS := Lib.hid hS
    obtain ⟨b1, b2, b3, b4, b5⟩ := CL.out _ hS.1
    have hi : i < 18 := (Array.getElem?_eq_some_iff.1 ho).1
    have hi2 : i < l.size := by rw [hsz]; exact hi
    simp only [upd_set hi2]
    simp only [Array.getD_eq_getD_getElem?] at hall hl
    have hL : lv l i = false := by unfold lv; simpa [hi2] using hl
    have hi3 : i = 0 ∨ i = 1 ∨ i = 2 ∨ i = 3 ∨ i = 4 ∨ i = 5 ∨ i = 6 ∨ i = 7 ∨ i = 8 ∨ i = 9 ∨ i = 10 ∨ i = 11 ∨ i = 12 ∨ i = 13 ∨ i = 14 ∨ i = 15 ∨ i = 16 ∨ i = 17 := by omega
    rcases hi3 with rfl | rfl | rfl | rfl | rfl | rfl | rfl | rfl | rfl | rfl | rfl | rfl | rfl | rfl | rfl | rfl | rfl | rfl
    · obtain rfl := Option.some.inj ho
      refine step_of rfl rfl ?_
      intro K HK
      unfold Fr
      go_simp
      exact HK.out _ _ ⟨pa, pb, by simp [Fr, upd, show ∀ v, wh true v = v from fun _ => rfl], HS.out⟩
    · obtain rfl := Option.some.inj ho
      refine step_of rfl rfl ?_
      intro K HK
      unfold Fr
      go_simp
      exact HK.out _ _ ⟨pa, pb, by simp [Fr, upd, show ∀ v, wh true v = v from fun _ => rfl], HS.out⟩
    · obtain rfl := Option.some.inj ho
      have q1 : lv l 1 = true := hall ⟨1, .data⟩ (by simp) rfl
      refine step_of rfl rfl ?_
      intro K HK
      unfold Fr
      simp only [q1, show ∀ v, wh true v = v from fun _ => rfl]
      go_simp
      exact HK.out _ _ ⟨pa, pb, by simp [Fr, upd, show ∀ v, wh true v = v from fun _ => rfl, q1], HS.out⟩
    · obtain rfl := Option.some.inj ho
      have q0 : lv l 0 = true := hall ⟨0, .data⟩ (by simp) rfl
      have q2 : lv l 2 = true := hall ⟨2, .data⟩ (by simp) rfl
      refine step_of rfl rfl ?_
      intro K HK
      unfold Fr
      simp only [q0, q2, show ∀ v, wh true v = v from fun _ => rfl]
      go_simp
      refine (D1.out _).mono ?_
      rintro e w' ⟨rfl, rfl⟩
      exact HK.out _ _ ⟨pa, pb, by simp [Fr, upd, show ∀ v, wh true v = v from fun _ => rfl, q0, q2], HS.out⟩
    · obtain rfl := Option.some.inj ho
      refine step_of rfl rfl ?_
      intro K HK
      unfold Fr
      go_simp
      exact HK.out _ _ ⟨pa, pb, by simp [Fr, upd, show ∀ v, wh true v = v from fun _ => rfl], HS.out⟩
    · obtain rfl := Option.some.inj ho
      have q4 : lv l 4 = true := hall ⟨4, .data⟩ (by simp) rfl
      refine step_of rfl rfl ?_
      intro K HK
      unfold Fr
      simp only [q4, show ∀ v, wh true v = v from fun _ => rfl]
      go_simp
      exact HK.out _ _ ⟨pa, pb, by simp [Fr, upd, show ∀ v, wh true v = v from fun _ => rfl, q4], HS.out⟩
    · obtain rfl := Option.some.inj ho
      have q3 : lv l 3 = true := hall ⟨3, .data⟩ (by simp) rfl
      have q5 : lv l 5 = true := hall ⟨5, .data⟩ (by simp) rfl
      refine step_of rfl rfl ?_
      intro K HK
      unfold Fr
      simp only [q3, q5, show ∀ v, wh true v = v from fun _ => rfl]
      go_simp
      refine (P1.out _).mono ?_
      rintro e w' ⟨rfl, hb, hd⟩
      exact HK.out _ _ ⟨pa, pb, by simp [Fr, upd, show ∀ v, wh true v = v from fun _ => rfl, q3, q5], HS.out.next hb hd⟩
    · obtain rfl := Option.some.inj ho
      refine step_of rfl rfl ?_
      intro K HK
      unfold Fr
      go_simp
      exact HK.out _ _ ⟨pa, pb, by simp [Fr, upd, show ∀ v, wh true v = v from fun _ => rfl], HS.out⟩
    · obtain rfl := Option.some.inj ho
      refine step_of rfl rfl ?_
      intro K HK
      unfold Fr
      go_simp
      exact HK.out _ _ ⟨pa, pb, by simp [Fr, upd, show ∀ v, wh true v = v from fun _ => rfl], HS.out⟩
    · obtain rfl := Option.some.inj ho
      have q8 : lv l 8 = true := hall ⟨8, .data⟩ (by simp) rfl
      refine step_of rfl rfl ?_
      intro K HK
      unfold Fr
      simp only [q8, show ∀ v, wh true v = v from fun _ => rfl]
      go_simp
      exact HK.out _ _ ⟨pa, pb, by simp [Fr, upd, show ∀ v, wh true v = v from fun _ => rfl, q8], HS.out⟩
    · obtain rfl := Option.some.inj ho
      have q7 : lv l 7 = true := hall ⟨7, .data⟩ (by simp) rfl
      have q9 : lv l 9 = true := hall ⟨9, .data⟩ (by simp) rfl
      refine step_of rfl rfl ?_
      intro K HK
      unfold Fr
      simp only [q7, q9, show ∀ v, wh true v = v from fun _ => rfl]
      go_simp
      refine (D2.out _).mono ?_
      rintro e w' ⟨rfl, rfl⟩
      exact HK.out _ _ ⟨pa, pb, by simp [Fr, upd, show ∀ v, wh true v = v from fun _ => rfl, q7, q9], HS.out⟩
    · obtain rfl := Option.some.inj ho
      refine step_of rfl rfl ?_
      intro K HK
      unfold Fr
      go_simp
      exact HK.out _ _ ⟨pa, pb, by simp [Fr, upd, show ∀ v, wh true v = v from fun _ => rfl], HS.out⟩
    · obtain rfl := Option.some.inj ho
      have q11 : lv l 11 = true := hall ⟨11, .data⟩ (by simp) rfl
      refine step_of rfl rfl ?_
      intro K HK
      unfold Fr
      simp only [q11, show ∀ v, wh true v = v from fun _ => rfl]
      go_simp
      exact HK.out _ _ ⟨pa, pb, by simp [Fr, upd, show ∀ v, wh true v = v from fun _ => rfl, q11], HS.out⟩
    · obtain rfl := Option.some.inj ho
      have q10 : lv l 10 = true := hall ⟨10, .data⟩ (by simp) rfl
      have q12 : lv l 12 = true := hall ⟨12, .data⟩ (by simp) rfl
      refine step_of rfl rfl ?_
      intro K HK
      unfold Fr
      simp only [q10, q12, show ∀ v, wh true v = v from fun _ => rfl]
      go_simp
      refine (P2.out _).mono ?_
      rintro e w' ⟨rfl, hb, hd⟩
      exact HK.out _ _ ⟨pa, pb, by simp [Fr, upd, show ∀ v, wh true v = v from fun _ => rfl, q10, q12], HS.out.next hb hd⟩
    · obtain rfl := Option.some.inj ho
      refine step_of rfl rfl ?_
      intro K HK
      unfold Fr
      go_simp
      exact HK.out _ _ ⟨w.heap.size, pb, by simp [Fr, upd, show ∀ v, wh true v = v from fun _ => rfl], HS.out.newA hL⟩
    · obtain rfl := Option.some.inj ho
      refine step_of rfl rfl ?_
      intro K HK
      unfold Fr
      go_simp
      exact HK.out _ _ ⟨pa, w.heap.size, by simp [Fr, upd, show ∀ v, wh true v = v from fun _ => rfl], HS.out.newB hL⟩
    · obtain rfl := Option.some.inj ho
      have q14 : lv l 14 = true := hall ⟨14, .data⟩ (by simp) rfl
      have q6 : lv l 6 = true := hall ⟨6, .data⟩ (by simp) rfl
      refine step_of rfl rfl ?_
      intro K HK
      unfold Fr
      simp only [q14, q6, show ∀ v, wh true v = v from fun _ => rfl]
      have hg := (HS.out.2.2.1 q14).2
      refine wp_store_row 92 _ _ rfl pa (cells f) rfl rfl 92 _ hg (by rw [cells_size]; exact sizeF) (by rw [cells_size, cells_size]) (cells_one _) ?_
      exact HK.out _ _ ⟨pa, pb, by simp [Fr, upd, show ∀ v, wh true v = v from fun _ => rfl, q14, q6]; rfl, HS.out.putA q14⟩
    · obtain rfl := Option.some.inj ho
      have q15 : lv l 15 = true := hall ⟨15, .data⟩ (by simp) rfl
      have q13 : lv l 13 = true := hall ⟨13, .data⟩ (by simp) rfl
      refine step_of rfl rfl ?_
      intro K HK
      unfold Fr
      simp only [q15, q13, show ∀ v, wh true v = v from fun _ => rfl]
      have hg := (HS.out.2.2.2.1 q15).2
      refine wp_store_row 92 _ _ rfl pb (cells g) rfl rfl 92 _ hg (by rw [cells_size]; exact sizeF) (by rw [cells_size, cells_size]) (cells_one _) ?_
      exact HK.out _ _ ⟨pa, pb, by simp [Fr, upd, show ∀ v, wh true v = v from fun _ => rfl, q15, q13]; rfl, HS.out.putB q15⟩
  · intro l a w hsz hI hr
    obtain ⟨pa, pb, rfl, hS⟩ := hI
    have q0 := ready_nil (i := 0) hr rfl hsz (by simp [Region.binds])
    have q1 := ready_nil (i := 1) hr rfl hsz (by simp [Region.binds, q0])
    have q2 := ready_nil (i := 2) hr rfl hsz (by simp [Region.binds, q0, q1])
    have q3 := ready_nil (i := 3) hr rfl hsz (by simp [Region.binds, q0, q1, q2])
    have q4 := ready_nil (i := 4) hr rfl hsz (by simp [Region.binds, q0, q1, q2, q3])
    have q5 := ready_nil (i := 5) hr rfl hsz (by simp [Region.binds, q0, q1, q2, q3, q4])
    have q6 := ready_nil (i := 6) hr rfl hsz (by simp [Region.binds, q0, q1, q2, q3, q4, q5])
    have q7 := ready_nil (i := 7) hr rfl hsz (by simp [Region.binds, q0, q1, q2, q3, q4, q5, q6])
    have q8 := ready_nil (i := 8) hr rfl hsz (by simp [Region.binds, q0, q1, q2, q3, q4, q5, q6, q7])
    have q9 := ready_nil (i := 9) hr rfl hsz (by simp [Region.binds, q0, q1, q2, q3, q4, q5, q6, q7, q8])
    have q10 := ready_nil (i := 10) hr rfl hsz (by simp [Region.binds, q0, q1, q2, q3, q4, q5, q6, q7, q8, q9])
    have q11 := ready_nil (i := 11) hr rfl hsz (by simp [Region.binds, q0, q1, q2, q3, q4, q5, q6, q7, q8, q9, q10])
    have q12 := ready_nil (i := 12) hr rfl hsz (by simp [Region.binds, q0, q1, q2, q3, q4, q5, q6, q7, q8, q9, q10, q11])
    have q13 := ready_nil (i := 13) hr rfl hsz (by simp [Region.binds, q0, q1, q2, q3, q4, q5, q6, q7, q8, q9, q10, q11, q12])
    have q14 := ready_nil (i := 14) hr rfl hsz (by simp [Region.binds, q0, q1, q2, q3, q4, q5, q6, q7, q8, q9, q10, q11, q12, q13])
    have q15 := ready_nil (i := 15) hr rfl hsz (by simp [Region.binds, q0, q1, q2, q3, q4, q5, q6, q7, q8, q9, q10, q11, q12, q13, q14])
    have q16 := ready_nil (i := 16) hr rfl hsz (by simp [Region.binds, q0, q1, q2, q3, q4, q5, q6, q7, q8, q9, q10, q11, q12, q13, q14, q15])
    have q17 := ready_nil (i := 17) hr rfl hsz (by simp [Region.binds, q0, q1, q2, q3, q4, q5, q6, q7, q8, q9, q10, q11, q12, q13, q14, q15, q16])
    unfold Fr
    simp only [q0, q1, q2, q3, q4, q5, q6, q7, q8, q9, q10, q11, q12, q13, q14, q15, q16, q17, show ∀ v, wh true v = v from fun _ => rfl]
    obtain ⟨b1, b2, b3, b4, b5⟩ := CL.out _ hS.1
    obtain ⟨s1, s2, s3, s4, _, _, _⟩ := hS
    obtain ⟨_, s3⟩ := s3 q14
    obtain ⟨_, s4⟩ := s4 q15
    rw [if_pos q16] at s3
    rw [if_pos q17] at s4
    have B1 := Lib.hid (B0.out.trans (s1.mono B0.out.size))
    have DR := Lib.hid (Nat.le_trans D0.out s2)
    have H1 : Hid (Calls Try.prog 62 #[.slice (some ⟨pb, 0, none⟩) 101 101, .slice (some ⟨pa, 0, none⟩) 101 101] w.drew fun e w' => e = .returned (.int .i64 (cmpN Y X)) ∧ w' = w.drew) :=
      Lib.hid ((compare_c pb pa Y X w.drew YL.out XL.out (fun i hi => by rw [HG.out]; exact s4.at_ hi) (fun i hi => by rw [HF.out]; exact s3.at_ hi)).mono fun _ _ ⟨a, b⟩ => ⟨a, b.symm⟩)
    have H2 := Lib.hid (fun V => Try.cmp_Compare_int ia ib V)
    generalize hc1 : cmpN Y X = c1 at *
    generalize hc2 : Lib.compareInt ia ib = c2 at *
    have E1 := Lib.hid hc1
    have E2 := Lib.hid hc2
    clear hc1 hc2 hz D1 D2 P1 P2 hr s1 s2 s3 s4 q0 q1 q2 q3 q4 q5 q6 q7 q8 q9 q10 q11 q12 q13 q14 q15 q16 q17
    go_wp2
    refine Mem.region_tail 8 (by kernel_rfl) (by kernel_rfl) ?_
    simp only [List.take_succ_cons, List.take_zero, List.drop_succ_cons, List.drop_zero]
    repeat (first | (refine wpStill_step (fun K hK => ?_); go_simp; (refine ⟨_, H1.out, hK _ ?_⟩); clear hK K) | (refine wpStill_step (fun K hK => ?_); go_simp; (refine ⟨_, H2.out _, hK _ ?_⟩); clear hK K) | still_step)
    refine wpStill_nil ?_
    go_wp2_with (go_at_call 61; refine (or_c c1 c2 _ _ (newO w _ #[.int .i64 c1, .int .i64 c2] 0 _ rfl) (newO w _ #[.int .i64 c1, .int .i64 c2] 1 _ rfl)).mono ?_; rintro e w' ⟨rfl, rfl⟩)
    go_ret
    exact ⟨by rw [E1.out, E2.out]; rfl, below_drew (B1.out.alloc B1.out.size _), Nat.le_succ_of_le DR.out⟩
/-! ### The order -/
/-- An item of a weight from 1 to 100. -/
abbrev Pos := { a : It // 0 < a.2 ∧ a.2 ≤ 100 }
instance : Inhabited Pos := ⟨⟨(0, 1), by decide⟩⟩
def ordS (key : UInt64) (a b : It) : Int := orI (cmpN (pw (draw key b.1) (wt a)) (pw (draw key a.1) (wt b))) (Lib.compareInt a.1 b.1)
theorem ordS_lt {key : UInt64} {a b : It} (ha : a.2 ≤ 100) (hb : b.2 ≤ 100) : decide (ordS key a b < 0) = longer key a b := by
  have hu : wt a ≤ 100 := by unfold wt; omega
  have hv : wt b ≤ 100 := by unfold wt; omega
  obtain ⟨h1, h2⟩ := pw_len (x := draw key a.1) (y := draw key b.1) hu hv
  rw [Bool.eq_iff_iff, decide_eq_true_iff, longer_iff, ← h1, @eq_comm _ (len (draw key a.1) (wt a) (wt b)), ← h2]
  unfold ordS orI
  generalize pw (draw key b.1) (wt a) = Y
  generalize pw (draw key a.1) (wt b) = X
  rcases Nat.lt_trichotomy Y X with h | h | h
  · rw [cmpN_lt h, if_neg (by omega)]
    constructor
    · intro _; exact .inl h
    · intro _; omega
  · rw [cmpN_eq h, if_pos rfl]
    unfold Lib.compareInt
    constructor
    · intro hh
      refine .inr ⟨h, ?_⟩
      split at hh
      · assumption
      · split at hh <;> omega
    · rintro (hh | ⟨_, hh⟩)
      · omega
      · rw [if_pos hh]; omega
  · rw [cmpN_gt h, if_neg (by omega)]
    constructor
    · intro hh; omega
    · rintro (hh | ⟨hh, _⟩) <;> omega
theorem ordS_it (bk : Nat) (key : UInt64) (a b : It) (V : World) (ha : 0 < a.2 ∧ a.2 ≤ 100) (hb : 0 < b.2 ∧ b.2 ≤ 100) (hk : V.cell? ⟨bk, 0, none⟩ = some (.int .u64 key.toNat)) :
    Calls Try.prog 58 #[.agg #[.int .i64 a.1, .int .i64 a.2], .agg #[.int .i64 b.1, .int .i64 b.2], .pointer (some ⟨bk, 0, none⟩)] V
      fun e w' => e = .returned (.int .i64 (ordS key a b)) ∧ Below V.heap.size V w' ∧ V.drawn ≤ w'.drawn := by
  have h := ordS_c bk key a.1 b.1 (wt a) (wt b) V (by rw [wt_of ha.1]; omega) (by rw [wt_of hb.1]; omega) hk
  have e1 : ((wt a : Nat) : Int) = a.2 := by rw [wt_of ha.1]; omega
  have e2 : ((wt b : Nat) : Int) = b.2 := by rw [wt_of hb.1]; omega
  rw [e1, e2] at h
  exact h
/-- A world that has grown. -/
theorem grown_of_below {W W' : World} (hb : Below W.heap.size W W') (hd : W.drawn ≤ W'.drawn) : ∃ q os, W' = grow (W.drewN q) os := by
  refine ⟨W'.drawn - W.drawn, W'.heap.extract W.heap.size W'.heap.size, ?_⟩
  obtain ⟨h1, h2, h3, h4, h5⟩ := hb
  obtain ⟨heap', tape', drawn', os', out'⟩ := W'
  obtain ⟨heap, tape, drawn, os, out⟩ := W
  dsimp only at *
  subst h1 h2 h3
  have e1 : drawn + (drawn' - drawn) = drawn' := by omega
  have e2 : heap ++ heap'.extract heap.size heap'.size = heap' := by
    refine Array.ext_getElem? fun i => ?_
    rcases Nat.lt_or_ge i heap.size with hi | hi
    · rw [Array.getElem?_append_left hi]; exact (h5 i hi).symm
    · rw [Array.getElem?_append_right hi, Array.getElem?_extract]
      by_cases hj : i < heap'.size
      · rw [if_pos (by omega)]
        congr 1; omega
      · rw [if_neg (by omega), Array.getElem?_eq_none (by omega)]
  show (⟨heap', tape', drawn', os', out'⟩ : World) = ⟨heap ++ heap'.extract heap.size heap'.size, tape', drawn + (drawn' - drawn), os', out'⟩
  rw [e1, e2]
end Go.Proofs.Ytcbecpgllebepaa.Straw
