/-
  The law LeaseAgain over what it takes of the program.
-/
import Derived.Test.YteneglbafngejaaLeEndW
import Derived.Deep.RegionHeld3
import Derived.Deep.DeepCutAuto
import Derived.Test.YteneglbafngejaaRegInv
import Derived.Deep.DrawnRows
import Derived.RegionTactic
import Derived.Laws.Tables
namespace Go.Proofs.Yteneglbafngejaa.Le
set_option linter.unusedVariables false
set_option linter.unusedSimpArgs false
open Go.RowKit Mem Gt

theorem bl_alloc {W V : World} (h : Below W.heap.size W V) (o : Obj) : Below W.heap.size W (V.alloc o) := h.alloc h.size o
theorem bl_drew {W V : World} (h : Below W.heap.size W V) : Below W.heap.size W V.drew := ⟨h.os, h.tape, h.output, h.size, h.block⟩
theorem bl_set {W V : World} (h : Below W.heap.size W V) {g o : Nat} (hg : W.heap.size ≤ g) (u : Value) : Below W.heap.size W (V.setCell ⟨g, o, none⟩ u) := h.setCell hg u
/-! ### The region of the three answers that are copied -/
theorem known_setRow {W : World} {g : Nat} {t : TypeId} {old cs : Array Value} (h : Known W g t old) : Known (W.setRow g cs) g t cs := setRow_heap W g old cs t (0, 0) h
theorem known_offRow {W : World} {g k : Nat} {t : TypeId} {old cs : Array Value} (h : Known W g t old) (hk : g ≠ k) : Known (W.setRow k cs) g t old := (setRow_other W k g cs hk).trans h
theorem below_setRow {B : Nat} {W V : World} (h : Below B W V) {g : Nat} (hg : B ≤ g) (cs : Array Value) : Below B W (V.setRow g cs) :=
  ⟨h.os, h.tape, h.output, by simpa using h.size, fun k hk => (setRow_other V g k cs (by omega)).trans (h.block k hk)⟩
theorem gen_act {c : Code} {P : Program} {Q : Exit → Act → World → Prop} {w : World} (F : Act) (h : ∀ G : Act, Hid (G = F) → c.wp P Q G w) : c.wp P Q F w := h F (Lib.hid rfl)
def wh (b : Bool) (v : Value) : Value := if b then v else undef
theorem wh_true (v : Value) : wh true v = v := rfl
def upd (L : Nat → Bool) (i : Nat) : Nat → Bool := fun k => if k = i then true else L k
def lv (l : Array Bool) (k : Nat) : Bool := l[k]?.getD false
theorem upd_set {l : Array Bool} {i : Nat} (h : i < l.size) : lv (l.setIfInBounds i true) = upd (lv l) i := by
  funext k
  unfold upd lv
  by_cases hk : k = i
  · subst hk; simp [h]
  · rw [if_neg hk, Array.getElem?_setIfInBounds_ne (fun e => hk e.symm)]
theorem step_of {P : Program} {ops : Array Oper} {Q : Exit → Act → World → Prop} {i : Nat} {o : Oper} {I : Act → World → Prop} {a : Act} {w : World} (hi : ops[i]? = some o) (hg : o.guard = none)
    (h : ∀ K : Act → World → Prop, Hid (∀ a' w', I a' w' → K a' w') → o.wp P a w K Q) : wpOp P ops Q i I a w := Reg.wpOp_plain hi hg (h I (Lib.hid fun _ _ h => h))
theorem ready_nil {ops : Array Oper} {l : Array Bool} {i : Nat} {o : Oper} (hr : Region.ready .any ops l = []) (ho : ops[i]? = some o) (hz : l.size = ops.size) (hall : ∀ e ∈ o.after, Region.binds .any e = true → lv l e.on = true) : lv l i = true := by
  unfold lv at *
  have hi : i < l.size := by rw [hz]; exact (Array.getElem?_eq_some_iff.1 ho).1
  cases h : l[i] with
  | true => simp [hi, h]
  | false =>
    have : i ∈ Region.ready .any ops l := mem_ready.2 ⟨by simp [hi, h], o, ho, fun e he hb => by simpa using hall e he hb⟩
    rw [hr] at this; cases this
/-- What stands when L has come up. -/
def Fr (e : Nat → Value) (A : Option Addr) (n ca bb o c5 : Nat) (x0 : Int) (x1 : Bool) (z0 : Int) (z1 : Bool) (L : Nat → Bool) (pa pb pc : Nat) : Act :=
  { tmps := #[e 0, e 1, e 2, .slice A n ca, e 4, e 5, e 6, e 7, e 8, e 9, e 10, .slice (some ⟨bb, o, none⟩) (n + 3) c5, e 12, wh (L 17) (.pointer (some ⟨pa, 0, none⟩)), wh (L 18) (.pointer (some ⟨pb, 0, none⟩)), wh (L 19) (.pointer (some ⟨pc, 0, none⟩)), e 16, e 17, e 18, e 19, e 20, e 21, e 22, e 23, e 24, e 25, e 26, e 27, e 28, e 29, e 30, e 31, e 32, e 33, e 34, e 35, e 36, e 37, e 38, e 39, e 40, e 41, e 42, e 43, e 44, e 45, e 46, e 47, e 48, e 49, e 50, e 51, e 52, e 53, e 54, e 55, e 56, e 57, e 58, wh (L 0) (.slice (some ⟨bb, o, none⟩) (n + 3) c5), wh (L 1) (.slice A n ca), wh (L 2) (.int .i64 (n : Int)), wh (L 3) (.pointer (some ⟨bb, o + n * 2, none⟩)), wh (L 4) (.agg #[.int .i64 x0, .bool x1]), wh (L 5) (.slice (some ⟨bb, o, none⟩) (n + 3) c5), wh (L 6) (.slice A n ca), wh (L 7) (.int .i64 (n : Int)), wh (L 8) (.int .i64 ((n + 1 : Nat) : Int)), wh (L 9) (.pointer (some ⟨bb, o + (n + 1) * 2, none⟩)), wh (L 10) (.agg #[.int .i64 x0, .bool x1]), wh (L 11) (.slice (some ⟨bb, o, none⟩) (n + 3) c5), wh (L 12) (.slice A n ca), wh (L 13) (.int .i64 (n : Int)), wh (L 14) (.int .i64 ((n + 2 : Nat) : Int)), wh (L 15) (.pointer (some ⟨bb, o + (n + 2) * 2, none⟩)), wh (L 16) (.agg #[.int .i64 z0, .bool z1]), undef, undef, undef, undef, undef, undef, undef, undef, undef, undef, undef, undef, undef, undef, undef, undef, undef, undef, undef, undef, undef, undef], defers := [] }
def zA : Array Value := #[.int .i64 0, .bool false]
def laC (x : Int) (y : Bool) : Array Value := #[.int .i64 x, .bool y]
def St (W2 : World) (f g h : Array Value) (L : Nat → Bool) (pa pb pc : Nat) (w : World) : Prop :=
  Below W2.heap.size W2 w ∧ (L 17 = true → W2.heap.size ≤ pa ∧ Known w pa 29 (if L 20 then f else zA)) ∧ (L 18 = true → W2.heap.size ≤ pb ∧ Known w pb 29 (if L 21 then g else zA)) ∧ (L 19 = true → W2.heap.size ≤ pc ∧ Known w pc 29 (if L 22 then h else zA))
    ∧ (L 17 = true → L 18 = true → pa ≠ pb) ∧ (L 17 = true → L 19 = true → pa ≠ pc) ∧ (L 18 = true → L 19 = true → pb ≠ pc) ∧ (L 20 = true → L 17 = true) ∧ (L 21 = true → L 18 = true) ∧ (L 22 = true → L 19 = true)
section
variable {W2 w : World} {f g h : Array Value} {L : Nat → Bool} {pa pb pc : Nat}
theorem off_of {i j : Nat} (h : L i = true → L j = true) (hj : L j = false) : L i = false := by
  cases hi : L i with
  | false => rfl
  | true => rw [h hi] at hj; cases hj
theorem St.newA (H : St W2 f g h L pa pb pc w) (ha : L 17 = false) : St W2 f g h (upd L 17) w.heap.size pb pc (w.alloc (.cells zA 29)) := by
  obtain ⟨h1, h2, h3, h4, h5, h6, h7, h8, h9, h10⟩ := H
  have hs : L 20 = false := off_of h8 ha
  exact ⟨h1.alloc h1.size _, fun _ => ⟨h1.size, by rw [show upd L 17 20 = L 20 from rfl, hs]; exact Known.made _ _ _⟩, fun e => ⟨(h3 e).1, (h3 e).2.alloc _⟩, fun e => ⟨(h4 e).1, (h4 e).2.alloc _⟩, fun _ e he => by have := (h3 e).2.lt; omega, fun _ e he => by have := (h4 e).2.lt; omega, h7, fun _ => rfl, h9, h10⟩
theorem St.putA (H : St W2 f g h L pa pb pc w) (ha : L 17 = true) : St W2 f g h (upd L 20) pa pb pc (w.setRow pa f) := by
  obtain ⟨h1, h2, h3, h4, h5, h6, h7, h8, h9, h10⟩ := H
  exact ⟨below_setRow h1 (h2 ha).1 _, fun e => ⟨(h2 e).1, known_setRow (h2 e).2⟩, fun e => ⟨(h3 e).1, known_offRow (h3 e).2 (fun e' => h5 ha e e'.symm)⟩, fun e => ⟨(h4 e).1, known_offRow (h4 e).2 (fun e' => h6 ha e e'.symm)⟩, h5, h6, h7, fun _ => ha, h9, h10⟩
theorem St.newB (H : St W2 f g h L pa pb pc w) (ha : L 18 = false) : St W2 f g h (upd L 18) pa w.heap.size pc (w.alloc (.cells zA 29)) := by
  obtain ⟨h1, h2, h3, h4, h5, h6, h7, h8, h9, h10⟩ := H
  have hs : L 21 = false := off_of h9 ha
  exact ⟨h1.alloc h1.size _, fun e => ⟨(h2 e).1, (h2 e).2.alloc _⟩, fun _ => ⟨h1.size, by rw [show upd L 18 21 = L 21 from rfl, hs]; exact Known.made _ _ _⟩, fun e => ⟨(h4 e).1, (h4 e).2.alloc _⟩, fun e _ he => by have := (h2 e).2.lt; omega, h6, fun _ e he => by have := (h4 e).2.lt; omega, h8, fun _ => rfl, h10⟩
theorem St.putB (H : St W2 f g h L pa pb pc w) (ha : L 18 = true) : St W2 f g h (upd L 21) pa pb pc (w.setRow pb g) := by
  obtain ⟨h1, h2, h3, h4, h5, h6, h7, h8, h9, h10⟩ := H
  exact ⟨below_setRow h1 (h3 ha).1 _, fun e => ⟨(h2 e).1, known_offRow (h2 e).2 (fun e' => h5 e ha e')⟩, fun e => ⟨(h3 e).1, known_setRow (h3 e).2⟩, fun e => ⟨(h4 e).1, known_offRow (h4 e).2 (fun e' => h7 ha e e'.symm)⟩, h5, h6, h7, h8, fun _ => ha, h10⟩
theorem St.newC (H : St W2 f g h L pa pb pc w) (ha : L 19 = false) : St W2 f g h (upd L 19) pa pb w.heap.size (w.alloc (.cells zA 29)) := by
  obtain ⟨h1, h2, h3, h4, h5, h6, h7, h8, h9, h10⟩ := H
  have hs : L 22 = false := off_of h10 ha
  exact ⟨h1.alloc h1.size _, fun e => ⟨(h2 e).1, (h2 e).2.alloc _⟩, fun e => ⟨(h3 e).1, (h3 e).2.alloc _⟩, fun _ => ⟨h1.size, by rw [show upd L 19 22 = L 22 from rfl, hs]; exact Known.made _ _ _⟩, h5, fun e _ he => by have := (h2 e).2.lt; omega, fun e _ he => by have := (h3 e).2.lt; omega, h8, h9, fun _ => rfl⟩
theorem St.putC (H : St W2 f g h L pa pb pc w) (ha : L 19 = true) : St W2 f g h (upd L 22) pa pb pc (w.setRow pc h) := by
  obtain ⟨h1, h2, h3, h4, h5, h6, h7, h8, h9, h10⟩ := H
  exact ⟨below_setRow h1 (h4 ha).1 _, fun e => ⟨(h2 e).1, known_offRow (h2 e).2 (fun e' => h6 e ha e')⟩, fun e => ⟨(h3 e).1, known_offRow (h3 e).2 (fun e' => h7 e ha e')⟩, fun e => ⟨(h4 e).1, known_setRow (h4 e).2⟩, h5, h6, h7, h8, h9, fun _ => ha⟩
end
def Inv8 (e : Nat → Value) (A : Option Addr) (n ca bb o c5 : Nat) (x0 : Int) (x1 : Bool) (z0 : Int) (z1 : Bool) (W2 : World) (L : Nat → Bool) (a : Act) (w : World) : Prop :=
  ∃ pa pb pc, a = Fr e A n ca bb o c5 x0 x1 z0 z1 L pa pb pc ∧ St W2 (laC x0 x1) (laC x0 x1) (laC z0 z1) L pa pb pc w
theorem laC_one (x : Int) (y : Bool) : (laC x y).all (·.oneCell') = true := by simp [laC, Value.oneCell']
theorem size29 : (Try.prog.info? 29).map (·.size) = some 2 := by kernel_rfl
set_option maxRecDepth 100000 in
set_option maxHeartbeats 16000000 in
theorem again_w (hP : PlaySpec) (m long off : Int) (A : Option Addr) (l : List LO) (n ca : Nat) (who : Int) (W : World) (hm : Fit m) (hlo : Fit long) (hof : Fit off) (hn : l.length = n) (hbig : n ≤ 5864062014805) (hx : Reads W A (flat loE l)) (hf : FitOs l) (hwh : Fit who) :
    Calls Try.prog 6 #[.int .i64 m, .int .i64 long, .int .i64 off, .slice A n ca, .int .i64 who] W (Law.Yes W) := by
  have AL := Lib.hid (fun V => alive_c hP V)
  by_cases h5 : who < 0
  · clear hx hf hn hm hlo hof hwh
    go_enter Try.func6, Try.ntmps6
    go_wp2_with fail
    refine (AL.out _).mono ?_
    rintro e w1 ⟨rfl, hb⟩
    have B1 := Lib.hid hb
    clear hb
    go_wp2
    go_ret
    exact ⟨rfl, B1.out⟩
  by_cases h6 : m ≤ who
  · clear hx hf hn hm hlo hof hwh
    go_enter Try.func6, Try.ntmps6
    go_wp2_with fail
    refine (AL.out _).mono ?_
    rintro e w1 ⟨rfl, hb⟩
    have B1 := Lib.hid hb
    clear hb
    go_wp2
    go_ret
    exact ⟨rfl, B1.out⟩
  by_cases h7 : (397 : Int) < (n : Int)
  · clear hx hf hn hm hlo hof hwh
    go_enter Try.func6, Try.ntmps6
    go_wp2_with fail
    refine (AL.out _).mono ?_
    rintro e w1 ⟨rfl, hb⟩
    have B1 := Lib.hid hb
    clear hb
    go_wp2
    go_ret
    exact ⟨rfl, B1.out⟩
  have wn3 : IntKind.i64.wrap ((n : Int) + 3) = ((n + 3 : Nat) : Int) := by rw [show (n : Int) + 3 = ((n + 3 : Nat) : Int) by omega]; exact IntWalk.i64_in _ (by omega)
  have wn2 : IntKind.i64.wrap ((n : Int) + 2) = ((n + 2 : Nat) : Int) := by rw [show (n : Int) + 2 = ((n + 2 : Nat) : Int) by omega]; exact IntWalk.i64_in _ (by omega)
  have wn1 : IntKind.i64.wrap ((n : Int) + 1) = ((n + 1 : Nat) : Int) := by rw [show (n : Int) + 1 = ((n + 1 : Nat) : Int) by omega]; exact IntWalk.i64_in _ (by omega)
  have N397 := Lib.hid (show n ≤ 397 by omega)
  have CL := Lib.hid (fun V (h : Below W.heap.size W V) => clone_lo A l n ca V hn (by omega) (hx.below h))
  obtain ⟨k, hk⟩ : ∃ k, playE m long off (n + 3) = k := ⟨_, rfl⟩
  have LN := Lib.hid (show (l ++ [((1 : Int), who, (0 : Int)), ((1 : Int), who, (0 : Int)), ((2 : Int), who, (0 : Int))]).length = n + 3 by simp [hn])
  obtain ⟨al, hal⟩ : ∃ al, playL m long off (l ++ [((1 : Int), who, (0 : Int)), ((1 : Int), who, (0 : Int)), ((2 : Int), who, (0 : Int))]) = al := ⟨_, rfl⟩
  obtain ⟨na, hna⟩ : ∃ na, al.length = na := ⟨_, rfl⟩
  have FF : FitOs (l ++ [((1 : Int), who, (0 : Int)), ((1 : Int), who, (0 : Int)), ((2 : Int), who, (0 : Int))]) := fit_app hf (fun o ho => by
    simp only [List.mem_cons, List.mem_singleton, List.not_mem_nil, or_false] at ho
    unfold FitO Fit
    unfold Fit at hwh
    rcases ho with rfl | rfl | rfl <;> simp only <;> omega)
  have P1 := Lib.hid (fun B c V (h : Reads V B (flat loE (l ++ [((1 : Int), who, (0 : Int)), ((1 : Int), who, (0 : Int)), ((2 : Int), who, (0 : Int))]))) => hP m long off B _ (n + 3) c V al na k hm hlo hof LN.out (by omega) h FF hk hal hna)
  have HN := Lib.hid hn
  have HAL := Lib.hid hal
  have HNA := Lib.hid hna
  have HK := Lib.hid hk
  have HW := Lib.hid (show 0 ≤ who ∧ who < m by omega)
  clear hx hf hn hm hlo hof hwh hal hna hbig FF
  go_enter Try.func6, Try.ntmps6
  go_wp2_with fail
  refine (AL.out _).mono ?_
  rintro e w1 ⟨rfl, hb⟩
  have B1 := Lib.hid hb
  clear hb
  go_wp2_with fail
  refine (CL.out w1 B1.out).mono ?_
  rintro e w2 ⟨A2, c2, rfl, hT, hb⟩
  have B2 := Lib.hid (B1.out.trans (hb.mono B1.out.size))
  have T2 := Lib.hid (hT.down (B' := W.heap.size) B1.out.size)
  clear hT hb
  have T3 := Lib.hid (T2.out.alloc (.cells #[.int .i64 1, .int .i64 who, .int .i64 0, .int .i64 1, .int .i64 who, .int .i64 0, .int .i64 2, .int .i64 who, .int .i64 0] 34))
  have B3 := Lib.hid (B2.out.alloc B2.out.size (.cells #[.int .i64 1, .int .i64 who, .int .i64 0, .int .i64 1, .int .i64 who, .int .i64 0, .int .i64 2, .int .i64 who, .int .i64 0] 34))
  have R3 := Lib.hid (show Reads (w2.alloc (.cells #[.int .i64 1, .int .i64 who, .int .i64 0, .int .i64 1, .int .i64 who, .int .i64 0, .int .i64 2, .int .i64 who, .int .i64 0] 34)) (some ⟨w2.heap.size, 0, none⟩) (flat loE [((1 : Int), who, (0 : Int)), ((1 : Int), who, (0 : Int)), ((2 : Int), who, (0 : Int))]) from reads_lit w2 _ rfl)
  go_wp2_with (at_builtin; refine wpList_append_gm elLO (by decide) rfl (.tmp 35) (.tmp 42) (by rfl) (n := n) (m := 3) (c := 3) (b := w2.heap.size) (o' := 0) (v := .slice A2 n c2) (es := l) (ys := [((1 : Int), who, (0 : Int)), ((1 : Int), who, (0 : Int)), ((2 : Int), who, (0 : Int))]) (AD := some ⟨w2.heap.size, 0, none⟩) rfl rfl rfl T3.out HN.out R3.out rfl (by unfold maxLen; have := N397.out; omega) (by have := N397.out; omega) B3.out.size ?_; intro A4 c4 w4 T4 G4; have B4 := Lib.hid (T3.out.below G4.out B3.out (Nat.le_refl _) B3.out.size))
  refine (P1.out A4 c4 w4 T4.out.reads).mono ?_
  rintro e w5 ⟨A5, c5, rfl, hc5, hr5, hb5⟩
  have B5 := Lib.hid (B4.out.trans (hb5.mono B4.out.size))
  have R5 := Lib.hid hr5
  clear hr5 hb5
  rcases playE_vals m long off (n + 3) with h0 | h0
  · obtain rfl : 0 = k := h0.symm.trans HK.out
    obtain rfl : n + 3 = na := by rw [← HNA.out, ← HAL.out]; exact (playL_len LN.out h0).symm
    obtain ⟨x, y, z, hxy, rfl, hor⟩ := lease_again (nodes := m) (long := long) (off := off) (l := l) (who := who) HW.out (by rw [HN.out]; exact h0)
    rw [HAL.out] at hxy
    have e0 : al[n]? = some x := by rw [hxy]; exact last_at HN.out [x, x, z] 0
    have e1 : al[n + 1]? = some x := by rw [hxy]; exact last_at HN.out [x, x, z] 1
    have e2 : al[n + 2]? = some z := by rw [hxy]; exact last_at HN.out [x, x, z] 2
    obtain ⟨x0, x1⟩ := x
    obtain ⟨z0, z1⟩ := z
    obtain ⟨bb, o, rfl, hbb, c0, c1⟩ := la_at R5.out e0
    obtain ⟨b', o', e', _, d0, d1⟩ := la_at R5.out e1
    injection e' with e'
    injection e' with e3 e4
    subst e3 e4
    obtain ⟨b', o', e', _, f0, f1⟩ := la_at R5.out e2
    injection e' with e'
    injection e' with e3 e4
    subst e3 e4
    simp only at c0 c1 d0 d1 f0 f1 hor
    have i1 : (n : Int) < ((n + 3 : Nat) : Int) := by omega
    have i2 : ((n + 1 : Nat) : Int) < ((n + 3 : Nat) : Int) := by omega
    have i3 : ((n + 2 : Nat) : Int) < ((n + 3 : Nat) : Int) := by omega
    have i4 : n < n + 3 := by omega
    have i5 : n + 1 < n + 3 := by omega
    have i6 : n + 2 < n + 3 := by omega
    have q1 : (((n + 3 : Nat) : Int) != ((n + 3 : Nat) : Int)) = false := by simp
    have SK := Lib.hid (show ∀ w, Below w5.heap.size w5 w → w.cell? ⟨bb, o + n * 2, none⟩ = some (.int .i64 x0) ∧ w.cell? ⟨bb, o + n * 2 + 1, none⟩ = some (.bool x1) ∧ w.cell? ⟨bb, o + (n + 1) * 2, none⟩ = some (.int .i64 x0) ∧ w.cell? ⟨bb, o + (n + 1) * 2 + 1, none⟩ = some (.bool x1) ∧ w.cell? ⟨bb, o + (n + 2) * 2, none⟩ = some (.int .i64 z0) ∧ w.cell? ⟨bb, o + (n + 2) * 2 + 1, none⟩ = some (.bool z1) from fun w hb =>
      ⟨(hb.cell (World.block_lt_of_cell? _ _ c0)).trans c0, (hb.cell (World.block_lt_of_cell? _ _ c1)).trans c1, (hb.cell (World.block_lt_of_cell? _ _ d0)).trans d0, (hb.cell (World.block_lt_of_cell? _ _ d1)).trans d1, (hb.cell (World.block_lt_of_cell? _ _ f0)).trans f0, (hb.cell (World.block_lt_of_cell? _ _ f1)).trans f1⟩)
    clear hxy e0 e1 e2 h0
    go_wp2_with fail
    go_upto_region 8 with fail
    go_cut [13, 14, 15] (fun v13 v14 v15 wx => ∃ g1 g2 g3, v13 = .pointer (some ⟨g1, 0, none⟩) ∧ v14 = .pointer (some ⟨g2, 0, none⟩) ∧ v15 = .pointer (some ⟨g3, 0, none⟩) ∧ Known wx g1 29 #[.int .i64 x0, .bool x1] ∧ Known wx g2 29 #[.int .i64 x0, .bool x1] ∧ Known wx g3 29 #[.int .i64 z0, .bool z1] ∧ Below w5.heap.size w5 wx)
    case first =>
      refine gen_act _ ?_
      intro G hG
      have hz : ∀ w : World, (zeroValue 29).run Try.prog w = .ok (.agg zA) w := fun _ => by kernel_rfl
      refine Reg.region_inv (by kernel_rfl) (fun l a w => Inv8 (fun i => G.eval (.tmp i)) A n ca bb o c5 x0 x1 z0 z1 w5 (lv l) a w) ?_ ?_ ?_
      · exact ⟨0, 0, 0, by rw [hG.out]; rfl, below_drew (Below.refl _ _), fun e => by simp [lv] at e, fun e => by simp [lv] at e, fun e => by simp [lv] at e, fun e => by simp [lv] at e, fun e => by simp [lv] at e, fun e => by simp [lv] at e, fun e => by simp [lv] at e, fun e => by simp [lv] at e, fun e => by simp [lv] at e⟩
      · intro l a w i op hsz hI ho hl hall
        generalize (fun i => G.eval (.tmp i)) = ee at *
        obtain ⟨pa, pb, pc, rfl, hS⟩ := hI
        have HS := Lib.hid hS
        obtain ⟨c0, c1, d0, d1, f0, f1⟩ := SK.out _ hS.1
        clear hS
        have hi : i < 23 := (Array.getElem?_eq_some_iff.1 ho).1
        have hi2 : i < l.size := by rw [hsz]; exact hi
        simp only [upd_set hi2]
        simp only [Array.getD_eq_getD_getElem?] at hall hl
        have hL : lv l i = false := by unfold lv; simpa [hi2] using hl
        have hi3 : i = 0 ∨ i = 1 ∨ i = 2 ∨ i = 3 ∨ i = 4 ∨ i = 5 ∨ i = 6 ∨ i = 7 ∨ i = 8 ∨ i = 9 ∨ i = 10 ∨ i = 11 ∨ i = 12 ∨ i = 13 ∨ i = 14 ∨ i = 15 ∨ i = 16 ∨ i = 17 ∨ i = 18 ∨ i = 19 ∨ i = 20 ∨ i = 21 ∨ i = 22 := by omega
        clear hG hsz
        rcases hi3 with rfl | rfl | rfl | rfl | rfl | rfl | rfl | rfl | rfl | rfl | rfl | rfl | rfl | rfl | rfl | rfl | rfl | rfl | rfl | rfl | rfl | rfl | rfl
        · obtain rfl := Option.some.inj ho
          clear hall hl
          refine step_of rfl rfl ?_
          intro K HK
          unfold Fr
          go_simp
          exact HK.out _ _ ⟨pa, pb, pc, by simp [Fr, upd, wh_true], HS.out⟩
        · obtain rfl := Option.some.inj ho
          clear hall hl
          refine step_of rfl rfl ?_
          intro K HK
          unfold Fr
          go_simp
          exact HK.out _ _ ⟨pa, pb, pc, by simp [Fr, upd, wh_true], HS.out⟩
        · obtain rfl := Option.some.inj ho
          have q1 : lv l 1 = true := hall ⟨1, .data⟩ (by simp) rfl
          clear hall hl
          refine step_of rfl rfl ?_
          intro K HK
          unfold Fr
          simp only [q1, wh_true]
          go_simp
          exact HK.out _ _ ⟨pa, pb, pc, by simp [Fr, upd, wh_true, q1], HS.out⟩
        · obtain rfl := Option.some.inj ho
          have q0 : lv l 0 = true := hall ⟨0, .data⟩ (by simp) rfl
          have q2 : lv l 2 = true := hall ⟨2, .data⟩ (by simp) rfl
          clear hall hl
          refine step_of rfl rfl ?_
          intro K HK
          unfold Fr
          simp only [q0, q2, wh_true]
          go_simp
          rw [if_pos (by omega)]
          go_simp
          exact HK.out _ _ ⟨pa, pb, pc, by simp [Fr, upd, wh_true, q0, q2], HS.out⟩
        · obtain rfl := Option.some.inj ho
          have q3 : lv l 3 = true := hall ⟨3, .data⟩ (by simp) rfl
          clear hall hl
          refine step_of rfl rfl ?_
          intro K HK
          unfold Fr
          simp only [q3, wh_true]
          go_simp
          exact HK.out _ _ ⟨pa, pb, pc, by simp [Fr, upd, wh_true, q3], HS.out⟩
        · obtain rfl := Option.some.inj ho
          clear hall hl
          refine step_of rfl rfl ?_
          intro K HK
          unfold Fr
          go_simp
          exact HK.out _ _ ⟨pa, pb, pc, by simp [Fr, upd, wh_true], HS.out⟩
        · obtain rfl := Option.some.inj ho
          clear hall hl
          refine step_of rfl rfl ?_
          intro K HK
          unfold Fr
          go_simp
          exact HK.out _ _ ⟨pa, pb, pc, by simp [Fr, upd, wh_true], HS.out⟩
        · obtain rfl := Option.some.inj ho
          have q6 : lv l 6 = true := hall ⟨6, .data⟩ (by simp) rfl
          clear hall hl
          refine step_of rfl rfl ?_
          intro K HK
          unfold Fr
          simp only [q6, wh_true]
          go_simp
          exact HK.out _ _ ⟨pa, pb, pc, by simp [Fr, upd, wh_true, q6], HS.out⟩
        · obtain rfl := Option.some.inj ho
          have q7 : lv l 7 = true := hall ⟨7, .data⟩ (by simp) rfl
          clear hall hl
          refine step_of rfl rfl ?_
          intro K HK
          unfold Fr
          simp only [q7, wh_true]
          go_simp
          exact HK.out _ _ ⟨pa, pb, pc, by simp [Fr, upd, wh_true, q7], HS.out⟩
        · obtain rfl := Option.some.inj ho
          have q5 : lv l 5 = true := hall ⟨5, .data⟩ (by simp) rfl
          have q8 : lv l 8 = true := hall ⟨8, .data⟩ (by simp) rfl
          clear hall hl
          refine step_of rfl rfl ?_
          intro K HK
          unfold Fr
          simp only [q5, q8, wh_true]
          go_simp
          rw [if_pos (by omega)]
          go_simp
          exact HK.out _ _ ⟨pa, pb, pc, by simp [Fr, upd, wh_true, q5, q8], HS.out⟩
        · obtain rfl := Option.some.inj ho
          have q9 : lv l 9 = true := hall ⟨9, .data⟩ (by simp) rfl
          clear hall hl
          refine step_of rfl rfl ?_
          intro K HK
          unfold Fr
          simp only [q9, wh_true]
          go_simp
          exact HK.out _ _ ⟨pa, pb, pc, by simp [Fr, upd, wh_true, q9], HS.out⟩
        · obtain rfl := Option.some.inj ho
          clear hall hl
          refine step_of rfl rfl ?_
          intro K HK
          unfold Fr
          go_simp
          exact HK.out _ _ ⟨pa, pb, pc, by simp [Fr, upd, wh_true], HS.out⟩
        · obtain rfl := Option.some.inj ho
          clear hall hl
          refine step_of rfl rfl ?_
          intro K HK
          unfold Fr
          go_simp
          exact HK.out _ _ ⟨pa, pb, pc, by simp [Fr, upd, wh_true], HS.out⟩
        · obtain rfl := Option.some.inj ho
          have q12 : lv l 12 = true := hall ⟨12, .data⟩ (by simp) rfl
          clear hall hl
          refine step_of rfl rfl ?_
          intro K HK
          unfold Fr
          simp only [q12, wh_true]
          go_simp
          exact HK.out _ _ ⟨pa, pb, pc, by simp [Fr, upd, wh_true, q12], HS.out⟩
        · obtain rfl := Option.some.inj ho
          have q13 : lv l 13 = true := hall ⟨13, .data⟩ (by simp) rfl
          clear hall hl
          refine step_of rfl rfl ?_
          intro K HK
          unfold Fr
          simp only [q13, wh_true]
          go_simp
          exact HK.out _ _ ⟨pa, pb, pc, by simp [Fr, upd, wh_true, q13], HS.out⟩
        · obtain rfl := Option.some.inj ho
          have q11 : lv l 11 = true := hall ⟨11, .data⟩ (by simp) rfl
          have q14 : lv l 14 = true := hall ⟨14, .data⟩ (by simp) rfl
          clear hall hl
          refine step_of rfl rfl ?_
          intro K HK
          unfold Fr
          simp only [q11, q14, wh_true]
          go_simp
          rw [if_pos (by omega)]
          go_simp
          exact HK.out _ _ ⟨pa, pb, pc, by simp [Fr, upd, wh_true, q11, q14], HS.out⟩
        · obtain rfl := Option.some.inj ho
          have q15 : lv l 15 = true := hall ⟨15, .data⟩ (by simp) rfl
          clear hall hl
          refine step_of rfl rfl ?_
          intro K HK
          unfold Fr
          simp only [q15, wh_true]
          go_simp
          exact HK.out _ _ ⟨pa, pb, pc, by simp [Fr, upd, wh_true, q15], HS.out⟩
        · obtain rfl := Option.some.inj ho
          clear hall hl
          refine step_of rfl rfl ?_
          intro K HK
          unfold Fr
          go_simp
          exact HK.out _ _ ⟨w.heap.size, pb, pc, by simp [Fr, upd, wh_true], HS.out.newA hL⟩
        · obtain rfl := Option.some.inj ho
          clear hall hl
          refine step_of rfl rfl ?_
          intro K HK
          unfold Fr
          go_simp
          exact HK.out _ _ ⟨pa, w.heap.size, pc, by simp [Fr, upd, wh_true], HS.out.newB hL⟩
        · obtain rfl := Option.some.inj ho
          clear hall hl
          refine step_of rfl rfl ?_
          intro K HK
          unfold Fr
          go_simp
          exact HK.out _ _ ⟨pa, pb, w.heap.size, by simp [Fr, upd, wh_true], HS.out.newC hL⟩
        · obtain rfl := Option.some.inj ho
          have q17 : lv l 17 = true := hall ⟨17, .data⟩ (by simp) rfl
          have q4 : lv l 4 = true := hall ⟨4, .data⟩ (by simp) rfl
          clear hall hl
          refine step_of rfl rfl ?_
          intro K HK
          unfold Fr
          simp only [q17, q4, wh_true]
          have hg := (HS.out.2.1 q17).2
          rw [hL, if_neg (by decide)] at hg
          refine wp_store_row 29 _ _ rfl pa (laC x0 x1) rfl rfl 29 _ hg size29 rfl (laC_one _ _) ?_
          exact HK.out _ _ ⟨pa, pb, pc, by simp [Fr, upd, wh_true, q17, q4]; rfl, HS.out.putA q17⟩
        · obtain rfl := Option.some.inj ho
          have q18 : lv l 18 = true := hall ⟨18, .data⟩ (by simp) rfl
          have q10 : lv l 10 = true := hall ⟨10, .data⟩ (by simp) rfl
          clear hall hl
          refine step_of rfl rfl ?_
          intro K HK
          unfold Fr
          simp only [q18, q10, wh_true]
          have hg := (HS.out.2.2.1 q18).2
          rw [hL, if_neg (by decide)] at hg
          refine wp_store_row 29 _ _ rfl pb (laC x0 x1) rfl rfl 29 _ hg size29 rfl (laC_one _ _) ?_
          exact HK.out _ _ ⟨pa, pb, pc, by simp [Fr, upd, wh_true, q18, q10]; rfl, HS.out.putB q18⟩
        · obtain rfl := Option.some.inj ho
          have q19 : lv l 19 = true := hall ⟨19, .data⟩ (by simp) rfl
          have q16 : lv l 16 = true := hall ⟨16, .data⟩ (by simp) rfl
          clear hall hl
          refine step_of rfl rfl ?_
          intro K HK
          unfold Fr
          simp only [q19, q16, wh_true]
          have hg := (HS.out.2.2.2.1 q19).2
          rw [hL, if_neg (by decide)] at hg
          refine wp_store_row 29 _ _ rfl pc (laC z0 z1) rfl rfl 29 _ hg size29 rfl (laC_one _ _) ?_
          exact HK.out _ _ ⟨pa, pb, pc, by simp [Fr, upd, wh_true, q19, q16]; rfl, HS.out.putC q19⟩
      · intro l a w hsz hI hr
        obtain ⟨pa, pb, pc, rfl, hS⟩ := hI
        have q0 := ready_nil (i := 0) hr rfl hsz (by simp [Region.binds])
        have q1 := ready_nil (i := 1) hr rfl hsz (by simp [Region.binds, q0])
        have q2 := ready_nil (i := 2) hr rfl hsz (by simp [Region.binds, q0, q1])
        have q3 := ready_nil (i := 3) hr rfl hsz (by simp [Region.binds, q0, q1, q2])
        have q4 := ready_nil (i := 4) hr rfl hsz (by simp [Region.binds, q0, q1, q2, q3])
        have q5 := ready_nil (i := 5) hr rfl hsz (by simp [Region.binds, q0, q1, q2, q3, q4])
        have q6 := ready_nil (i := 6) hr rfl hsz (by simp [Region.binds, q0, q1, q2, q3, q4, q5])
        have q7 := ready_nil (i := 7) hr rfl hsz (by simp [Region.binds, q0, q1, q2, q3, q4, q5, q6])
        have q8 := ready_nil (i := 8) hr rfl hsz (by simp [Region.binds, q0, q1, q2, q3, q4, q5, q6, q7])
        have q9 := ready_nil (i := 9) hr rfl hsz (by simp [Region.binds, q0, q1, q2, q3, q4, q5, q6, q7, q8])
        have q10 := ready_nil (i := 10) hr rfl hsz (by simp [Region.binds, q0, q1, q2, q3, q4, q5, q6, q7, q8, q9])
        have q11 := ready_nil (i := 11) hr rfl hsz (by simp [Region.binds, q0, q1, q2, q3, q4, q5, q6, q7, q8, q9, q10])
        have q12 := ready_nil (i := 12) hr rfl hsz (by simp [Region.binds, q0, q1, q2, q3, q4, q5, q6, q7, q8, q9, q10, q11])
        have q13 := ready_nil (i := 13) hr rfl hsz (by simp [Region.binds, q0, q1, q2, q3, q4, q5, q6, q7, q8, q9, q10, q11, q12])
        have q14 := ready_nil (i := 14) hr rfl hsz (by simp [Region.binds, q0, q1, q2, q3, q4, q5, q6, q7, q8, q9, q10, q11, q12, q13])
        have q15 := ready_nil (i := 15) hr rfl hsz (by simp [Region.binds, q0, q1, q2, q3, q4, q5, q6, q7, q8, q9, q10, q11, q12, q13, q14])
        have q16 := ready_nil (i := 16) hr rfl hsz (by simp [Region.binds, q0, q1, q2, q3, q4, q5, q6, q7, q8, q9, q10, q11, q12, q13, q14, q15])
        have q17 := ready_nil (i := 17) hr rfl hsz (by simp [Region.binds, q0, q1, q2, q3, q4, q5, q6, q7, q8, q9, q10, q11, q12, q13, q14, q15, q16])
        have q18 := ready_nil (i := 18) hr rfl hsz (by simp [Region.binds, q0, q1, q2, q3, q4, q5, q6, q7, q8, q9, q10, q11, q12, q13, q14, q15, q16, q17])
        have q19 := ready_nil (i := 19) hr rfl hsz (by simp [Region.binds, q0, q1, q2, q3, q4, q5, q6, q7, q8, q9, q10, q11, q12, q13, q14, q15, q16, q17, q18])
        have q20 := ready_nil (i := 20) hr rfl hsz (by simp [Region.binds, q0, q1, q2, q3, q4, q5, q6, q7, q8, q9, q10, q11, q12, q13, q14, q15, q16, q17, q18, q19])
        have q21 := ready_nil (i := 21) hr rfl hsz (by simp [Region.binds, q0, q1, q2, q3, q4, q5, q6, q7, q8, q9, q10, q11, q12, q13, q14, q15, q16, q17, q18, q19, q20])
        have q22 := ready_nil (i := 22) hr rfl hsz (by simp [Region.binds, q0, q1, q2, q3, q4, q5, q6, q7, q8, q9, q10, q11, q12, q13, q14, q15, q16, q17, q18, q19, q20, q21])
        obtain ⟨s1, s2, s3, s4, -, -, -, -, -, -⟩ := hS
        have k1 := (s2 q17).2; have k2 := (s3 q18).2; have k3 := (s4 q19).2
        rw [if_pos q20] at k1
        rw [if_pos q21] at k2
        rw [if_pos q22] at k3
        unfold Fr
        simp only [q0, q1, q2, q3, q4, q5, q6, q7, q8, q9, q10, q11, q12, q13, q14, q15, q16, q17, q18, q19, wh_true]
        clear s2 s3 s4 hr hsz q0 q1 q2 q3 q4 q5 q6 q7 q8 q9 q10 q11 q12 q13 q14 q15 q16 q17 q18 q19 q20 q21 q22
        rw [hG.out]
        clear hG
        have KK := Lib.hid (⟨k1, k2, k3, s1⟩ : _ ∧ _ ∧ _ ∧ _)
        clear k1 k2 k3 s1
        go_wp2
        go_meet
        exact ⟨pa, pb, pc, rfl, rfl, rfl, KK.out.1, KK.out.2.1, KK.out.2.2.1, KK.out.2.2.2⟩
    case rest =>
      obtain ⟨g1, g2, g3, rfl, rfl, rfl, k1, k2, k3, hb⟩ := hcut
      have B6 := Lib.hid (B5.out.trans (hb.mono B5.out.size))
      have a0 := k1.cell 0
      have a1 := k1.cell 1
      have b0 := k2.cell 0
      have b1 := k2.cell 1
      have d0 := k3.cell 0
      have d1 := k3.cell 1
      simp at a0 a1 b0 b1 d0 d1
      have eq := fun w => eql_la x0 x1 x0 x1 w
      have gd := fun op x y w => guard_la op x y #[.int .i64 x0, .bool x1] #[.int .i64 x0, .bool x1] w
      simp only [beq_self_eq_true, Bool.and_self] at eq
      clear k1 k2 k3 hb c0 c1 f0 f1
      rcases hor with ⟨h1, h2⟩ | h6
      · injection h1 with h1 h3
        injection h2 with h2 h4
        subst h1 h2 h3 h4
        have eq2 := fun w => eql_la 0 false 0 false w
        have gd2 := fun op x y w => guard_la op x y #[.int .i64 0, .bool false] #[.int .i64 0, .bool false] w
        simp only [beq_self_eq_true, Bool.and_self] at eq2
        go_wp2
        go_ret
        exact ⟨rfl, B6.out⟩
      · subst h6
        go_wp2
        go_ret
        exact ⟨rfl, B6.out⟩
  · obtain rfl : 2 = k := h0.symm.trans HK.out
    obtain rfl : [] = al := (playL_no LN.out h0).symm.trans HAL.out
    obtain rfl : 0 = na := HNA.out
    clear h0
    go_wp2
    go_ret
    exact ⟨rfl, B5.out⟩
end Go.Proofs.Yteneglbafngejaa.Le
