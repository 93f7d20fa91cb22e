/-
  Package locks: operations, errors and locks in memory; what the laws take of the program (PlaySpec).
-/
import Derived.Test.YtdkgclgccicbeaaLkPure2
import Derived.Test.YtdkgclgccicbeaaGTab
import Derived.Laws.StructEq
import Derived.BigQuiet
namespace Go.Proofs.Ytdkgclgccicbeaa.Lk
set_option linter.unusedVariables false
set_option linter.unusedSimpArgs false
open Go.RowKit Mem Gt

/-- An answer; what was there before is as it was. -/
def Gave (v : Value) (W : World) (e : Ending) (W' : World) : Prop := e = .returned v ∧ Below W.heap.size W W'
abbrev ints (l : List Int) : List Value := l.map (Value.int .i64)
def loE : Enc LO 3 := ⟨fun o => [.int .i64 o.1, .int .i64 o.2.1, .int .i64 o.2.2], fun _ => rfl, fun x v hv => by simp at hv; rcases hv with rfl | rfl | rfl <;> rfl⟩
def erE : Enc Int 1 := ⟨fun o => [.int .i64 o], fun _ => rfl, fun x v hv => by simp at hv; subst hv; rfl⟩
/-- A lock's four cells. -/
abbrev Sl := Option Addr × Nat × Nat
abbrev L4 := Int × Bool × Sl × Sl
def slV (s : Sl) : Value := .slice s.1 s.2.1 s.2.2
def l4E : Enc L4 4 := ⟨fun o => [.int .i64 o.1, .bool o.2.1, slV o.2.2.1, slV o.2.2.2], fun _ => rfl, fun x v hv => by simp at hv; rcases hv with rfl | rfl | rfl | rfl <;> rfl⟩
theorem elLO : El 22 36 3 24 := El.of Try.underlying22 (by kernel_rfl)
theorem elEr : El 23 28 1 8 := El.of Try.underlying23 (by kernel_rfl)
theorem elL4 : El 24 34 4 64 := El.of Try.underlying24 (by kernel_rfl)
theorem flat_er : ∀ l : List Int, flat erE l = ints l
  | [] => rfl
  | x :: r => by rw [flat_cons, flat_er r]; rfl
/-- A machine's number. -/
def Fit (a : Int) : Prop := -9223372036854775808 ≤ a ∧ a ≤ 9223372036854775807
theorem fit_of {a : Int} (h : (Lit.int .i64 a).wf = true) : Fit a := by
  simp [Lit.wf, IntKind.min, IntKind.max, IntKind.bits, IntKind.signed] at h; exact h
theorem wf_of {a : Int} (h : Fit a) : (Lit.int .i64 a).wf = true := by
  simp [Lit.wf, IntKind.min, IntKind.max, IntKind.bits, IntKind.signed]; exact h
def FitO (o : LO) : Prop := Fit o.1 ∧ Fit o.2.1 ∧ Fit o.2.2
def FitOs (l : List LO) : Prop := ∀ o ∈ l, FitO o
theorem lo_at {W : World} {A : Option Addr} {l : List LO} (h : Reads W A (flat loE l)) {k : Nat} {x : LO} (hk : l[k]? = some x) :
    ∃ b o, A = some ⟨b, o, none⟩ ∧ b < W.heap.size ∧ W.cell? ⟨b, o + k * 3, none⟩ = some (.int .i64 x.1) ∧ W.cell? ⟨b, o + k * 3 + 1, none⟩ = some (.int .i64 x.2.1) ∧ W.cell? ⟨b, o + k * 3 + 2, none⟩ = some (.int .i64 x.2.2) := by
  obtain ⟨b, o, e, hb, hc⟩ := rds_at loE (by decide) h hk
  exact ⟨b, o, e, hb, hc 0 _ rfl, hc 1 _ rfl, hc 2 _ rfl⟩
theorem l4_at {W : World} {A : Option Addr} {l : List L4} (h : Reads W A (flat l4E l)) {k : Nat} {x : L4} (hk : l[k]? = some x) :
    ∃ b o, A = some ⟨b, o, none⟩ ∧ b < W.heap.size ∧ W.cell? ⟨b, o + k * 4, none⟩ = some (.int .i64 x.1) ∧ W.cell? ⟨b, o + k * 4 + 1, none⟩ = some (.bool x.2.1) ∧ W.cell? ⟨b, o + k * 4 + 2, none⟩ = some (slV x.2.2.1) ∧ W.cell? ⟨b, o + k * 4 + 3, none⟩ = some (slV x.2.2.2) := by
  obtain ⟨b, o, e, hb, hc⟩ := rds_at l4E (by decide) h hk
  exact ⟨b, o, e, hb, hc 0 _ rfl, hc 1 _ rfl, hc 2 _ rfl, hc 3 _ rfl⟩
theorem int_at {W : World} {A : Option Addr} {l : List Int} (h : Reads W A (ints l)) {k : Nat} {x : Int} (hk : l[k]? = some x) :
    ∃ b o, A = some ⟨b, o, none⟩ ∧ b < W.heap.size ∧ W.cell? ⟨b, o + k, none⟩ = some (.int .i64 x) := h k _ (by rw [List.getElem?_map, hk]; rfl)
theorem low_lit (w : World) (o : Obj) : Below w.heap.size w (w.alloc o) := (Below.refl _ w).alloc (Nat.le_refl _) o
theorem box_lo {w : World} (x : LO) : let w' := w.alloc (.cells #[.int .i64 x.1, .int .i64 x.2.1, .int .i64 x.2.2] 36)
    w'.cell? ⟨w.heap.size, 0, none⟩ = some (.int .i64 x.1) ∧ w'.cell? ⟨w.heap.size, 1, none⟩ = some (.int .i64 x.2.1) ∧ w'.cell? ⟨w.heap.size, 2, none⟩ = some (.int .i64 x.2.2) := by
  have kn := Known.made w 36 #[.int .i64 x.1, .int .i64 x.2.1, .int .i64 x.2.2]
  exact ⟨kn.cell 0, kn.cell 1, kn.cell 2⟩


/-! ### Locks -/
/-- A lock's four cells hold the lock. -/
structure IsLc (W : World) (x : L4) (y : Lc) : Prop where
  key : x.1 = y.1
  alone : x.2.1 = y.2.1
  hasL : y.2.2.1.length = x.2.2.1.2.1
  hasC : x.2.2.1.2.1 ≤ x.2.2.1.2.2 ∧ x.2.2.1.2.2 ≤ 9223372036854775807
  hasR : Reads W x.2.2.1.1 (ints y.2.2.1)
  waitL : y.2.2.2.length = x.2.2.2.2.1
  waitC : x.2.2.2.2.1 ≤ x.2.2.2.2.2 ∧ x.2.2.2.2.2 ≤ 9223372036854775807
  waitR : Reads W x.2.2.2.1 (flat loE y.2.2.2)
theorem IsLc.below {W V : World} {x : L4} {y : Lc} (h : IsLc W x y) (hb : Below W.heap.size W V) : IsLc V x y := ⟨h.key, h.alone, h.hasL, h.hasC, h.hasR.below hb, h.waitL, h.waitC, h.waitR.below hb⟩
/-- A slice's address leads to the locks. -/
def LRds (W : World) (A : Option Addr) (ls : List Lc) : Prop := ∃ xs : List L4, Reads W A (flat l4E xs) ∧ xs.length = ls.length ∧ ∀ (k : Nat) (x : L4) (y : Lc), xs[k]? = some x → ls[k]? = some y → IsLc W x y
section
variable {W V : World} {A : Option Addr} {ls : List Lc}
theorem LRds.below (h : LRds W A ls) (hb : Below W.heap.size W V) : LRds V A ls := by
  obtain ⟨xs, h1, h2, h3⟩ := h
  exact ⟨xs, h1.below hb, h2, fun k x y hx hy => (h3 k x y hx hy).below hb⟩
theorem LRds.at_ (h : LRds W A ls) {k : Nat} {y : Lc} (hk : ls[k]? = some y) :
    ∃ b o H nh ch S ns cs, A = some ⟨b, o, none⟩ ∧ b < W.heap.size ∧ W.cell? ⟨b, o + k * 4, none⟩ = some (.int .i64 y.1) ∧ W.cell? ⟨b, o + k * 4 + 1, none⟩ = some (.bool y.2.1) ∧ W.cell? ⟨b, o + k * 4 + 2, none⟩ = some (.slice H nh ch) ∧ W.cell? ⟨b, o + k * 4 + 3, none⟩ = some (.slice S ns cs)
      ∧ IsLc W (y.1, y.2.1, (H, nh, ch), (S, ns, cs)) y := by
  obtain ⟨xs, h1, h2, h3⟩ := h
  obtain ⟨⟨x0, x1, ⟨H, nh, ch⟩, ⟨S, ns, cs⟩⟩, hx⟩ : ∃ x, xs[k]? = some x := ⟨_, List.getElem?_eq_getElem (by rw [h2]; exact (List.getElem?_eq_some_iff.1 hk).1)⟩
  have hi := h3 k _ y hx hk
  obtain rfl : x0 = y.1 := hi.key
  obtain rfl : x1 = y.2.1 := hi.alone
  obtain ⟨b, o, e, hb, c0, c1, c2, c3⟩ := l4_at h1 hx
  exact ⟨b, o, H, nh, ch, S, ns, cs, e, hb, c0, c1, c2, c3, hi⟩
theorem LRds.nil : LRds W A [] := ⟨[], fun k v h => by simp [flat] at h, rfl, fun k x y h _ => by simp at h⟩
end

/-- A slice of the call's own (blocks N and later) that leads to the locks; what they lead to is new too, and lies apart. -/
def LNew (N : Nat) (W : World) (A : Option Addr) (kl d : Nat) (ls : List Lc) : Prop := ∃ xs : List L4, Tab l4E W N 34 (.slice A kl d) xs ∧ xs.length = ls.length ∧ ∀ (k : Nat) (x : L4) (y : Lc), xs[k]? = some x → ls[k]? = some y →
  IsLc W x y ∧ ∀ a, (x.2.2.1.1 = some a ∨ x.2.2.2.1 = some a) → N ≤ a.block ∧ (Value.slice A kl d).ownBlock ≠ some a.block
theorem LNew.rds {N : Nat} {W : World} {A : Option Addr} {kl d : Nat} {ls : List Lc} (h : LNew N W A kl d ls) : LRds W A ls := by
  obtain ⟨xs, h1, h2, h3⟩ := h
  exact ⟨xs, h1.reads, h2, fun k x y hx hy => (h3 k x y hx hy).1⟩
theorem LNew.below {N : Nat} {W V : World} {A : Option Addr} {kl d : Nat} {ls : List Lc} (h : LNew N W A kl d ls) (hb : Below W.heap.size W V) : LNew N V A kl d ls := by
  obtain ⟨xs, h1, h2, h3⟩ := h
  exact ⟨xs, h1.later hb, h2, fun k x y hx hy => ⟨(h3 k x y hx hy).1.below hb, (h3 k x y hx hy).2⟩⟩

/-! ### Operations that came in -/
def mkO (r : List Int) : LO := (r.getD 0 0, r.getD 1 0, r.getD 2 0)
section
open Go.ChangeShapes Go.WideShapes
variable {H : Type} {enc : TypeId × Value → H}
theorem open_los {W : World} {base : Nat} {v : Value} {d : DataW H} {p : List MemPlace} (hval : Value.okWide Try.prog W .any base 22 v) (h : DataW.Trod enc Try.prog W 0 (fun _ => true) true 22 v d p)
    {ts : List TypeId} {ds : List (DataW H)} (hz : (DataW.weightsEach Try.prog ts ds).all (· ≤ reachBytes) = true) {j : Nat} (htj : ts[j]? = some 22) (hdj : ds[j]? = some d) :
    ∃ (A : Option Addr) (cap : Nat) (l : List LO), v = .slice A l.length cap ∧ l.length ≤ 5864062014805 ∧ l.length ≤ cap ∧ cap ≤ 5864062014805 ∧ Reads W A (flat loE l) ∧ FitOs l := by
  obtain ⟨a1, len, cap, rfl⟩ := okWide_slice Try.underlying22 hval
  obtain ⟨fuel, hf⟩ := h
  obtain ⟨A, cap', l, e, h1, h2, h3, h4⟩ := open_g loE mkO [.i64, .i64, .i64] rfl (by decide) (fun r hr => by
      obtain ⟨hl, _⟩ := hr
      match r, hl with
      | [a, b, c], _ => rfl)
    (t := 22) (bytes := 24) Try.underlying22 (by kernel_rfl : Try.prog.underlying 36 = some (.struct (Try.prog.fieldsOf 36))) (by kernel_rfl) (by kernel_rfl) (by kernel_rfl) (by kernel_rfl)
    (fun j g hg => by
      have h4 : (Try.prog.fieldsOf 36).size = 3 := by kernel_rfl
      have hj := (Array.getElem?_eq_some_iff.1 hg).1
      have k0 : ((Try.prog.fieldsOf 36)[0]?).map (fun g => Try.prog.underlying g.type) = some (some (.int .i64)) := by kernel_rfl
      have k1 : ((Try.prog.fieldsOf 36)[1]?).map (fun g => Try.prog.underlying g.type) = some (some (.int .i64)) := by kernel_rfl
      have k2 : ((Try.prog.fieldsOf 36)[2]?).map (fun g => Try.prog.underlying g.type) = some (some (.int .i64)) := by kernel_rfl
      have hj : j = 0 ∨ j = 1 ∨ j = 2 := by omega
      rcases hj with rfl | rfl | rfl
      · rw [hg] at k0; simp only [Option.map_some, Option.some.injEq] at k0; exact ⟨_, rfl, k0⟩
      · rw [hg] at k1; simp only [Option.map_some, Option.some.injEq] at k1; exact ⟨_, rfl, k1⟩
      · rw [hg] at k2; simp only [Option.map_some, Option.some.injEq] at k2; exact ⟨_, rfl, k2⟩) hf (fun n hn => by
        have := List.all_eq_true.1 hz n (DataW.weights_mem_each htj hdj n hn)
        simpa using this)
  injection e with e1 e2 e3
  subst e1 e2 e3
  have hb : cap * 24 ≤ 140737488355328 := by unfold reachBytes at h2; omega
  refine ⟨_, _, l, rfl, by omega, h1, by omega, h4, fun o ho => ?_⟩
  obtain ⟨r, ⟨hl, hw⟩, rfl⟩ := h3 o ho
  match r, hl with
  | [a, b, c], _ => exact ⟨fit_of (hw 0 .i64 a rfl rfl), fit_of (hw 1 .i64 b rfl rfl), fit_of (hw 2 .i64 c rfl rfl)⟩
end

/-! ### What the laws take of the program -/
def PlayOut (es : List Int) (n : Nat) (ls : List Lc) (kl : Nat) (W : World) (e : Ending) (W' : World) : Prop :=
  ∃ A c B d, e = .returned (.tuple #[.slice A n c, .slice B kl d]) ∧ (n ≤ c ∧ c ≤ 9223372036854775807) ∧ (kl ≤ d ∧ d ≤ 9223372036854775807) ∧ Reads W' A (ints es) ∧ LNew W.heap.size W' B kl d ls ∧ Below W.heap.size W W'
def PlaySpec : Prop := ∀ (A : Option Addr) (l : List LO) (n ca : Nat) (V : World) (es : List Int) (ls : List Lc) (kl : Nat), l.length = n → n ≤ 4194304 → Reads V A (flat loE l) → FitOs l →
  errs l = es → locks l = ls → ls.length = kl → Calls Try.prog 8 #[.slice A n ca] V (PlayOut es n ls kl V)
end Go.Proofs.Ytdkgclgccicbeaa.Lk
