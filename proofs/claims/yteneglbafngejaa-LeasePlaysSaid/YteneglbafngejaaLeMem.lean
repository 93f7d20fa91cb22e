/-
  Package lease: operations and answers in memory; what the laws take of the program (PlaySpec).
-/
import Derived.Test.YteneglbafngejaaLePure
import Derived.Test.YteneglbafngejaaGTab
import Derived.Laws.StructEq
import Derived.BigQuiet
namespace Go.Proofs.Yteneglbafngejaa.Le
set_option linter.unusedVariables false
set_option linter.unusedSimpArgs false
open Go.RowKit Mem Gt

/-- An answer; what was there before is as it was. -/
def Gave (v : Value) (W : World) (e : Ending) (W' : World) : Prop := e = .returned v ∧ Below W.heap.size W W'
def loE : Enc LO 3 := ⟨fun o => [.int .i64 o.1, .int .i64 o.2.1, .int .i64 o.2.2], fun _ => rfl, fun x v hv => by simp at hv; rcases hv with rfl | rfl | rfl <;> rfl⟩
def laE : Enc LA 2 := ⟨fun o => [.int .i64 o.1, .bool o.2], fun _ => rfl, fun x v hv => by simp at hv; rcases hv with rfl | rfl <;> rfl⟩
theorem elLO : El 22 34 3 24 := El.of Try.underlying22 (by kernel_rfl)
theorem elLA : El 23 29 2 16 := El.of Try.underlying23 (by kernel_rfl)
/-- A machine's number. -/
def Fit (a : Int) : Prop := -9223372036854775808 ≤ a ∧ a ≤ 9223372036854775807
theorem fit_of {a : Int} (h : (Lit.int .i64 a).wf = true) : Fit a := by
  simp [Lit.wf, IntKind.min, IntKind.max, IntKind.bits, IntKind.signed] at h; exact h
theorem wf_of {a : Int} (h : Fit a) : (Lit.int .i64 a).wf = true := by
  simp [Lit.wf, IntKind.min, IntKind.max, IntKind.bits, IntKind.signed]; exact h
def FitO (o : LO) : Prop := Fit o.1 ∧ Fit o.2.1 ∧ Fit o.2.2
def FitOs (l : List LO) : Prop := ∀ o ∈ l, FitO o
theorem lo_at {W : World} {A : Option Addr} {l : List LO} (h : Reads W A (flat loE l)) {k : Nat} {x : LO} (hk : l[k]? = some x) :
    ∃ b o, A = some ⟨b, o, none⟩ ∧ b < W.heap.size ∧ W.cell? ⟨b, o + k * 3, none⟩ = some (.int .i64 x.1) ∧ W.cell? ⟨b, o + k * 3 + 1, none⟩ = some (.int .i64 x.2.1) ∧ W.cell? ⟨b, o + k * 3 + 2, none⟩ = some (.int .i64 x.2.2) := by
  obtain ⟨b, o, e, hb, hc⟩ := rds_at loE (by decide) h hk
  exact ⟨b, o, e, hb, hc 0 _ rfl, hc 1 _ rfl, hc 2 _ rfl⟩
theorem la_at {W : World} {A : Option Addr} {l : List LA} (h : Reads W A (flat laE l)) {k : Nat} {x : LA} (hk : l[k]? = some x) :
    ∃ b o, A = some ⟨b, o, none⟩ ∧ b < W.heap.size ∧ W.cell? ⟨b, o + k * 2, none⟩ = some (.int .i64 x.1) ∧ W.cell? ⟨b, o + k * 2 + 1, none⟩ = some (.bool x.2) := by
  obtain ⟨b, o, e, hb, hc⟩ := rds_at laE (by decide) h hk
  exact ⟨b, o, e, hb, hc 0 _ rfl, hc 1 _ rfl⟩
theorem low_lit (w : World) (o : Obj) : Below w.heap.size w (w.alloc o) := (Below.refl _ w).alloc (Nat.le_refl _) o
theorem box_lo {w : World} (x : LO) : let w' := w.alloc (.cells #[.int .i64 x.1, .int .i64 x.2.1, .int .i64 x.2.2] 34)
    w'.cell? ⟨w.heap.size, 0, none⟩ = some (.int .i64 x.1) ∧ w'.cell? ⟨w.heap.size, 1, none⟩ = some (.int .i64 x.2.1) ∧ w'.cell? ⟨w.heap.size, 2, none⟩ = some (.int .i64 x.2.2) := by
  have kn := Known.made w 34 #[.int .i64 x.1, .int .i64 x.2.1, .int .i64 x.2.2]
  exact ⟨kn.cell 0, kn.cell 1, kn.cell 2⟩

/-! ### Operations that came in -/
def mkO (r : List Int) : LO := (r.getD 0 0, r.getD 1 0, r.getD 2 0)
section
open Go.ChangeShapes Go.WideShapes
variable {H : Type} {enc : TypeId × Value → H}
theorem open_los {W : World} {base : Nat} {v : Value} {d : DataW H} {p : List MemPlace} (hval : Value.okWide Try.prog W .any base 22 v) (h : DataW.Trod enc Try.prog W 0 (fun _ => true) true 22 v d p)
    {ts : List TypeId} {ds : List (DataW H)} (hz : (DataW.weightsEach Try.prog ts ds).all (· ≤ reachBytes) = true) {j : Nat} (htj : ts[j]? = some 22) (hdj : ds[j]? = some d) :
    ∃ (A : Option Addr) (cap : Nat) (l : List LO), v = .slice A l.length cap ∧ l.length ≤ 5864062014805 ∧ l.length ≤ cap ∧ cap ≤ 5864062014805 ∧ Reads W A (flat loE l) ∧ FitOs l := by
  obtain ⟨a1, len, cap, rfl⟩ := okWide_slice Try.underlying22 hval
  obtain ⟨fuel, hf⟩ := h
  obtain ⟨A, cap', l, e, h1, h2, h3, h4⟩ := open_g loE mkO [.i64, .i64, .i64] rfl (by decide) (fun r hr => by
      obtain ⟨hl, _⟩ := hr
      match r, hl with
      | [a, b, c], _ => rfl)
    (t := 22) (bytes := 24) Try.underlying22 (by kernel_rfl : Try.prog.underlying 34 = some (.struct (Try.prog.fieldsOf 34))) (by kernel_rfl) (by kernel_rfl) (by kernel_rfl) (by kernel_rfl)
    (fun j g hg => by
      have h4 : (Try.prog.fieldsOf 34).size = 3 := by kernel_rfl
      have hj := (Array.getElem?_eq_some_iff.1 hg).1
      have k0 : ((Try.prog.fieldsOf 34)[0]?).map (fun g => Try.prog.underlying g.type) = some (some (.int .i64)) := by kernel_rfl
      have k1 : ((Try.prog.fieldsOf 34)[1]?).map (fun g => Try.prog.underlying g.type) = some (some (.int .i64)) := by kernel_rfl
      have k2 : ((Try.prog.fieldsOf 34)[2]?).map (fun g => Try.prog.underlying g.type) = some (some (.int .i64)) := by kernel_rfl
      have hj : j = 0 ∨ j = 1 ∨ j = 2 := by omega
      rcases hj with rfl | rfl | rfl
      · rw [hg] at k0; simp only [Option.map_some, Option.some.injEq] at k0; exact ⟨_, rfl, k0⟩
      · rw [hg] at k1; simp only [Option.map_some, Option.some.injEq] at k1; exact ⟨_, rfl, k1⟩
      · rw [hg] at k2; simp only [Option.map_some, Option.some.injEq] at k2; exact ⟨_, rfl, k2⟩) hf (fun n hn => by
        have := List.all_eq_true.1 hz n (DataW.weights_mem_each htj hdj n hn)
        simpa using this)
  injection e with e1 e2 e3
  subst e1 e2 e3
  have hb : cap * 24 ≤ 140737488355328 := by unfold reachBytes at h2; omega
  refine ⟨_, _, l, rfl, by omega, h1, by omega, h4, fun o ho => ?_⟩
  obtain ⟨r, ⟨hl, hw⟩, rfl⟩ := h3 o ho
  match r, hl with
  | [a, b, c], _ => exact ⟨fit_of (hw 0 .i64 a rfl rfl), fit_of (hw 1 .i64 b rfl rfl), fit_of (hw 2 .i64 c rfl rfl)⟩
end

/-! ### What the laws take of the program -/
def PlayOut (al : List LA) (na : Nat) (k : Int) (W : World) (e : Ending) (W' : World) : Prop := ∃ A c, e = .returned (.tuple #[.slice A na c, .int .i64 k]) ∧ (na ≤ c ∧ c ≤ 9223372036854775807) ∧ Reads W' A (flat laE al) ∧ Below W.heap.size W W'
def PlaySpec : Prop := ∀ (m long off : Int) (A : Option Addr) (l : List LO) (n ca : Nat) (V : World) (al : List LA) (na : Nat) (k : Int), Fit m → Fit long → Fit off → l.length = n → n ≤ 5864062014806 → Reads V A (flat loE l) → FitOs l →
  playE m long off n = k → playL m long off l = al → al.length = na → Calls Try.prog 8 #[.int .i64 m, .int .i64 long, .int .i64 off, .slice A n ca] V (PlayOut al na k V)
end Go.Proofs.Yteneglbafngejaa.Le
