/-
  Package logs: entries and logs in memory; what the laws take of the program.
-/
import Derived.Test.YtmnhhfhdaagmhaaLgPure
import Derived.Test.YtmnhhfhdaagmhaaGRows
import Derived.Test.YtmnhhfhdaagmhaaGIMap
import Derived.Test.YtmnhhfhdaagmhaaJpEqZ
import Derived.Laws.StructEq
import Derived.BigQuiet
namespace Go.Proofs.Ytmnhhfhdaagmhaa.Lg
set_option linter.unusedVariables false
set_option linter.unusedSimpArgs false
open Go.RowKit Mem Gt
open Jump (Gave equalZ_c)

abbrev tE : TypeId := 32
def enE : Enc En 3 := ⟨fun o => [.int .i64 o.1, .int .i64 o.2.1, .int .i64 o.2.2], fun _ => rfl, fun x v hv => by simp at hv; rcases hv with rfl | rfl | rfl <;> rfl⟩
theorem elEn : El 23 32 3 24 := El.of Try.underlying23 (by kernel_rfl)
/-- A machine's number. -/
def Fit (a : Int) : Prop := -9223372036854775808 ≤ a ∧ a ≤ 9223372036854775807
theorem fit_of {a : Int} (h : (Lit.int .i64 a).wf = true) : Fit a := by
  simp [Lit.wf, IntKind.min, IntKind.max, IntKind.bits, IntKind.signed] at h; exact h
theorem wf_of {a : Int} (h : Fit a) : (Lit.int .i64 a).wf = true := by
  simp [Lit.wf, IntKind.min, IntKind.max, IntKind.bits, IntKind.signed]; exact h
def FitE (e : En) : Prop := Fit e.1 ∧ Fit e.2.1 ∧ Fit e.2.2
def FitL (l : List En) : Prop := ∀ e ∈ l, FitE e
theorem en_at {W : World} {A : Option Addr} {l : List En} (h : Reads W A (flat enE l)) {k : Nat} {x : En} (hk : l[k]? = some x) :
    ∃ b o, A = some ⟨b, o, none⟩ ∧ b < W.heap.size ∧ W.cell? ⟨b, o + k * 3, none⟩ = some (.int .i64 x.1) ∧ W.cell? ⟨b, o + k * 3 + 1, none⟩ = some (.int .i64 x.2.1) ∧ W.cell? ⟨b, o + k * 3 + 2, none⟩ = some (.int .i64 x.2.2) := by
  obtain ⟨b, o, e, hb, hc⟩ := rds_at enE (by decide) h hk
  exact ⟨b, o, e, hb, hc 0 _ rfl, hc 1 _ rfl, hc 2 _ rfl⟩
theorem box_en {w : World} (x : En) : let w' := w.alloc (.cells #[.int .i64 x.1, .int .i64 x.2.1, .int .i64 x.2.2] tE)
    w'.cell? ⟨w.heap.size, 0, none⟩ = some (.int .i64 x.1) ∧ w'.cell? ⟨w.heap.size, 1, none⟩ = some (.int .i64 x.2.1) ∧ w'.cell? ⟨w.heap.size, 2, none⟩ = some (.int .i64 x.2.2) := by
  have kn : (w.alloc (.cells #[.int .i64 x.1, .int .i64 x.2.1, .int .i64 x.2.2] tE)).heap[w.heap.size]? = some (.cells #[.int .i64 x.1, .int .i64 x.2.1, .int .i64 x.2.2] tE (0, 0)) := Mem.Known.made w tE _
  exact ⟨cell_of_row _ _ 0 _ _ _ kn, cell_of_row _ _ 1 _ _ _ kn, cell_of_row _ _ 2 _ _ _ kn⟩
theorem low_lit (w : World) (o : Obj) : Below w.heap.size w (w.alloc o) := (Below.refl _ w).alloc (Nat.le_refl _) o

/-! ### What came in -/
def mkE (r : List Int) : En := (r.getD 0 0, r.getD 1 0, r.getD 2 0)
theorem raw_mkE (r : List Int) (h : RawOk [.i64, .i64, .i64] r) : enE.enc (mkE r) = raw [.i64, .i64, .i64] r := by
  obtain ⟨hl, _⟩ := h
  match r, hl with
  | [a, b, c], _ => rfl
theorem fit_mkE {r : List Int} (h : RawOk [.i64, .i64, .i64] r) : FitE (mkE r) := by
  obtain ⟨hl, hw⟩ := h
  match r, hl with
  | [a, b, c], _ => exact ⟨fit_of (hw 0 .i64 a rfl rfl), fit_of (hw 1 .i64 b rfl rfl), fit_of (hw 2 .i64 c rfl rfl)⟩
theorem fieldsE (j : Nat) (g : Field) (hg : (Try.prog.fieldsOf 32)[j]? = some g) : ∃ k, ([.i64, .i64, .i64] : List IntKind)[j]? = some k ∧ Try.prog.underlying g.type = some (.int k) := by
  have h4 : (Try.prog.fieldsOf 32).size = 3 := by kernel_rfl
  have hj := (Array.getElem?_eq_some_iff.1 hg).1
  have k0 : ((Try.prog.fieldsOf 32)[0]?).map (fun g => Try.prog.underlying g.type) = some (some (.int .i64)) := by kernel_rfl
  have k1 : ((Try.prog.fieldsOf 32)[1]?).map (fun g => Try.prog.underlying g.type) = some (some (.int .i64)) := by kernel_rfl
  have k2 : ((Try.prog.fieldsOf 32)[2]?).map (fun g => Try.prog.underlying g.type) = some (some (.int .i64)) := by kernel_rfl
  have hj : j = 0 ∨ j = 1 ∨ j = 2 := by omega
  rcases hj with rfl | rfl | rfl
  · rw [hg] at k0; simp only [Option.map_some, Option.some.injEq] at k0; exact ⟨_, rfl, k0⟩
  · rw [hg] at k1; simp only [Option.map_some, Option.some.injEq] at k1; exact ⟨_, rfl, k1⟩
  · rw [hg] at k2; simp only [Option.map_some, Option.some.injEq] at k2; exact ⟨_, rfl, k2⟩
section
open Go.ChangeShapes Go.WideShapes
variable {H : Type} {enc : TypeId × Value → H}
theorem open_ents {W : World} {base : Nat} {v : Value} {d : DataW H} {p : List MemPlace} (hval : Value.okWide Try.prog W .any base 23 v) (h : DataW.Trod enc Try.prog W 0 (fun _ => true) true 23 v d p)
    {ts : List TypeId} {ds : List (DataW H)} (hz : (DataW.weightsEach Try.prog ts ds).all (· ≤ reachBytes) = true) {j : Nat} (htj : ts[j]? = some 23) (hdj : ds[j]? = some d) :
    ∃ (A : Option Addr) (cap : Nat) (l : List En), v = .slice A l.length cap ∧ l.length ≤ cap ∧ cap ≤ 5864062014805 ∧ Reads W A (flat enE l) ∧ FitL l := by
  obtain ⟨a1, len, cap, rfl⟩ := okWide_slice Try.underlying23 hval
  obtain ⟨fuel, hf⟩ := h
  obtain ⟨A, cap', l, e, h1, h2, h3, h4⟩ := open_g enE mkE [.i64, .i64, .i64] rfl (by decide) raw_mkE
    (t := 23) (bytes := 24) Try.underlying23 (by kernel_rfl : Try.prog.underlying 32 = some (.struct (Try.prog.fieldsOf 32))) (by kernel_rfl) (by kernel_rfl) (by kernel_rfl) (by kernel_rfl)
    fieldsE hf (fun n hn => by
        have := List.all_eq_true.1 hz n (DataW.weights_mem_each htj hdj n hn)
        simpa using this)
  injection e with e1 e2 e3
  subst e1 e2 e3
  have hb : cap * 24 ≤ 140737488355328 := by unfold reachBytes at h2; omega
  refine ⟨_, _, l, rfl, h1, by omega, h4, fun o ho => ?_⟩
  obtain ⟨r, hr, rfl⟩ := h3 o ho
  exact fit_mkE hr
theorem open_lgs {W : World} {base : Nat} {v : Value} {d : DataW H} {p : List MemPlace} (hval : Value.okWide Try.prog W .any base 22 v) (h : DataW.Trod enc Try.prog W 0 (fun _ => true) true 22 v d p)
    {ts : List TypeId} {ds : List (DataW H)} (hz : (DataW.weightsEach Try.prog ts ds).all (· ≤ reachBytes) = true) {j : Nat} (htj : ts[j]? = some 22) (hdj : ds[j]? = some d) :
    ∃ (A : Option Addr) (cap : Nat) (ls : List (List En)), v = .slice A ls.length cap ∧ ls.length ≤ 5864062014805 ∧ ls.length ≤ cap ∧ cap ≤ 5864062014805 ∧ GRds enE W A ls ∧ ∀ l ∈ ls, FitL l := by
  obtain ⟨A, cap, ls, e, h1, h2, h3, h4, h5⟩ := open_gg enE mkE [.i64, .i64, .i64] rfl (by decide) raw_mkE (bytes := 24) Try.underlying22 Try.underlying23 (by kernel_rfl : Try.prog.underlying 32 = some (.struct (Try.prog.fieldsOf 32))) (by kernel_rfl) (by kernel_rfl) (by kernel_rfl) (by kernel_rfl) (by kernel_rfl) (by kernel_rfl) (by decide)
    fieldsE hval h hz htj hdj
  refine ⟨A, cap, ls, e, h1, h2, h3, h4, fun l hl y hy => ?_⟩
  obtain ⟨r, hr, rfl⟩ := h5 l hl y hy
  exact fit_mkE hr
end

/-! ### What the laws take of the program -/
def RightSpec : Prop := ∀ (A : Option Addr) (l : List En) (n ca : Nat) (V : World), l.length = n → n ≤ 140737488355328 → Reads V A (flat enE l) → Calls Try.prog 12 #[.slice A n ca] V (Gave (.bool (okL l)) V)
def BestSpec : Prop := ∀ (A : Option Addr) (ls : List (List En)) (n ca : Nat) (V : World) (k : Nat) (e : Int), ls.length = n → n ≤ 140737488355328 → GRds enE V A ls → bestK ls = k → bestE ls = e → Calls Try.prog 9 #[.slice A n ca] V (Gave (.tuple #[.int .i64 k, .int .i64 e]) V)
def CommonSpec : Prop := ∀ (A B : Option Addr) (a b : List En) (n m ca cb : Nat) (V : World) (k : Nat) (e : Int), a.length = n → b.length = m → n ≤ 140737488355328 → m ≤ 140737488355328 → Reads V A (flat enE a) → Reads V B (flat enE b) →
  lgE a b = e → (if e = 0 then com a b else 0) = k → Calls Try.prog 15 #[.slice A n ca, .slice B m cb] V (Gave (.tuple #[.int .i64 k, .int .i64 e]) V)
def MergeOut (Bo : Option Addr) (lo : List En) (nl : Nat) (ks : List Int) (nk : Nat) (wr : List En) (nw : Nat) (e : Int) (W : World) (x : Ending) (W' : World) : Prop :=
  ∃ A c K d D q, x = .returned (.tuple #[.slice A nl c, .slice K nk d, .slice D nw q, .int .i64 e]) ∧ (nl ≤ c ∧ c ≤ 9223372036854775807 ∧ ∀ a, A = some a → W.heap.size ≤ a.block ∨ A = Bo) ∧ Reads W' A (flat enE lo) ∧ Reads W' K (ks.map (Value.int .i64)) ∧ Reads W' D (flat enE wr) ∧ Below W.heap.size W W'
def MergeSpec : Prop := ∀ (A B : Option Addr) (a b : List En) (n m ca cb : Nat) (V : World) (lo wr : List En) (ks : List Int) (nl nk nw : Nat) (e : Int), a.length = n → b.length = m → n ≤ ca → m ≤ cb → n ≤ 140737488355328 → m ≤ 140737488355328 → ca ≤ 9223372036854775807 → cb ≤ 9223372036854775807 → Reads V A (flat enE a) → Reads V B (flat enE b) → FitL a → FitL b →
  lgE a b = e → (if e = 0 then b else []) = lo → (if e = 0 then keysOf (rest2 a b) else []) = ks → (if e = 0 then a.drop (com a b) else []) = wr → lo.length = nl → ks.length = nk → wr.length = nw → Calls Try.prog 16 #[.slice A n ca, .slice B m cb] V (MergeOut B lo nl ks nk wr nw e V)
/-- A map that says of each key the number of its last entry. -/
def IsState (W : World) (b : Nat) (l : List En) : Prop := ∃ ks, ks.Nodup ∧ (∀ x, x ∈ ks ↔ x ∈ l.map (fun e => e.2.2)) ∧ IMap W b (lastN l) ks
theorem IsState.later {W V : World} {b : Nat} {l : List En} (h : IsState W b l) (hb : Below W.heap.size W V) : IsState V b l := by obtain ⟨ks, h1, h2, h3⟩ := h; exact ⟨ks, h1, h2, h3.later hb⟩
def StateSpec : Prop := ∀ (A : Option Addr) (l : List En) (n ca : Nat) (V : World), l.length = n → n ≤ 140737488355328 → Reads V A (flat enE l) → FitL l → Calls Try.prog 11 #[.slice A n ca] V (fun x W' =>
  (okL l = false → x = .returned (.tuple #[.map none, .int .i64 1])) ∧ (okL l = true → ∃ b, x = .returned (.tuple #[.map (some b), .int .i64 0]) ∧ IsState W' b l) ∧ Below V.heap.size V W')
end Go.Proofs.Ytmnhhfhdaagmhaa.Lg
