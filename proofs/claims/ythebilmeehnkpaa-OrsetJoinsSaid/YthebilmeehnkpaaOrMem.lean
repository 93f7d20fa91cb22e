/-
  Package orset: tags and bags in memory; what the laws take of the program.
-/
import Derived.Test.YthebilmeehnkpaaOrPure2
import Derived.Test.YthebilmeehnkpaaGRows
import Derived.Test.YthebilmeehnkpaaGVecs
import Derived.Test.YthebilmeehnkpaaJpEqZ
import Derived.Laws.StructEq
import Derived.Laws.ResultCell
import Derived.Lib.SmallJoins
import Derived.BigQuiet
namespace Go.Proofs.Ythebilmeehnkpaa.Ors
set_option linter.unusedVariables false
set_option linter.unusedSimpArgs false
open Go.RowKit Mem Gt
open Jump (Gave equalZ_c)

abbrev tT : TypeId := 37
abbrev tB : TypeId := 25
abbrev ints (l : List Int) : List Value := l.map (Value.int .i64)
def tgE : Enc Tg 3 := ⟨fun o => [.int .i64 o.1, .int .i64 o.2.1, .int .i64 o.2.2], fun _ => rfl, fun x v hv => by simp at hv; rcases hv with rfl | rfl | rfl <;> rfl⟩
theorem elTg : El 22 37 3 24 := El.of Try.underlying22 (by kernel_rfl)
/-- A machine's number. -/
def Fit (a : Int) : Prop := -9223372036854775808 ≤ a ∧ a ≤ 9223372036854775807
theorem fit_of {a : Int} (h : (Lit.int .i64 a).wf = true) : Fit a := by
  simp [Lit.wf, IntKind.min, IntKind.max, IntKind.bits, IntKind.signed] at h; exact h
theorem wf_of {a : Int} (h : Fit a) : (Lit.int .i64 a).wf = true := by
  simp [Lit.wf, IntKind.min, IntKind.max, IntKind.bits, IntKind.signed]; exact h
def FitH (l : List Tg) : Prop := ∀ t ∈ l, Fit t.2.2
theorem tg_at {W : World} {A : Option Addr} {l : List Tg} (h : Reads W A (flat tgE l)) {k : Nat} {x : Tg} (hk : l[k]? = some x) :
    ∃ b o, A = some ⟨b, o, none⟩ ∧ b < W.heap.size ∧ W.cell? ⟨b, o + k * 3, none⟩ = some (.int .i64 x.1) ∧ W.cell? ⟨b, o + k * 3 + 1, none⟩ = some (.int .i64 x.2.1) ∧ W.cell? ⟨b, o + k * 3 + 2, none⟩ = some (.int .i64 x.2.2) := by
  obtain ⟨b, o, e, hb, hc⟩ := rds_at tgE (by decide) h hk
  exact ⟨b, o, e, hb, hc 0 _ rfl, hc 1 _ rfl, hc 2 _ rfl⟩
theorem int_at {W : World} {A : Option Addr} {l : List Int} (h : Reads W A (ints l)) {k : Nat} {x : Int} (hk : l[k]? = some x) :
    ∃ b o, A = some ⟨b, o, none⟩ ∧ b < W.heap.size ∧ W.cell? ⟨b, o + k, none⟩ = some (.int .i64 x) := h k _ (by rw [List.getElem?_map, hk]; rfl)
theorem low_lit (w : World) (o : Obj) : Below w.heap.size w (w.alloc o) := (Below.refl _ w).alloc (Nat.le_refl _) o
theorem box_tg {w : World} (x : Tg) : let w' := w.alloc (.cells #[.int .i64 x.1, .int .i64 x.2.1, .int .i64 x.2.2] tT)
    w'.cell? ⟨w.heap.size, 0, none⟩ = some (.int .i64 x.1) ∧ w'.cell? ⟨w.heap.size, 1, none⟩ = some (.int .i64 x.2.1) ∧ w'.cell? ⟨w.heap.size, 2, none⟩ = some (.int .i64 x.2.2) := by
  have kn := Known.made w tT #[.int .i64 x.1, .int .i64 x.2.1, .int .i64 x.2.2]
  exact ⟨kn.cell 0, kn.cell 1, kn.cell 2⟩
theorem sizeBag : (Try.prog.info? tB).map (·.size) = some 2 := by kernel_rfl
theorem sizeTag : (Try.prog.info? tT).map (·.size) = some 3 := by kernel_rfl
theorem fieldsBag : Try.prog.underlying 25 = some (.struct #[⟨ "Has", 22, 0, false, "", "", 0⟩, ⟨ "Saw", 23, 1, false, "", "", 24⟩]) := by kernel_rfl
theorem bagOne : Go.Deep.oneCellFields Try.prog #[⟨ "Has", 22, 0, false, "", "", 0⟩, ⟨ "Saw", 23, 1, false, "", "", 24⟩] = true := by kernel_rfl
theorem bagCells : Try.prog.cellsOf 25 = 2 := by kernel_rfl

/-- A bag lies there: its tags behind H, its numbers behind S. -/
structure HB (V : World) (H S : Option Addr) (nh ch ns cs : Nat) (b : Bg) : Prop where
  lenH : b.1.length = nh
  lenS : b.2.length = ns
  capH : nh ≤ ch ∧ ch ≤ 9223372036854775807
  capS : ns ≤ cs ∧ cs ≤ 9223372036854775807
  bh : nh ≤ 5864062014805
  bs : ns ≤ 17592186044416
  has : Reads V H (flat tgE b.1)
  saw : Reads V S (ints b.2)
  fit : FitH b.1
theorem HB.below {V U : World} {H S : Option Addr} {nh ch ns cs : Nat} {b : Bg} (h : HB V H S nh ch ns cs b) (hb : Below V.heap.size V U) : HB U H S nh ch ns cs b := ⟨h.lenH, h.lenS, h.capH, h.capS, h.bh, h.bs, h.has.below hb, h.saw.below hb, h.fit⟩
/-- Block g holds a bag. -/
def HG (V : World) (g : Nat) (H S : Option Addr) (nh ch ns cs : Nat) (b : Bg) : Prop := V.cell? ⟨g, 0, none⟩ = some (.slice H nh ch) ∧ V.cell? ⟨g, 1, none⟩ = some (.slice S ns cs) ∧ HB V H S nh ch ns cs b
section
variable {V U : World} {g : Nat} {H S : Option Addr} {nh ch ns cs : Nat} {b : Bg}
theorem HG.below (h : HG V g H S nh ch ns cs b) (hb : Below V.heap.size V U) : HG U g H S nh ch ns cs b :=
  ⟨(hb.cell (World.block_lt_of_cell? _ _ h.1)).trans h.1, (hb.cell (World.block_lt_of_cell? _ _ h.2.1)).trans h.2.1, h.2.2.below hb⟩
theorem HG.alloc (h : HG V g H S nh ch ns cs b) (o : Obj) : HG (V.alloc o) g H S nh ch ns cs b := h.below (low_lit V o)
theorem HG.new (h : HB V H S nh ch ns cs b) (hg : g = V.heap.size) : HG (V.alloc (.cells #[.slice H nh ch, .slice S ns cs] 25)) g H S nh ch ns cs b := by
  subst hg
  have kn := Known.made V tB #[.slice H nh ch, .slice S ns cs]
  exact ⟨kn.cell 0, kn.cell 1, h.below (low_lit V _)⟩
end
def bagV (H S : Option Addr) (nh ch ns cs : Nat) : Value := .agg #[.slice H nh ch, .slice S ns cs]

/-! ### What came in -/
def mkT (r : List Int) : Tg := (r.getD 0 0, r.getD 1 0, r.getD 2 0)
theorem raw_mkT (r : List Int) (h : RawOk [.i64, .i64, .i64] r) : tgE.enc (mkT r) = raw [.i64, .i64, .i64] r := by
  obtain ⟨hl, _⟩ := h
  match r, hl with
  | [a, b, c], _ => rfl
theorem fit_mkT {r : List Int} (h : RawOk [.i64, .i64, .i64] r) : Fit (mkT r).2.2 := by
  obtain ⟨hl, hw⟩ := h
  match r, hl with
  | [a, b, c], _ => exact fit_of (hw 2 .i64 c rfl rfl)
theorem fieldsT (j : Nat) (g : Field) (hg : (Try.prog.fieldsOf 37)[j]? = some g) : ∃ k, ([.i64, .i64, .i64] : List IntKind)[j]? = some k ∧ Try.prog.underlying g.type = some (.int k) := by
  have h4 : (Try.prog.fieldsOf 37).size = 3 := by kernel_rfl
  have hj := (Array.getElem?_eq_some_iff.1 hg).1
  have k0 : ((Try.prog.fieldsOf 37)[0]?).map (fun g => Try.prog.underlying g.type) = some (some (.int .i64)) := by kernel_rfl
  have k1 : ((Try.prog.fieldsOf 37)[1]?).map (fun g => Try.prog.underlying g.type) = some (some (.int .i64)) := by kernel_rfl
  have k2 : ((Try.prog.fieldsOf 37)[2]?).map (fun g => Try.prog.underlying g.type) = some (some (.int .i64)) := by kernel_rfl
  have hj : j = 0 ∨ j = 1 ∨ j = 2 := by omega
  rcases hj with rfl | rfl | rfl
  · rw [hg] at k0; simp only [Option.map_some, Option.some.injEq] at k0; exact ⟨_, rfl, k0⟩
  · rw [hg] at k1; simp only [Option.map_some, Option.some.injEq] at k1; exact ⟨_, rfl, k1⟩
  · rw [hg] at k2; simp only [Option.map_some, Option.some.injEq] at k2; exact ⟨_, rfl, k2⟩
section
open Go.ChangeShapes Go.WideShapes Go.Deep
variable {H : Type} {enc : TypeId × Value → H}
set_option maxRecDepth 100000 in
theorem open_bag {W : World} {base : Nat} {v : Value} {d : DataW H} {p : List MemPlace} (hval : Value.okWide Try.prog W .any base 25 v) (h : DataW.Trod enc Try.prog W 0 (fun _ => true) true 25 v d p)
    {ts : List TypeId} {ds : List (DataW H)} (hz : (DataW.weightsEach Try.prog ts ds).all (· ≤ reachBytes) = true) {j : Nat} (htj : ts[j]? = some 25) (hdj : ds[j]? = some d) :
    ∃ (A S : Option Addr) (nh ch ns cs : Nat) (b : Bg), v = .agg #[.slice A nh ch, .slice S ns cs] ∧ HB W A S nh ch ns cs b := by
  obtain ⟨v0, v1, y0, y1, n, rfl, rfl, _, t0, t1⟩ := Go.Joins.open_agg2 fieldsBag bagOne bagCells hval h
  have hw0 : ∀ q ∈ y0.1.weights Try.prog 22, q ≤ reachBytes := fun q hq => by
    have := List.all_eq_true.1 hz _ (DataW.weights_mem_each htj hdj q (by
      simp only [DataW.weights, fieldsBag, List.map_cons, List.map_nil, DataW.weightsEach, List.append_nil]
      exact List.mem_append_left _ hq))
    simpa using this
  have hw1 : ∀ q ∈ y1.1.weights Try.prog 23, q ≤ reachBytes := fun q hq => by
    have := List.all_eq_true.1 hz _ (DataW.weights_mem_each htj hdj q (by
      simp only [DataW.weights, fieldsBag, List.map_cons, List.map_nil, DataW.weightsEach, List.append_nil]
      exact List.mem_append_right _ hq))
    simpa using this
  obtain ⟨A, ch, l, rfl, h1, h2, h3, h4⟩ := open_g tgE mkT [.i64, .i64, .i64] rfl (by decide) raw_mkT
    (t := 22) (bytes := 24) Try.underlying22 (by kernel_rfl : Try.prog.underlying 37 = some (.struct (Try.prog.fieldsOf 37))) (by kernel_rfl) (by kernel_rfl) (by kernel_rfl) (by kernel_rfl)
    fieldsT t0 hw0
  obtain ⟨s, ⟨S, cs, rfl, k1, k2, k3⟩, k4, k5⟩ := vec_cell Try.underlying23 Try.underlying3 (by kernel_rfl) (by kernel_rfl) t1 hw1
  have hb : ch * 24 ≤ 140737488355328 := by unfold reachBytes at h2; omega
  exact ⟨A, S, _, ch, _, cs, (l, s), rfl, rfl, rfl, ⟨h1, by omega⟩, k1, by show l.length ≤ _; omega, k4, h4, k3, fun o ho => by
    obtain ⟨r, hr, rfl⟩ := h3 o ho
    exact fit_mkT hr⟩
end

/-! ### What the laws take of the program -/
/-- A bag and an error are given. -/
def BOut (b : Bg) (nh ns : Nat) (e : Int) (W : World) (x : Ending) (W' : World) : Prop := ∃ H S ch cs, x = .returned (.tuple #[.agg #[.slice H nh ch, .slice S ns cs], .int .i64 e]) ∧ HB W' H S nh ch ns cs b ∧ Below W.heap.size W W'
/-- A list and an error are given. -/
def LOut (l : List Int) (n : Nat) (e : Int) (W : World) (x : Ending) (W' : World) : Prop := ∃ A c, x = .returned (.tuple #[.slice A n c, .int .i64 e]) ∧ (n ≤ c ∧ c ≤ 9223372036854775807) ∧ Reads W' A (ints l) ∧ Below W.heap.size W W'
def dropR (b : Bg) (elem : Int) : Bg := if okB b = true then dropB b elem else ([], [])
def allR (b : Bg) : List Int := if okB b = true then elems b else []
def RightSpec : Prop := ∀ (H S : Option Addr) (nh ch ns cs : Nat) (b : Bg) (V : World) (r : Bool), HB V H S nh ch ns cs b → okB b = r → Calls Try.prog 14 #[.agg #[.slice H nh ch, .slice S ns cs]] V (Gave (.bool r) V)
def NewSpec : Prop := ∀ (many : Int) (V : World) (b : Bg) (nh ns : Nat) (e : Int), (Lit.int .i64 many).wf = true → newE many = e → newB many = b → b.1.length = nh → b.2.length = ns → Calls Try.prog 9 #[.int .i64 many] V (BOut b nh ns e V)
def PutSpec : Prop := ∀ (H S : Option Addr) (nh ch ns cs : Nat) (b : Bg) (who elem : Int) (V : World) (p : Bg) (mh ms : Nat) (e : Int), HB V H S nh ch ns cs b → (Lit.int .i64 who).wf = true → Fit elem → putE b who = e → putB b who elem = p → p.1.length = mh → p.2.length = ms →
  Calls Try.prog 10 #[.agg #[.slice H nh ch, .slice S ns cs], .int .i64 who, .int .i64 elem] V (BOut p mh ms e V)
def DropSpec : Prop := ∀ (H S : Option Addr) (nh ch ns cs : Nat) (b : Bg) (elem : Int) (V : World) (p : Bg) (mh ms : Nat) (e : Int), HB V H S nh ch ns cs b → Fit elem → okE b = e → dropR b elem = p → p.1.length = mh → p.2.length = ms →
  Calls Try.prog 11 #[.agg #[.slice H nh ch, .slice S ns cs], .int .i64 elem] V (BOut p mh ms e V)
def AllSpec : Prop := ∀ (H S : Option Addr) (nh ch ns cs : Nat) (b : Bg) (V : World) (l : List Int) (n : Nat) (e : Int), HB V H S nh ch ns cs b → okE b = e → allR b = l → l.length = n →
  Calls Try.prog 12 #[.agg #[.slice H nh ch, .slice S ns cs]] V (LOut l n e V)
def JoinSpec : Prop := ∀ (H S H2 S2 : Option Addr) (nh ch ns cs nh2 ch2 ns2 cs2 : Nat) (a b : Bg) (V : World) (p : Bg) (mh ms : Nat) (e : Int), HB V H S nh ch ns cs a → HB V H2 S2 nh2 ch2 ns2 cs2 b → joinE a b = e → joinB a b = p → p.1.length = mh → p.2.length = ms →
  Calls Try.prog 20 #[.agg #[.slice H nh ch, .slice S ns cs], .agg #[.slice H2 nh2 ch2, .slice S2 ns2 cs2]] V (BOut p mh ms e V)
end Go.Proofs.Ythebilmeehnkpaa.Ors
