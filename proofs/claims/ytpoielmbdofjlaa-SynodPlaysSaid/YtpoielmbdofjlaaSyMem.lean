/-
  Package synod: operations, answers and votes in memory; slices.Equal of answers; what the laws take of the program (PlaySpec).
-/
import Derived.Test.YtpoielmbdofjlaaSyPure
import Derived.Test.YtpoielmbdofjlaaGTab
import Derived.Test.YtpoielmbdofjlaaJpEqZ
import Derived.Laws.StructEq
import Derived.BigQuiet
namespace Go.Proofs.Ytpoielmbdofjlaa.Syn
set_option linter.unusedVariables false
set_option linter.unusedSimpArgs false
open Go.RowKit Mem Gt
open Jump (Gave equalZ_c)

def voE : Enc VO 4 := ⟨fun o => [.int .i64 o.1, .int .i64 o.2.1, .int .u16 (o.2.2.1 : Nat), .int .i64 o.2.2.2], fun _ => rfl, fun x v hv => by simp at hv; rcases hv with rfl | rfl | rfl | rfl <;> rfl⟩
def anE : Enc An 3 := ⟨fun o => [.int .i64 o.1, .int .u16 (o.2.1 : Nat), .int .i64 o.2.2], fun _ => rfl, fun x v hv => by simp at hv; rcases hv with rfl | rfl | rfl <;> rfl⟩
def intE : Enc Int 1 := ⟨fun z => [.int .i64 z], fun _ => rfl, fun x v hv => by simp at hv; subst hv; rfl⟩
theorem flat_int (l : List Int) : flat intE l = l.map (Value.int .i64) := by
  induction l with
  | nil => rfl
  | cons a l ih => rw [flat_cons, ih]; rfl
theorem elVO : El 22 37 4 32 := El.of Try.underlying22 (by kernel_rfl)
theorem elAn : El 23 31 3 24 := El.of Try.underlying23 (by kernel_rfl)
theorem elInt : El 24 3 1 8 := El.of Try.underlying24 (by kernel_rfl)
/-- A machine's number. -/
def Fit (a : Int) : Prop := -9223372036854775808 ≤ a ∧ a ≤ 9223372036854775807
theorem fit_of {a : Int} (h : (Lit.int .i64 a).wf = true) : Fit a := by
  simp [Lit.wf, IntKind.min, IntKind.max, IntKind.bits, IntKind.signed] at h; exact h
theorem wf_of {a : Int} (h : Fit a) : (Lit.int .i64 a).wf = true := by
  simp [Lit.wf, IntKind.min, IntKind.max, IntKind.bits, IntKind.signed]; exact h
theorem fits16 {z : Int} (h : (Lit.int .u16 z).wf = true) : 0 ≤ z ∧ z < 65536 := by
  simp [Lit.wf, IntKind.min, IntKind.max, IntKind.bits, IntKind.signed] at h
  omega
def FitO (o : VO) : Prop := Fit o.1 ∧ Fit o.2.1 ∧ o.2.2.1 < 65536 ∧ Fit o.2.2.2
def FitOs (l : List VO) : Prop := ∀ o ∈ l, FitO o
/-- The cells of an operation, of an answer. -/
theorem vo_at {W : World} {A : Option Addr} {l : List VO} (h : Reads W A (flat voE l)) {k : Nat} {x : VO} (hk : l[k]? = some x) :
    ∃ b o, A = some ⟨b, o, none⟩ ∧ b < W.heap.size ∧ W.cell? ⟨b, o + k * 4, none⟩ = some (.int .i64 x.1) ∧ W.cell? ⟨b, o + k * 4 + 1, none⟩ = some (.int .i64 x.2.1) ∧ W.cell? ⟨b, o + k * 4 + 2, none⟩ = some (.int .u16 (x.2.2.1 : Nat)) ∧ W.cell? ⟨b, o + k * 4 + 3, none⟩ = some (.int .i64 x.2.2.2) := by
  obtain ⟨b, o, e, hb, hc⟩ := rds_at voE (by decide) h hk
  exact ⟨b, o, e, hb, hc 0 _ rfl, hc 1 _ rfl, hc 2 _ rfl, hc 3 _ rfl⟩
theorem an_at {W : World} {A : Option Addr} {l : List An} (h : Reads W A (flat anE l)) {k : Nat} {x : An} (hk : l[k]? = some x) :
    ∃ b o, A = some ⟨b, o, none⟩ ∧ b < W.heap.size ∧ W.cell? ⟨b, o + k * 3, none⟩ = some (.int .i64 x.1) ∧ W.cell? ⟨b, o + k * 3 + 1, none⟩ = some (.int .u16 (x.2.1 : Nat)) ∧ W.cell? ⟨b, o + k * 3 + 2, none⟩ = some (.int .i64 x.2.2) := by
  obtain ⟨b, o, e, hb, hc⟩ := rds_at anE (by decide) h hk
  exact ⟨b, o, e, hb, hc 0 _ rfl, hc 1 _ rfl, hc 2 _ rfl⟩
theorem z_at {W : World} {A : Option Addr} {l : List Int} (h : Reads W A (l.map (Value.int .i64))) {k : Nat} {x : Int} (hk : l[k]? = some x) :
    ∃ b o, A = some ⟨b, o, none⟩ ∧ b < W.heap.size ∧ W.cell? ⟨b, o + k, none⟩ = some (.int .i64 x) :=
  h k (.int .i64 x) (by rw [List.getElem?_map, hk]; rfl)

/-! ### Operations that came in -/
def mkO (r : List Int) : VO := (r.getD 0 0, r.getD 1 0, (r.getD 2 0).toNat, r.getD 3 0)
section
open Go.ChangeShapes Go.WideShapes
variable {H : Type} {enc : TypeId × Value → H}
theorem open_vos {W : World} {base : Nat} {v : Value} {d : DataW H} {p : List MemPlace} (hval : Value.okWide Try.prog W .any base 22 v) (h : DataW.Trod enc Try.prog W 0 (fun _ => true) true 22 v d p)
    {ts : List TypeId} {ds : List (DataW H)} (hz : (DataW.weightsEach Try.prog ts ds).all (· ≤ reachBytes) = true) {j : Nat} (htj : ts[j]? = some 22) (hdj : ds[j]? = some d) :
    ∃ (A : Option Addr) (cap : Nat) (l : List VO), v = .slice A l.length cap ∧ l.length ≤ 4398046511104 ∧ l.length ≤ cap ∧ cap ≤ 4398046511104 ∧ Reads W A (flat voE l) ∧ FitOs l := by
  obtain ⟨a1, len, cap, rfl⟩ := okWide_slice Try.underlying22 hval
  obtain ⟨fuel, hf⟩ := h
  obtain ⟨A, cap', l, e, h1, h2, h3, h4⟩ := open_g voE mkO [.i64, .i64, .u16, .i64] rfl (by decide) (fun r hr => by
      obtain ⟨hl, hw⟩ := hr
      match r, hl with
      | [a, b, c, e], _ =>
        have hc := fits16 (hw 2 .u16 c rfl rfl)
        show [Value.int .i64 a, .int .i64 b, .int .u16 ((c.toNat : Nat) : Int), .int .i64 e] = [.int .i64 a, .int .i64 b, .int .u16 c, .int .i64 e]
        rw [Int.toNat_of_nonneg hc.1])
    (t := 22) (bytes := 32) Try.underlying22 (by kernel_rfl : Try.prog.underlying 37 = some (.struct (Try.prog.fieldsOf 37))) (by kernel_rfl) (by kernel_rfl) (by kernel_rfl) (by kernel_rfl)
    (fun j g hg => by
      have h4 : (Try.prog.fieldsOf 37).size = 4 := by kernel_rfl
      have hj := (Array.getElem?_eq_some_iff.1 hg).1
      have k0 : ((Try.prog.fieldsOf 37)[0]?).map (fun g => Try.prog.underlying g.type) = some (some (.int .i64)) := by kernel_rfl
      have k1 : ((Try.prog.fieldsOf 37)[1]?).map (fun g => Try.prog.underlying g.type) = some (some (.int .i64)) := by kernel_rfl
      have k2 : ((Try.prog.fieldsOf 37)[2]?).map (fun g => Try.prog.underlying g.type) = some (some (.int .u16)) := by kernel_rfl
      have k3 : ((Try.prog.fieldsOf 37)[3]?).map (fun g => Try.prog.underlying g.type) = some (some (.int .i64)) := by kernel_rfl
      have hj : j = 0 ∨ j = 1 ∨ j = 2 ∨ j = 3 := by omega
      rcases hj with rfl | rfl | rfl | rfl
      · rw [hg] at k0; simp only [Option.map_some, Option.some.injEq] at k0; exact ⟨_, rfl, k0⟩
      · rw [hg] at k1; simp only [Option.map_some, Option.some.injEq] at k1; exact ⟨_, rfl, k1⟩
      · rw [hg] at k2; simp only [Option.map_some, Option.some.injEq] at k2; exact ⟨_, rfl, k2⟩
      · rw [hg] at k3; simp only [Option.map_some, Option.some.injEq] at k3; exact ⟨_, rfl, k3⟩) hf (fun n hn => by
        have := List.all_eq_true.1 hz n (DataW.weights_mem_each htj hdj n hn)
        simpa using this)
  injection e with e1 e2 e3
  subst e1 e2 e3
  have hb : cap * 32 ≤ 140737488355328 := by unfold reachBytes at h2; omega
  refine ⟨_, _, l, rfl, by omega, h1, by omega, h4, fun o ho => ?_⟩
  obtain ⟨r, ⟨hl, hw⟩, rfl⟩ := h3 o ho
  match r, hl with
  | [a, b, c, e], _ =>
    have hc := fits16 (hw 2 .u16 c rfl rfl)
    exact ⟨fit_of (hw 0 .i64 a rfl rfl), fit_of (hw 1 .i64 b rfl rfl), by show c.toNat < 65536; omega, fit_of (hw 3 .i64 e rfl rfl)⟩
end

/-! ### What the laws take of the program -/
def playE (m : Int) (n : Nat) : Int := if m < 1 ∨ 16 < m ∨ 400 < n then 2 else 0
def playA (m : Int) (l : List VO) : List An := if playE m l.length = 0 then (run m.toNat S0 l).2 else []
def playC (m : Int) (l : List VO) : List Int := if playE m l.length = 0 then chosen m.toNat (run m.toNat S0 l).1 else []
def PlayOut (al : List An) (na : Nat) (cs : List Int) (nc : Nat) (k : Int) (W : World) (e : Ending) (W' : World) : Prop :=
  ∃ A c C d, e = .returned (.tuple #[.slice A na c, .slice C nc d, .int .i64 k]) ∧ na ≤ c ∧ Reads W' A (flat anE al) ∧ Reads W' C (cs.map (Value.int .i64)) ∧ Below W.heap.size W W'
def PlaySpec : Prop := ∀ (m : Int) (A : Option Addr) (l : List VO) (n ca : Nat) (V : World) (al : List An) (na : Nat) (cs : List Int) (nc : Nat) (k : Int), Fit m → l.length = n → n ≤ 4398046511106 → Reads V A (flat voE l) → FitOs l →
  playE m n = k → playA m l = al → al.length = na → playC m l = cs → cs.length = nc → Calls Try.prog 8 #[.int .i64 m, .slice A n ca] V (PlayOut al na cs nc k V)
theorem playE_vals (m : Int) (n : Nat) : playE m n = 0 ∧ 1 ≤ m ∧ m ≤ 16 ∧ n ≤ 400 ∨ playE m n = 2 := by
  unfold playE
  split
  · exact .inr rfl
  · exact .inl ⟨rfl, by omega, by omega, by omega⟩
theorem playC_len (m : Int) (l : List VO) : (playC m l).length ≤ 400 := by
  unfold playC
  split
  · unfold chosen
    rw [List.length_map]
    have := List.length_filter_le (fun b => most m.toNat (run m.toNat S0 l).1 (b + 1)) (List.range 400)
    simpa using this
  · simp
end Go.Proofs.Ytpoielmbdofjlaa.Syn
