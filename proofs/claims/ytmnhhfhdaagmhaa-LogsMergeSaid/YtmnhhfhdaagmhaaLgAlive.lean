/-
  Package logs: what the laws try first; LogsCommon.
-/
import Derived.Test.YtmnhhfhdaagmhaaLgEq
import Derived.Test.YtmnhhfhdaagmhaaLaw
import Derived.Deep.Cut
import Derived.Deep.DeepCutAuto
namespace Go.Proofs.Ytmnhhfhdaagmhaa.Lg
set_option linter.unusedVariables false
set_option linter.unusedSimpArgs false
open Go.RowKit Mem Gt
open Jump (Gave equalZ_c)

theorem reads_lit (V : World) (t : TypeId) {cs : Array Value} {l : List Value} (h : cs.toList = l) : Reads (V.alloc (.cells cs t)) (some ⟨V.heap.size, 0, none⟩) l := fun k v hv => by
  refine ⟨V.heap.size, 0, rfl, by simp, ?_⟩
  have kn : (V.alloc (.cells cs t)).heap[V.heap.size]? = some (.cells cs t (0, 0)) := Mem.Known.made V t cs
  rw [Nat.zero_add, cell_of_row _ _ k _ _ _ kn]
  rw [← h] at hv
  simpa using hv
def own0 : List En := [(1, 1, 5), (1, 2, 6)]
def oth0 : List En := [(1, 1, 5), (2, 2, 7), (2, 3, 6)]
theorem pure0 : bestE [own0, oth0, []] = 0 ∧ bestK [own0, oth0, []] = 1 ∧ lgE own0 oth0 = 0 ∧ keysOf (rest2 own0 oth0) = [6, 7] ∧ own0.drop (com own0 oth0) = [(1, 2, 6)] := by
  refine ⟨by decide +kernel, by decide +kernel, by decide +kernel, by decide +kernel, by decide +kernel⟩
theorem fit0 : FitL own0 ∧ FitL oth0 := by
  constructor
  · intro e he
    simp only [own0, List.mem_cons, List.mem_singleton, List.not_mem_nil, or_false] at he
    unfold FitE Fit
    rcases he with rfl | rfl <;> simp
  · intro e he
    simp only [oth0, List.mem_cons, List.mem_singleton, List.not_mem_nil, or_false] at he
    unfold FitE Fit
    rcases he with rfl | rfl | rfl <;> simp
set_option maxHeartbeats 4000000 in
theorem alive_c (hB : BestSpec) (hM : MergeSpec) (V : World) : Calls Try.prog 23 #[] V (Gave (.bool true) V) := by
  have P1 := Lib.hid (fun A ca V (hr : GRds enE V A [own0, oth0, []]) => hB A [own0, oth0, []] 3 ca V 1 0 rfl (by omega) hr pure0.2.1 pure0.1)
  have P2 := Lib.hid (fun A B ca cb V (h1 : 2 ≤ ca) (h2 : 3 ≤ cb) (h3 : ca ≤ 100) (h4 : cb ≤ 100) (hr : Reads V A (flat enE own0)) (hs : Reads V B (flat enE oth0)) => hM A B own0 oth0 2 3 ca cb V oth0 [(1, 2, 6)] [6, 7] 3 2 1 0 rfl rfl h1 h2 (by omega) (by omega) (by omega) (by omega) hr hs fit0.1 fit0.2 pure0.2.2.1 rfl pure0.2.2.2.1 pure0.2.2.2.2 rfl rfl rfl)
  go_enter Try.func23, Try.ntmps23
  go_upto_region 2 with fail
  go_cut [1, 2] (fun v u wx => ∃ A B, v = .slice A 2 2 ∧ u = .slice B 3 3 ∧ Reads wx A (flat enE own0) ∧ Reads wx B (flat enE oth0) ∧ Below V.heap.size V wx)
  case first =>
    have R1 := Lib.hid (reads_lit V 32 (cs := #[.int .i64 1, .int .i64 1, .int .i64 5, .int .i64 1, .int .i64 2, .int .i64 6]) (l := flat enE own0) rfl)
    have B1 := Lib.hid (low_lit V (.cells #[.int .i64 1, .int .i64 1, .int .i64 5, .int .i64 1, .int .i64 2, .int .i64 6] 32))
    go_wp2_with fail
    go_meet
    refine ⟨_, _, rfl, rfl, R1.out.below (low_lit _ _), ?_, B1.out.trans ((low_lit _ _).mono (by simp))⟩
    have := reads_lit (V.alloc (.cells #[.int .i64 1, .int .i64 1, .int .i64 5, .int .i64 1, .int .i64 2, .int .i64 6] 32)) 32 (cs := #[.int .i64 1, .int .i64 1, .int .i64 5, .int .i64 2, .int .i64 2, .int .i64 7, .int .i64 2, .int .i64 3, .int .i64 6]) (l := flat enE oth0) rfl
    simpa using this
  case rest =>
    obtain ⟨A, B, rfl, rfl, hr, hs, hb⟩ := hcut
    have RA := Lib.hid hr
    have RB := Lib.hid hs
    have BB := Lib.hid hb
    have GR := Lib.hid (show GRds enE (wc.alloc (.cells #[.slice A 2 2, .slice B 3 3, .slice none 0 0] 23)) (some ⟨wc.heap.size, 0, none⟩) [own0, oth0, []] from
      ⟨[.slice A 2 2, .slice B 3 3, .slice none 0 0], reads_lit wc _ rfl, rfl, fun k u l hu hl => by
        have hk : k < 3 := (List.getElem?_eq_some_iff.1 hu).1
        have hk : k = 0 ∨ k = 1 ∨ k = 2 := by omega
        rcases hk with rfl | rfl | rfl
        · simp at hu hl; subst hu hl; exact ⟨A, 2, rfl, ⟨by decide, by decide⟩, by decide, hr.below (low_lit _ _)⟩
        · simp at hu hl; subst hu hl; exact ⟨B, 3, rfl, ⟨by decide, by decide⟩, by decide, hs.below (low_lit _ _)⟩
        · simp at hu hl; subst hu hl; exact ⟨none, 0, rfl, ⟨by decide, by decide⟩, by decide, Reads.nil⟩⟩)
    clear hr hs hb
    obtain ⟨w0, rfl⟩ : ∃ w0 : World, w0 = wc := ⟨_, rfl⟩
    go_wp2_with fail
    refine (P1.out _ _ _ GR.out).mono ?_
    rintro e w1 ⟨rfl, hb1⟩
    have B1 := Lib.hid (show Below w0.heap.size w0 w1 from (low_lit w0 _).trans (hb1.mono (by simp)))
    have P3 := Lib.hid (P2.out A B 2 3 w1 (by omega) (by omega) (by omega) (by omega) (RA.out.below B1.out) (RB.out.below B1.out))
    clear hb1
    go_wp2_with fail
    refine P3.out.mono ?_
    rintro e w2 ⟨A2, c2, K, d, D, q, rfl, _, h1, h2, h3, hb2⟩
    have EZ := Lib.hid (fun (X : World) (hX : Below w2.heap.size w2 X) B cb (hr : Reads X B ([6, 7].map (Value.int .i64))) => equalZ_c K B [6, 7] [6, 7] 2 2 d cb X rfl rfl (by omega) (by omega) (h2.below hX) hr)
    have B2 := Lib.hid (BB.out.trans ((B1.out.trans (hb2.mono B1.out.size)).mono BB.out.size))
    clear h1 h2 h3 hb2 P1 P2 P3 GR
    go_wp2_with fail
    refine (EZ.out _ (low_lit w2 _) _ _ (reads_lit w2 _ rfl)).mono ?_
    rintro e w3 ⟨rfl, hb3⟩
    have B3 := Lib.hid (show Below w2.heap.size w2 w3 from (low_lit w2 _).trans (hb3.mono (by simp)))
    clear hb3 EZ
    go_wp2
    go_ret
    exact ⟨rfl, B2.out.trans (B3.out.mono B2.out.size)⟩
end Go.Proofs.Ytmnhhfhdaagmhaa.Lg
