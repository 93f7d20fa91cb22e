/-
  Slices of sets (16-bit words): read, made by append, brought in; the words' operations.
-/
import Derived.Test.YteggbepibfpjcaaQrPure
import Derived.Test.YteggbepibfpjcaaStInts
import Derived.Laws.BitsLemmas
namespace Go.Proofs.Yteggbepibfpjcaa.Qr
set_option linter.unusedVariables false
set_option linter.unusedSimpArgs false
open Go.RowKit Mem

/-- An answer; what was there before is as it was. -/
def Gave (v : Value) (W : World) (e : Ending) (W' : World) : Prop := e = .returned v ∧ Below W.heap.size W W'
theorem wrap_u16 (n : Int) : IntKind.u16.wrap n = n % 65536 := by simp [IntKind.wrap, IntKind.bits, IntKind.signed]
theorem wraps_u16 (n : Int) (h₀ : 0 ≤ n) (h₁ : n < 2 ^ 16) : IntKind.u16.wrap n = n := by rw [wrap_u16]; omega
theorem and16 {a b : Nat} (ha : a < 65536) (hb : b < 65536) : bits .and .u16 (a : Int) (b : Int) = ((a &&& b : Nat) : Int) := (bits_nat .u16 16 (by decide) wraps_u16 a b ha hb).1
theorem or16 {a b : Nat} (ha : a < 65536) (hb : b < 65536) : bits .or .u16 (a : Int) (b : Int) = ((a ||| b : Nat) : Int) := (bits_nat .u16 16 (by decide) wraps_u16 a b ha hb).2
theorem wrap16 {a : Nat} (ha : a < 65536) : IntKind.u16.wrap (a : Int) = (a : Int) := wraps_u16 _ (by omega) (by omega)

def w16 (s : Nat) : Value := .int .u16 (s : Int)
/-- All are words. -/
def Fits (l : List Nat) : Prop := ∀ s ∈ l, s < 65536
theorem info16 : (Try.prog.info? 23).map (fun i => (i.zero, i.size, i.bytes)) = some (some (.int .u16 0), 1, 2) := by kernel_rfl
theorem elem16 : Elem 22 23 2 := by
  obtain ⟨i, hi, hz0, hz1, hz2⟩ := info_parts info16
  exact ⟨Try.underlying22, i, _, hi, hz0, hz1, hz2, rfl⟩
/-- v is a slice of the call's own (block B or later) of the sets l. -/
def UTab (W : World) (B : Nat) (v : Value) (l : List Nat) : Prop := Grows W B 23 v (l.map w16)
section
variable {W V : World} {B : Nat} {v : Value} {l : List Nat}
theorem UTab.nil (W : World) (B : Nat) : UTab W B (.slice none 0 0) [] := Grows.nil W B _
theorem UTab.form (h : UTab W B v l) : ∃ A cap, v = .slice A l.length cap ∧ l.length ≤ cap ∧ cap ≤ maxLen := by
  have := Grows.form h; simpa using this
theorem UTab.later (h : UTab W B v l) (hb : Below W.heap.size W V) : UTab V B v l := Grows.later h hb
theorem UTab.drew (h : UTab W B v l) : UTab W.drew B v l := h
theorem UTab.lt (h : UTab W B v l) : ∀ k, v.ownBlock = some k → B ≤ k ∧ k < W.heap.size := Grows.lt h
theorem UTab.down {B' : Nat} (h : UTab W B v l) (hb : B' ≤ B) : UTab W B' v l := by
  refine ⟨h.1, ?_⟩
  rcases h.2 with h1 | ⟨g, cap, cur, h1, h2, h3⟩
  · exact .inl h1
  · exact .inr ⟨g, cap, cur, h1, Nat.le_trans hb h2, h3⟩
theorem UTab.reads {A : Option Addr} {n cap : Nat} (h : UTab W B (.slice A n cap) l) : Reads W A (l.map w16) := Grows.reads h
end
/-- 'append(v, x)'. -/
theorem wpList_append_u {ops : Array Oper} {rest : List Oper} {o : Oper} {a : Act} {Q : Exit → Act → World → Prop} (hgd : o.guard = none) (s x : Operand)
    (ho : o.op = .call { callee := .builtin .append, args := #[s, x], argTypes := #[22, 22] }) {w : World} {y : Int} (m : Nat) (hy : y = m) {B : Nat} {v : Value} {l : List Nat} {n : Nat} (hs : a.eval s = v)
    (hx : a.eval x = .slice (some ⟨w.heap.size, 0, none⟩) 1 1) (hg : UTab w B v l) (hn : l.length = n) (hl2 : (n + 1) * 2 ≤ 140737488355328) (hB : B ≤ w.heap.size) {B0 : Nat} {w0 : World} (hb : Below B0 w0 w) (hB0 : B0 ≤ B)
    (h : ∀ A c w', Hid (UTab w' B (.slice A (n + 1) c) (l ++ [m])) → Hid ((w.alloc (.cells #[.int .u16 y] 23)).grownBy w' v.ownBlock) → Hid (Below B0 w0 w') → wpList Try.prog ops Q rest (a.put o.dst (.slice A (n + 1) c)) w') :
    wpList Try.prog ops Q (o :: rest) a (w.alloc (.cells #[.int .u16 y] 23)) := by
  subst hn hy
  refine wpList_append_one elem16 hgd s x ho rfl hs hx hg (by simp; unfold maxLen; omega) (by simpa using hl2) hB ?_
  intro v' w' h1 h2
  have hT : UTab w' B v' (l ++ [m]) := by unfold UTab; rw [List.map_append]; exact h1
  obtain ⟨A, c, hv, _, _⟩ := hT.form
  rw [List.length_append] at hv
  have hv : v' = .slice A (l.length + 1) c := hv
  subst hv
  exact h A c w' hT h2 ((Grows.alloc hg _).below h2 (hb.alloc (Nat.le_trans hB0 hB) _) hB0 (by simp; omega))
section
open Go.ChangeShapes Go.WideShapes
variable {H : Type} {enc : TypeId × Value → H} {P : Program}
theorem fits16 {z : Int} (h : (Lit.int .u16 z).wf = true) : 0 ≤ z ∧ z < 65536 := by
  simp [Lit.wf, IntKind.min, IntKind.max, IntKind.bits, IntKind.signed] at h
  omega
/-- A slice of sets that came in, within the form's reach. -/
theorem open_u16sZ {t e : TypeId} (ht : P.underlying t = some (.slice e)) (he : P.underlying e = some (.int .u16)) (hc : P.cellsOf e = 1) (h2 : P.bytesOf e = 2)
    {W : World} {base : Nat} {v : Value} {d : DataW H} {p : List MemPlace} (hval : Value.okWide P W .any base t v) (h : DataW.Trod enc P W 0 (fun _ => true) true t v d p)
    {ts : List TypeId} {ds : List (DataW H)} (hz : (DataW.weightsEach P ts ds).all (· ≤ reachBytes) = true) {j : Nat} (htj : ts[j]? = some t) (hdj : ds[j]? = some d) :
    ∃ (A : Option Addr) (cap : Nat) (l : List Nat), v = .slice A l.length cap ∧ l.length ≤ 70368744177664 ∧ Reads W A (l.map w16) ∧ l.length ≤ cap ∧ cap ≤ 70368744177664 ∧ Fits l := by
  obtain ⟨a1, len, cap, rfl⟩ := okWide_slice ht hval
  obtain ⟨fuel, hf⟩ := h
  rcases open_ints ht he hc hf with ⟨hcs, hx⟩ | ⟨a, len', cap', zs, hcs, _, hl, hm, hzl, hx, hcell, hwz⟩
  · simp [Value.cells] at hcs
    obtain ⟨rfl, rfl, rfl⟩ := hcs
    exact ⟨none, 0, [], rfl, by simp, Reads.nil, by simp, by simp, fun z hz => by simp at hz⟩
  · simp [Value.cells] at hcs
    obtain ⟨rfl, rfl, rfl⟩ := hcs
    simp only [if_true] at hzl
    simp only [Prod.mk.injEq] at hx
    obtain ⟨rfl, rfl⟩ := hx
    have hlen : ((zs.take len).map Int.toNat).length = len := by rw [List.length_map, List.length_take]; omega
    have hs := sized_slice hz htj hdj ht
    rw [h2] at hs
    simp [lits] at hs
    have hcap : cap * 2 ≤ reachBytes := by omega
    have hcap2 : cap ≤ 70368744177664 := by unfold reachBytes at hcap; omega
    refine ⟨some a, cap, (zs.take len).map Int.toNat, by rw [hlen], by rw [hlen]; omega, ?_, by rw [hlen]; omega, hcap2, fun z hz' => ?_⟩
    · intro k v hv
      rw [List.map_map, List.getElem?_map] at hv
      have hk : k < len := by
        rcases Nat.lt_or_ge k len with h | h
        · exact h
        · rw [List.getElem?_eq_none (by rw [List.length_take]; omega)] at hv; cases hv
      rw [List.getElem?_take_of_lt hk, List.getElem?_eq_getElem (by omega)] at hv
      obtain ⟨ab, ao, spot⟩ := a
      have hspot : spot = none := by simpa [Addr.add] using World.cell?_spot (hcell 0 (by omega))
      subst hspot
      have hcj := hcell k (by omega)
      rw [Addr.add_lit] at hcj
      have e : zs.getD k 0 = zs[k]'(by omega) := by simp [List.getD, List.getElem?_eq_getElem (show k < zs.length by omega)]
      rw [List.getD_eq_getElem?_getD] at e hcj
      rw [e] at hcj
      refine ⟨ab, ao, rfl, World.block_lt_of_cell? _ _ hcj, ?_⟩
      rw [hcj, ← hv]
      have hw := fits16 (hwz _ (List.getElem_mem (show k < zs.length by omega)))
      show some (Value.int .u16 zs[k]) = some (Value.int .u16 ((zs[k].toNat : Nat) : Int))
      rw [Int.toNat_of_nonneg hw.1]
    · obtain ⟨x, hx, rfl⟩ := List.mem_map.1 hz'
      have := fits16 (hwz x (List.mem_of_mem_take hx))
      omega
end
theorem Reads.at16 {W : World} {A : Option Addr} {l : List Nat} (h : Reads W A (l.map w16)) {k : Nat} {x : Nat} (hk : l[k]? = some x) : ∃ b o, A = some ⟨b, o, none⟩ ∧ b < W.heap.size ∧ W.cell? ⟨b, o + k, none⟩ = some (.int .u16 (x : Int)) :=
  h k (w16 x) (by rw [List.getElem?_map, hk]; rfl)
end Go.Proofs.Yteggbepibfpjcaa.Qr
