/-
  Package logs: maps.Equal of two states.
-/
import Derived.Test.YtmnhhfhdaagmhaaLgMem
import Derived.Test.YtmnhhfhdaagmhaaShEqM
import Derived.Shelf.SlMaps.Equal
namespace Go.Proofs.Ytmnhhfhdaagmhaa.Lg
set_option linter.unusedVariables false
set_option linter.unusedSimpArgs false
open Go.RowKit Go.Maps Mem Gt
open Go.Shelf
open Jump (Gave equalZ_c)

def sameZ : DataW Unit → DataW Unit → Bool
  | .lit (.int _ x), .lit (.int _ y) => x == y
  | _, _ => true
theorem sameZ_self (d : DataW Unit) : sameZ d d = true := by
  cases d with
  | lit l => cases l <;> simp [sameZ]
  | _ => rfl
theorem neq_z (W : World) (x y : Value) (xd yd : DataW Unit) (xp yp : List MemPlace) (hx : plainElem Try.prog 3 x = some (xd, xp)) (hy : plainElem Try.prog 3 y = some (yd, yp)) :
    (binOp .neq 3 x y).run Try.prog W = .ok (.bool (!sameZ xd yd)) W ∧ ∀ (a b : Operand), (eqGuard .neq 3 a b x y).run Try.prog W = .ok () W := by
  obtain ⟨a, rfl, h1, _⟩ := plainElem_int_inv Try.underlying3 hx
  obtain ⟨b, rfl, h2, _⟩ := plainElem_int_inv Try.underlying3 hy
  obtain rfl : xd = .lit (.int .i64 a) := by simpa using (congrArg Prod.fst h1)
  obtain rfl : yd = .lit (.int .i64 b) := by simpa using (congrArg Prod.fst h2)
  refine ⟨?_, fun _ _ => by rw [eqGuard_at_int]; rfl⟩
  simp [go_sem, sameZ, binOp]
  rfl
/-- Two maps that say the same of a log. -/
theorem eqM_c {W : World} {b c : Nat} {l : List En} (h1 : IsState W b l) (h2 : IsState W c l) : Calls Try.prog 14 #[.map (some b), .map (some c)] W (Gave (.bool true) W) := by
  obtain ⟨ks, n1, m1, D, n, _, _, t1, o1, a1, s1, z1, _⟩ := h1
  obtain ⟨js, n2, m2, E, m, _, _, t2, o2, a2, s2, z2, _⟩ := h2
  have hl : ks.length = js.length := ((List.perm_ext_iff_of_nodup n1 n2).2 fun x => by rw [m1, m2]).length_eq
  have he := IMap.alike (f := lastN l) (g := lastN l) (ks := ks) (js := js) sameZ sameZ_self o1 t1 a1 s1 z1 a2 s2 z2 hl (fun x hx => ⟨(m2 x).2 ((m1 x).1 hx), rfl⟩) (V := W) (c := c) (m := m)
  refine (AnyEq.maps_Equal Try.eqM keyI (plainElem Try.prog 3) (plainElem Try.prog 3) sameZ b c n m D E W o1 o2 (.int .i64 0) intZ (.lit (.int .i64 0)) [] (plainElem_int Try.underlying3 (by decide)) neq_z).mono ?_
  rintro e w' ⟨rfl, hg⟩
  exact ⟨by rw [he], (Below.refl _ W).grown hg (Nat.le_refl _) (fun j hj => by cases hj)⟩
end Go.Proofs.Ytmnhhfhdaagmhaa.Lg
