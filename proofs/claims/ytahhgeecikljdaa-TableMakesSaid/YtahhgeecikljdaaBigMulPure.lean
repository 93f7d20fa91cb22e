/-
  The arithmetic of long multiplication: a digit set anew, one step, one line.
-/
import Derived.Test.YtahhgeecikljdaaBigPure
namespace Go.Proofs.Ytahhgeecikljdaa.Big
set_option linter.unusedVariables false

theorem val_set : ∀ (l : List UInt32) (k : Nat) (u s : UInt32), l[k]? = some s → val (l.set k u) + 4294967296 ^ k * s.toNat = val l + 4294967296 ^ k * u.toNat
  | [], k, u, s, h => by simp at h
  | d :: r, 0, u, s, h => by
    injection h with h; subst h
    simp only [List.set_cons_zero, val]; omega
  | d :: r, k + 1, u, s, h => by
    have ih := val_set r k u s (by simpa using h)
    simp only [List.set_cons_succ, val, Nat.pow_succ]
    grind
theorem val_take_succ (l : List UInt32) (k : Nat) (d : UInt32) (h : l[k]? = some d) : val (l.take (k + 1)) = val (l.take k) + 4294967296 ^ k * d.toNat := by
  have hk : k < l.length := (List.getElem?_eq_some_iff.1 h).1
  have hd : l[k] = d := (List.getElem?_eq_some_iff.1 h).2
  rw [List.take_succ_eq_append_getElem hk, val_append, hd, List.length_take, Nat.min_eq_left (by omega)]
  simp [val]

theorem tot_lt (c a b s : UInt32) : c.toNat + (a.toNat * b.toNat + s.toNat) < 18446744073709551616 := by
  have hc := c.toNat_lt; have ha := a.toNat_lt; have hb := b.toNat_lt; have hs := s.toNat_lt
  have h : a.toNat * b.toNat ≤ 4294967295 * 4294967295 := Nat.mul_le_mul (by omega) (by omega)
  omega
def tot (c a b s : UInt32) : UInt64 := UInt64.ofNat (c.toNat + (a.toNat * b.toNat + s.toNat))
theorem tot_nat (c a b s : UInt32) : (tot c a b s).toNat = c.toNat + (a.toNat * b.toNat + s.toNat) := by
  unfold tot; rw [UInt64.toNat_ofNat', Nat.mod_eq_of_lt (tot_lt c a b s)]

/-- One step of the inner loop. -/
theorem mul_step {row : List UInt32} {i j V X : Nat} {c a b s lo' hi' : UInt32} (hI : val row + 4294967296 ^ (i + j) * c.toNat = V + 4294967296 ^ i * (a.toNat * X)) (hs : row[i + j]? = some s)
    (hlo : lo'.toNat = (c.toNat + (a.toNat * b.toNat + s.toNat)) % 4294967296) (hhi : hi'.toNat = (c.toNat + (a.toNat * b.toNat + s.toNat)) / 4294967296) :
    val (row.set (i + j) lo') + 4294967296 ^ (i + (j + 1)) * hi'.toNat = V + 4294967296 ^ i * (a.toNat * (X + 4294967296 ^ j * b.toNat)) := by
  have h := val_set row (i + j) lo' s hs
  have hd : 4294967296 * hi'.toNat + lo'.toNat = c.toNat + (a.toNat * b.toNat + s.toNat) := by rw [hlo, hhi]; exact Nat.div_add_mod _ _
  have hp : 4294967296 ^ (i + j) = 4294967296 ^ i * 4294967296 ^ j := Nat.pow_add _ _ _
  have hp1 : 4294967296 ^ (i + (j + 1)) = 4294967296 ^ i * 4294967296 ^ j * 4294967296 := by rw [← hp, ← Nat.pow_succ]; rfl
  rw [hp1]
  rw [hp] at h hI
  generalize 4294967296 ^ i = A at *
  generalize 4294967296 ^ j = B at *
  have e1 : A * B * (4294967296 * hi'.toNat + lo'.toNat) = A * B * (c.toNat + (a.toNat * b.toNat + s.toNat)) := by rw [hd]
  grind
end Go.Proofs.Ytahhgeecikljdaa.Big
