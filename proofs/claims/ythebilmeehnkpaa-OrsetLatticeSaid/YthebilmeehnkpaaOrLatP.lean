/-
  Package orset, pure: bags of one history form a lattice (Shapiro).
-/
import Derived.Test.YthebilmeehnkpaaOrTog
namespace Go.Proofs.Ythebilmeehnkpaa.Ors
set_option linter.unusedVariables false
set_option linter.unusedSimpArgs false

def jn (a b : Bg) : Bg := (joinH a b, joinS a b)
/-- Bags that may come together: of w replicas, all tags among l, which has no clash. -/
structure Like (l : List Tg) (w : Nat) (a : Bg) : Prop where
  ok : OkB a
  len : a.2.length = w
  sub : ∀ t ∈ a.1, t ∈ l
theorem apart_of {l : List Tg} {w : Nat} {a b : Bg} (hc : Calm l) (ha : Like l w a) (hb : Like l w b) : Apart a b := fun t ht u hu h1 h2 => by
  by_cases e : t.2.2 = u.2.2
  · exact e
  · exact absurd ⟨h1, h2, e⟩ (hc t (ha.sub t ht) u (hb.sub u hu))
theorem join_le {l : List Tg} {w : Nat} {a b : Bg} (ha : Like l w a) (hb : Like l w b) (h4 : l.length ≤ 400) : (joinH a b).length ≤ 400 :=
  Nat.le_trans (rise_len (joinH_rise ha.ok hb.ok) (fun t ht => by
    rcases keep_in ((joinH_mem t).1 ht) with h | h
    · exact ha.sub t h
    · exact hb.sub t h)) h4
theorem Like.jn {l : List Tg} {w : Nat} {a b : Bg} (ha : Like l w a) (hb : Like l w b) (h4 : l.length ≤ 400) : Like l w (jn a b) :=
  ⟨join_ok ha.ok hb.ok (ha.len.trans hb.len.symm) (join_le ha hb h4), by show (joinS a b).length = w; rw [joinS_len (ha.len.trans hb.len.symm)]; exact ha.len, fun t ht => by
    rcases keep_in ((joinH_mem t).1 ht) with h | h
    · exact ha.sub t h
    · exact hb.sub t h⟩
theorem like_e {l : List Tg} {w : Nat} {a b : Bg} (hc : Calm l) (h4 : l.length ≤ 400) (ha : Like l w a) (hb : Like l w b) : joinE a b = 0 := joinE_zero.2 ⟨ha.ok, hb.ok, ha.len.trans hb.len.symm, apart_of hc ha hb, join_le ha hb h4⟩
theorem like_b {l : List Tg} {w : Nat} {a b : Bg} (hc : Calm l) (h4 : l.length ≤ 400) (ha : Like l w a) (hb : Like l w b) : joinB a b = jn a b := joinB_of (like_e hc h4 ha hb)
theorem jn_comm {a b : Bg} (ha : OkB a) (hb : OkB b) : jn a b = jn b a := by unfold jn; rw [join_comm ha hb, joinS_comm]
theorem jn_self {a : Bg} (ha : OkB a) : jn a a = a := by unfold jn; rw [join_self ha, joinS_self]
theorem jn_assoc {l : List Tg} {w : Nat} {a b c : Bg} (h4 : l.length ≤ 400) (ha : Like l w a) (hb : Like l w b) (hc : Like l w c) : jn (jn a b) c = jn a (jn b c) := by
  have hab := ha.jn hb h4
  have hbc := hb.jn hc h4
  have h1 : joinH (jn a b) c = joinH a (jn b c) := joinH_is hab.ok hc.ok (joinH_rise ha.ok hbc.ok) (fun t => by
    rw [joinH_mem]; exact (keep_assoc ha.ok hb.ok hc.ok (ha.len.trans hb.len.symm) (hb.len.trans hc.len.symm) t).symm)
  have h2 : joinS (jn a b) c = joinS a (jn b c) := joinS_assoc
  show (joinH (jn a b) c, joinS (jn a b) c) = (joinH a (jn b c), joinS a (jn b c))
  rw [h1, h2]
theorem jn_absorb {l : List Tg} {w : Nat} {a b c : Bg} (h4 : l.length ≤ 400) (ha : Like l w a) (hb : Like l w b) (hc : Like l w c) : jn (jn (jn a b) c) a = jn (jn a b) c := by
  have hbc := hb.jn hc h4
  rw [jn_assoc h4 ha hb hc, jn_comm (ha.jn hbc h4).ok ha.ok, ← jn_assoc h4 ha ha hbc, jn_self ha.ok]
/-- What three bags of one history are. -/
theorem tog_like {a b c : Bg} (h : tog [a, b, c] = true) : ∃ w, Calm (tags [a, b, c]) ∧ Like (tags [a, b, c]) w a ∧ Like (tags [a, b, c]) w b ∧ Like (tags [a, b, c]) w c := by
  obtain ⟨h1, h2, h3⟩ := tog_iff.1 h
  refine ⟨_, h3, ⟨h1 a (by simp), h2 a (by simp), fun t ht => ?_⟩, ⟨h1 b (by simp), h2 b (by simp), fun t ht => ?_⟩, ⟨h1 c (by simp), h2 c (by simp), fun t ht => ?_⟩⟩ <;> simp [tags, ht]
theorem tags_len (a b c : Bg) : (tags [a, b, c]).length = a.1.length + b.1.length + c.1.length := by simp [tags]; omega
end Go.Proofs.Ythebilmeehnkpaa.Ors
