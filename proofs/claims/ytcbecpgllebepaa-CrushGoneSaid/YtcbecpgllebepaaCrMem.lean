/-
  Slices of hosts (an id and a slice of devices each): read, brought in.
-/
import Derived.Test.YtcbecpgllebepaaCrPure
import Derived.Test.YtcbecpgllebepaaSwIts
namespace Go.Proofs.Ytcbecpgllebepaa.Crush
set_option linter.unusedVariables false
set_option linter.unusedSimpArgs false
open Go.RowKit Mem Straw

/-- The value u is a slice of the devices d. -/
def IsDevs (W : World) (u : Value) (d : List It) : Prop := ∃ (D : Option Addr) (n c : Nat), u = .slice D n c ∧ d.length = n ∧ n ≤ c ∧ n ≤ 8796093022208 ∧ WRds W D d
theorem IsDevs.below {W V : World} {u : Value} {d : List It} (h : IsDevs W u d) (hb : Below W.heap.size W V) : IsDevs V u d := by
  obtain ⟨D, n, c, h1, h2, h3, h4, h5⟩ := h; exact ⟨D, n, c, h1, h2, h3, h4, h5.below hb⟩
/-- A slice's address leads to the hosts. -/
def HRds (W : World) (A : Option Addr) (hs : List Ht) : Prop :=
  ∀ (k : Nat) (h : Ht), hs[k]? = some h → ∃ b o u, A = some ⟨b, o, none⟩ ∧ b < W.heap.size ∧ W.cell? ⟨b, o + k * 2, none⟩ = some (.int .i64 h.1) ∧ W.cell? ⟨b, o + k * 2 + 1, none⟩ = some u ∧ IsDevs W u h.2
section
variable {W V : World} {A : Option Addr} {hs : List Ht}
theorem HRds.nil : HRds W A [] := fun k p h => by simp at h
theorem HRds.below (h : HRds W A hs) (hb : Below W.heap.size W V) : HRds V A hs := fun k p hp => by
  obtain ⟨b, o, u, h1, h2, h3, h4, h5⟩ := h k p hp
  exact ⟨b, o, u, h1, Nat.lt_of_lt_of_le h2 hb.size, (hb.cell (p := ⟨b, _, none⟩) h2).trans h3, (hb.cell (p := ⟨b, _, none⟩) h2).trans h4, h5.below hb⟩
theorem HRds.host (h : HRds W A hs) {k : Nat} {x : Ht} (hk : hs[k]? = some x) : ∃ b o D n c, A = some ⟨b, o, none⟩ ∧ b < W.heap.size ∧ W.cell? ⟨b, o + k * 2, none⟩ = some (.int .i64 x.1) ∧ W.cell? ⟨b, o + k * 2 + 1, none⟩ = some (.slice D n c) ∧ x.2.length = n ∧ n ≤ c ∧ n ≤ 8796093022208 ∧ WRds W D x.2 := by
  obtain ⟨b, o, u, h1, h2, h3, h4, D, n, c, rfl, h5, h6, h7, h8⟩ := h k x hk
  exact ⟨b, o, D, n, c, h1, h2, h3, h4, h5, h6, h7, h8⟩
theorem HRds.take (h : HRds W A hs) (n : Nat) : HRds W A (hs.take n) := fun k p hp => by
  rw [List.getElem?_take] at hp
  split at hp
  · exact h k p hp
  · cases hp
end
theorem boxH (w : World) (a b : Value) : (w.alloc (.cells #[a, b] 43)).cell? ⟨w.heap.size, 0, none⟩ = some a ∧ (w.alloc (.cells #[a, b] 43)).cell? ⟨w.heap.size, 1, none⟩ = some b :=
  ⟨(Known.made w _ #[a, b]).cell 0, (Known.made w _ #[a, b]).cell 1⟩
/-- All numbers are a machine's. -/
def FitsH (hs : List Ht) : Prop := ∀ h ∈ hs, (Lit.int .i64 h.1).wf = true ∧ ∀ a ∈ h.2, (Lit.int .i64 a.1).wf = true ∧ (Lit.int .i64 a.2).wf = true
section
open Go.ChangeShapes Go.WideShapes Go.Deep
variable {H : Type} {enc : TypeId × Value → H} {P : Program}
theorem devs_cell {t e : TypeId} {f0 f1 : Field} (ht : P.underlying t = some (.slice e)) (hs : P.underlying e = some (.struct #[f0, f1])) (hone : oneCellFields P #[f0, f1] = true) (hC : P.cellsOf e = 2) (h16 : P.bytesOf e = 16)
    (h0 : P.underlying f0.type = some (.int .i64)) (h1 : P.underlying f1.type = some (.int .i64))
    {W : World} {fuel : Nat} {v : Value} {x : DataW H × List MemPlace} (hf : DataW.trod enc P W 0 (fun _ => true) true fuel t [v] = some x) (hw : ∀ n ∈ x.1.weights P t, n ≤ reachBytes) :
    ∃ d : List It, IsDevs W v d ∧ ∀ t ∈ d, (Lit.int .i64 t.1).wf = true ∧ (Lit.int .i64 t.2).wf = true := by
  rcases Go.Deep.open_slice ht hf with ⟨hcs, hx⟩ | ⟨a, len, cap, m, n, D, Pl, hcs, _, hl, hm, hmm, hx, hcell⟩
  · simp at hcs
    subst hcs
    exact ⟨[], ⟨none, 0, 0, rfl, rfl, by simp, by simp, WRds.nil⟩, fun t ht => by simp at ht⟩
  · simp at hcs
    subst hcs
    simp only [if_true] at hmm
    subst hmm
    subst hx
    rw [hC] at hcell
    have hcap : m * 16 ≤ reachBytes := by
      have := hw (((List.range len).map D).length * P.bytesOf e + ((List.range (m - len)).map fun j => D (len + j)).length * P.bytesOf e) (by simp [DataW.weights, ht, Nat.add_mul])
      rw [h16] at this
      simp at this
      omega
    have hcap2 : m ≤ 8796093022208 := by unfold reachBytes at hcap; omega
    obtain ⟨o0, k0⟩ := hone_of hone 0 f0 rfl
    obtain ⟨o1, k1⟩ := hone_of hone 1 f1 rfl
    obtain ⟨R, hR⟩ := Go.Deep.choose_lt (α := It) (n := len) (p := fun i r => W.cell? (a.add (i * 2)) = some (.int .i64 r.1) ∧ W.cell? ((a.add (i * 2)).add 1) = some (.int .i64 r.2) ∧ (Lit.int .i64 r.1).wf = true ∧ (Lit.int .i64 r.2).wf = true) (fun i hi => by
      obtain ⟨cs', hcs', htr⟩ := hcell i (by omega)
      obtain ⟨ys, n', _, hy, hlen, hyl, hg⟩ := DataW.trod_struct hs htr
      obtain ⟨_, hsz, hat⟩ := World.cells?_some hcs'
      match cs', hsz with
      | [c0, c1], _ =>
        match ys, hyl with
        | [y0, y1], _ =>
          have g0 : DataW.trod enc P W 0 (fun _ => true) true n' f0.type [c0] = some y0 := by simpa [o0, k0] using hg 0 f0 rfl
          have g1 : DataW.trod enc P W 0 (fun _ => true) true n' f1.type [c1] = some y1 := by simpa [o1, k1] using hg 1 f1 rfl
          obtain ⟨z, hz0, hz1, hz2⟩ := DataW.trod_int h0 g0
          obtain ⟨y, hy0, hy1, hy2⟩ := DataW.trod_int h1 g1
          simp at hz0 hy0
          exact ⟨(z, y), by have := hat 0 (by omega); simpa [hz0, Addr.add] using this, by have := hat 1 (by omega); simpa [hy0] using this, hz2, hy2⟩)
    refine ⟨(List.range len).map R, ⟨some a, len, m, rfl, by simp, hl, by omega, ?_⟩, ?_⟩
    · intro k p hp
      have hk : k < len := by
        rcases Nat.lt_or_ge k len with h | h
        · exact h
        · rw [List.getElem?_eq_none (by simp; omega)] at hp; cases hp
      rw [List.getElem?_map, List.getElem?_range hk] at hp
      simp at hp
      subst hp
      obtain ⟨r1, r2, _, _⟩ := hR k hk
      obtain ⟨ab, ao, spot⟩ := a
      have hspot : spot = none := by simpa [Addr.add] using World.cell?_spot (hR 0 (by omega)).1
      subst hspot
      rw [Addr.add_lit] at r1 r2
      rw [Addr.add_lit] at r2
      exact ⟨ab, ao, rfl, World.block_lt_of_cell? _ _ r1, r1, r2⟩
    · intro r hr
      obtain ⟨k, hk, rfl⟩ := List.mem_map.1 hr
      exact (hR k (List.mem_range.1 hk)).2.2
theorem weights_mem_all {P : Program} {e : TypeId} : ∀ {l : List (DataW H)} {d : DataW H}, d ∈ l → ∀ n ∈ d.weights P e, n ∈ DataW.weightsAll P e l
  | x :: l, d, h, n, hn => by
    rw [DataW.weightsAll, List.mem_append]
    rcases List.mem_cons.1 h with rfl | h
    · exact .inl hn
    · exact .inr (weights_mem_all h n hn)
  | [], d, h, _, _ => by cases h
theorem open_hostsZ_of {t e e2 : TypeId} {f0 f1 p0 p1 : Field} (ht : P.underlying t = some (.slice e)) (hs : P.underlying e = some (.struct #[f0, f1])) (hone : oneCellFields P #[f0, f1] = true) (hC : P.cellsOf e = 2) (h32 : P.bytesOf e = 32)
    (h0 : P.underlying f0.type = some (.int .i64)) (h1 : P.underlying f1.type = some (.slice e2)) (hs2 : P.underlying e2 = some (.struct #[p0, p1])) (hone2 : oneCellFields P #[p0, p1] = true) (hC2 : P.cellsOf e2 = 2) (h16 : P.bytesOf e2 = 16)
    (hp0 : P.underlying p0.type = some (.int .i64)) (hp1 : P.underlying p1.type = some (.int .i64))
    {W : World} {base : Nat} {v : Value} {d : DataW H} {p : List MemPlace} (hval : Value.okWide P W .any base t v) (h : DataW.Trod enc P W 0 (fun _ => true) true t v d p)
    {ts : List TypeId} {ds : List (DataW H)} (hz : (DataW.weightsEach P ts ds).all (· ≤ reachBytes) = true) {j : Nat} (htj : ts[j]? = some t) (hdj : ds[j]? = some d) :
    ∃ (A : Option Addr) (cap : Nat) (hs : List Ht), v = .slice A hs.length cap ∧ hs.length ≤ 4398046511104 ∧ hs.length ≤ cap ∧ cap ≤ 4398046511104 ∧ HRds W A hs ∧ FitsH hs := by
  obtain ⟨a1, len, cap, rfl⟩ := okWide_slice ht hval
  obtain ⟨fuel, hf⟩ := h
  rcases Go.Deep.open_slice ht hf with ⟨hcs, hx⟩ | ⟨a, len', cap', m, n, D, Pl, hcs, _, hl, hm, hmm, hx, hcell⟩
  · simp [Value.cells] at hcs
    obtain ⟨rfl, rfl, rfl⟩ := hcs
    exact ⟨none, 0, [], rfl, by simp, by simp, by simp, HRds.nil, fun r hr => by simp at hr⟩
  · simp [Value.cells] at hcs
    obtain ⟨rfl, rfl, rfl⟩ := hcs
    simp only [if_true] at hmm
    subst hmm
    simp only [Prod.mk.injEq] at hx
    obtain ⟨hx1, hx2⟩ := hx
    subst hx1
    rw [hC] at hcell
    have hwd : ∀ n ∈ DataW.weights P t (.slice ((List.range len).map D) ((List.range (m - len)).map fun j => D (len + j))), n ≤ reachBytes := fun n hn => by
      have := List.all_eq_true.1 hz _ (DataW.weights_mem_each htj hdj n hn)
      simpa using this
    have hcap : m * 32 ≤ reachBytes := by
      have := hwd (((List.range len).map D).length * P.bytesOf e + ((List.range (m - len)).map fun j => D (len + j)).length * P.bytesOf e) (by simp [DataW.weights, ht, Nat.add_mul])
      rw [h32] at this
      simp at this
      omega
    have hcap2 : m ≤ 4398046511104 := by unfold reachBytes at hcap; omega
    obtain ⟨o0, k0⟩ := hone_of hone 0 f0 rfl
    obtain ⟨o1, k1⟩ := hone_of hone 1 f1 rfl
    obtain ⟨R, hR⟩ := Go.Deep.choose_lt (α := Ht) (n := len) (p := fun i r => W.cell? (a.add (i * 2)) = some (.int .i64 r.1) ∧ (∃ u, W.cell? ((a.add (i * 2)).add 1) = some u ∧ IsDevs W u r.2) ∧ (Lit.int .i64 r.1).wf = true ∧ ∀ a ∈ r.2, (Lit.int .i64 a.1).wf = true ∧ (Lit.int .i64 a.2).wf = true) (fun i hi => by
      obtain ⟨cs', hcs', htr⟩ := hcell i (by omega)
      obtain ⟨ys, n', _, hy, hlen, hyl, hg⟩ := DataW.trod_struct hs htr
      obtain ⟨_, hsz, hat⟩ := World.cells?_some hcs'
      match cs', hsz with
      | [c0, c1], _ =>
        match ys, hyl with
        | [y0, y1], _ =>
          have g0 : DataW.trod enc P W 0 (fun _ => true) true n' f0.type [c0] = some y0 := by simpa [o0, k0] using hg 0 f0 rfl
          have g1 : DataW.trod enc P W 0 (fun _ => true) true n' f1.type [c1] = some y1 := by simpa [o1, k1] using hg 1 f1 rfl
          obtain ⟨z, hz0, hz1, hz2⟩ := DataW.trod_int h0 g0
          simp at hz0
          simp only [Prod.mk.injEq] at hy
          have hw : ∀ x ∈ y1.1.weights P f1.type, x ≤ reachBytes := fun x hx => hwd x (by
            simp only [DataW.weights, ht]
            refine List.mem_cons_of_mem _ (List.mem_append_left _ (weights_mem_all (d := D i) (List.mem_map.2 ⟨i, List.mem_range.2 hi, rfl⟩) x ?_))
            rw [hy.1]
            simp [DataW.weights, hs, DataW.weightsEach, hx])
          obtain ⟨r, hr1, hr2⟩ := devs_cell h1 hs2 hone2 hC2 h16 hp0 hp1 g1 hw
          exact ⟨(z, r), by have := hat 0 (by omega); simpa [hz0, Addr.add] using this, ⟨c1, by have := hat 1 (by omega); simpa using this, hr1⟩, hz2, hr2⟩)
    refine ⟨some a, m, (List.range len).map R, by simp, by simp; omega, by simp; omega, hcap2, ?_, ?_⟩
    · intro k p hp
      have hk : k < len := by
        rcases Nat.lt_or_ge k len with h | h
        · exact h
        · rw [List.getElem?_eq_none (by simp; omega)] at hp; cases hp
      rw [List.getElem?_map, List.getElem?_range hk] at hp
      simp at hp
      subst hp
      obtain ⟨r1, ⟨u, r2, r3⟩, _, _⟩ := hR k hk
      obtain ⟨ab, ao, spot⟩ := a
      have hspot : spot = none := by simpa [Addr.add] using World.cell?_spot (hR 0 (by omega)).1
      subst hspot
      rw [Addr.add_lit] at r1 r2
      rw [Addr.add_lit] at r2
      exact ⟨ab, ao, u, rfl, World.block_lt_of_cell? _ _ r1, r1, r2, r3⟩
    · intro r hr
      obtain ⟨k, hk, rfl⟩ := List.mem_map.1 hr
      exact (hR k (List.mem_range.1 hk)).2.2
end
theorem fieldsHost : Try.prog.underlying 43 = some (.struct #[⟨ "Id", 3, 0, false, "", "", 0⟩, ⟨ "Devices", 41, 1, false, "", "", 8⟩]) := by kernel_rfl
theorem hostOne : Go.Deep.oneCellFields Try.prog #[⟨ "Id", 3, 0, false, "", "", 0⟩, ⟨ "Devices", 41, 1, false, "", "", 8⟩] = true := by kernel_rfl
theorem hostCells : Try.prog.cellsOf 43 = 2 := by kernel_rfl
theorem hostBytes : Try.prog.bytesOf 43 = 32 := by kernel_rfl
set_option maxRecDepth 100000 in
theorem open_hostsZ {H : Type} {enc : TypeId × Value → H} {W : World} {base : Nat} {v : Value} {d : DataW H} {p : List MemPlace} (hval : Value.okWide Try.prog W .any base 23 v) (h : DataW.Trod enc Try.prog W 0 (fun _ => true) true 23 v d p)
    {ts : List TypeId} {ds : List (DataW H)} (hz : (DataW.weightsEach Try.prog ts ds).all (· ≤ reachBytes) = true) {j : Nat} (htj : ts[j]? = some 23) (hdj : ds[j]? = some d) :
    ∃ (A : Option Addr) (cap : Nat) (hs : List Ht), v = .slice A hs.length cap ∧ hs.length ≤ 4398046511104 ∧ hs.length ≤ cap ∧ cap ≤ 4398046511104 ∧ HRds W A hs ∧ FitsH hs :=
  open_hostsZ_of Try.underlying23 fieldsHost hostOne hostCells hostBytes Try.underlying3 Try.underlying41 fieldsIt itOne itCells itBytes Try.underlying3 Try.underlying3 hval h hz htj hdj
end Go.Proofs.Ytcbecpgllebepaa.Crush
