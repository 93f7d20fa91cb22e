/-
  The document's own answers on tables: JMake.
-/
import Derived.Test.YtahhgeecikljdaaTbRef2
namespace Go.Proofs.Ytahhgeecikljdaa.Tb
set_option linter.unusedVariables false
set_option linter.unusedSimpArgs false
open Go.RowKit Mem

/-- A table. -/
def JOut (t : List Int) (p : Nat) (W : World) (e : Ending) (W' : World) : Prop :=
  ∃ g, e = .returned (.slice (some ⟨g, 0, none⟩) p p) ∧ W.heap.size ≤ g ∧ Cells W' g 3 zz t ∧ Below W.heap.size W W'
def JAt (W : World) (ids : List Int) (L : Nat → List Nat) (m p gt gk j : Nat) (wr : World) : Prop :=
  Cells wr gt 3 zz (tb ids L m p j) ∧ Cells wr gk 4 bz (mk L m p j) ∧ Below W.heap.size W wr
theorem jat_later {W V U : World} {ids : List Int} {L : Nat → List Nat} {m p gt gk j : Nat} (h : JAt W ids L m p gt gk j V) (hb : Below V.heap.size V U) : JAt W ids L m p gt gk j U :=
  ⟨h.1.later hb, h.2.1.later hb, h.2.2.trans (hb.mono h.2.2.size)⟩
/-- Two stores into two blocks. -/
theorem jat_next {W w : World} {ids : List Int} {L : Nat → List Nat} {m p gt gk j s : Nat} {x : Int} (h : JAt W ids L m p gt gk j w) (hs : sel L m j = s) (hx : ids.getD (j % m) 0 = x) (hsp : s < p) (d1 : gt ≠ gk) (d2 : W.heap.size ≤ gt) (d3 : W.heap.size ≤ gk) :
    (∃ v1, w.cell? ⟨gk, s, none⟩ = some v1) ∧ (∃ v2, (w.setCell ⟨gk, s, none⟩ (.bool true)).cell? ⟨gt, s, none⟩ = some v2) ∧ w.frozen? ⟨gk, s, none⟩ = false ∧ w.frozen? ⟨gt, s, none⟩ = false ∧
    JAt W ids L m p gt gk (j + 1) ((w.setCell ⟨gk, s, none⟩ (.bool true)).setCell ⟨gt, s, none⟩ (.int .i64 x)) := by
  subst hs hx
  obtain ⟨h1, h2, h3⟩ := h
  have k1 := h1.off (p := ⟨gk, sel L m j, none⟩) d1 (.bool true)
  refine ⟨⟨_, h2.at_ (List.getElem?_eq_getElem (by rw [mk_len]; exact hsp))⟩, ⟨_, k1.at_ (List.getElem?_eq_getElem (by rw [tb_len]; exact hsp))⟩, h2.free _, h1.free _, ?_, ?_, ?_⟩
  · rw [tb_succ]; exact k1.put (sel L m j) (ids.getD (j % m) 0)
  · rw [mk_succ]; exact (h2.put (sel L m j) true).off (p := ⟨gt, sel L m j, none⟩) (Ne.symm d1) _
  · exact (h3.setCell (p := ⟨gk, _, none⟩) d3 _).setCell (p := ⟨gt, _, none⟩) d2 _
theorem pre_at {pre rest : List Nat} {s k y : Nat} (h : (pre ++ s :: rest)[k]? = some y) : (k < pre.length → y ∈ pre) ∧ (k = pre.length → y = s) := by
  constructor
  · intro hk
    rw [List.getElem?_append_left hk] at h
    exact List.mem_of_getElem? h
  · rintro rfl
    rw [List.getElem?_append_right (Nat.le_refl _), Nat.sub_self] at h
    simpa using h.symm
theorem lik_at {x : Int} {p k : Nat} (h : k < p) : (lik x p)[k]? = some (pos (st x p) (sp x p) p k) := pref_at h
/-- JLike tells the places of the list l. -/
def PosOf (l : List Nat) (x : Int) (p : Nat) : Prop := ∃ f : Nat → Nat, (∀ k, k < p → l[k]? = some (f k)) ∧ (∀ k, f k < p) ∧ ∀ (k : Nat) (V : World), k ≤ 1000 → Calls Try.prog 13 #[.int .i64 x, .int .i64 p, .int .i64 k] V (Gave (.int .i64 (f k : Nat)) V)
theorem posOf_c {ids : List Int} {i p : Nat} {x : Int} (h : ids[i]? = some x) (hx : 0 ≤ x ∧ x ≤ 1099511627776) (h2 : 2 ≤ p) (hb : p ≤ 1000) : PosOf (liks ids p i) x p := by
  have e : liks ids p i = lik x p := by
    unfold liks
    rw [List.getD_eq_getElem?_getD, h]; rfl
  rw [e]
  exact ⟨pos (st x p) (sp x p) p, fun k hk => lik_at hk, fun k => pos_lt (by omega) k, fun k V hk => jlike_c x p k V hx.1 hx.2 h2 hb hk⟩
set_option maxRecDepth 100000 in
set_option maxHeartbeats 8000000 in
theorem jmake_c (A : Option Addr) (ids : List Int) (n ca p : Nat) (W : World) (hn : ids.length = n) (hx : Reads W A (ids.map (Value.int .i64))) (hk : tErr ids p = 0) :
    Calls Try.prog 15 #[.slice A n ca, .int .i64 p] W (JOut (table ids p) p W) := by
  obtain ⟨q, hq, hp1, hp2, hn1, hn2, hnp, hid, hnd, _⟩ := tErr_zero hk
  obtain rfl : p = q := by omega
  have hp2' : 2 ≤ p := hp1.1
  have FU := Lib.hid (liks_fulls (ids := ids) hp1 hn1)
  have TE := Lib.hid (show table ids p = tb ids (liks ids p) ids.length p p from rfl)
  have LL := Lib.hid (show ∀ i x, ids[i]? = some x → PosOf (liks ids p i) x p from fun i x h => posOf_c h (hid x (List.mem_of_getElem? h)) hp2' hp2)
  obtain ⟨L, hL⟩ : ∃ L, L = liks ids p := ⟨_, rfl⟩
  obtain ⟨tt, htt⟩ : ∃ tt, tt = table ids p := ⟨_, rfl⟩
  rw [← hL] at FU TE LL
  rw [← htt] at TE ⊢
  rw [hn] at hn1 hn2 hnp FU TE
  have HX := Lib.hid hx
  have HN := Lib.hid hn
  have mI := makeI p hp2
  have mB := makeB p hp2
  have M2 := Lib.hid (made_two W p)
  have B2 := Lib.hid (below2 W (.cells (Array.replicate p (.int .i64 0)) 3) (.cells (Array.replicate p (.bool false)) 4))
  clear hk hq hid hnd hx hn hp1 hL htt
  go_enter Try.func15, Try.ntmps15
  go_wp2
  clear mI mB
  go_loopw [16] (fun i wr => ∃ j : Nat, j ≤ p ∧ i = .int .i64 j ∧ JAt W ids L n p W.heap.size (W.heap.size + 1) j wr) (fun i _ => p - (intOf i).toNat)
  case atStart => exact ⟨0, by omega, rfl, M2.out.1, M2.out.2.1, B2.out⟩
  case round =>
    obtain ⟨j, hj, rfl, hJ⟩ := hrel
    clear M2 B2
    have HJ := Lib.hid hJ
    by_cases hlt : j < p
    · have hij : j % n < n := Nat.mod_lt _ (by omega)
      obtain ⟨pre, rest, e1, e2, e3, e4⟩ := sel_split FU.out hlt
      have md : (j : Int).tmod (n : Int) = ((j % n : Nat) : Int) := by rw [Int.tmod_eq_emod_of_nonneg (by omega), Int.natCast_emod]
      have md2 : (j : Int) % (n : Int) = ((j % n : Nat) : Int) := by rw [Int.natCast_emod]
      have hx0 : ids[j % n]? = some (ids.getD (j % n) 0) := by
        rw [List.getD_eq_getElem?_getD, List.getElem?_eq_getElem (by rw [HN.out]; exact hij)]; rfl
      obtain ⟨b, o, rfl, hbl, x0⟩ := HX.out (j % n) (.int .i64 (ids.getD (j % n) 0)) (by rw [List.getElem?_map, hx0]; rfl)
      have x1 := (hJ.2.2.cell (p := ⟨b, o + j % n, none⟩) hbl).trans x0
      obtain ⟨f, F1, F2, F3⟩ := LL.out (j % n) _ hx0
      rw [e1] at F1
      have hpl : pre.length < p := by
        have h1 : (L (j % n)).length = p := (FU.out.2 _ hij).len
        rw [e1, List.length_append, List.length_cons] at h1; omega
      have MT := Lib.hid (show ∀ k, k < pre.length → (mk L n p j)[f k]? = some true from fun k hk => by
        have hy := e2 _ ((pre_at (F1 k (by omega))).1 hk)
        rw [mk_at (F2 k)]; simp [hy])
      have MF := Lib.hid (show f pre.length = sel L n j ∧ (mk L n p j)[sel L n j]? = some false from
        ⟨(pre_at (F1 _ hpl)).2 rfl, by rw [mk_at e4]; simp [e3]⟩)
      have NX := Lib.hid (show ∀ w, JAt W ids L n p W.heap.size (W.heap.size + 1) j w → _ from fun w h => jat_next (s := sel L n j) (x := ids.getD (j % n) 0) h rfl rfl e4 (by omega) (by omega) (by omega))
      have HF := Lib.hid F2
      have HC := Lib.hid F3
      have i1 : ((j % n : Nat) : Int) < (n : Int) := by omega
      have i2 : (j : Int) < (p : Int) := by omega
      have d0 : ((n : Int) == 0) = false := by simp; omega
      have d9 : ¬ n = 0 := by omega
      generalize hsl : sel L n j = s at *
      generalize hxx : ids.getD (j % n) 0 = x at *
      generalize hii : j % n = i at *
      generalize hpp : pre.length = k0 at *
      clear hJ e1 e2 e3 F1 F2 F3 hx0 x0 hsl hxx hii hpp
      go_wp2
      obtain ⟨wo, rfl⟩ : ∃ wo : World, wo = wr := ⟨_, rfl⟩
      go_loopw [9] (fun v wr => ∃ k : Nat, k ≤ k0 ∧ v = .int .i64 k ∧ JAt W ids L n p W.heap.size (W.heap.size + 1) j wr) (fun v _ => k0 - (intOf v).toNat)
      case atStart => exact ⟨0, by omega, rfl, HJ.out⟩
      case round =>
        obtain ⟨k, hk, rfl, hK⟩ := hrel
        have HK := Lib.hid hK
        have CK := Lib.hid (HC.out k wr (by omega))
        have fk := HF.out k
        by_cases hlk : k < k0
        · have MK := Lib.hid (MT.out k hlk)
          obtain ⟨y, hy⟩ : ∃ y, y = f k := ⟨_, rfl⟩
          rw [← hy] at CK fk MK
          have i3 : (y : Int) < (p : Int) := by omega
          clear hy hK
          go_wp2_with fail
          refine CK.out.mono ?_
          rintro e w2 ⟨rfl, hb2⟩
          have HK2 := Lib.hid (jat_later HK.out hb2)
          have c2 := HK2.out.2.1.at_ MK.out
          unfold bz at c2
          clear hb2
          go_wp2
          go_roundw
          case rel => exact ⟨k + 1, by omega, by go_num, HK2.out⟩
          case measure => simp [intOf]; omega
        · obtain rfl : k = k0 := by omega
          have CL := Lib.hid (show ∀ V, Calls Try.prog 13 #[.int .i64 x, .int .i64 p, .int .i64 k] V (Gave (.int .i64 (s : Nat)) V) from fun V => by
            have := HC.out k V (by omega)
            rwa [MF.out.1] at this)
          have i3 : (s : Int) < (p : Int) := by omega
          clear hK CK fk
          go_wp2_with fail
          refine (CL.out _).mono ?_
          rintro e w2 ⟨rfl, hb2⟩
          have HK2 := Lib.hid (jat_later HK.out hb2)
          have c2 := HK2.out.2.1.at_ MF.out.2
          unfold bz at c2
          clear hb2
          go_wp2_with fail
          refine (CL.out _).mono ?_
          rintro e w3 ⟨rfl, hb3⟩
          have HK3 := Lib.hid (jat_later HK2.out hb3)
          obtain ⟨⟨v1, k1⟩, ⟨v2, k2⟩, z1, z2, nx⟩ := NX.out w3 HK3.out
          have NEXT := Lib.hid nx
          clear hb3 nx c2
          go_wp2
          go_roundw
          case rel => exact ⟨j + 1, by omega, by go_num, NEXT.out⟩
          case measure => simp [intOf]; omega
    · obtain rfl : j = p := by omega
      have FIN := Lib.hid (show Cells wr W.heap.size 3 zz tt by rw [TE.out]; exact hJ.1)
      have HB3 := Lib.hid hJ.2.2
      clear hJ
      go_wp2
      go_ret
      exact ⟨W.heap.size, rfl, Nat.le_refl _, FIN.out, HB3.out⟩
end Go.Proofs.Ytahhgeecikljdaa.Tb
