/-
  Contracts of package crush: device, others, Place, Moved, over straw's Choose and Some.
-/
import Derived.Test.YtcbecpgllebepaaCrA
import Derived.Test.YtcbecpgllebepaaCrIdx
import Derived.Test.YtcbecpgllebepaaCrEqS
import Derived.Test.YtcbecpgllebepaaMix
namespace Go.Proofs.Ytcbecpgllebepaa.Crush
set_option linter.unusedVariables false
set_option linter.unusedSimpArgs false
open Go.RowKit Mem Straw

/-! ### device -/
def ChSpec : Prop := ∀ (key : UInt64) (A : Option Addr) (l : List It) (n ca : Nat) (V : World), l.length = n → Valid l → n ≤ ca → WRds V A l →
  Calls Try.prog 43 #[.int .u64 key.toNat, .slice A n ca] V fun e W' => ∃ k : Int, e = .returned (.tuple #[.int .i64 (((ids key l).head?).getD 0), .int .i64 k]) ∧ Below V.heap.size V W'
set_option maxHeartbeats 2000000 in
theorem has_c (bx : Nat) (id x : Int) (u : Value) (V : World) (hk : V.cell? ⟨bx, 0, none⟩ = some (.int .i64 id)) :
    Calls Try.prog 42 #[.agg #[.int .i64 x, u], .pointer (some ⟨bx, 0, none⟩)] V (Gave (.bool (decide (x = id))) V) := by
  have d0 := (boxH V (.int .i64 x) u).1
  have k0 := box_old (.cells #[.int .i64 x, u] 43) hk
  have HB := Lib.hid ((Below.refl V.heap.size V).alloc (Nat.le_refl _) (.cells #[.int .i64 x, u] 43))
  by_cases h : x = id
  · have n1 : (x == id) = true := by simp [h]
    have E := Lib.hid (show decide (x = id) = true from decide_eq_true h)
    clear h
    go_enter Try.func42, Try.ntmps42
    go_wp2
    go_ret
    exact ⟨by rw [E.out]; rfl, HB.out⟩
  · have n1 : (x == id) = false := by simp [h]
    have E := Lib.hid (show decide (x = id) = false from decide_eq_false h)
    clear h
    go_enter Try.func42, Try.ntmps42
    go_wp2
    go_ret
    exact ⟨by rw [E.out]; rfl, HB.out⟩
theorem indexD_c (bx : Nat) (A : Option Addr) (hs : List Ht) (n ca i : Nat) (x : Ht) (V : World) (hk : V.cell? ⟨bx, 0, none⟩ = some (.int .i64 x.1)) (hx : HRds V A hs) (hn : hs.length = n) (hb : n ≤ 4398046511104) (hi : hs[i]? = some x) (hm : ∀ j y, j < i → hs[j]? = some y → y.1 ≠ x.1) :
    Calls Try.prog 17 #[.slice A n ca, .func (.func 42) #[] #[.pointer (some ⟨bx, 0, none⟩)]] V (Gave (.int .i64 i) V) := by
  obtain ⟨zs, z1, z2, z3⟩ := host_cells hx
  have hil := (List.getElem?_eq_some_iff.1 hi).1
  obtain ⟨u, hu⟩ := z2 i x hi
  obtain ⟨b, o, rfl, hbl, _, _⟩ := z3 i _ hu
  have H := AnyQ.slices_IndexFunc Try.indexHost 2 Try.isAgg43 Try.sizeOf43 encV (fun _ => rfl) (fun z : Int × Value => decide (z.1 = x.1)) 42 #[.pointer (some ⟨bx, 0, none⟩)]
    (enters_of Try.func42 (by kernel_rfl) rfl) b o n ca zs V
    (fun W z hb => (has_c bx x.1 z.1 z.2 W ((hb.cell (p := ⟨bx, 0, none⟩) (World.block_lt_of_cell? _ _ hk)).trans hk)).mono fun _ _ ⟨he, hb2⟩ => ⟨he, hb.trans (hb2.mono hb.size)⟩)
    (by omega) (by omega) hbl
    (fun j hj c v hv => by
      have e := List.getElem?_eq_getElem hj
      obtain ⟨b', o', e', _, c0, c1⟩ := z3 j _ e
      injection e' with e'
      injection e' with e1 e2
      subst e1 e2
      rw [get_bang e] at hv
      rcases c with _ | _ | c
      · simp [encV] at hv; subst hv; exact c0
      · simp [encV] at hv; subst hv; exact c1
      · simp [encV] at hv)
  refine H.mono ?_
  rintro e w ⟨rfl, hb⟩
  refine ⟨?_, hb⟩
  rw [Lib.idxBy_hit (fun _ z => decide (z.1 = x.1)) zs n i default (by omega) (by omega) (by rw [get_bang hu]; simp) (fun j hj => by
    have hj' : j < hs.length := by omega
    obtain ⟨u', hu'⟩ := z2 j _ (List.getElem?_eq_getElem hj')
    rw [get_bang hu']
    exact decide_eq_false (hm j _ hj (List.getElem?_eq_getElem hj')))]
theorem word_u (id : Int) : IntKind.u64.wrap id = ((word id).toNat : Int) := by
  unfold word
  rw [IntKind.wrap_u64]
  have h : (id % 18446744073709551616).toNat < 18446744073709551616 := by omega
  have : (UInt64.ofNat (id % 18446744073709551616).toNat).toNat = (id % 18446744073709551616).toNat := by simpa using Nat.mod_eq_of_lt h
  omega
set_option maxRecDepth 100000 in
set_option maxHeartbeats 4000000 in
theorem device_c (hC : ChSpec) (key : UInt64) (A : Option Addr) (hs : List Ht) (n ca i : Nat) (x : Ht) (W : World) (hn : hs.length = n) (hb : n ≤ 4398046511104) (hx : HRds W A hs) (hi : hs[i]? = some x) (hm : ∀ j y, j < i → hs[j]? = some y → y.1 ≠ x.1) (hv : Valid x.2) :
    Calls Try.prog 28 #[.int .u64 key.toNat, .slice A n ca, .int .i64 x.1] W (Gave (.int .i64 (dev key x.1 x.2)) W) := by
  have hin : i < n := by rw [← hn]; exact (List.getElem?_eq_some_iff.1 hi).1
  have h1 : Below W.heap.size W (W.alloc (.cells #[.int .i64 x.1] 3)) := (Below.refl _ _).alloc (Nat.le_refl _) _
  have c1 := (Known.made W 3 #[.int .i64 x.1]).cell 0
  have IX := Lib.hid (indexD_c W.heap.size A hs n ca i x _ c1 (hx.below h1) hn hb hi hm)
  obtain ⟨b, o, D, m, dc, rfl, hbl, x0, x1, hxm, hmc, hmb, hD⟩ := hx.host hi
  have CH := Lib.hid (fun V (h : Below W.heap.size W V) => hC (sub key x.1) D x.2 m dc V hxm hv hmc (hD.below h))
  have DV := Lib.hid (show dev key x.1 x.2 = ((ids (sub key x.1) x.2).head?).getD 0 from rfl)
  have SU := Lib.hid (show sub key x.1 = Mix.two key (word x.1) from rfl)
  have wid := word_u x.1
  have wid2 : x.1 % 18446744073709551616 = ((word x.1).toNat : Int) := by rw [← wid, IntKind.wrap_u64]
  obtain ⟨r, hr⟩ : ∃ r, r = ((ids (sub key x.1) x.2).head?).getD 0 := ⟨_, rfl⟩
  rw [← hr] at CH DV
  obtain ⟨sk, hsk⟩ : ∃ sk, sk = sub key x.1 := ⟨_, rfl⟩
  rw [← hsk] at CH SU
  have TW := Lib.hid (fun V => Mix.two_c key (word x.1) V)
  rw [← SU.out] at TW
  obtain ⟨wv, hwv⟩ : ∃ wv, wv = word x.1 := ⟨_, rfl⟩
  rw [← hwv] at TW wid wid2
  obtain ⟨id, hid⟩ : ∃ id, id = x.1 := ⟨_, rfl⟩
  rw [← hid] at c1 IX wid wid2 x0 h1 DV ⊢
  have B1 := Lib.hid h1
  have i1 : (i : Int) < (n : Int) := by omega
  have mk := fun fn first cap w => mk_func fn first cap w
  have HB := Lib.hid hbl
  have X0 := Lib.hid x0
  have X1 := Lib.hid x1
  clear hn hx hi hm hv h1 hxm hD hr hsk hwv hid SU x0 x1 hbl
  go_enter Try.func28, Try.ntmps28
  go_wp2_with fail
  refine IX.out.mono ?_
  rintro e w2 ⟨rfl, hb2⟩
  have c2 := (hb2.cell (World.block_lt_of_cell? _ _ c1)).trans c1
  have B2 := Lib.hid (B1.out.trans (hb2.mono B1.out.size))
  have y0 := (B2.out.cell (p := ⟨b, o + i * 2, none⟩) HB.out).trans X0.out
  have y1 := (B2.out.cell (p := ⟨b, o + i * 2 + 1, none⟩) HB.out).trans X1.out
  have i0 : decide ((i : Int) < 0) = false := by rw [decide_eq_false_iff_not]; omega
  obtain ⟨d0, d1⟩ := boxH w2 (.int .i64 id) (.slice D m dc)
  have c3 := box_old (.cells #[.int .i64 id, .slice D m dc] 43) c2
  have BB := Lib.hid ((Below.refl w2.heap.size w2).alloc (Nat.le_refl _) (.cells #[.int .i64 id, .slice D m dc] 43))
  clear hb2 IX c1
  go_upto_region 3 with fail
  obtain ⟨wo, hwo⟩ : ∃ wo : World, wo = w2.alloc (.cells #[.int .i64 id, .slice D m dc] 43) := ⟨_, rfl⟩
  have BW := Lib.hid (show Below W.heap.size W wo by rw [hwo]; exact B2.out.alloc B2.out.size _)
  have L0 := World.block_lt_of_cell? _ _ c3
  have L1 := World.block_lt_of_cell? _ _ d0
  rw [← hwo] at d0 d1 c3 L0 L1 ⊢
  have SK := Lib.hid (show ∀ w, Below wo.heap.size wo w → w.cell? ⟨W.heap.size, 0, none⟩ = some (.int .i64 id) ∧ w.cell? ⟨w2.heap.size, 0, none⟩ = some (.int .i64 id) ∧ w.cell? ⟨w2.heap.size, 1, none⟩ = some (.slice D m dc) from fun w hb => ⟨(hb.cell (p := ⟨W.heap.size, 0, none⟩) L0).trans c3, (hb.cell (p := ⟨w2.heap.size, 0, none⟩) L1).trans d0, (hb.cell (p := ⟨w2.heap.size, 1, none⟩) L1).trans d1⟩)
  clear hwo c2 y0 y1 BB L0 L1
  go_region_held3 (fun w => w.cell? ⟨W.heap.size, 0, none⟩ = some (.int .i64 id) ∧ w.cell? ⟨w2.heap.size, 0, none⟩ = some (.int .i64 id) ∧ w.cell? ⟨w2.heap.size, 1, none⟩ = some (.slice D m dc)) (first | go_keep | exact SK.out _ K4.out)
    (first
      | (go_at_call 44; refine (TW.out _).mono ?_; rintro e w3 ⟨rfl, rfl⟩)
      | (go_at_call 43; refine (CH.out _ (below_drew BW.out)).mono ?_; rintro e w4 ⟨k4, rfl, hb4⟩; have K4 := Lib.hid (show Below wo.heap.size wo w4 from undrew_ hb4); clear hb4))
  go_wp2
  go_ret
  exact ⟨by rw [DV.out]; rfl, BW.out.trans (K4.out.mono BW.out.size)⟩
end Go.Proofs.Ytcbecpgllebepaa.Crush
