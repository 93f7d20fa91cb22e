/-
  The law CrushNew over what it takes of the program.
-/
import Derived.Test.YtcbecpgllebepaaCrAlive
import Derived.Test.YtcbecpgllebepaaCrTab
import Derived.Test.YtcbecpgllebepaaCrEqS
namespace Go.Proofs.Ytcbecpgllebepaa.Crush
set_option linter.unusedVariables false
set_option linter.unusedSimpArgs false
open Go.RowKit Mem Straw

/-- The cells of hosts: each the id and a slice of the devices. -/
def Enc (W : World) (zs : List Hz) (hs : List Ht) : Prop := zs.length = hs.length ∧ ∀ (k : Nat) (z : Hz) (x : Ht), zs[k]? = some z → hs[k]? = some x → z.1 = x.1 ∧ IsDevs W z.2 x.2
theorem Enc.below {W V : World} {zs : List Hz} {hs : List Ht} (h : Enc W zs hs) (hb : Below W.heap.size W V) : Enc V zs hs := ⟨h.1, fun k z x h1 h2 => ⟨(h.2 k z x h1 h2).1, (h.2 k z x h1 h2).2.below hb⟩⟩
theorem Enc.ones {W : World} {zs : List Hz} {hs : List Ht} (h : Enc W zs hs) : Ones zs := fun z hz => by
  obtain ⟨k, hk⟩ := List.mem_iff_getElem?.1 hz
  have hl : k < hs.length := by rw [← h.1]; exact (List.getElem?_eq_some_iff.1 hk).1
  obtain ⟨D, n, c, e, _⟩ := (h.2 k z _ hk (List.getElem?_eq_getElem hl)).2
  rw [e]; rfl
theorem Enc.app {W : World} {zs ys : List Hz} {hs hs' : List Ht} (h : Enc W zs hs) (h' : Enc W ys hs') : Enc W (zs ++ ys) (hs ++ hs') := by
  refine ⟨by simp [h.1, h'.1], fun k z x h1 h2 => ?_⟩
  rcases Nat.lt_or_ge k zs.length with hk | hk
  · rw [List.getElem?_append_left hk] at h1
    rw [List.getElem?_append_left (by rw [← h.1]; exact hk)] at h2
    exact h.2 k z x h1 h2
  · rw [List.getElem?_append_right hk] at h1
    rw [List.getElem?_append_right (by rw [← h.1]; exact hk), ← h.1] at h2
    exact h'.2 _ z x h1 h2
theorem Enc.take {W : World} {zs : List Hz} {hs : List Ht} (h : Enc W zs hs) (n : Nat) : Enc W (zs.take n) (hs.take n) := by
  refine ⟨by simp [h.1], fun k z x h1 h2 => ?_⟩
  rw [List.getElem?_take] at h1 h2
  split at h1
  · rename_i hk
    rw [if_pos hk] at h2
    exact h.2 k z x h1 h2
  · cases h1
theorem Enc.drop {W : World} {zs : List Hz} {hs : List Ht} (h : Enc W zs hs) (n : Nat) : Enc W (zs.drop n) (hs.drop n) := by
  refine ⟨by simp [h.1], fun k z x h1 h2 => ?_⟩
  rw [List.getElem?_drop] at h1 h2
  exact h.2 _ z x h1 h2
theorem Enc.one {W : World} {i : Int} {u : Value} {x : Ht} (h1 : i = x.1) (hu : IsDevs W u x.2) : Enc W [(i, u)] [x] := by
  refine ⟨rfl, fun k z y h2 h3 => ?_⟩
  rcases k with _ | k
  · simp at h2 h3; subst h2 h3; exact ⟨h1, hu⟩
  · simp at h2
theorem hosts_cells {W : World} {A : Option Addr} {hs : List Ht} (h : HRds W A hs) : ∃ zs, Enc W zs hs ∧ VRds W A zs := by
  obtain ⟨R, hR⟩ := Go.Deep.choose_lt (α := Int × Value) (n := hs.length) (p := fun i r => ∃ x, hs[i]? = some x ∧ r.1 = x.1 ∧ IsDevs W r.2 x.2 ∧ ∃ b o, A = some ⟨b, o, none⟩ ∧ b < W.heap.size ∧ W.cell? ⟨b, o + i * 2, none⟩ = some (.int .i64 r.1) ∧ W.cell? ⟨b, o + i * 2 + 1, none⟩ = some r.2) (fun i hi => by
    obtain ⟨b, o, u, h1, h2, h3, h4, h5⟩ := h i hs[i] (List.getElem?_eq_getElem hi)
    exact ⟨(hs[i].1, u), _, List.getElem?_eq_getElem hi, rfl, h5, b, o, h1, h2, h3, h4⟩)
  refine ⟨(List.range hs.length).map R, ⟨by simp, fun k z x hk hx => ?_⟩, fun k z hk => ?_⟩
  · have hkl := (List.getElem?_eq_some_iff.1 hx).1
    rw [List.getElem?_map, List.getElem?_range hkl] at hk
    simp at hk
    subst hk
    obtain ⟨x', e1, e2, e3, _⟩ := hR k hkl
    rw [hx] at e1
    injection e1 with e1
    subst e1
    exact ⟨e2, e3⟩
  · have hkl : k < hs.length := by have := (List.getElem?_eq_some_iff.1 hk).1; simpa using this
    rw [List.getElem?_map, List.getElem?_range hkl] at hk
    simp at hk
    subst hk
    obtain ⟨x', _, _, _, h5⟩ := hR k hkl
    exact h5
theorem cells_hosts {W : World} {A : Option Addr} {zs : List Hz} {hs : List Ht} (h : Enc W zs hs) (hv : VRds W A zs) : HRds W A hs := fun k x hk => by
  have hl : k < zs.length := by rw [h.1]; exact (List.getElem?_eq_some_iff.1 hk).1
  obtain ⟨e1, e2⟩ := h.2 k _ x (List.getElem?_eq_getElem hl) hk
  obtain ⟨b, o, h1, h2, h3, h4⟩ := hv k _ (List.getElem?_eq_getElem hl)
  exact ⟨b, o, _, h1, h2, by rw [← e1]; exact h3, h4, e2⟩
theorem VTab.cap {W : World} {B n c : Nat} {A : Option Addr} {l : List Hz} (h : VTab W B (.slice A n c) l) (hn : l.length = n) : n ≤ c := by
  obtain ⟨A', c', e, h1, _⟩ := h.form
  injection e with e1 e2 e3
  omega
theorem one_host (w : World) (i : Int) (u : Value) : VRds (w.alloc (.cells #[.int .i64 i, u] 43)) (some ⟨w.heap.size, 0, none⟩) [(i, u)] := fun k z hk => by
  rcases k with _ | k
  · simp at hk; subst hk
    exact ⟨_, 0, rfl, by simp, (boxH w (.int .i64 i) u).1, (boxH w (.int .i64 i) u).2⟩
  · simp at hk
theorem one_ones {i : Int} {u : Value} (h : u.oneCell' = true) : Ones [(i, u)] := fun z hz => by simp at hz; subst hz; exact h
/-- What an append to hosts of the call's own leaves. -/
theorem below_app_h {w2 w3 w4 : World} {B : Nat} {v : Value} {es : List Hz} {o : Obj} (hb : Below w2.heap.size w2 w3) (hT : VTab (w3.alloc o) B v es) (hB : w2.heap.size ≤ B) (hg : (w3.alloc o).grownBy w4 v.ownBlock) : Below w2.heap.size w2 w4 :=
  (hb.alloc hb.size o).grown hg (by simp; have := hb.size; omega) fun k hk => Nat.le_trans hB (hT.lt k hk).1
theorem below_app_g {w2 w3 w4 : World} {B : Nat} {v : Value} {es : List Hz} (hb : Below w2.heap.size w2 w3) (hT : VTab w3 B v es) (hB : w2.heap.size ≤ B) (hg : w3.grownBy w4 v.ownBlock) : Below w2.heap.size w2 w4 :=
  hb.grown hg hb.size fun k hk => Nat.le_trans hB (hT.lt k hk).1
theorem al_ {W V : World} (h : Below W.heap.size W V) (o : Obj) : Below W.heap.size W (V.alloc o) := h.alloc h.size o
theorem boxS' (w : World) (a b : Value) : (w.alloc (.cells #[a, b] 31)).cell? ⟨w.heap.size, 0, none⟩ = some a ∧ (w.alloc (.cells #[a, b] 31)).cell? ⟨w.heap.size, 1, none⟩ = some b :=
  ⟨(Known.made w _ #[a, b]).cell 0, (Known.made w _ #[a, b]).cell 1⟩
theorem one_host2 (w : World) (o : Obj) (i : Int) (u : Value) : VRds ((w.alloc o).alloc (.cells #[.int .i64 i, u] 43)) (some ⟨w.heap.size + 1, 0, none⟩) [(i, u)] := by
  have h := one_host (w.alloc o) i u
  rwa [World.size_alloc] at h
theorem one_key (w : World) (key : UInt64) : Reads (w.alloc (.cells #[.int .u64 key.toNat] 22)) (some ⟨w.heap.size, 0, none⟩) [word64 key] := fun k v hk => by
  rcases k with _ | k
  · simp at hk; subst hk
    exact ⟨_, 0, rfl, by simp, (Known.made w _ #[.int .u64 key.toNat]).cell 0⟩
  · simp at hk
theorem one_key2 (w : World) (o : Obj) (key : UInt64) : Reads ((w.alloc o).alloc (.cells #[.int .u64 key.toNat] 22)) (some ⟨w.heap.size + 1, 0, none⟩) [word64 key] := by
  have h := one_key (w.alloc o) key
  rwa [World.size_alloc] at h
theorem key_kept {w V : World} {a : Nat} {key : UInt64} {v : Value} (h : Reads w (some ⟨a, 0, none⟩) [word64 key]) (hne : ∀ k, v.ownBlock = some k → k ≠ a) (hg : w.grownBy V v.ownBlock) : Reads V (some ⟨a, 0, none⟩) [word64 key] := fun k x hk => by
  obtain ⟨b, o, e, h1, h2⟩ := h k x hk
  injection e with e
  injection e with e1 e2
  subst e1 e2
  exact ⟨_, _, rfl, Nat.lt_of_lt_of_le h1 hg.size, World.grownBy.cell hg h2 (fun e => hne a e.symm rfl)⟩
theorem below_app_g' {w2 w3 w4 : World} {B : Nat} {v : Value} {es : List Hz} (hb : Below w2.heap.size w2 w3) (hT : VTab w3 B v es) (hB : w2.heap.size ≤ B) (hg : w3.grownBy w4 v.ownBlock) : Below w2.heap.size w2 w4 :=
  hb.grown hg hb.size fun k hk => Nat.le_trans hB (hT.lt k hk).1
theorem below_undrew' {B : Nat} {W V : World} (h : Below B W.drew V) : Below B W V := ⟨h.os, h.tape, h.output, h.size, h.block⟩
theorem moved_one (hM : MovedSpec) (key : UInt64) (A : Option Addr) (a : List Ht) (na ca : Nat) (B : Option Addr) (b : List Ht) (nb cb : Nat) (many : Int) (V : World) (K : Option Addr) (hk : Reads V K [word64 key])
    (h1 : a.length = na) (h2 : na ≤ 4398046511105) (h3 : na ≤ ca) (h4 : HRds V A a) (h5 : FitsH a) (h6 : b.length = nb) (h7 : nb ≤ 4398046511105) (h8 : nb ≤ cb) (h9 : HRds V B b) (h10 : FitsH b) (e1 : plE key a many = 0) (e2 : plE key b many = 0) (l1 l2 : List It) (hl1 : plL key a many = l1) (hl2 : plL key b many = l2) :
    Calls Try.prog 14 #[.slice K 1 1, .slice A na ca, .slice B nb cb, .int .i64 many] V (Gave (.tuple #[.int .i64 (newIn l1 l2 : Nat), .int .i64 0]) V) := by
  obtain ⟨m1, m2⟩ := mv_one (k := key) e1 e2
  have h := hM K [key] 1 1 A a na ca B b nb cb many V rfl (by omega) hk h1 h2 h3 h4 h5 h6 h7 h8 h9 h10
  rw [m1, m2, hl1, hl2] at h
  exact h
set_option maxRecDepth 100000 in
set_option maxHeartbeats 8000000 in
theorem new_try (hP : PlaceSpec) (hM : MovedSpec) (key : UInt64) (A : Option Addr) (hs : List Ht) (n ca : Nat) (x : Ht) (u : Value) (many : Int) (W : World) (hn : hs.length = n) (hb : n ≤ 4398046511104) (hca : n ≤ ca) (hx : HRds W A hs) (hf : FitsH hs) (hu : IsDevs W u x.2) (hfx : FitsH [x]) (k1 k2 : Int)
    (hk1 : plE key hs many = k1) (hk2 : plE key (hs ++ [x]) many = k2) (l1 l2 : List It) (m1 m2 : Nat) (hl1 : plL key hs many = l1) (hl2 : plL key (hs ++ [x]) many = l2) (hm1 : l1.length = m1) (hm2 : l2.length = m2) :
    Calls Try.prog 7 #[.int .u64 key.toNat, .slice A n ca, .agg #[.int .i64 x.1, u], .int .i64 many] W (Law.Yes W) := by
  have AL := Lib.hid (alive_c hP hM (W.alloc (.cells #[.int .i64 x.1, u] 43)))
  obtain ⟨d0, d1⟩ := boxH W (.int .i64 x.1) u
  have B0 := Lib.hid ((Below.refl W.heap.size W).alloc (Nat.le_refl _) (.cells #[.int .i64 x.1, u] 43))
  obtain ⟨zs, hz, hv⟩ := hosts_cells hx
  have EZ := Lib.hid (fun V (hB : Below W.heap.size W V) => (hz.below hB).app (Enc.one rfl (hu.below hB)))
  have HV := Lib.hid hv
  have ON := Lib.hid hz.ones
  have ZN := Lib.hid (show zs.length = n by rw [hz.1, hn])
  have P1 := Lib.hid (fun V (hB : Below W.heap.size W V) => place_named hP key A hs n ca many V hn (by omega) hca (hx.below hB) hf _ _ _ hl1 hm1 hk1)
  have P2 := Lib.hid (fun V A2 c2 (hc : n + 1 ≤ c2) (hr : HRds V A2 (hs ++ [x])) => place_named hP key A2 (hs ++ [x]) (n + 1) c2 many V (by simp [hn]) (by omega) hc hr (fun h hh => by rcases List.mem_append.1 hh with hh | hh; exact hf h hh; exact hfx h hh) _ _ _ hl2 hm2 hk2)
  have MV0 := Lib.hid (fun (h1 : k1 = 0) (h2 : k2 = 0) V Kad A2 c2 (hk : Reads V Kad [word64 key]) (hB : Below W.heap.size W V) (hc : n + 1 ≤ c2) (hr : HRds V A2 (hs ++ [x])) => moved_one hM key A hs n ca A2 (hs ++ [x]) (n + 1) c2 many V Kad hk hn (by omega) hca (hx.below hB) hf (by simp [hn]) (by omega) hc hr (fun h hh => by rcases List.mem_append.1 hh with hh | hh; exact hf h hh; exact hfx h hh) (hk1.trans h1) (hk2.trans h2) l1 l2 hl1 hl2)
  have NH0 := Lib.hid (show k1 = 0 → k2 = 0 → ∀ s ∈ l2, s ∉ l1 → s.1 = x.1 from fun e1 e2 s h1 h2 => by
    obtain ⟨j, rfl⟩ : ∃ j : Nat, many = j := ⟨many.toNat, by have := (plE_zero.1 (hk1.trans e1)).2.1; omega⟩
    exact new_host (hk1.trans e1) (hk2.trans e2) (by rw [hl2]; exact h1) (by rw [hl1]; exact h2))
  have NM0 := Lib.hid (show k1 = 0 → k2 = 0 → newIn l1 l2 ≤ 1 ∧ m1 ≤ 16 ∧ m2 ≤ 16 from fun e1 e2 => by
    obtain ⟨j, rfl⟩ : ∃ j : Nat, many = j := ⟨many.toNat, by have := (plE_zero.1 (hk1.trans e1)).2.1; omega⟩
    have a1 := plL_len (hk1.trans e1)
    have a2 := plL_len (hk2.trans e2)
    have a3 := (plE_zero.1 (hk1.trans e1)).2.1
    have a4 := new_moved (hk1.trans e1) (hk2.trans e2)
    rw [hl1] at a1
    rw [hl2] at a2
    rw [hl1, hl2] at a4
    exact ⟨a4, by omega, by omega⟩)
  have HM1 := Lib.hid hm1
  have HM2 := Lib.hid hm2
  have UO : u.oneCell' = true := by obtain ⟨D, n', c', e, _⟩ := hu; rw [e]; rfl
  have V1 := Lib.hid (show k1 = 0 ∨ k1 = 2 ∨ k1 = 6 ∨ k1 = 8 from hk1 ▸ plE_vals key hs many)
  have V2V := Lib.hid (show k2 = 0 ∨ k2 = 2 ∨ k2 = 6 ∨ k2 = 8 from hk2 ▸ plE_vals key (hs ++ [x]) many)
  obtain ⟨x0, xd⟩ := x
  clear hn hx hf hu hfx hk1 hk2 hl1 hl2 hm1 hm2 hz hv
  go_enter Try.func7, Try.ntmps7
  go_wp2_with fail
  refine AL.out.mono ?_
  rintro e w1 ⟨rfl, hb1⟩
  have e0 := (hb1.cell (World.block_lt_of_cell? _ _ d0)).trans d0
  have e1 := (hb1.cell (World.block_lt_of_cell? _ _ d1)).trans d1
  have B1 := Lib.hid (B0.out.trans (hb1.mono B0.out.size))
  clear hb1 d0 d1
  go_wp2_with fail
  refine (P1.out _ B1.out).mono ?_
  rintro e w2 ⟨A2, c2, rfl, hc2, hr2, hb2⟩
  have f0 := (hb2.cell (World.block_lt_of_cell? _ _ e0)).trans e0
  have f1 := (hb2.cell (World.block_lt_of_cell? _ _ e1)).trans e1
  have B2 := Lib.hid (B1.out.trans (hb2.mono B1.out.size))
  have R2 := Lib.hid hr2
  clear hb2 e0 e1 hr2
  go_upto_region 4 with fail
  have V2 := Lib.hid (show VRds w2.drew A zs from (HV.out.below B2.out).below (below_drew (Below.refl _ _)))
  have VB := Lib.hid (show VRds (w2.drew.alloc (.cells #[.int .i64 x0, u] 43)) A zs from V2.out.below ((Below.refl _ _).alloc (Nat.le_refl _) _))
  have DB := Lib.hid (show Below w2.heap.size w2 (w2.drew.alloc (.cells #[.int .i64 x0, u] 43)) from (below_drew (Below.refl _ _)).alloc (Nat.le_refl _) _)
  have OH := Lib.hid (show VRds (w2.drew.alloc (.cells #[.int .i64 x0, u] 43)) (some ⟨w2.heap.size, 0, none⟩) [(x0, u)] from one_host w2.drew x0 u)
  have SK := Lib.hid (show ∀ w, Below w2.heap.size w2 w → w.cell? ⟨W.heap.size, 0, none⟩ = some (.int .i64 x0) ∧ w.cell? ⟨W.heap.size, 1, none⟩ = some u from fun w hb => ⟨(hb.cell (World.block_lt_of_cell? _ _ f0)).trans f0, (hb.cell (World.block_lt_of_cell? _ _ f1)).trans f1⟩)
  go_cut [11, 12] (fun a b wx => ∃ A5 c5, a = .slice A5 m2 c5 ∧ b = .int .i64 k2 ∧ WRds wx A5 l2 ∧ Below w2.heap.size w2 wx)
  case first =>
    go_region_held3 (fun w' => w'.cell? ⟨W.heap.size, 0, none⟩ = some (.int .i64 x0) ∧ w'.cell? ⟨W.heap.size, 1, none⟩ = some u) (first | go_keep | exact SK.out _ K3.out | exact SK.out _ K4.out | exact SK.out _ K5.out)
        (first
          | (go_at_call 21; refine (clone_h A zs n ca _ ZN.out (by omega) V2.out ON.out).mono ?_; rintro e w3 ⟨A3, c3, rfl, hT, hc, hb⟩; have T3 := Lib.hid hT; have K3 := Lib.hid (show Below w2.heap.size w2 w3 from below_undrew' hb); clear hT hc hb)
          | (go_at_call 21; refine (clone_h A zs n ca _ ZN.out (by omega) VB.out ON.out).mono ?_; rintro e w3 ⟨A3, c3, rfl, hT, hc, hb⟩; have T3 := Lib.hid hT; have K3 := Lib.hid (show Below w2.heap.size w2 w3 from DB.out.trans (hb.mono DB.out.size)); have S3 := Lib.hid (OH.out.below hb); have SZ3 := Lib.hid hb.size; clear hT hc hb)
          | (refine step_append_hosts (B := w2.drew.heap.size) (n := n) (m := 1) (c := 1) (b := w3.heap.size) (o' := 0) (v := .slice A3 n c3) (es := zs) (ys := [(x0, u)]) (AD := some ⟨w3.heap.size, 0, none⟩) (by rfl) _ _ (by rfl) rfl rfl rfl (T3.out.alloc _) ZN.out (one_host w3 x0 u) rfl (one_ones UO) (by omega) (Nat.le_trans K3.out.size (by simp)) ?_; intro A4 c4 w4 Z4 G4; have K4 := Lib.hid (below_app_h K3.out (T3.out.alloc _) (by simp) G4.out))
          | (refine step_append_hosts (B := (w2.drew.alloc (.cells #[.int .i64 x0, u] 43)).heap.size) (n := n) (m := 1) (c := 1) (b := w2.heap.size) (o' := 0) (v := .slice A3 n c3) (es := zs) (ys := [(x0, u)]) (AD := some ⟨w2.heap.size, 0, none⟩) (by rfl) _ _ (by rfl) rfl rfl rfl T3.out ZN.out S3.out rfl (one_ones UO) (by omega) SZ3.out ?_; intro A4 c4 w4 Z4 G4; have K4 := Lib.hid (below_app_g K3.out T3.out DB.out.size G4.out))
          | (go_at_call 9; refine (P2.out w4 A4 c4 (VTab.cap Z4.out (by simp [ZN.out])) (cells_hosts (EZ.out w4 (B2.out.trans (K4.out.mono B2.out.size))) Z4.out.rds)).mono ?_; rintro e w5 ⟨A5, c5, rfl, hc5, hr5, hb5⟩; have K5 := Lib.hid (show Below w2.heap.size w2 w5 from K4.out.trans (hb5.mono K4.out.size)); have R5 := Lib.hid hr5; clear hb5 hr5))
    all_goals go_wp2_with fail
    all_goals go_meet
    all_goals exact ⟨A5, c5, rfl, rfl, R5.out, K5.out⟩
  case rest =>
    obtain ⟨A5, c5, rfl, rfl, hr5, hb5⟩ := hcut
    have R5 := Lib.hid hr5
    have K5 := Lib.hid hb5
    obtain ⟨g0, g1⟩ := SK.out _ hb5
    clear hr5 hb5 SK VB DB OH V2 P1 P2
    rcases V1.out with rfl | rfl | rfl | rfl
    · rcases V2V.out with rfl | rfl | rfl | rfl
      · obtain ⟨w5, rfl⟩ : ∃ w : World, w = wc := ⟨_, rfl⟩
        have B5 := Lib.hid (B2.out.trans (K5.out.mono B2.out.size))
        have V5 := Lib.hid (show VRds w5.drew A zs from (HV.out.below B5.out).below (below_drew (Below.refl _ _)))
        have SK := Lib.hid (show ∀ w, Below w5.heap.size w5 w → w.cell? ⟨W.heap.size, 0, none⟩ = some (.int .i64 x0) ∧ w.cell? ⟨W.heap.size, 1, none⟩ = some u from fun w hb => ⟨(hb.cell (World.block_lt_of_cell? _ _ g0)).trans g0, (hb.cell (World.block_lt_of_cell? _ _ g1)).trans g1⟩)
        have MV := Lib.hid (MV0.out rfl rfl)
        obtain ⟨N, hN⟩ : ∃ N, N = newIn l1 l2 := ⟨_, rfl⟩
        rw [← hN] at MV
        have Vn := Lib.hid (show VRds (w5.drew) A zs from V5.out.below (Below.refl _ _))
        have Dn := Lib.hid (show Below w5.heap.size w5 (w5.drew) from below_drew (Below.refl _ _))
        have Vk := Lib.hid (show VRds (w5.drew.alloc (.cells #[.int .u64 key.toNat] 22)) A zs from V5.out.below (al_ (Below.refl _ _) _))
        have Dk := Lib.hid (show Below w5.heap.size w5 (w5.drew.alloc (.cells #[.int .u64 key.toNat] 22)) from al_ (below_drew (Below.refl _ _)) _)
        have Yk := Lib.hid (show Reads (w5.drew.alloc (.cells #[.int .u64 key.toNat] 22)) (some ⟨w5.heap.size, 0, none⟩) [word64 key] from one_key w5.drew key)
        have Lk := Lib.hid (show w5.heap.size < (w5.drew.alloc (.cells #[.int .u64 key.toNat] 22)).heap.size from by simp; try omega)
        have Vh := Lib.hid (show VRds (w5.drew.alloc (.cells #[.int .i64 x0, u] 43)) A zs from V5.out.below (al_ (Below.refl _ _) _))
        have Dh := Lib.hid (show Below w5.heap.size w5 (w5.drew.alloc (.cells #[.int .i64 x0, u] 43)) from al_ (below_drew (Below.refl _ _)) _)
        have Hh := Lib.hid (show VRds (w5.drew.alloc (.cells #[.int .i64 x0, u] 43)) (some ⟨w5.heap.size, 0, none⟩) [(x0, u)] from one_host w5.drew x0 u)
        have Vkh := Lib.hid (show VRds ((w5.drew.alloc (.cells #[.int .u64 key.toNat] 22)).alloc (.cells #[.int .i64 x0, u] 43)) A zs from V5.out.below (al_ (al_ (Below.refl _ _) _) _))
        have Dkh := Lib.hid (show Below w5.heap.size w5 ((w5.drew.alloc (.cells #[.int .u64 key.toNat] 22)).alloc (.cells #[.int .i64 x0, u] 43)) from al_ (al_ (below_drew (Below.refl _ _)) _) _)
        have Hkh := Lib.hid (show VRds ((w5.drew.alloc (.cells #[.int .u64 key.toNat] 22)).alloc (.cells #[.int .i64 x0, u] 43)) (some ⟨w5.heap.size + 1, 0, none⟩) [(x0, u)] from one_host2 w5.drew _ x0 u)
        have Ykh := Lib.hid (show Reads ((w5.drew.alloc (.cells #[.int .u64 key.toNat] 22)).alloc (.cells #[.int .i64 x0, u] 43)) (some ⟨w5.heap.size, 0, none⟩) [word64 key] from (one_key w5.drew key).below (al_ (Below.refl _ _) _))
        have Lkh := Lib.hid (show w5.heap.size < ((w5.drew.alloc (.cells #[.int .u64 key.toNat] 22)).alloc (.cells #[.int .i64 x0, u] 43)).heap.size from by simp; try omega)
        have Vhk := Lib.hid (show VRds ((w5.drew.alloc (.cells #[.int .i64 x0, u] 43)).alloc (.cells #[.int .u64 key.toNat] 22)) A zs from V5.out.below (al_ (al_ (Below.refl _ _) _) _))
        have Dhk := Lib.hid (show Below w5.heap.size w5 ((w5.drew.alloc (.cells #[.int .i64 x0, u] 43)).alloc (.cells #[.int .u64 key.toNat] 22)) from al_ (al_ (below_drew (Below.refl _ _)) _) _)
        have Hhk := Lib.hid (show VRds ((w5.drew.alloc (.cells #[.int .i64 x0, u] 43)).alloc (.cells #[.int .u64 key.toNat] 22)) (some ⟨w5.heap.size, 0, none⟩) [(x0, u)] from (one_host w5.drew x0 u).below (al_ (Below.refl _ _) _))
        have Yhk := Lib.hid (show Reads ((w5.drew.alloc (.cells #[.int .i64 x0, u] 43)).alloc (.cells #[.int .u64 key.toNat] 22)) (some ⟨w5.heap.size + 1, 0, none⟩) [word64 key] from one_key2 w5.drew _ key)
        have Lhk := Lib.hid (show w5.heap.size + 1 < ((w5.drew.alloc (.cells #[.int .i64 x0, u] 43)).alloc (.cells #[.int .u64 key.toNat] 22)).heap.size from by simp; try omega)
        clear MV0
        go_upto_region 7 with fail
        go_cut [13, 14] (fun a b wx => a = .int .i64 N ∧ b = .int .i64 0 ∧ Below w5.heap.size w5 wx)
        case first =>
          go_region_held3 (fun w' => w'.cell? ⟨W.heap.size, 0, none⟩ = some (.int .i64 x0) ∧ w'.cell? ⟨W.heap.size, 1, none⟩ = some u) (first | go_keep | exact SK.out _ K6.out | exact SK.out _ K7.out | exact SK.out _ K8.out)
            (first
              | (go_at_call 21; refine (clone_h A zs n ca _ ZN.out (by omega) Vn.out ON.out).mono ?_; rintro e w6 ⟨A6, c6, rfl, hT, hc, hb⟩; have T6 := Lib.hid hT; have K6 := Lib.hid (show Below w5.heap.size w5 w6 from Dn.out.trans (hb.mono Dn.out.size)); have U6 := Lib.hid (show w5.heap.size ≤ (w5.drew).heap.size from Dn.out.size); have SZ6 := Lib.hid hb.size; clear hT hc hb)
              | (go_at_call 21; refine (clone_h A zs n ca _ ZN.out (by omega) Vk.out ON.out).mono ?_; rintro e w6 ⟨A6, c6, rfl, hT, hc, hb⟩; have T6 := Lib.hid hT; have K6 := Lib.hid (show Below w5.heap.size w5 w6 from Dk.out.trans (hb.mono Dk.out.size)); have U6 := Lib.hid (show w5.heap.size ≤ (w5.drew.alloc (.cells #[.int .u64 key.toNat] 22)).heap.size from Dk.out.size); have SZ6 := Lib.hid hb.size; have Q6 := Lib.hid (Yk.out.below hb); have QL := Lib.hid (fun k hk => Nat.ne_of_gt (Nat.lt_of_lt_of_le Lk.out (hT.lt k hk).1)); clear hT hc hb)
              | (go_at_call 21; refine (clone_h A zs n ca _ ZN.out (by omega) Vh.out ON.out).mono ?_; rintro e w6 ⟨A6, c6, rfl, hT, hc, hb⟩; have T6 := Lib.hid hT; have K6 := Lib.hid (show Below w5.heap.size w5 w6 from Dh.out.trans (hb.mono Dh.out.size)); have U6 := Lib.hid (show w5.heap.size ≤ (w5.drew.alloc (.cells #[.int .i64 x0, u] 43)).heap.size from Dh.out.size); have SZ6 := Lib.hid hb.size; have S6 := Lib.hid (Hh.out.below hb); clear hT hc hb)
              | (go_at_call 21; refine (clone_h A zs n ca _ ZN.out (by omega) Vkh.out ON.out).mono ?_; rintro e w6 ⟨A6, c6, rfl, hT, hc, hb⟩; have T6 := Lib.hid hT; have K6 := Lib.hid (show Below w5.heap.size w5 w6 from Dkh.out.trans (hb.mono Dkh.out.size)); have U6 := Lib.hid (show w5.heap.size ≤ ((w5.drew.alloc (.cells #[.int .u64 key.toNat] 22)).alloc (.cells #[.int .i64 x0, u] 43)).heap.size from Dkh.out.size); have SZ6 := Lib.hid hb.size; have S6 := Lib.hid (Hkh.out.below hb); have Q6 := Lib.hid (Ykh.out.below hb); have QL := Lib.hid (fun k hk => Nat.ne_of_gt (Nat.lt_of_lt_of_le Lkh.out (hT.lt k hk).1)); clear hT hc hb)
              | (go_at_call 21; refine (clone_h A zs n ca _ ZN.out (by omega) Vhk.out ON.out).mono ?_; rintro e w6 ⟨A6, c6, rfl, hT, hc, hb⟩; have T6 := Lib.hid hT; have K6 := Lib.hid (show Below w5.heap.size w5 w6 from Dhk.out.trans (hb.mono Dhk.out.size)); have U6 := Lib.hid (show w5.heap.size ≤ ((w5.drew.alloc (.cells #[.int .i64 x0, u] 43)).alloc (.cells #[.int .u64 key.toNat] 22)).heap.size from Dhk.out.size); have SZ6 := Lib.hid hb.size; have S6 := Lib.hid (Hhk.out.below hb); have Q6 := Lib.hid (Yhk.out.below hb); have QL := Lib.hid (fun k hk => Nat.ne_of_gt (Nat.lt_of_lt_of_le Lhk.out (hT.lt k hk).1)); clear hT hc hb)
              | (refine step_append_hosts (n := n) (m := 1) (c := 1) (b := w6.heap.size) (o' := 0) (v := .slice A6 n c6) (es := zs) (ys := [(x0, u)]) (AD := some ⟨w6.heap.size, 0, none⟩) (by rfl) _ _ (by rfl) rfl rfl rfl (T6.out.alloc _) ZN.out (one_host w6 x0 u) rfl (one_ones UO) (by omega) (Nat.le_trans SZ6.out (al_ (Below.refl w6.heap.size w6) _).size) ?_; intro A7 c7 w7 Z7 G7; have K7 := Lib.hid (below_app_g' (al_ K6.out _) (T6.out.alloc _) U6.out G7.out); have Q7 := Lib.hid (key_kept (Q6.out.below (al_ (Below.refl _ _) _)) QL.out G7.out); clear G7)
              | (refine step_append_hosts (n := n) (m := 1) (c := 1) (b := w6.heap.size + 1) (o' := 0) (v := .slice A6 n c6) (es := zs) (ys := [(x0, u)]) (AD := some ⟨w6.heap.size + 1, 0, none⟩) (by rfl) _ _ (by rfl) rfl rfl rfl ((T6.out.alloc _).alloc _) ZN.out (one_host2 w6 _ x0 u) rfl (one_ones UO) (by omega) (Nat.le_trans SZ6.out (al_ (al_ (Below.refl w6.heap.size w6) _) _).size) ?_; intro A7 c7 w7 Z7 G7; have K7 := Lib.hid (below_app_g' (al_ (al_ K6.out _) _) ((T6.out.alloc _).alloc _) U6.out G7.out); have Q7 := Lib.hid (key_kept ((one_key w6 key).below (al_ (Below.refl _ _) _)) (fun k hk => Nat.ne_of_lt (T6.out.lt k hk).2) G7.out); clear G7)
              | (refine step_append_hosts (n := n) (m := 1) (c := 1) (b := w6.heap.size) (o' := 0) (v := .slice A6 n c6) (es := zs) (ys := [(x0, u)]) (AD := some ⟨w6.heap.size, 0, none⟩) (by rfl) _ _ (by rfl) rfl rfl rfl ((T6.out.alloc _).alloc _) ZN.out ((one_host w6 x0 u).below (al_ (Below.refl _ _) _)) rfl (one_ones UO) (by omega) (Nat.le_trans SZ6.out (al_ (al_ (Below.refl w6.heap.size w6) _) _).size) ?_; intro A7 c7 w7 Z7 G7; have K7 := Lib.hid (below_app_g' (al_ (al_ K6.out _) _) ((T6.out.alloc _).alloc _) U6.out G7.out); have Q7 := Lib.hid (key_kept (one_key2 w6 _ key) (fun k hk => Nat.ne_of_lt (Nat.lt_succ_of_lt (T6.out.lt k hk).2)) G7.out); clear G7)
              | (refine step_append_hosts (n := n) (m := 1) (c := 1) (b := w6.heap.size) (o' := 0) (v := .slice A6 n c6) (es := zs) (ys := [(x0, u)]) (AD := some ⟨w6.heap.size, 0, none⟩) (by rfl) _ _ (by rfl) rfl rfl rfl (T6.out.alloc _) ZN.out (one_host w6 x0 u) rfl (one_ones UO) (by omega) (Nat.le_trans SZ6.out (al_ (Below.refl w6.heap.size w6) _).size) ?_; intro A7 c7 w7 Z7 G7; have K7 := Lib.hid (below_app_g' (al_ K6.out _) (T6.out.alloc _) U6.out G7.out); clear G7)
              | (refine step_append_hosts (n := n) (m := 1) (c := 1) (b := w5.heap.size + 1) (o' := 0) (v := .slice A6 n c6) (es := zs) (ys := [(x0, u)]) (AD := some ⟨w5.heap.size + 1, 0, none⟩) (by rfl) _ _ (by rfl) rfl rfl rfl T6.out ZN.out S6.out rfl (one_ones UO) (by omega) SZ6.out ?_; intro A7 c7 w7 Z7 G7; have K7 := Lib.hid (below_app_g' K6.out T6.out U6.out G7.out); have Q7 := Lib.hid (key_kept Q6.out QL.out G7.out); clear G7)
              | (refine step_append_hosts (n := n) (m := 1) (c := 1) (b := w5.heap.size) (o' := 0) (v := .slice A6 n c6) (es := zs) (ys := [(x0, u)]) (AD := some ⟨w5.heap.size, 0, none⟩) (by rfl) _ _ (by rfl) rfl rfl rfl T6.out ZN.out S6.out rfl (one_ones UO) (by omega) SZ6.out ?_; intro A7 c7 w7 Z7 G7; have K7 := Lib.hid (below_app_g' K6.out T6.out U6.out G7.out); have Q7 := Lib.hid (key_kept Q6.out QL.out G7.out); clear G7)
              | (refine step_append_hosts (n := n) (m := 1) (c := 1) (b := w5.heap.size) (o' := 0) (v := .slice A6 n c6) (es := zs) (ys := [(x0, u)]) (AD := some ⟨w5.heap.size, 0, none⟩) (by rfl) _ _ (by rfl) rfl rfl rfl (T6.out.alloc _) ZN.out (S6.out.below (al_ (Below.refl _ _) _)) rfl (one_ones UO) (by omega) (Nat.le_trans SZ6.out (al_ (Below.refl w6.heap.size w6) _).size) ?_; intro A7 c7 w7 Z7 G7; have K7 := Lib.hid (below_app_g' (al_ K6.out _) (T6.out.alloc _) U6.out G7.out); have Q7 := Lib.hid (key_kept (one_key w6 key) (fun k hk => Nat.ne_of_lt (T6.out.lt k hk).2) G7.out); clear G7)
              | (refine step_append_hosts (n := n) (m := 1) (c := 1) (b := w5.heap.size) (o' := 0) (v := .slice A6 n c6) (es := zs) (ys := [(x0, u)]) (AD := some ⟨w5.heap.size, 0, none⟩) (by rfl) _ _ (by rfl) rfl rfl rfl T6.out ZN.out S6.out rfl (one_ones UO) (by omega) SZ6.out ?_; intro A7 c7 w7 Z7 G7; have K7 := Lib.hid (below_app_g' K6.out T6.out U6.out G7.out); clear G7)
              | (go_at_call 14; refine (MV.out _ _ A7 c7 Q7.out (B5.out.trans (K7.out.mono B5.out.size)) (VTab.cap Z7.out (by simp [ZN.out])) (cells_hosts (EZ.out w7 (B5.out.trans (K7.out.mono B5.out.size))) Z7.out.rds)).mono ?_; rintro e w8 ⟨rfl, hb8⟩; have K8 := Lib.hid (show Below w5.heap.size w5 w8 from K7.out.trans (hb8.mono K7.out.size)); clear hb8)
              | (go_at_call 14; refine (MV.out _ _ A7 c7 (one_key w7 key) (B5.out.trans ((al_ K7.out _).mono B5.out.size)) (VTab.cap Z7.out (by simp [ZN.out])) (HRds.below (cells_hosts (EZ.out w7 (B5.out.trans (K7.out.mono B5.out.size))) Z7.out.rds) (al_ (Below.refl _ _) _))).mono ?_; rintro e w8 ⟨rfl, hb8⟩; have K8 := Lib.hid (show Below w5.heap.size w5 w8 from (al_ K7.out _).trans (hb8.mono (al_ K7.out _).size)); clear hb8)
            )
          all_goals go_wp2_with fail
          all_goals go_meet
          all_goals exact ⟨by first | rfl | rw [hN], rfl, K8.out⟩
        case rest =>
          obtain ⟨rfl, rfl, hb8⟩ := hcut
          have NH := Lib.hid (NH0.out rfl rfl)
          obtain ⟨hN1, hM1, hM2⟩ := NM0.out rfl rfl
          have S1 := Lib.hid (R2.out.below K5.out)
          have B8 := Lib.hid hb8
          clear hb8 MV NH0 NM0 g0 g1 B5 V5
          go_wp2_with fail
          go_loopw [15, 59] (fun c i wr => ∃ k : Nat, k ≤ m2 ∧ i = .int .i64 k ∧ c = .int .i64 (newIn l1 (l2.take k) : Nat) ∧ Below w5.heap.size w5 wr) (fun _ i _ => m2 - (intOf i).toNat)
          case atStart => exact ⟨0, by omega, rfl, by simp [newIn], B8.out⟩
          case round =>
            obtain ⟨k, hk, rfl, rfl, hB⟩ := hrel
            have HB := Lib.hid hB
            clear B8
            by_cases hlt : k < m2
            · have i1 : (k : Int) < (m2 : Int) := by omega
              have kl : k < l2.length := by rw [HM2.out]; exact hlt
              obtain ⟨s, hs⟩ : ∃ s, l2[k]? = some s := ⟨_, List.getElem?_eq_getElem kl⟩
              obtain ⟨b, o, rfl, hbl, q0, q1⟩ := (R5.out.below hB) k s hs
              have ES := Lib.hid hs
              obtain ⟨s0, s1⟩ := s
              obtain ⟨d0, d1⟩ := boxS' wr (.int .i64 s0) (.int .i64 s1)
              have LA := Lib.hid (HB.out.alloc HB.out.size (.cells #[.int .i64 s0, .int .i64 s1] 31))
              obtain ⟨C, hC⟩ : ∃ C, C = newIn l1 (l2.take k) := ⟨_, rfl⟩
              have CB : C ≤ 16 := by rw [hC]; exact Nat.le_trans (newIn_le _ _) (by rw [List.length_take]; omega)
              have CN := Lib.hid (show newIn l1 (l2.take (k + 1)) = C + if (s0, s1) ∈ l1 then 0 else 1 by rw [List.take_add_one, hs, hC]; exact newIn_snoc _ _ _)
              rw [← hC]
              have CT := Lib.hid (containsS_c A2 l1 m1 c2 (s0, s1) _ (S1.out.below LA.out) HM1.out (by omega))
              clear hC hB hs
              go_wp2_with fail
              refine CT.out.mono ?_
              rintro e wd ⟨rfl, hbd⟩
              have e0 := (hbd.cell (World.block_lt_of_cell? _ _ d0)).trans d0
              have KD := Lib.hid (LA.out.trans (hbd.mono LA.out.size))
              obtain ⟨g0, g1⟩ := SK.out _ KD.out
              clear hbd q0 q1 d1 d0
              by_cases hm : (s0, s1) ∈ l1
              · rw [decide_eq_true hm]
                have CC := Lib.hid (show newIn l1 (l2.take (k + 1)) = C by rw [CN.out, if_pos hm]; rfl)
                clear hm
                go_wp2
                go_roundw
                case rel => exact ⟨k + 1, by omega, by go_num, by rw [CC.out], KD.out⟩
                case measure => simp [intOf]; omega
              · rw [decide_eq_false hm]
                have CC := Lib.hid (show newIn l1 (l2.take (k + 1)) = C + 1 by rw [CN.out, if_neg hm])
                have e1 : s0 = x0 := NH.out _ (List.mem_of_getElem? ES.out) hm
                subst e1
                clear hm
                go_wp2
                go_roundw
                case rel => exact ⟨k + 1, by omega, by go_num, by rw [CC.out]; go_num, KD.out⟩
                case measure => simp [intOf]; omega
            · obtain rfl : k = m2 := by omega
              have HE := Lib.hid (show newIn l1 (l2.take k) = newIn l1 l2 by rw [List.take_of_length_le (by rw [HM2.out]; omega)])
              rw [HE.out]
              subst hN
              obtain ⟨N, hN⟩ : ∃ N, N = newIn l1 l2 := ⟨_, rfl⟩
              rw [← hN]
              have r1 : ((N : Int) == (N : Int)) = true := by simp
              have hN1' : N ≤ 1 := by rw [hN]; exact hN1
              have r2 : decide ((N : Int) ≤ 1) = true := decide_eq_true (by omega)
              clear hB hN hN1 hN1'
              go_wp2
              go_ret
              exact ⟨rfl, B2.out.trans ((K5.out.trans (HB.out.mono K5.out.size)).mono B2.out.size)⟩
      all_goals
        go_wp2
        go_ret
        exact ⟨rfl, B2.out.trans (K5.out.mono B2.out.size)⟩
    all_goals
      go_wp2
      go_ret
      exact ⟨rfl, B2.out.trans (K5.out.mono B2.out.size)⟩
end Go.Proofs.Ytcbecpgllebepaa.Crush
