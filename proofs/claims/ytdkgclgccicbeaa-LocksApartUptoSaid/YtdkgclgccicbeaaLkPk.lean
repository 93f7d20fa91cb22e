/-
  Package locks: list.
-/
import Derived.Test.YtdkgclgccicbeaaLkPj
namespace Go.Proofs.Ytdkgclgccicbeaa.LkP
set_option linter.unusedVariables false
set_option linter.unusedSimpArgs false
open Go.RowKit Mem Gt
open Lk hiding ints

/-- What the locks lead to lies below Q, and from N0 on. -/
def LsIs (N0 : Nat) (V : World) (xs : List L4) (ls : List Lc) : Prop := ∀ (j : Nat) (x : L4) (y : Lc), xs[j]? = some x → ls[j]? = some y → IsLc V x y ∧ ∀ a, (x.2.2.1.1 = some a ∨ x.2.2.2.1 = some a) → N0 ≤ a.block ∧ a.block < V.heap.size
def LOut (N0 : Nat) (ls : List Lc) (kl : Nat) (V : World) (e : Ending) (V' : World) : Prop := ∃ B d, e = .returned (.slice B kl d) ∧ (kl ≤ d ∧ d ≤ 9223372036854775807) ∧ LNew N0 V' B kl d ls ∧ Below V.heap.size V V'
theorem LsIs.snoc {N0 : Nat} {V : World} {xs : List L4} {ls : List Lc} {k : Nat} {x : L4} {y : Lc} (h : LsIs N0 V xs ls) (hk : xs.length = k) (hy : ls[k]? = some y) (h1 : IsLc V x y) (h2 : ∀ a, (x.2.2.1.1 = some a ∨ x.2.2.2.1 = some a) → N0 ≤ a.block ∧ a.block < V.heap.size) : LsIs N0 V (xs ++ [x]) ls := fun j u v hu hv => by
  subst hk
  by_cases e : j < xs.length
  · rw [List.getElem?_append_left e] at hu
    exact h j u v hu hv
  · have hj := (List.getElem?_eq_some_iff.1 hu).1
    simp at hj
    obtain rfl : j = xs.length := by omega
    rw [List.getElem?_append_right (Nat.le_refl _), Nat.sub_self] at hu
    simp at hu
    subst hu
    rw [hy] at hv
    injection hv with hv
    subst hv
    exact ⟨h1, h2⟩
theorem reads_mv {N M : Nat} {V V' : World} {A : Option Addr} {l : List Value} (h : Reads V A l) (hN : V.heap.size ≤ N) (ha : ∀ a, A = some a → a.block ≠ M) (m : MvB N M V V') : Reads V' A l := fun k v hk => by
  obtain ⟨b, o, rfl, hb, hc⟩ := h k v hk
  exact ⟨b, o, rfl, Nat.lt_of_lt_of_le hb m.size, (World.cell?_of_block (a := ⟨b, o + k, none⟩) (m.block b (by omega) (ha _ rfl))).trans hc⟩
set_option maxRecDepth 100000 in
set_option maxHeartbeats 16000000 in
theorem list_c (N M : Nat) (L : Lab) (g : Int → Nat) (p : Int → Sk) (c : Nat) (V : World) (N0 : Nat) (hN : N0 ≤ N) (h : Bo N M L g p c V) (hc : c ≤ 4194304) (ls : List Lc) (kl : Nat) (hkl : ls.length = kl)
    (hls : ∀ ss : List Int, ss.Pairwise (· < ·) → (∀ x, x ∈ ss ↔ (p x).2.1 ≠ []) → ss.map (lockK p) = ls) :
    Calls Try.prog 22 #[.map (some M)] V (LOut N0 ls kl V) := by
  obtain ⟨ks, k1, k2, k3, k4, hmp⟩ := h.mp
  obtain ⟨m, hm⟩ : ∃ m, ks.length = m := ⟨_, rfl⟩
  have hin : ∀ x, x ∈ sortK ks ↔ (p x).2.1 ≠ [] := fun x => by rw [(sortK_perm ks).mem_iff]; exact k3 x
  have HL := Lib.hid (hls (sortK ks) (sortK_rise k1) hin)
  have HSL := Lib.hid (show (sortK ks).length = m by rw [← hm]; exact (sortK_perm ks).length_eq)
  obtain rfl : kl = m := by rw [← hkl, ← HL.out, List.length_map]; exact HSL.out
  obtain ⟨cs, hmk⟩ := make_lk kl (by omega)
  have mk := fun w => (hmk w).1
  have T0 := Lib.hid ((hmk V).2 V.heap.size (Nat.le_refl _))
  have b1 := low_lit V (.cells cs 34)
  have e1 : (V.alloc (.cells cs 34)).heap.size = V.heap.size + 1 := by simp
  have sc := sorted_c (hmp.later b1) k1 k4 kl hm (by omega)
  rw [e1] at sc
  have SC := Lib.hid sc
  have E1 := Lib.hid e1
  have CK := Lib.hid (fun W => keys_c (some M) W)
  have MP := Lib.hid hmp
  have HM := Lib.hid hm
  have BB := Lib.hid h
  have HKM := Lib.hid (show kl ≤ 4194304 by omega)
  have HIN := Lib.hid hin
  have K4 := Lib.hid k4
  have K3 := Lib.hid k3
  have B1 := Lib.hid b1
  have HN := Lib.hid hN
  clear sc e1 hmk hmp hm h hls hkl hin k1 k2 k3 k4 b1 hN hc
  go_enter Try.func22, Try.ntmps22
  go_wp2_with (first
    | (refine wpList_len_n und_b rfl _ (by rfl) MP.out rfl kl HM.out ?_)
    | (go_at_call 29; refine (CK.out _).mono ?_; rintro e w1 ⟨rfl, rfl⟩)
    | (go_at_call 28; refine SC.out.mono ?_; rintro e w2 ⟨A, cap, rfl, hr, hb, hA⟩))
  have RD := Lib.hid hr
  have B2 := Lib.hid (B1.out.trans (hb.mono (Nat.le_succ _)))
  have T2 := Lib.hid (T0.out.later (by rw [E1.out]; exact hb))
  have HA := Lib.hid (show ∀ a, A = some a → a.block ≠ V.heap.size from fun a ha => by have := hA a ha; omega)
  have S2 := Lib.hid (show V.heap.size + 1 ≤ w2.heap.size by have := hb.size; rw [E1.out] at this; exact this)
  clear hr hb hA SC CK mk T0 B1 HM
  go_loopw [3, 14] (fun v i wr => ∃ (k : Nat) (A1 : Option Addr) (c1 : Nat) (xs : List L4), k ≤ kl ∧ i = .int .i64 k ∧ v = .slice A1 k c1 ∧ xs.length = k ∧ Tab l4E wr V.heap.size tLc (.slice A1 k c1) xs ∧ LsIs N0 V xs ls ∧ Below V.heap.size V wr ∧ MvB w2.heap.size V.heap.size w2 wr ∧ (∀ b, (Value.slice A1 k c1).ownBlock = some b → b = V.heap.size ∨ w2.heap.size ≤ b)) (fun _ i _ => kl - (Go.RowKit.intOf i).toNat)
  case atStart => exact ⟨0, _, _, [], by omega, rfl, rfl, rfl, T2.out, fun j x y hx => by simp at hx, B2.out, MvB.refl _ _ _, fun b hb => .inl (by injection hb with hb; exact hb.symm)⟩
  case round =>
    obtain ⟨k, A1, c1, xs, hk, rfl, rfl, hxs, hT, hI, hB, hM, hO⟩ := hrel
    have HX := Lib.hid hxs
    have TT := Lib.hid hT
    have II := Lib.hid hI
    have BW := Lib.hid hB
    clear T2
    by_cases hlt : k < kl
    · have kk : k < (sortK ks).length := by rw [HSL.out]; exact hlt
      obtain ⟨x, hx⟩ : ∃ x, (sortK ks)[k]? = some x := ⟨_, List.getElem?_eq_getElem kk⟩
      have hxm : x ∈ sortK ks := List.mem_of_getElem? hx
      have hpx := (HIN.out x).1 hxm
      have hy : ls[k]? = some (lockK p x) := by rw [← HL.out, List.getElem?_map, hx]; rfl
      obtain ⟨b, o, rfl, _, y0⟩ := int_at (reads_mv RD.out (Nat.le_refl _) HA.out hM) hx
      obtain ⟨hv, wv, r⟩ := BB.out.lk x hpx
      obtain ⟨G, hG⟩ : ∃ G, G = g x := ⟨_, rfl⟩
      obtain ⟨al, hal⟩ : ∃ al, (p x).1 = al := ⟨_, rfl⟩
      rw [← hG, hal] at r
      obtain ⟨nh, hnh⟩ : ∃ n, (p x).2.1.length = n := ⟨_, rfl⟩
      obtain ⟨nw, hnw⟩ : ∃ n, (p x).2.2.length = n := ⟨_, rfl⟩
      obtain ⟨H, ch, rfl, h1, h2, -⟩ := slice_form r.ht hnh
      obtain ⟨S, cw, rfl, h3, h4, -⟩ := slice_form r.wt hnw
      unfold maxLen at h2 h4
      have IL := Lib.hid (show IsLc V (x, al, (H, nh, ch), (S, nw, cw)) (lockK p x) from
        ⟨rfl, hal.symm, hnh, ⟨h1, by omega⟩, (by have := r.ht.reads; rw [flat_er] at this; exact this), hnw, ⟨h3, by omega⟩, r.wt.reads⟩)
      have IB := Lib.hid (show ∀ a, (H = some a ∨ S = some a) → N0 ≤ a.block ∧ a.block < V.heap.size from fun a ha => by
        have hn := HN.out
        rcases ha with rfl | rfl
        · have := r.ht.lt a.block rfl; omega
        · have := r.wt.lt a.block rfl; omega)
      have rw' := r.later hB
      have c0 : wr.cell? ⟨G, 0, none⟩ = some (.bool al) := rw'.bx.cell 0
      have c1' : wr.cell? ⟨G, 1, none⟩ = some (.slice H nh ch) := rw'.bx.cell 1
      have c2 : wr.cell? ⟨G, 2, none⟩ = some (.slice S nw cw) := rw'.bx.cell 2
      have EP := Lib.hid (show ptrK g p x = .pointer (some ⟨G, 0, none⟩) by unfold ptrK; rw [if_neg hpx, hG])
      have MPw := Lib.hid (MP.out.later hB)
      have WF := Lib.hid (wf_of (K4.out x ((K3.out x).2 hpx)))
      have HY := Lib.hid hy
      have HO := Lib.hid hO
      have HMv := Lib.hid hM
      have SW := Lib.hid hB.size
      have TD := Lib.hid (hT.later (Mem.below_drew (Below.refl _ _)))
      have i1 : (k : Int) < (kl : Int) := by omega
      have HLT := Lib.hid hlt
      have kb := HKM.out
      clear kk hx hxm hpx hy hG hal hnh hnw h1 h2 h3 h4 r rw' hT hI hB hM hO hxs
      go_upto_region 6 with (refine wpList_lookup_n und_b (zeroP _) rfl _ _ (by rfl) MPw.out x WF.out rfl rfl _ EP.out ?_)
      go_region_law (first
        | (refine step_append_1 (E := l4E) elL4 (by decide) (by rfl) _ _ (by rfl) (B := V.heap.size) (n := k) (b := wr.heap.size) (v := .slice A1 k c1) (es := xs) (y := (x, al, (H, nh, ch), (S, nw, cw))) rfl rfl (TD.out.alloc _) HX.out (cs := #[.int .i64 x, .bool al, .slice H nh ch, .slice S nw cw]) rfl (Known.made _ _ _) (by unfold maxLen; have := HKM.out; omega) (by have := HKM.out; omega) (by have := SW.out; simp; omega) ?_; intro g8 c8 w8 T8 G8 L8))
      all_goals
        have TA := Lib.hid (TD.out.alloc (.cells #[.int .i64 x, .bool al, .slice H nh ch, .slice S nw cw] 34))
        have BA := Lib.hid ((Mem.below_drew BW.out).alloc (show V.heap.size ≤ wr.drew.heap.size from SW.out) (.cells #[.int .i64 x, .bool al, .slice H nh ch, .slice S nw cw] 34))
        have B8 := Lib.hid (TA.out.below G8.out BA.out (Nat.le_refl _) BA.out.size)
        have MA := (HMv.out.later HMv.out.size (Mem.below_drew (Below.refl _ wr))).later HMv.out.size (low_lit _ (.cells #[.int .i64 x, .bool al, .slice H nh ch, .slice S nw cw] 34))
        have M8 := Lib.hid (show MvB w2.heap.size V.heap.size w2 w8 from MA.trans ⟨G8.out.os, G8.out.tape, G8.out.output, G8.out.size, fun b hb hne => G8.out.block b (Nat.lt_of_lt_of_le hb MA.size) (fun e => by
          rcases HO.out b e.symm with h1 | h1
          · exact hne h1
          · omega)⟩)
        have O8 := Lib.hid (show ∀ b, (Value.slice (some ⟨g8, 0, none⟩) (k + 1) c8).ownBlock = some b → b = V.heap.size ∨ w2.heap.size ≤ b from fun b hb => by
          injection hb with hb
          have hb : g8 = b := hb
          subst hb
          rcases L8.out with e | e
          · exact HO.out g8 e
          · right; rw [e]; exact MA.size)
        clear MA
        go_wp2
        go_roundw
        case rel => exact ⟨k + 1, some ⟨g8, 0, none⟩, c8, xs ++ [(x, al, (H, nh, ch), (S, nw, cw))], by have := HLT.out; omega, by go_num, rfl, by simp [HX.out], T8.out, II.out.snoc HX.out HY.out IL.out IB.out, B8.out, M8.out, O8.out⟩
        case measure => have := HLT.out; simp [Go.RowKit.intOf]; omega
    · obtain rfl : k = kl := by omega
      obtain ⟨A', c', e', hc1, hc2⟩ := hT.form
      injection e' with _ e2 e3
      rw [hxs] at hc1
      subst e3
      unfold maxLen at hc2
      have RES := Lib.hid (show LNew N0 wr A1 k c1 ls from ⟨xs, TT.out.down (Nat.le_trans HN.out BB.out.nv), by rw [HX.out, ← HL.out, List.length_map, HSL.out], fun j x y hx hy => by
        obtain ⟨h1, h2⟩ := II.out j x y hx hy
        refine ⟨h1.below hB, fun a ha => ⟨(h2 a ha).1, fun e => ?_⟩⟩
        have := (TT.out.lt _ e).1
        have := (h2 a ha).2
        omega⟩)
      have CC := Lib.hid (show k ≤ c1 ∧ c1 ≤ 9223372036854775807 from ⟨hc1, by omega⟩)
      clear e2 hc1 hc2 hT hI hB hM hO hxs
      go_wp2
      go_ret
      exact ⟨A1, c1, rfl, CC.out, RES.out, BW.out⟩
end Go.Proofs.Ytdkgclgccicbeaa.LkP
