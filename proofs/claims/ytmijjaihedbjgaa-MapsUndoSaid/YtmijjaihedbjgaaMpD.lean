/-
  Package maps: changed.
-/
import Derived.Test.YtmijjaihedbjgaaMpC
namespace Go.Proofs.Ytmijjaihedbjgaa.Mps
set_option linter.unusedVariables false
set_option linter.unusedSimpArgs false
open Go.RowKit Mem

/-- A map and what is wrong. -/
def MapOut (e : Int) (l : List Int) (n : Nat) (k : Int) (W : World) (x : Ending) (W' : World) : Prop :=
  ∃ A c, x = .returned (.tuple #[.agg #[.int .i64 e, .slice A n c], .int .i64 k]) ∧ Reads W' A (ints l) ∧ Below W.heap.size W W' ∧ ∀ a, A = some a → W.heap.size ≤ a.block
/-- What changes of states come to, as letters. -/
def ChSays (ep : Int) (cs : List Ch) (l : List Int) (n : Nat) (e0 : Int) (l0 : List Int) (n0 : Nat) (k0 : Int) : Prop :=
  chE cs l = 0 ∧ e0 = ep ∧ l0 = chL cs l ∧ n0 = n ∧ k0 = 0 ∨ chE cs l = k0 ∧ k0 ≠ 0 ∧ e0 = 0 ∧ l0 = [] ∧ n0 = 0
theorem chE_step {cs : List Ch} {k : Nat} {c : Ch} (h : cs[k]? = some c) {j n : Nat} {ls : List Int} (hj : c.1 = j) (hn : ls.length = n) :
    (n ≤ j → chE (cs.drop k) ls = 3) ∧ (∀ x, ls[j]? = some x → x ≠ c.2.1 → j < n → chE (cs.drop k) ls = 7) ∧ (ls[j]? = some c.2.1 → j < n → chE (cs.drop k) ls = chE (cs.drop (k + 1)) (ls.set j c.2.2) ∧ chL (cs.drop k) ls = chL (cs.drop (k + 1)) (ls.set j c.2.2)) := by
  obtain ⟨h1, rfl⟩ := List.getElem?_eq_some_iff.1 h
  rw [List.drop_eq_getElem_cons h1]
  have e : (cs[k].1).toNat = j := by rw [hj]; rfl
  have hE : chE (cs[k] :: cs.drop (k + 1)) ls = if ls.length ≤ (cs[k].1).toNat then 3 else if ls[(cs[k].1).toNat]? ≠ some cs[k].2.1 then 7 else chE (cs.drop (k + 1)) (ls.set (cs[k].1).toNat cs[k].2.2) := rfl
  have hL : chL (cs[k] :: cs.drop (k + 1)) ls = chL (cs.drop (k + 1)) (ls.set (cs[k].1).toNat cs[k].2.2) := rfl
  rw [hE, hL, e, hn]
  refine ⟨fun h => if_pos h, fun x hx hne hlt => ?_, fun hx hlt => ?_⟩
  · rw [if_neg (by omega), if_pos (by rw [hx]; simpa using hne)]
  · rw [if_neg (by omega), if_neg (by rw [hx]; simp)]
    exact ⟨rfl, rfl⟩
theorem known_map0 (w : World) : Known (w.alloc (.cells #[.int .i64 0, .slice none 0 0] 24)) w.heap.size 24 #[.int .i64 0, .slice none 0 0] := Known.made w _ _
/-- What stands at the head of the loop of changed. -/
def CAt (W : World) (cs : List Ch) (l : List Int) (n m : Nat) (A : Option Addr) (c : Nat) (k : Nat) (wr : World) : Prop :=
  ∃ ls b, ls.length = n ∧ -1 ≤ b ∧ okC b (cs.drop k) ∧ chE cs l = chE (cs.drop k) ls ∧ chL cs l = chL (cs.drop k) ls ∧ ZTab wr (W.heap.size + 1) (.slice A n c) ls ∧ Known wr W.heap.size 24 #[.int .i64 0, .slice none 0 0] ∧ Below W.heap.size W wr
set_option maxRecDepth 100000 in
set_option maxHeartbeats 8000000 in
theorem changed_c (ep : Int) (A : Option Addr) (l : List Int) (n c : Nat) (C : Option Addr) (cs : List Ch) (m ca : Nat) (W : World) (hn : l.length = n) (hbig : n ≤ 17592186044416) (hx : Reads W A (ints l)) (hm : cs.length = m) (hmb : m ≤ 5864062014805) (hc : CRds W C cs) (ho : okC (-1) cs)
    (e0 : Int) (l0 : List Int) (n0 : Nat) (k0 : Int) (hs : ChSays ep cs l n e0 l0 n0 k0) :
    Calls Try.prog 20 #[.int .i64 ep, .slice A n c, .slice C m ca] W (MapOut e0 l0 n0 k0 W) := by
  have K1 := Lib.hid (known_map0 W)
  have B1 := (Below.refl W.heap.size W).alloc (Nat.le_refl _) (.cells #[.int .i64 0, .slice none 0 0] 24)
  have CL := Lib.hid (clone_z A l n c _ hn hbig (hx.below B1))
  have HC := Lib.hid hc
  have HM := Lib.hid hm
  have HO := Lib.hid ho
  have HN := Lib.hid hn
  have HS := Lib.hid hs
  have BB := Lib.hid B1
  clear hn hx hm hc ho hs B1
  go_enter Try.func20, Try.ntmps20
  go_wp2_with fail
  refine CL.out.mono ?_
  rintro e w1 ⟨A1, c1, rfl, hz, hb⟩
  have K2 := Lib.hid (K1.out.later hb)
  have B2 := Lib.hid (BB.out.trans (hb.mono BB.out.size))
  have Z2 := Lib.hid (show ZTab w1 (W.heap.size + 1) (.slice A1 n c1) l by have := hz; simpa using this)
  clear hz hb CL K1 BB
  go_wp2
  go_loopw [15] (fun i wr => ∃ k : Nat, k ≤ m ∧ i = .int .i64 k ∧ CAt W cs l n m A1 c1 k wr) (fun i _ => m - (intOf i).toNat)
  case atStart => exact ⟨0, by omega, rfl, l, -1, HN.out, by omega, HO.out, rfl, rfl, Z2.out, K2.out, B2.out⟩
  case round =>
    obtain ⟨k, hk, rfl, ls, a, hl, ha, ho, hE, hL, hZ, hK, hB⟩ := hrel
    by_cases hlt : k < m
    · have k1 : k < cs.length := by rw [HM.out]; exact hlt
      have ex : cs[k]? = some cs[k] := List.getElem?_eq_getElem k1
      obtain ⟨x, hu⟩ : ∃ x, x = cs[k] := ⟨_, rfl⟩
      rw [← hu] at ex
      obtain ⟨b1, o1, rfl, _, x0, x1, x2⟩ := (HC.out.below hB) k x ex
      obtain ⟨o2, o3, o4⟩ := (okC_step ex a).1 ho
      obtain ⟨j, hj⟩ : ∃ j : Nat, x.1 = j := ⟨x.1.toNat, by omega⟩
      obtain ⟨s1, s2, s3⟩ := chE_step ex hj hl
      obtain ⟨c0, q1, q2⟩ := x
      obtain rfl : c0 = (j : Int) := hj
      obtain ⟨f0, f1, f2⟩ := boxC wr (.int .i64 j) (.int .i64 q1) (.int .i64 q2)
      have HZ := hZ.alloc (.cells #[.int .i64 j, .int .i64 q1, .int .i64 q2] 33)
      have HK := Lib.hid (hK.alloc (.cells #[.int .i64 j, .int .i64 q1, .int .i64 q2] 33))
      have HB := Lib.hid (hB.alloc hB.size (.cells #[.int .i64 j, .int .i64 q1, .int .i64 q2] 33))
      have i1 : (k : Int) < (m : Int) := by omega
      have z0 := HK.out.cell 0
      have z1 := HK.out.cell 1
      have y0 := HK.out.free 0
      have y1 := HK.out.free 1
      by_cases hjn : j < n
      · have i2 : (j : Int) < (n : Int) := by omega
        obtain ⟨g, x, rfl, hg, hgs, hx, hc, hf, hput⟩ := HZ.put hl hjn
        have GG := Lib.hid hg
        have HP := Lib.hid hput
        by_cases hxe : x = q1
        · obtain ⟨t1, t2⟩ := s3 (by rw [hx, hxe]) hjn
          have q3 : (x != q1) = false := by simp [hxe]
          have E2 := Lib.hid (hE.trans t1)
          have L2 := Lib.hid (hL.trans t2)
          have O2 := Lib.hid o4
          have LN := Lib.hid (show (ls.set j q2).length = n by rw [List.length_set]; exact hl)
          clear hu ex k1 hB hK hZ HZ hl ho hE hL o2 o3 o4 s1 s2 s3 t1 t2 hx hput hg hgs hxe z0 z1 y0 y1
          go_wp2
          go_quiet (fail)
          go_wp2
          go_roundw
          case rel => exact ⟨k + 1, by omega, by go_num, _, _, LN.out, by simp, O2.out, E2.out, L2.out, HP.out q2, HK.out.off (p := ⟨g, j, none⟩) (by show W.heap.size ≠ g; have := GG.out; omega) _, (below_drewN HB.out _).setCell (p := ⟨g, j, none⟩) (by have := GG.out; show W.heap.size ≤ g; omega) _⟩
          case measure => simp [intOf]; omega
        · have q3 : (x != q1) = true := by simpa using hxe
          have E7 := s2 x hx hxe hjn
          have H7 := Lib.hid (show e0 = 0 ∧ l0 = [] ∧ n0 = 0 ∧ k0 = 7 by
            rcases HS.out with ⟨r1, _⟩ | ⟨r1, r2, r3, r4, r5⟩
            · rw [hE, E7] at r1; cases r1
            · exact ⟨r3, r4, r5, by rw [← r1, hE, E7]⟩)
          clear hu ex k1 hB hK hZ HZ hl ho hE hL o2 o3 o4 s1 s2 s3 hx hput hg hgs hxe
          go_wp2
          go_quiet (fail)
          go_wp2
          obtain ⟨rfl, rfl, rfl, rfl⟩ := H7.out
          refine bodyPost_ret (v := .tuple #[.agg #[.int .i64 0, .slice none 0 0], .int .i64 7]) ?_ rfl ⟨none, 0, rfl, Reads.nil, ((below_drewN HB.out _).setCell (Nat.le_refl _) _).setCell (Nat.le_refl _) _, fun a h => by cases h⟩
          exact results_row2 rfl _ _ W.heap.size 24 _ (0, 0) _ rfl (((HK.out.drawn ⟨_, rfl⟩).put 0 (.int .i64 0)).put 1 (.slice none 0 0)) fieldsMap sizeMap rfl
      · have i2 : ¬ (j : Int) < (n : Int) := by omega
        have E3 := s1 (by omega)
        have H3 := Lib.hid (show e0 = 0 ∧ l0 = [] ∧ n0 = 0 ∧ k0 = 3 by
          rcases HS.out with ⟨r1, _⟩ | ⟨r1, r2, r3, r4, r5⟩
          · rw [hE, E3] at r1; cases r1
          · exact ⟨r3, r4, r5, by rw [← r1, hE, E3]⟩)
        clear hu ex k1 hB hK hZ HZ hl ho hE hL o2 o3 o4 s1 s2 s3
        go_wp2
        obtain ⟨rfl, rfl, rfl, rfl⟩ := H3.out
        refine bodyPost_ret (v := .tuple #[.agg #[.int .i64 0, .slice none 0 0], .int .i64 3]) ?_ rfl ⟨none, 0, rfl, Reads.nil, (HB.out.setCell (Nat.le_refl _) _).setCell (Nat.le_refl _) _, fun a h => by cases h⟩
        exact results_row2 rfl _ _ W.heap.size 24 _ (0, 0) _ rfl ((HK.out.put 0 (.int .i64 0)).put 1 (.slice none 0 0)) fieldsMap sizeMap rfl
    · obtain rfl : k = m := by omega
      have ED : cs.drop k = [] := List.drop_of_length_le (by rw [HM.out]; omega)
      have H0 := Lib.hid (show e0 = ep ∧ l0 = ls ∧ n0 = n ∧ k0 = 0 by
        rw [ED] at hE hL
        rcases HS.out with ⟨r1, r2, r3, r4, r5⟩ | ⟨r1, r2, _⟩
        · exact ⟨r2, by rw [r3, hL]; rfl, r4, r5⟩
        · exact absurd (by rw [← r1, hE]; rfl) r2)
      have HK := Lib.hid hK
      have HB := Lib.hid hB
      have HR := Lib.hid hZ
      have z0 := HK.out.cell 0
      have z1 := HK.out.cell 1
      have y0 := HK.out.free 0
      have y1 := HK.out.free 1
      clear hl ho hE hL hZ hK hB ED
      go_wp2
      obtain ⟨rfl, rfl, rfl, rfl⟩ := H0.out
      refine bodyPost_ret (v := .tuple #[.agg #[.int .i64 e0, .slice A1 n0 c1], .int .i64 0]) ?_ rfl ⟨A1, c1, rfl, ?_, (HB.out.setCell (Nat.le_refl _) _).setCell (Nat.le_refl _) _, fun a h => by have := Grows.from_ HR.out a h; omega⟩
      · exact results_row2 rfl _ _ W.heap.size 24 _ (0, 0) _ rfl ((HK.out.put 0 (.int .i64 e0)).put 1 (.slice A1 n0 c1)) fieldsMap sizeMap rfl
      · have hne : ∀ q, A1 = some q → q.block ≠ W.heap.size := fun q hq => by have := Grows.from_ HR.out q hq; omega
        exact (HR.out.reads.off (p := ⟨W.heap.size, 0, none⟩) hne _).off (p := ⟨W.heap.size, 1, none⟩) hne _
end Go.Proofs.Ytmijjaihedbjgaa.Mps
