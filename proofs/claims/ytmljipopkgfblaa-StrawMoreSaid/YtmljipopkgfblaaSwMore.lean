/-
  StrawMore over what the laws take of the program.
-/
import Derived.Test.YtmljipopkgfblaaSwMoreP
import Derived.Test.YtmljipopkgfblaaSwScale
import Derived.Test.YtmljipopkgfblaaSwFuncs
namespace Go.Proofs.Ytmljipopkgfblaa.Straw
set_option linter.unusedVariables false
set_option linter.unusedSimpArgs false
open Go.RowKit Mem

def cntp (l : List It) (j : Nat) : Nat := (pos (l.take j)).length
theorem cntp_yes {l : List It} {j : Nat} {a : It} (h : l[j]? = some a) (ha : 0 < a.2) : cntp l (j + 1) = cntp l j + 1 := by
  unfold cntp pos; rw [List.take_add_one, h, List.filter_append]; simp [ha]
theorem cntp_no {l : List It} {j : Nat} {a : It} (h : l[j]? = some a) (ha : ¬ 0 < a.2) : cntp l (j + 1) = cntp l j := by
  unfold cntp pos; rw [List.take_add_one, h, List.filter_append]; simp [ha]
theorem someL_all {key : UInt64} {l : List It} {p : Nat} (h : someE key l p = 0) (hp : (pos l).length = p) : someL key l p = ids key l := by
  unfold someL
  rw [if_pos h, Int.toNat_natCast, List.take_of_length_le (by rw [ids_len]; omega)]
def EarlyMore (n : Nat) (k more : Int) (l : List It) : Prop := k < 0 ∨ (n : Int) ≤ k ∨ more < 0 ∨ 100 < more ∨ ∃ (j : Nat) (a : It), k = j ∧ l[j]? = some a ∧ (a.2 < 1 ∨ 100 < a.2)
set_option maxRecDepth 100000 in
set_option maxHeartbeats 8000000 in
theorem more_early (HA : ∀ V, Calls Try.prog 16 #[] V (Law.Yes V)) (key : UInt64) (A : Option Addr) (l : List It) (n ca : Nat) (k more : Int) (W : World) (hn : l.length = n) (hbig : n ≤ 8796093022208) (hx : WRds W A l) (h : EarlyMore n k more l) :
    Calls Try.prog 5 #[.int .u64 key.toNat, .slice A n ca, .int .i64 k, .int .i64 more] W (Law.Yes W) := by
  have HAL := Lib.hid HA
  by_cases k0 : k < 0
  · have p0 : decide (k < 0) = true := decide_eq_true k0
    clear hn hx h HA
    go_enter Try.func5, Try.ntmps5
    go_wp2_with fail
    refine (HAL.out _).mono ?_
    rintro e w1 ⟨rfl, hb⟩
    have B1 := Lib.hid hb
    clear hb
    go_wp2
    go_ret
    exact ⟨rfl, B1.out⟩
  have p0 : decide (k < 0) = false := decide_eq_false k0
  by_cases k1 : (n : Int) ≤ k
  · have p1 : decide ((n : Int) ≤ k) = true := decide_eq_true k1
    clear hn hx h HA
    go_enter Try.func5, Try.ntmps5
    go_wp2_with fail
    refine (HAL.out _).mono ?_
    rintro e w1 ⟨rfl, hb⟩
    have B1 := Lib.hid hb
    clear hb
    go_wp2
    go_ret
    exact ⟨rfl, B1.out⟩
  obtain ⟨j, rfl⟩ : ∃ j : Nat, k = j := ⟨k.toNat, by omega⟩
  have p1 : decide ((n : Int) ≤ (j : Int)) = false := decide_eq_false k1
  have p1' : decide (n ≤ j) = false := decide_eq_false (by omega)
  by_cases m0 : more < 0
  · have p2 : decide (more < 0) = true := decide_eq_true m0
    clear hn hx h HA
    go_enter Try.func5, Try.ntmps5
    go_wp2_with fail
    refine (HAL.out _).mono ?_
    rintro e w1 ⟨rfl, hb⟩
    have B1 := Lib.hid hb
    clear hb
    go_wp2
    go_ret
    exact ⟨rfl, B1.out⟩
  have p2 : decide (more < 0) = false := decide_eq_false m0
  by_cases m1 : 100 < more
  · have p3 : decide (100 < more) = true := decide_eq_true m1
    clear hn hx h HA
    go_enter Try.func5, Try.ntmps5
    go_wp2_with fail
    refine (HAL.out _).mono ?_
    rintro e w1 ⟨rfl, hb⟩
    have B1 := Lib.hid hb
    clear hb
    go_wp2
    go_ret
    exact ⟨rfl, B1.out⟩
  have p3 : decide (100 < more) = false := decide_eq_false m1
  obtain ⟨j', a, e, ha, hw⟩ : ∃ (j' : Nat) (a : It), (j : Int) = j' ∧ l[j']? = some a ∧ (a.2 < 1 ∨ 100 < a.2) := by
    unfold EarlyMore at h
    rcases h with h | h | h | h | h
    · omega
    · omega
    · omega
    · omega
    · exact h
  obtain rfl : j' = j := by omega
  obtain ⟨b, o, rfl, hbl, _, x1⟩ := hx _ _ ha
  have X1 := Lib.hid (fun V (hb : Below W.heap.size W V) => (hb.cell (p := ⟨b, o + j' * 2 + 1, none⟩) hbl).trans x1)
  obtain ⟨a0, a1⟩ := a
  have hw' : a1 < 1 ∨ 100 < a1 := hw
  have i1 : (j' : Int) < (n : Int) := by omega
  clear hn hx h HA e ha hw x1 hbl
  by_cases w0 : a1 < 1
  · have p4 : decide (a1 < 1) = true := decide_eq_true w0
    clear hw'
    go_enter Try.func5, Try.ntmps5
    go_wp2_with fail
    refine (HAL.out _).mono ?_
    rintro e w1 ⟨rfl, hb⟩
    have x1 := X1.out _ hb
    have B1 := Lib.hid hb
    clear hb
    go_wp2
    go_ret
    exact ⟨rfl, B1.out⟩
  · have p4 : decide (a1 < 1) = false := decide_eq_false w0
    have w1 : 100 < a1 := by omega
    have p5 : decide (100 < a1) = true := decide_eq_true w1
    clear hw'
    go_enter Try.func5, Try.ntmps5
    go_wp2_with fail
    refine (HAL.out _).mono ?_
    rintro e w1 ⟨rfl, hb⟩
    have x1 := X1.out _ hb
    have B1 := Lib.hid hb
    clear hb
    go_wp2
    go_ret
    exact ⟨rfl, B1.out⟩
set_option maxRecDepth 100000 in
set_option maxHeartbeats 8000000 in
theorem more_in (HS : SomeSpec) (HA : ∀ V, Calls Try.prog 16 #[] V (Law.Yes V)) (key : UInt64) (A : Option Addr) (l : List It) (n ca : Nat) (k : Nat) (more : Int) (u0 u1 : Int) (W : World) (hn : l.length = n) (hbig : n ≤ 8796093022208) (hca : n ≤ ca) (hx : WRds W A l) (hf : Fits l)
    (hu : l[k]? = some (u0, u1)) (hm0 : 0 ≤ more) (hm1 : more ≤ 100) (hu1 : 1 ≤ u1) (hu2 : u1 ≤ 100) :
    Calls Try.prog 5 #[.int .u64 key.toNat, .slice A n ca, .int .i64 k, .int .i64 more] W (Law.Yes W) := by
  have hk : k < n := by rw [← hn]; exact (List.getElem?_eq_some_iff.1 hu).1
  have HAL := Lib.hid HA
  have HX := Lib.hid hx
  have HN := Lib.hid hn
  have HU := Lib.hid hu
  obtain ⟨b, o, rfl, hbl, x0, x1⟩ := hx _ _ hu
  have X0 := Lib.hid (fun V (hb : Below W.heap.size W V) => (hb.cell (p := ⟨b, o + k * 2, none⟩) hbl).trans x0)
  have X1 := Lib.hid (fun V (hb : Below W.heap.size W V) => (hb.cell (p := ⟨b, o + k * 2 + 1, none⟩) hbl).trans x1)
  generalize hp : (pos l).length = p at *
  have hpn : p ≤ n := by rw [← hp, ← hn]; exact List.length_filter_le _ _
  have HP := Lib.hid hp
  have FM : Hid (Fits (l.set k (u0, u1 + more))) := fun a ha => by
    rcases List.mem_or_eq_of_mem_set ha with h | rfl
    · exact hf a h
    · refine ⟨(hf _ (List.mem_of_getElem? hu)).1, ?_⟩
      show (Lit.int .i64 (u1 + more)).wf = true
      simp [Lit.wf, IntKind.min, IntKind.max, IntKind.bits, IntKind.signed]; omega
  have S1 := Lib.hid (fun V (hb : Below W.heap.size W V) => HS key (some ⟨b, o, none⟩) l n ca p V hn (by unfold maxLen; omega) hca (hx.below hb) hf)
  have S2 := Lib.hid (fun V A2 c2 (hc : n ≤ c2) (hr : WRds V A2 (l.set k (u0, u1 + more))) => HS key A2 (l.set k (u0, u1 + more)) n c2 p V (by rw [List.length_set]; exact hn) (by unfold maxLen; omega) hc hr FM)
  have hp2 : (pos (l.set k (u0, u1 + more))).length = p := by rw [more_pos hu (by show 0 < u1; omega) (by show 0 < u1 + more; omega)]; exact hp
  have V1 := Lib.hid (someE_vals key l p)
  have V2 := Lib.hid (someE_vals key (l.set k (u0, u1 + more)) p)
  have L1 := Lib.hid (someL_len key l p)
  have L2 := Lib.hid (someL_len key (l.set k (u0, u1 + more)) p)
  have MM := Lib.hid (fun (h1 : someE key l p = 0) (h2 : someE key (l.set k (u0, u1 + more)) p = 0) =>
    (show ∃ x y : Nat, (someL key l p).Nodup ∧ (someL key (l.set k (u0, u1 + more)) p).Nodup ∧ (someL key l p)[x]? = some u0 ∧ (someL key (l.set k (u0, u1 + more)) p)[y]? = some u0 ∧ y ≤ x ∧ (someL key l p).take x ++ (someL key l p).drop (x + 1) = (someL key (l.set k (u0, u1 + more)) p).take y ++ (someL key (l.set k (u0, u1 + more)) p).drop (y + 1) by
      have ho := (someE_zero.1 h1).1.2.2
      obtain ⟨x, y, q1, q2, q3, q4⟩ := more_main (key := key) (a' := (u0, u1 + more)) ho hu (by show 0 < u1; omega) rfl (by show u1 ≤ u1 + more; omega)
      rw [someL_all h1 hp, someL_all h2 hp2]
      exact ⟨x, y, ids_nodup ho, ids_nodup (someE_zero.1 h2).1.2.2, q1, q2, q3, q4⟩))
  generalize hE1 : someE key l p = e1 at *
  generalize hE2 : someE key (l.set k (u0, u1 + more)) p = e2 at *
  generalize hL1 : someL key l p = l1 at *
  generalize hL2 : someL key (l.set k (u0, u1 + more)) p = l2 at *
  have p0 : decide ((k : Int) < 0) = false := decide_eq_false (by omega)
  have p1 : decide ((n : Int) ≤ (k : Int)) = false := decide_eq_false (by omega)
  have p1' : decide (n ≤ k) = false := decide_eq_false (by omega)
  have p2 : decide (more < 0) = false := decide_eq_false (by omega)
  have p3 : decide (100 < more) = false := decide_eq_false (by omega)
  have p4 : decide (u1 < 1) = false := decide_eq_false (by omega)
  have p5 : decide (100 < u1) = false := decide_eq_false (by omega)
  have i1 : (k : Int) < (n : Int) := by omega
  clear hE1 hE2 hL1 hL2 hp hp2 hn hx hu hf HA HS x0 x1 hbl
  go_enter Try.func5, Try.ntmps5
  go_wp2_with fail
  refine (HAL.out _).mono ?_
  rintro e w1 ⟨rfl, hb⟩
  have x1 := X1.out _ hb
  have B1 := Lib.hid hb
  clear hb HAL
  go_wp2
  clear p0 p1 p1' p2 p3 p4 p5 x1
  go_loopw [9, 56] (fun s9 i wr => ∃ j q : Nat, j ≤ n ∧ q ≤ j ∧ i = .int .i64 j ∧ s9 = .int .i64 q ∧ cntp l j = q ∧ Below W.heap.size W wr) (fun _ i _ => n - (intOf i).toNat)
  case atStart => exact ⟨0, 0, by omega, by omega, rfl, rfl, rfl, B1.out⟩
  case round =>
    obtain ⟨j, q, hj, hq, rfl, rfl, hcq, hB⟩ := hrel
    have HB := Lib.hid hB
    have CQ := Lib.hid hcq
    by_cases hlt : j < n
    · have k2 : j < l.length := by rw [HN.out]; exact hlt
      obtain ⟨b2, o2, e3, _, y0, y1⟩ := (HX.out.below hB).it k2
      injection e3 with e3
      injection e3 with e4 e5
      subst e4 e5
      have EX := Lib.hid (show l[j]? = some l[j] from List.getElem?_eq_getElem k2)
      generalize hv : l[j] = v at *
      obtain ⟨v0, v1⟩ := v
      have i2 : (j : Int) < (n : Int) := by omega
      obtain ⟨d0, d1⟩ := boxI wr (.int .i64 v0) (.int .i64 v1)
      have HBA := Lib.hid (show Below W.heap.size W (wr.alloc (.cells #[.int .i64 v0, .int .i64 v1] 38)) from hB.alloc hB.size _)
      clear hv k2 hB hcq
      by_cases e : 0 < v1
      · have RN := Lib.hid (cntp_yes EX.out e)
        go_wp2
        go_roundw
        case rel => exact ⟨j + 1, q + 1, by omega, by omega, by go_num, by go_num, by rw [RN.out, CQ.out], HBA.out⟩
        case measure => simp [intOf]; omega
      · have RN := Lib.hid (cntp_no EX.out e)
        go_wp2
        go_roundw
        case rel => exact ⟨j + 1, q, by omega, by omega, by go_num, rfl, by rw [RN.out, CQ.out], HBA.out⟩
        case measure => simp [intOf]; omega
    · obtain rfl : j = n := by omega
      obtain rfl : q = p := by
        have h1 := CQ.out
        unfold cntp at h1
        rw [List.take_of_length_le (by rw [HN.out]; omega), HP.out] at h1
        exact h1.symm
      clear hB hcq B1
      go_wp2_with fail
      refine (clone_w (some ⟨b, o, none⟩) l j ca wr HN.out hbig (HX.out.below HB.out)).mono ?_
      rintro e w2 ⟨A2, c2, rfl, hT, hc2, hb⟩
      obtain ⟨g, rfl, hnn, hg, hgl⟩ := hT.head (by rw [HN.out]; omega)
      obtain ⟨b3, o3, e3, _, y0, y1⟩ := hT.rds k _ HU.out
      injection e3 with e3
      injection e3 with e4 e5
      subst e4 e5
      rw [Nat.zero_add] at y0 y1
      have f1 := hT.free hnn (k * 2 + 1)
      have B2 := Lib.hid (HB.out.trans (hb.mono HB.out.size))
      have SW := Lib.hid (show W.heap.size ≤ g from Nat.le_trans HB.out.size hg)
      have PW := Lib.hid (hT.putW hnn HU.out (u1 + more))
      have BW := Lib.hid (B2.out.setCell (p := ⟨g, k * 2 + 1, none⟩) SW.out (.int .i64 (u1 + more)))
      have mw : IntKind.i64.wrap (u1 + more) = u1 + more := IntWalk.i64_in _ (by omega)
      have C2 := Lib.hid hc2
      clear hb hT hnn hg hgl y0 hc2
      go_wp2_with fail
      refine (S1.out _ BW.out).mono ?_
      rintro e w4 ⟨A4, c4, rfl, hr, hb⟩
      have R4 := Lib.hid hr
      have T4 := Lib.hid (PW.out.rds.below hb)
      have B4 := Lib.hid (BW.out.trans (hb.mono BW.out.size))
      clear hr hb
      go_wp2_with fail
      refine (S2.out _ _ c2 C2.out T4.out).mono ?_
      rintro e w5 ⟨A5, c5, rfl, hr, hb⟩
      have R5 := Lib.hid hr
      have R4' := Lib.hid (R4.out.below hb)
      have B5 := Lib.hid (B4.out.trans (hb.mono B4.out.size))
      have x0 := X0.out _ B5.out
      clear hr hb y1 f1
      have v1 := V1.out
      have v2 := V2.out
      by_cases z1 : e1 = 0
      · by_cases z2 : e2 = 0
        · subst z1 z2
          obtain ⟨x, y, n1, n2, q1, q2, q3, q4⟩ := MM.out rfl rfl
          have xl := (List.getElem?_eq_some_iff.1 q1).1
          have yl := (List.getElem?_eq_some_iff.1 q2).1
          have la := L1.out
          have lb := L2.out
          have IX := Lib.hid (fun V hr => index_z A4 l1 l1.length c4 x u0 V rfl (by omega) hr n1 q1)
          have IY := Lib.hid (fun V hr => index_z A5 l2 l2.length c5 y u0 V rfl (by omega) hr n2 q2)
          have CX := Lib.hid (fun V hr => clone_z A4 l1 l1.length c4 V rfl (by omega) hr)
          have CY := Lib.hid (fun V hr => clone_z A5 l2 l2.length c5 V rfl (by omega) hr)
          have DX := Lib.hid (fun V B A c hz => delete_z B A l1 l1.length c x V rfl (by omega) hz xl)
          have DY := Lib.hid (fun V B A c hz => delete_z B A l2 l2.length c y V rfl (by omega) hz yl)
          have OL := Lib.hid (show (l1.take x ++ l1.drop (x + 1)).length = l1.length - 1 ∧ (l2.take y ++ l2.drop (y + 1)).length = l2.length - 1 by constructor <;> (simp; omega))
          have Q4 := Lib.hid q4
          generalize hn1 : l1.length = m1 at *
          generalize hn2 : l2.length = m2 at *
          have j1 : ¬ (x : Int) < 0 := by omega
          have j2 : ¬ (y : Int) < 0 := by omega
          have j3 : ¬ (x : Int) < (y : Int) := by omega
          have k1 : decide ((x : Int) < 0) = false := decide_eq_false j1
          have k2 : decide ((y : Int) < 0) = false := decide_eq_false j2
          have k3 : decide (x < y) = false := decide_eq_false (by omega)
          clear v1 v2 n1 n2 q1 q2 q4 hn1 hn2 V1 V2 L1 L2 MM
          go_wp2_with (first | ((with_reducible refine (IX.out _ R4'.out).mono ?_); rintro e w' ⟨rfl, rfl⟩) | ((with_reducible refine (IY.out _ R5.out).mono ?_); rintro e w' ⟨rfl, rfl⟩) | fail)
          refine (CX.out _ R4'.out).mono ?_
          rintro e w6 ⟨A6, c6, rfl, hz, hb⟩
          have Z6 := Lib.hid hz
          have H56 := Lib.hid hb
          have B6 := Lib.hid (B5.out.trans (hb.mono B5.out.size))
          clear hz hb
          go_wp2_with fail
          refine (DX.out w6 w5.heap.size A6 c6 Z6.out).mono ?_
          rintro e w7 ⟨rfl, hr, hb⟩
          have X7 := Lib.hid hr
          have R7 := Lib.hid (R5.out.below (H56.out.trans hb))
          have B7 := Lib.hid (B6.out.trans (hb.mono B5.out.size))
          clear hr hb Z6 H56 B6
          go_wp2_with fail
          refine (CY.out _ R7.out).mono ?_
          rintro e w8 ⟨A8, c8, rfl, hz, hb⟩
          have Z8 := Lib.hid hz
          have H78 := Lib.hid hb
          have B8 := Lib.hid (B7.out.trans (hb.mono B7.out.size))
          clear hz hb
          go_wp2_with fail
          refine (DY.out w8 w7.heap.size A8 c8 Z8.out).mono ?_
          rintro e w9 ⟨rfl, hr, hb⟩
          have Y9 := Lib.hid hr
          have X9 := Lib.hid (X7.out.below (H78.out.trans hb))
          have B9 := Lib.hid (B8.out.trans (hb.mono B7.out.size))
          have EQ := Lib.hid (equalZ_c A6 A8 _ _ (m1 - 1) (m2 - 1) c6 c8 w9 OL.out.1 OL.out.2 (by omega) (by omega) X9.out Y9.out)
          rw [show decide (List.take x l1 ++ List.drop (x + 1) l1 = List.take y l2 ++ List.drop (y + 1) l2) = true from decide_eq_true Q4.out] at EQ
          clear hr hb Z8 H78 B8
          go_wp2_with (go_at_call 15; refine EQ.out.mono ?_; rintro e w10 ⟨rfl, hb⟩; have B10 := Lib.hid (B9.out.trans (hb.mono B9.out.size)); clear hb)
          go_ret
          exact ⟨rfl, B10.out⟩
        · clear MM
          subst z1
          rcases v2 with rfl | rfl | rfl | rfl
          case inl => exact absurd rfl z2
          all_goals
            clear z2 v1
            go_wp2
            go_ret
            exact ⟨rfl, B5.out⟩
      · clear MM v2
        rcases v1 with rfl | rfl | rfl | rfl
        case inl => exact absurd rfl z1
        all_goals
          clear z1
          go_wp2
          go_ret
          exact ⟨rfl, B5.out⟩
theorem more_law (HS : SomeSpec) (HA : ∀ V, Calls Try.prog 16 #[] V (Law.Yes V)) (key : UInt64) (A : Option Addr) (l : List It) (n ca : Nat) (k more : Int) (W : World) (hn : l.length = n) (hbig : n ≤ 8796093022208) (hca : n ≤ ca) (hx : WRds W A l) (hf : Fits l) :
    Calls Try.prog 5 #[.int .u64 key.toNat, .slice A n ca, .int .i64 k, .int .i64 more] W (Law.Yes W) := by
  by_cases h : EarlyMore n k more l
  · exact more_early HA key A l n ca k more W hn hbig hx h
  · have h' := h
    unfold EarlyMore at h'
    obtain ⟨j, rfl⟩ : ∃ j : Nat, k = j := ⟨k.toNat, by omega⟩
    have hj : j < l.length := by omega
    have he : ¬ ((l[j]).2 < 1 ∨ 100 < (l[j]).2) := fun hh => h' (.inr (.inr (.inr (.inr ⟨j, l[j], rfl, List.getElem?_eq_getElem hj, hh⟩))))
    exact more_in HS HA key A l n ca j more (l[j]).1 (l[j]).2 W hn hbig hca hx hf (List.getElem?_eq_getElem hj) (by omega) (by omega) (by omega) (by omega)
end Go.Proofs.Ytmljipopkgfblaa.Straw
