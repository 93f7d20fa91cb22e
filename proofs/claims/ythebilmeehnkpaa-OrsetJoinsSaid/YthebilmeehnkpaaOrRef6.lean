/-
  The document's own answers of package orset: QJoin at bags that are right.
-/
import Derived.Test.YthebilmeehnkpaaOrRef5
import Derived.Test.YthebilmeehnkpaaGApp
namespace Go.Proofs.Ythebilmeehnkpaa.Ors
set_option linter.unusedVariables false
set_option linter.unusedSimpArgs false
open Go.RowKit Mem Gt
open Jump (Gave equalZ_c)

def lenV : Value → Nat
  | .slice _ n _ => n
  | _ => 0
theorem joinS_step {a b : Bg} {k : Nat} {p q : Int} (hp : a.2[k]? = some p) (hq : b.2[k]? = some q) : (joinS a b).take (k + 1) = (joinS a b).take k ++ [max p q] := by
  rw [List.take_add_one]
  unfold joinS
  rw [List.getElem?_zipWith, hp, hq]
  rfl
theorem lit_tg (w : World) (x : Tg) (o : Obj) : Reads ((w.alloc o).alloc (.cells #[.int .i64 x.1, .int .i64 x.2.1, .int .i64 x.2.2] 37)) (some ⟨w.heap.size + 1, 0, none⟩) (flat tgE [x]) := by
  have := reads_lit (w.alloc o) 37 (cs := #[.int .i64 x.1, .int .i64 x.2.1, .int .i64 x.2.2]) (l := flat tgE [x]) rfl
  rwa [show (w.alloc o).heap.size = w.heap.size + 1 by simp] at this
theorem cases_ab {a b : Bg} {w : Int} {x y out : List Tg} (h : QI a b w x y out) (hne : ¬ (x = [] ∧ y = [])) : ∃ ab : Bool, (ab = true → ∃ t x', x = t :: x' ∧ ∀ s ∈ y, t.2.1 ≤ s.2.1) ∧ (ab = false → ∃ u y', y = u :: y' ∧ ∀ s ∈ x, u.2.1 < s.2.1) := by
  cases x with
  | nil =>
    cases y with
    | nil => exact absurd ⟨rfl, rfl⟩ hne
    | cons u y' => exact ⟨false, fun e => (by cases e), fun _ => ⟨u, y', rfl, fun s hs => by simp at hs⟩⟩
  | cons t x' =>
    cases y with
    | nil => exact ⟨true, fun _ => ⟨t, x', rfl, fun s hs => by simp at hs⟩, fun e => by cases e⟩
    | cons u y' =>
      by_cases hle : t.2.1 ≤ u.2.1
      · exact ⟨true, fun _ => ⟨t, x', rfl, head_le h hle⟩, fun e => by cases e⟩
      · exact ⟨false, fun e => (by cases e), fun _ => ⟨u, y', rfl, head_lt h (by omega)⟩⟩
/-- A tag and a bag are written over, in whatever order. -/
theorem at_end2 {W w1 : World} {g h : Nat} {a b c d e : Value} (hgh : g ≠ h) (hg : w1.heap.size ≤ g) (hh : w1.heap.size ≤ h) (kg : Known W g tT #[a, b, c]) (kh : Known W h tB #[d, e]) (hb : Below w1.heap.size w1 W) (p q r s t : Value) :
    (Known (((((W.setCell ⟨g, 0, none⟩ p).setCell ⟨g, 1, none⟩ q).setCell ⟨g, 2, none⟩ r).setCell ⟨h, 0, none⟩ s).setCell ⟨h, 1, none⟩ t) g tT #[p, q, r] ∧ Known (((((W.setCell ⟨g, 0, none⟩ p).setCell ⟨g, 1, none⟩ q).setCell ⟨g, 2, none⟩ r).setCell ⟨h, 0, none⟩ s).setCell ⟨h, 1, none⟩ t) h tB #[s, t] ∧ Below w1.heap.size w1 (((((W.setCell ⟨g, 0, none⟩ p).setCell ⟨g, 1, none⟩ q).setCell ⟨g, 2, none⟩ r).setCell ⟨h, 0, none⟩ s).setCell ⟨h, 1, none⟩ t)) ∧
    (Known (((((W.setCell ⟨h, 0, none⟩ s).setCell ⟨h, 1, none⟩ t).setCell ⟨g, 0, none⟩ p).setCell ⟨g, 1, none⟩ q).setCell ⟨g, 2, none⟩ r) g tT #[p, q, r] ∧ Known (((((W.setCell ⟨h, 0, none⟩ s).setCell ⟨h, 1, none⟩ t).setCell ⟨g, 0, none⟩ p).setCell ⟨g, 1, none⟩ q).setCell ⟨g, 2, none⟩ r) h tB #[s, t] ∧ Below w1.heap.size w1 (((((W.setCell ⟨h, 0, none⟩ s).setCell ⟨h, 1, none⟩ t).setCell ⟨g, 0, none⟩ p).setCell ⟨g, 1, none⟩ q).setCell ⟨g, 2, none⟩ r)) := by
  have o1 : ∀ j : Nat, h ≠ (⟨g, j, none⟩ : Addr).block := fun j => fun e => hgh e.symm
  have o2 : ∀ j : Nat, g ≠ (⟨h, j, none⟩ : Addr).block := fun j => hgh
  exact ⟨⟨((((kg.put 0 p).put 1 q).put 2 r).off (o2 0) s).off (o2 1) t, ((((kh.off (o1 0) p).off (o1 1) q).off (o1 2) r).put 0 s).put 1 t, ((((hb.setCell (p := ⟨g, 0, none⟩) hg p).setCell (p := ⟨g, 1, none⟩) hg q).setCell (p := ⟨g, 2, none⟩) hg r).setCell (p := ⟨h, 0, none⟩) hh s).setCell (p := ⟨h, 1, none⟩) hh t⟩,
    ⟨((((kg.off (o2 0) s).off (o2 1) t).put 0 p).put 1 q).put 2 r, ((((kh.put 0 s).put 1 t).off (o1 0) p).off (o1 1) q).off (o1 2) r, ((((hb.setCell (p := ⟨h, 0, none⟩) hh s).setCell (p := ⟨h, 1, none⟩) hh t).setCell (p := ⟨g, 0, none⟩) hg p).setCell (p := ⟨g, 1, none⟩) hg q).setCell (p := ⟨g, 2, none⟩) hg r⟩⟩
theorem at_end1 {W w1 : World} {g h : Nat} {a b c d e : Value} (hgh : g ≠ h) (hg : w1.heap.size ≤ g) (kg : Known W g tT #[a, b, c]) (kh : Known W h tB #[d, e]) (hb : Below w1.heap.size w1 W) (p q r : Value) :
    Known (((W.setCell ⟨g, 0, none⟩ p).setCell ⟨g, 1, none⟩ q).setCell ⟨g, 2, none⟩ r) g tT #[p, q, r] ∧ Known (((W.setCell ⟨g, 0, none⟩ p).setCell ⟨g, 1, none⟩ q).setCell ⟨g, 2, none⟩ r) h tB #[d, e] ∧ Below w1.heap.size w1 (((W.setCell ⟨g, 0, none⟩ p).setCell ⟨g, 1, none⟩ q).setCell ⟨g, 2, none⟩ r) := by
  have o1 : ∀ j : Nat, h ≠ (⟨g, j, none⟩ : Addr).block := fun j => fun e => hgh e.symm
  exact ⟨((kg.put 0 p).put 1 q).put 2 r, ((kh.off (o1 0) p).off (o1 1) q).off (o1 2) r, ((hb.setCell (p := ⟨g, 0, none⟩) hg p).setCell (p := ⟨g, 1, none⟩) hg q).setCell (p := ⟨g, 2, none⟩) hg r⟩
theorem at_endh {W w1 : World} {g h : Nat} {a b c d e : Value} (hgh : g ≠ h) (hh : w1.heap.size ≤ h) (kg : Known W g tT #[a, b, c]) (kh : Known W h tB #[d, e]) (hb : Below w1.heap.size w1 W) (s t : Value) :
    Known ((W.setCell ⟨h, 0, none⟩ s).setCell ⟨h, 1, none⟩ t) g tT #[a, b, c] ∧ Below w1.heap.size w1 ((W.setCell ⟨h, 0, none⟩ s).setCell ⟨h, 1, none⟩ t) := by
  have o2 : ∀ j : Nat, g ≠ (⟨h, j, none⟩ : Addr).block := fun j => hgh
  exact ⟨(kg.off (o2 0) s).off (o2 1) t, (hb.setCell (p := ⟨h, 0, none⟩) hh s).setCell (p := ⟨h, 1, none⟩) hh t⟩
theorem drew3 {B g h : Nat} {W X : World} {s t : TypeId} {cs ds : Array Value} (k : Known X g s cs ∧ Known X h t ds ∧ Below B W X) : Known X.drew g s cs ∧ Known X.drew h t ds ∧ Below B W X.drew := ⟨k.1, k.2.1, Mem.below_drew k.2.2⟩
theorem drew2' {B g : Nat} {W X : World} {s : TypeId} {cs : Array Value} (k : Known X g s cs ∧ Below B W X) : Known X.drew g s cs ∧ Below B W X.drew := ⟨k.1, Mem.below_drew k.2⟩
theorem both_drew {B g h : Nat} {W X Y : World} {s t : TypeId} {cs ds : Array Value} (k : (Known X g s cs ∧ Known X h t ds ∧ Below B W X) ∧ (Known Y g s cs ∧ Known Y h t ds ∧ Below B W Y)) : (Known X.drew g s cs ∧ Known X.drew h t ds ∧ Below B W X.drew) ∧ (Known Y.drew g s cs ∧ Known Y.drew h t ds ∧ Below B W Y.drew) := ⟨drew3 k.1, drew3 k.2⟩
theorem fit_join {a b : Bg} (ha : FitH a.1) (hb : FitH b.1) : FitH (joinH a b) := fun t ht => (keep_in ((joinH_mem t).1 ht)).elim (ha t) (hb t)
set_option maxRecDepth 100000 in
set_option maxHeartbeats 64000000 in
theorem qjoin_ok (H S H2 S2 : Option Addr) (nh ch ns cs nh2 ch2 cs2 : Nat) (a b : Bg) (V : World) (ha : HB V H S nh ch ns cs a) (hb : HB V H2 S2 nh2 ch2 ns cs2 b) (oa : OkB a) (ob : OkB b) (p : Bg) (mh ms : Nat) (e : Int) (hp : joinB a b = p) (he : joinE a b = e) (hmh : p.1.length = mh) (hms : p.2.length = ms) :
    Calls Try.prog 21 #[.agg #[.slice H nh ch, .slice S ns cs], .agg #[.slice H2 nh2 ch2, .slice S2 ns cs2]] V (BOut p mh ms e V) := by
  have GA0 := ((HG.new ha rfl).alloc (.cells #[.slice H2 nh2 ch2, .slice S2 ns cs2] 25)).alloc (.cells #[.slice none 0 0, .slice none 0 0] 25)
  have GB0 := (HG.new (g := V.heap.size + 1) (hb.below (low_lit V (.cells #[.slice H nh ch, .slice S ns cs] 25))) (by simp)).alloc (.cells #[.slice none 0 0, .slice none 0 0] 25)
  have KR0 := Known.made ((V.alloc (.cells #[.slice H nh ch, .slice S ns cs] 25)).alloc (.cells #[.slice H2 nh2 ch2, .slice S2 ns cs2] 25)) tB #[.slice none 0 0, .slice none 0 0]
  rw [show ((V.alloc (.cells #[.slice H nh ch, .slice S ns cs] 25)).alloc (.cells #[.slice H2 nh2 ch2, .slice S2 ns cs2] 25)).heap.size = V.heap.size + 2 by simp] at KR0
  have B0 := (((low_lit V (.cells #[.slice H nh ch, .slice S ns cs] 25))).alloc (by simp) (.cells #[.slice H2 nh2 ch2, .slice S2 ns cs2] 25)).alloc (by simp; omega) (.cells #[.slice none 0 0, .slice none 0 0] 25)
  obtain ⟨W3, hW3⟩ : ∃ W3, W3 = ((V.alloc (.cells #[.slice H nh ch, .slice S ns cs] 25)).alloc (.cells #[.slice H2 nh2 ch2, .slice S2 ns cs2] 25)).alloc (.cells #[.slice none 0 0, .slice none 0 0] 25) := ⟨_, rfl⟩
  have GA := Lib.hid (show HG W3 V.heap.size H S nh ch ns cs a by rw [hW3]; exact GA0)
  have GB := Lib.hid (show HG W3 (V.heap.size + 1) H2 S2 nh2 ch2 ns cs2 b by rw [hW3]; exact GB0)
  have KR := Lib.hid (show Known W3 (V.heap.size + 2) tB #[.slice none 0 0, .slice none 0 0] by rw [hW3]; exact KR0)
  have BV := Lib.hid (show Below V.heap.size V W3 by rw [hW3]; exact B0)
  have LAH := Lib.hid ha.lenH
  have LAS := Lib.hid ha.lenS
  have LBH := Lib.hid hb.lenH
  have LBS := Lib.hid hb.lenS
  have FIA := Lib.hid ha.fit
  have FIB := Lib.hid hb.fit
  have OA := Lib.hid oa
  have OB := Lib.hid ob
  have n16 : ns ≤ 16 := by rw [← ha.lenS]; exact oa.wide
  have nh4 : nh ≤ 400 := by rw [← ha.lenH]; exact oa.many
  have nh24 : nh2 ≤ 400 := by rw [← hb.lenH]; exact ob.many
  have lens : a.2.length = b.2.length := by rw [ha.lenS, hb.lenS]
  have LEN := Lib.hid lens
  -- the ends
  have BAD := Lib.hid (show ¬ Apart a b → e = 7 ∧ p = ([], []) from fun hn => by
    have hc : conflict a b = true := by
      cases h : conflict a b with
      | true => rfl
      | false => exact absurd (conflict_iff.1 h) hn
    have e7 : joinE a b = 7 := by unfold joinE; rw [if_pos ⟨okB_iff.2 oa, okB_iff.2 ob, lens⟩, if_pos hc]
    exact ⟨by rw [← he, e7], by rw [← hp]; unfold joinB; rw [if_neg (by rw [e7]; decide)]⟩)
  have MANY := Lib.hid (show Apart a b → 400 < (joinH a b).length → e = 4 ∧ p = ([], []) from fun hn hl => by
    have e4 : joinE a b = 4 := by unfold joinE; rw [if_pos ⟨okB_iff.2 oa, okB_iff.2 ob, lens⟩, if_neg (by rw [conflict_iff.2 hn]; decide), if_pos hl]
    exact ⟨by rw [← he, e4], by rw [← hp]; unfold joinB; rw [if_neg (by rw [e4]; decide)]⟩)
  have GOOD := Lib.hid (show Apart a b → (joinH a b).length ≤ 400 → e = 0 ∧ p = (joinH a b, joinS a b) from fun hn hl => by
    have e0 : joinE a b = 0 := joinE_zero.2 ⟨oa, ob, lens, hn, hl⟩
    exact ⟨by rw [← he, e0], by rw [← hp]; exact joinB_of e0⟩)
  have FIN := Lib.hid (fun (w : World) (hbw : Below V.heap.size V w) (hpp : p = ([], [])) => show BOut p mh ms e V (.returned (.tuple #[.agg #[.slice none 0 0, .slice none 0 0], .int .i64 e])) ((w.setCell ⟨V.heap.size + 2, 0, none⟩ (.slice none 0 0)).setCell ⟨V.heap.size + 2, 1, none⟩ (.slice none 0 0)) from by
    subst hpp
    obtain rfl : 0 = mh := hmh
    obtain rfl : 0 = ms := hms
    exact ⟨none, none, 0, 0, rfl, hb_none _, ((hbw.setCell (p := ⟨V.heap.size + 2, 0, none⟩) (by show _ ≤ V.heap.size + 2; omega) _).setCell (p := ⟨V.heap.size + 2, 1, none⟩) (by show _ ≤ V.heap.size + 2; omega) _)⟩)
  have HMH := Lib.hid hmh
  have HMS := Lib.hid hms
  have Q1 := Lib.hid (show Calls Try.prog 15 #[.agg #[.slice H nh ch, .slice S ns cs]] W3 (Gave (.bool true) W3) from by have := qright_c H S nh ch ns cs a W3 GA.out.2.2; rwa [okB_iff.2 oa] at this)
  obtain ⟨z0, z1, -⟩ := GA0
  obtain ⟨y0, y1, -⟩ := GB0
  clear ha hb KR0 B0 oa ob hp he hmh hms lens
  go_enter Try.func21, Try.ntmps21
  go_wp2_with fail
  rw [← hW3]
  clear z0 z1 y0 y1
  refine Q1.out.mono ?_
  rintro x w4 ⟨rfl, hb⟩
  have B4 := Lib.hid (BV.out.trans (hb.mono BV.out.size))
  have GA4 := Lib.hid (GA.out.below hb)
  have GB4 := Lib.hid (GB.out.below hb)
  have K4 := Lib.hid (KR.out.later hb)
  obtain ⟨y0, y1, -⟩ := GB.out.below hb
  have Q2 := Lib.hid (show Calls Try.prog 15 #[.agg #[.slice H2 nh2 ch2, .slice S2 ns cs2]] w4 (Gave (.bool true) w4) from by have := qright_c H2 S2 nh2 ch2 ns cs2 b w4 GB4.out.2.2; rwa [okB_iff.2 OB.out] at this)
  clear hb hW3 Q1 GA GB KR BV
  go_wp2_with fail
  clear y0 y1
  refine Q2.out.mono ?_
  rintro x w5 ⟨rfl, hb⟩
  have B5 := Lib.hid (B4.out.trans (hb.mono B4.out.size))
  have GA5 := Lib.hid (GA4.out.below hb)
  have GB5 := Lib.hid (GB4.out.below hb)
  have K5 := Lib.hid (K4.out.later hb)
  obtain ⟨z0, z1, -⟩ := GA4.out.below hb
  obtain ⟨y0, y1, -⟩ := GB4.out.below hb
  have n1 : ((ns : Int) != (ns : Int)) = false := by simp
  have ZA := (show HG w5 V.heap.size H S nh ch ns cs a from GA5.out).alloc (.cells #[.slice none 0 0, .slice none 0 0] 25)
  obtain ⟨za, zb, -⟩ := ZA
  clear hb Q2 GA4 GB4 K4 B4
  go_wp2_with fail
  clear z0 z1 y0 y1 za zb
  go_loopw [42] (fun i wr => ∃ (w no co cm : Nat) (OH OS : Option Addr) (out : List Tg), w ≤ ns ∧ i = .int .i64 w ∧ QM w5 wr OH OS no co w cm out ((joinS a b).take w) ∧ QO a b w out) (fun i _ => ns - (Go.RowKit.intOf i).toNat)
  case atStart => exact ⟨0, 0, 0, 0, none, none, [], by omega, rfl, QM.start w5, QO.start OA.out OB.out⟩
  case round =>
    obtain ⟨w, no, co, cm, OH, OS, out, hw, rfl, hM, hO⟩ := hrel
    obtain ⟨wo, rfl⟩ : ∃ wo : World, wo = wr := ⟨_, rfl⟩
    have MM := Lib.hid hM
    have OO := Lib.hid hO
    have hBel := hM.bel
    obtain ⟨z0, z1, hba⟩ := GA5.out.below hBel
    obtain ⟨y0, y1, hbb⟩ := GB5.out.below hBel
    have c0 := hM.box.cell 0
    have c1 := hM.box.cell 1
    have f0 := hM.box.free 0
    have f1 := hM.box.free 1
    simp at c0 c1
    have HBA := Lib.hid hba
    have HBB := Lib.hid hbb
    clear hM hO hBel
    by_cases hlt : w < ns
    · obtain ⟨p1, hp1⟩ : ∃ x, a.2[w]? = some x := ⟨_, List.getElem?_eq_getElem (by rw [LAS.out]; exact hlt)⟩
      obtain ⟨q1, hq1⟩ : ∃ x, b.2[w]? = some x := ⟨_, List.getElem?_eq_getElem (by rw [LBS.out]; exact hlt)⟩
      obtain ⟨b1, o1, hS1, _, x1⟩ := int_at hba.saw hp1
      obtain ⟨b2, o2, hS2, _, x2⟩ := int_at hbb.saw hq1
      have PA := Lib.hid hp1
      have PB := Lib.hid hq1
      have SS := Lib.hid (joinS_step hp1 hq1)
      obtain ⟨m1, hm1⟩ : ∃ m, max p1 q1 = m := ⟨_, rfl⟩
      rw [hm1] at SS
      have i1 : (w : Int) < (ns : Int) := by omega
      have LT := Lib.hid MM.out.lt
      clear hp1 hq1 hba hbb
      go_upto_region 8 with fail
      go_cut [8] from 45 to 60 (fun v wx => v = .int .i64 w ∧ ∃ (OS' : Option Addr) (cm' : Nat), QM w5 wx OH OS' no co (w + 1) cm' out ((joinS a b).take (w + 1)))
      case first => as_aux_lemma =>
        subst hS1 hS2
        have D1 := Lib.hid (show Below wo.heap.size wo wo.drew from Mem.below_drew (Below.refl _ _))
        have MD := Lib.hid (MM.out.later D1.out)
        have c1d := (MD.out.box.alloc (.cells #[.int .i64 m1] 3)).cell 1
        have c1e : ((wo.alloc (.cells #[.int .i64 m1] 3)).drew).cell? ⟨w5.heap.size, 1, none⟩ = some (.slice OS w cm) := c1d
        simp at c1d
        go_region_law (first
          | (refine step_append_1 (E := intE) elInt (by decide) (by rfl) _ _ (by rfl) (B := w5.heap.size + 1) (n := w) (b := wo.heap.size) (v := .slice OS w cm) (es := (joinS a b).take w) (y := m1) rfl rfl (MD.out.zab.alloc _) MD.out.lenS (cs := #[.int .i64 m1]) rfl (Known.made _ _ _) (by unfold maxLen; omega) (by omega) (by have := LT.out; simp; omega) ?_; intro g c w8 T8 G8 L8; have KB := known_grown (MD.out.box.alloc (.cells #[.int .i64 m1] 3)) G8.out (fun e => by have := (MD.out.zab.lt _ e.symm).1; omega); have c8 := KB.cell 1; have f8 := KB.free 1; simp at c8; clear KB))
        all_goals
          go_wp2
          go_meet
          refine ⟨rfl, some ⟨g, 0, none⟩, c, ?_⟩
          have hN := (MD.out.later (low_lit _ (.cells #[.int .i64 m1] 3))).putS G8.out T8.out (by rw [List.length_append, MD.out.lenS]; rfl) L8.out
          rw [SS.out]
          exact hN
      case rest =>
        obtain ⟨rfl, OS2, cm2, hM⟩ := hcut
        obtain ⟨wx, rfl⟩ : ∃ wx : World, wx = wc := ⟨_, rfl⟩
        have M2 := Lib.hid hM
        clear z0 z1 y0 y1 c0 c1 f0 f1 x1 x2 hS1 hS2 MM LT SS
        obtain ⟨z0, z1, -⟩ := GA5.out.below hM.bel
        have BX := Lib.hid hM.bel
        clear hM
        go_wp2_with fail
        clear z0 z1
        go_loopw [9, 64] (fun v i wr => ∃ (k nx cx : Nat) (X : Option Addr), k ≤ nh ∧ i = .int .i64 k ∧ v = .slice X nx cx ∧ (ofW (w : Int) (a.1.take k)).length = nx ∧ Tab tgE wr wx.heap.size tT (.slice X nx cx) (ofW (w : Int) (a.1.take k)) ∧ Below wx.heap.size wx wr) (fun _ i _ => nh - (Go.RowKit.intOf i).toNat)
        case atStart => exact ⟨0, 0, 0, none, by omega, rfl, rfl, by simp [ofW], by simpa [ofW] using Tab.nil _ _ _, Below.refl _ _⟩
        case round =>
          obtain ⟨k, nx, cx, X, hk, rfl, rfl, hnx, hT, hB⟩ := hrel
          have HNX := Lib.hid hnx
          have TT := Lib.hid hT
          have BB := Lib.hid hB
          have GAr := GA5.out.below (BX.out.trans (hB.mono BX.out.size))
          obtain ⟨_, _, hba⟩ := GAr
          clear hnx hT
          by_cases hlt : k < nh
          · obtain ⟨⟨t0, t1, t2⟩, ht⟩ : ∃ x, a.1[k]? = some x := ⟨_, List.getElem?_eq_getElem (by rw [LAH.out]; exact hlt)⟩
            obtain ⟨b1, o1, hH1, _, x0, x1, x2⟩ := tg_at hba.has ht
            have ST := Lib.hid (ofW_step (w := (w : Int)) ht)
            have LK := Lib.hid (show nx ≤ 400 by
              have h1 := HNX.out
              have h2 : (ofW (w : Int) (a.1.take k)).length ≤ (a.1.take k).length := List.length_filter_le _ _
              rw [List.length_take] at h2
              omega)
            obtain ⟨d0, d1, d2⟩ := box_tg (w := wr) (t0, t1, t2)
            have TA := Lib.hid (TT.out.alloc (.cells #[.int .i64 t0, .int .i64 t1, .int .i64 t2] 37))
            have BA := Lib.hid (hB.trans ((low_lit wr (.cells #[.int .i64 t0, .int .i64 t1, .int .i64 t2] 37)).mono hB.size))
            have SZ := Lib.hid BA.out.size
            have i2 : (k : Int) < (nh : Int) := by omega
            simp only at x0 x1 x2 d0 d1 d2 ST
            subst hH1
            clear ht hba hB
            by_cases e0 : t0 = (w : Int)
            · subst e0
              have e1 : ((w : Int) == (w : Int)) = true := by simp
              have E := ST.out
              rw [if_pos rfl] at E
              have HE := Lib.hid E
              have lk := LK.out
              have TA2 := Lib.hid (TA.out.alloc (.cells #[.int .i64 (w : Int), .int .i64 t1, .int .i64 t2] 37))
              have SZ2 := Lib.hid (Nat.le_trans SZ.out (show (wr.alloc (.cells #[.int .i64 (w : Int), .int .i64 t1, .int .i64 t2] 37)).heap.size ≤ ((wr.alloc (.cells #[.int .i64 (w : Int), .int .i64 t1, .int .i64 t2] 37)).alloc (.cells #[.int .i64 (w : Int), .int .i64 t1, .int .i64 t2] 37)).heap.size by simp))
              have RL := Lib.hid (lit_tg wr ((w : Int), t1, t2) (.cells #[.int .i64 (w : Int), .int .i64 t1, .int .i64 t2] 37))
              clear E
              go_wp2_with (refine wpList_append_gm (E := tgE) elTg (by decide) rfl _ _ (by rfl) (n := nx) (m := 1) (c := 1) (b := wr.heap.size + 1) (o' := 0) (es := ofW (w : Int) (a.1.take k)) (ys := [((w : Int), t1, t2)]) (AD := some ⟨wr.heap.size + 1, 0, none⟩) rfl rfl rfl TA2.out HNX.out RL.out rfl (by unfold maxLen; omega) (by omega) SZ2.out ?_; intro A6 c6 w6 T6 G6)
              go_roundw
              case rel =>
                refine ⟨k + 1, nx + 1, c6, A6, by omega, by go_num, rfl, by rw [HE.out, List.length_append, HNX.out]; rfl, by rw [HE.out]; exact T6.out, ?_⟩
                exact TA2.out.below G6.out (BA.out.alloc SZ.out _) (Nat.le_refl _) SZ2.out
              case measure => simp [Go.RowKit.intOf]; omega
            · have e1 : (t0 == (w : Int)) = false := by simpa using e0
              have E := ST.out
              rw [if_neg e0] at E
              have HE := Lib.hid E
              clear E
              go_wp2
              go_roundw
              case rel => exact ⟨k + 1, nx, cx, X, by omega, by go_num, rfl, by rw [HE.out]; exact HNX.out, by rw [HE.out]; exact TA.out, BA.out⟩
              case measure => simp [Go.RowKit.intOf]; omega
          · obtain rfl : nh = k := by omega
            have EA : ofW (w : Int) (a.1.take nh) = ofW (w : Int) a.1 := by rw [List.take_of_length_le (Nat.le_of_eq LAH.out)]
            obtain ⟨wy, rfl⟩ : ∃ wy : World, wy = wr := ⟨_, rfl⟩
            have TX := Lib.hid (show Tab tgE wy wx.heap.size tT (.slice X nx cx) (ofW (w : Int) a.1) by have := TT.out; rwa [EA] at this)
            have HNX2 := Lib.hid (show (ofW (w : Int) a.1).length = nx by rw [← EA]; exact HNX.out)
            have BY := Lib.hid (BX.out.trans (hB.mono BX.out.size))
            have MY := Lib.hid (M2.out.later hB)
            obtain ⟨y0, y1, -⟩ := GB5.out.below BY.out
            clear hba hB EA TT HNX
            go_wp2_with fail
            clear y0 y1
            go_loopw [10, 80] (fun v i wr => ∃ (j ny cy : Nat) (Y : Option Addr), j ≤ nh2 ∧ i = .int .i64 j ∧ v = .slice Y ny cy ∧ (ofW (w : Int) (b.1.take j)).length = ny ∧ Tab tgE wr wy.heap.size tT (.slice Y ny cy) (ofW (w : Int) (b.1.take j)) ∧ Below wy.heap.size wy wr) (fun _ i _ => nh2 - (Go.RowKit.intOf i).toNat)
            case atStart => exact ⟨0, 0, 0, none, by omega, rfl, rfl, by simp [ofW], by simpa [ofW] using Tab.nil _ _ _, Below.refl _ _⟩
            case round =>
              obtain ⟨j, ny, cy, Y, hj, rfl, rfl, hny, hT, hB⟩ := hrel
              have HNY := Lib.hid hny
              have TT := Lib.hid hT
              have BB2 := Lib.hid hB
              have GBr := GB5.out.below (BY.out.trans (hB.mono BY.out.size))
              obtain ⟨_, _, hbb⟩ := GBr
              clear hny hT
              by_cases hlt2 : j < nh2
              · obtain ⟨⟨t0, t1, t2⟩, ht⟩ : ∃ x, b.1[j]? = some x := ⟨_, List.getElem?_eq_getElem (by rw [LBH.out]; exact hlt2)⟩
                obtain ⟨b1, o1, hH1, _, x0, x1, x2⟩ := tg_at hbb.has ht
                have ST := Lib.hid (ofW_step (w := (w : Int)) ht)
                have LK := Lib.hid (show ny ≤ 400 by
                  have h1 := HNY.out
                  have h2 : (ofW (w : Int) (b.1.take j)).length ≤ (b.1.take j).length := List.length_filter_le _ _
                  rw [List.length_take] at h2
                  omega)
                obtain ⟨d0, d1, d2⟩ := box_tg (w := wr) (t0, t1, t2)
                have TA := Lib.hid (TT.out.alloc (.cells #[.int .i64 t0, .int .i64 t1, .int .i64 t2] 37))
                have BA := Lib.hid (hB.trans ((low_lit wr (.cells #[.int .i64 t0, .int .i64 t1, .int .i64 t2] 37)).mono hB.size))
                have SZ := Lib.hid BA.out.size
                have i2 : (j : Int) < (nh2 : Int) := by omega
                simp only at x0 x1 x2 d0 d1 d2 ST
                subst hH1
                clear ht hbb hB
                by_cases e0 : t0 = (w : Int)
                · subst e0
                  have e1 : ((w : Int) == (w : Int)) = true := by simp
                  have E := ST.out
                  rw [if_pos rfl] at E
                  have HE := Lib.hid E
                  have lk := LK.out
                  have TA2 := Lib.hid (TA.out.alloc (.cells #[.int .i64 (w : Int), .int .i64 t1, .int .i64 t2] 37))
                  have SZ2 := Lib.hid (Nat.le_trans SZ.out (show (wr.alloc (.cells #[.int .i64 (w : Int), .int .i64 t1, .int .i64 t2] 37)).heap.size ≤ ((wr.alloc (.cells #[.int .i64 (w : Int), .int .i64 t1, .int .i64 t2] 37)).alloc (.cells #[.int .i64 (w : Int), .int .i64 t1, .int .i64 t2] 37)).heap.size by simp))
                  have RL := Lib.hid (lit_tg wr ((w : Int), t1, t2) (.cells #[.int .i64 (w : Int), .int .i64 t1, .int .i64 t2] 37))
                  clear E
                  go_wp2_with (refine wpList_append_gm (E := tgE) elTg (by decide) rfl _ _ (by rfl) (n := ny) (m := 1) (c := 1) (b := wr.heap.size + 1) (o' := 0) (es := ofW (w : Int) (b.1.take j)) (ys := [((w : Int), t1, t2)]) (AD := some ⟨wr.heap.size + 1, 0, none⟩) rfl rfl rfl TA2.out HNY.out RL.out rfl (by unfold maxLen; omega) (by omega) SZ2.out ?_; intro A6 c6 w6 T6 G6)
                  go_roundw
                  case rel =>
                    refine ⟨j + 1, ny + 1, c6, A6, by omega, by go_num, rfl, by rw [HE.out, List.length_append, HNY.out]; rfl, by rw [HE.out]; exact T6.out, ?_⟩
                    exact TA2.out.below G6.out (BA.out.alloc SZ.out _) (Nat.le_refl _) SZ2.out
                  case measure => simp [Go.RowKit.intOf]; omega
                · have e1 : (t0 == (w : Int)) = false := by simpa using e0
                  have E := ST.out
                  rw [if_neg e0] at E
                  have HE := Lib.hid E
                  clear E
                  go_wp2
                  go_roundw
                  case rel => exact ⟨j + 1, ny, cy, Y, by omega, by go_num, rfl, by rw [HE.out]; exact HNY.out, by rw [HE.out]; exact TA.out, BA.out⟩
                  case measure => simp [Go.RowKit.intOf]; omega
              · obtain rfl : nh2 = j := by omega
                have EB : ofW (w : Int) (b.1.take nh2) = ofW (w : Int) b.1 := by rw [List.take_of_length_le (Nat.le_of_eq LBH.out)]
                obtain ⟨wz, rfl⟩ : ∃ wz : World, wz = wr := ⟨_, rfl⟩
                have TY := (show Tab tgE wz wy.heap.size tT (.slice Y ny cy) (ofW (w : Int) b.1) by have := TT.out; rwa [EB] at this)
                have TX2 := TX.out.later hB
                have fX : ∀ q, (Value.slice X nx cx).ownBlock = some q → wx.heap.size ≤ q ∧ q < wz.heap.size := fun q hq => TX2.lt q hq
                have fY : ∀ q, (Value.slice Y ny cy).ownBlock = some q → wy.heap.size ≤ q ∧ q < wz.heap.size := fun q hq => TY.lt q hq
                have ltx := M2.out.lt
                have far : ∀ q, wx.heap.size ≤ q → (Value.slice OH no co).ownBlock ≠ some q := fun q hq e => by have := (M2.out.tab.lt q e).2; omega
                have QXx := Lib.hid (show QX w5 wz (.slice OH no co) X nx cx (ofW (w : Int) a.1) from ⟨HNX2.out, by
                  obtain ⟨A', c', e, h1, _⟩ := TX2.form
                  injection e with _ e2 e3
                  subst e3
                  rw [← e2] at h1; exact h1, TX2.reads, fun q hq => by
                  have := fX q.block (by subst hq; rfl)
                  exact ⟨by omega, this.2, far _ this.1⟩⟩)
                have QXy := Lib.hid (show QX w5 wz (.slice OH no co) Y ny cy (ofW (w : Int) b.1) from ⟨by rw [← EB]; exact HNY.out, by
                  obtain ⟨A', c', e, h1, _⟩ := TY.form
                  injection e with _ e2 e3
                  subst e3
                  rw [← e2] at h1; exact h1, TY.reads, fun q hq => by
                  have := fY q.block (by subst hq; rfl)
                  have h2 := BB.out.size
                  exact ⟨by omega, this.2, far _ (by omega)⟩⟩)
                have MZ := Lib.hid (MY.out.later hB)
                have QZ := Lib.hid (OO.out.into OA.out OB.out)
                clear hbb hB EB TY TX2 fX fY ltx far TX MY BB BB2 TT HNX2 HNY M2 OO BX BY PA PB
                go_wp2_with fail
                go_loopw [9, 10] (fun v u wr => ∃ (nx cx ny cy no co cm : Nat) (X Y OH OS : Option Addr) (x y out : List Tg), v = .slice X nx cx ∧ u = .slice Y ny cy ∧ QX w5 wr (.slice OH no co) X nx cx x ∧ QX w5 wr (.slice OH no co) Y ny cy y ∧ QM w5 wr OH OS no co (w + 1) cm out ((joinS a b).take (w + 1)) ∧ QI a b w x y out) (fun v u _ => lenV v + lenV u)
                case atStart => exact ⟨nx, cx, ny, cy, no, co, cm2, X, Y, OH, OS2, _, _, out, rfl, rfl, QXx.out, QXy.out, MZ.out, QZ.out⟩
                case round =>
                  clear QXx QXy MZ QZ
                  obtain ⟨nx, cx, ny, cy, no, co, cm, X, Y, OH, OS, x, y, out, rfl, rfl, hX, hY, hM, hQ⟩ := hrel
                  obtain ⟨wo, rfl⟩ : ∃ wo : World, wo = wr := ⟨_, rfl⟩
                  have XX := Lib.hid hX
                  have YY := Lib.hid hY
                  have MM := Lib.hid hM
                  have QQ := Lib.hid hQ
                  have lx4 : nx ≤ 400 := by
                    have h1 := rise_len (k := a.1) hQ.xr (fun t ht => (hQ.xm t ht).1)
                    have h2 := hX.len
                    have h3 := LAH.out
                    omega
                  have ly4 : ny ≤ 400 := by
                    have h1 := rise_len (k := b.1) hQ.yr (fun t ht => (hQ.ym t ht).1)
                    have h2 := hY.len
                    have h3 := LBH.out
                    omega
                  have lo8 : no ≤ 800 := by
                    have h1 := hQ.len
                    have h2 := hM.lenO
                    have h3 := LAH.out
                    have h4 := LBH.out
                    omega
                  have wr0 : IntKind.i64.wrap ((nx : Int) + (ny : Int)) = (nx : Int) + (ny : Int) := IntWalk.i64_in _ (by omega)
                  clear hX hY hM hQ
                  by_cases hz : nx = 0 ∧ ny = 0
                  · obtain ⟨rfl, rfl⟩ := hz
                    have hx0 : x = [] := List.eq_nil_of_length_eq_zero XX.out.len
                    have hy0 : y = [] := List.eq_nil_of_length_eq_zero YY.out.len
                    have QO2 := Lib.hid (show QO a b ((w + 1 : Nat) : Int) out from by
                      have := QQ.out
                      rw [hx0, hy0] at this
                      have h2 := this.out
                      rwa [show ((w : Int) + 1) = ((w + 1 : Nat) : Int) by omega] at h2)
                    clear hx0 hy0 wr0
                    go_wp2
                    go_roundw
                    case rel => exact ⟨w + 1, no, co, cm, OH, OS, out, by omega, by go_num, MM.out, QO2.out⟩
                    case measure => simp [Go.RowKit.intOf]; omega
                  · have gt0 : (0 : Int) < (nx : Int) + (ny : Int) := by omega
                    obtain ⟨ab, hab⟩ : ∃ ab : Bool, (ab = true → ∃ t x', x = t :: x' ∧ ∀ s ∈ y, t.2.1 ≤ s.2.1) ∧ (ab = false → ∃ u y', y = u :: y' ∧ ∀ s ∈ x, u.2.1 < s.2.1) := cases_ab QQ.out (fun e => hz ⟨by rw [← XX.out.len, e.1]; rfl, by rw [← YY.out.len, e.2]; rfl⟩)
                    cases ab with
                    | true =>
                      obtain ⟨⟨t0, t1, t2⟩, x', rfl, hle⟩ := hab.1 rfl
                      have LE := Lib.hid hle
                      clear hab hz hle
                      have nx0 : 0 < nx := by have := XX.out.len; rw [List.length_cons] at this; omega
                      obtain ⟨xb, xo, hX1, hxb, hx0, hx1, hx2⟩ := XX.out.head
                      subst hX1
                      simp only at hx0 hx1 hx2
                      go_upto_region 23 with fail
                      go_cut [15] from 99 to 117 (fun v wx => v = .bool true ∧ ∃ q, wx = wo.drewN q)
                      case first => as_aux_lemma =>
                        cases y with
                        | nil =>
                          obtain rfl : 0 = ny := YY.out.len
                          go_quiet (fail)
                          go_wp2_with fail
                          go_meet
                          exact ⟨rfl, _, rfl⟩
                        | cons u y' =>
                          have ny0 : 0 < ny := by have := YY.out.len; rw [List.length_cons] at this; omega
                          obtain ⟨yb, yo, hY1, hyb, hy0, hy1, hy2⟩ := YY.out.head
                          subst hY1
                          have n1 : ((ny : Int) == 0) = false := by simp; omega
                          have n2 : (0 : Int) < (nx : Int) := by omega
                          have n3 : decide ((0 : Int) < (nx : Int)) = true := decide_eq_true n2
                          have n4 : (0 : Int) < (ny : Int) := by omega
                          have n5 : t1 ≤ u.2.1 := LE.out u (by simp)
                          have n6 : decide (t1 ≤ u.2.1) = true := decide_eq_true n5
                          have n7 : decide (0 < nx) = true := decide_eq_true nx0
                          go_quiet (fail)
                          go_wp2_with fail
                          go_meet
                          exact ⟨rfl, _, rfl⟩
                      case rest =>
                        obtain ⟨rfl, q1, hw1⟩ := hcut
                        obtain ⟨w1, rfl⟩ : ∃ w1 : World, w1 = wc := ⟨_, rfl⟩
                        have D1 := Lib.hid (show Below wo.heap.size wo w1 by rw [hw1]; exact Mem.below_drewN (Below.refl _ _) _)
                        have M1 := Lib.hid (MM.out.later D1.out)
                        have X1 := Lib.hid (XX.out.later D1.out)
                        have Y1 := Lib.hid (YY.out.later D1.out)
                        have GA1 := Lib.hid (GA5.out.below M1.out.bel)
                        obtain ⟨z0, z1, -⟩ := GA1.out
                        clear hw1 hx0 hx1 hx2 hxb MM
                        go_upto_region 24 with fail
                        go_cut [16, 17] from 118 to 119 (fun v u wx => ∃ g h : Nat, v = .pointer (some ⟨g, 0, none⟩) ∧ u = .pointer (some ⟨h, 0, none⟩) ∧ Known wx g tT #[.int .i64 0, .int .i64 0, .int .i64 0] ∧ Known wx h tB #[.slice H nh ch, .slice S ns cs] ∧ g ≠ h ∧ w1.heap.size ≤ g ∧ w1.heap.size ≤ h ∧ Below w1.heap.size w1 wx)
                        case first => as_aux_lemma =>
                          have P1 := Lib.hid ((Known.made w1 tT #[.int .i64 0, .int .i64 0, .int .i64 0]).alloc (.cells #[.slice H nh ch, .slice S ns cs] tB))
                          have P2 := Known.made (w1.alloc (.cells #[.int .i64 0, .int .i64 0, .int .i64 0] tT)) tB #[.slice H nh ch, .slice S ns cs]
                          have P3 := Lib.hid ((Known.made w1 tB #[.slice H nh ch, .slice S ns cs]).alloc (.cells #[.int .i64 0, .int .i64 0, .int .i64 0] tT))
                          have P4 := Known.made (w1.alloc (.cells #[.slice H nh ch, .slice S ns cs] tB)) tT #[.int .i64 0, .int .i64 0, .int .i64 0]
                          rw [show (w1.alloc (.cells #[.int .i64 0, .int .i64 0, .int .i64 0] tT)).heap.size = w1.heap.size + 1 by simp] at P2
                          rw [show (w1.alloc (.cells #[.slice H nh ch, .slice S ns cs] tB)).heap.size = w1.heap.size + 1 by simp] at P4
                          have HP2 := Lib.hid P2
                          have HP4 := Lib.hid P4
                          have al := fun (o : Obj) => Mem.below_drew (low_lit w1 o)
                          have al2 := fun (o o' : Obj) => Mem.below_drew ((low_lit w1 o).alloc (by simp) o')
                          have KA := Lib.hid (al (.cells #[.int .i64 0, .int .i64 0, .int .i64 0] 37))
                          have KB := Lib.hid (al (.cells #[.slice none 0 0, .slice none 0 0] 25))
                          have KF := Lib.hid (al (.cells #[.slice H nh ch, .slice S ns cs] 25))
                          have KAB := Lib.hid (al2 (.cells #[.int .i64 0, .int .i64 0, .int .i64 0] 37) (.cells #[.slice none 0 0, .slice none 0 0] 25))
                          have KBA := Lib.hid (al2 (.cells #[.slice none 0 0, .slice none 0 0] 25) (.cells #[.int .i64 0, .int .i64 0, .int .i64 0] 37))
                          have KAF := Lib.hid (al2 (.cells #[.int .i64 0, .int .i64 0, .int .i64 0] 37) (.cells #[.slice H nh ch, .slice S ns cs] 25))
                          have KFA := Lib.hid (al2 (.cells #[.slice H nh ch, .slice S ns cs] 25) (.cells #[.int .i64 0, .int .i64 0, .int .i64 0] 37))
                          have SK := Lib.hid (fun (w' : World) (hb : Below w1.heap.size w1 w') => show w'.cell? ⟨V.heap.size, 0, none⟩ = some (.slice H nh ch) ∧ w'.cell? ⟨V.heap.size, 1, none⟩ = some (.slice S ns cs) from ⟨(GA1.out.below hb).1, (GA1.out.below hb).2.1⟩)
                          have K0 := Lib.hid (Mem.below_drew (Below.refl w1.heap.size w1))
                          have gl : V.heap.size < w1.heap.size := World.block_lt_of_cell? _ _ z0
                          clear P2 P4 al al2 z0 z1
                          go_region_held3 (fun w' => w'.cell? ⟨V.heap.size, 0, none⟩ = some (.slice H nh ch) ∧ w'.cell? ⟨V.heap.size, 1, none⟩ = some (.slice S ns cs)) (first | exact SK.out _ K0.out | exact SK.out _ KA.out | exact SK.out _ KB.out | exact SK.out _ KF.out | exact SK.out _ KAB.out | exact SK.out _ KBA.out | exact SK.out _ KAF.out | exact SK.out _ KFA.out | go_keep) (first | fail)
                          all_goals
                            go_wp2
                            go_meet
                            first
                              | exact ⟨_, _, rfl, rfl, P1.out, HP2.out, by omega, by omega, by omega, KAF.out⟩
                              | exact ⟨_, _, rfl, rfl, HP4.out, P3.out, by omega, by omega, by omega, KFA.out⟩
                        case rest =>
                          obtain ⟨g, h, rfl, rfl, hKG, hKH, hgh, hg1, hh1, hB2⟩ := hcut
                          obtain ⟨w2, rfl⟩ : ∃ w2 : World, w2 = wc := ⟨_, rfl⟩
                          have BW2 := Lib.hid (M1.out.bel.trans (hB2.mono M1.out.bel.size))
                          have HB2 := Lib.hid hB2
                          have HKG := Lib.hid hKG
                          have HKH := Lib.hid hKH
                          clear z0 z1 hB2 hKG hKH
                          go_upto_if 120 with fail
                          go_cut [9, 10] from 121 to 131 (fun v u wx => ∃ (X' : Option Addr) (cx' : Nat), v = .slice X' (nx - 1) cx' ∧ u = .slice Y ny cy ∧ QX w5 w1 (.slice OH no co) X' (nx - 1) cx' x' ∧ Known wx g tT #[.int .i64 t0, .int .i64 t1, .int .i64 t2] ∧ Known wx h tB #[.slice H2 nh2 ch2, .slice S2 ns cs2] ∧ Below w1.heap.size w1 wx)
                          case first => as_aux_lemma =>
                            obtain ⟨y0, y1, -⟩ := GB5.out.below BW2.out
                            obtain ⟨b9, o9, e9, hxb, hx0, hx1, hx2⟩ := (X1.out.later HB2.out).head
                            injection e9 with e9
                            injection e9 with e9 e10
                            subst e9 e10
                            simp only at hx0 hx1 hx2
                            have k0 := HKG.out.cell 0
                            have k1 := HKG.out.cell 1
                            have k2 := HKG.out.cell 2
                            have kf0 := HKG.out.free 0
                            have kf1 := HKG.out.free 1
                            have kf2 := HKG.out.free 2
                            have l0 := HKH.out.cell 0
                            have l1 := HKH.out.cell 1
                            have lf0 := HKH.out.free 0
                            have lf1 := HKH.out.free 1
                            simp at k0 k1 k2 l0 l1
                            have n2 : (0 : Int) < (nx : Int) := by omega
                            have n3 : (1 : Int) ≤ (nx : Int) := by omega
                            have hhg : ¬ h = g := fun e => hgh e.symm
                            have bg : ¬ xb = g := by have := X1.out.far _ rfl; simp only at this; omega
                            have bh : ¬ xb = h := by have := X1.out.far _ rfl; simp only at this; omega
                            have vg : ¬ V.heap.size + 1 = g := by
                              have h9 := (GB5.out.below M1.out.bel).1
                              have := World.block_lt_of_cell? _ _ h9
                              simp only at this
                              omega
                            have vh : ¬ V.heap.size + 1 = h := by
                              have h9 := (GB5.out.below M1.out.bel).1
                              have := World.block_lt_of_cell? _ _ h9
                              simp only at this
                              omega
                            have FIN1 := Lib.hid (both_drew (at_end2 (W := w2) (w1 := w1) hgh hg1 hh1 HKG.out HKH.out HB2.out (.int .i64 t0) (.int .i64 t1) (.int .i64 t2) (.slice H2 nh2 ch2) (.slice S2 ns cs2)))
                            have FG := drew3 (at_end1 (W := w2) (w1 := w1) hgh hg1 HKG.out HKH.out HB2.out (.int .i64 t0) (.int .i64 t1) (.int .i64 t2))
                            have FH := drew2' (at_endh (W := w2) (w1 := w1) hgh hh1 HKG.out HKH.out HB2.out (.slice H2 nh2 ch2) (.slice S2 ns cs2))
                            have lg0 := FG.2.1.cell 0
                            have lg1 := FG.2.1.cell 1
                            have lgf0 := FG.2.1.free 0
                            have lgf1 := FG.2.1.free 1
                            have kh0 := FH.1.cell 0
                            have kh1 := FH.1.cell 1
                            have kh2 := FH.1.cell 2
                            have khf0 := FH.1.free 0
                            have khf1 := FH.1.free 1
                            have khf2 := FH.1.free 2
                            have FGB := Lib.hid FG.2.2
                            have FHB := Lib.hid FH.2
                            have K0 := Lib.hid (Mem.below_drew HB2.out)
                            have SK := Lib.hid (fun (w' : World) (hb' : Below w1.heap.size w1 w') => show w'.cell? ⟨V.heap.size + 1, 0, none⟩ = some (.slice H2 nh2 ch2) ∧ w'.cell? ⟨V.heap.size + 1, 1, none⟩ = some (.slice S2 ns cs2) ∧ w'.cell? ⟨xb, xo, none⟩ = some (.int .i64 t0) ∧ w'.cell? ⟨xb, xo + 1, none⟩ = some (.int .i64 t1) ∧ w'.cell? ⟨xb, xo + 2, none⟩ = some (.int .i64 t2) from by
                              have h5 := GB5.out.below (M1.out.bel.trans (hb'.mono M1.out.bel.size))
                              obtain ⟨b9, o9, e9, _, q0, q1, q2⟩ := (X1.out.later hb').head
                              injection e9 with e9
                              injection e9 with e9 e10
                              subst e9 e10
                              exact ⟨h5.1, h5.2.1, q0, q1, q2⟩)
                            simp at lg0 lg1 kh0 kh1 kh2
                            clear FG FH y0 y1 hx0 hx1 hx2
                            by_cases hc1 : cx = 1
                            · subst hc1
                              obtain ⟨e0, hQ0⟩ := X1.out.tail0
                              subst e0
                              have nx1 : nx = 1 := by have := X1.out.len; simpa using this.symm
                              subst nx1
                              have HQ0 := Lib.hid hQ0
                              clear hQ0
                              go_upto_region 26 with fail
                              go_region_held3 (fun w' => w'.cell? ⟨V.heap.size + 1, 0, none⟩ = some (.slice H2 nh2 ch2) ∧ w'.cell? ⟨V.heap.size + 1, 1, none⟩ = some (.slice S2 ns cs2) ∧ w'.cell? ⟨xb, xo, none⟩ = some (.int .i64 t0) ∧ w'.cell? ⟨xb, xo + 1, none⟩ = some (.int .i64 t1) ∧ w'.cell? ⟨xb, xo + 2, none⟩ = some (.int .i64 t2)) (first | (with_reducible exact SK.out _ K0.out) | (with_reducible exact SK.out _ FGB.out) | (with_reducible exact SK.out _ FHB.out) | (with_reducible exact SK.out _ FIN1.out.1.2.2) | (with_reducible exact SK.out _ FIN1.out.2.2.2) | fail) (first | fail)
                              all_goals
                                go_wp2
                                go_meet
                                refine ⟨_, _, rfl, rfl, HQ0.out, ?_⟩
                                first | (with_reducible exact FIN1.out.1) | (with_reducible exact FIN1.out.2)
                            · have HQ0 := Lib.hid X1.out.tail
                              have hcf : (cx = 1) = False := by simp [hc1]
                              go_upto_region 26 with fail
                              go_region_held3 (fun w' => w'.cell? ⟨V.heap.size + 1, 0, none⟩ = some (.slice H2 nh2 ch2) ∧ w'.cell? ⟨V.heap.size + 1, 1, none⟩ = some (.slice S2 ns cs2) ∧ w'.cell? ⟨xb, xo, none⟩ = some (.int .i64 t0) ∧ w'.cell? ⟨xb, xo + 1, none⟩ = some (.int .i64 t1) ∧ w'.cell? ⟨xb, xo + 2, none⟩ = some (.int .i64 t2)) (first | (with_reducible exact SK.out _ K0.out) | (with_reducible exact SK.out _ FGB.out) | (with_reducible exact SK.out _ FHB.out) | (with_reducible exact SK.out _ FIN1.out.1.2.2) | (with_reducible exact SK.out _ FIN1.out.2.2.2) | fail) (first | fail)
                              all_goals
                                go_wp2
                                go_meet
                                refine ⟨_, _, rfl, rfl, HQ0.out, ?_⟩
                                first | (with_reducible exact FIN1.out.1) | (with_reducible exact FIN1.out.2)
                          case rest =>
                            obtain ⟨X', cx', rfl, rfl, hX', hKG, hKH, hB3⟩ := hcut
                            obtain ⟨w3, rfl⟩ : ∃ w3 : World, w3 = wc := ⟨_, rfl⟩
                            have M3 := Lib.hid (M1.out.later hB3)
                            have X3 := Lib.hid (hX'.later hB3)
                            have Y3 := Lib.hid (Y1.out.later hB3)
                            have G3 := Lib.hid hKG
                            have H3 := Lib.hid hKH
                            have BW3 := Lib.hid M3.out.bel
                            obtain ⟨⟨f0, f1, f2⟩, r, hfr⟩ := finds_exists b.1 (t0, t1, t2)
                            have FR := Lib.hid hfr
                            have FC := Lib.hid (find_c H2 S2 nh2 ch2 ns cs2 b t0 t1 t2 f0 f1 f2 r w3 (GB5.out.below BW3.out).2.2 hfr)
                            have k0 := hKG.cell 0
                            have k1 := hKG.cell 1
                            have k2 := hKG.cell 2
                            have l0 := hKH.cell 0
                            have l1 := hKH.cell 1
                            simp at k0 k1 k2 l0 l1
                            clear hX' hKG hKH hB3 hfr HKG HKH HB2 BW2 M1 X1 XX YY D1 GA1
                            go_wp2_with fail
                            clear k0 k1 k2 l0 l1
                            refine FC.out.mono ?_
                            rintro e9 w4 ⟨rfl, hb⟩
                            have B6 := Lib.hid (show Below w3.heap.size w3 (w4.alloc (.cells #[.int .i64 f0, .int .i64 f1, .int .i64 f2] tT)) from hb.trans ((low_lit w4 _).mono hb.size))
                            have G6 := Lib.hid (G3.out.later B6.out)
                            have H6 := Lib.hid (H3.out.later B6.out)
                            have F6 := Known.made w4 tT #[.int .i64 f0, .int .i64 f1, .int .i64 f2]
                            have f60 := F6.cell 0
                            have f61 := F6.cell 1
                            have f62 := F6.cell 2
                            have g60 := G6.out.cell 0
                            have g61 := G6.out.cell 1
                            have g62 := G6.out.cell 2
                            have h60 := H6.out.cell 0
                            have h61 := H6.out.cell 1
                            simp at f60 f61 f62 g60 g61 g62 h60 h61
                            clear hb FC
                            cases r with
                            | true =>
                              have hfind : findT b.1 (t0, t1, t2) = some (f0, f1, f2) := FR.out.elim (fun h => h.2) (fun h => by cases h.1)
                              obtain ⟨y', hy'⟩ := QQ.out.head LE.out hfind
                              by_cases hel : f2 = t2
                              · subst hel
                                have n8 : (f2 != f2) = false := by simp
                                have QB := Lib.hid (by have := QQ.out; rw [hy'] at this; exact this.both hfind rfl)
                                have ny0 : 0 < ny := by have := Y3.out.len; rw [hy', List.length_cons] at this; omega
                                have YH := Lib.hid (show QX w5 w3 (.slice OH no co) Y ny cy ((f0, f1, f2) :: y') by have := Y3.out; rwa [hy'] at this)
                                obtain ⟨yb, yo, hY1, -, -, -, -⟩ := YH.out.head
                                subst hY1
                                have n9 : (1 : Int) ≤ (ny : Int) := by omega
                                clear hfind hy' QQ Y3
                                by_cases hc1 : cy = 1
                                · subst hc1
                                  obtain ⟨e0, hQ0⟩ := YH.out.tail0
                                  subst e0
                                  have ny1 : ny = 1 := by have := YH.out.len; simpa using this.symm
                                  subst ny1
                                  have Y3 := Lib.hid hQ0
                                  clear hQ0
                                  go_upto_region 33 with fail
                                  go_cut [164] from 154 to 164 (fun v wx => v = .bool true ∧ ∃ q, wx = (w4.alloc (.cells #[.int .i64 f0, .int .i64 f1, .int .i64 f2] tT)).drewN q)
                                  case first => as_aux_lemma =>
                                    go_quiet (fail)
                                    go_wp2_with fail
                                    go_meet
                                    exact ⟨rfl, _, rfl⟩
                                  case rest =>
                                    obtain ⟨rfl, q7, hw7⟩ := hcut
                                    obtain ⟨w7, rfl⟩ : ∃ w7 : World, w7 = wc := ⟨_, rfl⟩
                                    have B7 := Lib.hid (show Below w3.heap.size w3 w7 by rw [hw7]; exact Mem.below_drewN B6.out _)
                                    have M7 := Lib.hid (M3.out.later B7.out)
                                    have X7 := Lib.hid (X3.out.later B7.out)
                                    have Y7 := Lib.hid (Y3.out.later B7.out)
                                    have G7 := Lib.hid (G3.out.later B7.out)
                                    clear hw7 f60 f61 f62 g60 g61 g62 h60 h61
                                    go_upto_region 34 with fail
                                    have g0 := M7.out.box.cell 0
                                    have g1 := M7.out.box.cell 1
                                    have k0 := G7.out.cell 0
                                    have k1 := G7.out.cell 1
                                    have k2 := G7.out.cell 2
                                    simp at g0 g1 k0 k1 k2
                                    have SZ7 := Lib.hid M7.out.lt
                                    have TL7 := Lib.hid M7.out.tab
                                    have LN7 := Lib.hid M7.out.lenO
                                    have MA7 := Lib.hid (M7.out.later (low_lit w7 (.cells #[.int .i64 t0, .int .i64 t1, .int .i64 f2] 37)))
                                    have XA7 := Lib.hid (X7.out.later (low_lit w7 (.cells #[.int .i64 t0, .int .i64 t1, .int .i64 f2] 37)))
                                    have YA7 := Lib.hid (Y7.out.later (low_lit w7 (.cells #[.int .i64 t0, .int .i64 t1, .int .i64 f2] 37)))
                                    have h0 := MA7.out.box.cell 0
                                    simp at h0
                                    go_wp2_with (refine wpList_append_g (E := tgE) elTg rfl _ _ (by rfl) (t0, t1, f2) rfl (by decide) (by rfl) (by rfl) TL7.out LN7.out (by unfold maxLen; omega) (by omega) SZ7.out ?_; intro A8 c8 w8 T8 G8 O8; obtain ⟨g8, rfl, -, -, -⟩ := Tab.head T8.out (by simp); have KB := known_grown MA7.out.box G8.out (fun e => by have := (MA7.out.tab.lt _ e.symm).1; omega); have c80 := KB.cell 0; have f80 := KB.free 0; simp at c80; clear KB)
                                    have OWN := Lib.hid (show (Value.slice OH no co).ownBlock = some g8 ∨ g8 = (w7.alloc (.cells #[.int .i64 t0, .int .i64 t1, .int .i64 f2] 37)).heap.size from by
                                      rcases O8.out with h | h
                                      · left; rw [← h]; rfl
                                      · right
                                        have : g8 = w7.heap.size + 1 := by simpa [Value.ownBlock] using h
                                        rw [this]; simp)
                                    have QN := Lib.hid (QB.out)
                                    have LN8 := Lib.hid (show (out ++ [(t0, t1, f2)]).length = no + 1 by rw [List.length_append, LN7.out]; rfl)
                                    go_roundw
                                    case rel => exact ⟨nx - 1, cx', 0, 0, no + 1, c8, cm, X', _, _, OS, x', [], _, rfl, rfl, XA7.out.putH G8.out OWN.out _, YA7.out.putH G8.out OWN.out _, MA7.out.putH G8.out T8.out LN8.out OWN.out, QN.out⟩
                                    case measure => simp [lenV]; omega
                                · have Y3 := Lib.hid YH.out.tail
                                  have hcf : (cy = 1) = False := by simp [hc1]
                                  go_upto_region 33 with fail
                                  go_cut [164] from 154 to 164 (fun v wx => v = .bool true ∧ ∃ q, wx = (w4.alloc (.cells #[.int .i64 f0, .int .i64 f1, .int .i64 f2] tT)).drewN q)
                                  case first => as_aux_lemma =>
                                    go_quiet (fail)
                                    go_wp2_with fail
                                    go_meet
                                    exact ⟨rfl, _, rfl⟩
                                  case rest =>
                                    obtain ⟨rfl, q7, hw7⟩ := hcut
                                    obtain ⟨w7, rfl⟩ : ∃ w7 : World, w7 = wc := ⟨_, rfl⟩
                                    have B7 := Lib.hid (show Below w3.heap.size w3 w7 by rw [hw7]; exact Mem.below_drewN B6.out _)
                                    have M7 := Lib.hid (M3.out.later B7.out)
                                    have X7 := Lib.hid (X3.out.later B7.out)
                                    have Y7 := Lib.hid (Y3.out.later B7.out)
                                    have G7 := Lib.hid (G3.out.later B7.out)
                                    clear hw7 f60 f61 f62 g60 g61 g62 h60 h61
                                    go_upto_region 34 with fail
                                    have g0 := M7.out.box.cell 0
                                    have g1 := M7.out.box.cell 1
                                    have k0 := G7.out.cell 0
                                    have k1 := G7.out.cell 1
                                    have k2 := G7.out.cell 2
                                    simp at g0 g1 k0 k1 k2
                                    have SZ7 := Lib.hid M7.out.lt
                                    have TL7 := Lib.hid M7.out.tab
                                    have LN7 := Lib.hid M7.out.lenO
                                    have MA7 := Lib.hid (M7.out.later (low_lit w7 (.cells #[.int .i64 t0, .int .i64 t1, .int .i64 f2] 37)))
                                    have XA7 := Lib.hid (X7.out.later (low_lit w7 (.cells #[.int .i64 t0, .int .i64 t1, .int .i64 f2] 37)))
                                    have YA7 := Lib.hid (Y7.out.later (low_lit w7 (.cells #[.int .i64 t0, .int .i64 t1, .int .i64 f2] 37)))
                                    have h0 := MA7.out.box.cell 0
                                    simp at h0
                                    go_wp2_with (refine wpList_append_g (E := tgE) elTg rfl _ _ (by rfl) (t0, t1, f2) rfl (by decide) (by rfl) (by rfl) TL7.out LN7.out (by unfold maxLen; omega) (by omega) SZ7.out ?_; intro A8 c8 w8 T8 G8 O8; obtain ⟨g8, rfl, -, -, -⟩ := Tab.head T8.out (by simp); have KB := known_grown MA7.out.box G8.out (fun e => by have := (MA7.out.tab.lt _ e.symm).1; omega); have c80 := KB.cell 0; have f80 := KB.free 0; simp at c80; clear KB)
                                    have OWN := Lib.hid (show (Value.slice OH no co).ownBlock = some g8 ∨ g8 = (w7.alloc (.cells #[.int .i64 t0, .int .i64 t1, .int .i64 f2] 37)).heap.size from by
                                      rcases O8.out with h | h
                                      · left; rw [← h]; rfl
                                      · right
                                        have : g8 = w7.heap.size + 1 := by simpa [Value.ownBlock] using h
                                        rw [this]; simp)
                                    have QN := Lib.hid (QB.out)
                                    have LN8 := Lib.hid (show (out ++ [(t0, t1, f2)]).length = no + 1 by rw [List.length_append, LN7.out]; rfl)
                                    go_roundw
                                    case rel => exact ⟨nx - 1, cx', ny - 1, cy - 1, no + 1, c8, cm, X', _, _, OS, x', y', _, rfl, rfl, XA7.out.putH G8.out OWN.out _, YA7.out.putH G8.out OWN.out _, MA7.out.putH G8.out T8.out LN8.out OWN.out, QN.out⟩
                                    case measure => simp [lenV]; omega
                              · have n8 : (f2 != t2) = true := by simpa using hel
                                obtain ⟨E7, EP⟩ := BAD.out (QQ.out.bad hfind hel)
                                subst E7
                                have HEP := Lib.hid EP
                                have KR6 := K5.out.later (BW3.out.trans (B6.out.mono BW3.out.size))
                                have BV6 := Lib.hid (B5.out.trans ((BW3.out.trans (B6.out.mono BW3.out.size)).mono B5.out.size))
                                have q0 := KR6.cell 0
                                have q1 := KR6.cell 1
                                have qf0 := KR6.free 0
                                have qf1 := KR6.free 1
                                have KK := Lib.hid ((KR6.put 0 (.slice none 0 0)).put 1 (.slice none 0 0))
                                simp at q0 q1
                                clear EP KR6 hfind hy' hel
                                go_wp2
                                refine bodyPost_ret (v := .tuple #[.agg #[.slice none 0 0, .slice none 0 0], .int .i64 7]) ?_ rfl (FIN.out _ BV6.out HEP.out)
                                exact results_row2 rfl _ _ (V.heap.size + 2) tB _ (0, 0) _ rfl KK.out fieldsBag sizeBag rfl
                            | false =>
                              have hfind : findT b.1 (t0, t1, t2) = none := FR.out.elim (fun h => by cases h.1) (fun h => h.2.1)
                              have HF := Lib.hid hfind
                              clear hfind
                              obtain ⟨v1, hv1⟩ : ∃ v, b.2[w]? = some v := ⟨_, List.getElem?_eq_getElem (by rw [LBS.out]; omega)⟩
                              have SV := Lib.hid (show sawAt b.2 (w : Int) = v1 by unfold sawAt; rw [Int.toNat_natCast, List.getD_eq_getElem?_getD, hv1]; rfl)
                              obtain ⟨bs, os_, hS, _, xs1⟩ := int_at (GB5.out.below ((BW3.out.trans (B6.out.mono BW3.out.size)))).2.2.saw hv1
                              subst hS
                              clear hv1
                              have n9 : (w : Int) < (ns : Int) := by omega
                              by_cases hk : v1 < t1
                              · have hkd : decide (v1 < t1) = true := decide_eq_true hk
                                go_upto_region 33 with fail
                                go_cut [164] from 154 to 164 (fun v wx => v = .bool true ∧ ∃ q, wx = (w4.alloc (.cells #[.int .i64 f0, .int .i64 f1, .int .i64 f2] tT)).drewN q)
                                case first => as_aux_lemma =>
                                  go_quiet (fail)
                                  go_wp2_with fail
                                  go_meet
                                  exact ⟨rfl, _, rfl⟩
                                case rest =>
                                  obtain ⟨rfl, q7, hw7⟩ := hcut
                                  obtain ⟨w7, rfl⟩ : ∃ w7 : World, w7 = wc := ⟨_, rfl⟩
                                  have B7 := Lib.hid (show Below w3.heap.size w3 w7 by rw [hw7]; exact Mem.below_drewN B6.out _)
                                  have M7 := Lib.hid (M3.out.later B7.out)
                                  have X7 := Lib.hid (X3.out.later B7.out)
                                  have Y7 := Lib.hid (Y3.out.later B7.out)
                                  have G7 := Lib.hid (G3.out.later B7.out)
                                  clear hw7 f60 f61 f62 g60 g61 g62 h60 h61
                                  go_upto_region 34 with fail
                                  have g0 := M7.out.box.cell 0
                                  have g1 := M7.out.box.cell 1
                                  have k0 := G7.out.cell 0
                                  have k1 := G7.out.cell 1
                                  have k2 := G7.out.cell 2
                                  simp at g0 g1 k0 k1 k2
                                  have SZ7 := Lib.hid M7.out.lt
                                  have TL7 := Lib.hid M7.out.tab
                                  have LN7 := Lib.hid M7.out.lenO
                                  have MA7 := Lib.hid (M7.out.later (low_lit w7 (.cells #[.int .i64 t0, .int .i64 t1, .int .i64 t2] 37)))
                                  have XA7 := Lib.hid (X7.out.later (low_lit w7 (.cells #[.int .i64 t0, .int .i64 t1, .int .i64 t2] 37)))
                                  have YA7 := Lib.hid (Y7.out.later (low_lit w7 (.cells #[.int .i64 t0, .int .i64 t1, .int .i64 t2] 37)))
                                  have h0 := MA7.out.box.cell 0
                                  simp at h0
                                  go_wp2_with (refine wpList_append_g (E := tgE) elTg rfl _ _ (by rfl) (t0, t1, t2) rfl (by decide) (by rfl) (by rfl) TL7.out LN7.out (by unfold maxLen; omega) (by omega) SZ7.out ?_; intro A8 c8 w8 T8 G8 O8; obtain ⟨g8, rfl, -, -, -⟩ := Tab.head T8.out (by simp); have KB := known_grown MA7.out.box G8.out (fun e => by have := (MA7.out.tab.lt _ e.symm).1; omega); have c80 := KB.cell 0; have f80 := KB.free 0; simp at c80; clear KB)
                                  have OWN := Lib.hid (show (Value.slice OH no co).ownBlock = some g8 ∨ g8 = (w7.alloc (.cells #[.int .i64 t0, .int .i64 t1, .int .i64 t2] 37)).heap.size from by
                                    rcases O8.out with h | h
                                    · left; rw [← h]; rfl
                                    · right
                                      have : g8 = w7.heap.size + 1 := by simpa [Value.ownBlock] using h
                                      rw [this]; simp)
                                  have QN := Lib.hid (QQ.out.keepA LE.out HF.out (by rw [SV.out]; exact hk))
                                  have LN8 := Lib.hid (show (out ++ [(t0, t1, t2)]).length = no + 1 by rw [List.length_append, LN7.out]; rfl)
                                  go_roundw
                                  case rel => exact ⟨nx - 1, cx', ny, cy, no + 1, c8, cm, X', Y, _, OS, x', y, _, rfl, rfl, XA7.out.putH G8.out OWN.out _, YA7.out.putH G8.out OWN.out _, MA7.out.putH G8.out T8.out LN8.out OWN.out, QN.out⟩
                                  case measure => simp [lenV]; omega
                              · have hkd : decide (v1 < t1) = false := decide_eq_false hk
                                go_upto_region 33 with fail
                                go_cut [164] from 154 to 164 (fun v wx => v = .bool false ∧ ∃ q, wx = (w4.alloc (.cells #[.int .i64 f0, .int .i64 f1, .int .i64 f2] tT)).drewN q)
                                case first => as_aux_lemma =>
                                  go_quiet (fail)
                                  go_wp2_with fail
                                  go_meet
                                  exact ⟨rfl, _, rfl⟩
                                case rest =>
                                  obtain ⟨rfl, q7, hw7⟩ := hcut
                                  obtain ⟨w7, rfl⟩ : ∃ w7 : World, w7 = wc := ⟨_, rfl⟩
                                  have B7 := Lib.hid (show Below w3.heap.size w3 w7 by rw [hw7]; exact Mem.below_drewN B6.out _)
                                  have M7 := Lib.hid (M3.out.later B7.out)
                                  have X7 := Lib.hid (X3.out.later B7.out)
                                  have Y7 := Lib.hid (Y3.out.later B7.out)
                                  have G7 := Lib.hid (G3.out.later B7.out)
                                  clear hw7 f60 f61 f62 g60 g61 g62 h60 h61
                                  have QN := Lib.hid (QQ.out.skipA LE.out HF.out (by rw [SV.out]; show ¬ v1 < t1; omega))
                                  go_wp2
                                  go_roundw
                                  case rel => exact ⟨nx - 1, cx', ny, cy, no, co, cm, X', Y, OH, OS, x', y, out, rfl, rfl, X7.out, Y7.out, M7.out, QN.out⟩
                                  case measure => simp [lenV]; omega
                    | false =>
                      obtain ⟨⟨t0, t1, t2⟩, y', rfl, hle⟩ := hab.2 rfl
                      have LE := Lib.hid hle
                      clear hab hz hle
                      have ny0 : 0 < ny := by have := YY.out.len; rw [List.length_cons] at this; omega
                      obtain ⟨yb, yo, hY1, hyb, hy0, hy1, hy2⟩ := YY.out.head
                      subst hY1
                      simp only at hy0 hy1 hy2
                      have n1 : ((ny : Int) == 0) = false := by simp; omega
                      go_upto_region 23 with fail
                      go_cut [15] from 99 to 117 (fun v wx => v = .bool false ∧ ∃ q, wx = wo.drewN q)
                      case first => as_aux_lemma =>
                        cases x with
                        | nil =>
                          have e0 : 0 = nx := XX.out.len
                          have n3 : decide ((0 : Int) < (nx : Int)) = false := by subst e0; rfl
                          have n3n : decide (0 < nx) = false := by subst e0; rfl
                          have n3p : ¬ 0 < nx := by subst e0; decide
                          have n3i : ¬ (0 : Int) < (nx : Int) := by subst e0; decide
                          have n3z : decide (nx = 0) = true := by subst e0; rfl
                          clear e0
                          go_quiet (fail)
                          go_wp2_with fail
                          go_meet
                          exact ⟨rfl, _, rfl⟩
                        | cons u x' =>
                          have nx0 : 0 < nx := by have := XX.out.len; rw [List.length_cons] at this; omega
                          obtain ⟨xb, xo, hX1, hxb, hx0, hx1, hx2⟩ := XX.out.head
                          subst hX1
                          have n2 : (0 : Int) < (nx : Int) := by omega
                          have n3 : decide ((0 : Int) < (nx : Int)) = true := decide_eq_true n2
                          have n4 : (0 : Int) < (ny : Int) := by omega
                          have n5 : t1 < u.2.1 := LE.out u (by simp)
                          have n6 : decide (u.2.1 ≤ t1) = false := decide_eq_false (by omega)
                          have n7 : decide (0 < nx) = true := decide_eq_true nx0
                          go_quiet (fail)
                          go_wp2_with fail
                          go_meet
                          exact ⟨rfl, _, rfl⟩
                      case rest =>
                        obtain ⟨rfl, q1, hw1⟩ := hcut
                        obtain ⟨w1, rfl⟩ : ∃ w1 : World, w1 = wc := ⟨_, rfl⟩
                        have D1 := Lib.hid (show Below wo.heap.size wo w1 by rw [hw1]; exact Mem.below_drewN (Below.refl _ _) _)
                        have M1 := Lib.hid (MM.out.later D1.out)
                        have X1 := Lib.hid (XX.out.later D1.out)
                        have Y1 := Lib.hid (YY.out.later D1.out)
                        have GA1 := Lib.hid (GA5.out.below M1.out.bel)
                        obtain ⟨z0, z1, -⟩ := GA1.out
                        clear hw1 hy0 hy1 hy2 hyb MM
                        go_upto_region 24 with fail
                        go_cut [16, 17] from 118 to 119 (fun v u wx => ∃ g h : Nat, v = .pointer (some ⟨g, 0, none⟩) ∧ u = .pointer (some ⟨h, 0, none⟩) ∧ Known wx g tT #[.int .i64 0, .int .i64 0, .int .i64 0] ∧ Known wx h tB #[.slice H nh ch, .slice S ns cs] ∧ g ≠ h ∧ w1.heap.size ≤ g ∧ w1.heap.size ≤ h ∧ Below w1.heap.size w1 wx)
                        case first => as_aux_lemma =>
                          have P1 := Lib.hid ((Known.made w1 tT #[.int .i64 0, .int .i64 0, .int .i64 0]).alloc (.cells #[.slice H nh ch, .slice S ns cs] tB))
                          have P2 := Known.made (w1.alloc (.cells #[.int .i64 0, .int .i64 0, .int .i64 0] tT)) tB #[.slice H nh ch, .slice S ns cs]
                          have P3 := Lib.hid ((Known.made w1 tB #[.slice H nh ch, .slice S ns cs]).alloc (.cells #[.int .i64 0, .int .i64 0, .int .i64 0] tT))
                          have P4 := Known.made (w1.alloc (.cells #[.slice H nh ch, .slice S ns cs] tB)) tT #[.int .i64 0, .int .i64 0, .int .i64 0]
                          rw [show (w1.alloc (.cells #[.int .i64 0, .int .i64 0, .int .i64 0] tT)).heap.size = w1.heap.size + 1 by simp] at P2
                          rw [show (w1.alloc (.cells #[.slice H nh ch, .slice S ns cs] tB)).heap.size = w1.heap.size + 1 by simp] at P4
                          have HP2 := Lib.hid P2
                          have HP4 := Lib.hid P4
                          have al := fun (o : Obj) => Mem.below_drew (low_lit w1 o)
                          have al2 := fun (o o' : Obj) => Mem.below_drew ((low_lit w1 o).alloc (by simp) o')
                          have KA := Lib.hid (al (.cells #[.int .i64 0, .int .i64 0, .int .i64 0] 37))
                          have KB := Lib.hid (al (.cells #[.slice none 0 0, .slice none 0 0] 25))
                          have KF := Lib.hid (al (.cells #[.slice H nh ch, .slice S ns cs] 25))
                          have KAB := Lib.hid (al2 (.cells #[.int .i64 0, .int .i64 0, .int .i64 0] 37) (.cells #[.slice none 0 0, .slice none 0 0] 25))
                          have KBA := Lib.hid (al2 (.cells #[.slice none 0 0, .slice none 0 0] 25) (.cells #[.int .i64 0, .int .i64 0, .int .i64 0] 37))
                          have KAF := Lib.hid (al2 (.cells #[.int .i64 0, .int .i64 0, .int .i64 0] 37) (.cells #[.slice H nh ch, .slice S ns cs] 25))
                          have KFA := Lib.hid (al2 (.cells #[.slice H nh ch, .slice S ns cs] 25) (.cells #[.int .i64 0, .int .i64 0, .int .i64 0] 37))
                          have SK := Lib.hid (fun (w' : World) (hb : Below w1.heap.size w1 w') => show w'.cell? ⟨V.heap.size, 0, none⟩ = some (.slice H nh ch) ∧ w'.cell? ⟨V.heap.size, 1, none⟩ = some (.slice S ns cs) from ⟨(GA1.out.below hb).1, (GA1.out.below hb).2.1⟩)
                          have K0 := Lib.hid (Mem.below_drew (Below.refl w1.heap.size w1))
                          have gl : V.heap.size < w1.heap.size := World.block_lt_of_cell? _ _ z0
                          clear P2 P4 al al2 z0 z1
                          go_region_held3 (fun w' => w'.cell? ⟨V.heap.size, 0, none⟩ = some (.slice H nh ch) ∧ w'.cell? ⟨V.heap.size, 1, none⟩ = some (.slice S ns cs)) (first | exact SK.out _ K0.out | exact SK.out _ KA.out | exact SK.out _ KB.out | exact SK.out _ KF.out | exact SK.out _ KAB.out | exact SK.out _ KBA.out | exact SK.out _ KAF.out | exact SK.out _ KFA.out | go_keep) (first | fail)
                          all_goals
                            go_wp2
                            go_meet
                            first
                              | exact ⟨_, _, rfl, rfl, P1.out, HP2.out, by omega, by omega, by omega, KAF.out⟩
                              | exact ⟨_, _, rfl, rfl, HP4.out, P3.out, by omega, by omega, by omega, KFA.out⟩
                        case rest =>
                          obtain ⟨g, h, rfl, rfl, hKG, hKH, hgh, hg1, hh1, hB2⟩ := hcut
                          obtain ⟨w2, rfl⟩ : ∃ w2 : World, w2 = wc := ⟨_, rfl⟩
                          have BW2 := Lib.hid (M1.out.bel.trans (hB2.mono M1.out.bel.size))
                          have HB2 := Lib.hid hB2
                          have HKG := Lib.hid hKG
                          have HKH := Lib.hid hKH
                          clear z0 z1 hB2 hKG hKH
                          go_upto_if 120 with fail
                          go_cut [9, 10] from 121 to 131 (fun v u wx => ∃ (Y' : Option Addr) (cy' : Nat), v = .slice X nx cx ∧ u = .slice Y' (ny - 1) cy' ∧ QX w5 w1 (.slice OH no co) Y' (ny - 1) cy' y' ∧ Known wx g tT #[.int .i64 t0, .int .i64 t1, .int .i64 t2] ∧ Known wx h tB #[.slice H nh ch, .slice S ns cs] ∧ Below w1.heap.size w1 wx)
                          case first => as_aux_lemma =>
                            obtain ⟨b9, o9, e9, hxb, hx0, hx1, hx2⟩ := (Y1.out.later HB2.out).head
                            injection e9 with e9
                            injection e9 with e9 e10
                            subst e9 e10
                            simp only at hx0 hx1 hx2
                            have k0 := HKG.out.cell 0
                            have k1 := HKG.out.cell 1
                            have k2 := HKG.out.cell 2
                            have kf0 := HKG.out.free 0
                            have kf1 := HKG.out.free 1
                            have kf2 := HKG.out.free 2
                            simp at k0 k1 k2
                            have n2 : (0 : Int) < (ny : Int) := by omega
                            have n3 : (1 : Int) ≤ (ny : Int) := by omega
                            have hhg : ¬ h = g := fun e => hgh e.symm
                            have bg : ¬ yb = g := by have := Y1.out.far _ rfl; simp only at this; omega
                            have bh : ¬ yb = h := by have := Y1.out.far _ rfl; simp only at this; omega
                            have K0 := Lib.hid (Mem.below_drew HB2.out)
                            have SK := Lib.hid (fun (w' : World) (hb' : Below w1.heap.size w1 w') => show w'.cell? ⟨yb, yo, none⟩ = some (.int .i64 t0) ∧ w'.cell? ⟨yb, yo + 1, none⟩ = some (.int .i64 t1) ∧ w'.cell? ⟨yb, yo + 2, none⟩ = some (.int .i64 t2) from by
                              obtain ⟨b9, o9, e9, _, q0, q1, q2⟩ := (Y1.out.later hb').head
                              injection e9 with e9
                              injection e9 with e9 e10
                              subst e9 e10
                              exact ⟨q0, q1, q2⟩)
                            clear hx0 hx1 hx2
                            have FIN1 := Lib.hid (drew3 (at_end1 (W := w2) (w1 := w1) hgh hg1 HKG.out HKH.out HB2.out (.int .i64 t0) (.int .i64 t1) (.int .i64 t2)))
                            by_cases hc1 : cy = 1
                            · subst hc1
                              obtain ⟨e0, hQ0⟩ := Y1.out.tail0
                              subst e0
                              have nx1 : ny = 1 := by have := Y1.out.len; simpa using this.symm
                              subst nx1
                              have HQ0 := Lib.hid hQ0
                              clear hQ0
                              go_upto_region 27 with fail
                              go_region_held3 (fun w' => w'.cell? ⟨yb, yo, none⟩ = some (.int .i64 t0) ∧ w'.cell? ⟨yb, yo + 1, none⟩ = some (.int .i64 t1) ∧ w'.cell? ⟨yb, yo + 2, none⟩ = some (.int .i64 t2)) (first | (with_reducible exact SK.out _ K0.out) | (with_reducible exact SK.out _ FIN1.out.2.2) | fail) (first | fail)
                              all_goals
                                go_wp2
                                go_meet
                                exact ⟨_, _, rfl, rfl, HQ0.out, FIN1.out⟩
                            · have HQ0 := Lib.hid Y1.out.tail
                              have hcf : (cy = 1) = False := by simp [hc1]
                              go_upto_region 27 with fail
                              go_region_held3 (fun w' => w'.cell? ⟨yb, yo, none⟩ = some (.int .i64 t0) ∧ w'.cell? ⟨yb, yo + 1, none⟩ = some (.int .i64 t1) ∧ w'.cell? ⟨yb, yo + 2, none⟩ = some (.int .i64 t2)) (first | (with_reducible exact SK.out _ K0.out) | (with_reducible exact SK.out _ FIN1.out.2.2) | fail) (first | fail)
                              all_goals
                                go_wp2
                                go_meet
                                exact ⟨_, _, rfl, rfl, HQ0.out, FIN1.out⟩
                          case rest =>
                            obtain ⟨Y', cy', rfl, rfl, hX', hKG, hKH, hB3⟩ := hcut
                            obtain ⟨w3, rfl⟩ : ∃ w3 : World, w3 = wc := ⟨_, rfl⟩
                            have M3 := Lib.hid (M1.out.later hB3)
                            have X3 := Lib.hid (X1.out.later hB3)
                            have Y3 := Lib.hid (hX'.later hB3)
                            have G3 := Lib.hid hKG
                            have H3 := Lib.hid hKH
                            have BW3 := Lib.hid M3.out.bel
                            have hfn := QQ.out.other LE.out
                            obtain ⟨f0, f1, f2, hff⟩ : ∃ f0 f1 f2 : Int, (f0, f1, f2) = ((0 : Int), (0 : Int), (0 : Int)) := ⟨0, 0, 0, rfl⟩
                            have FC := Lib.hid (find_c H S nh ch ns cs a t0 t1 t2 f0 f1 f2 false w3 (GA5.out.below BW3.out).2.2 (.inr ⟨rfl, hfn, hff⟩))
                            have k0 := hKG.cell 0
                            have k1 := hKG.cell 1
                            have k2 := hKG.cell 2
                            have l0 := hKH.cell 0
                            have l1 := hKH.cell 1
                            simp at k0 k1 k2 l0 l1
                            clear hX' hKG hKH hB3 hfn hff HKG HKH HB2 BW2 M1 X1 XX YY D1 GA1
                            go_wp2_with fail
                            clear k0 k1 k2 l0 l1
                            refine FC.out.mono ?_
                            rintro e9 w4 ⟨rfl, hb⟩
                            have B6 := Lib.hid (show Below w3.heap.size w3 (w4.alloc (.cells #[.int .i64 f0, .int .i64 f1, .int .i64 f2] tT)) from hb.trans ((low_lit w4 _).mono hb.size))
                            have G6 := Lib.hid (G3.out.later B6.out)
                            have H6 := Lib.hid (H3.out.later B6.out)
                            have F6 := Known.made w4 tT #[.int .i64 f0, .int .i64 f1, .int .i64 f2]
                            have f60 := F6.cell 0
                            have f61 := F6.cell 1
                            have f62 := F6.cell 2
                            have g60 := G6.out.cell 0
                            have g61 := G6.out.cell 1
                            have g62 := G6.out.cell 2
                            have h60 := H6.out.cell 0
                            have h61 := H6.out.cell 1
                            simp at f60 f61 f62 g60 g61 g62 h60 h61
                            clear hb FC
                            obtain ⟨v1, hv1⟩ : ∃ v, a.2[w]? = some v := ⟨_, List.getElem?_eq_getElem (by rw [LAS.out]; omega)⟩
                            have SV := Lib.hid (show sawAt a.2 (w : Int) = v1 by unfold sawAt; rw [Int.toNat_natCast, List.getD_eq_getElem?_getD, hv1]; rfl)
                            obtain ⟨bs, os_, hS, _, xs1⟩ := int_at (GA5.out.below ((BW3.out.trans (B6.out.mono BW3.out.size)))).2.2.saw hv1
                            subst hS
                            clear hv1
                            have n9 : (w : Int) < (ns : Int) := by omega
                            by_cases hk : v1 < t1
                            · have hkd : decide (v1 < t1) = true := decide_eq_true hk
                              go_upto_region 33 with fail
                              go_cut [164] from 154 to 164 (fun v wx => v = .bool true ∧ ∃ q, wx = (w4.alloc (.cells #[.int .i64 f0, .int .i64 f1, .int .i64 f2] tT)).drewN q)
                              case first => as_aux_lemma =>
                                go_quiet (fail)
                                go_wp2_with fail
                                go_meet
                                exact ⟨rfl, _, rfl⟩
                              case rest =>
                                obtain ⟨rfl, q7, hw7⟩ := hcut
                                obtain ⟨w7, rfl⟩ : ∃ w7 : World, w7 = wc := ⟨_, rfl⟩
                                have B7 := Lib.hid (show Below w3.heap.size w3 w7 by rw [hw7]; exact Mem.below_drewN B6.out _)
                                have M7 := Lib.hid (M3.out.later B7.out)
                                have X7 := Lib.hid (X3.out.later B7.out)
                                have Y7 := Lib.hid (Y3.out.later B7.out)
                                have G7 := Lib.hid (G3.out.later B7.out)
                                clear hw7 f60 f61 f62 g60 g61 g62 h60 h61
                                go_upto_region 34 with fail
                                have g0 := M7.out.box.cell 0
                                have g1 := M7.out.box.cell 1
                                have k0 := G7.out.cell 0
                                have k1 := G7.out.cell 1
                                have k2 := G7.out.cell 2
                                simp at g0 g1 k0 k1 k2
                                have SZ7 := Lib.hid M7.out.lt
                                have TL7 := Lib.hid M7.out.tab
                                have LN7 := Lib.hid M7.out.lenO
                                have MA7 := Lib.hid (M7.out.later (low_lit w7 (.cells #[.int .i64 t0, .int .i64 t1, .int .i64 t2] 37)))
                                have XA7 := Lib.hid (X7.out.later (low_lit w7 (.cells #[.int .i64 t0, .int .i64 t1, .int .i64 t2] 37)))
                                have YA7 := Lib.hid (Y7.out.later (low_lit w7 (.cells #[.int .i64 t0, .int .i64 t1, .int .i64 t2] 37)))
                                have h0 := MA7.out.box.cell 0
                                simp at h0
                                go_wp2_with (refine wpList_append_g (E := tgE) elTg rfl _ _ (by rfl) (t0, t1, t2) rfl (by decide) (by rfl) (by rfl) TL7.out LN7.out (by unfold maxLen; omega) (by omega) SZ7.out ?_; intro A8 c8 w8 T8 G8 O8; obtain ⟨g8, rfl, -, -, -⟩ := Tab.head T8.out (by simp); have KB := known_grown MA7.out.box G8.out (fun e => by have := (MA7.out.tab.lt _ e.symm).1; omega); have c80 := KB.cell 0; have f80 := KB.free 0; simp at c80; clear KB)
                                have OWN := Lib.hid (show (Value.slice OH no co).ownBlock = some g8 ∨ g8 = (w7.alloc (.cells #[.int .i64 t0, .int .i64 t1, .int .i64 t2] 37)).heap.size from by
                                  rcases O8.out with h | h
                                  · left; rw [← h]; rfl
                                  · right
                                    have : g8 = w7.heap.size + 1 := by simpa [Value.ownBlock] using h
                                    rw [this]; simp)
                                have QN := Lib.hid (QQ.out.keepB LE.out (by rw [SV.out]; exact hk))
                                have LN8 := Lib.hid (show (out ++ [(t0, t1, t2)]).length = no + 1 by rw [List.length_append, LN7.out]; rfl)
                                go_roundw
                                case rel => exact ⟨nx, cx, ny - 1, cy', no + 1, c8, cm, X, Y', _, OS, x, y', _, rfl, rfl, XA7.out.putH G8.out OWN.out _, YA7.out.putH G8.out OWN.out _, MA7.out.putH G8.out T8.out LN8.out OWN.out, QN.out⟩
                                case measure => simp [lenV]; omega
                            · have hkd : decide (v1 < t1) = false := decide_eq_false hk
                              go_upto_region 33 with fail
                              go_cut [164] from 154 to 164 (fun v wx => v = .bool false ∧ ∃ q, wx = (w4.alloc (.cells #[.int .i64 f0, .int .i64 f1, .int .i64 f2] tT)).drewN q)
                              case first => as_aux_lemma =>
                                go_quiet (fail)
                                go_wp2_with fail
                                go_meet
                                exact ⟨rfl, _, rfl⟩
                              case rest =>
                                obtain ⟨rfl, q7, hw7⟩ := hcut
                                obtain ⟨w7, rfl⟩ : ∃ w7 : World, w7 = wc := ⟨_, rfl⟩
                                have B7 := Lib.hid (show Below w3.heap.size w3 w7 by rw [hw7]; exact Mem.below_drewN B6.out _)
                                have M7 := Lib.hid (M3.out.later B7.out)
                                have X7 := Lib.hid (X3.out.later B7.out)
                                have Y7 := Lib.hid (Y3.out.later B7.out)
                                have G7 := Lib.hid (G3.out.later B7.out)
                                clear hw7 f60 f61 f62 g60 g61 g62 h60 h61
                                have QN := Lib.hid (QQ.out.skipB LE.out (by rw [SV.out]; show ¬ v1 < t1; omega))
                                go_wp2
                                go_roundw
                                case rel => exact ⟨nx, cx, ny - 1, cy', no, co, cm, X, Y', OH, OS, x, y', out, rfl, rfl, X7.out, Y7.out, M7.out, QN.out⟩
                                case measure => simp [lenV]; omega
    · obtain rfl : w = ns := by omega
      have hdone : joinH a b = out ∧ Apart a b := by
        have := OO.out
        rw [← LAS.out] at this
        exact this.done OA.out OB.out LEN.out
      have ES : (joinS a b).take w = joinS a b := List.take_of_length_le (by rw [joinS_len LEN.out, LAS.out]; exact Nat.le_refl _)
      have LO := Lib.hid MM.out.lenO
      have KR6 := K5.out.later MM.out.bel
      have BV6 := Lib.hid (B5.out.trans (MM.out.bel.mono B5.out.size))
      have q0 := KR6.cell 0
      have q1 := KR6.cell 1
      have qf0 := KR6.free 0
      have qf1 := KR6.free 1
      have GO := Lib.hid GOOD.out
      have HD := Lib.hid hdone
      have HES := Lib.hid ES
      simp at q0 q1
      clear hba hbb hdone ES z0 z1 y0 y1
      by_cases h4 : 400 < no
      · have i4 : (400 : Int) < (no : Int) := by omega
        obtain ⟨E4, EP⟩ := MANY.out HD.out.2 (by rw [HD.out.1, LO.out]; exact h4)
        subst E4
        have HEP := Lib.hid EP
        have KK := Lib.hid ((KR6.put 0 (.slice none 0 0)).put 1 (.slice none 0 0))
        clear EP KR6 h4
        go_wp2
        refine bodyPost_ret (v := .tuple #[.agg #[.slice none 0 0, .slice none 0 0], .int .i64 4]) ?_ rfl (FIN.out _ BV6.out HEP.out)
        exact results_row2 rfl _ _ (V.heap.size + 2) tB _ (0, 0) _ rfl KK.out fieldsBag sizeBag rfl
      · have i4 : ¬ (400 : Int) < (no : Int) := by omega
        obtain ⟨E0, EP⟩ := GOOD.out HD.out.2 (by rw [HD.out.1, LO.out]; omega)
        subst E0
        have KK := Lib.hid ((KR6.put 0 (.slice OH no co)).put 1 (.slice OS w cm))
        obtain rfl : no = mh := by rw [← HMH.out, EP]; show no = (joinH a b).length; rw [HD.out.1, LO.out]
        obtain rfl : w = ms := by rw [← HMS.out, EP]; show w = (joinS a b).length; rw [joinS_len LEN.out, LAS.out]
        have EPX := Lib.hid (show p = (out, joinS a b) by rw [EP, HD.out.1])
        have BE := Lib.hid ((BV6.out.setCell (p := ⟨V.heap.size + 2, 0, none⟩) (by show _ ≤ V.heap.size + 2; omega) (.slice OH no co)).setCell (p := ⟨V.heap.size + 2, 1, none⟩) (by show _ ≤ V.heap.size + 2; omega) (.slice OS w cm))
        have gr : V.heap.size + 2 < w5.heap.size := K5.out.lt
        have TO := Lib.hid ((MM.out.tab.off (p := ⟨V.heap.size + 2, 0, none⟩) (fun q hq => by have := (MM.out.tab.lt q hq).1; show q ≠ V.heap.size + 2; omega) (.slice OH no co)).off (p := ⟨V.heap.size + 2, 1, none⟩) (fun q hq => by have := (MM.out.tab.lt q hq).1; show q ≠ V.heap.size + 2; omega) (.slice OS w cm))
        have ZO := Lib.hid ((MM.out.zab.off (p := ⟨V.heap.size + 2, 0, none⟩) (fun q hq => by have := (MM.out.zab.lt q hq).1; show q ≠ V.heap.size + 2; omega) (.slice OH no co)).off (p := ⟨V.heap.size + 2, 1, none⟩) (fun q hq => by have := (MM.out.zab.lt q hq).1; show q ≠ V.heap.size + 2; omega) (.slice OS w cm))
        clear EP KR6 h4 OO
        go_wp2
        refine bodyPost_ret (v := .tuple #[.agg #[.slice OH no co, .slice OS w cm], .int .i64 0]) ?_ rfl ⟨OH, OS, co, cm, rfl, ?_, BE.out⟩
        · exact results_row2 rfl _ _ (V.heap.size + 2) tB _ (0, 0) _ rfl KK.out fieldsBag sizeBag rfl
        · rw [EPX.out]
          obtain ⟨A1, d1, e1, p1, p2⟩ := TO.out.form
          obtain ⟨A2, d2, e2, p3, p4⟩ := ZO.out.form
          injection e1 with _ _ e1
          injection e2 with _ _ e2
          have l2 : ((joinS a b).take w).length = w := MM.out.lenS
          refine ⟨LO.out, by show (joinS a b).length = w; rw [joinS_len LEN.out, LAS.out], ⟨by rw [e1, ← LO.out]; exact p1, by rw [e1]; unfold maxLen at p2; omega⟩, ⟨by rw [e2]; rw [l2] at p3; exact p3, by rw [e2]; unfold maxLen at p4; omega⟩, by omega, by omega, TO.out.reads, ?_, ?_⟩
          · have := ZO.out.reads
            rwa [flat_int, HES.out] at this
          · show FitH out
            rw [← HD.out.1]
            exact fit_join FIA.out FIB.out
end Go.Proofs.Ythebilmeehnkpaa.Ors
