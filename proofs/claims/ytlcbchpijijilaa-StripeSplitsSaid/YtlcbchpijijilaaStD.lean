/-
  Package stripe: Sizes.
-/
import Derived.Test.YtlcbchpijijilaaStC
import Derived.Test.YtlcbchpijijilaaStInts
import Derived.Test.YtlcbchpijijilaaStSiz
namespace Go.Proofs.Ytlcbchpijijilaa.Stripe
set_option linter.unusedVariables false
open Go.RowKit Mem

theorem sizes_err (u w d l k : Int) (V : World) (hk : k ≠ 0) (h : ∀ V, Calls Try.prog 15 #[.agg #[.int .i64 u, .int .i64 w, .int .i64 d], .int .i64 0, .int .i64 l] V (Gave (.tuple #[.slice none 0 0, .int .i64 k]) V)) :
    Calls Try.prog 16 #[.agg #[.int .i64 u, .int .i64 w, .int .i64 d], .int .i64 l] V (Gave (.tuple #[.slice none 0 0, .int .i64 k]) V) := by
  have H := Lib.hid h
  have n1 : (k == 0) = false := by simpa using hk
  have n2 : (k != 0) = true := by simpa using hk
  clear h hk
  go_enter Try.func16, Try.ntmps16
  go_wp2_with fail
  refine (H.out _).mono ?_
  rintro e w1 ⟨rfl, hb⟩
  have HB := Lib.hid hb
  clear hb
  go_wp2
  go_ret2
  exact ⟨rfl, below_box HB.out⟩
theorem known_grown2 {W V : World} {g : Nat} {t : TypeId} {cs : Array Value} {row : Option Nat} (h : Known W g t cs) (hg : W.grownBy V row) (hne : some g ≠ row) : Known V g t cs := (hg.block g h.lt hne).trans h
theorem app_after {wr w1 w4 : World} {a b c : Int} {ob : Nat} {s : List Nat} {C A4 : Option Addr} {cc c4 : Nat} (y : Nat) (MB : Known (wr.alloc (.cells #[.int .i64 a, .int .i64 b, .int .i64 c] 43)) wr.heap.size 43 #[.int .i64 a, .int .i64 b, .int .i64 c])
    (KT : ITab wr w1.heap.size (.slice C ob cc) s) (HN : s.length = ob) (hT4 : Hid (ITab w4 w1.heap.size (.slice A4 (ob + 1) c4) (s ++ [0])))
    (hg4 : Hid (((wr.alloc (.cells #[.int .i64 a, .int .i64 b, .int .i64 c] 43)).alloc (.cells #[.int .i64 0] 3)).grownBy w4 (Value.slice C ob cc).ownBlock)) :
    w4.cell? ⟨wr.heap.size, 0, none⟩ = some (.int .i64 a) ∧ w4.cell? ⟨wr.heap.size, 1, none⟩ = some (.int .i64 b) ∧ w4.cell? ⟨wr.heap.size, 2, none⟩ = some (.int .i64 c) ∧
    ∃ g x, A4 = some ⟨g, 0, none⟩ ∧ Hid (w1.heap.size ≤ g) ∧ w4.cell? ⟨g, ob, none⟩ = some (.int .i64 (x : Int)) ∧ w4.frozen? ⟨g, ob, none⟩ = false ∧ Hid (ITab (w4.setCell ⟨g, ob, none⟩ (.int .i64 (y : Int))) w1.heap.size (.slice A4 (ob + 1) c4) (s ++ [y])) := by
  have lt5 := KT.lt
  have MB4 := known_grown2 (MB.alloc (.cells #[.int .i64 0] 3)) hg4.out (fun h => by have := (lt5 _ h.symm).2; omega)
  obtain ⟨g, x, rfl, hg0, hglt, hgx, cx, fx, hput⟩ := hT4.out.put (k := ob) (by rw [List.length_append, HN]; rfl) (by omega)
  have hp := hput y
  rw [List.set_append_right _ _ (by rw [HN]; exact Nat.le_refl _), HN, Nat.sub_self] at hp
  exact ⟨MB4.cell 0, MB4.cell 1, MB4.cell 2, g, x, rfl, hg0, cx, fx, hp⟩
/-- The sizes of the objects of n bytes. -/
def sizs (U W D n : Nat) : List Nat := siz (objOf U W D) (frOf U W D) n
def IntsOut (l : List Nat) (W : World) (e : Ending) (W' : World) : Prop := ∃ A c, e = .returned (.tuple #[.slice A l.length c, .int .i64 0]) ∧ l.length ≤ c ∧ ITab W' W.heap.size (.slice A l.length c) l ∧ Below W.heap.size W W'
set_option maxRecDepth 100000 in
set_option maxHeartbeats 4000000 in
theorem sizes_ok (U W D m : Nat) (V : World) (h : Ok U W D) (h1 : m ≤ 1099511627776) (h2 : m / U ≤ 400) :
    Calls Try.prog 16 #[.agg #[.int .i64 U, .int .i64 W, .int .i64 D], .int .i64 m] V (IntsOut (sizs U W D m) V) := by
  have hs := fun V => split_ok U W D 0 m V h (by omega) h2
  have H1 := Lib.hid (show ∀ V, Calls Try.prog 15 #[.agg #[.int .i64 U, .int .i64 W, .int .i64 D], .int .i64 0, .int .i64 m] V (ExOut (exts U W D 0 m) V) from hs)
  obtain ⟨hU, hW, hD⟩ := h
  have G := Lib.hid (grow_good (o := objOf U W D) (f := frOf U W D) 0 m)
  have F := Lib.hid (fun n => filled hU.1 hW.1 hD.1 n)
  have FL := Lib.hid (fun n => (filled hU.1 hW.1 hD.1 n).le hU.1 hW.1 hD.1)
  have SL := Lib.hid (fun n => siz_len (objOf U W D) (frOf U W D) n)
  have SR := Lib.hid (fun n p => @siz_run (objOf U W D) (frOf U W D) n p)
  have FB := Lib.hid (fun n => show frOf U W D n < 1048576 * 1024 + 1 by
    have k1 : U * D ≤ 1048576 * 1024 := mul_le (by omega) (by omega)
    have := fr_lt (W := W) hU.1 hD.1 n
    omega)
  have E0 := Lib.hid (show sizs U W D m = siz (objOf U W D) (frOf U W D) m from rfl)
  have EG := Lib.hid (show exts U W D 0 m = grow (objOf U W D) (frOf U W D) 0 m from rfl)
  clear hs h2 hU hW hD
  go_enter Try.func16, Try.ntmps16
  go_wp2_with fail
  refine (H1.out _).mono ?_
  rintro e w1 ⟨A, ca, rfl, hca, hT, hb⟩
  have HB := Lib.hid hb
  have HT := Lib.hid hT.rds
  rw [EG.out] at HT
  have GLE := Lib.hid (@grow_len (objOf U W D) (frOf U W D) 0 m)
  rw [EG.out]
  have hG := G.out
  generalize hes : grow (objOf U W D) (frOf U W D) 0 m = es at *
  have HG := Lib.hid hG
  generalize hl : es.length = l at *
  have HL := Lib.hid hl
  have lb : l ≤ m := GLE.out
  clear hb hT hG hes hl hca H1 G GLE
  go_wp2
  go_loopw [8, 22] (fun s8 s22 wr => ∃ (j : Nat) (C : Option Addr) (cc : Nat), j ≤ l ∧ s22 = .int .i64 j ∧ s8 = .slice C (siz (objOf U W D) (frOf U W D) (tot (es.take j))).length cc ∧ ITab wr w1.heap.size s8 (siz (objOf U W D) (frOf U W D) (tot (es.take j))) ∧ Below w1.heap.size w1 wr) (fun _ s22 _ => l - (intOf s22).toNat)
  case atStart => exact ⟨0, none, 0, by omega, rfl, by simp [tot, siz], by simp [tot, siz]; exact ITab.nil _ _, Below.refl _ _⟩
  case round =>
    obtain ⟨j, C, cc, hj, rfl, rfl, hT, hB⟩ := hrel
    have KB := Lib.hid hB
    have KT := Lib.hid hT
    clear hT hB
    by_cases hlt : j < l
    · obtain ⟨b, o, rfl, hbl, x0, x1, x2⟩ := HT.out.ext (k := j) (by rw [HL.out]; exact hlt)
      have y0 := (KB.out.cell (p := ⟨b, o + j * 3, none⟩) hbl).trans x0
      have y1 := (KB.out.cell (p := ⟨b, o + j * 3 + 1, none⟩) hbl).trans x1
      have y2 := (KB.out.cell (p := ⟨b, o + j * 3 + 2, none⟩) hbl).trans x2
      have hget : es[j]? = some (es[j]'(by rw [HL.out]; exact hlt)) := List.getElem?_eq_getElem _
      obtain ⟨g1, g2, -⟩ := HG.out.2 j _ hget
      have tn : tot (es.take (j + 1)) = tot (es.take j) + (es[j]'(by rw [HL.out]; exact hlt)).2.2 := by
        rw [List.take_succ_eq_append_getElem (by rw [HL.out]; exact hlt), tot_app, tot_one]
      have sr := SR.out (tot (es.take j)) _ g1 (fun q hq => by
        have h := g2 q hq
        have h0 := g2 0 (by omega)
        rw [Nat.zero_add, Nat.add_zero] at h0
        rw [Nat.zero_add] at h
        exact ⟨by rw [h.1, h0.1], by rw [h.2, h0.2]; omega⟩)
      have h0 := g2 0 (by omega)
      rw [Nat.zero_add, Nat.add_zero] at h0
      rw [h0.1, h0.2, Nat.add_zero, ← tn] at sr
      have le := FL.out (tot (es.take j))
      rw [h0.1] at le
      have nle : (siz (objOf U W D) (frOf U W D) (tot (es.take j))).length ≤ m := by
        have h3 := SL.out (tot (es.take j))
        have h4 : tot (es.take j) ≤ m := by
          have h5 := HG.out.1
          rw [← List.take_append_drop j es, tot_app] at h5
          omega
        omega
      have frb : (es[j]'(by rw [HL.out]; exact hlt)).2.1 + (es[j]'(by rw [HL.out]; exact hlt)).2.2 ≤ 1099511627776 * 2 := by
        have h3 := FB.out (tot (es.take j))
        rw [h0.2] at h3
        have h5 := HG.out.1
        rw [← List.take_append_drop (j + 1) es, tot_app, tn] at h5
        omega
      generalize hsz : siz (objOf U W D) (frOf U W D) (tot (es.take j)) = s at *
      generalize hob : (es[j]'(by rw [HL.out]; exact hlt)).1 = ob at *
      generalize hfr : (es[j]'(by rw [HL.out]; exact hlt)).2.1 = fr at *
      generalize hln : (es[j]'(by rw [HL.out]; exact hlt)).2.2 = ln at *
      have NX := Lib.hid sr
      generalize hn : s.length = n at *
      have HN := Lib.hid hn
      have i1 : (j : Int) < (l : Int) := by omega
      clear hget g1 g2 tn sr h0 hsz hob hfr hln hn x0 x1 x2
      by_cases e : ob = n
      · subst e
        have MB := Lib.hid ((Known.made wr 43 #[.int .i64 ob, .int .i64 fr, .int .i64 ln]))
        have KT2 := Lib.hid (show ITab (wr.alloc (.cells #[.int .i64 ob, .int .i64 fr, .int .i64 ln] 43)) w1.heap.size (.slice C ob cc) s from Grows.alloc KT.out _)
        have KB2 := Lib.hid (KB.out.alloc KB.out.size (.cells #[.int .i64 ob, .int .i64 fr, .int .i64 ln] 43))
        have KS := Lib.hid KB.out.size
        rw [if_pos rfl] at NX
        have key := fun A4 c4 w4 hT hg => app_after (A4 := A4) (c4 := c4) (w4 := w4) (fr + ln) MB.out KT.out HN.out hT hg
        have KEY := Lib.hid key
        have i2 : (ob : Int) < (ob : Int) + 1 := by omega
        clear key
        go_wp2_with (at_builtin; refine wpList_append_int rfl (.tmp 31) (.tmp 32) rfl 0 rfl rfl (by show Value.slice (some ⟨wr.heap.size + 1, 0, none⟩) 1 1 = _; simp) KT2.out HN.out (by omega) (Nat.le_trans KS.out (by simp)) KB2.out (Nat.le_refl _) ?_; intro A4 c4 w4 hT4 hg4 hB4; obtain ⟨z0, z1, z2, g, x, rfl, hg0, cx, fx, HP⟩ := KEY.out A4 c4 w4 hT4 hg4; have HB4 := Lib.hid (hB4.out.setCell (p := ⟨g, ob, none⟩) hg0.out (.int .i64 ((fr : Int) + (ln : Int)))); clear hT4 hg4 hB4)
        go_roundw
        case rel => exact ⟨j + 1, some ⟨g, 0, none⟩, c4, by omega, by go_num, by rw [NX.out, List.length_append, HN.out]; rfl, by rw [NX.out]; exact HP.out, HB4.out⟩
        case measure => simp [intOf]; omega
      · have elt : ob < n := by omega
        have MB := (Known.made wr 43 #[.int .i64 ob, .int .i64 fr, .int .i64 ln])
        have KT2 : ITab (wr.alloc (.cells #[.int .i64 ob, .int .i64 fr, .int .i64 ln] 43)) w1.heap.size (.slice C n cc) s := Grows.alloc KT.out _
        have KB2 := (KB.out.alloc KB.out.size (.cells #[.int .i64 ob, .int .i64 fr, .int .i64 ln] 43))
        have KS := Lib.hid KB.out.size
        rw [if_neg e] at NX
        obtain ⟨g, x, rfl, hg0, hglt, hgx, cx, fx, hput⟩ := KT2.put (k := ob) HN.out elt
        have hp := hput (fr + ln)
        rw [Int.natCast_add] at hp
        have HP := Lib.hid hp
        have HB4 := Lib.hid (KB2.setCell (p := ⟨g, ob, none⟩) hg0 (.int .i64 ((fr : Int) + (ln : Int))))
        have i2 : (ob : Int) < (n : Int) := by omega
        have n0 : ((ob : Int) == (n : Int)) = false := by rw [beq_eq_false_iff_ne]; omega
        clear hgx hput hp MB KT2 KB2
        go_wp2
        go_roundw
        case rel => exact ⟨j + 1, some ⟨g, 0, none⟩, cc, by omega, by go_num, by rw [NX.out, List.length_set, HN.out], by rw [NX.out]; exact HP.out, HB4.out⟩
        case measure => simp [intOf]; omega
    · obtain rfl : j = l := by omega
      have j0 : ¬ (j : Int) < (j : Int) := by omega
      have tk : tot (es.take j) = m := by rw [List.take_of_length_le (by rw [HL.out]; exact Nat.le_refl _)]; exact HG.out.1
      have TK := Lib.hid tk
      have hT := KT.out
      rw [tk, ← E0.out] at hT
      have KT3 := Lib.hid hT
      have KL := Lib.hid (show (sizs U W D m).length ≤ cc by obtain ⟨A', c', e, h1, _⟩ := hT.form; injection e with _ _ e; rw [e]; exact h1)
      rw [tk, ← E0.out]
      clear tk hT KT
      generalize hz : sizs U W D m = z at *
      generalize hn : z.length = n at *
      have HN := Lib.hid hn
      clear hn
      go_wp2
      go_ret2
      have hn := HN.out
      subst hn
      exact ⟨C, cc, rfl, KL.out, KT3.out.down (by have := HB.out.size; simp at this; omega), below_box (HB.out.trans (KB.out.mono HB.out.size))⟩
end Go.Proofs.Ytlcbchpijijilaa.Stripe
