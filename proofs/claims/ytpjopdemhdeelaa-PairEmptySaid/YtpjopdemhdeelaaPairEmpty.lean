/-
  PairEmpty: for every slice of byte rows the law PairEmpty answers true (a disk of zeros more, behind all, changes nothing), and its argument reads afterwards as before. No condition.
-/
import Derived.Test.YtpjopdemhdeelaaTab
import Derived.Test.YtpjopdemhdeelaaOwnT
import Derived.Test.YtpjopdemhdeelaaPairAlive
import Derived.Deep.RegionHeld3
import Derived.Deep.DrawnRows
namespace Go.Proofs.Ytpjopdemhdeelaa.pairEmpty
open Go.ChangeShapes Go.WideShapes Go.ChangeAt Go.RowKit
open Gf Mem Poly Cdr Pair
set_option linter.unusedVariables false
attribute [local go_sem ↓] Go.wp_at_zero Go.wp_at_succ

/-- A whole slice appended to a row of the call's own that is empty, as a step of a region that draws. -/
theorem step_append_all {t e : TypeId} {bytes : Nat} (E : Elem t e bytes) {ops : Array Oper} {o : Oper} {a : Act} {K : Act → World → Prop} {Q : Exit → Act → World → Prop} {F : Prop} (hgd : o.guard = none) (s x : Operand)
    (ho : o.op = .call { callee := .builtin .append, args := #[s, x], argTypes := #[t, t] }) {w : World} {B : Nat} (v : Value) (hs : a.eval s = v) {us : List Value} (A : Option Addr) (m c : Nat) (hx : a.eval x = .slice A m c) (hm : us.length = m) (h0 : 0 < m) (hu : ∀ u ∈ us, u.oneCell' = true)
    (hr : Reads w A us) (hg : Grows w B e v []) (hl : m ≤ 5864062014805) (hl2 : m * bytes ≤ 140737488355328) (hB : B ≤ w.heap.size)
    (h : ∀ A' c' w', Hid (Grows w' B e (.slice A' m c') us) → Hid (w.grownBy w' v.ownBlock) → K (a.put o.dst (.slice A' m c')) w') :
    if Region.wanted o (yielded ops a.tmps) = true then Oper.wp Try.prog o a w K Q else F := by
  obtain ⟨i, z, hi, hz0, hz1, hz2, hz3⟩ := E.hi
  obtain ⟨b, of, rfl, _, _⟩ := hr 0 us[0] (List.getElem?_eq_getElem (by omega))
  refine step_append_lies w hgd s x t ho B e i z 1 bytes E.ht hi hz0 hz1 hz2 hz3 (by decide) v 0 [] hs hg ⟨b, of, none⟩ m c us hx (by omega) ?_ hu h0 (by unfold maxLen; omega) (by simpa using hl2) hB w.heap.size rfl ?_
  · intro j u hj
    obtain ⟨b', o', e1, _, h3⟩ := hr j u hj
    injection e1 with e1
    injection e1 with e1 e2
    subst e1 e2
    rw [Addr.add_lit]; exact h3
  · intro g cap w' k1 k2 _ _
    rw [Nat.zero_add] at k1 ⊢
    refine h _ cap w' ?_ k2
    rw [List.nil_append] at k1
    unfold Grows
    rw [hm]
    exact k1
def zrow (n : Nat) : List UInt8 := List.replicate n 0
theorem zrow_len (n : Nat) : (zrow n).length = n := List.length_replicate
def oE : Obj := .cells #[] 23
def oZ (n : Nat) : Obj := .cells (Array.replicate n (byt 0)) 5
def oX (n g : Nat) : Obj := .cells #[.slice (some ⟨g, 0, none⟩) n n] 23
/-- An empty row of the call's own in block g. -/
def Emp (W V : World) (g : Nat) : Prop := Grows V W.heap.size 23 (.slice (some ⟨g, 0, none⟩) 0 0) [] ∧ Below W.heap.size W V
theorem Emp.made {W V : World} {g : Nat} (h : Below W.heap.size W V) (hg : V.heap.size = g) : Emp W (V.alloc oE) g := by
  subst hg
  exact ⟨World.ownsRow_made V #[] 0 h.size (by simp) (by simp), h.alloc h.size _⟩
theorem Emp.alloc {W V : World} {g : Nat} (h : Emp W V g) (o : Obj) : Emp W (V.alloc o) g := ⟨h.1.alloc o, h.2.alloc h.2.size o⟩
theorem Emp.drew {W V : World} {g : Nat} (h : Emp W V g) : Emp W V.drew g := ⟨h.1.drew, below_drew h.2⟩
theorem own_made {V : World} {n g : Nat} (hg : V.heap.size = g) : Own (V.alloc (oZ n)) g (zrow n) := by subst hg; exact Own.made V n
theorem cell_made {V : World} {n g k : Nat} (hg : V.heap.size = g) : Known (V.alloc (oX n k)) g 23 #[.slice (some ⟨k, 0, none⟩) n n] := by subst hg; exact Known.made V _ _
theorem bl {W V : World} (h : Below W.heap.size W V) (o : Obj) : Below W.heap.size W (V.alloc o) := h.alloc h.size o
theorem sz1 (W : World) (o : Obj) : (W.alloc o).heap.size = W.heap.size + 1 := by simp
theorem sz2 (W : World) (o p : Obj) : ((W.alloc o).alloc p).heap.size = W.heap.size + 2 := by simp
/-- What is there when both rows have been appended. -/
def AtEnd (W V : World) (A : Option Addr) (rows : List (List UInt8)) (n : Nat) : Prop := Rds V A (rows ++ [zrow n]) ∧ Below W.heap.size W V
theorem at_end {W0 W V : World} {A : Option Addr} {us : List Value} {rows : List (List UInt8)} {m c n g : Nat} (hus : AreRows W0 us rows) (h0 : Below W0.heap.size W0 W) (hb : Below W.heap.size W V) (hg : Grows V W.heap.size 23 (.slice A m c) (us ++ [.slice (some ⟨g, 0, none⟩) n n])) (hz : Own V g (zrow n)) (hn : n ≤ 140737488351232) : AtEnd W V A rows n := by
  refine ⟨⟨_, hg.reads, (hus.below (h0.trans (hb.mono h0.size))).snoc ⟨some ⟨g, 0, none⟩, n, by rw [zrow_len], by rw [zrow_len]; exact Nat.le_refl _, by rw [zrow_len]; omega, hz.reads⟩⟩, hb⟩
theorem own_keeps {V V' : World} {g : Nat} {l : List UInt8} {row : Option Nat} (h : Own V g l) (hg : V.grownBy V' row) (hne : some g ≠ row) : Own V' g l := known_grown h hg hne
theorem below_gr {W V V' : World} {v : Value} {xs : List Value} (hb : Below W.heap.size W V) (h : Grows V W.heap.size 23 v xs) (hg : V.grownBy V' v.ownBlock) : Below W.heap.size W V' := h.below hg hb (Nat.le_refl _) hb.size
theorem empty_ok {rows : List (List UInt8)} (h : wrongE rows = 0) (hl : rows.length ≠ 255) : wrongE (rows ++ [zrow (wide rows)]) = 0 ∧ wide (rows ++ [zrow (wide rows)]) = wide rows ∧ par 1 (rows ++ [zrow (wide rows)]) = par 1 rows ∧ par 2 (rows ++ [zrow (wide rows)]) = par 2 rows := by
  obtain ⟨h0, h1, h2⟩ := wrongE_ok h
  have hw : wide (rows ++ [zrow (wide rows)]) = wide rows := by
    cases rows with
    | nil => simp at h0
    | cons r l => rfl
  refine ⟨wrongE_of (by simp) (by simp; omega) ?_, hw, ?_, ?_⟩
  · refine List.all_eq_true.2 fun q hq => ?_
    have hh : ((rows ++ [zrow (wide rows)]).headD []).length = wide rows := hw
    rw [hh]
    rcases List.mem_append.1 hq with hq | hq
    · obtain ⟨k, hk, rfl⟩ := List.mem_iff_getElem.1 hq
      simpa using even_len h2 (List.getElem?_eq_getElem hk)
    · simp at hq; subst hq; simp [zrow_len]
  · refine row_ext (n := wide rows) (by rw [par_len, hw]) (par_len _ _) fun i hi => ?_
    rw [co_par (by rw [hw]; exact hi), co_par hi]
    exact sum_snoc0 1 rows (wide rows) i
  · refine row_ext (n := wide rows) (by rw [par_len, hw]) (par_len _ _) fun i hi => ?_
    rw [co_par (by rw [hw]; exact hi), co_par hi]
    exact sum_snoc0 2 rows (wide rows) i
set_option maxRecDepth 100000 in
set_option maxHeartbeats 4000000 in
theorem early (A : Option Addr) (rows : List (List UInt8)) (ca : Nat) (W : World) (hs : Sane rows) (hc : rows.length ≤ ca) (hR : Rds W A rows) (h : wrongE rows ≠ 0 ∨ (wrongE rows = 0 ∧ rows.length = 255)) :
    Calls Try.prog 8 #[.slice A rows.length ca] W (Law.Yes W) := by
  have h1 := alive_c make_c two_c W
  have H1 := Lib.hid h1
  rcases h with h | ⟨h, hb⟩
  · have h2 := fun k (hk : wrongE rows = k) V (hb : Below W.heap.size W V) => make_no A rows ca rows.length k rfl hs hc hk (by rw [← hk]; exact h) V (hR.below hb)
    have hk : wrongE rows = 1 ∨ wrongE rows = 2 := by rcases wrongE_012 rows with k | k | k; exact absurd k h; exact .inl k; exact .inr k
    rcases hk with hk | hk
    all_goals
      have H2 := Lib.hid (h2 _ hk)
      clear h1 h2 hk h hs hc hR
      generalize rows.length = l at *
      go_enter Try.func8, Try.ntmps8
      go_wp2_with fail
      refine H1.out.mono ?_
      rintro e w1 ⟨rfl, hb1⟩
      have B1 := Lib.hid hb1
      clear hb1
      go_wp2_with fail
      refine (H2.out w1 B1.out).mono ?_
      rintro e w2 ⟨A2, B2, c2, d2, rfl, _, _, _, _, hb2⟩
      have B2 := Lib.hid (B1.out.trans (hb2.mono B1.out.size))
      clear hb2
      go_wp2
      go_ret
      exact ⟨rfl, B2.out⟩
  · have h2 := fun V (hb' : Below W.heap.size W V) => make_n A rows ca 255 (wide rows) hb rfl hs (by omega) h V (hR.below hb')
    rw [hb]
    have H2 := Lib.hid h2
    clear h1 h2 h hs hc hR hb
    generalize wide rows = n at *
    · skip
      go_enter Try.func8, Try.ntmps8
      go_wp2_with fail
      refine H1.out.mono ?_
      rintro e w1 ⟨rfl, hb1⟩
      have B1 := Lib.hid hb1
      clear hb1
      go_wp2_with fail
      refine (H2.out w1 B1.out).mono ?_
      rintro e w2 ⟨A2, B2, c2, d2, rfl, _, _, _, _, hb2⟩
      have B2 := Lib.hid (B1.out.trans (hb2.mono B1.out.size))
      clear hb2
      go_wp2
      go_ret
      exact ⟨rfl, B2.out⟩
theorem own_apart {V V' : World} {B g m c : Nat} {A : Option Addr} {us : List Value} {l : List UInt8} (hG : Grows V B 23 (.slice A m c) us) (h : Own V g l) (hg : V.grownBy V' (Value.ownBlock (.slice A m c))) (h0 : 0 < us.length) : Own V' g l := by
  obtain ⟨g', rfl, _⟩ := hG.head h0
  refine own_keeps h hg (fun e => ?_)
  have e : some g = some g' := e
  injection e with e
  subst e
  obtain ⟨_, h2⟩ := hG
  rcases h2 with ⟨h2, _⟩ | ⟨g2, c2, cur, h2, _, hh, _⟩
  · cases h2
  · injection h2 with h2
    injection h2 with h2
    injection h2 with h2
    subst h2
    unfold Own Known at h
    rw [hh] at h
    injection h with h
    injection h with _ h _
    revert h
    decide
theorem grow_le {V : World} {B n c : Nat} {A : Option Addr} {us : List Value} {u : Value} {l : Nat} (hG : Grows V B 23 (.slice A n c) (us ++ [u])) (hl : us.length = l) : l + 1 ≤ c := by
  obtain ⟨A', c', e, h1, _⟩ := hG.form
  injection e with _ _ e
  rw [List.length_append, hl] at h1
  rw [e]; exact h1
set_option maxRecDepth 100000 in
set_option maxHeartbeats 8000000 in
theorem main (A : Option Addr) (rows : List (List UInt8)) (ca : Nat) (W : World) (hs : Sane rows) (hc : rows.length ≤ ca) (hR : Rds W A rows) (h : wrongE rows = 0) (hl5 : rows.length ≠ 255) :
    Calls Try.prog 8 #[.slice A rows.length ca] W (Law.Yes W) := by
  have h1 := alive_c make_c two_c W
  have h2 := fun V (hb : Below W.heap.size W V) => make_n A rows ca rows.length (wide rows) rfl rfl hs hc h V (hR.below hb)
  obtain ⟨h0, hbig, hev⟩ := wrongE_ok h
  obtain ⟨us, hus, har⟩ := hR
  obtain ⟨k1, k2, k3, k4⟩ := empty_ok h hl5
  have hs2 : Sane (rows ++ [zrow (wide rows)]) := ⟨by rw [List.length_append]; simp; omega, fun q hq => by
    rcases List.mem_append.1 hq with hq | hq
    · exact hs.2 q hq
    · simp at hq; subst hq; rw [zrow_len]; exact hs.head⟩
  have h3 := fun A' c' V (hc' : rows.length + 1 ≤ c') (hV : Rds V A' (rows ++ [zrow (wide rows)])) => make_n A' (rows ++ [zrow (wide rows)]) c' (rows.length + 1) (wide rows) (by simp) k2 hs2 hc' k1 V hV
  rw [k3, k4] at h3
  have l1 := par_len 1 rows
  have l2 := par_len 2 rows
  have hmk := make8 (wide rows) (by have := hs.head; show (rows.headD []).length ≤ _; omega)
  have d1 : ((rows.length : Int) == 255) = false := by rw [beq_eq_false_iff_ne]; omega
  have H1 := Lib.hid h1
  have H2 := Lib.hid h2
  have H3 := Lib.hid h3
  have US := Lib.hid hus
  have AR := Lib.hid har
  have HUL := Lib.hid har.1
  have HONE := Lib.hid (rows_one har)
  have HPOS := Lib.hid h0
  have HN : Hid (wide rows ≤ 140737488351232) := Lib.hid hs.head
  have L1 := Lib.hid l1
  have L2 := Lib.hid l2
  have HSL := Lib.hid (show rows.length ≤ 5864062014805 by omega)
  have HSL2 := Lib.hid (show rows.length * 24 ≤ 140737488355328 by omega)
  have HL1 := Lib.hid (show us.length + 1 ≤ maxLen by rw [har.1]; unfold maxLen; omega)
  have HL2 := Lib.hid (show (us.length + 1) * 24 ≤ 140737488355328 by rw [har.1]; omega)
  clear h1 h2 h3 h hs hus har hev l1 l2 h0 hc k1 k2 k3 k4 hs2 hl5
  generalize hl : rows.length = l at *
  have HL := Lib.hid hl
  generalize hnn : wide rows = n at *
  have HNN := Lib.hid hnn
  clear hl hnn
  go_enter Try.func8, Try.ntmps8
  go_wp2_with fail
  refine H1.out.mono ?_
  rintro e w1 ⟨rfl, hb1⟩
  have B1 := Lib.hid hb1
  clear hb1
  go_wp2_with fail
  refine (H2.out w1 B1.out).mono ?_
  rintro e w2 ⟨A2, B2, c2, d2', rfl, hc2, hd2, hx2, hy2, hb2⟩
  have K2 := Lib.hid (B1.out.trans (hb2.mono B1.out.size))
  have X2 := Lib.hid hx2
  have Y2 := Lib.hid hy2
  clear hx2 hy2 hb2 H1 H2
  have F1 := Lib.hid (show Emp w2 (w2.alloc oE).drew (w2.heap.size) from (Emp.made (Below.refl _ _) rfl).drew)
  have R1 := Lib.hid (show Reads (w2.alloc oE).drew A us from (US.out.below (K2.out.trans (F1.out.2.mono K2.out.size))))
  have F2 := Lib.hid (show Emp w2 ((w2.alloc oE).alloc (oZ n)).drew (w2.heap.size) from ((Emp.made (Below.refl _ _) rfl).alloc _).drew)
  have Z2 := Lib.hid (show Own ((w2.alloc oE).alloc (oZ n)).drew (w2.heap.size + 1) (zrow n) from (own_made (sz1 _ _)).drew)
  have R2 := Lib.hid (show Reads ((w2.alloc oE).alloc (oZ n)).drew A us from (US.out.below (K2.out.trans (F2.out.2.mono K2.out.size))))
  have F3 := Lib.hid (show Emp w2 (((w2.alloc oE).alloc (oZ n)).alloc (oX n (w2.heap.size + 1))).drew (w2.heap.size) from (((Emp.made (Below.refl _ _) rfl).alloc _).alloc _).drew)
  have Z3 := Lib.hid (show Own (((w2.alloc oE).alloc (oZ n)).alloc (oX n (w2.heap.size + 1))).drew (w2.heap.size + 1) (zrow n) from ((own_made (sz1 _ _)).alloc _).drew)
  have Y3 := Lib.hid (show Known (((w2.alloc oE).alloc (oZ n)).alloc (oX n (w2.heap.size + 1))).drew (w2.heap.size + 2) 23 #[.slice (some ⟨w2.heap.size + 1, 0, none⟩) n n] from (cell_made (sz2 _ _ _)))
  have R3 := Lib.hid (show Reads (((w2.alloc oE).alloc (oZ n)).alloc (oX n (w2.heap.size + 1))).drew A us from (US.out.below (K2.out.trans (F3.out.2.mono K2.out.size))))
  have F4 := Lib.hid (show Emp w2 ((w2.alloc (oZ n)).alloc oE).drew (w2.heap.size + 1) from (Emp.made (bl (Below.refl _ _) _) (sz1 _ _)).drew)
  have Z4 := Lib.hid (show Own ((w2.alloc (oZ n)).alloc oE).drew (w2.heap.size) (zrow n) from ((own_made rfl).alloc _).drew)
  have R4 := Lib.hid (show Reads ((w2.alloc (oZ n)).alloc oE).drew A us from (US.out.below (K2.out.trans (F4.out.2.mono K2.out.size))))
  have F5 := Lib.hid (show Emp w2 (((w2.alloc (oZ n)).alloc oE).alloc (oX n w2.heap.size)).drew (w2.heap.size + 1) from ((Emp.made (bl (Below.refl _ _) _) (sz1 _ _)).alloc _).drew)
  have Z5 := Lib.hid (show Own (((w2.alloc (oZ n)).alloc oE).alloc (oX n w2.heap.size)).drew (w2.heap.size) (zrow n) from (((own_made rfl).alloc _).alloc _).drew)
  have Y5 := Lib.hid (show Known (((w2.alloc (oZ n)).alloc oE).alloc (oX n w2.heap.size)).drew (w2.heap.size + 2) 23 #[.slice (some ⟨w2.heap.size, 0, none⟩) n n] from (cell_made (sz2 _ _ _)))
  have R5 := Lib.hid (show Reads (((w2.alloc (oZ n)).alloc oE).alloc (oX n w2.heap.size)).drew A us from (US.out.below (K2.out.trans (F5.out.2.mono K2.out.size))))
  have F6 := Lib.hid (show Emp w2 (((w2.alloc (oZ n)).alloc (oX n w2.heap.size)).alloc oE).drew (w2.heap.size + 2) from (Emp.made (bl (bl (Below.refl _ _) _) _) (sz2 _ _ _)).drew)
  have Z6 := Lib.hid (show Own (((w2.alloc (oZ n)).alloc (oX n w2.heap.size)).alloc oE).drew (w2.heap.size) (zrow n) from (((own_made rfl).alloc _).alloc _).drew)
  have Y6 := Lib.hid (show Known (((w2.alloc (oZ n)).alloc (oX n w2.heap.size)).alloc oE).drew (w2.heap.size + 1) 23 #[.slice (some ⟨w2.heap.size, 0, none⟩) n n] from ((cell_made (sz1 _ _)).alloc _))
  have R6 := Lib.hid (show Reads (((w2.alloc (oZ n)).alloc (oX n w2.heap.size)).alloc oE).drew A us from (US.out.below (K2.out.trans (F6.out.2.mono K2.out.size))))
  go_upto_region 6 with fail
  go_cut [6, 7, 8] (fun x y z wx => ∃ (A6 B6 : Option Addr) (c6 d6 : Nat), x = .slice A6 n c6 ∧ y = .slice B6 n d6 ∧ z = .int .i64 0 ∧ Reads wx A6 ((par 1 rows).map byt) ∧ Reads wx B6 ((par 2 rows).map byt) ∧ Below w2.heap.size w2 wx)
  case first =>
    go_region_held3 (fun w' => True) (first | trivial | go_keep)
      (first
        | (refine step_append_all elemS8 (by rfl) (.tmp 25) (.tmp 26) (by rfl) (.slice (some ⟨w2.heap.size, 0, none⟩) 0 0) (by rfl) A l ca (by rfl) HUL.out HPOS.out HONE.out R1.out F1.out.1 HSL.out HSL2.out F1.out.2.size ?_; intro A4 c4 w4 hT4 hgr4; have T4 := Lib.hid hT4.out; have K4 := Lib.hid (below_gr F1.out.2 F1.out.1 hgr4.out); clear hT4 hgr4)
        | (refine step_append_all elemS8 (by rfl) (.tmp 25) (.tmp 26) (by rfl) (.slice (some ⟨w2.heap.size, 0, none⟩) 0 0) (by rfl) A l ca (by rfl) HUL.out HPOS.out HONE.out R2.out F2.out.1 HSL.out HSL2.out F2.out.2.size ?_; intro A4 c4 w4 hT4 hgr4; have T4 := Lib.hid hT4.out; have K4 := Lib.hid (below_gr F2.out.2 F2.out.1 hgr4.out); have Z4 := Lib.hid (own_keeps Z2.out hgr4.out (show some (w2.heap.size + 1) ≠ some (w2.heap.size) from fun e => by injection e with e; omega)); clear hT4 hgr4)
        | (refine step_append_all elemS8 (by rfl) (.tmp 25) (.tmp 26) (by rfl) (.slice (some ⟨w2.heap.size, 0, none⟩) 0 0) (by rfl) A l ca (by rfl) HUL.out HPOS.out HONE.out R3.out F3.out.1 HSL.out HSL2.out F3.out.2.size ?_; intro A4 c4 w4 hT4 hgr4; have T4 := Lib.hid hT4.out; have K4 := Lib.hid (below_gr F3.out.2 F3.out.1 hgr4.out); have Z4 := Lib.hid (own_keeps Z3.out hgr4.out (show some (w2.heap.size + 1) ≠ some (w2.heap.size) from fun e => by injection e with e; omega)); have Y4 := Lib.hid (known_grown Y3.out hgr4.out (show some (w2.heap.size + 2) ≠ some (w2.heap.size) from fun e => by injection e with e; omega)); clear hT4 hgr4)
        | (refine step_append_all elemS8 (by rfl) (.tmp 25) (.tmp 26) (by rfl) (.slice (some ⟨w2.heap.size + 1, 0, none⟩) 0 0) (by rfl) A l ca (by rfl) HUL.out HPOS.out HONE.out R4.out F4.out.1 HSL.out HSL2.out F4.out.2.size ?_; intro A4 c4 w4 hT4 hgr4; have T4 := Lib.hid hT4.out; have K4 := Lib.hid (below_gr F4.out.2 F4.out.1 hgr4.out); have Z4 := Lib.hid (own_keeps Z4.out hgr4.out (show some (w2.heap.size) ≠ some (w2.heap.size + 1) from fun e => by injection e with e; omega)); clear hT4 hgr4)
        | (refine step_append_all elemS8 (by rfl) (.tmp 25) (.tmp 26) (by rfl) (.slice (some ⟨w2.heap.size + 1, 0, none⟩) 0 0) (by rfl) A l ca (by rfl) HUL.out HPOS.out HONE.out R5.out F5.out.1 HSL.out HSL2.out F5.out.2.size ?_; intro A4 c4 w4 hT4 hgr4; have T4 := Lib.hid hT4.out; have K4 := Lib.hid (below_gr F5.out.2 F5.out.1 hgr4.out); have Z4 := Lib.hid (own_keeps Z5.out hgr4.out (show some (w2.heap.size) ≠ some (w2.heap.size + 1) from fun e => by injection e with e; omega)); have Y4 := Lib.hid (known_grown Y5.out hgr4.out (show some (w2.heap.size + 2) ≠ some (w2.heap.size + 1) from fun e => by injection e with e; omega)); clear hT4 hgr4)
        | (refine step_append_all elemS8 (by rfl) (.tmp 25) (.tmp 26) (by rfl) (.slice (some ⟨w2.heap.size + 2, 0, none⟩) 0 0) (by rfl) A l ca (by rfl) HUL.out HPOS.out HONE.out R6.out F6.out.1 HSL.out HSL2.out F6.out.2.size ?_; intro A4 c4 w4 hT4 hgr4; have T4 := Lib.hid hT4.out; have K4 := Lib.hid (below_gr F6.out.2 F6.out.1 hgr4.out); have Z4 := Lib.hid (own_keeps Z6.out hgr4.out (show some (w2.heap.size) ≠ some (w2.heap.size + 2) from fun e => by injection e with e; omega)); have Y4 := Lib.hid (known_grown Y6.out hgr4.out (show some (w2.heap.size + 1) ≠ some (w2.heap.size + 2) from fun e => by injection e with e; omega)); clear hT4 hgr4)
        | (refine step_append_gen elemS8 (by rfl) (.tmp 27) (.tmp 31) (by rfl) (u := .slice (some ⟨w4.heap.size, 0, none⟩) n n) (by rfl) (.slice A4 l c4) (by rfl) (w4.heap.size + 1) (by rfl) ((T4.out.alloc (oZ n)).alloc (oX n w4.heap.size)) ((cell_made (sz1 _ _)).cell 0) HL1.out HL2.out (bl (bl K4.out (oZ n)) (oX n w4.heap.size)).size ?_; intro A5 c5 w5 hG5 hgr5; have FIN := Lib.hid (show AtEnd w2 w5 A5 rows n from at_end AR.out K2.out (below_gr (bl (bl K4.out (oZ n)) (oX n w4.heap.size)) ((T4.out.alloc (oZ n)).alloc (oX n w4.heap.size)) hgr5.out) hG5.out (own_apart ((T4.out.alloc (oZ n)).alloc (oX n w4.heap.size)) ((own_made rfl).alloc (oX n w4.heap.size)) hgr5.out (by rw [HUL.out]; exact HPOS.out)) HN.out); have LE5 := Lib.hid (grow_le hG5.out HUL.out); rw [HUL.out]; clear hG5 hgr5)
        | (refine step_append_gen elemS8 (by rfl) (.tmp 27) (.tmp 31) (by rfl) (u := .slice (some ⟨w2.heap.size + 1, 0, none⟩) n n) (by rfl) (.slice A4 l c4) (by rfl) (w4.heap.size) (by rfl) (T4.out.alloc (oX n (w2.heap.size + 1))) ((cell_made rfl).cell 0) HL1.out HL2.out (bl K4.out (oX n (w2.heap.size + 1))).size ?_; intro A5 c5 w5 hG5 hgr5; have FIN := Lib.hid (show AtEnd w2 w5 A5 rows n from at_end AR.out K2.out (below_gr (bl K4.out (oX n (w2.heap.size + 1))) (T4.out.alloc (oX n (w2.heap.size + 1))) hgr5.out) hG5.out (own_apart (T4.out.alloc (oX n (w2.heap.size + 1))) (Z4.out.alloc (oX n (w2.heap.size + 1))) hgr5.out (by rw [HUL.out]; exact HPOS.out)) HN.out); have LE5 := Lib.hid (grow_le hG5.out HUL.out); rw [HUL.out]; clear hG5 hgr5)
        | (refine step_append_gen elemS8 (by rfl) (.tmp 27) (.tmp 31) (by rfl) (u := .slice (some ⟨w2.heap.size, 0, none⟩) n n) (by rfl) (.slice A4 l c4) (by rfl) (w4.heap.size) (by rfl) (T4.out.alloc (oX n (w2.heap.size))) ((cell_made rfl).cell 0) HL1.out HL2.out (bl K4.out (oX n (w2.heap.size))).size ?_; intro A5 c5 w5 hG5 hgr5; have FIN := Lib.hid (show AtEnd w2 w5 A5 rows n from at_end AR.out K2.out (below_gr (bl K4.out (oX n (w2.heap.size))) (T4.out.alloc (oX n (w2.heap.size))) hgr5.out) hG5.out (own_apart (T4.out.alloc (oX n (w2.heap.size))) (Z4.out.alloc (oX n (w2.heap.size))) hgr5.out (by rw [HUL.out]; exact HPOS.out)) HN.out); have LE5 := Lib.hid (grow_le hG5.out HUL.out); rw [HUL.out]; clear hG5 hgr5)
        | (refine step_append_gen elemS8 (by rfl) (.tmp 27) (.tmp 31) (by rfl) (u := .slice (some ⟨w2.heap.size + 1, 0, none⟩) n n) (by rfl) (.slice A4 l c4) (by rfl) (w2.heap.size + 2) (by rfl) (T4.out) (Y4.out.cell 0) HL1.out HL2.out (K4.out).size ?_; intro A5 c5 w5 hG5 hgr5; have FIN := Lib.hid (show AtEnd w2 w5 A5 rows n from at_end AR.out K2.out (below_gr (K4.out) (T4.out) hgr5.out) hG5.out (own_apart (T4.out) (Z4.out) hgr5.out (by rw [HUL.out]; exact HPOS.out)) HN.out); have LE5 := Lib.hid (grow_le hG5.out HUL.out); rw [HUL.out]; clear hG5 hgr5)
        | (refine step_append_gen elemS8 (by rfl) (.tmp 27) (.tmp 31) (by rfl) (u := .slice (some ⟨w2.heap.size, 0, none⟩) n n) (by rfl) (.slice A4 l c4) (by rfl) (w2.heap.size + 2) (by rfl) (T4.out) (Y4.out.cell 0) HL1.out HL2.out (K4.out).size ?_; intro A5 c5 w5 hG5 hgr5; have FIN := Lib.hid (show AtEnd w2 w5 A5 rows n from at_end AR.out K2.out (below_gr (K4.out) (T4.out) hgr5.out) hG5.out (own_apart (T4.out) (Z4.out) hgr5.out (by rw [HUL.out]; exact HPOS.out)) HN.out); have LE5 := Lib.hid (grow_le hG5.out HUL.out); rw [HUL.out]; clear hG5 hgr5)
        | (refine step_append_gen elemS8 (by rfl) (.tmp 27) (.tmp 31) (by rfl) (u := .slice (some ⟨w2.heap.size, 0, none⟩) n n) (by rfl) (.slice A4 l c4) (by rfl) (w2.heap.size + 1) (by rfl) (T4.out) (Y4.out.cell 0) HL1.out HL2.out (K4.out).size ?_; intro A5 c5 w5 hG5 hgr5; have FIN := Lib.hid (show AtEnd w2 w5 A5 rows n from at_end AR.out K2.out (below_gr (K4.out) (T4.out) hgr5.out) hG5.out (own_apart (T4.out) (Z4.out) hgr5.out (by rw [HUL.out]; exact HPOS.out)) HN.out); have LE5 := Lib.hid (grow_le hG5.out HUL.out); rw [HUL.out]; clear hG5 hgr5)
        | (go_at_call 9; refine (H3.out A5 c5 w5 LE5.out FIN.out.1).mono ?_; rintro e w6 ⟨A6, B6, c6, d6, rfl, _, _, hx6, hy6, hb6⟩; have K6 := Lib.hid (FIN.out.2.trans (hb6.mono FIN.out.2.size)); have X6 := Lib.hid hx6; have Y6 := Lib.hid hy6; clear hx6 hy6 hb6))
    all_goals go_wp2_with fail
    all_goals go_meet
    all_goals exact ⟨A6, B6, c6, d6, rfl, rfl, rfl, X6.out, Y6.out, K6.out⟩
  case rest =>
    obtain ⟨A6, B6, c6, d6, rfl, rfl, rfl, hx6, hy6, hb6⟩ := hcut
    have X6 := Lib.hid hx6
    have Y6 := Lib.hid hy6
    have P6 := Lib.hid (X2.out.below hb6)
    have Q6 := Lib.hid (Y2.out.below hb6)
    have K6 := Lib.hid (K2.out.trans (hb6.mono K2.out.size))
    clear hx6 hy6 hb6
    go_wp2_with fail
    refine (equal_n A6 A2 (par 1 rows) (par 1 rows) c6 c2 n n wc L1.out L1.out X6.out P6.out rfl).mono ?_
    rintro e w' ⟨rfl, rfl⟩
    go_wp2_with fail
    refine (equal_n B6 B2 (par 2 rows) (par 2 rows) d6 d2' n n _ L2.out L2.out Y6.out Q6.out rfl).mono ?_
    rintro e w' ⟨rfl, rfl⟩
    go_wp2
    go_ret
    exact ⟨rfl, K6.out⟩
theorem words (A : Option Addr) (rows : List (List UInt8)) (ca : Nat) (W : World) (hs : Sane rows) (hc : rows.length ≤ ca) (hR : Rds W A rows) :
    Calls Try.prog 8 #[.slice A rows.length ca] W (Law.Yes W) := by
  by_cases h : wrongE rows = 0
  · by_cases hb : rows.length = 255
    · exact early A rows ca W hs hc hR (.inr ⟨h, hb⟩)
    · exact main A rows ca W hs hc hR h hb
  · exact early A rows ca W hs hc hR (.inl h)
theorem walk {H : Type} {enc : TypeId × Value → H} {base : Nat} {W : World} {v0 : Value} {d0 : DataW H} {p0 : List MemPlace}
    (o0 : Value.okWide Try.prog W .any base 22 v0) (h0 : DataW.Trod enc Try.prog W 0 (fun _ => true) true 22 v0 d0 p0)
    (hz : (DataW.weightsEach Try.prog [22] [d0]).all (· ≤ reachBytes) = true) :
    Calls Try.prog 8 #[v0] W (Law.Yes W) := by
  obtain ⟨A0, c0, l0, rfl, z0, k0, _, r0, s0⟩ := open_rowsZ Try.underlying22 Try.underlying23 Try.underlying5 (by kernel_rfl) (by kernel_rfl) (by kernel_rfl) (by kernel_rfl) o0 h0 hz (j := 0) rfl rfl
  exact words A0 l0 c0 W ⟨z0, s0⟩ k0 r0
theorem own : ownKnob Try.prog.godebug = none := by kernel_rfl
theorem laid : laidOutB Try.prog = true := by kernel_rfl
theorem pars : ∀ t ∈ Try.f8.params.toList, Try.prog.readableRec t = true ∧ t < Try.prog.types.size := by
  have h : Try.f8.params.toList.all (fun t => Try.prog.readableRec t && decide (t < Try.prog.types.size)) = true := by kernel_rfl
  intro t ht; have := List.all_eq_true.1 h t ht; simpa using this
theorem calls (H : Type) (enc : TypeId × Value → H) (W : World) (base : Nat) (args : Array Value) (ds : List (DataW H)) (before : List MemPlace)
    (hval : ∀ (j : Nat) t v, Try.f8.params[j]? = some t → args[j]? = some v → Value.okWide Try.prog W .any base t v)
    (hA : DataW.TrodAll enc Try.prog W 0 (fun _ => true) true Try.f8.params.toList args.toList ds before) (hz : (DataW.weightsEach Try.prog Try.f8.params.toList ds).all (· ≤ reachBytes) = true) :
    Calls Try.prog 8 args W (Law.Yes W) := by
  rw [Try.params8] at hA hval hz
  obtain ⟨v0, vs0, d0, ds0, p0, q0, hargs, rfl, rfl, h0, r0⟩ := trodAll_cons hA
  obtain ⟨rfl, rfl, rfl⟩ := trodAll_nil r0
  obtain rfl : args = #[v0] := by cases args; simp_all
  exact walk (W := W) (hval 0 22 v0 rfl rfl) h0 hz
theorem fnOf (H : Type) : ∀ ds : List (DataW H), ds.length = Try.f8.params.toList.length → Rows.pairEmptySpec.fn H ds = { results := [.lit (.bool true)], args := ds } := by
  intro ds h
  have h : ds.length = 1 := h
  obtain _ | ⟨x0, ds⟩ := ds
  · simp at h
  obtain rfl : ds = [] := List.eq_nil_of_length_eq_zero (by simpa using h)
  rfl
set_option maxRecDepth 100000 in
theorem lifted (os : Os) (started : os.Started) (H : Type) (enc : TypeId × Value → H) :
    ReturnsInHanded {} Try.checked os 8 .any (Rows.pairEmptySpec.pre6 enc Try.prog Try.f8 Rows.pairEmptyRow.domain false) (Rows.pairEmptySpec.post enc Try.prog Try.f8 false true false false) := by
  refine returnsInHanded_of_change_sized (C := Try.checked) own started (by kernel_rfl) Try.func8
    (ChangeSpec.witness6 (enc := enc) (C := Try.checked) false ⟨#[], #[.slice none 0 0], []⟩ 8 (by kernel_rfl) (by kernel_rfl) (by kernel_rfl) (by kernel_rfl)) ?_
  intro W base args ds gs before hval hW _ hz _
  obtain ⟨p, q, hA, hV, rfl, hfz, hnd⟩ := id hW
  obtain ⟨rfl, rfl⟩ := trodVars_none hV
  simp only [List.append_nil] at hz
  have hz2 : (DataW.weightsEach Try.prog Try.f8.params.toList ds).all (· ≤ reachBytes) = true := hz
  exact Law.ending (C := Try.checked) (s := Rows.pairEmptySpec) laid pars rfl Try.underlying4 rfl (fnOf H) hW (calls H enc W base args ds p hval hA hz2)
theorem over : Rows.pairEmptyRow.holds Try.pinned (OpenSpec.ofChange Rows.pairEmptySpec) :=
  OpenClaim.holds_of_wide 8 Try.f8 rfl rfl rfl rfl rfl rfl rfl ⟨rfl, rfl, rfl, rfl, rfl⟩ rfl rfl rfl rfl rfl (by kernel_rfl) Try.func8 (by kernel_rfl)
    (of_decide_eq_true (by kernel_rfl)) (by unfold Func.isWrapper; first | (rw [if_pos (by decide +kernel)]; kernel_rfl) | (rw [if_neg (by decide +kernel)]; exact ⟨rfl, rfl⟩))
    (fun os started H enc _ => lifted os started H enc)
theorem proved : Rows.PairEmptySaid := over
end Go.Proofs.Ytpjopdemhdeelaa.pairEmpty
