/-
  The reference's DMore.
-/
import Derived.Test.YtomhcjnhhdbhjaaFillRef
import Derived.Test.YtomhcjnhhdbhjaaTable
namespace Go.Proofs.Ytomhcjnhhdbhjaa.Cdr
set_option linter.unusedVariables false
open Go.RowKit Gf Mem Poly

def idx (n : Nat) : List UInt8 := (List.range n).map UInt8.ofNat
theorem idx_len (n : Nat) : (idx n).length = n := by simp [idx]
theorem idx_succ (n : Nat) : idx (n + 1) = idx n ++ [UInt8.ofNat n] := by unfold idx; rw [List.range_succ, List.map_append]; rfl
theorem idx_map {k : Nat} (h : k < 256) : (idx (k + 1)).map byt = (idx k).map byt ++ [Value.int .u8 (k : Int)] := by
  rw [idx_succ, List.map_append]
  show _ ++ [Value.int .u8 ((UInt8.ofNat k).toNat : Int)] = _
  rw [UInt8.toNat_ofNat', Nat.mod_eq_of_lt (by omega)]
theorem idx_nodup {n : Nat} (h : n ≤ 256) : (idx n).Nodup := by
  refine List.pairwise_map.2 (List.Pairwise.imp_of_mem ?_ List.nodup_range)
  intro a b ha hb hne e
  have h1 := congrArg UInt8.toNat e
  rw [UInt8.toNat_ofNat', UInt8.toNat_ofNat'] at h1
  rw [List.mem_range] at ha hb
  omega
/-- The rows that are added. -/
def Adds (rows : List (List UInt8)) (m : Nat) (outs : List (List UInt8)) : Prop :=
  outs.length = m ∧ ∀ (j : Nat) (out : List UInt8), outs[j]? = some out → out.length = (rows.headD []).length ∧ Fill (idx rows.length) rows (UInt8.ofNat (rows.length + j)) out
theorem adds_nil (rows : List (List UInt8)) : Adds rows 0 [] := ⟨rfl, fun j out h => by simp at h⟩
theorem adds_snoc {rows : List (List UInt8)} {m : Nat} {outs : List (List UInt8)} {out : List UInt8} (h : Adds rows m outs) (hl : out.length = (rows.headD []).length) (hf : Fill (idx rows.length) rows (UInt8.ofNat (rows.length + m)) out) : Adds rows (m + 1) (outs ++ [out]) := by
  refine ⟨by rw [List.length_append, h.1]; rfl, fun j o ho => ?_⟩
  by_cases hj : j < outs.length
  · rw [List.getElem?_append_left hj] at ho; exact h.2 j o ho
  · rw [List.getElem?_append_right (by omega)] at ho
    have h0 : j - outs.length = 0 := by
      rcases Nat.eq_zero_or_pos (j - outs.length) with h3 | h3
      · exact h3
      · rw [List.getElem?_eq_none (by simp; omega)] at ho; cases ho
    rw [h0] at ho
    simp at ho
    subst ho
    have : j = m := by have := h.1; omega
    subst this
    exact ⟨hl, hf⟩
theorem adds_unique {rows : List (List UInt8)} {m : Nat} {outs outs' : List (List UInt8)} (hn : rows.length ≤ 256) (h : Adds rows m outs) (h' : Adds rows m outs') : outs = outs' := by
  apply List.ext_getElem (h.1.trans h'.1.symm)
  intro j h1 h2
  obtain ⟨l1, f1⟩ := h.2 j _ (List.getElem?_eq_getElem h1)
  obtain ⟨l2, f2⟩ := h'.2 j _ (List.getElem?_eq_getElem h2)
  exact fill_unique (idx_nodup hn) (idx_len _) f1 f2 (l1.trans l2.symm)

def badMore (n : Nat) (more : Int) : Prop := n = 0 ∨ 100 < n ∨ more < 0 ∨ 100 < more
/-- What the rows that are added are, or why there are none. -/
def MoreIs (rows : List (List UInt8)) (more : Int) (outs : List (List UInt8)) (err : Int) : Prop :=
  (badMore rows.length more ∧ err = 2 ∧ outs = []) ∨ (¬ badMore rows.length more ∧ evenB rows = false ∧ err = 1 ∧ outs = []) ∨ (¬ badMore rows.length more ∧ evenB rows = true ∧ err = 0 ∧ Adds rows more.toNat outs)
theorem more_unique {rows : List (List UInt8)} {more : Int} {outs outs' : List (List UInt8)} {err err' : Int} (h : MoreIs rows more outs err) (h' : MoreIs rows more outs' err') : err = err' ∧ outs = outs' := by
  rcases h with ⟨a1, a2, a3⟩ | ⟨a1, a2, a3, a4⟩ | ⟨a1, a2, a3, a4⟩ <;> rcases h' with ⟨b1, b2, b3⟩ | ⟨b1, b2, b3, b4⟩ | ⟨b1, b2, b3, b4⟩
  · exact ⟨a2.trans b2.symm, a3.trans b3.symm⟩
  · exact absurd a1 b1
  · exact absurd a1 b1
  · exact absurd b1 a1
  · exact ⟨a3.trans b3.symm, a4.trans b4.symm⟩
  · rw [a2] at b2; cases b2
  · exact absurd b1 a1
  · rw [a2] at b2; cases b2
  · exact ⟨a3.trans b3.symm, adds_unique (by unfold badMore at a1; omega) a4 b4⟩
/-- What a call returns that makes rows, with an error. -/
def RowsErr (P : List (List UInt8) → Int → Prop) (W : World) (e : Ending) (W' : World) : Prop :=
  ∃ (A : Option Addr) (cap : Nat) (outs : List (List UInt8)) (err : Int), e = .returned (.tuple #[.slice A outs.length cap, .int .i64 err]) ∧ outs.length ≤ cap ∧ cap ≤ maxLen ∧ Rds W' A outs ∧ Below W.heap.size W W' ∧ (∀ a, A = some a → W.heap.size ≤ a.block) ∧ P outs err

theorem rowsErr_nil {P : List (List UInt8) → Int → Prop} {W W' : World} {err : Int} (hb : Below W.heap.size W W') (h : P [] err) : RowsErr P W (.returned (.tuple #[.slice none 0 0, .int .i64 err])) W' :=
  ⟨none, 0, [], err, rfl, by simp, by simp, Rds.nil, hb, fun a ha => (by cases ha), h⟩

set_option maxHeartbeats 4000000 in
theorem more_bad (A : Option Addr) (rows : List (List UInt8)) (ca : Nat) (more : Int) (hl : rows.length ≤ 5864062014805) (hb : badMore rows.length more) (W : World) :
    Calls Try.prog 10 #[.slice A rows.length ca, .int .i64 more] W fun e W' => e = .returned (.tuple #[.slice none 0 0, .int .i64 2]) ∧ W = W' := by
  unfold badMore at hb
  by_cases h1 : rows.length = 0
  · rw [h1]
    clear hb
    go_enter Try.func10, Try.ntmps10
    go_wp2
    go_ret2
    exact ⟨rfl, rfl⟩
  · have b1 : ((rows.length : Int) == 0) = false := by rw [beq_eq_false_iff_ne]; omega
    by_cases h2 : 100 < rows.length
    · have i2 : (100 : Int) < (rows.length : Int) := by omega
      clear hb h1 h2
      go_enter Try.func10, Try.ntmps10
      go_wp2
      go_ret2
      exact ⟨rfl, rfl⟩
    · have i2 : (rows.length : Int) ≤ 100 := by omega
      by_cases h3 : more < 0
      · clear hb h1 h2
        go_enter Try.func10, Try.ntmps10
        go_wp2
        go_ret2
        exact ⟨rfl, rfl⟩
      · have h4 : 100 < more := by omega
        clear hb h1 h2
        go_enter Try.func10, Try.ntmps10
        go_wp2
        go_ret2
        exact ⟨rfl, rfl⟩

theorem more_odd (A : Option Addr) (rows : List (List UInt8)) (ca m : Nat) (h1 : 0 < rows.length) (h2 : rows.length ≤ 100) (h3 : m ≤ 100) (he : evenB rows = false) (W : World) (hR : Rds W A rows) :
    Calls Try.prog 10 #[.slice A rows.length ca, .int .i64 m] W fun e W' => e = .returned (.tuple #[.slice none 0 0, .int .i64 1]) ∧ Drawn W W' := by
  have hE := dEven_c A rows ca (by omega) W hR
  rw [he] at hE
  have HE := Lib.hid hE
  have b1 : ((rows.length : Int) == 0) = false := by rw [beq_eq_false_iff_ne]; omega
  have i2 : (rows.length : Int) ≤ 100 := by omega
  have i3 : (m : Int) ≤ 100 := by omega
  have i4 : (0 : Int) ≤ (m : Int) := by omega
  clear hE hR he
  go_enter Try.func10, Try.ntmps10
  go_wp2_with fail
  refine HE.out.mono ?_
  rintro e w1 ⟨rfl, hd⟩
  go_wp2
  go_ret2
  exact ⟨rfl, hd⟩

set_option maxRecDepth 100000 in
set_option maxHeartbeats 4000000 in
theorem more_ok (A : Option Addr) (rows : List (List UInt8)) (ca m : Nat) (h1 : 0 < rows.length) (h2 : rows.length ≤ 100) (h3 : m ≤ 100) (he : evenB rows = true) (hL : (rows.headD []).length ≤ 140737488351232) (W : World) (hR : Rds W A rows) :
    Calls Try.prog 10 #[.slice A rows.length ca, .int .i64 m] W (RowsErr (fun outs err => err = 0 ∧ Adds rows m outs) W) := by
  have hE := dEven_c A rows ca (by omega) W hR
  rw [he] at hE
  have hF := fun (X : Option Addr) (cx : Nat) (v : UInt8) (V : World) (hb : Below W.heap.size W V) (hX : Reads V X ((idx rows.length).map byt)) => dFill_c X A (idx rows.length) rows cx ca rows.length (rows.headD []).length v V hX (hR.below hb) (idx_len _) rfl h1 (idx_nodup (by omega)) (fun k r hr => evenB_len he hr) hL
  have HE := Lib.hid hE
  have HF := Lib.hid hF
  have HAN := Lib.hid (adds_nil rows)
  have has : ∀ (m : Nat) (outs : List (List UInt8)) (out : List UInt8), Adds rows m outs → out.length = (rows.headD []).length → Fill (idx rows.length) rows (UInt8.ofNat (rows.length + m)) out → Adds rows (m + 1) (outs ++ [out]) := fun m outs out a b c => adds_snoc a b c
  have HAS := Lib.hid has
  clear has
  have b1 : ((rows.length : Int) == 0) = false := by rw [beq_eq_false_iff_ne]; omega
  have i2 : (rows.length : Int) ≤ 100 := by omega
  have i3 : (m : Int) ≤ 100 := by omega
  have i4 : (0 : Int) ≤ (m : Int) := by omega
  clear hE hF hR he
  generalize hN : rows.length = n at *
  go_enter Try.func10, Try.ntmps10
  go_wp2_with fail
  refine HE.out.mono ?_
  rintro e w1 ⟨rfl, hd⟩
  have HB1 := Lib.hid (hd.below W.heap.size)
  clear hd
  go_wp2
  go_loopw [7, 31] (fun s i wr => ∃ (k : Nat) (A2 : Option Addr) (c2 : Nat), k ≤ n ∧ i = .int .i64 k ∧ s = .slice A2 k c2 ∧ Grows wr W.heap.size 5 s ((idx k).map byt) ∧ Below W.heap.size W wr) (fun _ i _ => n - (intOf i).toNat)
  case atStart => exact ⟨0, none, 0, by omega, rfl, rfl, Grows.nil _ _ _, HB1.out⟩
  case round =>
    obtain ⟨k, A2, c2, hk, rfl, rfl, hG, hB⟩ := hrel
    have HG := Lib.hid hG
    have HB := Lib.hid hB
    clear hG hB
    by_cases hlt : k < n
    · have hlen0 : ((idx k).map byt).length = k := by rw [List.length_map, idx_len]
      have HL0 := Lib.hid hlen0
      clear hlen0
      go_wp2_with (with_reducible refine wpList_append_one elem8 rfl (.tmp 34) (.tmp 37) rfl rfl rfl rfl HG.out ?c1 ?c2 HB.out.size ?_)
      case c1 => rw [HL0.out]; unfold maxLen; omega
      case c2 => rw [HL0.out]; omega
      intro v' w4 hG4 hg4
      rw [← idx_map (by omega)] at hG4
      obtain ⟨A3, c3, hv, _, _⟩ := hG4.form
      rw [List.length_map, idx_len] at hv
      subst hv
      have HG4 := Lib.hid hG4
      have HB4 := Lib.hid ((HG.out.alloc _).below hg4 (HB.out.alloc HB.out.size _) (Nat.le_refl _) (by simp; have := HB.out.size; omega))
      clear hG4 hg4
      go_wp2
      go_roundw
      case rel => exact ⟨k + 1, A3, c3, by omega, by go_num, rfl, HG4.out, HB4.out⟩
      case measure => simp [intOf]; omega
    · obtain rfl : k = n := by omega
      obtain ⟨wo, rfl⟩ : ∃ wo : World, wo = wr := ⟨_, rfl⟩
      have RX := Lib.hid HG.out.reads
      go_wp2
      go_loopw [9, 41] (fun s i wr => ∃ (j : Nat) (A3 : Option Addr) (c3 : Nat) (outs : List (List UInt8)), j ≤ m ∧ i = .int .i64 j ∧ s = .slice A3 j c3 ∧ Adds rows j outs ∧ Table wr wo.heap.size s outs ∧ Below wo.heap.size wo wr) (fun _ i _ => m - (intOf i).toNat)
      case atStart => exact ⟨0, none, 0, [], by omega, rfl, rfl, HAN.out, Table.nil _ _, Below.refl _ _⟩
      case round =>
        obtain ⟨j, A3, c3, outs, hj, rfl, rfl, hA, hT, hB3⟩ := hrel
        have HA := Lib.hid hA
        have HT := Lib.hid hT
        have HB3 := Lib.hid hB3
        have HW3 := Lib.hid (HB.out.trans (hB3.mono HB.out.size))
        have hlo : outs.length = j := hA.1
        have HLO := Lib.hid hlo
        clear hA hT hB3 hlo
        by_cases hlt2 : j < m
        · have h8 : ((UInt8.ofNat (k + j)).toNat : Int) = (k : Int) + (j : Int) := by rw [UInt8.toNat_ofNat', Nat.mod_eq_of_lt (by omega)]; omega
          have hF := HF.out A2 c2 (UInt8.ofNat (k + j)) wr HW3.out (RX.out.below HB3.out)
          rw [h8] at hF
          have HF2 := Lib.hid hF
          clear hF h8
          go_wp2_with fail
          refine HF2.out.mono ?_
          rintro e w4 ⟨out, hfo, hol, A4, c4, rfl, hoc, hR4, hB4, hf4⟩
          have HO := Lib.hid (HT.out.row_new hB4 hR4 hoc (by omega) hf4)
          have HT4 := Lib.hid (HT.out.later hB4)
          have HB4 := Lib.hid (HB3.out.trans (hB4.mono HB3.out.size))
          have HFO := Lib.hid hfo
          have HOL := Lib.hid hol
          clear hfo hol hoc hR4 hB4 hf4
          go_wp2_with (at_builtin; refine wpList_append_row rfl (.tmp 44) (.tmp 52) rfl rfl rfl HT4.out HO.out ?c3 HB4.out.size HB4.out (Nat.le_refl _) ?_)
          case c3 => rw [HLO.out]; omega
          intro v' w5 hT5 hB5
          obtain ⟨A5, c5, hv, _, _⟩ := hT5.out.form
          rw [List.length_append, HLO.out] at hv
          subst hv
          have HB5 := Lib.hid hB5
          clear hB5
          go_wp2
          go_roundw
          case rel => exact ⟨j + 1, A5, c5, outs ++ [out], by omega, by go_num, rfl, HAS.out j outs out HA.out HOL.out HFO.out, hT5.out, HB5.out⟩
          case measure => simp [intOf]; omega
        · obtain rfl : j = m := by omega
          go_wp2
          go_ret2
          obtain ⟨A6, c6, hv, h6, h7⟩ := HT.out.form
          injection hv with hv1 hv2 hv3
          subst hv1 hv3
          exact ⟨_, _, outs, 0, by rw [HLO.out]; rfl, h6, h7, HT.out.rds, HW3.out, fun a ha => Nat.le_trans HB.out.size (HT.out.from_ a ha), rfl, HA.out⟩

theorem dMore_c (A : Option Addr) (rows : List (List UInt8)) (ca : Nat) (more : Int) (hl : rows.length ≤ 5864062014805) (hL : (rows.headD []).length ≤ 140737488351232) (W : World) (hR : Rds W A rows) :
    Calls Try.prog 10 #[.slice A rows.length ca, .int .i64 more] W (RowsErr (MoreIs rows more) W) := by
  by_cases hb : badMore rows.length more
  · refine (more_bad A rows ca more hl hb W).mono fun e W' ⟨h1, h2⟩ => ?_
    subst h1 h2
    exact rowsErr_nil (Below.refl _ _) (.inl ⟨hb, rfl, rfl⟩)
  · have hb' := hb
    unfold badMore at hb'
    obtain ⟨m, rfl⟩ : ∃ m : Nat, more = m := ⟨more.toNat, by omega⟩
    cases he : evenB rows with
    | false =>
      refine (more_odd A rows ca m (by omega) (by omega) (by omega) he W hR).mono fun e W' ⟨h1, h2⟩ => ?_
      subst h1
      exact rowsErr_nil (h2.below _) (.inr (.inl ⟨hb, he, rfl, rfl⟩))
    | true =>
      refine (more_ok A rows ca m (by omega) (by omega) (by omega) he hL W hR).mono fun e W' ⟨A', c', outs, err, h1, h2, h3, h4, h5, h6, h7, h8⟩ => ?_
      exact ⟨A', c', outs, err, h1, h2, h3, h4, h5, h6, .inr (.inr ⟨hb, he, h7, h8⟩)⟩
end Go.Proofs.Ytomhcjnhhdbhjaa.Cdr
