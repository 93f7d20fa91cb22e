/-
  Package quorum, the program: Least, Dual.
-/
import Derived.Test.YteggbepibfpjcaaQpB
namespace Go.Proofs.Yteggbepibfpjcaa.Qr
set_option linter.unusedVariables false
set_option linter.unusedSimpArgs false
open Go.RowKit Mem
open Go.Lib
open Go.Sort (SortedIn PermIn Holds)

set_option maxRecDepth 100000 in
set_option maxHeartbeats 1000000 in
theorem clone_zero_u (ad : Addr) (c : Nat) (W : World) :
    Calls Try.prog 36 #[.slice (some ad) 0 c] W fun e W' => ∃ A' c', e = .returned (.slice A' 0 c') ∧ UTab W' W.heap.size (.slice A' 0 c') [] ∧ Below W.heap.size W W' := by
  have q22 : ∀ (w : World) (a : Option Addr) (n c n' c' : Nat), (binOp .eql 22 (.slice a n c) (.slice none n' c')).run Try.prog w = .ok (.bool a.isNone) w := fun w a n c n' c' => Go.Lib.run_eql_slice_nil w _ _ a n c n' c' Try.underlying22
  go_enter Try.func36, Try.ntmps36
  go_wp2
  go_ret
  exact ⟨some ⟨W.heap.size, 0, none⟩, 0, rfl, World.ownsRow_made W #[] 0 (Nat.le_refl _) (Nat.zero_le _) (by simp), (Below.refl _ W).alloc (Nat.le_refl _) _⟩
set_option maxRecDepth 100000 in
theorem clone_u (A : Option Addr) (l : List Nat) (n c : Nat) (W : World) (hn : l.length = n) (hbig : n ≤ 1000000) (hx : Reads W A (l.map w16)) :
    Calls Try.prog 36 #[.slice A n c] W fun e W' => ∃ A' c', e = .returned (.slice A' n c') ∧ UTab W' W.heap.size (.slice A' n c') l ∧ Below W.heap.size W W' := by
  rcases Nat.eq_zero_or_pos n with h0 | h0
  · subst h0
    obtain rfl := List.eq_nil_of_length_eq_zero hn
    cases A with
    | none =>
      refine (AnyE.slices_Clone_nil Try.cloneU 0 c W).mono ?_
      rintro e w ⟨rfl, rfl⟩
      exact ⟨none, 0, rfl, UTab.nil _ _, Below.refl _ _⟩
    | some a => exact clone_zero_u a c W
  · obtain ⟨i, hi, hz0, hz1, hz2⟩ := info_parts info16
    have kl : 0 < l.length := by omega
    obtain ⟨b, o, rfl, _, _⟩ := Reads.at16 hx (List.getElem?_eq_getElem kl)
    refine (AnyE.slices_Clone Try.cloneU i _ 1 2 hi hz0 hz1 hz2 rfl (by omega) Try.sizeOf23 b o n c (l.map w16) W (by rw [List.length_map, hn, Nat.mul_one]) (by unfold maxLen; omega) (by omega) (fun j u hj => ?_) (fun u hu => ?_)).mono ?_
    · obtain ⟨b', o', e, _, h3⟩ := hx j u hj
      injection e with e
      injection e with e1 e2
      subst e1 e2
      exact h3
    · obtain ⟨x, _, rfl⟩ := List.mem_map.1 hu
      rfl
    · rintro e w ⟨v, rfl, hr, _, hb⟩
      have hT : UTab w W.heap.size v l := by unfold UTab Grows; rw [List.length_map, hn]; exact hr
      obtain ⟨A', c', hv, hc, _⟩ := hT.form
      rw [hn] at hv
      subst hv
      exact ⟨A', c', rfl, hT, hb⟩
/-- A slice of the call's own, as a row that may be sorted. -/
theorem UTab.holds {W : World} {B : Nat} {A : Option Addr} {n c : Nat} {l : List Nat} (h : UTab W B (.slice A n c) l) (h0 : 0 < n) (hn : l.length = n) : ∃ g, A = some ⟨g, 0, none⟩ ∧ B ≤ g ∧ n ≤ c ∧ c ≤ maxLen ∧ Holds w16 W g 0 l.toArray := by
  rcases h.2 with ⟨hv, _⟩ | ⟨g, cap, cur, hv, hb, hg, h1, h2, hs, ht⟩
  · injection hv with _ e; omega
  · injection hv with e1 e2 e3
    subst e1 e3
    rw [List.length_map] at h1
    refine ⟨g, rfl, hb, by omega, h2, fun j hj => ⟨?_, ?_⟩⟩
    · have hr := h.reads j (w16 l[j]) (by rw [List.getElem?_map, List.getElem?_eq_getElem (by simpa using hj)]; rfl)
      obtain ⟨b, o, e, _, hc⟩ := hr
      injection e with e
      injection e with e4 e5
      subst e4 e5
      rw [hc, getElem!_pos l.toArray j hj]
      rfl
    · simp [World.frozen?, hg]
theorem sorted_le {d : Array Nat} {n : Nat} (h : SortedIn Qs.ltN 0 n d) : ∀ i j, i < j → j < n → d[i]! ≤ d[j]! := fun i j h1 h2 => by
  have := h i j (Nat.zero_le _) h1 h2
  unfold Qs.ltN at this
  have := of_decide_eq_false this
  omega
theorem sorted_pair {d : Array Nat} {n : Nat} (hn : d.size = n) (h : SortedIn Qs.ltN 0 n d) : d.toList.Pairwise (· ≤ ·) := by
  rw [List.pairwise_iff_getElem]
  intro i j hi hj hij
  have h1 := sorted_le h i j hij (by rw [← hn]; simpa using hj)
  rw [getElem!_pos d i (by simpa using hi), getElem!_pos d j (by simpa using hj)] at h1
  simpa using h1
theorem perm_mem {d d' : Array Nat} {n : Nat} (hn : d.size = n) (h : PermIn 0 n d d') : ∀ x, x ∈ d'.toList ↔ x ∈ d.toList := fun x => by
  have hp := h.2.2
  have h1 : d.extract 0 n = d := by rw [← hn]; simp
  have h2 : d'.extract 0 n = d' := by rw [← hn, ← h.1]; simp
  rw [h1, h2] at hp
  exact hp.mem_iff
theorem holds_reads {V : World} {g : Nat} {d : Array Nat} (h : Holds w16 V g 0 d) : Reads V (some ⟨g, 0, none⟩) (d.toList.map w16) :=
  Qs.reads_arr (k := 0) (d := d) fun i hi => by
    rw [(h i (by simpa using hi)).1, getElem!_pos d i (by simpa using hi), getElem!_pos d.toList i hi, Array.getElem_toList]
set_option maxRecDepth 100000 in
set_option maxHeartbeats 4000000 in
theorem leastSpec : LeastSpec := by
  intro A l n ca W l0 n0 k hn hbig hx hf hk hl hn0
  by_cases h400 : 400 < n
  · have i1 : (400 : Int) < (n : Int) := by omega
    have e0 : leastE l = 2 := by unfold leastE; rw [if_pos (by omega)]
    obtain rfl : k = 2 := by rw [← hk, e0]
    obtain rfl : l0 = [] := by rw [← hl]; unfold leastL; rw [if_neg (by rw [e0]; decide)]
    obtain rfl : n0 = 0 := hn0.symm
    clear hn hx hf hk hl hn0 e0 h400
    go_enter Try.func20, Try.ntmps20
    go_wp2
    go_ret2
    exact ⟨none, 0, rfl, Reads.nil, Below.refl _ _⟩
  · have i1 : ¬ (400 : Int) < (n : Int) := by omega
    have e0 : leastE l = 0 := by unfold leastE; rw [if_neg (by omega)]
    obtain rfl : k = 0 := by rw [← hk, e0]
    have hl2 : least l = l0 := by rw [← hl, leastL, if_pos e0]
    have CL := Lib.hid (clone_u A l n ca W hn (by omega) hx)
    have HF := Lib.hid hf
    have HN := Lib.hid hn
    have HL := Lib.hid hl2
    have HM := Lib.hid hn0
    have N4 := Lib.hid (show n ≤ 400 by omega)
    clear hn hx hf hk hl hn0 e0 h400 hl2
    go_enter Try.func20, Try.ntmps20
    go_wp2_with fail
    refine CL.out.mono ?_
    rintro e w1 ⟨A1, c1, rfl, hT, hb⟩
    have B1 := Lib.hid hb
    rcases Nat.eq_zero_or_pos n with h0 | h0
    · subst h0
      obtain rfl : l = [] := List.eq_nil_of_length_eq_zero HN.out
      have MC := Lib.hid (fun V => minimal_c A1 [] 0 c1 V rfl (by omega) Reads.nil HF.out List.Pairwise.nil l0 n0 HL.out HM.out)
      clear hT hb
      go_wp2_with fail
      refine (Qs.sort_nil A1 c1 _).mono ?_
      rintro e w2 ⟨rfl, rfl⟩
      go_wp2_with fail
      refine (MC.out _).mono ?_
      rintro e w3 ⟨A3, c3, rfl, hr, hb⟩
      have R3 := Lib.hid hr
      have B3 := Lib.hid (B1.out.trans (hb.mono B1.out.size))
      clear hr hb
      go_wp2
      go_ret2
      exact ⟨A3, c3, rfl, R3.out, B3.out⟩
    · obtain ⟨g, rfl, hg, hc, _, hH⟩ := hT.holds h0 HN.out
      have SC := Lib.hid (Qs.sort_c g 0 n c1 l.toArray w1 hH (by simpa using HN.out) hbig)
      have GB := Lib.hid hg
      clear hT hb hH hg hc h0
      go_wp2_with fail
      refine SC.out.mono ?_
      rintro e w2 ⟨d', rfl, hp, hs, hL⟩
      have MEM := Lib.hid (perm_mem (n := n) (by simpa using HN.out) hp)
      have DS := Lib.hid (show d'.size = n by rw [hp.1]; simpa using HN.out)
      have MC := Lib.hid (minimal_c (some ⟨g, 0, none⟩) d'.toList n c1 w2 (by simpa using DS.out) (by have := N4.out; omega) (holds_reads hL.2.1)
        (fun x hx => HF.out x (by simpa using (MEM.out x).1 hx)) (sorted_pair DS.out hs) l0 n0 (by rw [← HL.out]; exact least_perm HF.out (fun x => by simpa using MEM.out x)) HM.out)
      have B2 := Lib.hid (B1.out.grown hL.2.2 B1.out.size (fun k hk => by injection hk with hk; rw [← hk]; exact GB.out))
      clear hp hs hL
      go_wp2_with fail
      refine MC.out.mono ?_
      rintro e w3 ⟨A3, c3, rfl, hr, hb⟩
      have R3 := Lib.hid hr
      have B3 := Lib.hid (B2.out.trans (hb.mono B2.out.size))
      clear hr hb
      go_wp2
      go_ret2
      exact ⟨A3, c3, rfl, R3.out, B3.out⟩
set_option maxRecDepth 100000 in
theorem another_c (bx m s : Nat) (V : World) (hm : m ≤ 10) (hs : s < 65536) (hb : V.cell? ⟨bx, 0, none⟩ = some (.int .i64 m)) :
    Calls Try.prog 38 #[.int .u16 s, .pointer (some ⟨bx, 0, none⟩)] V (Gave (.bool (decide (2 ^ m ≤ s))) V) := by
  obtain ⟨r, hr⟩ : ∃ r, decide (2 ^ m ≤ s) = r := ⟨_, rfl⟩
  have e1 : ((s : Int) / 2 ^ m != 0) = r := by
    have hp : 0 < 2 ^ m := Nat.two_pow_pos m
    have e : (s : Int) / 2 ^ m = ((s / 2 ^ m : Nat) : Int) := by simp
    rw [e, ← hr]
    by_cases h : 2 ^ m ≤ s
    · have h3 := Nat.div_pos h hp
      obtain ⟨d, hd⟩ : ∃ d, s / 2 ^ m = d := ⟨_, rfl⟩
      rw [hd] at h3 ⊢
      rw [decide_eq_true h]
      simp
      omega
    · rw [Nat.div_eq_of_lt (by omega), decide_eq_false h]
      rfl
  rw [hr]
  clear hr hs
  go_enter Try.func38, Try.ntmps38
  go_wp2
  go_ret
  exact ⟨by simp [e1], Below.refl _ _⟩
set_option maxRecDepth 100000 in
theorem meets2_c (bx s : Nat) (B : Option Addr) (b : List Nat) (m cb : Nat) (V : World) (hs : s < 65536) (hm : b.length = m) (hbig : m ≤ 70368744177664) (hx : Reads V B (b.map w16)) (hf : Fits b) (hb : V.cell? ⟨bx, 0, none⟩ = some (.slice B m cb)) :
    Calls Try.prog 39 #[.int .u16 s, .pointer (some ⟨bx, 0, none⟩)] V (Gave (.bool (meetsB s b)) V) := by
  obtain ⟨q, hq⟩ : ∃ q, meetsB s b = q := ⟨_, rfl⟩
  have MC := Lib.hid (meetsAll_c s B b m cb V hs hm hbig hx hf q hq)
  rw [hq]
  clear hm hx hf hq hs
  go_enter Try.func39, Try.ntmps39
  go_wp2_with fail
  refine MC.out.mono ?_
  rintro e w2 ⟨rfl, hb⟩
  have B2 := Lib.hid hb
  clear hb
  go_wp2
  go_ret
  exact ⟨rfl, B2.out⟩
/-- Two boxes, the first and the second made. -/
theorem box_first {W V : World} {t t2 : TypeId} {v v2 : Value} (hb : Below ((W.alloc (.cells #[v] t)).alloc (.cells #[v2] t2)).heap.size ((W.alloc (.cells #[v] t)).alloc (.cells #[v2] t2)) V) : V.cell? ⟨W.heap.size, 0, none⟩ = some v :=
  (hb.cell (by simp; omega)).trans ((World.cell?_alloc_lt _ _ _ (by simp)).trans ((Known.made W t #[v]).cell 0))
theorem box_second {W V : World} {t t2 : TypeId} {v v2 : Value} (hb : Below ((W.alloc (.cells #[v] t)).alloc (.cells #[v2] t2)).heap.size ((W.alloc (.cells #[v] t)).alloc (.cells #[v2] t2)) V) : V.cell? ⟨W.heap.size + 1, 0, none⟩ = some v2 := by
  have h := (hb.cell (by simp)).trans ((Known.made (W.alloc (.cells #[v] t)) t2 #[v2]).cell 0)
  rwa [World.size_alloc] at h
theorem below_boxes {W V : World} {o o2 : Obj} (hb : Below ((W.alloc o).alloc o2).heap.size ((W.alloc o).alloc o2) V) : Below W.heap.size W V := below_box' (below_box' hb)
set_option maxRecDepth 100000 in
set_option maxHeartbeats 4000000 in
theorem dualSpec : DualSpec := by
  intro m A l n ca W l0 n0 k hn hbig hx hf hk hl hn0
  have mk := fun fn first cap w => (show (Instr.makeFunc fn first cap).run Try.prog w = .ok (.func fn first cap) w from rfl)
  by_cases h1 : 1 ≤ m ∧ m ≤ 10
  · obtain ⟨j, rfl⟩ : ∃ j : Nat, m = j := ⟨m.toNat, by omega⟩
    have BC := Lib.hid (fun V => between_c (j : Int) 10 V true (by simp; omega))
    by_cases h400 : 400 < n
    · have i1 : (400 : Int) < (n : Int) := by omega
      have i1b : decide ((400 : Int) < (n : Int)) = true := decide_eq_true i1
      have i1n : decide (400 < n) = true := decide_eq_true h400
      have e0 : dualE j l = 2 := by unfold dualE; rw [if_pos (by omega)]
      obtain rfl : k = 2 := by rw [← hk, e0]
      obtain rfl : l0 = [] := by rw [← hl]; unfold dualL; rw [if_neg (by rw [e0]; decide)]
      obtain rfl : n0 = 0 := hn0.symm
      clear hn hx hf hk hl hn0 e0 h400 h1
      go_enter Try.func21, Try.ntmps21
      go_wp2_with (go_at_call 26; refine (BC.out _).mono ?_; rintro e w1 ⟨rfl, rfl⟩)
      go_ret2
      exact ⟨none, 0, rfl, Reads.nil, ((Below.refl _ _).alloc (Nat.le_refl _) _).alloc (by simp) _⟩
    · have i1 : ¬ (400 : Int) < (n : Int) := by omega
      have i1b : decide ((400 : Int) < (n : Int)) = false := decide_eq_false i1
      have i1n : decide (400 < n) = false := decide_eq_false h400
      have B2 : Below W.heap.size W ((W.alloc (.cells #[.int .i64 (j : Int)] 3)).alloc (.cells #[.slice A n ca] 22)) := below_boxes (Below.refl _ _)
      obtain ⟨q, hq⟩ : ∃ q, l.any (fun s => decide (2 ^ j ≤ s)) = q := ⟨_, rfl⟩
      have CC := Lib.hid (contains_d W.heap.size (fun s => decide (2 ^ j ≤ s)) A l n ca ((W.alloc (.cells #[.int .i64 (j : Int)] 3)).alloc (.cells #[.slice A n ca] 22)) hn hbig (hx.below B2) hf q hq
        (fun V s hs hb => another_c W.heap.size j s V (by omega) hs (box_first hb)))
      cases q with
      | true =>
        have e0 : dualE j l = 1 := by
          obtain ⟨s, hs, e⟩ := List.any_eq_true.1 hq
          unfold dualE
          rw [if_neg (by omega), if_pos ⟨s, hs, of_decide_eq_true e⟩]
        obtain rfl : k = 1 := by rw [← hk, e0]
        obtain rfl : l0 = [] := by rw [← hl]; unfold dualL; rw [if_neg (by rw [e0]; decide)]
        obtain rfl : n0 = 0 := hn0.symm
        clear hn hx hf hk hl hn0 e0 h400 h1 hq B2
        go_enter Try.func21, Try.ntmps21
        go_wp2_with (first | (go_at_call 26; refine (BC.out _).mono ?_; rintro e w1 ⟨rfl, rfl⟩) | (go_at_call 35; refine CC.out.mono ?_; rintro e w2 ⟨rfl, hb⟩; have B3 := Lib.hid (below_boxes hb); clear hb))
        go_ret2
        exact ⟨none, 0, rfl, Reads.nil, B3.out⟩
      | false =>
        have hno : ¬ ∃ s ∈ l, 2 ^ j ≤ s := fun ⟨s, hs, e⟩ => by
          have : l.any (fun s => decide (2 ^ j ≤ s)) = true := List.any_eq_true.2 ⟨s, hs, decide_eq_true e⟩
          rw [hq] at this; cases this
        have e0 : dualE j l = 0 := by
          have hno' : ¬ ∃ s ∈ l, 2 ^ (j : Int).toNat ≤ s := hno
          unfold dualE
          rw [if_neg (by omega), if_neg hno']
        obtain rfl : k = 0 := by rw [← hk, e0]
        have hl2 : least (trans j l) = l0 := by rw [← hl, dualL, if_pos e0]; rfl
        obtain ⟨t, ht⟩ : ∃ t, rise (2 ^ j) (fun s => meetsB s l) = t := ⟨_, rfl⟩
        have ht2 : trans j l = t := by rw [← ht]; exact rise_congr (fun s _ => trans_eq l s)
        obtain ⟨tn, htn⟩ : ∃ tn, t.length = tn := ⟨_, rfl⟩
        rw [ht2] at hl2
        have TF : Fits t := by rw [← ht]; exact rise_lt _ _ (two_pow_16 (by omega))
        have TP : t.Pairwise (· ≤ ·) := by rw [← ht]; exact (rise_sorted _ _).imp (fun h => Nat.le_of_lt h)
        have HC := Lib.hid (fun (X : World) (hX : Below ((W.alloc (.cells #[.int .i64 (j : Int)] 3)).alloc (.cells #[.slice A n ca] 22)).heap.size ((W.alloc (.cells #[.int .i64 (j : Int)] 3)).alloc (.cells #[.slice A n ca] 22)) X) =>
          chosen_q (W.heap.size + 1) j (fun s => meetsB s l) t tn X (by omega) ht htn
            (fun V s hs hb => meets2_c (W.heap.size + 1) s A l n ca V hs hn hbig (hx.below (below_boxes (hX.trans (hb.mono hX.size)))) hf (box_second (hX.trans (hb.mono hX.size)))))
        have MC := Lib.hid (fun A2 c2 V (h5 : tn ≤ 1024) (hr : Reads V A2 (t.map w16)) => minimal_c A2 t tn c2 V htn (by omega) hr TF TP l0 n0 hl2 hn0)
        clear hn hx hf hk hl hn0 e0 h400 h1 hq B2 hno hl2 ht ht2 htn TF TP
        go_enter Try.func21, Try.ntmps21
        go_wp2_with (first | (go_at_call 26; refine (BC.out _).mono ?_; rintro e w1 ⟨rfl, rfl⟩) | (go_at_call 35; refine CC.out.mono ?_; rintro e w2 ⟨rfl, hb⟩; have x1 := box_first hb; have x2 := box_second hb; have B3 := Lib.hid hb; clear hb))
        clear x1 x2
        refine (HC.out _ B3.out).mono ?_
        rintro e w3 ⟨A3, c3, rfl, h5, hr, hb⟩
        have B4 := Lib.hid (B3.out.trans (hb.mono B3.out.size))
        have M3 := Lib.hid (MC.out A3 c3 w3 h5 hr)
        clear h5 hr hb
        go_wp2_with fail
        refine M3.out.mono ?_
        rintro e w4 ⟨A4, c4, rfl, hr, hb⟩
        have R4 := Lib.hid hr
        have B5 := Lib.hid (below_boxes (B4.out.trans (hb.mono B4.out.size)))
        clear hr hb
        go_wp2
        go_ret2
        exact ⟨A4, c4, rfl, R4.out, B5.out⟩
  · have e0 : dualE m l = 2 := by unfold dualE; rw [if_pos (by omega)]
    obtain rfl : k = 2 := by rw [← hk, e0]
    obtain rfl : l0 = [] := by rw [← hl]; unfold dualL; rw [if_neg (by rw [e0]; decide)]
    obtain rfl : n0 = 0 := hn0.symm
    have BC := Lib.hid (fun V => between_c m 10 V false (by rw [Bool.eq_false_iff, ne_eq, Bool.and_eq_true, decide_eq_true_eq, decide_eq_true_eq]; exact h1))
    clear hn hx hf hk hl hn0 e0 h1
    go_enter Try.func21, Try.ntmps21
    go_wp2_with (go_at_call 26; refine (BC.out _).mono ?_; rintro e w1 ⟨rfl, rfl⟩)
    go_ret2
    exact ⟨none, 0, rfl, Reads.nil, ((Below.refl _ _).alloc (Nat.le_refl _) _).alloc (by simp) _⟩
end Go.Proofs.Yteggbepibfpjcaa.Qr
