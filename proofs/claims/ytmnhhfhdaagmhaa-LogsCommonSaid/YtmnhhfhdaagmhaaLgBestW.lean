/-
  LogsBest, walked over what the laws take of the program.
-/
import Derived.Test.YtmnhhfhdaagmhaaLgCommonW
import Derived.Test.YtmnhhfhdaagmhaaLgMaps
import Derived.Test.YtmnhhfhdaagmhaaLgRef3
namespace Go.Proofs.Ytmnhhfhdaagmhaa.Lg
set_option linter.unusedVariables false
set_option linter.unusedSimpArgs false
open Go.RowKit Mem Gt
open Jump (Gave equalZ_c)

theorem addK_nodup {ks : List Int} (h : ks.Nodup) (x : Int) : (addK ks x).Nodup := by
  unfold addK
  split
  · exact h
  · rename_i hn
    exact List.nodup_append.2 ⟨h, by simp, fun a ha c hc e => by simp at hc; subst hc; exact hn (e ▸ ha)⟩
theorem addK_le (ks : List Int) (x : Int) : (addK ks x).length ≤ ks.length + 1 := by
  unfold addK
  split
  · omega
  · simp
/-- The keys of a beginning. -/
def KeysTo (l : List En) (k : Nat) (ks : List Int) : Prop := ks.Nodup ∧ (∀ x, x ∈ ks ↔ x ∈ (l.take k).map (fun e => e.2.2)) ∧ ks.length ≤ k
theorem KeysTo.start (l : List En) : KeysTo l 0 [] := ⟨List.nodup_nil, fun x => by simp, by simp⟩
theorem KeysTo.step {l : List En} {k : Nat} {ks : List Int} {e : En} (h : KeysTo l k ks) (he : l[k]? = some e) : KeysTo l (k + 1) (addK ks e.2.2) := by
  refine ⟨addK_nodup h.1 _, fun x => ?_, by have := addK_le ks e.2.2; have := h.2.2; omega⟩
  rw [mem_addK, h.2.1, List.take_add_one, he, List.map_append, List.mem_append]
  simp only [Option.toList_some, List.map_cons, List.map_nil, List.mem_singleton]
  exact Or.comm
theorem last_to {l : List En} {k : Nat} {e : En} (he : l[k]? = some e) (x : Int) : setZ (lastN (l.take k)) e.2.2 e.2.1 x = lastN (l.take (k + 1)) x := by
  rw [List.take_add_one, he]
  show _ = lastN (l.take k ++ [e]) x
  rw [last_snoc]
  unfold setZ
  by_cases h : x = e.2.2
  · rw [if_pos h, if_pos h.symm]
  · rw [if_neg h, if_neg (fun e => h e.symm)]
set_option maxRecDepth 100000 in
set_option maxHeartbeats 16000000 in
theorem best_w (hB : BestSpec) (hR : RightSpec) (hS : StateSpec) (A C : Option Addr) (ls : List (List En)) (l : List En) (n ca m cc : Nat) (W : World) (hn : ls.length = n) (hbig : n ≤ 5864062014805) (hx : GRds enE W A ls) (hm : l.length = m) (hm2 : m ≤ 140737488355328) (hl : Reads W C (flat enE l)) (hf : FitL l) :
    Calls Try.prog 3 #[.slice A n ca, .slice C m cc] W (Law.Yes W) := by
  obtain ⟨kk, hkk⟩ : ∃ kk, bestK ls = kk := ⟨_, rfl⟩
  obtain ⟨e, he⟩ : ∃ e, bestE ls = e := ⟨_, rfl⟩
  have P1 := Lib.hid (hB A ls n ca W kk e hn (by omega) hx hkk he)
  have P2 := Lib.hid (fun V (hV : Below W.heap.size W V) => show Calls Try.prog 10 #[.slice A n ca] V (Gave (.tuple #[.int .i64 kk, .int .i64 e]) V) from by
    have := obest_c A ls n ca V hn (by omega) (hx.below hV)
    rwa [hkk, he] at this)
  have P3 := Lib.hid (fun V (hV : Below W.heap.size W V) => hS C l m cc V hm hm2 (hl.below hV) hf)
  have P4 := Lib.hid (fun V (hV : Below W.heap.size W V) => hR C l m cc V hm hm2 (hl.below hV))
  have P5 := Lib.hid (fun V (hV : Below W.heap.size W V) => oright_c C l m cc V hm hm2 (hl.below hV))
  have HL := Lib.hid hl
  have HM := Lib.hid hm
  have HF := Lib.hid hf
  have n1 : ((kk : Int) != (kk : Int)) = false := by simp
  have n2 : (e != e) = false := by simp
  have OK := Lib.hid (show okL l = true → m ≤ 400 from fun h => by rw [← hm]; exact okL_len h)
  have LN : ∀ w, (Builtin.len_ #[27] 3 #[.map none]).run Try.prog w = .ok (.int .i64 0) w := fun w => Maps.len_nil Try.underlying27 _
  have hmm := @run_makeMap Try.prog
  clear hn hx hkk he hm hl hf
  go_enter Try.func3, Try.ntmps3
  go_wp2_with fail
  refine P1.out.mono ?_
  rintro u w1 ⟨rfl, hb⟩
  have B1 := Lib.hid hb
  have E2 := Lib.hid (P2.out w1 hb)
  clear hb P1 P2
  go_wp2_with fail
  refine E2.out.mono ?_
  rintro u w2 ⟨rfl, hb⟩
  have B2 := Lib.hid (B1.out.trans (hb.mono B1.out.size))
  have E3 := Lib.hid (P3.out w2 B2.out)
  clear hb P3 E2 B1
  go_wp2_with fail
  refine E3.out.mono ?_
  rintro u w3 ⟨hs0, hs1, hb⟩
  have B3 := Lib.hid (B2.out.trans (hb.mono B2.out.size))
  have E4 := Lib.hid (P4.out w3 B3.out)
  clear hb E3 B2
  cases hv : okL l with
  | false =>
    obtain rfl := hs0 hv
    have Q4 := E4.out
    rw [hv] at Q4
    have E4' := Lib.hid Q4
    have P5' := Lib.hid (fun V hV => show Calls Try.prog 13 #[.slice C m cc] V (Gave (.bool false) V) from by have := P5.out V hV; rwa [hv] at this)
    clear hs0 hs1 hv Q4 E4 P5 P4 hmm
    go_wp2_with fail
    refine E4'.out.mono ?_
    rintro u w4 ⟨rfl, hb⟩
    have B4 := Lib.hid (B3.out.trans (hb.mono B3.out.size))
    have E5 := Lib.hid (P5'.out w4 B4.out)
    clear hb E4' B3
    go_wp2_with fail
    refine E5.out.mono ?_
    rintro u w5 ⟨rfl, hb⟩
    have B5 := Lib.hid (B4.out.trans (hb.mono B4.out.size))
    have E6 := Lib.hid (P5'.out w5 B5.out)
    clear hb E5 B4
    go_wp2_with fail
    refine E6.out.mono ?_
    rintro u w6 ⟨rfl, hb⟩
    have B6 := Lib.hid (B5.out.trans (hb.mono B5.out.size))
    clear hb
    go_wp2
    go_ret
    exact ⟨rfl, B6.out⟩
  | true =>
    obtain ⟨bs, rfl, hst⟩ := hs1 hv
    have Q4 := E4.out
    rw [hv] at Q4
    have E4' := Lib.hid Q4
    have P5' := Lib.hid (fun V hV => show Calls Try.prog 13 #[.slice C m cc] V (Gave (.bool true) V) from by have := P5.out V hV; rwa [hv] at this)
    have M4 := Lib.hid (OK.out hv)
    have HST := Lib.hid hst
    clear hs0 hs1 hv Q4 E4 P5 P4 hst LN
    go_wp2_with fail
    refine E4'.out.mono ?_
    rintro u w4 ⟨rfl, hb⟩
    have B4 := Lib.hid (B3.out.trans (hb.mono B3.out.size))
    have T4 := Lib.hid (HST.out.later hb)
    have E5 := Lib.hid (P5'.out w4 B4.out)
    clear hb E4' B3 HST
    go_wp2_with fail
    refine E5.out.mono ?_
    rintro u w5 ⟨rfl, hb⟩
    have B5 := Lib.hid (B4.out.trans (hb.mono B4.out.size))
    have T5 := Lib.hid (T4.out.later hb)
    have E6 := Lib.hid (P5'.out w5 B5.out)
    clear hb E5 B4 T4
    go_wp2_with fail
    refine E6.out.mono ?_
    rintro u w6 ⟨rfl, hb⟩
    have B6 := Lib.hid (B5.out.trans (hb.mono B5.out.size))
    have T6 := Lib.hid (T5.out.later hb)
    have G0 := Lib.hid (IMap.made w6)
    have BA := Lib.hid (low_lit w6 (.map #[] 0))
    clear hb E6 B5 T5
    go_wp2_with fail
    go_loopw [57] (fun i wr => ∃ (k : Nat) (ks : List Int), k ≤ m ∧ i = .int .i64 k ∧ KeysTo l k ks ∧ IMap wr w6.heap.size (lastN (l.take k)) ks ∧ Below w6.heap.size w6 wr) (fun i _ => m - (Go.RowKit.intOf i).toNat)
    case atStart => exact ⟨0, [], by omega, rfl, KeysTo.start l, G0.out.congr (fun x => rfl), BA.out⟩
    case round =>
      obtain ⟨k, ks, hk, rfl, hks, hG, hBw⟩ := hrel
      have KS := Lib.hid hks
      have GG := Lib.hid hG
      have BW := Lib.hid hBw
      clear hks hG G0 BA hmm
      by_cases hlt : k < m
      · have kl : k < l.length := by rw [HM.out]; exact hlt
        obtain ⟨⟨x0, x1, x2⟩, hx⟩ : ∃ x, l[k]? = some x := ⟨_, List.getElem?_eq_getElem kl⟩
        obtain ⟨f0, f1, f2⟩ := HF.out _ (List.mem_of_getElem? hx)
        obtain ⟨b1, o1, rfl, _, y0, y1, y2⟩ := en_at (HL.out.below (B6.out.trans (hBw.mono B6.out.size))) hx
        obtain ⟨d0, d1, d2⟩ := box_en (w := wr) (x0, x1, x2)
        have KS2 := Lib.hid (KS.out.step hx)
        have LT := Lib.hid (last_to hx)
        have G1 := Lib.hid (GG.out.alloc (.cells #[.int .i64 x0, .int .i64 x1, .int .i64 x2] tE))
        have B7 := Lib.hid (hBw.trans ((low_lit wr (.cells #[.int .i64 x0, .int .i64 x1, .int .i64 x2] tE)).mono hBw.size))
        simp only at y0 y1 y2 d0 d1 d2 f0 f1 f2 KS2 LT
        have W2 := Lib.hid (wf_of f2)
        have W1 := Lib.hid (wf_of f1)
        have KL := Lib.hid (show ks.length < 1000000 by have := KS.out.2.2; have := M4.out; omega)
        have i1 : (k : Int) < (m : Int) := by omega
        clear kl hx f0 f1 f2 hBw
        go_wp2_with (refine wpList_update_z Try.underlying27 rfl _ _ _ (by rfl) G1.out KL.out x2 W2.out rfl rfl x1 W1.out rfl ?_; intro w7 m7 g7)
        go_roundw
        case rel => exact ⟨k + 1, _, by omega, by go_num, KS2.out, m7.out.congr LT.out, B7.out.grown g7.out B7.out.size (fun r hr => by injection hr with hr; omega)⟩
        case measure => simp [Go.RowKit.intOf]; omega
      · obtain rfl : k = m := by omega
        have hT := T6.out.later hBw
        have hG2 : IsState wr w6.heap.size l := ⟨ks, KS.out.1, by have := KS.out.2.1; rwa [List.take_of_length_le (Nat.le_of_eq HM.out)] at this, by have := GG.out; rwa [List.take_of_length_le (Nat.le_of_eq HM.out)] at this⟩
        have EQ := Lib.hid (eqM_c hT hG2)
        have B8 := Lib.hid (B6.out.trans (hBw.mono B6.out.size))
        clear hT hG2 hBw
        go_wp2_with fail
        refine EQ.out.mono ?_
        rintro u w9 ⟨rfl, hb⟩
        have B9 := Lib.hid (B8.out.trans (hb.mono B8.out.size))
        clear hb
        go_wp2
        go_ret
        exact ⟨rfl, B9.out⟩
end Go.Proofs.Ytmnhhfhdaagmhaa.Lg
