/-
  Package locks: Play.
-/
import Derived.Test.YtdkgclgccicbeaaLkPk
import Derived.Test.YtdkgclgccicbeaaLkNew
namespace Go.Proofs.Ytdkgclgccicbeaa.LkP
set_option linter.unusedVariables false
set_option linter.unusedSimpArgs false
open Go.RowKit Mem Gt
open Lk hiding ints

theorem LikeB.len {p : Int → Sk} {ops : List LO} (h : LikeB p ops) (x : Int) : (p x).2.1.length + (p x).2.2.length ≤ ops.length := by
  obtain ⟨a, h1, h2, _⟩ := (h.at_ x).good.ex
  have h3 := st_len x ops
  rw [h1, List.length_append] at h3
  rw [h2]
  unfold nodes
  rw [List.length_map]
  exact h3
theorem LikeB.nodup {p : Int → Sk} {ops : List LO} (h : LikeB p ops) (x : Int) : (p x).2.1.Nodup ∧ (nodes (p x).2.2).Nodup := by
  obtain ⟨a, h1, h2, _⟩ := (h.at_ x).good.ex
  have h3 := (st_ok x ops).nd
  rw [h1, nodes_app] at h3
  have h4 := List.nodup_append.1 h3
  rw [h2]
  exact ⟨h4.1, h4.2.1⟩
abbrev tE : TypeId := 28
/-- Errors, as far as they are told. -/
def errsTo (n : Nat) (es : List Int) : List Int := es ++ List.replicate (n - es.length) 0
theorem errsTo_set {n : Nat} {es : List Int} (h : es.length < n) (x : Int) : (errsTo n es).set es.length x = errsTo n (es ++ [x]) := by
  unfold errsTo
  rw [List.set_append_right _ _ (Nat.le_refl _), Nat.sub_self, List.length_append, List.length_singleton, show n - es.length = (n - (es.length + 1)) + 1 by omega, List.replicate_succ, List.set_cons_zero, List.append_assoc]
  rfl
theorem errsTo_all {n : Nat} {es : List Int} (h : es.length = n) : errsTo n es = es := by unfold errsTo; rw [h, Nat.sub_self]; simp
theorem errsTo_len {n : Nat} {es : List Int} (h : es.length ≤ n) : (errsTo n es).length = n := by unfold errsTo; simp; omega
/-- A block of errors. -/
def EC (W : World) (g : Nat) (l : List Int) : Prop := Known W g tE (l.map (Value.int .i64)).toArray
theorem EC.put {W : World} {g : Nat} {l : List Int} (h : EC W g l) (k : Nat) (x : Int) : EC (W.setCell ⟨g, k, none⟩ (.int .i64 x)) g (l.set k x) := by
  have := Known.put h k (.int .i64 x)
  unfold EC
  rw [List.map_set]
  simpa using this
theorem EC.at_ {W : World} {g : Nat} {l : List Int} (h : EC W g l) {k : Nat} (hk : k < l.length) : ∃ x, W.cell? ⟨g, k, none⟩ = some (.int .i64 x) := ⟨l[k], by rw [Known.cell h]; simp [hk]⟩
theorem EC.reads {W : World} {g : Nat} {l : List Int} (h : EC W g l) : Reads W (some ⟨g, 0, none⟩) (l.map (Value.int .i64)) := fun k v hv => by
  refine ⟨g, 0, rfl, Known.lt h, ?_⟩
  rw [Nat.zero_add, Known.cell h]; simpa using hv
theorem infoE : (Try.prog.info? 28).map (fun i => (i.zero, i.size, i.bytes)) = some (some (.int .i64 0), 1, 8) := by kernel_rfl
theorem make_er (n : Nat) (hn : n ≤ 4194304) (w : World) :
    (Instr.makeSlice 23 (.int .i64 n) (.int .i64 n)).run Try.prog w = .ok (.slice (some ⟨w.heap.size, 0, none⟩) n n) (w.alloc (.cells (Array.replicate n (.int .i64 0)) 28)) := by
  obtain ⟨i, hi, hz0, hz1, hz2⟩ := info_parts infoE
  have hb : (i.bytes : Int) * (n : Int) ≤ 281474976710656 := by rw [hz2]; omega
  have hr := run_make (P := Try.prog) w 23 28 i (.int .i64 0) Try.underlying23 hi hz0 .i64 .i64 n n (by omega) (by omega) hb (by omega)
  have e : madeCells #[Value.int .i64 0] n = Array.replicate n (.int .i64 0) := by
    apply Array.ext_getElem?
    intro i
    by_cases h : i < n
    · simp [madeCells, h, Nat.mod_one]
    · simp [madeCells, h]
  rw [hr]
  simp only [Int.toNat_natCast, hz1, Nat.mul_one]
  rw [show (Value.int .i64 0).cells = #[Value.int .i64 0] from rfl, e]
section
variable {N M c : Nat} {L : Lab} {g : Int → Nat} {p : Int → Sk} {V V' : World}
theorem Bo.put (h : Bo N M L g p c V) {E j : Nat} (hE : E < N) (hM : E ≠ M) (v : Value) : Bo N M L g p c (V.setCell ⟨E, j, none⟩ v) := by
  obtain ⟨ks, h1, h2, h3, h4, h5⟩ := h.mp
  have hg := gr_set V E j v
  exact ⟨h.mn, Nat.le_trans h.nv hg.size, h.low, fun b hb => h.hi b (Nat.le_trans hg.size hb), ⟨ks, h1, h2, h3, h4, h5.kept hg (fun e => hM (by injection e with e; exact e.symm))⟩, fun x hx => (h.lk x hx).grown hg (fun b hb i => by injection hb with hb; subst hb; rw [h.low _ hE]; simp), h.em⟩
theorem Bo.start {W : World} (hw : V.heap.size = W.heap.size + 2) (hm : NMap V W.heap.size (.pointer none) (fun _ => .pointer none) []) : Bo (W.heap.size + 2) W.heap.size (fun _ => none) (fun _ => 0) (fun _ => sk0) 0 V :=
  ⟨by omega, by omega, fun _ _ => rfl, fun _ _ => rfl, ⟨[], List.nodup_nil, Nat.le_refl _, fun x => ⟨fun h => (by cases h), fun h => absurd rfl h⟩, fun x h => (by cases h), hm.congr fun x => (if_pos rfl).symm⟩, fun x hx => absurd rfl hx, fun x _ => rfl⟩
theorem MvB.known (m : MvB N M V V') {E : Nat} {t : TypeId} {cs : Array Value} (h : Known V E t cs) (hE : E < N) (hM : E ≠ M) : Known V' E t cs := (m.block E hE hM).trans h
theorem MvB.below {W : World} (m : MvB N W.heap.size V V') (hb : Below W.heap.size W V) (hN : W.heap.size ≤ N) : Below W.heap.size W V' :=
  ⟨m.os.trans hb.os, m.tape.trans hb.tape, m.output.trans hb.output, Nat.le_trans hb.size m.size, fun b hk => (m.block b (by omega) (by omega)).trans (hb.block b hk)⟩
end
/-- Behind the first k operations. -/
structure Pl (W : World) (n : Nat) (l : List LO) (k : Nat) (w : World) : Prop where
  ex : ∃ L g p, Bo (W.heap.size + 2) W.heap.size L g p k w ∧ LikeB p (l.take k)
  er : EC w (W.heap.size + 1) (errsTo n (errs (l.take k)))
  below : Below W.heap.size W w
set_option maxRecDepth 100000 in
set_option maxHeartbeats 16000000 in
theorem play_c (A : Option Addr) (l : List LO) (n ca : Nat) (W : World) (es : List Int) (ls : List Lc) (kl : Nat) (hn : l.length = n) (hbig : n ≤ 4194304) (hx : Reads W A (flat loE l)) (hf : FitOs l) (hes : errs l = es) (hls : locks l = ls) (hkl : ls.length = kl) :
    Calls Try.prog 8 #[.slice A n ca] W (PlayOutN es n ls kl W) := by
  have mk := fun w => make_er n hbig w
  have hmm := @run_makeMap Try.prog
  have P0 := Lib.hid (show Pl W n l 0 ((W.alloc (.map #[] 0)).alloc (.cells (Array.replicate n (.int .i64 0)) 28)) from by
    have hs : (W.alloc (.map #[] 0)).heap.size = W.heap.size + 1 := by simp
    refine ⟨⟨_, _, _, Bo.start (by simp) ((NMap.made W (.pointer none)).alloc _), by rw [List.take_zero]; exact LikeB.start⟩, ?_, (low_lit W _).alloc (by simp) _⟩
    have kn := Known.made (W.alloc (.map #[] 0)) 28 (Array.replicate n (.int .i64 0))
    rw [hs] at kn
    rw [List.take_zero]
    unfold EC errsTo
    simpa [errs_nil] using kn)
  have HX := Lib.hid hx
  have HN := Lib.hid hn
  have HF := Lib.hid hf
  have HE := Lib.hid hes
  have HL := Lib.hid hls
  have HK := Lib.hid hkl
  clear hx hn hf hes hls hkl
  go_enter Try.func8, Try.ntmps8
  go_wp2
  go_loopw [14] (fun i wr => ∃ k : Nat, k ≤ n ∧ i = .int .i64 k ∧ Pl W n l k wr) (fun i _ => n - (Go.RowKit.intOf i).toNat)
  case atStart => exact ⟨0, by omega, rfl, P0.out⟩
  case round =>
    obtain ⟨k, hk, rfl, hp⟩ := hrel
    have HP := Lib.hid hp
    clear P0 mk hmm
    by_cases hlt : k < n
    · have kk : k < l.length := by rw [HN.out]; exact hlt
      obtain ⟨⟨x0, x1, x2⟩, hx⟩ : ∃ o, l[k]? = some o := ⟨_, List.getElem?_eq_getElem kk⟩
      obtain ⟨b, o, rfl, hbl, y0, y1, y2⟩ := lo_at (HX.out.below hp.below) hx
      obtain ⟨L, g, p, hB, hLk⟩ := hp.ex
      simp only at y0 y1 y2
      have b1 := low_lit wr (.cells #[.int .i64 x0, .int .i64 x1, .int .i64 x2] 36)
      obtain ⟨d0, d1, d2⟩ := box_lo (w := wr) (x0, x1, x2)
      simp only at d0 d1 d2
      have hst := hLk.step (x0, x1, x2)
      have hll : (l.take k).length = k := by rw [List.length_take]; omega
      have PC := performB_c (W.heap.size + 2) W.heap.size L g p k (x0, x1, x2) _ (hB.later b1) (HF.out _ (List.mem_of_getElem? hx)) (by omega) (fun x => by have := hLk.len x; omega) hLk.nodup
      unfold BOut at PC
      obtain ⟨er, her⟩ : ∃ er, er = (performB p (x0, x1, x2)).1 := ⟨_, rfl⟩
      obtain ⟨p', hp'⟩ : ∃ p', p' = (performB p (x0, x1, x2)).2 := ⟨_, rfl⟩
      rw [← her, ← hp'] at PC
      rw [← her, ← hp'] at hst
      have TK := Lib.hid (show l.take (k + 1) = l.take k ++ [(x0, x1, x2)] by rw [List.take_add_one, hx]; rfl)
      have EL := Lib.hid (show (errs (l.take k)).length = k by rw [errs_len]; exact hll)
      have ST := Lib.hid hst
      have PCH := Lib.hid PC
      have E1 := Lib.hid (Known.later (show Known wr (W.heap.size + 1) tE _ from hp.er) b1)
      have BW := Lib.hid (hp.below.alloc hp.below.size (.cells #[.int .i64 x0, .int .i64 x1, .int .i64 x2] 36))
      have i1 : (k : Int) < (n : Int) := by omega
      have HLT := Lib.hid hlt
      have HBG := Lib.hid hbig
      clear kk hx hB hLk b1 hst hll PC her hp' hp HP
      go_wp2_with fail
      refine PCH.out.mono ?_
      rintro e w3 ⟨rfl, L', g', hB3, hM3⟩
      have E3 := Lib.hid (show EC w3 (W.heap.size + 1) (errsTo n (errs (l.take k))) from hM3.known E1.out (by omega) (by omega))
      have BW3 := Lib.hid (hM3.below BW.out (by omega))
      have B3 := Lib.hid hB3
      obtain ⟨x, hxx⟩ := E3.out.at_ (k := k) (by rw [errsTo_len (by rw [EL.out]; have := HLT.out; omega)]; exact HLT.out)
      have hff := Known.free (show Known w3 (W.heap.size + 1) tE _ from E3.out) k
      have FIN := Lib.hid (show Pl W n l (k + 1) (w3.setCell ⟨W.heap.size + 1, k, none⟩ (.int .i64 er)) from by
        refine ⟨⟨L', g', p', B3.out.put (by omega) (by omega) _, by rw [TK.out]; exact ST.out.2⟩, ?_, BW3.out.setCell (by show W.heap.size ≤ W.heap.size + 1; omega) _⟩
        have h1 := E3.out.put k er
        have h2 := errsTo_set (n := n) (es := errs (l.take k)) (by rw [EL.out]; exact HLT.out) er
        rw [EL.out] at h2
        rw [h2] at h1
        rw [TK.out, errs_snoc, ← ST.out.1]
        exact h1)
      have kb := HBG.out
      clear hB3 hM3 PCH E1 BW
      go_wp2
      go_roundw
      case rel => exact ⟨k + 1, by have := HLT.out; omega, by go_num, FIN.out⟩
      case measure => have := HLT.out; simp [Go.RowKit.intOf]; omega
    · obtain rfl : k = n := by omega
      obtain ⟨L, g, p, hB, hLk⟩ := hp.ex
      have htk : l.take k = l := List.take_of_length_le (by rw [HN.out]; exact Nat.le_refl _)
      rw [htk] at hLk
      have EE := Lib.hid (show EC wr (W.heap.size + 1) es by
        have h1 := hp.er
        rw [htk, errsTo_all (by rw [errs_len]; exact HN.out), HE.out] at h1
        exact h1)
      have LC := Lib.hid (list_c (W.heap.size + 2) W.heap.size L g p k wr W.heap.size (by omega) hB hbig ls kl HK.out (fun ss h1 h2 => by rw [← HL.out]; exact locks_like hLk h1 h2))
      have BW := Lib.hid hp.below
      have KB := Lib.hid hbig
      clear hB hLk htk hp HP
      go_wp2_with fail
      refine LC.out.mono ?_
      rintro e w4 ⟨B, d, rfl, hd, hnew, hb⟩
      have RR := Lib.hid (EE.out.reads.below hb)
      have NN := Lib.hid hnew
      have DD := Lib.hid hd
      have BB := Lib.hid (BW.out.trans (hb.mono BW.out.size))
      clear hnew hb hd LC
      go_wp2
      go_ret2
      exact ⟨_, _, _, _, rfl, ⟨Nat.le_refl _, by have := KB.out; omega⟩, DD.out, RR.out, NN.out, BB.out, fun a ha => by injection ha with ha; subst ha; show W.heap.size ≤ W.heap.size + 1; omega⟩
end Go.Proofs.Ytdkgclgccicbeaa.LkP
