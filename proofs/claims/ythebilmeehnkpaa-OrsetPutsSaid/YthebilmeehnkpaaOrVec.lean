/-
  Package vector, as package orset takes it: Wrong, Join, Tick.
-/
import Derived.Test.YthebilmeehnkpaaVeMem
import Derived.Test.YthebilmeehnkpaaGInts
import Derived.Deep.CutRange
namespace Go.Proofs.Ythebilmeehnkpaa.Ve
set_option linter.unusedVariables false
set_option linter.unusedSimpArgs false
open Go.RowKit Mem Gt
open Jump (Gave equalZ_c)

theorem low_lit (w : World) (o : Obj) : Below w.heap.size w (w.alloc o) := (Below.refl _ w).alloc (Nat.le_refl _) o
theorem reads_lit (V : World) (t : TypeId) {cs : Array Value} {l : List Value} (h : cs.toList = l) : Reads (V.alloc (.cells cs t)) (some ⟨V.heap.size, 0, none⟩) l := fun k v hv => by
  refine ⟨V.heap.size, 0, rfl, by simp, ?_⟩
  have kn : (V.alloc (.cells cs t)).heap[V.heap.size]? = some (.cells cs t (0, 0)) := Mem.Known.made V t cs
  rw [Nat.zero_add, cell_of_row _ _ k _ _ _ kn]
  rw [← h] at hv
  simpa using hv
theorem isv_of {W : World} {A : Option Addr} {a : Ve} {n ca : Nat} (hn : a.length = n) (hc : n ≤ ca ∧ ca ≤ 9223372036854775807) (hb : n ≤ 140737488355328) (hr : Reads W A (a.map (Value.int .i64))) : IsV W (.slice A n ca) a := by
  subst hn; exact ⟨A, ca, rfl, hc, hb, hr⟩
theorem lit2v (W : World) {u v : Value} {a b : Ve} (h1 : IsV W u a) (h2 : IsV W v b) : VRds (W.alloc (.cells #[u, v] 23)) (some ⟨W.heap.size, 0, none⟩) [a, b] := by
  refine ⟨[u, v], reads_lit W _ rfl, rfl, fun k x l hu hl => ?_⟩
  have hk : k < 2 := (List.getElem?_eq_some_iff.1 hl).1
  have hk : k = 0 ∨ k = 1 := by omega
  rcases hk with rfl | rfl
  · simp at hu hl; subst hu hl; exact h1.below (low_lit _ _)
  · simp at hu hl; subst hu hl; exact h2.below (low_lit _ _)
theorem lit1v (W : World) {u : Value} {a : Ve} (h1 : IsV W u a) : VRds (W.alloc (.cells #[u] 23)) (some ⟨W.heap.size, 0, none⟩) [a] := by
  refine ⟨[u], reads_lit W _ rfl, rfl, fun k x l hu hl => ?_⟩
  have hk : k < 1 := (List.getElem?_eq_some_iff.1 hl).1
  have hk : k = 0 := by omega
  subst hk
  simp at hu hl
  subst hu hl
  exact h1.below (low_lit _ _)
theorem any_take {α : Type} {p : α → Bool} {l : List α} {k : Nat} {x : α} (h : l[k]? = some x) : (l.take (k + 1)).any p = ((l.take k).any p || p x) := by
  rw [List.take_add_one, h, List.any_append]; simp
theorem any_of {α : Type} {p : α → Bool} {l : List α} {k : Nat} {x : α} (h : l[k]? = some x) (hp : p x = true) : l.any p = true := List.any_eq_true.2 ⟨x, List.mem_of_getElem? h, hp⟩
theorem wrong_at {ls : List Ve} {k n0 : Nat} {v v0 : Ve} (h0 : ls[0]? = some v0) (hn : v0.length = n0) (hk : ls[k]? = some v) (ht : wrongTo n0 (ls.take k) = 0) (hw : wrong1 n0 v ≠ 0) : wrongE ls = wrong1 n0 v := by
  have e : wrongE ls = wrongTo n0 ls := by
    cases ls with
    | nil => simp at h0
    | cons a l => simp at h0; subst h0; rw [← hn]; rfl
  have hlt := (List.getElem?_eq_some_iff.1 hk).1
  have es : ls = ls.take k ++ (v :: ls.drop (k + 1)) := by
    conv => lhs; rw [← List.take_append_drop k ls]
    rw [List.drop_eq_getElem_cons hlt, (List.getElem?_eq_some_iff.1 hk).2]
  rw [e]
  conv => lhs; rw [es]
  rw [wrongTo_app, if_pos ht, wrongTo, if_neg hw]
theorem wrong_none {ls : List Ve} {n0 : Nat} (h0 : ∀ v0, ls[0]? = some v0 → v0.length = n0) (ht : wrongTo n0 ls = 0) : wrongE ls = 0 := by
  cases ls with
  | nil => rfl
  | cons a l => rw [← h0 a rfl] at ht; exact ht
theorem wrongTo_step {ls : List Ve} {k n0 : Nat} {v : Ve} (hk : ls[k]? = some v) (ht : wrongTo n0 (ls.take k) = 0) (hw : wrong1 n0 v = 0) : wrongTo n0 (ls.take (k + 1)) = 0 := by
  rw [List.take_add_one, hk, wrongTo_app, if_pos ht]
  show wrongTo n0 [v] = 0
  rw [wrongTo, if_pos hw]; rfl
set_option maxRecDepth 100000 in
set_option maxHeartbeats 4000000 in
theorem outside_c (x : Int) (V : World) : Calls Try.prog 57 #[.int .i64 x] V (fun e W' => e = .returned (.bool (!okX x)) ∧ W' = V) := by
  by_cases h1 : x < 0
  · have E : (!okX x) = true := by unfold okX; rw [decide_eq_false (by omega)]; rfl
    rw [E]
    clear E
    go_enter Try.func57, Try.ntmps57
    go_wp2
    go_ret
    exact ⟨rfl, rfl⟩
  · by_cases h2 : 1099511627776 < x
    · have E : (!okX x) = true := by unfold okX; rw [decide_eq_false (show ¬ x ≤ 1099511627776 by omega), Bool.and_false]; rfl
      rw [E]
      clear E
      go_enter Try.func57, Try.ntmps57
      go_wp2
      go_ret
      exact ⟨rfl, rfl⟩
    · have E : (!okX x) = false := by unfold okX; rw [decide_eq_true (show x ≤ 1099511627776 by omega), decide_eq_true (show 0 ≤ x by omega)]; rfl
      rw [E]
      clear E
      go_enter Try.func57, Try.ntmps57
      go_wp2
      go_ret
      exact ⟨rfl, rfl⟩
set_option maxRecDepth 100000 in
set_option maxHeartbeats 4000000 in
theorem index_out (A : Option Addr) (l : List Int) (n ca : Nat) (W : World) (hn : l.length = n) (hbig : n ≤ 140737488355328) (hx : Reads W A (l.map (Value.int .i64))) (r : Bool) (hr : l.any (fun x => !okX x) = r) :
    Calls Try.prog 50 #[.slice A n ca, .func (.func 57) #[] #[]] W (fun e W' => ∃ k : Int, decide (0 ≤ k) = r ∧ e = .returned (.int .i64 k) ∧ W' = W) := by
  have HX := Lib.hid hx
  have HN := Lib.hid hn
  have HR := Lib.hid hr
  clear hx hn hr
  go_enter Try.func50, Try.ntmps50
  go_wp2
  go_loopw [8] (fun i wr => ∃ k : Nat, k ≤ n ∧ i = .int .i64 k ∧ (l.take k).any (fun x => !okX x) = false ∧ wr = W) (fun i _ => n - (intOf i).toNat)
  case atStart => exact ⟨0, by omega, rfl, by simp, rfl⟩
  case round =>
    obtain ⟨k, hk, rfl, ha, rfl⟩ := hrel
    have TA := Lib.hid ha
    clear ha
    by_cases hlt : k < n
    · have kl : k < l.length := by rw [HN.out]; exact hlt
      obtain ⟨x, hx⟩ : ∃ x, l[k]? = some x := ⟨_, List.getElem?_eq_getElem kl⟩
      obtain ⟨b1, o1, rfl, _, y0⟩ := int_at HX.out hx
      have EX := Lib.hid hx
      have i1 : (k : Int) < (n : Int) := by omega
      have CC0 := outside_c x wr
      clear kl hx
      cases hb : okX x with
      | false =>
        rw [hb] at CC0
        have CC := Lib.hid CC0
        have RT := Lib.hid (show r = true by rw [← HR.out]; exact any_of EX.out (by rw [hb]; rfl))
        clear hb CC0
        go_wp2_with fail
        refine CC.out.mono ?_
        rintro e w2 ⟨rfl, hw⟩
        rw [hw]
        clear hw
        go_wp2
        go_ret
        exact ⟨k, by rw [RT.out]; exact decide_eq_true (by omega), rfl, rfl⟩
      | true =>
        rw [hb] at CC0
        have CC := Lib.hid CC0
        have TN := Lib.hid (show (l.take (k + 1)).any (fun x => !okX x) = false by rw [any_take EX.out, TA.out, hb]; rfl)
        clear hb CC0
        go_wp2_with fail
        refine CC.out.mono ?_
        rintro e w2 ⟨rfl, hw⟩
        rw [hw]
        clear hw
        go_wp2
        go_roundw
        case rel => exact ⟨k + 1, by omega, by go_num, TN.out, trivial⟩
        case measure => simp [intOf]; omega
    · obtain rfl : k = n := by omega
      have RF := Lib.hid (show r = false by rw [← HR.out, ← TA.out, List.take_of_length_le (by rw [HN.out]; exact Nat.le_refl _)])
      go_wp2
      go_ret
      exact ⟨-1, by rw [RF.out]; rfl, rfl, rfl⟩
set_option maxRecDepth 100000 in
theorem contains_out (A : Option Addr) (l : List Int) (n ca : Nat) (W : World) (hn : l.length = n) (hbig : n ≤ 140737488355328) (hx : Reads W A (l.map (Value.int .i64))) (r : Bool) (hr : l.any (fun x => !okX x) = r) :
    Calls Try.prog 56 #[.slice A n ca, .func (.func 57) #[] #[]] W (fun e W' => e = .returned (.bool r) ∧ W' = W) := by
  have IC := Lib.hid (index_out A l n ca W hn hbig hx r hr)
  clear hx hn hr
  go_enter Try.func56, Try.ntmps56
  go_wp2_with fail
  refine IC.out.mono ?_
  rintro e w2 ⟨k, hk, rfl, hw⟩
  rw [hw]
  clear hw
  go_wp2
  go_ret
  exact ⟨by simp [hk], rfl⟩
theorem any_all (v : Ve) : v.any (fun x => !okX x) = !v.all okX := by rw [List.not_all_eq_any_not]
set_option maxRecDepth 100000 in
set_option maxHeartbeats 8000000 in
theorem wrong_c (A : Option Addr) (ls : List Ve) (n ca : Nat) (V : World) (e : Int) (hn : ls.length = n) (hbig : n ≤ 140737488355328) (hx : VRds V A ls) (he : wrongE ls = e) :
    Calls Try.prog 36 #[.slice A n ca] V (fun x W' => x = .returned (.int .i64 e) ∧ W' = V) := by
  obtain ⟨n0, h0⟩ : ∃ n0, ∀ v0, ls[0]? = some v0 → v0.length = n0 := by
    cases ls with
    | nil => exact ⟨0, fun v h => by simp at h⟩
    | cons a l => exact ⟨a.length, fun v h => by simp at h; rw [h]⟩
  have HX := Lib.hid hx
  have HN := Lib.hid hn
  have H0 := Lib.hid h0
  have HE := Lib.hid he
  clear hx hn h0 he
  go_enter Try.func36, Try.ntmps36
  go_wp2_with fail
  go_loopw [7] (fun i wr => ∃ k : Nat, k ≤ n ∧ i = .int .i64 k ∧ wrongTo n0 (ls.take k) = 0 ∧ wr = V) (fun i _ => n - (intOf i).toNat)
  case atStart => exact ⟨0, by omega, rfl, rfl, rfl⟩
  case round =>
    obtain ⟨k, hk, rfl, ht, rfl⟩ := hrel
    have HT := Lib.hid ht
    clear ht
    by_cases hlt : k < n
    · have kl : k < ls.length := by rw [HN.out]; exact hlt
      have k0 : 0 < ls.length := by omega
      obtain ⟨v, hv⟩ : ∃ v, ls[k]? = some v := ⟨_, List.getElem?_eq_getElem kl⟩
      obtain ⟨v0, hv0⟩ : ∃ v, ls[0]? = some v := ⟨_, List.getElem?_eq_getElem k0⟩
      have W1 := Lib.hid (fun hw => wrong_at hv0 (H0.out v0 hv0) hv HT.out hw)
      have W0 := Lib.hid (fun hw => wrongTo_step hv HT.out hw)
      obtain ⟨b1, o1, C, c, rfl, _, y1, hlc, hc, hrd⟩ := HX.out.row hv
      obtain ⟨b2, o2, C2, c2, e2, _, y2, hlc2, hc2, _⟩ := HX.out.row hv0
      injection e2 with e2
      injection e2 with e3 e4
      subst e3 e4
      rw [H0.out v0 hv0] at y2 hlc2 hc2
      simp only [Nat.add_zero] at y2
      obtain ⟨q, hq⟩ : ∃ q, v.length = q := ⟨_, rfl⟩
      rw [hq] at y1 hlc hc
      have j1 : (k : Int) < (n : Int) := by omega
      have j0 : (0 : Int) < (n : Int) := by omega
      have HQ := Lib.hid hq
      have HV := Lib.hid hv
      have CC0 := fun r hr => contains_out C v q c wr hq hc hrd r hr
      clear kl k0 hv hv0 hrd hq
      by_cases h16 : 16 < q
      · have j2 : (16 : Int) < (q : Int) := by omega
        have E := Lib.hid (show e = 1 by
          have h1 : wrong1 n0 v = 1 := by unfold wrong1; rw [if_pos (by rw [HQ.out]; omega)]
          rw [← HE.out, W1.out (by rw [h1]; decide), h1])
        clear h16 CC0
        go_wp2
        rw [E.out]
        go_ret
        exact ⟨rfl, rfl⟩
      have j2 : ¬ (16 : Int) < (q : Int) := by omega
      by_cases hq0 : q = n0
      · subst hq0
        cases hb : v.all okX with
        | false =>
          have CC := Lib.hid (CC0 true (by rw [any_all, hb]; rfl))
          have E := Lib.hid (show e = 2 by
            have hh : wrong1 q v = 2 := by unfold wrong1; rw [if_neg (by rw [HQ.out]; omega), if_neg (by rw [hb]; decide)]
            rw [← HE.out, W1.out (by rw [hh]; decide), hh])
          clear CC0 hb
          go_wp2_with fail
          refine CC.out.mono ?_
          rintro e w2 ⟨rfl, hw⟩
          rw [hw]
          clear hw
          go_wp2
          rw [E.out]
          go_ret
          exact ⟨rfl, rfl⟩
        | true =>
          have CC := Lib.hid (CC0 false (by rw [any_all, hb]; rfl))
          have T2 := Lib.hid (W0.out (by unfold wrong1; rw [if_neg (by rw [HQ.out]; omega), if_pos hb]))
          clear CC0 hb
          go_wp2_with fail
          refine CC.out.mono ?_
          rintro e w2 ⟨rfl, hw⟩
          rw [hw]
          clear hw
          go_wp2
          go_roundw
          case rel => exact ⟨k + 1, by omega, by go_num, T2.out, trivial⟩
          case measure => simp [intOf]; omega
      · have j3 : ¬ (q : Int) = (n0 : Int) := by omega
        have E := Lib.hid (show e = 1 by
          have h1 : wrong1 n0 v = 1 := by unfold wrong1; rw [if_pos (by rw [HQ.out]; exact .inr hq0)]
          rw [← HE.out, W1.out (by rw [h1]; decide), h1])
        clear CC0
        go_wp2
        rw [E.out]
        go_ret
        exact ⟨rfl, rfl⟩
    · obtain rfl : k = n := by omega
      have E := Lib.hid (show e = 0 by
        have := HT.out
        rw [List.take_of_length_le (Nat.le_of_eq HN.out)] at this
        rw [← HE.out, wrong_none H0.out this])
      go_wp2
      rw [E.out]
      go_ret
      exact ⟨rfl, rfl⟩
theorem madeZ (z : Value) (n : Nat) : madeCells #[z] n = Array.replicate n z := by
  apply Array.ext_getElem?
  intro i
  by_cases h : i < n
  · simp [madeCells, h, Nat.mod_one]
  · simp [madeCells, h]
theorem make_ints (n : Nat) (hn : n ≤ 1000) (w : World) :
    (Instr.makeSlice 23 (.int .i64 n) (.int .i64 n)).run Try.prog w = .ok (.slice (some ⟨w.heap.size, 0, none⟩) n n) (w.alloc (.cells (Array.replicate n (.int .i64 0)) 3)) := by
  obtain ⟨i, hi, hz0, hz1, hz2⟩ := info_parts infoI
  have hb : (i.bytes : Int) * (n : Int) ≤ 281474976710656 := by rw [hz2]; omega
  have hr := run_make (P := Try.prog) w 23 3 i (.int .i64 0) Try.underlying23 hi hz0 .i64 .i64 n n (by omega) (by omega) hb (by omega)
  rw [hr]
  simp only [Int.toNat_natCast, hz1, Nat.mul_one]
  rw [show (Value.int .i64 0).cells = #[Value.int .i64 0] from rfl, madeZ]
/-- A block of numbers of the call's own. -/
def IC (W : World) (g : Nat) (l : List Int) : Prop := Known W g 3 (l.map (Value.int .i64)).toArray
section
variable {W V : World} {g : Nat} {l : List Int}
theorem IC.at_ (h : IC W g l) {k : Nat} {x : Int} (hk : l[k]? = some x) : W.cell? ⟨g, k, none⟩ = some (.int .i64 x) := by rw [Known.cell h]; simp [hk]
theorem IC.free (h : IC W g l) (k : Nat) : W.frozen? ⟨g, k, none⟩ = false := Known.free h k
theorem IC.put (h : IC W g l) (k : Nat) (x : Int) : IC (W.setCell ⟨g, k, none⟩ (.int .i64 x)) g (l.set k x) := by
  have := Known.put h k (.int .i64 x)
  unfold IC
  rw [List.map_set]
  simpa using this
theorem IC.drew (h : IC W g l) : IC W.drew g l := h
theorem IC.reads (h : IC W g l) : Reads W (some ⟨g, 0, none⟩) (l.map (Value.int .i64)) := fun k v hv => by
  refine ⟨g, 0, rfl, Known.lt h, ?_⟩
  rw [Nat.zero_add, Known.cell h]; simpa using hv
theorem IC.new (W : World) (n : Nat) : IC (W.alloc (.cells (Array.replicate n (.int .i64 0)) 3)) W.heap.size (List.replicate n 0) := by
  have := Known.made W 3 (Array.replicate n (.int .i64 0))
  unfold IC
  simpa using this
end
/-- The first k places hold the join. -/
def JAt (n : Nat) (jl : List Int) (k : Nat) (cur : List Int) : Prop := cur.length = n ∧ ∀ j, j < k → cur[j]? = jl[j]?
theorem JAt.step {n k : Nat} {jl cur : List Int} {x : Int} (h : JAt n jl k cur) (hk : k < n) (hx : jl[k]? = some x) : JAt n jl (k + 1) (cur.set k x) := by
  refine ⟨by rw [List.length_set]; exact h.1, fun j hj => ?_⟩
  rw [List.getElem?_set]
  split
  · rename_i e; subst e; rw [if_pos (by rw [h.1]; exact hk), hx]
  · exact h.2 j (by omega)
theorem JAt.all {n : Nat} {jl cur : List Int} (h : JAt n jl n cur) (hl : jl.length = n) : cur = jl := by
  apply List.ext_getElem?
  intro i
  by_cases hi : i < n
  · exact h.2 i hi
  · rw [List.getElem?_eq_none (by rw [h.1]; omega), List.getElem?_eq_none (by omega)]
set_option maxRecDepth 100000 in
set_option maxHeartbeats 8000000 in
theorem joinSpec : JoinSpec := fun A B a b n m ca cb V l k e hn hm ka kb h1 h2 hx hy he hl hk => by
  have P := Lib.hid (wrong_c (some ⟨V.heap.size, 0, none⟩) [a, b] 2 2 (V.alloc (.cells #[.slice A n ca, .slice B m cb] 23)) e rfl (by omega) (lit2v V (isv_of hn ka (by omega) hx) (isv_of hm kb (by omega) hy)) he)
  obtain ⟨w0, hw0⟩ : ∃ w0, V.alloc (.cells #[.slice A n ca, .slice B m cb] 23) = w0 := ⟨_, rfl⟩
  have BL := Lib.hid (low_lit V (.cells #[.slice A n ca, .slice B m cb] 23))
  by_cases h0 : e = 0
  · subst h0
    obtain ⟨q, hq⟩ := wrongE_zero.1 he
    have fa := hq a (by simp)
    have fb := hq b (by simp)
    obtain rfl : n = q := hn.symm.trans fa.1
    obtain rfl : n = m := fb.1.symm.trans hm
    rw [if_pos rfl] at hl
    obtain rfl : n = k := by rw [← hk, ← hl, join_len (hn.trans hm.symm)]; exact hn.symm
    have n16 := fa.2.1
    rw [hw0] at P BL
    have hmk := make_ints n (by omega) w0
    have HX := Lib.hid (hx.below BL.out)
    have HY := Lib.hid (hy.below BL.out)
    have HN := Lib.hid hn
    have HM := Lib.hid hm
    have HK := Lib.hid hk
    have HL := Lib.hid hl
    obtain ⟨g, hg⟩ : ∃ g, w0.heap.size = g := ⟨_, rfl⟩
    have I0 := Lib.hid (show IC (w0.alloc (.cells (Array.replicate n (.int .i64 0)) 3)) g (List.replicate n 0) from hg ▸ IC.new w0 n)
    have B0 := Lib.hid (show Below g w0 (w0.alloc (.cells (Array.replicate n (.int .i64 0)) 3)) from hg ▸ low_lit w0 _)
    have GV := Lib.hid (show V.heap.size ≤ g by rw [← hg, ← hw0]; simp)
    rw [hg] at hmk
    have HX := Lib.hid (fun (w : World) (h : Below g w0 w) => HX.out.below (hg ▸ h))
    have HY := Lib.hid (fun (w : World) (h : Below g w0 w) => HY.out.below (hg ▸ h))
    have HW := Lib.hid hw0
    clear hn hm ka kb hx hy he hl hk fa fb hq hg h1 h2
    go_enter Try.func41, Try.ntmps41
    go_wp2_with fail
    refine P.out.mono ?_
    clear hw0
    rintro e w1 ⟨rfl, hw⟩
    rw [hw]
    clear hw
    go_wp2_with fail
    go_loopw [21] (fun i wr => ∃ (k : Nat) (cur : List Int), k ≤ n ∧ i = .int .i64 k ∧ JAt n l k cur ∧ IC wr g cur ∧ Below g w0 wr) (fun i _ => n - (Go.RowKit.intOf i).toNat)
    case atStart => exact ⟨0, List.replicate n 0, by omega, rfl, ⟨by simp, fun j h => absurd h (Nat.not_lt_zero _)⟩, I0.out, B0.out⟩
    case round =>
      obtain ⟨k, cur, hk, rfl, hj, hI, hB⟩ := hrel
      have HJ := Lib.hid hj
      have HI := Lib.hid hI
      have BB := Lib.hid hB
      clear hj hI
      by_cases hlt : k < n
      · have kl : k < a.length := by rw [HN.out]; exact hlt
        have km : k < b.length := by rw [HM.out]; exact hlt
        obtain ⟨x, hx⟩ : ∃ x, a[k]? = some x := ⟨_, List.getElem?_eq_getElem kl⟩
        obtain ⟨y, hy⟩ : ∃ y, b[k]? = some y := ⟨_, List.getElem?_eq_getElem km⟩
        obtain ⟨b1, o1, rfl, _, c1⟩ := int_at (HX.out wr hB) hx
        obtain ⟨b2, o2, rfl, _, c2⟩ := int_at (HY.out wr hB) hy
        obtain ⟨z, hz⟩ : ∃ z, max x y = z := ⟨_, rfl⟩
        have JS := Lib.hid (HJ.out.step (x := z) hlt (by rw [← HL.out]; unfold join; rw [List.getElem?_zipWith, hx, hy, ← hz]))
        have c3 := HI.out.free k
        obtain ⟨u, hu⟩ : ∃ u, cur[k]? = some u := ⟨_, List.getElem?_eq_getElem (by rw [HJ.out.1]; exact hlt)⟩
        have c4 := HI.out.at_ hu
        have j1 : (k : Int) < (n : Int) := by omega
        clear kl km hx hy hB hu
        go_wp2_with fail
        refine Mem.region_tail 11 (by kernel_rfl) (by kernel_rfl) ?_
        simp only [List.take_succ_cons, List.take_zero, List.drop_succ_cons, List.drop_zero]
        repeat still_step
        refine wpStill_nil ?_
        go_wp2
        go_roundw
        case rel => exact ⟨k + 1, _, by omega, by go_num, JS.out, HI.out.drew.put k _, (below_drew BB.out).setCell (Nat.le_refl _) _⟩
        case measure => simp [Go.RowKit.intOf]; omega
      · obtain rfl : k = n := by omega
        have R := Lib.hid (HI.out.reads)
        rw [HJ.out.all HK.out] at R
        have BE := Lib.hid (BL.out.trans (BB.out.mono GV.out))
        clear hB
        go_wp2
        go_ret2
        exact ⟨some ⟨g, 0, none⟩, k, rfl, ⟨Nat.le_refl _, by omega⟩, R.out, BE.out⟩
  · rw [if_neg h0] at hl
    subst hl
    obtain rfl : 0 = k := hk
    have q1 : (e != 0) = true := by simpa using h0
    clear hn hm ka kb hx hy he h0 hw0
    go_enter Try.func41, Try.ntmps41
    go_wp2_with fail
    refine P.out.mono ?_
    rintro e w1 ⟨rfl, hw⟩
    rw [hw]
    clear hw
    go_wp2
    go_ret2
    exact ⟨none, 0, rfl, by simp, Reads.nil, BL.out⟩
set_option maxRecDepth 100000 in
set_option maxHeartbeats 8000000 in
theorem tickSpec : TickSpec := fun A a n ca who V l k e hn ka hbig hx hw he hl hk => by
  obtain ⟨u, hu⟩ : ∃ u, wrongE [a] = u := ⟨_, rfl⟩
  have P := Lib.hid (wrong_c (some ⟨V.heap.size, 0, none⟩) [a] 1 1 (V.alloc (.cells #[.slice A n ca] 23)) u rfl (by omega) (lit1v V (isv_of hn ka (by omega) hx)) hu)
  have BL := Lib.hid (low_lit V (.cells #[.slice A n ca] 23))
  by_cases h0 : u = 0
  · subst h0
    obtain ⟨q, hq⟩ := wrongE_zero.1 hu
    have fa := hq a (by simp)
    obtain rfl : n = q := hn.symm.trans fa.1
    unfold tickE at he
    rw [hu, if_neg (by decide), hn] at he
    by_cases g1 : who < 0 ∨ (n : Int) ≤ who
    · rw [if_pos g1] at he
      subst he
      rw [if_neg (by decide)] at hl
      subst hl
      obtain rfl : 0 = k := hk
      clear hn ka hx hu fa hq hw
      by_cases g2 : who < 0
      · clear g1
        go_enter Try.func29, Try.ntmps29
        go_wp2_with fail
        refine P.out.mono ?_
        rintro e w1 ⟨rfl, hw⟩
        rw [hw]
        clear hw
        go_wp2
        go_ret2
        exact ⟨none, 0, rfl, by simp, Reads.nil, BL.out⟩
      · have g3 : (n : Int) ≤ who := by omega
        clear g1
        go_enter Try.func29, Try.ntmps29
        go_wp2_with fail
        refine P.out.mono ?_
        rintro e w1 ⟨rfl, hw⟩
        rw [hw]
        clear hw
        go_wp2
        go_ret2
        exact ⟨none, 0, rfl, by simp, Reads.nil, BL.out⟩
    · rw [if_neg g1] at he
      obtain ⟨p, rfl⟩ : ∃ p : Nat, who = p := ⟨who.toNat, by omega⟩
      rw [Int.toNat_natCast] at he hl
      have p1 : p < n := by omega
      have p2 : (p : Int) < (n : Int) := by omega
      have pl : p < a.length := by omega
      obtain ⟨x, hxx⟩ : ∃ x, a[p]? = some x := ⟨_, List.getElem?_eq_getElem pl⟩
      have hg : a.getD p 0 = x := by rw [List.getD_eq_getElem?_getD, hxx]; rfl
      rw [hg] at he
      have xf := fa.2.2 x (List.mem_of_getElem? hxx)
      have hx2 := hx.below BL.out
      obtain ⟨b1, o1, rfl, _, c1⟩ := int_at hx2 hxx
      by_cases g2 : x = 1099511627776
      · rw [if_pos g2] at he
        subst he
        rw [if_neg (by decide)] at hl
        subst hl
        obtain rfl : 0 = k := hk
        have q1 : (x == 1099511627776) = true := by simpa using g2
        clear hn ka hx hu fa hq hw g1 p1 pl hxx hg g2 xf hx2
        go_enter Try.func29, Try.ntmps29
        go_wp2_with fail
        refine P.out.mono ?_
        rintro e w1 ⟨rfl, hw⟩
        rw [hw]
        clear hw
        go_wp2
        go_ret2
        exact ⟨none, 0, rfl, by simp, Reads.nil, BL.out⟩
      · rw [if_neg g2] at he
        subst he
        rw [if_pos rfl] at hl
        have e1 : l = a.set p (x + 1) := by rw [← hl]; unfold bump; rw [hg]
        obtain rfl : n = k := by rw [← hk, e1, List.length_set]; exact hn.symm
        have q1 : (x == 1099511627776) = false := by simpa using g2
        have q2 : IntKind.i64.wrap (x + 1) = x + 1 := IntWalk.i64_in _ (by omega)
        have C := Lib.hid (clone_z (some ⟨b1, o1, none⟩) a n ca (V.alloc (.cells #[.slice (some ⟨b1, o1, none⟩) n ca] 23)) hn (by have := fa.2.1; omega) hx2)
        have HN := Lib.hid hn
        have HXX := Lib.hid hxx
        have HE := Lib.hid e1
        have P1 := Lib.hid p1
        have NN := Lib.hid fa.2.1
        clear hn ka hx hu fa hq hw g1 p1 pl hxx hg g2 xf hx2 hl hk e1
        go_enter Try.func29, Try.ntmps29
        go_wp2_with fail
        refine P.out.mono ?_
        rintro e w1 ⟨rfl, hw⟩
        rw [hw]
        clear hw
        go_wp2_with fail
        refine C.out.mono ?_
        rintro e w2 ⟨A2, c2, rfl, hz, hb⟩
        obtain ⟨g, x2, rfl, hg1, hg2, hgx, hgc, hgf, hput⟩ := hz.put HN.out P1.out
        rw [HXX.out] at hgx
        injection hgx with hgx
        subst hgx
        have ZF := Lib.hid (hz.form)
        have BE := Lib.hid ((BL.out.trans (hb.mono BL.out.size)).setCell (p := ⟨g, p, none⟩) (Nat.le_trans BL.out.size hg1) (.int .i64 (x + 1)))
        have ZE := Lib.hid (hput (x + 1)).reads
        have CB := Lib.hid (show n ≤ c2 ∧ c2 ≤ 9223372036854775807 by
          obtain ⟨A', c', h1, h2, h3⟩ := ZF.out
          injection h1 with e1 e2 e3
          subst e3
          unfold maxLen at h3
          have := HN.out
          omega)
        rw [← HE.out] at ZE
        clear hz hb hg1 hg2 hput
        go_wp2
        go_ret2
        exact ⟨some ⟨g, 0, none⟩, c2, rfl, CB.out, ZE.out, BE.out⟩
  · have e1 : e = u := by rw [← he]; unfold tickE; rw [hu, if_pos h0]
    subst e1
    rw [if_neg h0] at hl
    subst hl
    obtain rfl : 0 = k := hk
    have q1 : (e != 0) = true := by simpa using h0
    clear hn ka hx he hu h0 hw
    go_enter Try.func29, Try.ntmps29
    go_wp2_with fail
    refine P.out.mono ?_
    rintro e w1 ⟨rfl, hw⟩
    rw [hw]
    clear hw
    go_wp2
    go_ret2
    exact ⟨none, 0, rfl, by simp, Reads.nil, BL.out⟩
end Go.Proofs.Ythebilmeehnkpaa.Ve
