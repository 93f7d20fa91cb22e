/-
  The document's own answer: MSorted, MLeast, MDual.
-/
import Derived.Test.YteggbepibfpjcaaQrRef
import Derived.Test.YteggbepibfpjcaaQrMap
namespace Go.Proofs.Yteggbepibfpjcaa.Qr
set_option linter.unusedVariables false
set_option linter.unusedSimpArgs false
open Go.RowKit Mem

theorem rise_succ (k : Nat) (p : Nat → Bool) : (p k = true → rise (k + 1) p = rise k p ++ [k]) ∧ (p k = false → rise (k + 1) p = rise k p) := by
  unfold rise
  rw [List.range_succ, List.filter_append]
  exact ⟨fun h => by simp [h], fun h => by simp [h]⟩
theorem rise_len (k : Nat) (p : Nat → Bool) : (rise k p).length ≤ k := by have := List.length_filter_le p (List.range k); simpa [rise] using this
/-- A slice of sets that a call makes. -/
def SetsOut (l : List Nat) (n : Nat) (W : World) (e : Ending) (W' : World) : Prop := ∃ A c, e = .returned (.slice A n c) ∧ Reads W' A (l.map w16) ∧ Below W.heap.size W W'

set_option maxRecDepth 100000 in
set_option maxHeartbeats 4000000 in
theorem msorted_l (bx : Nat) (p : Nat → Bool) (l : List Nat) (n : Nat) (W : World) (hl : rise 65536 p = l) (hn : l.length = n)
    (hc : ∀ (V : World) (s : Nat), s < 65536 → Below W.heap.size W V → Calls Try.prog 41 #[.int .u16 s, .pointer (some ⟨bx, 0, none⟩)] V (Gave (.bool (p s)) V)) :
    Calls Try.prog 15 #[.func (.func 41) #[] #[.pointer (some ⟨bx, 0, none⟩)]] W (SetsOut l n W) := by
  subst hn hl
  have HC := Lib.hid (fun (V : World) (s : Nat) (hs : s < 65536) (hb : Below W.heap.size W V) (r : Bool) (hr : p s = r) => show Calls Try.prog 41 #[.int .u16 s, .pointer (some ⟨bx, 0, none⟩)] V (Gave (.bool r) V) from hr ▸ hc V s hs hb)
  have RS := Lib.hid (fun k => rise_succ k p)
  clear hc
  go_enter Try.func15, Try.ntmps15
  go_wp2
  go_loopw [3, 4] (fun v i wr => ∃ (k n : Nat) (A : Option Addr) (c : Nat), k ≤ 65536 ∧ n ≤ k ∧ i = .int .i64 k ∧ v = .slice A n c ∧ (rise k p).length = n ∧ UTab wr W.heap.size (.slice A n c) (rise k p) ∧ Below W.heap.size W wr) (fun _ i _ => 65536 - (intOf i).toNat)
  case atStart => exact ⟨0, 0, none, 0, by omega, by omega, rfl, rfl, rfl, UTab.nil _ _, Below.refl _ _⟩
  case round =>
    obtain ⟨k, n, A, c, hk, hnk, rfl, rfl, hl, hT, hB⟩ := hrel
    have DL := Lib.hid hl
    have ZT := Lib.hid hT
    have BB := Lib.hid hB
    clear hl hT hB
    by_cases hlt : k < 65536
    · have i1 : (k : Int) < 65536 := by omega
      have w1 : IntKind.u16.wrap (k : Int) = (k : Int) := wrap16 hlt
      obtain ⟨t1, t2⟩ := RS.out k
      cases hb : p k with
      | false =>
        have EQ := Lib.hid (t2 hb)
        have CC := Lib.hid (HC.out wr k hlt BB.out false hb)
        clear t1 t2 hb
        go_wp2_with fail
        refine CC.out.mono ?_
        rintro e w2 ⟨rfl, hb⟩
        have B2 := Lib.hid (BB.out.trans (hb.mono BB.out.size))
        have Z2 := Lib.hid (ZT.out.later hb)
        clear hb
        go_wp2
        go_roundw
        case rel => exact ⟨k + 1, n, A, c, by omega, by omega, by go_num, rfl, by rw [EQ.out]; exact DL.out, by rw [EQ.out]; exact Z2.out, B2.out⟩
        case measure => simp [intOf]; omega
      | true =>
        have EQ := Lib.hid (t1 hb)
        have CC := Lib.hid (HC.out wr k hlt BB.out true hb)
        clear t1 t2 hb
        go_wp2_with fail
        refine CC.out.mono ?_
        rintro e w2 ⟨rfl, hb⟩
        have B2 := Lib.hid (BB.out.trans (hb.mono BB.out.size))
        have Z2 := Lib.hid (ZT.out.later hb)
        clear hb
        go_wp2_with (refine wpList_append_u rfl _ _ (by rfl) (y := (k : Int)) k rfl (B := W.heap.size) (v := .slice A n c) (l := rise k p) (n := n) rfl rfl Z2.out DL.out (by omega) B2.out.size B2.out (Nat.le_refl _) ?_; intro A3 c3 w3 Z3 G3 B3)
        go_roundw
        case rel => exact ⟨k + 1, n + 1, A3, c3, by omega, by omega, by go_num, rfl, by rw [EQ.out, List.length_append, DL.out]; rfl, by rw [EQ.out]; exact Z3.out, B3.out⟩
        case measure => simp [intOf]; omega
    · obtain rfl : k = 65536 := by omega
      go_wp2
      go_ret
      rw [DL.out]
      exact ⟨A, c, rfl, ZT.out.reads, BB.out⟩
set_option maxRecDepth 100000 in
set_option maxHeartbeats 4000000 in
theorem msorted_m (bx : Nat) (p : Nat → Bool) (l : List Nat) (n : Nat) (W : World) (hl : rise 65536 p = l) (hn : l.length = n)
    (hc : ∀ (V : World) (s : Nat), s < 65536 → Below W.heap.size W V → Calls Try.prog 16 #[.int .u16 s, .pointer (some ⟨bx, 0, none⟩)] V (Gave (.bool (p s)) V)) :
    Calls Try.prog 15 #[.func (.func 16) #[] #[.pointer (some ⟨bx, 0, none⟩)]] W (SetsOut l n W) := by
  subst hn hl
  have HC := Lib.hid (fun (V : World) (s : Nat) (hs : s < 65536) (hb : Below W.heap.size W V) (r : Bool) (hr : p s = r) => show Calls Try.prog 16 #[.int .u16 s, .pointer (some ⟨bx, 0, none⟩)] V (Gave (.bool r) V) from hr ▸ hc V s hs hb)
  have RS := Lib.hid (fun k => rise_succ k p)
  clear hc
  go_enter Try.func15, Try.ntmps15
  go_wp2
  go_loopw [3, 4] (fun v i wr => ∃ (k n : Nat) (A : Option Addr) (c : Nat), k ≤ 65536 ∧ n ≤ k ∧ i = .int .i64 k ∧ v = .slice A n c ∧ (rise k p).length = n ∧ UTab wr W.heap.size (.slice A n c) (rise k p) ∧ Below W.heap.size W wr) (fun _ i _ => 65536 - (intOf i).toNat)
  case atStart => exact ⟨0, 0, none, 0, by omega, by omega, rfl, rfl, rfl, UTab.nil _ _, Below.refl _ _⟩
  case round =>
    obtain ⟨k, n, A, c, hk, hnk, rfl, rfl, hl, hT, hB⟩ := hrel
    have DL := Lib.hid hl
    have ZT := Lib.hid hT
    have BB := Lib.hid hB
    clear hl hT hB
    by_cases hlt : k < 65536
    · have i1 : (k : Int) < 65536 := by omega
      have w1 : IntKind.u16.wrap (k : Int) = (k : Int) := wrap16 hlt
      obtain ⟨t1, t2⟩ := RS.out k
      cases hb : p k with
      | false =>
        have EQ := Lib.hid (t2 hb)
        have CC := Lib.hid (HC.out wr k hlt BB.out false hb)
        clear t1 t2 hb
        go_wp2_with fail
        refine CC.out.mono ?_
        rintro e w2 ⟨rfl, hb⟩
        have B2 := Lib.hid (BB.out.trans (hb.mono BB.out.size))
        have Z2 := Lib.hid (ZT.out.later hb)
        clear hb
        go_wp2
        go_roundw
        case rel => exact ⟨k + 1, n, A, c, by omega, by omega, by go_num, rfl, by rw [EQ.out]; exact DL.out, by rw [EQ.out]; exact Z2.out, B2.out⟩
        case measure => simp [intOf]; omega
      | true =>
        have EQ := Lib.hid (t1 hb)
        have CC := Lib.hid (HC.out wr k hlt BB.out true hb)
        clear t1 t2 hb
        go_wp2_with fail
        refine CC.out.mono ?_
        rintro e w2 ⟨rfl, hb⟩
        have B2 := Lib.hid (BB.out.trans (hb.mono BB.out.size))
        have Z2 := Lib.hid (ZT.out.later hb)
        clear hb
        go_wp2_with (refine wpList_append_u rfl _ _ (by rfl) (y := (k : Int)) k rfl (B := W.heap.size) (v := .slice A n c) (l := rise k p) (n := n) rfl rfl Z2.out DL.out (by omega) B2.out.size B2.out (Nat.le_refl _) ?_; intro A3 c3 w3 Z3 G3 B3)
        go_roundw
        case rel => exact ⟨k + 1, n + 1, A3, c3, by omega, by omega, by go_num, rfl, by rw [EQ.out, List.length_append, DL.out]; rfl, by rw [EQ.out]; exact Z3.out, B3.out⟩
        case measure => simp [intOf]; omega
    · obtain rfl : k = 65536 := by omega
      go_wp2
      go_ret
      rw [DL.out]
      exact ⟨A, c, rfl, ZT.out.reads, BB.out⟩
set_option maxRecDepth 100000 in
set_option maxHeartbeats 4000000 in
theorem msorted_g (bx : Nat) (p : Nat → Bool) (l : List Nat) (n : Nat) (W : World) (hl : rise 65536 p = l) (hn : l.length = n)
    (hc : ∀ (V : World) (s : Nat), s < 65536 → Below W.heap.size W V → Calls Try.prog 18 #[.int .u16 s, .pointer (some ⟨bx, 0, none⟩)] V (Gave (.bool (p s)) V)) :
    Calls Try.prog 15 #[.func (.func 18) #[] #[.pointer (some ⟨bx, 0, none⟩)]] W (SetsOut l n W) := by
  subst hn hl
  have HC := Lib.hid (fun (V : World) (s : Nat) (hs : s < 65536) (hb : Below W.heap.size W V) (r : Bool) (hr : p s = r) => show Calls Try.prog 18 #[.int .u16 s, .pointer (some ⟨bx, 0, none⟩)] V (Gave (.bool r) V) from hr ▸ hc V s hs hb)
  have RS := Lib.hid (fun k => rise_succ k p)
  clear hc
  go_enter Try.func15, Try.ntmps15
  go_wp2
  go_loopw [3, 4] (fun v i wr => ∃ (k n : Nat) (A : Option Addr) (c : Nat), k ≤ 65536 ∧ n ≤ k ∧ i = .int .i64 k ∧ v = .slice A n c ∧ (rise k p).length = n ∧ UTab wr W.heap.size (.slice A n c) (rise k p) ∧ Below W.heap.size W wr) (fun _ i _ => 65536 - (intOf i).toNat)
  case atStart => exact ⟨0, 0, none, 0, by omega, by omega, rfl, rfl, rfl, UTab.nil _ _, Below.refl _ _⟩
  case round =>
    obtain ⟨k, n, A, c, hk, hnk, rfl, rfl, hl, hT, hB⟩ := hrel
    have DL := Lib.hid hl
    have ZT := Lib.hid hT
    have BB := Lib.hid hB
    clear hl hT hB
    by_cases hlt : k < 65536
    · have i1 : (k : Int) < 65536 := by omega
      have w1 : IntKind.u16.wrap (k : Int) = (k : Int) := wrap16 hlt
      obtain ⟨t1, t2⟩ := RS.out k
      cases hb : p k with
      | false =>
        have EQ := Lib.hid (t2 hb)
        have CC := Lib.hid (HC.out wr k hlt BB.out false hb)
        clear t1 t2 hb
        go_wp2_with fail
        refine CC.out.mono ?_
        rintro e w2 ⟨rfl, hb⟩
        have B2 := Lib.hid (BB.out.trans (hb.mono BB.out.size))
        have Z2 := Lib.hid (ZT.out.later hb)
        clear hb
        go_wp2
        go_roundw
        case rel => exact ⟨k + 1, n, A, c, by omega, by omega, by go_num, rfl, by rw [EQ.out]; exact DL.out, by rw [EQ.out]; exact Z2.out, B2.out⟩
        case measure => simp [intOf]; omega
      | true =>
        have EQ := Lib.hid (t1 hb)
        have CC := Lib.hid (HC.out wr k hlt BB.out true hb)
        clear t1 t2 hb
        go_wp2_with fail
        refine CC.out.mono ?_
        rintro e w2 ⟨rfl, hb⟩
        have B2 := Lib.hid (BB.out.trans (hb.mono BB.out.size))
        have Z2 := Lib.hid (ZT.out.later hb)
        clear hb
        go_wp2_with (refine wpList_append_u rfl _ _ (by rfl) (y := (k : Int)) k rfl (B := W.heap.size) (v := .slice A n c) (l := rise k p) (n := n) rfl rfl Z2.out DL.out (by omega) B2.out.size B2.out (Nat.le_refl _) ?_; intro A3 c3 w3 Z3 G3 B3)
        go_roundw
        case rel => exact ⟨k + 1, n + 1, A3, c3, by omega, by omega, by go_num, rfl, by rw [EQ.out, List.length_append, DL.out]; rfl, by rw [EQ.out]; exact Z3.out, B3.out⟩
        case measure => simp [intOf]; omega
    · obtain rfl : k = 65536 := by omega
      go_wp2
      go_ret
      rw [DL.out]
      exact ⟨A, c, rfl, ZT.out.reads, BB.out⟩

/-! ### MLeast -/
set_option maxRecDepth 100000 in
theorem mleast1_c (bx b : Nat) (f : Nat → Bool) (N s : Nat) (V : World) (hs : s < 65536) (h1 : V.cell? ⟨bx, 0, none⟩ = some (.map (some b))) (h2 : BMap V b f N) :
    Calls Try.prog 41 #[.int .u16 s, .pointer (some ⟨bx, 0, none⟩)] V (Gave (.bool (f s)) V) := by
  have HB := Lib.hid h2
  obtain ⟨r, hr⟩ : ∃ r, f s = r := ⟨_, rfl⟩
  rw [hr]
  have HR := Lib.hid hr
  clear h2 hr
  go_enter Try.func41, Try.ntmps41
  go_wp2_with (refine wpList_lookup_b rfl _ _ (by rfl) HB.out s hs rfl rfl r HR.out ?_)
  go_ret
  exact ⟨rfl, Below.refl _ _⟩
/-- The answers behind the first k sets. -/
def lst (l : List Nat) (k s : Nat) : Bool := decide (s ∈ l.take k ∧ ∀ y ∈ l, ¬ Within y s)
theorem lst_step {l : List Nat} {k x : Nat} (h : l[k]? = some x) {c : Bool} (hc : decide (∀ y ∈ l, ¬ Within y x) = c) (s : Nat) : (if s = x then c else lst l k s) = lst l (k + 1) s := by
  unfold lst
  rw [List.take_add_one, h]
  simp only [Option.toList, List.mem_append, List.mem_singleton]
  by_cases e : s = x
  · subst e
    rw [if_pos rfl, ← hc]
    exact decide_eq_decide.2 ⟨fun h => ⟨.inr rfl, h⟩, fun h => h.2⟩
  · rw [if_neg e]
    exact decide_eq_decide.2 ⟨fun h => ⟨.inl h.1, h.2⟩, fun h => ⟨h.1.resolve_right e, h.2⟩⟩
theorem lst_all {l : List Nat} {n : Nat} (h : l.length = n) (s : Nat) : lst l n s = isLeast l s := by
  unfold lst isLeast
  rw [List.take_of_length_le (by omega)]
/-- None of a list is within a set. -/
def allNot (l : List Nat) (x : Nat) : Bool := l.all (fun y => !decide (Within y x))
theorem allNot_dec (l : List Nat) (x : Nat) : allNot l x = decide (∀ y ∈ l, ¬ Within y x) := by
  unfold allNot
  rw [Bool.eq_iff_iff, List.all_eq_true, decide_eq_true_iff]
  simp
theorem all_step {l : List Nat} {j x y : Nat} (h : l[j]? = some y) : allNot (l.take (j + 1)) x = (allNot (l.take j) x && !decide (Within y x)) := by
  unfold allNot
  rw [List.take_add_one, h, List.all_append]
  simp
set_option maxRecDepth 100000 in
set_option maxHeartbeats 8000000 in
theorem mleast_c (A : Option Addr) (l : List Nat) (n ca : Nat) (W : World) (hn : l.length = n) (hbig : n ≤ 1000000) (hx : Reads W A (l.map w16)) (hf : Fits l) (l0 : List Nat) (n0 : Nat) (hl0 : least l = l0) (hn0 : l0.length = n0) :
    Calls Try.prog 22 #[.slice A n ca] W (SetsOut l0 n0 W) := by
  have HX := Lib.hid hx
  have HN := Lib.hid hn
  have HF := Lib.hid hf
  have HL := Lib.hid hl0
  have HM := Lib.hid hn0
  have hmm := @run_makeMap Try.prog
  have mk := fun fn first cap w => (show (Instr.makeFunc fn first cap).run Try.prog w = .ok (.func fn first cap) w from rfl)
  have M0 := Lib.hid ((BMap.made W).alloc (.cells #[.map (some W.heap.size)] 36))
  have K0 := Known.made (W.alloc (.map #[] 0)) 36 #[.map (some W.heap.size)]
  have hsz : (W.alloc (.map #[] 0)).heap.size = W.heap.size + 1 := by simp
  rw [hsz] at K0
  have KK := Lib.hid K0
  have B0 := Lib.hid (show Below W.heap.size W ((W.alloc (.map #[] 0)).alloc (.cells #[.map (some W.heap.size)] 36)) from ((Below.refl _ _).alloc (Nat.le_refl _) _).alloc (by simp) _)
  clear hx hn hf hl0 hn0 K0 hsz
  go_enter Try.func22, Try.ntmps22
  go_wp2
  clear hmm
  go_loopw [12] (fun i wr => ∃ k : Nat, k ≤ n ∧ i = .int .i64 k ∧ BMap wr W.heap.size (lst l k) k ∧ Known wr (W.heap.size + 1) 36 #[.map (some W.heap.size)] ∧ Below W.heap.size W wr) (fun i _ => n - (intOf i).toNat)
  case atStart => exact ⟨0, by omega, rfl, M0.out.congr (fun x _ => by simp [lst]), KK.out, B0.out⟩
  case round =>
    obtain ⟨k, hk, rfl, hM, hK, hB⟩ := hrel
    have MM := Lib.hid hM
    have K1 := Lib.hid hK
    have BB := Lib.hid hB
    have x1 := hK.cell 0
    clear M0 KK B0
    by_cases hlt : k < n
    · have kl : k < l.length := by rw [HN.out]; exact hlt
      obtain ⟨x, hx⟩ : ∃ x, l[k]? = some x := ⟨_, List.getElem?_eq_getElem kl⟩
      have xf := HF.out x (List.mem_of_getElem? hx)
      obtain ⟨b1, o1, rfl, hb1, y1⟩ := Reads.at16 (HX.out.below hB) hx
      have EX := Lib.hid hx
      have i1 : (k : Int) < (n : Int) := by omega
      obtain ⟨wo, rfl⟩ : ∃ wo : World, wo = wr := ⟨_, rfl⟩
      have RO := Lib.hid (HX.out.below hB)
      clear kl hx hM hK hB hb1
      go_wp2
      clear y1
      go_loopw [6, 18] (fun v i wq => ∃ j : Nat, j ≤ n ∧ i = .int .i64 j ∧ v = .bool (allNot (l.take j) x) ∧ wq = wo) (fun _ i _ => n - (intOf i).toNat)
      case atStart => exact ⟨0, by omega, rfl, rfl, rfl⟩
      case round =>
        obtain ⟨j, hj, rfl, rfl, hw⟩ := hrel
        subst hw
        by_cases hlj : j < n
        · have jl : j < l.length := by rw [HN.out]; exact hlj
          obtain ⟨y, hy⟩ : ∃ y, l[j]? = some y := ⟨_, List.getElem?_eq_getElem jl⟩
          have yf := HF.out y (List.mem_of_getElem? hy)
          obtain ⟨b2, o2, e2, _, z1⟩ := Reads.at16 RO.out hy
          injection e2 with e2
          injection e2 with e3 e4
          subst e3 e4
          have AS := all_step (x := x) hy
          have j1 : (j : Int) < (n : Int) := by omega
          obtain ⟨c, hc⟩ : ∃ c, c = allNot (l.take j) x := ⟨_, rfl⟩
          obtain ⟨d, hd⟩ : ∃ d, decide (Within y x) = d := ⟨_, rfl⟩
          rw [← hc, hd] at AS
          rw [← hc]
          have MW := Lib.hid (fun V => mwithin_c y x V yf xf d hd)
          have AH := Lib.hid AS
          clear jl hy hc hd AS
          cases c with
          | false =>
            go_wp2
            go_roundw
            case rel => exact ⟨j + 1, by omega, by go_num, by rw [AH.out]; rfl, by trivial⟩
            case measure => simp [intOf]; omega
          | true =>
            cases d
            all_goals
              go_wp2_with fail
              refine (MW.out _).mono ?_
              rintro e w2 ⟨rfl, rfl⟩
              go_wp2
              go_roundw
              case rel => exact ⟨j + 1, by omega, by go_num, by rw [AH.out]; rfl, by trivial⟩
              case measure => simp [intOf]; omega
        · obtain rfl : j = n := by omega
          obtain ⟨c, hc⟩ : ∃ c, c = allNot (l.take j) x := ⟨_, rfl⟩
          rw [← hc]
          have HC := Lib.hid (show decide (∀ y ∈ l, ¬ Within y x) = c by rw [hc, List.take_of_length_le (by rw [HN.out]; omega), allNot_dec])
          have LS := Lib.hid (fun s => lst_step EX.out HC.out s)
          clear hc
          go_wp2_with (refine wpList_update_b rfl _ _ _ (by rfl) MM.out (by unfold maxLen; omega) x xf c rfl rfl rfl ?_; intro V hS hG; have M2 := Lib.hid (hS.congr (fun s _ => LS.out s)); have B2 := Lib.hid (BB.out.grown hG BB.out.size (fun k hk => by injection hk with hk; subst hk; exact Nat.le_refl _)); have K2 := Lib.hid (show Known V (W.heap.size + 1) 36 #[.map (some W.heap.size)] from (hG.block _ K1.out.lt (by simp)).trans K1.out); clear hS hG)
          go_roundw
          case rel => exact ⟨k + 1, by omega, by go_num, M2.out, K2.out, B2.out⟩
          case measure => simp [intOf]; omega
    · obtain rfl : k = n := by omega
      have MA := Lib.hid (hM.congr (fun s _ => lst_all HN.out s))
      clear hM hK hB
      have SO := Lib.hid (msorted_l (W.heap.size + 1) (isLeast l) l0 n0 wr HL.out HM.out (fun V s hs hb => mleast1_c (W.heap.size + 1) W.heap.size (isLeast l) k s V hs ((K1.out.later hb).cell 0) (MA.out.later hb)))
      go_wp2_with fail
      refine SO.out.mono ?_
      rintro e w2 ⟨A2, c2, rfl, hr, hb⟩
      have R2 := Lib.hid hr
      have B2 := Lib.hid (BB.out.trans (hb.mono BB.out.size))
      clear hr hb
      go_wp2
      go_ret
      exact ⟨A2, c2, rfl, R2.out, B2.out⟩

end Go.Proofs.Yteggbepibfpjcaa.Qr
