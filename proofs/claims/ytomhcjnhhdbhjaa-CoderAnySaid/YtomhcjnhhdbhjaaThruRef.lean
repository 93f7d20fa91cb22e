/-
  The reference's CThrough: the polynomial through the points.
-/
import Derived.Test.YtomhcjnhhdbhjaaTimesRef
namespace Go.Proofs.Ytomhcjnhhdbhjaa.Poly
set_option linter.unusedVariables false
open Go.RowKit Gf Mem
attribute [local go_sem] xor8_nat

theorem nodup_lt : ∀ (n : Nat) (l : List Nat), l.Nodup → (∀ x ∈ l, x < n) → l.length ≤ n
  | 0, l, _, h => by
    cases l with
    | nil => simp
    | cons x l => exact absurd (h x (by simp)) (by omega)
  | n + 1, l, hd, h => by
    by_cases hn : n ∈ l
    · have h1 := nodup_lt n (l.erase n) (hd.erase _) (fun x hx => by
        obtain ⟨h2, h3⟩ := (List.Nodup.mem_erase_iff hd).1 hx
        have := h x h3; omega)
      rw [List.length_erase_of_mem hn] at h1
      omega
    · have h1 := nodup_lt n l hd (fun x hx => by
        have h2 := h x hx
        have h3 : x ≠ n := fun e => hn (e ▸ hx)
        omega)
      omega
theorem nodup_256 {l : List UInt8} (h : l.Nodup) : l.length ≤ 256 := by
  have := nodup_lt 256 (l.map UInt8.toNat) (List.Pairwise.map _ (fun a b hne e => hne (UInt8.toNat_inj.1 e)) h) (fun x hx => by
    obtain ⟨y, _, rfl⟩ := List.mem_map.1 hx; exact y.toNat_lt)
  simpa using this
theorem nodup_ne {l : List UInt8} (h : l.Nodup) {i k : Nat} {x y : UInt8} (hi : l[i]? = some y) (hk : l[k]? = some x) (hne : i ≠ k) : x ≠ y := fun e => by
  subst e
  obtain ⟨h1, h2⟩ := List.getElem?_eq_some_iff.1 hi
  obtain ⟨h3, h4⟩ := List.getElem?_eq_some_iff.1 hk
  have hp := List.pairwise_iff_getElem.1 h
  rcases Nat.lt_or_gt_of_ne hne with hlt | hlt
  · exact hp i k h1 h3 hlt (h2.trans h4.symm)
  · exact hp k i h3 h1 hlt (h4.trans h2.symm)

def cnt (k m : Nat) : Nat := if k < m then m - 1 else m
/-- One: 'y' at point k, nought at the other points below m. -/
def One (xs : List UInt8) (k m : Nat) (x y : UInt8) (one : List UInt8) : Prop :=
  ev one x = y ∧ (∀ (i : Nat) (z : UInt8), i < m → i ≠ k → xs[i]? = some z → ev one z = 0) ∧ one.length ≤ 1 + cnt k m
theorem one_start (xs : List UInt8) (k : Nat) (x y : UInt8) : One xs k 0 x y [y] :=
  ⟨by show y ^^^ mul x 0 = y; rw [mul_zero, xor_zero'], fun i z h => absurd h (by omega), by simp [cnt]⟩
theorem one_same {xs : List UInt8} {k : Nat} {x y : UInt8} {one : List UInt8} (h : One xs k k x y one) : One xs k (k + 1) x y one :=
  ⟨h.1, fun i z h1 h2 => h.2.1 i z (by omega) h2, by have := h.2.2; simp [cnt] at this ⊢; exact this⟩
theorem one_next {xs : List UInt8} {k m : Nat} {x y z : UInt8} {one : List UInt8} (h : One xs k m x y one) (hd : xs.Nodup) (hm : m ≠ k) (hx : xs[k]? = some x) (hz : xs[m]? = some z) :
    One xs k (m + 1) x y (trim (pmul one [mul z (inv (xor8 x z)), inv (xor8 x z)])) := by
  have hne : xor8 x z ≠ 0 := xor_ne (nodup_ne hd hz hx hm)
  have e : ∀ v, ev [mul z (inv (xor8 x z)), inv (xor8 x z)] v = mul (z ^^^ v) (inv (xor8 x z)) := fun v => by
    show mul z (inv (xor8 x z)) ^^^ mul v (inv (xor8 x z) ^^^ mul v 0) = _
    rw [mul_zero, xor_zero', Gf.add_mul]
  refine ⟨?_, fun i v h1 h2 h3 => ?_, ?_⟩
  · rw [ev_trim, ev_pmul, h.1, e, UInt8.xor_comm z x]
    show mul y (mul (xor8 x z) (inv (xor8 x z))) = y
    rw [mul_inv hne, mul_one]
  · rw [ev_trim, ev_pmul]
    by_cases hi : i = m
    · subst hi
      rw [hz] at h3; injection h3 with h3; subst h3
      rw [e, xor_self', zero_mul, mul_zero]
    · rw [h.2.1 i v (by omega) h2 h3, zero_mul]
  · have h1 := trim_len (pmul one [mul z (inv (xor8 x z)), inv (xor8 x z)])
    have h2 := len_pmul' one (q := [mul z (inv (xor8 x z)), inv (xor8 x z)]) (by simp)
    have h3 := h.2.2
    simp only [List.length_cons, List.length_nil] at h2
    unfold cnt at *
    split at h3 <;> split <;> omega

/-- Thr: the polynomial through the first k points that is nought at the others. -/
def Thr (xs ys : List UInt8) (k : Nat) (l : List UInt8) : Prop := l.length = xs.length ∧ ∀ (j : Nat) (x y : UInt8), xs[j]? = some x → ys[j]? = some y → ev l x = if j < k then y else 0
theorem thr_start (xs ys : List UInt8) : Thr xs ys 0 (List.replicate xs.length 0) :=
  ⟨by simp, fun j x y _ _ => by rw [if_neg (by omega)]; exact ev_zero_of (co_replicate _) x⟩
theorem thr_next {xs ys l one : List UInt8} {k : Nat} {x y : UInt8} (h : Thr xs ys k l) (h1 : One xs k xs.length x y one) (hx : xs[k]? = some x) (hy : ys[k]? = some y) : Thr xs ys (k + 1) (padd l one) := by
  have hk := (List.getElem?_eq_some_iff.1 hx).1
  refine ⟨?_, fun j v w hv hw => ?_⟩
  · have h2 := h1.2.2
    unfold cnt at h2; rw [if_pos hk] at h2
    rw [len_padd, h.1]; omega
  · rw [ev_padd, h.2 j v w hv hw]
    by_cases e : j = k
    · subst e
      rw [hx] at hv; injection hv with hv; subst hv
      rw [hy] at hw; injection hw with hw; subst hw
      rw [h1.1, if_neg (by omega), if_pos (by omega), zero_xor']
    · rw [h1.2.1 j v (List.getElem?_eq_some_iff.1 hv).1 e hv, xor_zero']
      by_cases e2 : j < k
      · rw [if_pos e2, if_pos (by omega)]
      · rw [if_neg e2, if_neg (by omega)]
theorem thr_end {xs ys l : List UInt8} (h : Thr xs ys xs.length l) : Thru xs ys (trim l) :=
  ⟨trim_trim l, by rw [← h.1]; exact trim_len l, fun i x y hx hy => by
    rw [ev_trim, h.2 i x y hx hy, if_pos (List.getElem?_eq_some_iff.1 hx).1]⟩
/-- The first m coefficients of one added in. -/
def part (l one : List UInt8) (m : Nat) : List UInt8 := padd l (one.take m)
theorem part_zero (l one : List UInt8) : part l one 0 = l := by unfold part; rw [List.take_zero, padd_nil]
theorem part_all (l one : List UInt8) : part l one one.length = padd l one := by unfold part; rw [List.take_of_length_le (Nat.le_refl _)]
theorem part_len {l one : List UInt8} (h : one.length ≤ l.length) (m : Nat) : (part l one m).length = l.length := by
  unfold part; rw [len_padd, List.length_take]; omega
theorem part_at {l one : List UInt8} (h : one.length ≤ l.length) {m : Nat} (hm : m < one.length) : (part l one m)[m]? = some (co l m) := by
  rw [getElem?_of_co (by rw [part_len h]; omega)]
  unfold part; rw [co_padd, co_take, if_neg (by omega), xor_zero']
theorem part_next {l one : List UInt8} (h : one.length ≤ l.length) {m : Nat} {c : UInt8} (hc : one[m]? = some c) : (part l one m).set m (xor8 (co l m) c) = part l one (m + 1) := by
  have hm := (List.getElem?_eq_some_iff.1 hc).1
  apply ext_co
  · rw [List.length_set, part_len h, part_len h]
  · intro k _
    rw [co_set (by rw [part_len h]; omega)]
    unfold part
    rw [co_padd, co_padd, co_take, co_take]
    by_cases e : k = m
    · subst e; rw [if_pos rfl, if_pos (by omega), co_of_some hc]; rfl
    · rw [if_neg e]
      by_cases e2 : k < m
      · rw [if_pos e2, if_pos (by omega)]
      · rw [if_neg e2, if_neg (by omega)]

def ThAt (W : World) (xs ys : List UInt8) (k : Nat) (V : World) : Prop := ∃ l, Thr xs ys k l ∧ Own V W.heap.size l ∧ Below W.heap.size W V
theorem th_start (W : World) (xs ys : List UInt8) : ThAt W xs ys 0 (W.alloc (.cells (Array.replicate xs.length (byt 0)) 5)) :=
  ⟨_, thr_start xs ys, Own.made W _, (Below.refl _ _).alloc (Nat.le_refl _) _⟩
/-- The slice s holds one, in a block behind out's. -/
def OneAt (W : World) (xs l : List UInt8) (k m : Nat) (x y : UInt8) (s : Value) (V : World) : Prop :=
  ∃ (A : Option Addr) (cap : Nat) (one : List UInt8), s = .slice A one.length cap ∧ One xs k m x y one ∧ Reads V A (one.map byt) ∧ (∀ a, A = some a → W.heap.size < a.block) ∧ Own V W.heap.size l ∧ Below W.heap.size W V
def ThruGives (xs ys : List UInt8) (W : World) (e : Ending) (W' : World) : Prop := ∃ r, Thru xs ys r ∧ Gives r W e W'

set_option maxRecDepth 100000 in
set_option maxHeartbeats 4000000 in
theorem cThrough_c (A B : Option Addr) (xs ys : List UInt8) (ca cb : Nat) (hl : xs.length = ys.length) (hd : xs.Nodup) (W : World) (hx : Reads W A (xs.map byt)) (hy : Reads W B (ys.map byt)) :
    Calls Try.prog 31 #[.slice A xs.length ca, .slice B xs.length cb] W (ThruGives xs ys W) := by
  have h256 := nodup_256 hd
  have hmk := make8 xs.length (by omega)
  have H0 := Lib.hid (th_start W xs ys)
  have HX := Lib.hid hx
  have HY := Lib.hid hy
  have HD := Lib.hid hd
  have HL := Lib.hid hl
  clear hx hy hd hl
  generalize hN : xs.length = n at *
  have HN := Lib.hid hN
  clear hN
  go_enter Try.func31, Try.ntmps31
  go_wp2
  go_loopw [19] (fun k wr => ∃ kk : Nat, kk ≤ n ∧ k = .int .i64 kk ∧ ThAt W xs ys kk wr) (fun k _ => n - (intOf k).toNat)
  case atStart => exact ⟨0, by omega, rfl, H0.out⟩
  case round =>
    obtain ⟨k, hk, rfl, hT⟩ := hrel
    have HT := Lib.hid hT
    clear hT
    obtain ⟨wo, rfl⟩ : ∃ wo : World, wo = wr := ⟨_, rfl⟩
    by_cases hlt : k < n
    · obtain ⟨l, hth, hO, hB⟩ := HT.out
      obtain ⟨b, o, x, rfl, ex, cx⟩ := (HX.out.below hB).bytes (k := k) (by rw [HN.out]; exact hlt)
      obtain ⟨b2, o2, y, rfl, ey, cy⟩ := (HY.out.below hB).bytes (k := k) (by rw [← HL.out]; exact hlt)
      have i4 : (k : Int) < (n : Int) := by omega
      have HTH := Lib.hid hth
      have HO := Lib.hid hO
      have HB := Lib.hid hB
      have EX := Lib.hid ex
      have EY := Lib.hid ey
      clear hth hO hB ex ey
      go_wp2
      go_loopw [8, 31] (fun s i wr => ∃ ii : Nat, ii ≤ n ∧ i = .int .i64 ii ∧ OneAt W xs l k ii x y s wr) (fun _ i _ => n - (intOf i).toNat)
      case atStart =>
        exact ⟨0, by omega, rfl, some ⟨wo.heap.size, 0, none⟩, 1, [y], rfl, one_start xs k x y, (Own.new wo [y]).reads, fun a ha => by injection ha with ha; subst ha; exact HO.out.lt, HO.out.alloc _, HB.out.alloc HB.out.size _⟩
      case round =>
        obtain ⟨i, hi, rfl, hT⟩ := hrel
        have HT2 := Lib.hid hT
        clear hT
        obtain ⟨C, cc, one, rfl, hone, hR, hF, hO2, hB2⟩ := HT2.out
        have HR := Lib.hid hR
        have HF := Lib.hid hF
        have HO2 := Lib.hid hO2
        have HB2 := Lib.hid hB2
        have HONE := Lib.hid hone
        clear hone hR hF hO2 hB2
        by_cases hlt2 : i < n
        · obtain ⟨b3, o3, z, eb, ez, cz⟩ := (HX.out.below HB2.out).bytes (k := i) (by rw [HN.out]; exact hlt2)
          injection eb with eb
          injection eb with eb1 eb2
          subst eb1 eb2
          have EZ := Lib.hid ez
          clear ez
          by_cases hik : i = k
          · subst hik
            go_wp2
            go_roundw
            case rel => exact ⟨i + 1, by omega, by go_num, C, cc, one, rfl, one_same HONE.out, HR.out, HF.out, HO2.out, HB2.out⟩
            case measure => simp [intOf]; omega
          · have b1 : ((i : Int) == (k : Int)) = false := by rw [beq_eq_false_iff_ne]; omega
            have HIK := Lib.hid hik
            clear hik
            have hlen : one.length ≤ 1 + cnt k i := HONE.out.2.2
            have hlen2 : one.length ≤ 257 := by unfold cnt at hlen; split at hlen <;> omega
            clear hlen
            go_wp2_with fail
            refine (bInv_c (xor8 x z) _).mono ?_
            rintro e w' ⟨rfl, rfl⟩
            go_wp2_with fail
            refine (bMul_c z (inv (xor8 x z)) _).mono ?_
            rintro e w' ⟨rfl, rfl⟩
            go_wp2_with fail
            refine (cTimes_c C (some ⟨wr.heap.size, 0, none⟩) one [mul z (inv (xor8 x z)), inv (xor8 x z)] cc 2 (by show one.length + 2 ≤ _; omega) _ (HR.out.alloc _) (Own.new wr [mul z (inv (xor8 x z)), inv (xor8 x z)]).reads).mono ?_
            rintro e w1 ⟨A', cap', rfl, hle, hr, hb, hfr⟩
            have K1 := Lib.hid hr
            have K2 := Lib.hid hb
            have K3 := Lib.hid hfr
            clear hr hb hfr hle
            go_wp2
            go_roundw
            case rel =>
              have h1 := HO2.out.lt
              refine ⟨i + 1, by omega, by go_num, A', cap', _, rfl, one_next HONE.out HD.out HIK.out EX.out EZ.out, K1.out, fun a ha => ?_, ?_, ?_⟩
              · have h2 := K3.out a ha
                simp at h2; omega
              · exact (HO2.out.alloc _).later K2.out
              · exact (HB2.out.alloc HB2.out.size _).trans (K2.out.mono (by simp; omega))
            case measure => simp [intOf]; omega
        · obtain rfl : i = n := by omega
          have hle : one.length ≤ i := by
            have h1 := HONE.out.2.2
            unfold cnt at h1; rw [if_pos hlt] at h1; omega
          have hll : l.length = i := by rw [HTH.out.1, HN.out]
          have HLL := Lib.hid hll
          clear hll
          go_wp2
          go_loopw [53] (fun j wv => ∃ jj : Nat, jj ≤ one.length ∧ j = .int .i64 jj ∧ Own wv W.heap.size (part l one jj) ∧ Reads wv C (one.map byt) ∧ Below W.heap.size W wv) (fun j _ => one.length - (intOf j).toNat)
          case atStart => exact ⟨0, by omega, rfl, by rw [part_zero]; exact HO2.out, HR.out, HB2.out⟩
          case round =>
            obtain ⟨wi, rfl⟩ : ∃ wi : World, wi = wr := ⟨_, rfl⟩
            rename_i wv
            obtain ⟨j, hj, rfl, hO3, hR3, hB3⟩ := hrel
            by_cases hlt3 : j < one.length
            · obtain ⟨b4, o4, c, rfl, ec, cc4⟩ := hR3.bytes hlt3
              have co3 := hO3.at_ (part_at (by rw [HLL.out]; exact hle) hlt3)
              have fo3 := hO3.free j
              have HO3 := Lib.hid hO3
              have HR3 := Lib.hid hR3
              have HB3 := Lib.hid hB3
              have EC := Lib.hid (part_next (l := l) (by rw [HLL.out]; exact hle) ec)
              clear hO3 hR3 hB3 ec
              go_wp2
              go_roundw
              case rel => exact ⟨j + 1, by omega, by go_num, by rw [← EC.out]; exact HO3.out.put j _, HR3.out.off (fun a ha => by have h1 := HF.out a ha; show a.block ≠ W.heap.size; omega) _, HB3.out.setCell (Nat.le_refl _) _⟩
              case measure => simp [intOf]; omega
            · obtain rfl : j = one.length := by omega
              rw [part_all] at hO3
              have HO3 := Lib.hid hO3
              have HB3 := Lib.hid hB3
              clear hO3 hR3 hB3
              go_wp2
              go_roundw
              case rel =>
                have h1 := HONE.out
                rw [← HN.out] at h1
                exact ⟨k + 1, by omega, by go_num, _, thr_next HTH.out h1 EX.out EY.out, HO3.out, HB3.out⟩
              case measure => simp [intOf]; omega
    · obtain rfl : k = n := by omega
      obtain ⟨l, hth, hO, hB⟩ := HT.out
      have hl2 : l.length = k := by rw [hth.1, HN.out]
      have HL2 := Lib.hid hl2
      have HTH := Lib.hid hth
      clear hth hl2
      go_wp2_with fail
      refine (cTrim_n (some ⟨W.heap.size, 0, none⟩) l k k HL2.out (Nat.le_refl _) (by unfold maxLen; omega) _ hO.reads).mono ?_
      rintro e w' ⟨rfl, rfl⟩
      go_wp2
      go_ret
      exact ⟨trim l, thr_end (by rw [HN.out]; exact HTH.out), _, k, rfl, by have := trim_len l; rw [HL2.out] at this; exact this, trim_reads hO.reads, hB, fun a ha => by injection ha with ha; subst ha; exact Nat.le_refl _⟩
end Go.Proofs.Ytomhcjnhhdbhjaa.Poly
