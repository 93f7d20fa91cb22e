/-
  The contract of (*Int).trim: it strikes the noughts at the end of the digits.
-/
import Derived.Test.YtahhgeecikljdaaBigMem
namespace Go.Proofs.Ytahhgeecikljdaa.Big
open Go.RowKit

def Zeros (ds : List UInt32) (k : Nat) : Prop := ∀ (j : Nat) (u : UInt32), k ≤ j → ds[j]? = some u → u = 0

def Trimmed (z n : Nat) (W : World) (e : Ending) (W' : World) : Prop :=
  e = .returned (.pointer (some ⟨z, 0, none⟩)) ∧ W.grownBy W' (some z) ∧ Num W' z n

theorem zeros_less {ds : List UInt32} {k : Nat} {u : UInt32} (hz : Zeros ds k) (_hk : 0 < k) (hu : ds[k - 1]? = some u) (h0 : u = 0) : Zeros ds (k - 1) := by
  intro j v hj hv
  by_cases e : j = k - 1
  · subst e; rw [hu] at hv; injection hv with hv; rw [← hv]; exact h0
  · exact hz j v (by omega) hv

theorem trimmed_end {z k cap : Nat} {A : Option Addr} {ds : List UInt32} {W W' : World} (hc : Cell W z false A ds.length cap) (hd : Dig W A ds) (hcap : ds.length ≤ cap) (hk : k ≤ ds.length) (hz : Zeros ds k)
    (hl : k = 0 ∨ ∃ u, ds[k - 1]? = some u ∧ u ≠ 0) (hW : W' = (W.setCell ⟨z, 1, none⟩ (.slice A k cap)) ∨ W' = (W.setCell ⟨z, 1, none⟩ (.slice A k cap)).setCell ⟨z, 0, none⟩ (.bool false)) :
    W.grownBy W' (some z) ∧ Num W' z (val ds) := by
  have h1 : W.grownBy (W.setCell ⟨z, 1, none⟩ (.slice A k cap)) (some z) := only_setCell (only_refl _ _) (.inl rfl) _
  have hb : Blk (W.setCell ⟨z, 1, none⟩ (.slice A k cap)) z 62 #[.bool false, .slice A k cap] := Blk.set_ hc 1 _
  have e := digs_take hk hz hl
  have hlen : (ds.take k).length = k := by rw [List.length_take]; omega
  have fin : ∀ w', W.grownBy w' (some z) → Blk w' z 62 #[.bool false, .slice A k cap] → Num w' z (val ds) := by
    intro w' hg hb'
    refine ⟨A, cap, ?_, ?_, ?_⟩
    · rw [e, hlen]; exact hb'
    · rw [e]
      refine (hd.take k).keep fun g cs hg' => hg'.grown hg ?_
      intro e'
      injection e' with e'
      subst e'
      exact absurd rfl (Blk.ne_ hg' hc (by decide))
    · rw [e, hlen]; omega
  rcases hW with rfl | rfl
  · exact ⟨h1, fin _ h1 hb⟩
  · have h2 := only_setCell (p := ⟨z, 0, none⟩) h1 (.inl rfl) (.bool false)
    exact ⟨h2, fin _ h2 (Blk.set_ hb 0 _)⟩

set_option maxHeartbeats 1000000 in
theorem trim_c (z cap : Nat) (A : Option Addr) (ds : List UInt32) (W : World) (hc : Cell W z false A ds.length cap) (hd : Dig W A ds) (hcap : ds.length ≤ cap) (hmax : ds.length ≤ 4611686018427387904) :
    Calls Try.prog 46 #[.pointer (some ⟨z, 0, none⟩)] W (Trimmed z (val ds) W) := by
  have c1 : W.cell? ⟨z, 1, none⟩ = some (.slice A ds.length cap) := Blk.cell hc 1
  have f1 : W.frozen? ⟨z, 1, none⟩ = false := Blk.frozen hc 1
  have c0 : W.cell? ⟨z, 0, none⟩ = some (.bool false) := Blk.cell hc 0
  have f0 : W.frozen? ⟨z, 0, none⟩ = false := Blk.frozen hc 0
  go_enter Try.func46, Try.ntmps46
  go_wp2
  go_loop [3] (fun i => ∃ k : Nat, k ≤ ds.length ∧ Zeros ds k ∧ i = .int .i64 k) (fun i => (intOf i).toNat)
  case atStart => exact ⟨ds.length, Nat.le_refl _, (fun j u hj hu => absurd (List.getElem?_eq_none hj) (by rw [hu]; simp)), rfl⟩
  case round =>
    obtain ⟨k, hk, hz, rfl⟩ := hrel
    have HZ := Lib.hid hz
    clear hz
    by_cases hpos : 0 < k
    · have hdig : ∃ g cs u, A = some ⟨g, 0, none⟩ ∧ Blk W g 71 cs ∧ ds[k - 1]? = some u ∧ W.cell? ⟨g, k - 1, none⟩ = some (.int .u32 u.toNat) := by
        rcases hd with h0 | ⟨g, cs, h1, h2, h3⟩
        · subst h0; simp at hk; omega
        · have hu : ds[k - 1]? = some ds[k - 1] := List.getElem?_eq_getElem (by omega)
          exact ⟨g, cs, _, h1, h2, hu, by rw [Blk.cell h2, h3 _ _ hu]⟩
      obtain ⟨g, cs, u, rfl, hbk, hu, hcell⟩ := hdig
      have HU := Lib.hid hu
      clear hu
      by_cases h0 : u = 0
      · have hb0 : ((u.toNat : Int) == 0) = true := by rw [h0]; rfl
        have H0 := Lib.hid h0
        clear h0
        go_wp2
        go_round
        case rel => exact ⟨k - 1, by omega, zeros_less HZ.out hpos HU.out H0.out, by go_num⟩
        case measure => simp [intOf]; omega
      · have hb0 : ((u.toNat : Int) == 0) = false := by
          rw [beq_eq_false_iff_ne]; intro e; exact h0 (UInt32.toNat_inj.1 (by show u.toNat = 0; omega))
        have H0 := Lib.hid h0
        clear h0
        go_wp2
        go_ret
        exact ⟨rfl, trimmed_end hc hd hcap hk HZ.out (.inr ⟨u, HU.out, H0.out⟩) (.inl rfl)⟩
    · have hk0 : k = 0 := by omega
      subst hk0
      go_wp2
      go_ret
      exact ⟨rfl, trimmed_end hc hd hcap hk HZ.out (.inl rfl) (.inr rfl)⟩
end Go.Proofs.Ytahhgeecikljdaa.Big
