/-
  The check of a few known values that the statements about package coder begin with: it answers true.
-/
import Derived.Test.YtomhcjnhhdbhjaaRsPure
namespace Go.Proofs.Ytomhcjnhhdbhjaa.Cdr
set_option linter.unusedVariables false
open Go.RowKit Gf Mem Poly

def r12 : List (List UInt8) := [[1, 2], [3, 4]]
theorem r12_sane : Sane r12 := ⟨by decide, by decide⟩
theorem r12_even : evenB r12 = true := by decide
/-- The worlds in which '[][]byte{{1, 2}, {3, 4}}' was laid. -/
def lit12 (W : World) : World := ((W.alloc (.cells #[byt 1, byt 2] 5)).alloc (.cells #[byt 3, byt 4] 5)).alloc (.cells #[.slice (some ⟨W.heap.size, 0, none⟩) 2 2, .slice (some ⟨W.heap.size + 1, 0, none⟩) 2 2] 33)
theorem lit12_below (W : World) : Below W.heap.size W (lit12 W) := (((Below.refl _ _).alloc (Nat.le_refl _) _).alloc (by simp) _).alloc (by simp; omega) _
theorem lit12_rds (W : World) : Rds (lit12 W) (some ⟨W.heap.size + 2, 0, none⟩) r12 := by
  have k1 := (((Known.made W 5 #[byt 1, byt 2]).alloc (.cells #[byt 3, byt 4] 5))).alloc (.cells #[.slice (some ⟨W.heap.size, 0, none⟩) 2 2, .slice (some ⟨W.heap.size + 1, 0, none⟩) 2 2] 33)
  have k2 := (Known.made (W.alloc (.cells #[byt 1, byt 2] 5)) 5 #[byt 3, byt 4]).alloc (.cells #[.slice (some ⟨W.heap.size, 0, none⟩) 2 2, .slice (some ⟨W.heap.size + 1, 0, none⟩) 2 2] 33)
  have k3 := Known.made ((W.alloc (.cells #[byt 1, byt 2] 5)).alloc (.cells #[byt 3, byt 4] 5)) 33 #[.slice (some ⟨W.heap.size, 0, none⟩) 2 2, .slice (some ⟨W.heap.size + 1, 0, none⟩) 2 2]
  rw [show (W.alloc (.cells #[byt 1, byt 2] 5)).heap.size = W.heap.size + 1 by simp] at k2
  rw [show ((W.alloc (.cells #[byt 1, byt 2] 5)).alloc (.cells #[byt 3, byt 4] 5)).heap.size = W.heap.size + 2 by simp] at k3
  have o1 : Own (lit12 W) W.heap.size [1, 2] := k1
  have o2 : Own (lit12 W) (W.heap.size + 1) [3, 4] := k2
  refine ⟨[.slice (some ⟨W.heap.size, 0, none⟩) 2 2, .slice (some ⟨W.heap.size + 1, 0, none⟩) 2 2], fun k v hv => ?_, rfl, fun k u r hu hr => ?_⟩
  · refine ⟨W.heap.size + 2, 0, rfl, k3.lt, ?_⟩
    rw [Nat.zero_add]
    refine (k3.cell k).trans ?_
    simpa using hv
  · rcases k with _ | _ | k
    · simp [r12] at hu hr
      subst hu hr
      exact ⟨_, 2, rfl, by decide, by decide, o1.reads⟩
    · simp [r12] at hu hr
      subst hu hr
      exact ⟨_, 2, rfl, by decide, by decide, o2.reads⟩
    · simp [r12] at hr

theorem more12 {outs : List (List UInt8)} {err : Int} (h : MoreIs r12 2 outs err) : err = 0 ∧ Adds r12 2 outs := by
  rcases h with ⟨h, _⟩ | ⟨_, h, _⟩ | ⟨_, _, h1, h2⟩
  · unfold badMore r12 at h; simp at h
  · rw [r12_even] at h; cases h
  · exact ⟨h1, h2⟩
theorem back12 {m0 m1 : List UInt8} (ha : Adds r12 2 [m0, m1]) {outs : List (List UInt8)} {err : Int} (h : BackIs 2 2 [(3, m1), (2, m0)] outs err) : err = 0 ∧ outs = r12 := by
  have hc : Coded (r12 ++ [m0, m1]) [(3, m1), (2, m0)] := ⟨by simp, fun p hp => by
    simp at hp
    rcases hp with rfl | rfl
    · exact ⟨by simp, rfl⟩
    · exact ⟨by simp, rfl⟩⟩
  have hs := coded_scan hc (lim := 2 + 2) (by simp [r12])
  have he := (coded_even r12_even ha hc).1
  rcases h with ⟨h, _⟩ | ⟨_, h, _⟩ | ⟨_, _, ⟨h, _⟩ | ⟨_, h, _⟩ | ⟨_, _, h1, h2⟩⟩
  · unfold badRange at h; omega
  · rw [hs] at h; cases h
  · simp at h
  · rw [he] at h; cases h
  · exact ⟨h1, rs_back (by decide) (by decide) r12_even ha hc (by simp [r12]) h2⟩

theorem pcs_two (W : World) (a0 a1 : Int) (u0 u1 : Value) (r0 r1 : List UInt8) (h0 : IsRow W u0 r0) (h1 : IsRow W u1 r1) :
    Pcs (W.alloc (.cells #[.int .i64 a0, u0, .int .i64 a1, u1] 35)).drew (some ⟨W.heap.size, 0, none⟩) [(a0, r0), (a1, r1)] := by
  have k := Known.made W 35 #[.int .i64 a0, u0, .int .i64 a1, u1]
  have hb : Below W.heap.size W (W.alloc (.cells #[.int .i64 a0, u0, .int .i64 a1, u1] 35)).drew := ((Below.refl _ _).alloc (Nat.le_refl _) _).drew
  intro j p hp
  rcases j with _ | _ | j
  · simp at hp; subst hp
    exact ⟨W.heap.size, 0, u0, rfl, k.lt, k.cell 0, k.cell 1, h0.below hb⟩
  · simp at hp; subst hp
    exact ⟨W.heap.size, 0, u1, rfl, k.lt, k.cell 2, k.cell 3, h1.below hb⟩
  · simp at hp

set_option maxRecDepth 100000 in
set_option maxHeartbeats 4000000 in
theorem alive_c (hMore : MoreSpec) (hBack : BackSpec) (W : World) :
    Calls Try.prog 16 #[] W (Law.Yes W) := by
  have h1 := hMore (some ⟨W.heap.size + 2, 0, none⟩) r12 2 2 (lit12 W) r12_sane (by decide) (lit12_rds W)
  have H1 := Lib.hid h1
  have H2 := Lib.hid hBack
  clear h1 hMore hBack
  go_enter Try.func16, Try.ntmps16
  go_wp2_with fail
  refine H1.out.mono ?_
  rintro e w1 ⟨A1, c1, o1, e1, rfl, _, hR1, hB1, hP1⟩
  obtain ⟨rfl, had⟩ := more12 hP1
  have hl := had.1
  obtain ⟨m0, m1, rfl⟩ : ∃ m0 m1, o1 = [m0, m1] := by
    match o1, hl with
    | [m0, m1], _ => exact ⟨m0, m1, rfl⟩
  obtain ⟨b, o, C0, c0, q0, rfl, e0, cr0, l0, n0, rr0⟩ := hR1.row (k := 0) (by simp)
  obtain ⟨b', o', C1, c1', q1, ea, e1, cr1, l1, n1, rr1⟩ := hR1.row (k := 1) (by simp)
  injection ea with ea
  injection ea with ea1 ea2
  subst ea1 ea2
  simp at e0 e1
  subst e0 e1
  rw [Nat.add_zero] at cr0
  have AD := Lib.hid had
  have B1 := Lib.hid ((lit12_below W).trans (hB1.mono (lit12_below W).size))
  have RR0 := Lib.hid rr0
  have RR1 := Lib.hid rr1
  clear had hl hR1 hB1 hP1 rr0 rr1
  go_wp2
  have hbl : b < w1.heap.size := World.block_lt_of_cell? _ _ cr0
  have hsp : SanePs [(3, m1), (2, m0)] := by
    have hm1 := (AD.out.2 1 m1 rfl).1
    have hm0 := (AD.out.2 0 m0 rfl).1
    refine ⟨by simp, fun p hp => ?_⟩
    simp at hp
    rcases hp with rfl | rfl
    · exact ⟨by show (Lit.int .i64 3).wf = true; decide, by show m1.length ≤ _; rw [hm1]; decide⟩
    · exact ⟨by show (Lit.int .i64 2).wf = true; decide, by show m0.length ≤ _; rw [hm0]; decide⟩
  have hp2 := pcs_two w1 3 2 (.slice C1 m1.length c1') (.slice C0 m0.length c0) m1 m0 ⟨C1, c1', rfl, l1, n1, RR1.out⟩ ⟨C0, c0, rfl, l0, n0, RR0.out⟩
  have h2 := H2.out (some ⟨w1.heap.size, 0, none⟩) 2 2 [(3, m1), (2, m0)] 2 _ hsp (by simp) (by decide) (by decide) hp2
  have H3 := Lib.hid h2
  clear hsp hp2 h2
  go_region_held3 (fun w' => w'.cell? ⟨b, o, none⟩ = some (.slice C0 m0.length c0) ∧ w'.cell? ⟨b, o + 1, none⟩ = some (.slice C1 m1.length c1')) (first | go_keep | (go_split_ands; exact ⟨(Below.cell (p := ⟨b, o, none⟩) hB2 (by simp; omega)).trans (by assumption), (Below.cell (p := ⟨b, o + 1, none⟩) hB2 (by simp; omega)).trans (by assumption)⟩))
    (first | (go_at_call 13; refine H3.out.mono ?_; rintro e w2 ⟨A2, c2, o2, e2, rfl, _, hR2, hB2, hP2⟩))
  obtain ⟨rfl, rfl⟩ := back12 AD.out hP2
  have B2 := Lib.hid ((B1.out.alloc B1.out.size (.cells #[.int .i64 3, .slice C1 m1.length c1', .int .i64 2, .slice C0 m0.length c0] 35)).drew.trans (hB2.mono (by simp; have := B1.out.size; omega)))
  have R2 := Lib.hid (hR2.below (lit12_below w2))
  have B3 := Lib.hid (B2.out.trans ((lit12_below w2).mono B2.out.size))
  clear hR2 hB2 hP2
  go_wp2_with fail
  refine (same_c A2 (some ⟨w2.heap.size + 2, 0, none⟩) r12 r12 c2 2 (by decide) (by decide) (lit12 w2) R2.out (lit12_rds w2)).mono ?_
  rintro e w3 ⟨rfl, hd3⟩
  have hbs : (r12 == r12) = true := beq_self_eq_true _
  have B4 := Lib.hid (B3.out.trans (hd3.below _))
  clear hd3
  go_wp2_with fail
  go_ret
  exact ⟨rfl, B4.out⟩
end Go.Proofs.Ytomhcjnhhdbhjaa.Cdr
