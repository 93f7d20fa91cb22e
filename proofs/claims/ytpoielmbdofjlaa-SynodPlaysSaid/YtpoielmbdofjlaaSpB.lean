/-
  Package synod: takePromise.
-/
import Derived.Test.YtpoielmbdofjlaaSpA
namespace Go.Proofs.Ytpoielmbdofjlaa.Syn
set_option linter.unusedVariables false
set_option linter.unusedSimpArgs false
open Go.RowKit Mem Gt
open Jump (Gave equalZ_c)

set_option maxRecDepth 100000 in
set_option maxHeartbeats 8000000 in
theorem take_c (B n k b : Nat) (p : PS) (g : Nat → Nat) (V : World) (hn : n ≤ 16) (hk : k < n) (hb : p.seen b = true) (h : Co B n p g V) :
    Calls Try.prog 27 #[.pointer (some ⟨B + 2, 0, none⟩), .int .i64 k, .int .i64 b] V (fun e W' => (∃ v, e = .returned v) ∧ Co B n (take1 b p k) g W' ∧ Mv B p g V W') := by
  have hkey := h.key hb
  have c0 := h.c0
  have c1 := h.c1
  have LK : ∀ q, (Instr.lookup 45 (.map (some (B + 1))) (.int .i64 (b : Int)) false).run Try.prog (V.drewN q) = .ok (.pointer (some ⟨g b, 0, none⟩)) (V.drewN q) := fun q => by rw [← ptr_seen (g := g) hb]; exact (h.drewN q).look hkey.2
  have HC := Lib.hid h
  have HB := Lib.hid hb
  have i1 : (k : Int) < (n : Int) := by omega
  clear hb h
  go_enter Try.func27, Try.ntmps27
  go_upto_region 0 with fail
  go_quiet (fail)
  clear LK c0 c1
  obtain ⟨w0, hw0⟩ : ∃ w0, w0 = V.drewN nq := ⟨_, rfl⟩
  have H0 : Co B n p g w0 := by rw [hw0]; exact HC.out.drewN nq
  have M0 : Mv B p g V w0 := by rw [hw0]; exact (Mv.refl B p g V).drewN nq
  rw [← hw0]
  clear hw0
  obtain ⟨y0, _, y2, _⟩ := H0.vo k hk
  have C1 := Lib.hid (H0.prom1 (b := b) hk)
  have M1 := Lib.hid (M0.grown (gr_set w0 B (k * 2) (.int .i64 (b : Nat))) (.inl rfl))
  clear M0
  go_upto_region 2 with fail
  obtain ⟨w1, hw1⟩ : ∃ w1, w1 = w0.setCell ⟨B, k * 2, none⟩ (.int .i64 (b : Nat)) := ⟨_, rfl⟩
  rw [← hw1] at C1 M1
  first | rw [← hw1] | skip
  clear hw1 y0 y2 H0
  obtain ⟨gB, hgB⟩ : ∃ gB, gB = g b := ⟨_, rfl⟩
  obtain ⟨hg4, hp16, ha16, hkn⟩ := C1.out.ba b HB.out
  have z2 := hkn.cell 2
  have f2 := hkn.free 2
  obtain ⟨d, hd⟩ : ∃ d, d = 2 ^ k := ⟨_, rfl⟩
  have d1 : d < 65536 := by rw [hd]; exact Nat.pow_lt_pow_right (a := 2) (m := k) (n := 16) (by decide) (by omega)
  have q1 : IntKind.u16.wrap (2 ^ k) = (d : Int) := by rw [show (2 : Int) ^ k = (d : Int) by rw [hd]; simp]; exact wrap16u _ (by omega) (by omega)
  obtain ⟨x, hx⟩ : ∃ x, x = p.pb b := ⟨_, rfl⟩
  have hx16 : x < 65536 := by rw [hx]; exact hp16
  have o1 : Go.bits .or .u16 (x : Int) (d : Int) = ((x ||| d : Nat) : Int) := or16u hx16 d1
  have ol : x ||| d < 65536 := Nat.or_lt_two_pow (n := 16) hx16 d1
  obtain ⟨z, hz⟩ : ∃ z, z = x ||| d := ⟨_, rfl⟩
  rw [← hz] at o1 ol
  have z2' : w1.cell? ⟨gB, 2, none⟩ = some (.int .u16 (x : Nat)) := by rw [hgB, hx]; exact z2
  have f2' : w1.frozen? ⟨gB, 2, none⟩ = false := by rw [hgB]; exact f2
  have C2 := Lib.hid (fun j => show Co B n { p with prom := upd p.prom k b, pb := upd p.pb b (p.pb b ||| 2 ^ k) } g ((w1.drewN j).setCell ⟨gB, 2, none⟩ (.int .u16 (z : Nat))) from by
    rw [hgB]
    refine (C1.out.drewN j).bal HB.out _ rfl rfl rfl (fun c hc => ?_) ?_ (by show upd p.pb b _ b < 65536; rw [upd_same, ← hx, ← hd, ← hz]; exact ol) ha16
    · have e : upd p.pb b (p.pb b ||| 2 ^ k) c = p.pb c := upd_other _ _ hc
      exact ⟨by unfold balC; simp only [e], e, rfl⟩
    · have e : upd p.pb b (p.pb b ||| 2 ^ k) b = z := by rw [upd_same, ← hx, ← hd, ← hz]
      unfold balC; simp only [e]; rfl)
  have M2 := Lib.hid (fun j => show Mv B p g V ((w1.drewN j).setCell ⟨gB, 2, none⟩ (.int .u16 (z : Nat))) from (M1.out.drewN j).grown (gr_set _ gB 2 _) (.inr (.inr (.inl ⟨b, HB.out, hgB⟩))))
  rw [← hgB]
  have HG := Lib.hid hgB
  clear hg4 hp16 ha16 hkn z2 f2 hd d1 hx hx16 ol hz hgB C1 M1
  go_cut [24] (fun v wx => Co B n { p with prom := upd p.prom k b, pb := upd p.pb b (p.pb b ||| 2 ^ k) } g wx ∧ Mv B p g V wx)
  case first =>
    go_region
    all_goals
      go_wp2
      go_meet
      first | exact ⟨C2.out 0, M2.out 0⟩ | exact ⟨C2.out 1, M2.out 1⟩
  case rest =>
    obtain ⟨hC, hM⟩ := hcut
    obtain ⟨p2, hp2⟩ : ∃ p2, p2 = { p with prom := upd p.prom k b, pb := upd p.pb b (p.pb b ||| 2 ^ k) } := ⟨_, rfl⟩
    have e1 : p2.last = p.last := by rw [hp2]
    have e2 : p2.high = p.high := by rw [hp2]
    have e3 : p2.seen = p.seen := by rw [hp2]
    have e4 : p2.value = p.value := by rw [hp2]
    have ET := Lib.hid (show take1 b p k = if p2.high b < p2.last k then { p2 with high := upd p2.high b (p2.last k), value := upd p2.value b (p2.value (p2.last k)) } else p2 by rw [hp2]; rfl)
    have HS := Lib.hid e3
    rw [← hp2] at hC
    have HB2 := Lib.hid (show p2.seen b = true by rw [e3]; exact HB.out)
    clear C2 M2 o1 f2' z2' q1 hp2 e1 e2 e3 e4
    obtain ⟨w2, rfl⟩ : ∃ w2 : World, w2 = wc := ⟨_, rfl⟩
    obtain ⟨_, y1, _, _⟩ := hC.vo k hk
    obtain ⟨hg4, hp16, ha16, hkn⟩ := hC.ba b HB2.out
    have z1 := hkn.cell 1
    rw [← HG.out] at z1
    have z1' : w2.cell? ⟨gB, 1, none⟩ = some (.int .i64 (p2.high b : Nat)) := z1
    have CC := Lib.hid hC
    have MM := Lib.hid hM
    obtain ⟨l, hl⟩ : ∃ l, l = p2.last k := ⟨_, rfl⟩
    obtain ⟨hi, hhi⟩ : ∃ hi, hi = p2.high b := ⟨_, rfl⟩
    rw [← hl] at y1 ET
    rw [← hhi] at z1' ET
    clear hkn z1 hC hM
    by_cases hlt : hi < l
    · have i2 : (hi : Int) < (l : Int) := by omega
      have hls : p2.seen l = true := by rw [hl]; exact CC.out.lo k (by omega)
      have hlk := CC.out.key hls
      have f1 : w2.frozen? ⟨gB, 1, none⟩ = false := by rw [HG.out]; exact (CC.out.ba b HB2.out).2.2.2.free 1
      obtain ⟨p3, hp3⟩ : ∃ p3, p3 = { p2 with high := upd p2.high b l } := ⟨_, rfl⟩
      have C3 : ∀ j, Co B n p3 g ((w2.drewN j).setCell ⟨gB, 1, none⟩ (.int .i64 (l : Nat))) := fun j => by
        rw [HG.out, hp3]
        refine (CC.out.drewN j).bal HB2.out _ rfl rfl rfl (fun c hc => ?_) ?_ hp16 ha16
        · have e : upd p2.high b l c = p2.high c := upd_other _ _ hc
          exact ⟨by unfold balC; simp only [e], rfl, rfl⟩
        · have e : upd p2.high b l b = l := upd_same _ _ _
          unfold balC; simp only [e]; rfl
      have M3 := Lib.hid (fun j => show Mv B p g V ((w2.drewN j).setCell ⟨gB, 1, none⟩ (.int .i64 (l : Nat))) from (MM.out.drewN j).grown (gr_set _ gB 1 _) (.inr (.inr (.inl ⟨b, HB.out, HG.out⟩))))
      have s3 : p3.seen = p2.seen := by rw [hp3]
      have l3 : p3.last = p2.last := by rw [hp3]
      have v3 : p3.value = p2.value := by rw [hp3]
      have E3 := Lib.hid (show take1 b p k = { p3 with value := upd p3.value b (p3.value l) } by rw [ET.out, if_pos hlt, hp3])
      have HB3 := Lib.hid (show p3.seen b = true by rw [s3]; exact HB2.out)
      have S3 := Lib.hid (show p3.seen l = true by rw [s3]; exact hls)
      have L3 := Lib.hid (show p3.last k = l by rw [l3, hl])
      have CL := Lib.hid C3
      clear C3 hp3 s3 l3 v3 ET hl hhi hls hp16 ha16 hg4 CC
      go_upto_region 3 with fail
      go_quiet (fail)
      go_upto_region 5 with fail
      obtain ⟨w3, hw3⟩ : ∃ w3, w3 = (w2.drewN nq).setCell ⟨gB, 1, none⟩ (.int .i64 (l : Nat)) := ⟨_, rfl⟩
      have C4 := CL.out nq
      have M4 := M3.out nq
      rw [← hw3] at C4 M4
      rw [← hw3]
      clear hw3 y1 z1' f1 i2 CL M3
      obtain ⟨_, y1, _, _⟩ := C4.vo k hk
      rw [L3.out] at y1
      have c1 := C4.c1
      obtain ⟨gl, hgl⟩ : ∃ gl, gl = g l := ⟨_, rfl⟩
      have LK : ∀ q, (Instr.lookup 45 (.map (some (B + 1))) (.int .i64 (l : Int)) false).run Try.prog (w3.drewN q) = .ok (.pointer (some ⟨gl, 0, none⟩)) (w3.drewN q) := fun q => by rw [hgl, ← ptr_seen (g := g) S3.out]; exact (C4.drewN q).look hlk.2
      have LK1 : (Instr.lookup 45 (.map (some (B + 1))) (.int .i64 (l : Int)) false).run Try.prog w3.drew = .ok (.pointer (some ⟨gl, 0, none⟩)) w3.drew := LK 1
      obtain ⟨u, hu⟩ : ∃ u, u = p3.value l := ⟨_, rfl⟩
      have zl : w3.cell? ⟨gl, 0, none⟩ = some (.int .i64 u) := by rw [hgl, hu]; exact (C4.ba l S3.out).2.2.2.cell 0
      have z0 : w3.cell? ⟨gB, 0, none⟩ = some (.int .i64 (p3.value b)) := by rw [HG.out]; exact (C4.ba b HB3.out).2.2.2.cell 0
      have f0 : w3.frozen? ⟨gB, 0, none⟩ = false := by rw [HG.out]; exact (C4.ba b HB3.out).2.2.2.free 0
      have C5 := Lib.hid (fun j => show Co B n (take1 b p k) g ((w3.drewN j).setCell ⟨gB, 0, none⟩ (.int .i64 u)) from by
        rw [HG.out, E3.out, hu]
        refine (C4.drewN j).bal HB3.out _ rfl rfl rfl (fun c hc => ?_) ?_ (C4.ba b HB3.out).2.1 (C4.ba b HB3.out).2.2.1
        · have e : upd p3.value b (p3.value l) c = p3.value c := upd_other _ _ hc
          exact ⟨by unfold balC; simp only [e], rfl, rfl⟩
        · have e : upd p3.value b (p3.value l) b = p3.value l := upd_same _ _ _
          unfold balC; simp only [e]; rfl)
      have M5 := Lib.hid (fun j => show Mv B p g V ((w3.drewN j).setCell ⟨gB, 0, none⟩ (.int .i64 u)) from (M4.drewN j).grown (gr_set _ gB 0 _) (.inr (.inr (.inl ⟨b, HB.out, HG.out⟩))))
      clear LK hgl hu C4 M4
      go_region
      all_goals
        go_wp2
        go_end0
        first | exact ⟨⟨_, rfl⟩, C5.out 0, M5.out 0⟩ | exact ⟨⟨_, rfl⟩, C5.out 1, M5.out 1⟩
    · have i2 : ¬ (hi : Int) < (l : Int) := by omega
      have E := Lib.hid (show take1 b p k = p2 by rw [ET.out, if_neg hlt])
      clear ET hl hhi hp16 ha16 hg4
      go_upto_region 3 with fail
      go_quiet (fail)
      go_wp2
      go_end0
      exact ⟨⟨_, rfl⟩, by rw [E.out]; exact CC.out.drewN _, MM.out.drewN _⟩
end Go.Proofs.Ytpoielmbdofjlaa.Syn
