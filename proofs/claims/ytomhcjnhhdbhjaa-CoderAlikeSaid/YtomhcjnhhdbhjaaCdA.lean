/-
  Package coder: Wrong, numbered, sameLength, wrongNumber.
-/
import Derived.Test.YtomhcjnhhdbhjaaCdPure
import Derived.Test.YtomhcjnhhdbhjaaTablePut
namespace Go.Proofs.Ytomhcjnhhdbhjaa.Cdr
set_option linter.unusedVariables false
open Go.RowKit Gf Mem Poly

set_option maxHeartbeats 2000000 in
theorem wrong_c : WrongSpec := by
  intro n m W hn hm
  by_cases h1 : n < 1
  · have h0 : wrongIs n m = 2 := by rw [wrongIs, if_pos (.inl h1)]
    rw [h0]
    clear h0
    go_enter Try.func11, Try.ntmps11
    go_wp2
    go_ret
    exact ⟨rfl, rfl⟩
  · by_cases h2 : 100 < n
    · have h0 : wrongIs n m = 2 := by rw [wrongIs, if_pos (.inr (.inl h2))]
      rw [h0]
      clear h0
      go_enter Try.func11, Try.ntmps11
      go_wp2
      go_ret
      exact ⟨rfl, rfl⟩
    · by_cases h3 : m < 0
      · have h0 : wrongIs n m = 2 := by rw [wrongIs, if_pos (.inr (.inr (.inl h3)))]
        rw [h0]
        clear h0
        go_enter Try.func11, Try.ntmps11
        go_wp2
        go_ret
        exact ⟨rfl, rfl⟩
      · by_cases h4 : 100 < m
        · have h0 : wrongIs n m = 2 := by rw [wrongIs, if_pos (.inr (.inr (.inr h4)))]
          rw [h0]
          clear h0
          go_enter Try.func11, Try.ntmps11
          go_wp2
          go_ret
          exact ⟨rfl, rfl⟩
        · have h0 : wrongIs n m = 0 := by rw [wrongIs, if_neg (by omega)]
          rw [h0]
          clear h0
          go_enter Try.func11, Try.ntmps11
          go_wp2
          go_ret
          exact ⟨rfl, rfl⟩

def BoolBelow (b : Bool) (W : World) (e : Ending) (W' : World) : Prop := e = .returned (.bool b) ∧ Below W.heap.size W W'
theorem datas_len (ps : List Pc) : (datas ps).length = ps.length := by simp [datas]
set_option maxHeartbeats 2000000 in
theorem slen_c (A : Option Addr) (ps : List Pc) (ca : Nat) (hl : ps.length ≤ 4398046511104) (W : World) (hR : Pcs W A ps) :
    Calls Try.prog 21 #[.slice A ps.length ca] W (BoolBelow (evenB (datas ps)) W) := by
  have HR := Lib.hid hR
  clear hR
  generalize hN : ps.length = n at *
  have HN := Lib.hid hN
  clear hN
  go_enter Try.func21, Try.ntmps21
  go_wp2
  go_loopw [7] (fun i wr => ∃ k : Nat, k ≤ n ∧ i = .int .i64 k ∧ Below W.heap.size W wr ∧ ((datas ps).take k).all (fun r => r.length == ((datas ps).headD []).length) = true) (fun i _ => n - (intOf i).toNat)
  case atStart => exact ⟨0, by omega, rfl, Below.refl _ _, by simp⟩
  case round =>
    obtain ⟨k, hk, rfl, hd, hE⟩ := hrel
    have HD := Lib.hid hd
    have HE := Lib.hid hE
    clear hd hE
    by_cases hlt : k < n
    · obtain ⟨b, o, C, c, p, rfl, hb, ep, c1, c2, lr, lc, rr⟩ := (HR.out.below HD.out).piece (k := k) (by rw [HN.out]; exact hlt)
      obtain ⟨b0, o0, C0, c0, p0, ea, hb0, ep0, c10, c20, lr0, lc0, rr0⟩ := (HR.out.below HD.out).piece (k := 0) (by rw [HN.out]; omega)
      injection ea with ea
      injection ea with ea1 ea2
      subst ea1 ea2
      rw [Nat.zero_mul, Nat.add_zero] at c10 c20
      have HEP := Lib.hid ep
      have HEP0 := Lib.hid ep0
      have HBK := Lib.hid hb
      have HH := Lib.hid (head_of (datas_at ep0))
      have i1 : (0 : Int) < (n : Int) := by omega
      have i2 : (k : Int) < (n : Int) := by omega
      have c3 := (Below.heap_alloc wr (.cells #[.int .i64 p.1, .slice C p.2.length c] 35) b hb0)
      have c21 : (wr.alloc (.cells #[.int .i64 p.1, .slice C p.2.length c] 35)).cell? ⟨b, o + 1, none⟩ = some (.slice C0 p0.2.length c0) := by
        rw [← c20]; unfold World.cell?; rw [c3]
      clear ep ep0 hb hb0 rr rr0 c10 c20 c3 lr0 lr
      by_cases e : p.2.length = p0.2.length
      · have b1 : ((p.2.length : Int) != (p0.2.length : Int)) = false := by simp; omega
        have HE3 := Lib.hid e
        clear e
        go_wp2
        go_quiet (fail)
        go_wp2
        go_roundw
        case rel => exact ⟨k + 1, by omega, by go_num, below_drewN (HD.out.alloc HD.out.size _) _, even_step HE.out (datas_at HEP.out) (by rw [HH.out]; exact HE3.out)⟩
        case measure => simp [intOf]; omega
      · have b1 : ((p.2.length : Int) != (p0.2.length : Int)) = true := by simp; omega
        have HE3 := Lib.hid e
        clear e
        go_wp2
        go_quiet (fail)
        go_wp2
        go_ret
        exact ⟨by rw [even_no (datas_at HEP.out) (by rw [HH.out]; exact HE3.out)]; rfl, below_drewN (HD.out.alloc HD.out.size _) _⟩
    · obtain rfl : k = n := by omega
      go_wp2
      go_ret
      have h1 := HE.out
      rw [List.take_of_length_le (by rw [datas_len, HN.out]; exact Nat.le_refl _)] at h1
      exact ⟨by rw [show evenB (datas ps) = true from h1]; rfl, HD.out⟩
end Go.Proofs.Ytomhcjnhhdbhjaa.Cdr
