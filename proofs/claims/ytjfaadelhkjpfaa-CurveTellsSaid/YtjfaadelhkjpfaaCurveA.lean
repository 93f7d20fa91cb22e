/-
  Package curve: At, trimmed, holdsTwice.
-/
import Derived.Test.YtjfaadelhkjpfaaCurveSpec
import Derived.Test.YtjfaadelhkjpfaaGf
namespace Go.Proofs.Ytjfaadelhkjpfaa.Poly
set_option linter.unusedVariables false
open Go.RowKit Gf Mem
attribute [local go_sem] xor8_nat

theorem ev_drop {p : List UInt8} {k : Nat} {c : UInt8} (x : UInt8) (h : p[k]? = some c) : ev (p.drop k) x = xor8 (mul (ev (p.drop (k + 1)) x) x) c := by
  obtain ⟨hk, e⟩ := List.getElem?_eq_some_iff.1 h
  rw [List.drop_eq_getElem_cons hk, e, ev]
  unfold xor8
  rw [UInt8.xor_comm, mul_comm x]
theorem ev_dropped {p : List UInt8} {n : Nat} (h : p.length ≤ n) (x : UInt8) : ev (p.drop n) x = 0 := by rw [List.drop_of_length_le h]; rfl
theorem quiet_l {P : Program} {f : FuncId} {args : Array Value} {w : World} {n : Nat} {v : Value}
    (h : Calls P f args (w.drewN n) fun e w' => e = .returned v ∧ w.drewN n = w') : Calls P f args (w.drewN n) fun e w'' => e = .returned v ∧ ∃ m, w'' = w.drewN m :=
  h.mono fun _ _ ⟨he, hm⟩ => ⟨he, n, hm.symm⟩

set_option maxHeartbeats 2000000 in
theorem at_c : AtSpec := by
  intro A p cap x W hl hp
  have HP := Lib.hid hp
  clear hp
  have h0 := ev_dropped (p := p) (Nat.le_refl _) x
  have H0 := Lib.hid h0
  clear h0
  generalize hN : p.length = n at *
  have HN := Lib.hid hN
  clear hN
  go_enter Try.func9, Try.ntmps9
  go_wp2
  go_loopw [5, 6] (fun s i wr => ∃ k : Nat, k ≤ n ∧ s = .int .u8 (ev (p.drop k) x).toNat ∧ i = .int .i64 ((k : Int) - 1) ∧ Drawn W wr) (fun _ i _ => (intOf i + 1).toNat)
  case atStart => exact ⟨n, by omega, by rw [H0.out]; rfl, rfl, Drawn.refl _⟩
  case round =>
    obtain ⟨k, hk, rfl, hi, hd⟩ := hrel
    have HD := Lib.hid hd
    rcases k with _ | k
    · have hi2 : _ = Value.int .i64 (-1) := hi
      clear hi
      subst hi2
      clear hd
      go_wp2
      go_ret
      exact ⟨rfl, HD.out⟩
    · have hi2 : _ = Value.int .i64 (k : Int) := hi.trans (by congr 1; omega)
      clear hi
      subst hi2
      obtain ⟨b, o, c, rfl, ec, cc⟩ := (HP.out.drawn hd).bytes (k := k) (by rw [HN.out]; omega)
      have ED := Lib.hid (ev_drop x ec)
      clear ec hd
      have i1 : (k : Int) < (n : Int) := by omega
      go_wp2
      go_quiet ((go_at_call 20; exact quiet_l (mul_c _ _ _)))
      go_wp2
      go_roundw
      case rel => exact ⟨k, by omega, by rw [ED.out], rfl, HD.out.more _⟩
      case measure => simp [intOf]

/-- Behind place m there are noughts alone. -/
def Tail0 (p : List UInt8) (m : Nat) : Prop := ∀ k, m ≤ k → co p k = 0
set_option maxHeartbeats 2000000 in
theorem trimmed_c (A : Option Addr) (p : List UInt8) (cap : Nat) (hl : p.length ≤ cap) (hc : p.length ≤ 281474976710656) (W : World) (hp : Reads W A (p.map byt)) :
    Calls Try.prog 25 #[.slice A p.length cap] W (Trims A p cap W) := by
  have HP := Lib.hid hp
  clear hp
  have ht : Tail0 p p.length := fun k hk => co_of_le hk
  have HT := Lib.hid ht
  clear ht
  generalize hN : p.length = n at *
  have HN := Lib.hid hN
  clear hN
  go_enter Try.func25, Try.ntmps25
  go_wp2
  go_loop [0] (fun s => ∃ m : Nat, m ≤ n ∧ s = .slice A m cap ∧ Tail0 p m) (fun s => match s with | .slice _ m _ => m | _ => 0)
  case atStart => exact ⟨n, by omega, rfl, HT.out⟩
  case round =>
    obtain ⟨m, hm, rfl, hT⟩ := hrel
    have HT := Lib.hid hT
    clear hT
    by_cases h0 : 0 < m
    · obtain ⟨j, rfl⟩ : ∃ j, m = j + 1 := ⟨m - 1, by omega⟩
      obtain ⟨b, o, c, rfl, ec, cc⟩ := HP.out.bytes (k := j) (by rw [HN.out]; omega)
      have EC := Lib.hid ec
      clear ec
      have hcap : j ≤ cap := by omega
      have e1 : ((j + 1 : Nat) : Int) - 1 = (j : Int) := by omega
      by_cases hz : c = 0
      · have b1 : ((c.toNat : Int) == 0) = true := by rw [hz]; rfl
        have HZ := Lib.hid hz
        clear hz
        go_wp2
        go_round
        case rel => exact ⟨j, by omega, rfl, fun k hk => by
          by_cases e : k = j
          · subst e; rw [co_of_some EC.out, HZ.out]
          · exact HT.out k (by omega)⟩
        case measure => simp
      · have b1 : ((c.toNat : Int) == 0) = false := by
          rw [beq_eq_false_iff_ne]; intro e; exact hz (UInt8.toNat_inj.1 (by show c.toNat = 0; omega))
        have HZ := Lib.hid hz
        clear hz
        go_wp2
        go_ret
        have e := take_trim (p := p) (n := j + 1) (by rw [HN.out]; omega) HT.out (fun _ => by rw [Nat.add_sub_cancel, co_of_some EC.out]; exact HZ.out)
        refine ⟨?_, rfl⟩
        have hlen : (trim p).length = j + 1 := by rw [← e, List.length_take, HN.out]; omega
        show Ending.returned (.slice _ (j + 1) cap) = _
        rw [hlen]
    · obtain rfl : m = 0 := by omega
      go_wp2
      go_ret
      refine ⟨?_, rfl⟩
      have e : trim p = [] := trim_zero fun k => HT.out k (Nat.zero_le _)
      rw [e]; rfl
end Go.Proofs.Ytjfaadelhkjpfaa.Poly
