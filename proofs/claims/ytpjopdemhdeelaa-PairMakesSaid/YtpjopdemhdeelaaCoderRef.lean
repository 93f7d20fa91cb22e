/-
  The reference's DEven, SameRows and DFill.
-/
import Derived.Test.YtpjopdemhdeelaaThruRef
import Derived.Test.YtpjopdemhdeelaaRds
import Derived.Laws.BytesArg
import Derived.Test.YtpjopdemhdeelaaBytesFns
namespace Go.Proofs.Ytpjopdemhdeelaa.Cdr
set_option linter.unusedVariables false
open Go.RowKit Gf Mem Poly

/-- All rows are as long as the first one. -/
def evenB (rows : List (List UInt8)) : Bool := rows.all fun r => r.length == (rows.headD []).length
theorem evenB_len {rows : List (List UInt8)} (h : evenB rows = true) {k : Nat} {r : List UInt8} (hr : rows[k]? = some r) : r.length = (rows.headD []).length := by
  have := List.all_eq_true.1 h r (List.mem_of_getElem? hr)
  simpa using this
theorem head_of {rows : List (List UInt8)} {r : List UInt8} (h : rows[0]? = some r) : rows.headD [] = r := by
  cases rows with
  | nil => simp at h
  | cons x l => simp at h; exact h
theorem even_step {rows : List (List UInt8)} {k : Nat} {r : List UInt8} (h : (rows.take k).all (fun r => r.length == (rows.headD []).length) = true) (hr : rows[k]? = some r) (he : r.length = (rows.headD []).length) :
    (rows.take (k + 1)).all (fun r => r.length == (rows.headD []).length) = true := by
  rw [Poly.take_next hr, List.all_append, h]; simp [he]
theorem even_no {rows : List (List UInt8)} {k : Nat} {r : List UInt8} (hr : rows[k]? = some r) (he : r.length ≠ (rows.headD []).length) : evenB rows = false := by
  cases h : evenB rows with
  | false => rfl
  | true => exact absurd (evenB_len h hr) he

/-- Rows as they come in: their number and their lengths are those of an argument. -/
def Sane (rows : List (List UInt8)) : Prop := rows.length ≤ 5864062014805 ∧ ∀ r ∈ rows, r.length ≤ 140737488351232
theorem Sane.head {rows : List (List UInt8)} (h : Sane rows) : (rows.headD []).length ≤ 140737488351232 := by
  cases rows with
  | nil => simp
  | cons r l => exact h.2 r (by simp)
def BoolDrawn (b : Bool) (W : World) (e : Ending) (W' : World) : Prop := e = .returned (.bool b) ∧ Drawn W W'
set_option maxHeartbeats 2000000 in
theorem dEven_c (A : Option Addr) (rows : List (List UInt8)) (ca : Nat) (hl : rows.length ≤ 5864062014805) (W : World) (hR : Rds W A rows) :
    Calls Try.prog 30 #[.slice A rows.length ca] W (BoolDrawn (evenB rows) W) := by
  have HR := Lib.hid hR
  clear hR
  generalize hN : rows.length = n at *
  have HN := Lib.hid hN
  clear hN
  go_enter Try.func30, Try.ntmps30
  go_wp2
  go_loopw [6] (fun i wr => ∃ k : Nat, k ≤ n ∧ i = .int .i64 k ∧ Drawn W wr ∧ (rows.take k).all (fun r => r.length == (rows.headD []).length) = true) (fun i _ => n - (intOf i).toNat)
  case atStart => exact ⟨0, by omega, rfl, Drawn.refl _, by simp⟩
  case round =>
    obtain ⟨k, hk, rfl, hd, hE⟩ := hrel
    have HD := Lib.hid hd
    have HE := Lib.hid hE
    clear hd hE
    by_cases hlt : k < n
    · obtain ⟨b, o, C, c, r, rfl, er, cr, lr, lc, rr⟩ := (HR.out.drawn HD.out).row (k := k) (by rw [HN.out]; exact hlt)
      obtain ⟨b0, o0, C0, c0, r0, ea, er0, cr0, lr0, lc0, rr0⟩ := (HR.out.drawn HD.out).row (k := 0) (by rw [HN.out]; omega)
      injection ea with ea
      injection ea with ea1 ea2
      subst ea1 ea2
      rw [Nat.add_zero] at cr0
      have hh := head_of er0
      have ER := Lib.hid er
      have HH := Lib.hid hh
      have i1 : (0 : Int) < (n : Int) := by omega
      have i2 : (k : Int) < (n : Int) := by omega
      clear er er0 hh rr rr0
      by_cases he : r.length = r0.length
      · have HE2 := Lib.hid he
        have b1 : ((r.length : Int) == (r0.length : Int)) = true := by rw [he]; exact beq_self_eq_true _
        clear he
        go_wp2
        go_quiet (fail)
        go_wp2
        go_roundw
        case rel => exact ⟨k + 1, by omega, by go_num, HD.out.more _, even_step HE.out ER.out (by rw [HH.out]; exact HE2.out)⟩
        case measure => simp [intOf]; omega
      · have HE2 := Lib.hid he
        have b1 : ((r.length : Int) == (r0.length : Int)) = false := by rw [beq_eq_false_iff_ne]; omega
        clear he
        go_wp2
        go_quiet (fail)
        go_wp2
        go_ret
        exact ⟨by rw [even_no ER.out (by rw [HH.out]; exact HE2.out)]; rfl, HD.out.more _⟩
    · obtain rfl : k = n := by omega
      go_wp2
      go_ret
      have h1 := HE.out
      rw [List.take_of_length_le (by rw [HN.out]; exact Nat.le_refl _)] at h1
      exact ⟨by rw [show evenB rows = true from h1]; rfl, HD.out⟩

def strB (r : List UInt8) : ByteArray := ⟨r.toArray⟩
theorem conv_c (C : Option Addr) (r : List UInt8) (c : Nat) (V : World) (h : Reads V C (r.map byt)) :
    (convert 23 9 (.slice C r.length c)).run Try.prog V = .ok (.string (strB r)) V := by
  have h1 := h.bytesIn.convert (nums_len r) c 23 5 9 Try.underlying23 Try.underlying5 Try.underlying9
  rw [h1]
  have h2 : strOfNums (nums r) = strB r := by
    unfold strOfNums strB
    have := bytesOf_nums r
    unfold Lib.bytesOf at this
    rw [this]
  rw [h2]

theorem strB_list (r : List UInt8) : (strB r).toList = r := by
  unfold strB
  simp
theorem str_eq {r s : List UInt8} (h : (!(strB r).toList == (strB s).toList) = false) : r = s := by
  rw [strB_list, strB_list] at h; simpa using h
theorem str_ne {r s : List UInt8} (h : (!(strB r).toList == (strB s).toList) = true) : r ≠ s := by
  rw [strB_list, strB_list] at h; simpa using h
theorem rows_ne {rows sows : List (List UInt8)} {k : Nat} {r s : List UInt8} (h1 : rows[k]? = some r) (h2 : sows[k]? = some s) (hne : r ≠ s) : (rows == sows) = false := by
  rw [beq_eq_false_iff_ne]; intro e
  subst e
  rw [h1] at h2; injection h2 with h2
  exact hne h2
end Go.Proofs.Ytpjopdemhdeelaa.Cdr
