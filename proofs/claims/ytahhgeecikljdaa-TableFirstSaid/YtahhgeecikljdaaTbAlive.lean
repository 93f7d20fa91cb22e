/-
  What the laws on tables try first: a table, a key and a list of preferences that are there.
-/
import Derived.Test.YtahhgeecikljdaaTbE
namespace Go.Proofs.Ytahhgeecikljdaa.Tb
set_option linter.unusedVariables false
set_option linter.unusedSimpArgs false
open Go.RowKit Mem

theorem few_two : tErr [4, 9] 5 = 0 := tErr_ok (p := 5) (by decide) (by decide) (by decide) (by decide) (by decide) (by decide) (by decide)
theorem few_three : tErr [3] 7 = 0 := tErr_ok (p := 7) (by decide) (by decide) (by decide) (by decide) (by decide) (by decide) (by decide)
theorem table_perm {ids : List Int} {p : Nat} (h : Prm p) (h1 : 1 ≤ ids.length) : (table ids p).Perm ((List.range p).map (fun k => ids.getD (k % ids.length) 0)) := tb_perm (liks_fulls h h1)
theorem four : (table [4, 9] 5).count 4 = 3 := by
  rw [(table_perm (ids := [4, 9]) (p := 5) (by decide) (by decide)).count_eq]; decide
theorem four_take {t : List Int} {k : Nat} {x : Int} (h : t[k]? = some x) : (t.take (k + 1)).count 4 = (t.take k).count 4 + if x = 4 then 1 else 0 := by
  rw [List.take_add_one, h, List.count_append]
  congr 1
  simp [List.count_singleton]
theorem make_two (W : World) : Calls Try.prog 9 #[.slice (some ⟨W.heap.size, 0, none⟩) 2 2, .int .i64 5] (W.alloc (.cells #[.int .i64 4, .int .i64 9] 3)) fun e w' =>
    ∃ g, e = .returned (.tuple #[.slice (some ⟨g, 0, none⟩) 5 5, .int .i64 0]) ∧ Cells w' g 3 zz (table [4, 9] 5) ∧ Below W.heap.size W w' := by
  have h0 : Below W.heap.size W (W.alloc (.cells #[.int .i64 4, .int .i64 9] 3)) := (Below.refl _ _).alloc (Nat.le_refl _) _
  refine (make_ok _ [4, 9] 2 2 5 _ rfl (Cells.new W 3 (Value.int .i64) [4, 9] _ rfl).reads (by decide) few_two).mono ?_
  rintro e w' ⟨g, rfl, _, hc, hb⟩
  exact ⟨g, rfl, hc, h0.trans (hb.mono h0.size)⟩
theorem find_six (W : World) : Calls Try.prog 10 #[.slice (some ⟨W.heap.size, 0, none⟩) 1 1, .int .u64 3] (W.alloc (.cells #[.int .i64 6] 3)) fun e w' => e = .returned (.tuple #[.int .i64 6, .int .i64 0]) ∧ W.alloc (.cells #[.int .i64 6] 3) = w' := by
  have h := find_ok (some ⟨W.heap.size, 0, none⟩) [6] 1 1 3 _ rfl (by decide) (by decide) (one_row W 6)
  have e : fnd [6] 3 = 6 := by unfold fnd; rw [show ([6] : List Int).length = 1 from rfl, Nat.mod_one]; rfl
  rw [e] at h
  exact h
theorem likes_seven (W : World) : Calls Try.prog 8 #[.int .i64 3, .int .i64 7] W fun e w' => ∃ g, e = .returned (.tuple #[.slice (some ⟨g, 0, none⟩) 7 7, .int .i64 0]) ∧ Below W.heap.size W w' := by
  refine (likes_ok 3 7 (by decide) few_three W).mono ?_
  rintro e w' ⟨g, rfl, _, _, hb⟩
  exact ⟨g, rfl, hb⟩
set_option maxHeartbeats 4000000 in
theorem alive_c (W : World) : Calls Try.prog 17 #[] W (Gave (.bool true) W) := by
  have M := Lib.hid (make_two W)
  have F := Lib.hid (fun V => find_six V)
  have L := Lib.hid (fun V => likes_seven V)
  have E := Lib.hid four
  have T := Lib.hid (show (table [4, 9] 5).length = 5 from table_len _ _)
  generalize table [4, 9] 5 = t at *
  go_enter Try.func17, Try.ntmps17
  go_wp2_with fail
  refine M.out.mono ?_
  rintro e w1 ⟨g, rfl, hc, hb⟩
  have C1 := Lib.hid hc
  have B1 := Lib.hid hb
  clear hc hb M
  go_wp2_with fail
  refine (F.out _).mono ?_
  rintro e w2 ⟨rfl, rfl⟩
  have C2 := Lib.hid (C1.out.alloc (.cells #[.int .i64 6] 3))
  have B2 := Lib.hid (B1.out.alloc B1.out.size (.cells #[.int .i64 6] 3))
  clear C1 B1 F
  go_wp2_with fail
  refine (L.out _).mono ?_
  rintro e w3 ⟨g2, rfl, hb⟩
  have C3 := Lib.hid (C2.out.later hb)
  have B3 := Lib.hid (B2.out.trans (hb.mono B2.out.size))
  clear hb C2 B2 L
  go_wp2_with fail
  go_loop [7, 26] (fun s7 i => ∃ k c : Nat, k ≤ 5 ∧ c ≤ k ∧ i = .int .i64 k ∧ s7 = .int .i64 c ∧ (t.take k).count 4 = c) (fun _ i => 5 - (intOf i).toNat)
  case atStart => exact ⟨0, 0, by omega, by omega, rfl, rfl, by simp⟩
  case round =>
    obtain ⟨k, c, hk, hck, rfl, rfl, hc⟩ := hrel
    have HC := Lib.hid hc
    clear hc
    by_cases hlt : k < 5
    · have ex := List.getElem?_eq_getElem (show k < t.length by rw [T.out]; exact hlt)
      have cx := C3.out.at_ ex
      have FT := Lib.hid (four_take ex)
      generalize t[k]'(by rw [T.out]; exact hlt) = x at *
      unfold zz at cx
      have i1 : (k : Int) < 5 := by omega
      clear ex
      by_cases h4 : x = 4
      · have n1 : (x == 4) = true := by simp [h4]
        have E2 := Lib.hid (show (t.take (k + 1)).count 4 = c + 1 by rw [FT.out, HC.out, if_pos h4])
        clear h4
        go_wp2
        go_round
        case rel => exact ⟨k + 1, c + 1, by omega, by omega, by go_num, by go_num, E2.out⟩
        case measure => simp [intOf]; omega
      · have n1 : (x == 4) = false := by simp [h4]
        have E2 := Lib.hid (show (t.take (k + 1)).count 4 = c by rw [FT.out, HC.out, if_neg h4]; rfl)
        clear h4
        go_wp2
        go_round
        case rel => exact ⟨k + 1, c, by omega, by omega, by go_num, rfl, E2.out⟩
        case measure => simp [intOf]; omega
    · obtain rfl : k = 5 := by omega
      have h3 : c = 3 := by
        have h := HC.out
        rw [List.take_of_length_le (by rw [T.out]; omega), E.out] at h; exact h.symm
      subst h3
      go_wp2
      go_ret
      exact ⟨rfl, B3.out⟩
end Go.Proofs.Ytahhgeecikljdaa.Tb
