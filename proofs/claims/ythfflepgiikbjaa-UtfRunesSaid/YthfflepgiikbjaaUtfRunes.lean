/-
  THE LAW UtfRunes: THE WALK.
-/
import Derived.Test.YthfflepgiikbjaaUtfKnown
namespace Go.Proofs.Ythfflepgiikbjaa
open Go.RowKit
open Utf

theorem refget_at (s : ByteArray) (w : World) (hs : s.size ≤ 9000) {r : Int} {n : Nat} (h : dec (bs s) = (r, n)) :
    Calls Try.prog 11 #[.string s] w fun e w' => e = .returned (.tuple #[.int .i64 r, .int .i64 (n : Nat)]) ∧ Below w.heap.size w w' :=
  (refget_any s w hs).mono fun e w' ⟨he, hw⟩ => ⟨by rw [he, h], hw⟩

set_option maxRecDepth 100000 in
set_option maxHeartbeats 1000000 in
theorem utfRunes_long (r : Int) (s : ByteArray) (w : World) (hm : s.size ≤ 9223372036854775807) (hs : 9000 < s.size) :
    Calls Try.prog 3 #[.int .i64 r, .string s] w fun e w' => e = .returned (.bool true) ∧ Below w.heap.size w w' := by
  go_enter Try.func3, Try.ntmps3
  go_wp2_with (go_at_call 8; refine (known_any _).mono ?_; rintro e w' ⟨rfl, hB⟩)
  go_ret
  exact ⟨rfl, hB⟩

set_option maxRecDepth 100000 in
set_option maxHeartbeats 2000000 in
theorem utfRunes_norune (r : Int) (s : ByteArray) (w : World) (hs : s.size ≤ 9000) (hr : ¬ May r) :
    Calls Try.prog 3 #[.int .i64 r, .string s] w fun e w' => e = .returned (.bool true) ∧ Below w.heap.size w w' := by
  have HR := Lib.hid hr
  clear hr
  obtain ⟨x, n, hd⟩ : ∃ x n, dec (bs s) = (x, n) := ⟨_, _, rfl⟩
  by_cases hn : n = 0
  · subst hn
    have hz := dec_zero (l := bs s) (by rw [hd])
    have HG := Lib.hid (fun w => get_no s w (by omega) (by rw [hd]))
    have HF := Lib.hid (fun w => refget_at s w hs hz)
    clear hd hz
    go_enter Try.func3, Try.ntmps3
    go_wp2_with fail
    refine (put_none _ _ HR.out).mono ?_
    rintro e w1 ⟨rfl, hB1⟩
    go_wp2_with (first | (go_at_call 10; refine (HG.out _).mono ?_; rintro e w' ⟨rfl, rfl⟩) | (go_at_call 11; refine (HF.out _).mono ?_; rintro e w2 ⟨rfl, hB2⟩) | (go_at_call 12; refine (num_any _ _).mono ?_; rintro e w' ⟨rfl, rfl⟩) | (go_at_call 13; refine (may_no _ _ HR.out).mono ?_; rintro e w' ⟨rfl, rfl⟩) | (go_at_call 8; refine (known_any _).mono ?_; rintro e w3 ⟨rfl, hB3⟩))
    go_ret
    exact ⟨rfl, (hB1.trans (hB2.mono hB1.size)).trans (hB3.mono (Nat.le_trans hB1.size hB2.size))⟩
  · have HG := Lib.hid (fun w => get_ok s w (by omega) hd hn)
    have HF := Lib.hid (fun w => refget_at s w hs hd)
    have hn1 : 0 < n := by omega
    clear hd hn
    go_enter Try.func3, Try.ntmps3
    go_wp2_with fail
    refine (put_none _ _ HR.out).mono ?_
    rintro e w1 ⟨rfl, hB1⟩
    go_wp2_with (first | (go_at_call 10; refine (HG.out _).mono ?_; rintro e w' ⟨rfl, rfl⟩) | (go_at_call 11; refine (HF.out _).mono ?_; rintro e w2 ⟨rfl, hB2⟩) | (go_at_call 12; refine (num_any _ _).mono ?_; rintro e w' ⟨rfl, rfl⟩) | (go_at_call 13; refine (may_no _ _ HR.out).mono ?_; rintro e w' ⟨rfl, rfl⟩) | (go_at_call 8; refine (known_any _).mono ?_; rintro e w3 ⟨rfl, hB3⟩))
    go_ret
    exact ⟨rfl, (hB1.trans (hB2.mono hB1.size)).trans (hB3.mono (Nat.le_trans hB1.size hB2.size))⟩

theorem runes_end {w w1 w2 w3 : World} {o : Obj} (h1 : Below w.heap.size w w1) (h2 : Below w1.heap.size w1 w2) (h3 : Below (w2.alloc o).drew.heap.size (w2.alloc o).drew w3) : Below w.heap.size w w3 := by
  have h4 : Below w2.heap.size w2 (w2.alloc o).drew := ((Below.refl _ _).alloc (Nat.le_refl _) _).drew
  have h5 : Below w.heap.size w w2 := h1.trans (h2.mono h1.size)
  have h6 : Below w.heap.size w (w2.alloc o).drew := h5.trans (h4.mono h5.size)
  exact h6.trans (h3.mono h6.size)

set_option maxRecDepth 100000 in
set_option maxHeartbeats 4000000 in
theorem utfRunes_rune (r : Int) (s : ByteArray) (w : World) (hs : s.size ≤ 9000) (hr : May r) :
    Calls Try.prog 3 #[.int .i64 r, .string s] w fun e w' => e = .returned (.bool true) ∧ Below w.heap.size w w' := by
  have HR := Lib.hid hr
  clear hr
  obtain ⟨x, n, hd⟩ : ∃ x n, dec (bs s) = (x, n) := ⟨_, _, rfl⟩
  have HN := Lib.hid (rsize_pos.2 HR.out)
  have HE := Lib.hid (rsize_enc HR.out)
  by_cases hn : n = 0
  · subst hn
    have hz := dec_zero (l := bs s) (by rw [hd])
    have HG := Lib.hid (fun w => get_no s w (by omega) (by rw [hd]))
    have HF := Lib.hid (fun w => refget_at s w hs hz)
    clear hd hz
    go_enter Try.func3, Try.ntmps3
    go_wp2_with fail
    refine (put_any _ _ HR.out).mono ?_
    rintro e w1 ⟨v1, rfl, hown1, hB1⟩
    obtain ⟨g1, c1, rfl, hg1, hl1, hx1, hcell1⟩ := owns_some hown1 HN.out
    have H1 := Lib.hid hcell1
    clear hcell1 hown1
    go_wp2_with (first | (go_at_call 10; refine (HG.out _).mono ?_; rintro e w' ⟨rfl, rfl⟩) | (go_at_call 11; refine (HF.out _).mono ?_; rintro e w2 ⟨rfl, hB2⟩) | (go_at_call 12; refine (num_any _ _).mono ?_; rintro e w' ⟨rfl, rfl⟩) | (go_at_call 13; refine (may_yes _ _ HR.out).mono ?_; rintro e w' ⟨rfl, rfl⟩) | (go_at_call 8; refine (known_any _).mono ?_; rintro e w3 ⟨rfl, hB3⟩))
    have HX := Lib.hid hx1
    clear hx1
    have HS : Hid (∀ W, Below w1.heap.size w1 W → (convert 23 9 (.slice (some ⟨g1, 0, none⟩) (rsize r) c1)).run Try.prog W = .ok (.string (strOfNums (enc r))) W) := fun W h => owns_string HX.out H1.out hl1 h
    have hc1 := HS.out w2.drew hB2.drew
    have hc2 := HS.out (w2.alloc (.cells (List.map (Value.int .u8) (enc r)).toArray 5)).drew ((hB2.trans ((Below.refl _ _).alloc hB2.size _)).drew)
    have hc3 := run_convert_enc r HR.out
    have HP := Lib.hid (refput_any r)
    go_region_with (first | (go_at_call 14; refine (HP.out _ HR.out).mono ?_; rintro e w' ⟨rfl, rfl⟩) | (go_at_call 12; refine (num_any _ _).mono ?_; rintro e w' ⟨rfl, rfl⟩) | (go_at_call 8; refine (known_any _).mono ?_; rintro e w3 ⟨rfl, hB3⟩))
    all_goals go_wp2_with fail
    all_goals
      go_ret
      exact ⟨rfl, runes_end hB1 hB2 hB3⟩
  · have HG := Lib.hid (fun w => get_ok s w (by omega) hd hn)
    have HF := Lib.hid (fun w => refget_at s w hs hd)
    have hn1 : 0 < n := by omega
    clear hd hn
    go_enter Try.func3, Try.ntmps3
    go_wp2_with fail
    refine (put_any _ _ HR.out).mono ?_
    rintro e w1 ⟨v1, rfl, hown1, hB1⟩
    obtain ⟨g1, c1, rfl, hg1, hl1, hx1, hcell1⟩ := owns_some hown1 HN.out
    have H1 := Lib.hid hcell1
    clear hcell1 hown1
    go_wp2_with (first | (go_at_call 10; refine (HG.out _).mono ?_; rintro e w' ⟨rfl, rfl⟩) | (go_at_call 11; refine (HF.out _).mono ?_; rintro e w2 ⟨rfl, hB2⟩) | (go_at_call 12; refine (num_any _ _).mono ?_; rintro e w' ⟨rfl, rfl⟩) | (go_at_call 13; refine (may_yes _ _ HR.out).mono ?_; rintro e w' ⟨rfl, rfl⟩) | (go_at_call 8; refine (known_any _).mono ?_; rintro e w3 ⟨rfl, hB3⟩))
    have HX := Lib.hid hx1
    clear hx1
    have HS : Hid (∀ W, Below w1.heap.size w1 W → (convert 23 9 (.slice (some ⟨g1, 0, none⟩) (rsize r) c1)).run Try.prog W = .ok (.string (strOfNums (enc r))) W) := fun W h => owns_string HX.out H1.out hl1 h
    have hc1 := HS.out w2.drew hB2.drew
    have hc2 := HS.out (w2.alloc (.cells (List.map (Value.int .u8) (enc r)).toArray 5)).drew ((hB2.trans ((Below.refl _ _).alloc hB2.size _)).drew)
    have hc3 := run_convert_enc r HR.out
    have HP := Lib.hid (refput_any r)
    go_region_with (first | (go_at_call 14; refine (HP.out _ HR.out).mono ?_; rintro e w' ⟨rfl, rfl⟩) | (go_at_call 12; refine (num_any _ _).mono ?_; rintro e w' ⟨rfl, rfl⟩) | (go_at_call 8; refine (known_any _).mono ?_; rintro e w3 ⟨rfl, hB3⟩))
    all_goals go_wp2_with fail
    all_goals
      go_ret
      exact ⟨rfl, runes_end hB1 hB2 hB3⟩

theorem utfRunes_any (r : Int) (s : ByteArray) (w : World) (hm : s.size ≤ 9223372036854775807) :
    Calls Try.prog 3 #[.int .i64 r, .string s] w fun e w' => e = .returned (.bool true) ∧ Below w.heap.size w w' := by
  by_cases hs : 9000 < s.size
  · exact utfRunes_long r s w hm hs
  · by_cases hr : May r
    · exact utfRunes_rune r s w (by omega) hr
    · exact utfRunes_norune r s w (by omega) hr

theorem utfRunes_walk (r : Int) (s : ByteArray) (w : World) (_ : (Lit.int .i64 r).wf = true) (hm : s.size ≤ maxLen) :
    Calls Try.prog 3 #[.int .i64 r, .string s] w fun e w' => e = .returned (.bool true) ∧ Below w.heap.size w w' :=
  utfRunes_any r s w (by unfold maxLen at hm; omega)
end Go.Proofs.Ythfflepgiikbjaa
