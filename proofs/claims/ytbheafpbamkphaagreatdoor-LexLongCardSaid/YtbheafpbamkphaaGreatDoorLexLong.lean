/-
  THE WALK OF LexLong.
-/
import Derived.Test.YtbheafpbamkphaaGreatDoorLexKnown2
import Derived.Laws.OwnMore
namespace Go.Proofs.YtbheafpbamkphaaGreatDoor
open Go.RowKit
open Utf Term Lex
set_option linter.unusedVariables false
set_option linter.unusedSimpArgs false

/-- So many spaces. -/
def spaces (n : Nat) : ByteArray := strOfNums (List.replicate n 32)
theorem bs_spaces (n : Nat) : bs (spaces n) = List.replicate n 32 := bs_strOfNums (fun c hc => by rw [List.eq_of_mem_replicate hc]; exact ⟨by decide, by decide⟩)
theorem spaces_size (n : Nat) : (spaces n).size = n := by rw [← bs_length, bs_spaces, List.length_replicate]
theorem sk_spaces : ∀ n, sk false (List.replicate n 32) = n
  | 0 => rfl
  | n + 1 => by rw [List.replicate_succ, sk_false, if_pos (by decide), sk_spaces n]; omega
theorem all_spaces (n : Nat) : allL (List.replicate n 32) = ([], n) := by
  unfold allL
  rw [toks_eq, sk_spaces, if_pos (List.drop_eq_nil_of_le (by rw [List.length_replicate]; exact Nat.le_refl _)), Nat.zero_add]
theorem wf_spaces (n : Nat) (hn : n ≤ 1000000000) : wfL (List.replicate n 32) = n := by
  have hv : valid (List.replicate n (32 : Int)) = true := valid_ascii (by rw [List.length_replicate]; omega) (fun c hc => by rw [List.eq_of_mem_replicate hc]; omega)
  unfold valid at hv
  rw [beq_iff_eq, List.length_replicate] at hv
  unfold wfL
  omega

theorem all_sp (n : Nat) (hn : n ≤ 1048576) (w : World) (hv : LexEnv w) (hrp : 0 < w.heap.size ∧ 1 < w.heap.size ∧ 2 < w.heap.size) :
    Calls Tryz.prog 18 #[.string (spaces n)] w fun e w' => ∃ ao cap, e = .returned (.tuple #[.slice ao 0 cap, .int .i64 0, .int .i64 0]) ∧ Below w.heap.size w w' := by
  refine (all_any lexEscape_any (spaces n) (by rw [spaces_size]; omega) w hv hrp).mono ?_
  intro e w' h
  unfold AllOut at h
  rw [bs_spaces, all_spaces, wf_spaces n (by omega), spaces_size, if_neg (by omega), if_neg (by omega), if_neg (by omega)] at h
  obtain ⟨hB, v, rfl, _, ⟨rfl, _⟩ | ⟨g, cap, cur, rfl, _⟩⟩ := h
  · exact ⟨none, 0, rfl, hB⟩
  · exact ⟨_, cap, rfl, hB⟩
theorem all_sp_long (n : Nat) (h1 : 1048576 < n) (hn : n ≤ 1000000000) (w : World) (hv : LexEnv w) (hrp : 0 < w.heap.size ∧ 1 < w.heap.size ∧ 2 < w.heap.size) :
    Calls Tryz.prog 18 #[.string (spaces n)] w fun e w' => e = .returned (.tuple #[.slice none 0 0, .int .i64 0, .int .i64 3]) ∧ Below w.heap.size w w' := by
  refine (all_any lexEscape_any (spaces n) (by rw [spaces_size]; omega) w hv hrp).mono ?_
  intro e w' h
  unfold AllOut at h
  rw [spaces_size, if_pos h1] at h
  exact ⟨h.2, h.1⟩

set_option maxRecDepth 100000 in
set_option maxHeartbeats 8000000 in
theorem lexLong_any (w : World) (hv : LexEnv w) (hrp : 0 < w.heap.size ∧ 1 < w.heap.size ∧ 2 < w.heap.size) :
    Calls Tryz.prog 5 #[] w fun e w' => e = .returned (.bool true) ∧ Below w.heap.size w w' := by
  obtain ⟨i0, hi, hz0, hz1, hz2⟩ := info_parts info_u8
  obtain ⟨N, hN⟩ : ∃ N : Nat, N = 1048577 := ⟨_, rfl⟩
  obtain ⟨w0, hmk, hown0, hgr0⟩ := run_make_full (P := Tryz.prog) w w.heap.size 51 5 i0 (.int .u8 0) 1 Tryz.underlying51 hi hz0 hz1 .i64 .i64 N (by rw [hz2]; omega) (by unfold maxLen; omega) (Nat.le_refl _)
  have hNI : (N : Int) = 1048577 := by omega
  rw [hNI] at hmk
  have hB0 : Below w.heap.size w w0 := (Below.refl _ _).grown hgr0 (Nat.le_refl _) (fun k e => by cases e)
  generalize (madeCells (Value.cells (.int .u8 0)) (N * 1)).toList = xs0 at hown0
  have HN := Lib.hid hN
  have n1 : 1 < N := by omega
  have n2 : N ≤ 1048577 := by omega
  have HO := Lib.hid hown0
  have HB0 := Lib.hid hB0
  have Hv := Lib.hid hv
  have Hrp := Lib.hid hrp
  clear hN hNI hown0 hgr0 hB0 hv hrp
  go_enter Tryz.func5, Tryz.ntmps5
  go_wp2
  go_loopw [2] (fun i wr => ∃ (k : Nat) (xs : List Value), k ≤ N ∧ i = .int .i64 k ∧ wr.ownsRow w.heap.size 5 1 (.slice (some ⟨w.heap.size, 0, none⟩) N N) N xs ∧ xs.take k = List.replicate k (.int .u8 32) ∧ Below w.heap.size w wr) (fun i _ => N - (intOf i).toNat)
  case atStart => exact ⟨0, xs0, by omega, rfl, HO.out, rfl, HB0.out⟩
  case round =>
    obtain ⟨k, xs, hk, rfl, hown, htk, hB⟩ := hrel
    have hlen : xs.length = N := by have := hown.1; omega
    have HOw := Lib.hid hown
    have HTk := Lib.hid htk
    have HB := Lib.hid hB
    clear htk hB
    by_cases hlt : k < N
    · have hc := hown.cellAt k (by omega)
      have hcell : wr.cell? ⟨w.heap.size, k, none⟩ = some (xs[k]'(by omega)) := by rw [hc]; exact List.getElem?_eq_getElem _
      have hf := hown.frozenAt k
      have HNx : Hid ((xs.set k (.int .u8 32)).take (k + 1) = List.replicate (k + 1) (.int .u8 32)) := Lib.hid (by
        rw [List.take_add_one, List.getElem?_set_self (by omega), List.take_set_of_le (Nat.le_refl _), HTk.out, List.replicate_succ']
        rfl)
      generalize xs[k]'(by omega) = x at hcell
      clear hc hown hlen
      go_wp2
      go_roundw
      case rel => exact ⟨k + 1, _, by omega, by go_num, (HOw.out.stored k _).1, HNx.out, HB.out.setCell (Nat.le_refl _) _⟩
      case measure => simp [intOf]; omega
    · obtain rfl : k = N := by omega
      have hxs : xs = List.replicate k (.int .u8 32) := by rw [← HTk.out, List.take_of_length_le (by omega)]
      have hcell : ∀ i, i < k → wr.cell? ⟨w.heap.size, i, none⟩ = some (.int .u8 32) := fun i hi => by
        rw [hown.cellAt i (by omega), hxs]
        simp [hi]
      have hwr : w.heap.size < wr.heap.size := by
        have := World.block_lt_of_cell? _ _ (hcell 0 (by omega))
        exact this
      clear hxs hown hlen HTk HOw
      have HS1 : ∀ W, Below wr.heap.size wr W → (convert 51 9 (.slice (some ⟨w.heap.size, 1, none⟩) (k - 1) (k - 1))).run Tryz.prog W = .ok (.string (spaces (k - 1))) W := fun W hW =>
        run_convert_bytes_arg _ _ 5 Tryz.underlying51 Tryz.underlying5 _ _ _ _ (List.replicate (k - 1) 32) (by simp) (fun i hi => by
          rw [hW.cell (p := ⟨w.heap.size, 1 + i, none⟩) hwr, hcell (1 + i) (by omega)]
          simp [hi]) _ Tryz.underlying9
      have HS2 : ∀ W, Below wr.heap.size wr W → (convert 51 9 (.slice (some ⟨w.heap.size, 0, none⟩) k k)).run Tryz.prog W = .ok (.string (spaces k)) W := fun W hW =>
        run_convert_bytes_arg _ _ 5 Tryz.underlying51 Tryz.underlying5 _ _ _ _ (List.replicate k 32) (by simp) (fun i hi => by
          rw [Nat.zero_add, hW.cell (p := ⟨w.heap.size, i, none⟩) hwr, hcell i (by omega)]
          simp [hi]) _ Tryz.underlying9
      have hs1 := HS1 wr (Below.refl _ _)
      have HS2 := Lib.hid HS2
      have hev := Hv.out.below HB.out
      have hrp : ∀ W : World, w.heap.size ≤ W.heap.size → 0 < W.heap.size ∧ 1 < W.heap.size ∧ 2 < W.heap.size := fun W h => ⟨Nat.lt_of_lt_of_le Hrp.out.1 h, Nat.lt_of_lt_of_le Hrp.out.2.1 h, Nat.lt_of_lt_of_le Hrp.out.2.2 h⟩
      have HC1 := Lib.hid (all_sp (k - 1) (by omega) wr hev (hrp wr HB.out.size))
      have HC2 : Hid (∀ W, Below wr.heap.size wr W → Calls Tryz.prog 18 #[.string (spaces k)] W fun e w' => e = .returned (.tuple #[.slice none 0 0, .int .i64 0, .int .i64 3]) ∧ Below W.heap.size W w') := Lib.hid (fun W hW => all_sp_long k (by have := HN.out; omega) (by omega) W (hev.below hW) (hrp W (Nat.le_trans HB.out.size hW.size)))
      have HC3 : Hid (∀ W, Below wr.heap.size wr W → Calls Tryz.prog 7 #[] W fun e w' => e = .returned (.bool true) ∧ Below W.heap.size W w') := Lib.hid (fun W hW => known4_any W (hev.below hW) (hrp W (Nat.le_trans HB.out.size hW.size)))
      clear HS1 hev hrp hcell
      go_wp2_with fail
      refine HC1.out.mono ?_
      rintro e w1 ⟨ao, cap, rfl, hB1⟩
      have HB1 := Lib.hid hB1
      have hs2 := HS2.out w1 hB1
      clear hB1 hs1
      go_wp2_with fail
      refine (HC2.out w1 HB1.out).mono ?_
      rintro e w2 ⟨rfl, hB2⟩
      have HB2 := Lib.hid (below_next HB1.out hB2)
      clear hB2 hs2
      go_wp2_with (first | (go_at_call 11; refine (num4_any _ _).mono ?_; rintro e w' ⟨rfl, rfl⟩) | (go_at_call 7; refine (HC3.out w2 HB2.out).mono ?_; rintro e w3 ⟨rfl, hB3⟩))
      go_ret
      exact ⟨rfl, HB.out.trans ((below_next HB2.out hB3).mono HB.out.size)⟩
end Go.Proofs.YtbheafpbamkphaaGreatDoor
