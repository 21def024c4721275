/-
  WHAT THE PROOF STANDS ON, a part of it: RefTriple.
-/
import Derived.Test.YtachijkjcbajmaaGreatDoorQ30
import Derived.Test.YtachijkjcbajmaaGreatDoorQ27
/-
  CONTRACTS OF THE REFERENCE's Long, TripleText. Written by tools/genreftriple.py.
-/

namespace Go.Proofs.YtachijkjcbajmaaGreatDoor
open Go.RowKit
open Utf Term
set_option linter.unusedVariables false
set_option linter.unusedSimpArgs false

theorem short_of_long {a : TermD} (h : longD a = false) : Short a := by
  unfold longD at h
  rw [Bool.or_eq_false_iff, decide_eq_false_iff_not, decide_eq_false_iff_not] at h
  exact ⟨by omega, by omega⟩

theorem held9_start (w : World) (a b c : TermD) : (fun W' => W'.cell? ⟨w.heap.size, 0, none⟩ = some (.int .i64 a.1) ∧ W'.cell? ⟨w.heap.size, 1, none⟩ = some (.string a.2.1) ∧ W'.cell? ⟨w.heap.size, 2, none⟩ = some (.string a.2.2) ∧ W'.cell? ⟨w.heap.size, 3, none⟩ = some (.int .i64 b.1) ∧ W'.cell? ⟨w.heap.size, 4, none⟩ = some (.string b.2.1) ∧ W'.cell? ⟨w.heap.size, 5, none⟩ = some (.string b.2.2) ∧ W'.cell? ⟨w.heap.size, 6, none⟩ = some (.int .i64 c.1) ∧ W'.cell? ⟨w.heap.size, 7, none⟩ = some (.string c.2.1) ∧ W'.cell? ⟨w.heap.size, 8, none⟩ = some (.string c.2.2) ∧ Below w.heap.size w W') (w.alloc (.cells #[.int .i64 a.1, .string a.2.1, .string a.2.2, .int .i64 b.1, .string b.2.1, .string b.2.2, .int .i64 c.1, .string c.2.1, .string c.2.2] 51)).drew := by
  have hB : Below w.heap.size w (w.alloc (.cells #[.int .i64 a.1, .string a.2.1, .string a.2.2, .int .i64 b.1, .string b.2.1, .string b.2.2, .int .i64 c.1, .string c.2.1, .string c.2.2] 51)) := below_new _ _
  have h : ∀ o v, (w.alloc (.cells #[.int .i64 a.1, .string a.2.1, .string a.2.2, .int .i64 b.1, .string b.2.1, .string b.2.2, .int .i64 c.1, .string c.2.1, .string c.2.2] 51)).cell? ⟨w.heap.size, o, none⟩ = v → (w.alloc (.cells #[.int .i64 a.1, .string a.2.1, .string a.2.2, .int .i64 b.1, .string b.2.1, .string b.2.2, .int .i64 c.1, .string c.2.1, .string c.2.2] 51)).drew.cell? ⟨w.heap.size, o, none⟩ = v := fun o v e => e
  refine ⟨h 0 _ ?_, h 1 _ ?_, h 2 _ ?_, h 3 _ ?_, h 4 _ ?_, h 5 _ ?_, h 6 _ ?_, h 7 _ ?_, h 8 _ ?_, hB.drew⟩
  all_goals
    rw [World.cell?_alloc_at _ _ _ _ rfl]
    rfl
theorem held9_step {w u v : World} {a b c : TermD} (h : (fun W' => W'.cell? ⟨w.heap.size, 0, none⟩ = some (.int .i64 a.1) ∧ W'.cell? ⟨w.heap.size, 1, none⟩ = some (.string a.2.1) ∧ W'.cell? ⟨w.heap.size, 2, none⟩ = some (.string a.2.2) ∧ W'.cell? ⟨w.heap.size, 3, none⟩ = some (.int .i64 b.1) ∧ W'.cell? ⟨w.heap.size, 4, none⟩ = some (.string b.2.1) ∧ W'.cell? ⟨w.heap.size, 5, none⟩ = some (.string b.2.2) ∧ W'.cell? ⟨w.heap.size, 6, none⟩ = some (.int .i64 c.1) ∧ W'.cell? ⟨w.heap.size, 7, none⟩ = some (.string c.2.1) ∧ W'.cell? ⟨w.heap.size, 8, none⟩ = some (.string c.2.2) ∧ Below w.heap.size w W') u) (k : Below u.heap.size u v) : (fun W' => W'.cell? ⟨w.heap.size, 0, none⟩ = some (.int .i64 a.1) ∧ W'.cell? ⟨w.heap.size, 1, none⟩ = some (.string a.2.1) ∧ W'.cell? ⟨w.heap.size, 2, none⟩ = some (.string a.2.2) ∧ W'.cell? ⟨w.heap.size, 3, none⟩ = some (.int .i64 b.1) ∧ W'.cell? ⟨w.heap.size, 4, none⟩ = some (.string b.2.1) ∧ W'.cell? ⟨w.heap.size, 5, none⟩ = some (.string b.2.2) ∧ W'.cell? ⟨w.heap.size, 6, none⟩ = some (.int .i64 c.1) ∧ W'.cell? ⟨w.heap.size, 7, none⟩ = some (.string c.2.1) ∧ W'.cell? ⟨w.heap.size, 8, none⟩ = some (.string c.2.2) ∧ Below w.heap.size w W') v := by
  obtain ⟨h0, h1, h2, h3, h4, h5, h6, h7, h8, hB⟩ := h
  exact ⟨cell_below k h0, cell_below k h1, cell_below k h2, cell_below k h3, cell_below k h4, cell_below k h5, cell_below k h6, cell_below k h7, cell_below k h8, below_step hB k⟩

theorem refText_any {a : TermD} (hm : mayD a = true) (hs : Short a) (W : World) :
    Calls Tryz.prog 48 #[termD a] W fun e w' => e = .returned (.string (strOfNums (textD a))) ∧ Below W.heap.size W w' :=
  reftext_any a.1 a.2.1 a.2.2 hm hs.1 hs.2 W

/-- May it be, and is it short? -/
def Good (k : Int) (t x : ByteArray) : Prop := mayS k t x = true ∧ t.size ≤ 40000 ∧ x.size ≤ 40000
theorem reftext_good (k : Int) (t x : ByteArray) (h : Good k t x) (W : World) :
    Calls Tryz.prog 48 #[termV k t x] W fun e w' => e = .returned (.string (strOfNums (textL k t x))) ∧ Below W.heap.size W w' :=
  reftext_any k t x h.1 h.2.1 h.2.2 W

set_option maxRecDepth 100000 in
set_option maxHeartbeats 4000000 in
theorem refTripleText_any (a b c : TermD) (ha : Short a) (hb : Short b) (hc : Short c) (ma : mayD a = true) (mb : mayD b = true) (mc : mayD c = true) (w : World) :
    Calls Tryz.prog 27 #[tripleV a b c] w fun e w' => e = .returned (.string (strOfNums (tripleL a b c))) ∧ Below w.heap.size w w' := by
  have MT := fun k t x h W => reftext_good k t x h W
  have GA : Good a.1 a.2.1 a.2.2 := ⟨ma, ha.1, ha.2⟩
  have GB : Good b.1 b.2.1 b.2.2 := ⟨mb, hb.1, hb.2⟩
  have GC : Good c.1 c.2.1 c.2.2 := ⟨mc, hc.1, hc.2⟩
  have ZA : (strOfNums (textL a.1 a.2.1 a.2.2)).size ≤ 7000000000010 := by rw [strOfNums_size]; exact textD_len ha.fits
  have ZB : (strOfNums (textL b.1 b.2.1 b.2.2)).size ≤ 7000000000010 := by rw [strOfNums_size]; exact textD_len hb.fits
  have ZC : (strOfNums (textL c.1 c.2.1 c.2.2)).size ≤ 7000000000010 := by rw [strOfNums_size]; exact textD_len hc.fits
  have HT : Hid (strOfNums (tripleL a b c) = strOfNums (textL a.1 a.2.1 a.2.2) ++ ⟨#[32]⟩ ++ strOfNums (textL b.1 b.2.1 b.2.2) ++ ⟨#[32]⟩ ++ strOfNums (textL c.1 c.2.1 c.2.2) ++ ⟨#[32, 46]⟩) := Lib.hid (by
    refine (strOf_eq ?_).symm
    rw [bs_app, bs_app, bs_app, bs_app, bs_app, bs_strOfNums (textL_byte _ _ _), bs_strOfNums (textL_byte _ _ _), bs_strOfNums (textL_byte _ _ _)]
    show _ ++ [32] ++ _ ++ [32] ++ _ ++ [32, 46] = textL a.1 a.2.1 a.2.2 ++ 32 :: (textL b.1 b.2.1 b.2.2 ++ 32 :: (textL c.1 c.2.1 c.2.2 ++ [32, 46]))
    simp)
  have HS := Lib.hid (held9_start w a b c)
  clear ma mb mc ha hb hc
  generalize hT : (fun k t x => strOfNums (textL k t x)) = T at *
  have eT : ∀ k t x, strOfNums (textL k t x) = T k t x := fun k t x => by rw [← hT]
  rw [eT] at ZA ZB ZC
  simp only [eT] at MT
  have HT2 : Hid (strOfNums (tripleL a b c) = T a.1 a.2.1 a.2.2 ++ ⟨#[32]⟩ ++ T b.1 b.2.1 b.2.2 ++ ⟨#[32]⟩ ++ T c.1 c.2.1 c.2.2 ++ ⟨#[32, 46]⟩) := Lib.hid (by rw [HT.out, eT, eT, eT])
  clear HT eT hT
  have f0 : ¬ 9223372036854775807 < (T a.1 a.2.1 a.2.2).size + 1 := by omega
  have f1 : ¬ 9223372036854775807 < (T a.1 a.2.1 a.2.2).size + 1 + (T b.1 b.2.1 b.2.2).size := by omega
  have f2 : ¬ 9223372036854775807 < (T a.1 a.2.1 a.2.2).size + 1 + (T b.1 b.2.1 b.2.2).size + 1 := by omega
  have f3 : ¬ 9223372036854775807 < (T a.1 a.2.1 a.2.2).size + 1 + (T b.1 b.2.1 b.2.2).size + 1 + (T c.1 c.2.1 c.2.2).size := by omega
  have f4 : ¬ 9223372036854775807 < (T a.1 a.2.1 a.2.2).size + 1 + (T b.1 b.2.1 b.2.2).size + 1 + (T c.1 c.2.1 c.2.2).size + 2 := by omega
  clear ZA ZB ZC
  generalize strOfNums (tripleL a b c) = R at *
  generalize Good = G at *
  go_enter Tryz.func27, Tryz.ntmps27
  go_wp2
  go_region_held3 (fun W' => W'.cell? ⟨w.heap.size, 0, none⟩ = some (.int .i64 a.1) ∧ W'.cell? ⟨w.heap.size, 1, none⟩ = some (.string a.2.1) ∧ W'.cell? ⟨w.heap.size, 2, none⟩ = some (.string a.2.2) ∧ W'.cell? ⟨w.heap.size, 3, none⟩ = some (.int .i64 b.1) ∧ W'.cell? ⟨w.heap.size, 4, none⟩ = some (.string b.2.1) ∧ W'.cell? ⟨w.heap.size, 5, none⟩ = some (.string b.2.2) ∧ W'.cell? ⟨w.heap.size, 6, none⟩ = some (.int .i64 c.1) ∧ W'.cell? ⟨w.heap.size, 7, none⟩ = some (.string c.2.1) ∧ W'.cell? ⟨w.heap.size, 8, none⟩ = some (.string c.2.2) ∧ Below w.heap.size w W') ((first | assumption | exact HS.out | exact held9_step (by assumption) (by assumption))) ((go_at_call 48; refine (MT _ _ _ (by assumption) _).mono ?_; rintro e w3 ⟨rfl, hB3⟩))
  all_goals
    rename_i hHeld
    have hb := hHeld.2.2.2.2.2.2.2.2.2
    go_wp2
    go_ret
    exact ⟨ret_str HT2.out.symm, hb⟩
end Go.Proofs.YtachijkjcbajmaaGreatDoor
