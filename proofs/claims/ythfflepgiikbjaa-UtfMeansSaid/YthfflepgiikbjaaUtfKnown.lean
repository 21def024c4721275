/-
  THE CONTRACT OF the law's known.
-/
import Derived.Test.YthfflepgiikbjaaUtfValid
import Derived.Test.YthfflepgiikbjaaUtfRef
namespace Go.Proofs.Ythfflepgiikbjaa
open Go.RowKit
open Utf

theorem valid_any (s : ByteArray) (w : World) (hs : s.size ≤ 1000000000000) :
    Calls Try.prog 16 #[.string s] w fun e W' => e = .returned (.bool (valid (bs s))) ∧ Below w.heap.size w W' := callsIn_wide.1 (valid_in 3 (Nat.le_refl _) s hs w)
theorem len_any (s : ByteArray) (w : World) (hs : s.size ≤ 1000000000000) :
    Calls Try.prog 17 #[.string s] w fun e W' => e = .returned (.int .i64 ((allR (bs s)).length : Nat)) ∧ Below w.heap.size w W' := callsIn_wide.1 (len_in 3 (Nat.le_refl _) s hs w)

/-- A row with elements leads to a block, whose cells they are. -/
theorem owns_some {w : World} {B : Nat} {v : Value} {n : Nat} {xs : List Int} (h : w.ownsRow B 5 1 v n (xs.map (Value.int .u8))) (hn : 0 < n) :
    ∃ g cap, v = .slice (some ⟨g, 0, none⟩) n cap ∧ B ≤ g ∧ g < w.heap.size ∧ xs.length = n ∧ ∀ i, i < n → w.cell? ⟨g, 0 + i, none⟩ = some (.int .u8 (xs.getD i 0)) := by
  have h' := h
  obtain ⟨hl, ⟨_, h0⟩ | ⟨g, cap, cur, rfl, hg, hb, hle, _, hc, ht⟩⟩ := h
  · omega
  · have hxs : xs.length = n := by simpa using hl
    refine ⟨g, cap, rfl, hg, (Array.getElem?_eq_some_iff.1 hb).1, hxs, ?_⟩
    intro i hi
    have := h'.cellAt i (by omega)
    rw [Nat.zero_add, this, List.getElem?_map, List.getElem?_eq_getElem (by omega)]
    simp [hxs, hi]

/-- The row as a string. -/
theorem owns_string {w w' : World} {g n cap : Nat} {xs : List Int} (hx : xs.length = n) (hc : ∀ i, i < n → w.cell? ⟨g, 0 + i, none⟩ = some (.int .u8 (xs.getD i 0))) (hg : g < w.heap.size) (hB : Below w.heap.size w w') :
    (convert 23 9 (.slice (some ⟨g, 0, none⟩) n cap)).run Try.prog w' = .ok (.string (strOfNums xs)) w' :=
  run_convert_bytes_arg _ _ 5 Try.underlying23 Try.underlying5 _ _ _ _ xs hx (fun i hi => (hB.cell (p := ⟨g, 0 + i, none⟩) hg).trans (hc i hi)) _ Try.underlying9

theorem valid_a : valid (bs ⟨#[97]⟩) = true := by decide +kernel

set_option maxRecDepth 100000 in
set_option maxHeartbeats 1000000 in
theorem known_any (w : World) : Calls Try.prog 8 #[] w fun e w' => e = .returned (.bool true) ∧ Below w.heap.size w w' := by
  go_enter Try.func8, Try.ntmps8
  go_wp2_with fail
  refine (put_any 233 _ (by decide)).mono ?_
  rintro e w1 ⟨v1, rfl, hown1, hB1⟩
  rw [show rsize 233 = 2 by decide] at hown1
  obtain ⟨g1, c1, rfl, hg1, hl1, hx1, hcell1⟩ := owns_some hown1 (by decide)
  have H1 := Lib.hid hcell1
  clear hcell1 hown1
  go_wp2_with fail
  refine (put_any 8364 _ (by decide)).mono ?_
  rintro e w2 ⟨v2, rfl, hown2, hB2⟩
  rw [show rsize 8364 = 3 by decide] at hown2
  obtain ⟨g2, c2, rfl, hg2, hl2, hx2, hcell2⟩ := owns_some hown2 (by decide)
  have H2 := Lib.hid hcell2
  clear hcell2 hown2
  go_wp2_with fail
  refine (put_none 55296 _ (by decide)).mono ?_
  rintro e w3 ⟨rfl, hB3⟩
  go_wp2_with fail
  refine (get_no ⟨#[192, 128]⟩ _ (by decide) (by decide)).mono ?_
  rintro e w' ⟨rfl, rfl⟩
  have r1 := owns_string (cap := c1) (w' := w3) hx1 H1.out hl1 (hB2.trans (hB3.mono hB2.size))
  have r2 := owns_string (cap := c2) (w' := w3) hx2 H2.out hl2 hB3
  rw [show strOfNums (enc 233) = ⟨#[195, 169]⟩ by decide +kernel] at r1
  rw [show strOfNums (enc 8364) = ⟨#[226, 130, 172]⟩ by decide +kernel] at r2
  have HB : Hid (Below w.heap.size w w3) := hB1.trans ((hB2.mono hB1.size).trans (hB3.mono (Nat.le_trans hB1.size hB2.size)))
  clear hB1 hB2 hB3 hx1 hx2 hg1 hg2 hl1 hl2
  go_wp2_with (first | (go_at_call 12; refine (num_any _ _).mono ?_; rintro e w' ⟨rfl, rfl⟩) | (go_at_call 16; refine (valid_any _ _ (by decide)).mono ?_; rw [valid_a]; rintro e w' ⟨rfl, hB4⟩))
  go_ret
  exact ⟨rfl, HB.out.trans (hB4.mono HB.out.size)⟩
end Go.Proofs.Ythfflepgiikbjaa
