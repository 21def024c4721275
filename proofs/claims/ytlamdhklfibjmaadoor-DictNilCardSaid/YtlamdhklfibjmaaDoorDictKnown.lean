/-
  THE CONTRACT OF the law's known (layer 3).
-/
import Derived.Test.YtlamdhklfibjmaaDoorDictCalls
namespace Go.Proofs.YtlamdhklfibjmaaDoor
open Go.RowKit
open Utf Term
set_option linter.unusedVariables false
set_option linter.unusedSimpArgs false

abbrev termA : TermD := (1, ⟨#[97]⟩, ⟨#[]⟩)
abbrev termB : TermD := (1, ⟨#[98]⟩, ⟨#[]⟩)
theorem known_1 : internP 9 [] termA = (1, 0, [packL termA]) := by decide +kernel
theorem known_2 : internP 9 [packL termA] termB = (2, 0, [packL termA, packL termB]) := by decide +kernel
theorem known_3 : internP 9 [packL termA, packL termB] termA = (1, 0, [packL termA, packL termB]) := by decide +kernel

/-- A dictionary that the call made itself, and a fact on the library's variable: what the next call wants. -/
structure Mine (w0 w : World) (S : Nat → Prop) (dp lim : Nat) (ps : List (List Int)) : Prop where
  d : DictI w S dp lim ps
  bel : Below w0.heap.size w0 w
  new : ∀ j, S j → w0.heap.size ≤ j
theorem Mine.next {w0 w w' : World} {S : Nat → Prop} {dp lim : Nat} {ps ps' : List (List Int)} (h : Mine w0 w S dp lim ps) (d : DictI w' (growS S w w') dp lim ps') (t : Turned S w w') : Mine w0 w' (growS S w w') dp lim ps' := by
  have hs := h.bel.size
  refine ⟨d, h.bel.trans (t.below hs h.new), fun j hj => ?_⟩
  rcases hj with hj | hj
  · exact h.new j hj
  · omega
theorem Mine.same {w0 w w' : World} {S : Nat → Prop} {dp lim : Nat} {ps : List (List Int)} (h : Mine w0 w S dp lim ps) (k : Below w.heap.size w w') : Mine w0 w' (growS S w w') dp lim ps :=
  h.next (h.d.grow k) (Turned.of_below k)
theorem Mine.start {w0 w w' : World} {dp lim : Nat} {ps : List (List Int)} (hb : Below w0.heap.size w0 w) (d : DictI w' (newS w w') dp lim ps) (k : Below w.heap.size w w') : Mine w0 w' (newS w w') dp lim ps :=
  ⟨d, below_step hb k, fun j hj => by have := hb.size; have := hj.1; omega⟩

theorem Mine.keep {w0 w w' : World} {S : Nat → Prop} {dp lim : Nat} {ps : List (List Int)} (h : Mine w0 w S dp lim ps) (k : Below w.heap.size w w') : Mine w0 w' S dp lim ps := ⟨h.d.below k, below_step h.bel k, h.new⟩
/-- A variable that holds a term. -/
structure VarT (W : World) (S : Nat → Prop) (g : Nat) (a : TermD) : Prop where
  c0 : W.cell? ⟨g, 0, none⟩ = some (.int .i64 a.1)
  c1 : W.cell? ⟨g, 1, none⟩ = some (.string a.2.1)
  c2 : W.cell? ⟨g, 2, none⟩ = some (.string a.2.2)
  far : ¬ S g
theorem VarT.next {W W' : World} {S : Nat → Prop} {g : Nat} {a : TermD} (h : VarT W S g a) (t : Turned S W W') : VarT W' (growS S W W') g a := by
  have hl := World.block_lt_of_cell? _ _ h.c0
  refine ⟨t.cell h.far h.c0, t.cell h.far h.c1, t.cell h.far h.c2, fun hj => ?_⟩
  rcases hj with hj | hj
  · exact h.far hj
  · have : g < W.heap.size := hl
    omega

set_option maxRecDepth 100000 in
set_option maxHeartbeats 2000000 in
theorem knownS_any (m : Int) (w : World) (hm : w.cell? ⟨0, 0, none⟩ = some (.int .i64 m)) : Calls Tryd.prog 5 #[] w fun e w' => e = .returned (.bool true) ∧ Below w.heap.size w w' := by
  have HM := Lib.hid hm
  have MN := Lib.hid (newI 9 (by omega) w)
  clear hm
  go_enter Tryd.func5, Tryd.ntmps5
  go_wp2_with fail
  refine MN.out.mono ?_
  rintro e w1 ⟨dp, rfl, D1, B1⟩
  have H1 := Lib.hid (Mine.start (Below.refl _ _) D1 B1)
  clear D1 B1 MN
  have B2 : Hid (Below w1.heap.size w1 ((w1.alloc (.cells #[.int .i64 1, .string ⟨#[97]⟩, .string ⟨#[]⟩] 34)).alloc (.cells #[.int .i64 1, .string ⟨#[98]⟩, .string ⟨#[]⟩] 34))) := Lib.hid (below_step (below_new _ _) (below_new _ _))
  have hs1 : (w1.alloc (.cells #[.int .i64 1, .string ⟨#[97]⟩, .string ⟨#[]⟩] 34)).heap.size = w1.heap.size + 1 := by simp
  have VA : Hid (VarT ((w1.alloc (.cells #[.int .i64 1, .string ⟨#[97]⟩, .string ⟨#[]⟩] 34)).alloc (.cells #[.int .i64 1, .string ⟨#[98]⟩, .string ⟨#[]⟩] 34)) (newS w w1) w1.heap.size termA) := Lib.hid (by
    have e := (Below.heap_alloc (w1.alloc (.cells #[.int .i64 1, .string ⟨#[97]⟩, .string ⟨#[]⟩] 34)) (.cells #[.int .i64 1, .string ⟨#[98]⟩, .string ⟨#[]⟩] 34) w1.heap.size (by omega)).trans (heap_alloc_new w1 _)
    exact ⟨cell_in e rfl, cell_in e rfl, cell_in e rfl, fun h => by have := h.2; omega⟩)
  have VB : Hid (VarT ((w1.alloc (.cells #[.int .i64 1, .string ⟨#[97]⟩, .string ⟨#[]⟩] 34)).alloc (.cells #[.int .i64 1, .string ⟨#[98]⟩, .string ⟨#[]⟩] 34)) (newS w w1) (w1.heap.size + 1) termB) := Lib.hid (by
    have e := heap_alloc_new (w1.alloc (.cells #[.int .i64 1, .string ⟨#[97]⟩, .string ⟨#[]⟩] 34)) (.cells #[.int .i64 1, .string ⟨#[98]⟩, .string ⟨#[]⟩] 34)
    rw [hs1] at e
    exact ⟨cell_in e rfl, cell_in e rfl, cell_in e rfl, fun h => by have := h.2; omega⟩)
  clear hs1
  have H2 := Lib.hid (H1.out.keep B2.out)
  have I1 := Lib.hid (internI _ dp 9 [] termA ⟨by decide, by decide⟩ (by decide +kernel) m _ (cell_below H2.out.bel HM.out) H2.out.d)
  rw [known_1] at I1
  go_wp2_with fail
  generalize (w1.alloc (.cells #[.int .i64 1, .string ⟨#[97]⟩, .string ⟨#[]⟩] 34)).alloc (.cells #[.int .i64 1, .string ⟨#[98]⟩, .string ⟨#[]⟩] 34) = W2 at *
  generalize w1.heap.size = ga at *
  refine I1.out.mono ?_
  rintro e w3 ⟨rfl, D3, T3⟩
  have H3 := Lib.hid (H2.out.next D3 T3)
  have VA3 := Lib.hid (VA.out.next T3)
  have VB3 := Lib.hid (VB.out.next T3)
  clear D3 T3 I1 H2 VA VB H1 B2
  have I2 := Lib.hid (internI _ dp 9 _ termB ⟨by decide, by decide⟩ (by decide +kernel) m _ (cell_below H3.out.bel HM.out) H3.out.d)
  rw [known_2] at I2
  have b0 := VB3.out.c0
  have b1 := VB3.out.c1
  have b2 := VB3.out.c2
  go_wp2_with fail
  refine I2.out.mono ?_
  rintro e w4 ⟨rfl, D4, T4⟩
  have H4 := Lib.hid (H3.out.next D4 T4)
  have VA4 := Lib.hid (VA3.out.next T4)
  have VB4 := Lib.hid (VB3.out.next T4)
  clear D4 T4 I2 H3 VA3 VB3 b0 b1 b2
  have I3 := Lib.hid (internI _ dp 9 _ termA ⟨by decide, by decide⟩ (by decide +kernel) m _ (cell_below H4.out.bel HM.out) H4.out.d)
  rw [known_3] at I3
  have a0 := VA4.out.c0
  have a1 := VA4.out.c1
  have a2 := VA4.out.c2
  go_wp2_with fail
  refine I3.out.mono ?_
  rintro e w5 ⟨rfl, D5, T5⟩
  have H5 := Lib.hid (H4.out.next D5 T5)
  have VB5 := Lib.hid (VB4.out.next T5)
  clear D5 T5 I3 H4 VA4 VB4 a0 a1 a2
  have I4 := Lib.hid (cutI _ dp 9 _ 1 (by decide) _ H5.out.d)
  rw [show ([packL termA, packL termB] : List (List Int)).take 1 = [packL termA] from rfl, show ((1 : Nat) : Int) = 1 from rfl] at I4
  go_wp2_with fail
  refine I4.out.mono ?_
  rintro e w6 ⟨rfl, D6, T6⟩
  have H6 := Lib.hid (H5.out.next D6 T6)
  have VB6 := Lib.hid (VB5.out.next T6)
  clear D6 T6 I4 H5 VB5
  have I5 := Lib.hid (internI _ dp 9 _ termB ⟨by decide, by decide⟩ (by decide +kernel) m _ (cell_below H6.out.bel HM.out) H6.out.d)
  rw [known_2] at I5
  have b0 := VB6.out.c0
  have b1 := VB6.out.c1
  have b2 := VB6.out.c2
  go_wp2_with fail
  refine I5.out.mono ?_
  rintro e w7 ⟨rfl, D7, T7⟩
  have H7 := Lib.hid (H6.out.next D7 T7)
  clear D7 T7 I5 H6 VB6 b0 b1 b2
  go_wp2_with (go_at_call 12; refine (numS_any _ _).mono ?_; rintro e w' ⟨rfl, rfl⟩)
  go_ret
  exact ⟨rfl, H7.out.bel⟩
end Go.Proofs.YtlamdhklfibjmaaDoor
