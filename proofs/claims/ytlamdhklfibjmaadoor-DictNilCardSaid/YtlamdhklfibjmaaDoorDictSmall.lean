/-
  CONTRACTS OF (Dict).isNone, (Dict).Len.
-/
import Derived.Test.YtlamdhklfibjmaaDoorDictSlot
import Derived.Lib.SliceRun
namespace Go.Proofs.YtlamdhklfibjmaaDoor
open Go.RowKit
open Utf Term
set_option linter.unusedVariables false
set_option linter.unusedSimpArgs false

set_option maxRecDepth 100000 in
theorem isNone_nil (w : World) : Calls Tryd.prog 20 #[.pointer none] w fun e w' => e = .returned (.bool true) ∧ w = w' := by
  go_enter Tryd.func20, Tryd.ntmps20
  go_wp2
  go_ret
  exact ⟨rfl, rfl⟩
set_option maxRecDepth 100000 in
theorem isNone_zero (dp : Nat) (w : World) (h : w.cell? ⟨dp, 3, none⟩ = some (.slice none 0 0)) : Calls Tryd.prog 20 #[.pointer (some ⟨dp, 0, none⟩)] w fun e w' => e = .returned (.bool true) ∧ w = w' := by
  have ee := fun W => Lib.run_eql_slice_nil (P := Tryd.prog) W 48 28 none 0 0 0 0 Tryd.underlying48
  go_enter Tryd.func20, Tryd.ntmps20
  go_wp2
  go_ret
  exact ⟨rfl, rfl⟩
set_option maxRecDepth 100000 in
theorem isNone_some (dp tg n c : Nat) (w : World) (h : w.cell? ⟨dp, 3, none⟩ = some (.slice (some ⟨tg, 0, none⟩) n c)) : Calls Tryd.prog 20 #[.pointer (some ⟨dp, 0, none⟩)] w fun e w' => e = .returned (.bool false) ∧ w = w' := by
  have ee := fun W => Lib.run_eql_slice_nil (P := Tryd.prog) W 48 28 (some ⟨tg, 0, none⟩) n c 0 0 Tryd.underlying48
  go_enter Tryd.func20, Tryd.ntmps20
  go_wp2
  go_ret
  exact ⟨rfl, rfl⟩

set_option maxRecDepth 100000 in
theorem dictLen_any (dp : Nat) (lim : Int) (ps : List (List Int)) (tb : List Nat) (ta ba : Option Addr) (tc bc tg : Nat) (w : World) (D : DictAt w dp lim ps tb ta ba tc bc tg) :
    Calls Tryd.prog 8 #[.pointer (some ⟨dp, 0, none⟩)] w fun e w' => e = .returned (.int .i64 ps.length) ∧ Below w.heap.size w w' := by
  have M0 := Lib.hid (isNone_some dp tg tb.length tb.length w D.c3)
  have c1 := D.c1
  have c2 := D.c2
  have M1 := Lib.hid (listLen_any (.slice ta ps.flatten.length tc) ba ps.length bc w)
  clear D
  generalize ps.flatten.length = N at *
  generalize ps.length = n at *
  go_enter Tryd.func8, Tryd.ntmps8
  go_wp2_with (first | (go_at_call 20; refine M0.out.mono ?_; rintro e w' ⟨rfl, rfl⟩) | (go_at_call 21; refine M1.out.mono ?_; rintro e w2 ⟨rfl, hB⟩))
  go_ret
  exact ⟨rfl, hB⟩
end Go.Proofs.YtlamdhklfibjmaaDoor
