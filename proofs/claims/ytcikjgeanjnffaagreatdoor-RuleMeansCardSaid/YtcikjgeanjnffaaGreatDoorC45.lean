/-
  WHAT THE PROOF STANDS ON, a part of it: Much, NtParse, NtPure3, NtSize.
-/
import Derived.Test.YtcikjgeanjnffaaGreatDoorC15
import Derived.IntWalk
import Derived.Test.YtcikjgeanjnffaaGreatDoorC43
import Derived.Test.YtcikjgeanjnffaaGreatDoorC9
import Derived.Deep.AppendLies
import Derived.Deep.Upon
import Derived.Lib.SliceRun
import Derived.Lib.SlicesCompact
import Derived.Lib.LazyBuf
import Derived.Test.YtcikjgeanjnffaaGreatDoorC40
import Derived.Test.YtcikjgeanjnffaaGreatDoorC24
import Derived.Test.YtcikjgeanjnffaaGreatDoorC6
import Derived.Deep.RegionLaw
/-
  CONTRACT OF Much.
-/

namespace Go.Proofs.YtcikjgeanjnffaaGreatDoor
open Go.RowKit
open Utf Term
set_option linter.unusedVariables false
set_option linter.unusedSimpArgs false

/-- Terms in a row. -/
def RowT (W : World) (b off : Nat) (ts : List TermD) : Prop := ∀ p q, ts[p]? = some q → W.cell? ⟨b, off + p * 3, none⟩ = some (.int .i64 q.1) ∧ W.cell? ⟨b, off + p * 3 + 1, none⟩ = some (.string q.2.1) ∧ W.cell? ⟨b, off + p * 3 + 2, none⟩ = some (.string q.2.2)
theorem RowT.below {W W' : World} {b off : Nat} {ts : List TermD} (h : RowT W b off ts) (k : Below W.heap.size W W') : RowT W' b off ts := fun p q e =>
  ⟨cell_below k (h p q e).1, cell_below k (h p q e).2.1, cell_below k (h p q e).2.2⟩

end Go.Proofs.YtcikjgeanjnffaaGreatDoor

/-
  THE CONTRACTS OF ntriples.Parse, One.
-/

namespace Go.Proofs.YtcikjgeanjnffaaGreatDoor
open Go.RowKit
open Utf Term Lex
set_option linter.unusedVariables false
set_option linter.unusedSimpArgs false

abbrev Hrp (n : Nat) : Prop := 1 < n ∧ 0 < n ∧ 4 < n
theorem Hrp.le {n m : Nat} (h : Hrp n) (k : n ≤ m) : Hrp m := ⟨by have := h.1; omega, by have := h.2.1; omega, by have := h.2.2; omega⟩

end Go.Proofs.YtcikjgeanjnffaaGreatDoor

/-
  PLAIN MATHEMATICS: two documents behind each other are one, of both.
-/

namespace Go.Proofs.YtcikjgeanjnffaaGreatDoor
open Go.RowKit
open Utf Term Lex
set_option linter.unusedVariables false

def Took3.shift (d : Nat) : Took3 → Took3
  | .no l => .no (l.map (shiftS d))
  | .yes ts l => .yes ts (l.map (shiftS d))
def Stm.shift (d : Nat) : Stm → Stm
  | .no l => .no (l.map (shiftS d))
  | .yes t l => .yes t (l.map (shiftS d))
def Par.shift (d : Nat) : Par → Par
  | .no l => .no (l.map (shiftS d))
  | .yes ts => .yes ts
end Go.Proofs.YtcikjgeanjnffaaGreatDoor

/-
  PLAIN MATHEMATICS: the text of what was read is not long.
-/

namespace Go.Proofs.YtcikjgeanjnffaaGreatDoor
open Go.RowKit
open Utf Term Lex
set_option linter.unusedVariables false

def wS (x : Sym) : Nat := x.text.length + x.tt.length
theorem one_weight {l : List Int} (hb : ByteL l) {x : Sym} {n : Nat} (h : one l = .got x n) : wS x ≤ n := by
  have hm := firstT_mem h
  unfold takers at hm
  simp only [List.mem_cons, List.not_mem_nil, or_false] at hm
  rcases hm with hm | hm | hm | hm | hm | hm | hm | hm
  · have hm := hm.symm
    unfold markT at hm
    cases hf : markL.find? (fun m => m.isPrefixOf l) with
    | none => rw [hf] at hm; cases hm
    | some m =>
      rw [hf] at hm
      simp only [Took.got.injEq] at hm
      obtain ⟨rfl, rfl⟩ := hm
      simp [wS, symT]
  · have hm := hm.symm
    unfold nameT at hm
    split at hm
    · split at hm
      · cases hm
      · simp only [Took.got.injEq] at hm
        obtain ⟨rfl, rfl⟩ := hm
        simp only [wS, symT, List.length_take, List.length_nil]
        omega
    · cases hm
  · have hm := hm.symm
    unfold wordT at hm
    split at hm
    · cases hm
    · split at hm
      · simp only [Took.got.injEq] at hm
        obtain ⟨rfl, rfl⟩ := hm
        simp only [wS, symT, List.length_take, List.length_nil]
        omega
      · cases hm
  · have hm := hm.symm
    unfold varT at hm
    split at hm
    · split at hm
      · simp only [Took.got.injEq] at hm
        obtain ⟨rfl, rfl⟩ := hm
        simp only [wS, symT, List.length_take, List.length_nil]
        omega
      · cases hm
    · cases hm
  · have hm := hm.symm
    unfold quotedT at hm
    split at hm
    · split at hm
      · cases hm
      · rename_i t k hd
        simp only [Took.got.injEq] at hm
        obtain ⟨rfl, rfl⟩ := hm
        have h1 := den_good (Nat.le_refl _) (hb.drop 1) hd
        simp only [wS, symT, List.length_nil]
        omega
    · cases hm
  · have hm := hm.symm
    unfold iriT at hm
    split at hm
    · split at hm
      · cases hm
      · rename_i t k hd
        split at hm
        · simp only [Took.got.injEq] at hm
          obtain ⟨rfl, rfl⟩ := hm
          have h1 := den_good (Nat.le_refl _) (hb.drop 1) hd
          simp only [wS, List.length_nil]
          omega
        · cases hm
    · cases hm
  · have hm := hm.symm
    unfold blankT at hm
    split at hm
    · split at hm
      · simp only [Took.got.injEq] at hm
        obtain ⟨rfl, rfl⟩ := hm
        simp only [wS, List.length_take, List.length_nil]
        omega
      · cases hm
    · cases hm
  · have hm := hm.symm
    unfold langT at hm
    split at hm
    · split at hm
      · simp only [Took.got.injEq] at hm
        obtain ⟨rfl, rfl⟩ := hm
        simp only [wS, symT, List.length_take, List.length_nil]
        omega
      · cases hm
    · cases hm
theorem S_size (l : List Int) : (S l).size = l.length := strOfNums_size l
end Go.Proofs.YtcikjgeanjnffaaGreatDoor

