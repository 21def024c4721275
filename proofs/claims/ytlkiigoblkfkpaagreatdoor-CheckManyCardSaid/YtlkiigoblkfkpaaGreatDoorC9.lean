/-
  WHAT THE PROOF STANDS ON, a part of it: UtfBytes, TermD.
-/
import Derived.Test.YtlkiigoblkfkpaaGreatDoorC7
import Derived.Deep.RegionWith
import Derived.Lib.Strings
import Derived.Deep.LoopGhost
/-
  STRINGS AND THEIR BYTES AS NUMBERS.
-/

namespace Go.Proofs.YtlkiigoblkfkpaaGreatDoor
open Go.RowKit
open Utf

theorem bs_inj {s t : ByteArray} (h : bs s = bs t) : s = t := by
  unfold bs at h
  have : s.data.toList = t.data.toList := by
    refine (List.map_inj_right ?_).1 h
    intro a b hab
    exact UInt8.toNat_inj.1 (by omega)
  apply ByteArray.ext
  exact Array.toList_inj.1 this

theorem toList_eq (s : ByteArray) : s.toList = s.data.toList := ByteArray.toList_eq s

/-- Two strings are compared as their bytes. -/
theorem str_beq (s t : ByteArray) : (s.toList == t.toList) = decide (bs s = bs t) := by
  rw [Bool.eq_iff_iff, beq_iff_eq, decide_eq_true_eq]
  constructor
  · intro h
    unfold bs
    rw [← toList_eq, ← toList_eq, h]
  · intro h; rw [bs_inj h]

theorem below_drewN (B : Nat) (w : World) (n : Nat) : Below B w (w.drewN n) := ⟨rfl, rfl, rfl, Nat.le_refl _, fun _ _ => rfl⟩

end Go.Proofs.YtlkiigoblkfkpaaGreatDoor

/-
  TERMS AND TRIPLES AS DATA.
-/

namespace Go.Proofs.YtlkiigoblkfkpaaGreatDoor
open Go.RowKit
open Utf
set_option linter.unusedVariables false

/-- A term's data: its kind, its text, what stands beside. -/
abbrev TermD := Int × ByteArray × ByteArray
abbrev termD (a : TermD) : Value := .agg #[.int .i64 a.1, .string a.2.1, .string a.2.2]
theorem below_new (w : World) (o : Obj) : Below w.heap.size w (w.alloc o) := (Below.refl _ _).alloc (Nat.le_refl _) _
theorem below_step {w u v : World} (h : Below w.heap.size w u) (k : Below u.heap.size u v) : Below w.heap.size w v := h.trans (k.mono h.size)
theorem cell_below {w u : World} {a : Addr} {v : Value} (h : Below w.heap.size w u) (hm : w.cell? a = some v) : u.cell? a = some v := (h.cell (World.block_lt_of_cell? _ _ hm)).trans hm

end Go.Proofs.YtlkiigoblkfkpaaGreatDoor

