/-
  TERMS AND TRIPLES AS DATA.
-/
import Derived.Test.YtbheafpbamkphaaGreatDoorUtfBytes
import Derived.Deep.LoopGhost
namespace Go.Proofs.YtbheafpbamkphaaGreatDoor
open Go.RowKit
open Utf
set_option linter.unusedVariables false

/-- A term's data: its kind, its text, what stands beside. -/
abbrev TermD := Int × ByteArray × ByteArray
abbrev termD (a : TermD) : Value := .agg #[.int .i64 a.1, .string a.2.1, .string a.2.2]
abbrev tripleV (a b c : TermD) : Value := .agg #[.int .i64 a.1, .string a.2.1, .string a.2.2, .int .i64 b.1, .string b.2.1, .string b.2.2, .int .i64 c.1, .string c.2.1, .string c.2.2]
theorem below_new (w : World) (o : Obj) : Below w.heap.size w (w.alloc o) := (Below.refl _ _).alloc (Nat.le_refl _) _
theorem below_step {w u v : World} (h : Below w.heap.size w u) (k : Below u.heap.size u v) : Below w.heap.size w v := h.trans (k.mono h.size)
theorem cell_below {w u : World} {a : Addr} {v : Value} (h : Below w.heap.size w u) (hm : w.cell? a = some v) : u.cell? a = some v := (h.cell (World.block_lt_of_cell? _ _ hm)).trans hm

end Go.Proofs.YtbheafpbamkphaaGreatDoor
