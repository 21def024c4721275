/-
  WHAT THE PROOF STANDS ON, a part of it: UtfBytes, UtfRow, TermD.
-/
import Derived.Test.YtbcoklbfebmpoaaGreatDoorU4
import Derived.Deep.RegionWith
import Derived.Lib.Strings
import Derived.Deep.LoopGhost
/-
  STRINGS AND THEIR BYTES AS NUMBERS.
-/

namespace Go.Proofs.YtbcoklbfebmpoaaGreatDoor
open Go.RowKit
open Utf

theorem bs_extract (s : ByteArray) (a b : Nat) : bs (s.extract a b) = ((bs s).drop a).take (b - a) := by
  unfold bs
  rw [Lib.extract_data, List.map_take, List.map_drop]

theorem bs_inj {s t : ByteArray} (h : bs s = bs t) : s = t := by
  unfold bs at h
  have : s.data.toList = t.data.toList := by
    refine (List.map_inj_right ?_).1 h
    intro a b hab
    exact UInt8.toNat_inj.1 (by omega)
  apply ByteArray.ext
  exact Array.toList_inj.1 this

theorem bs_strOfNums {l : List Int} (hl : ∀ c ∈ l, IsByte c) : bs (strOfNums l) = l := by
  unfold bs
  rw [strOfNums_data, List.map_map]
  conv => rhs; rw [← List.map_id l]
  apply List.map_congr_left
  intro c hc
  have := hl c hc
  unfold IsByte at this
  simp
  omega

theorem toList_eq (s : ByteArray) : s.toList = s.data.toList := ByteArray.toList_eq s

/-- Two strings are compared as their bytes. -/
theorem str_beq (s t : ByteArray) : (s.toList == t.toList) = decide (bs s = bs t) := by
  rw [Bool.eq_iff_iff, beq_iff_eq, decide_eq_true_eq]
  constructor
  · intro h
    unfold bs
    rw [← toList_eq, ← toList_eq, h]
  · intro h; rw [bs_inj h]

theorem bs_getD (s : ByteArray) (k : Nat) (h : k < s.size) : (bs s).getD k 0 = (s[k].toNat : Int) := by
  rw [List.getD_eq_getElem?_getD, bs_get s k h]; rfl

theorem below_drewN (B : Nat) (w : World) (n : Nat) : Below B w (w.drewN n) := ⟨rfl, rfl, rfl, Nat.le_refl _, fun _ _ => rfl⟩

end Go.Proofs.YtbcoklbfebmpoaaGreatDoor

/-
  A ROW OF BYTES as a string.
-/

namespace Go.Proofs.YtbcoklbfebmpoaaGreatDoor
open Go.RowKit
open Utf

/-- A row with elements leads to a block, whose cells they are. -/
theorem owns_some {w : World} {B : Nat} {v : Value} {n : Nat} {xs : List Int} (h : w.ownsRow B 5 1 v n (xs.map (Value.int .u8))) (hn : 0 < n) :
    ∃ g cap, v = .slice (some ⟨g, 0, none⟩) n cap ∧ B ≤ g ∧ g < w.heap.size ∧ xs.length = n ∧ ∀ i, i < n → w.cell? ⟨g, 0 + i, none⟩ = some (.int .u8 (xs.getD i 0)) := by
  have h' := h
  obtain ⟨hl, ⟨_, h0⟩ | ⟨g, cap, cur, rfl, hg, hb, hle, _, hc, ht⟩⟩ := h
  · omega
  · have hxs : xs.length = n := by simpa using hl
    refine ⟨g, cap, rfl, hg, (Array.getElem?_eq_some_iff.1 hb).1, hxs, ?_⟩
    intro i hi
    have := h'.cellAt i (by omega)
    rw [Nat.zero_add, this, List.getElem?_map, List.getElem?_eq_getElem (by omega)]
    simp [hxs, hi]

/-- The row as a string. -/
theorem owns_string {w w' : World} {g n cap : Nat} {xs : List Int} (hx : xs.length = n) (hc : ∀ i, i < n → w.cell? ⟨g, 0 + i, none⟩ = some (.int .u8 (xs.getD i 0))) (hg : g < w.heap.size) (hB : Below w.heap.size w w') :
    (convert 105 9 (.slice (some ⟨g, 0, none⟩) n cap)).run Tryz.prog w' = .ok (.string (strOfNums xs)) w' :=
  run_convert_bytes_arg _ _ 5 Tryz.underlying105 Tryz.underlying5 _ _ _ _ xs hx (fun i hi => (hB.cell (p := ⟨g, 0 + i, none⟩) hg).trans (hc i hi)) _ Tryz.underlying9

/-- A row of bytes that is one's own: nil, or at the head of a block. -/
theorem owns_forms {w : World} {B : Nat} {v : Value} {n : Nat} {xs : List Int} (h : w.ownsRow B 5 1 v n (xs.map (Value.int .u8))) :
    (v = .slice none 0 0 ∧ xs = []) ∨ ∃ g cap, v = .slice (some ⟨g, 0, none⟩) n cap ∧ g < w.heap.size ∧ xs.length = n ∧ ∀ i, i < n → w.cell? ⟨g, 0 + i, none⟩ = some (.int .u8 (xs.getD i 0)) := by
  have h' := h
  obtain ⟨hl, ⟨rfl, rfl⟩ | ⟨g, cap, cur, rfl, hg, hb, hle, _, hc, ht⟩⟩ := h
  · left; exact ⟨rfl, by simpa using hl⟩
  · have hxs : xs.length = n := by simpa using hl
    right
    refine ⟨g, cap, rfl, (Array.getElem?_eq_some_iff.1 hb).1, hxs, ?_⟩
    intro i hi
    have := h'.cellAt i (by omega)
    rw [Nat.zero_add, this, List.getElem?_map, List.getElem?_eq_getElem (by omega)]
    simp [hxs, hi]

theorem nil_string (w : World) : (convert 105 9 (.slice none 0 0)).run Tryz.prog w = .ok (.string (strOfNums [])) w := by
  rw [run_convert_bytes_nil w 105 5 Tryz.underlying105 Tryz.underlying5 _ _ _ Tryz.underlying9]
  rfl

end Go.Proofs.YtbcoklbfebmpoaaGreatDoor

/-
  TERMS AND TRIPLES AS DATA.
-/

namespace Go.Proofs.YtbcoklbfebmpoaaGreatDoor
open Go.RowKit
open Utf
set_option linter.unusedVariables false

/-- A term's data: its kind, its text, what stands beside. -/
abbrev TermD := Int × ByteArray × ByteArray
abbrev termD (a : TermD) : Value := .agg #[.int .i64 a.1, .string a.2.1, .string a.2.2]
theorem below_new (w : World) (o : Obj) : Below w.heap.size w (w.alloc o) := (Below.refl _ _).alloc (Nat.le_refl _) _
theorem below_step {w u v : World} (h : Below w.heap.size w u) (k : Below u.heap.size u v) : Below w.heap.size w v := h.trans (k.mono h.size)
theorem cell_below {w u : World} {a : Addr} {v : Value} (h : Below w.heap.size w u) (hm : w.cell? a = some v) : u.cell? a = some v := (h.cell (World.block_lt_of_cell? _ _ hm)).trans hm

end Go.Proofs.YtbcoklbfebmpoaaGreatDoor

