/-
  WHAT THE PROOF STANDS ON, a part of it: TermTag.
-/
import Derived.Test.YtlkiigoblkfkpaaGreatDoorC19
import Derived.LoopTactic
import Derived.Lib.SplitLaws
import Derived.Laws.Rows
/-
  THE CONTRACT OF isTag.
-/

namespace Go.Proofs.YtlkiigoblkfkpaaGreatDoor
open Go.RowKit
open Utf Term

namespace Term
/-- The parts between the dashes: the first one of small letters, the others of small letters and digits; none is empty. -/
def partP (first : Bool) : Int → Bool := if first then small else smallDigit
def partsOK : Bool → List (List Int) → Bool
  | _, [] => true
  | f, p :: ps => decide (0 < p.length) && eachB (partP f) p && partsOK false ps
theorem partsOK_snoc : ∀ (f : Bool) (a : List (List Int)) (p : List Int), partsOK f (a ++ [p]) = (partsOK f a && (decide (0 < p.length) && eachB (partP (f && a.isEmpty)) p))
  | f, [], p => by simp [partsOK]
  | f, q :: a, p => by
    rw [List.cons_append, partsOK, partsOK_snoc false a p, partsOK]
    simp [Bool.and_assoc]
theorem partsOK_prefix : ∀ (f : Bool) (a b : List (List Int)), partsOK f a = false → partsOK f (a ++ b) = false
  | f, [], b, h => by cases h
  | f, q :: a, b, h => by
    rw [List.cons_append, partsOK]
    rw [partsOK] at h
    cases e : (decide (0 < q.length) && eachB (partP f) q) with
    | false => rfl
    | true =>
      rw [e, Bool.true_and] at h
      rw [Bool.true_and]
      exact partsOK_prefix false a b h
abbrev dash : ByteArray := ⟨#[45]⟩
def pieces (s : ByteArray) : List ByteArray := Lib.splitB dash 0 (Lib.countB s dash) s
def isTagS (s : ByteArray) : Bool := decide (s.size ≤ 35) && partsOK true ((pieces s).map bs)
theorem pieces_length (s : ByteArray) : (pieces s).length = Lib.countB s dash + 1 := Lib.splitB_all dash (by decide) 0 _ s rfl
end Term

theorem splitB_size (sep : ByteArray) : ∀ (k : Nat) (s p : ByteArray), p ∈ Lib.splitB sep 0 k s → p.size ≤ s.size
  | 0, s, p, h => by
    simp [Lib.splitB] at h
    rw [h]
    exact Nat.le_refl _
  | k + 1, s, p, h => by
    unfold Lib.splitB at h
    split at h
    · simp at h; rw [h]; exact Nat.le_refl _
    · rcases List.mem_cons.1 h with rfl | h
      · simp; omega
      · have := splitB_size sep k _ p h
        simp at this
        omega
theorem take_step {α : Type} (l : List α) (k : Nat) (h : k < l.length) : l.take (k + 1) = l.take k ++ [l[k]] := List.take_succ_eq_append_getElem h

set_option maxRecDepth 100000 in
set_option maxHeartbeats 4000000 in
theorem isTag_short (s : ByteArray) (h35 : s.size ≤ 35) (m : Int) (w : World) (hm : w.cell? ⟨0, 0, none⟩ = some (.int .i64 m)) (hz : ∀ p ∈ pieces s, p.size ≤ 35) :
    Calls Tryz.prog 95 #[.string s] w fun e W' => e = .returned (.bool (partsOK true ((pieces s).map bs))) ∧ Below w.heap.size w W' := by
  have CS := Tryz.strings_Split s dash m w (by omega) hm (by decide)
  have hlen := pieces_length s
  have hcnt := Lib.countB_le dash (by decide) s.size s (Nat.le_refl _)
  rw [← hlen] at CS
  have hw0 : ∀ k (h : k < (pieces s).length), (w.alloc (.cells ((pieces s).map Value.string).toArray 9)).cell? ⟨w.heap.size, k, none⟩ = some (.string (pieces s)[k]) := by
    intro k h
    rw [World.cell?_alloc_at _ _ _ _ rfl]
    simp [h]
  have hB0 : Below w.heap.size w (w.alloc (.cells ((pieces s).map Value.string).toArray 9)) := (Below.refl _ w).alloc (Nat.le_refl _) _
  have hsz0 : (w.alloc (.cells ((pieces s).map Value.string).toArray 9)).heap.size = w.heap.size + 1 := by simp
  have CS' : Calls Tryz.prog 108 #[.string s, .string dash] w fun e w' => e = .returned (.slice (some ⟨w.heap.size, 0, none⟩) (pieces s).length (pieces s).length) ∧ w' = w.alloc (.cells ((pieces s).map Value.string).toArray 9) := CS
  have hL : (pieces s).length ≤ 36 := by omega
  generalize hps : pieces s = ps at *
  generalize hw1 : w.alloc (.cells (ps.map Value.string).toArray 9) = w1 at *
  have HH := Lib.hid hw0
  have HC := Lib.hid CS'
  have HZ := Lib.hid hz
  have HS := Lib.hid hsz0
  clear hm hps hw1 hlen CS CS' hw0 hz hsz0
  have hd35 : decide ((35 : Int) < s.size) = false := by simp; omega
  go_enter Tryz.func95, Tryz.ntmps95
  go_wp2_with (go_at_call 108; refine HC.out.mono ?_; rintro e w' ⟨rfl, rfl⟩)
  go_loopw [3, 12] (fun v i wr => ∃ (k K : Nat), k ≤ ps.length ∧ i = .int .i64 k ∧ v = .func (.func K) #[] #[] ∧ Tells K (partP (decide (k = 0))) ∧ partsOK true ((ps.take k).map bs) = true ∧ Below (w.heap.size + 1) w' wr)
    (fun _ i _ => ps.length - (intOf i).toNat)
  case atStart => exact ⟨0, _, Nat.zero_le _, rfl, rfl, tells_small, rfl, Below.refl _ _⟩
  case round =>
    obtain ⟨k, K, hk, rfl, rfl, hT, hok, hBw⟩ := hrel
    have HT := Lib.hid hT
    have HO := Lib.hid hok
    clear hT hok
    have hwr : w.heap.size + 1 ≤ wr.heap.size := by have := hBw.size; have := HS.out; omega
    have hBr : Below w.heap.size w wr := hB0.trans (hBw.mono (by omega))
    by_cases hlt : k < ps.length
    · have hcell : wr.cell? ⟨w.heap.size, k, none⟩ = some (.string ps[k]) := (hBw.cell (p := ⟨w.heap.size, k, none⟩) (by simp)).trans (HH.out k hlt)
      have hz := HZ.out ps[k] (List.getElem_mem hlt)
      have HP : Hid (partsOK true ((ps.take (k + 1)).map bs) = (decide (0 < ps[k].size) && eachB (partP (decide (k = 0))) (bs ps[k]))) := by
        refine Lib.hid ?_
        rw [take_step ps k hlt, List.map_append, List.map_cons, List.map_nil, partsOK_snoc, HO.out, Bool.true_and, bs_length]
        have : (true && ((ps.take k).map bs).isEmpty) = decide (k = 0) := by
          cases k with
          | zero => rfl
          | succ k =>
            cases ps with
            | nil => simp at hlt
            | cons _ _ => rfl
        rw [this]
      have HF : Hid (partsOK true ((ps.take (k + 1)).map bs) = false → partsOK true (ps.map bs) = false) := by
        intro h
        have e := partsOK_prefix true ((ps.take (k + 1)).map bs) ((ps.drop (k + 1)).map bs) h
        rwa [← List.map_append, List.take_append_drop] at e
      generalize hpk : ps[k] = p at *
      clear hpk
      have C := each_any K _ HT.out p (by omega) wr
      by_cases h0 : 0 < p.size
      · have hne : p.toList.isEmpty = false := nonempty h0
        cases hv : eachB (partP (decide (k = 0))) (bs p) with
        | true =>
          rw [hv] at C HP
          have HC2 := Lib.hid C
          clear C hv
          go_wp2_with (go_at_call 103; refine HC2.out.mono ?_; rintro e w2 ⟨rfl, hB2⟩)
          go_roundw
          case rel => exact ⟨k + 1, 109, by omega, by go_num, rfl, tells_smallDigit, by rw [HP.out]; simpa using h0, hBw.trans (hB2.mono hwr)⟩
          case measure => simp [intOf]; omega
        | false =>
          rw [hv] at C HP
          have HC2 := Lib.hid C
          clear C hv
          go_wp2_with (go_at_call 103; refine HC2.out.mono ?_; rintro e w2 ⟨rfl, hB2⟩)
          go_ret
          refine ⟨ret_bool (HF.out (by rw [HP.out]; simp)).symm, hBr.trans (hB2.mono hBr.size)⟩
      · obtain rfl := empty_of p (by omega)
        clear C
        have he : ByteArray.empty.toList.isEmpty = true := by rw [← decide_eq_emptyBytes]; simp
        go_wp2
        go_ret
        refine ⟨ret_bool (HF.out (by rw [HP.out]; rfl)).symm, hBr⟩
    · obtain rfl : k = ps.length := by omega
      go_wp2
      go_ret
      rw [List.take_length] at HO
      exact ⟨ret_bool HO.out.symm, hBr⟩

theorem isTag_any (s : ByteArray) (hs : s.size ≤ 9223372036854775807) (m : Int) (w : World) (hm : w.cell? ⟨0, 0, none⟩ = some (.int .i64 m)) :
    Calls Tryz.prog 95 #[.string s] w fun e W' => e = .returned (.bool (isTagS s)) ∧ Below w.heap.size w W' := by
  by_cases h : s.size ≤ 35
  · have e : isTagS s = partsOK true ((pieces s).map bs) := by unfold isTagS; simp [h]
    rw [e]
    exact isTag_short s h m w hm (fun p hp => Nat.le_trans (splitB_size dash _ s p hp) h)
  · have e : isTagS s = false := by unfold isTagS; simp [h]
    rw [e]
    have hd35 : decide ((35 : Int) < s.size) = true := by simp; omega
    clear hm
    go_enter Tryz.func95, Tryz.ntmps95
    go_wp2
    go_ret
    exact ⟨rfl, Below.refl _ _⟩
end Go.Proofs.YtlkiigoblkfkpaaGreatDoor

