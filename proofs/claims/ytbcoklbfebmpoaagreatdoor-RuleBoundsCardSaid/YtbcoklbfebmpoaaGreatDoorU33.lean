/-
  WHAT THE PROOF STANDS ON, a part of it: LexKnown2.
-/
import Derived.Test.YtbcoklbfebmpoaaGreatDoorU29
import Derived.Test.YtbcoklbfebmpoaaGreatDoorU32


/-
  CONTRACTS OF Mark, Word, sameLetters, the law's num AND known.
-/
namespace Go.Proofs.YtbcoklbfebmpoaaGreatDoor
open Go.RowKit
open Utf Term Lex
set_option linter.unusedVariables false
set_option linter.unusedSimpArgs false

def markB (k : Int) (t m : List Int) : Bool := (k == 8) && decide (t = m)
theorem lexMarkIs_any (k : Int) (t : ByteArray) (tk : Int) (tt te : ByteArray) (p : Int) (m : ByteArray) (w : World) :
    Calls Tryz.prog 58 #[.agg (symC k t tk tt te p), .string m] w fun e w' => e = .returned (.bool (markB k (bs t) (bs m))) ∧ Below w.heap.size w w' := by
  have HS := Lib.hid (str_beq t m)
  have HB := Lib.hid (below_lex w (.cells (symC k t tk tt te p) 64))
  cases e8 : (k == 8) with
  | true =>
    have HV : Hid (markB k (bs t) (bs m) = (t.toList == m.toList)) := Lib.hid (by unfold markB; rw [e8, HS.out, Bool.true_and])
    rw [HV.out]
    go_enter Tryz.func58, Tryz.ntmps58
    go_wp2
    go_ret
    exact ⟨rfl, HB.out⟩
  | false =>
    have HV : Hid (markB k (bs t) (bs m) = false) := Lib.hid (by unfold markB; rw [e8, Bool.false_and])
    rw [HV.out]
    go_enter Tryz.func58, Tryz.ntmps58
    go_wp2
    go_ret
    exact ⟨rfl, HB.out⟩

def sameL (a b : List Int) : Bool := decide (a.map toS = b.map toS)
theorem sameL_step {a b : List Int} {k : Nat} {x y : Int} (hx : a[k]? = some x) (hy : b[k]? = some y) (h : (a.take k).map toS = (b.take k).map toS) (e : toS x = toS y) : (a.take (k + 1)).map toS = (b.take (k + 1)).map toS := by
  rw [List.take_add_one, List.take_add_one, hx, hy, List.map_append, List.map_append, h]
  simp [e]
theorem sameL_no {a b : List Int} {k : Nat} {x y : Int} (hx : a[k]? = some x) (hy : b[k]? = some y) (e : toS x ≠ toS y) : sameL a b = false := by
  unfold sameL
  refine decide_eq_false (fun h => e ?_)
  have := congrArg (fun l => l[k]?) h
  simpa [hx, hy] using this

set_option maxRecDepth 100000 in
set_option maxHeartbeats 4000000 in
theorem sameLetters_any (a b : ByteArray) (hs : a.size ≤ 1000000000) (w : World) : Calls Tryz.prog 84 #[.string a, .string b] w fun e w' => e = .returned (.bool (sameL (bs a) (bs b))) ∧ Below w.heap.size w w' := by
  obtain ⟨V, hV⟩ : ∃ V, V = sameL (bs a) (bs b) := ⟨_, rfl⟩
  rw [← hV]
  have HV := Lib.hid hV
  clear hV
  by_cases hl : a.size = b.size
  · have e0 : ((a.size : Int) != (b.size : Int)) = false := by simp [hl]
    have HL := Lib.hid hl
    have hle : a.size ≤ b.size := by omega
    clear hl
    go_enter Tryz.func84, Tryz.ntmps84
    go_wp2
    go_loopw [13] (fun i wr => ∃ k : Nat, k ≤ a.size ∧ i = .int .i64 k ∧ ((bs a).take k).map toS = ((bs b).take k).map toS ∧ Below w.heap.size w wr) (fun i _ => a.size - (intOf i).toNat)
    case atStart => exact ⟨0, by omega, rfl, rfl, Below.refl _ _⟩
    case round =>
      obtain ⟨k, hk, rfl, hso, hB⟩ := hrel
      have HSo := Lib.hid hso
      have HB := Lib.hid hB
      clear hso hB
      by_cases hlt : k < a.size
      · have hlb : k < b.size := by omega
        have HA := Lib.hid (bs_get a k hlt)
        have HBb := Lib.hid (bs_get b k hlb)
        have i0 : (0 : Int) ≤ (k : Int) := by omega
        have i1 : (k : Int) < (a.size : Int) := by omega
        have i2 : (k : Int) < (b.size : Int) := by omega
        by_cases he : toS (a[k].toNat : Int) = toS (b[k].toNat : Int)
        · have HN := Lib.hid (sameL_step HA.out HBb.out HSo.out he)
          have e1 : (toS (a[k].toNat : Int) != toS (b[k].toNat : Int)) = false := by simp [he]
          clear he
          go_wp2_with fail
          go_quiet ((go_at_call 120; exact Calls.quiet_of_same ((toSmall_any _ (byte_bd _) _).mono fun e w' h => ⟨h.1, h.2.symm⟩)))
          go_wp2
          go_roundw
          case rel => exact ⟨k + 1, by omega, by go_num, HN.out, HB.out.trans (lex_drewN _ _ _)⟩
          case measure => simp [intOf]; omega
        · have HN : Hid (V = false) := Lib.hid (by rw [HV.out]; exact sameL_no HA.out HBb.out he)
          have e1 : (toS (a[k].toNat : Int) != toS (b[k].toNat : Int)) = true := by simp [he]
          clear he
          go_wp2_with fail
          go_quiet ((go_at_call 120; exact Calls.quiet_of_same ((toSmall_any _ (byte_bd _) _).mono fun e w' h => ⟨h.1, h.2.symm⟩)))
          go_wp2
          go_ret
          exact ⟨ret_bool HN.out.symm, HB.out.trans (lex_drewN _ _ _)⟩
      · obtain rfl : k = a.size := by omega
        have HN : Hid (V = true) := Lib.hid (by
          rw [HV.out]
          unfold sameL
          have h := HSo.out
          rw [List.take_of_length_le (by rw [bs_length]; exact Nat.le_refl _), List.take_of_length_le (by rw [bs_length]; have := HL.out; omega)] at h
          exact decide_eq_true h)
        go_wp2
        go_ret
        exact ⟨ret_bool HN.out.symm, HB.out⟩
  · have e0 : ((a.size : Int) != (b.size : Int)) = true := by simp; omega
    have HN : Hid (V = false) := Lib.hid (by
      rw [HV.out]
      unfold sameL
      refine decide_eq_false (fun h => hl ?_)
      have := congrArg List.length h
      simpa [bs_length] using this)
    clear hl
    go_enter Tryz.func84, Tryz.ntmps84
    go_wp2
    go_ret
    exact ⟨ret_bool HN.out.symm, Below.refl _ _⟩

def wordB (k : Int) (t m : List Int) : Bool := (k == 6) && sameL t m
theorem lexWordIs_any (k : Int) (t : ByteArray) (ht : t.size ≤ 1000000000) (tk : Int) (tt te : ByteArray) (p : Int) (m : ByteArray) (w : World) :
    Calls Tryz.prog 56 #[.agg (symC k t tk tt te p), .string m] w fun e w' => e = .returned (.bool (wordB k (bs t) (bs m))) ∧ Below w.heap.size w w' := by
  have HC := Lib.hid (sameLetters_any t m ht (w.alloc (.cells (symC k t tk tt te p) 64)))
  have HB := Lib.hid (below_lex w (.cells (symC k t tk tt te p) 64))
  cases e6 : (k == 6) with
  | true =>
    have HV : Hid (wordB k (bs t) (bs m) = sameL (bs t) (bs m)) := Lib.hid (by unfold wordB; rw [e6, Bool.true_and])
    rw [HV.out]
    go_enter Tryz.func56, Tryz.ntmps56
    go_wp2_with (go_at_call 84; refine HC.out.mono ?_; rintro e w1 ⟨rfl, hB1⟩)
    go_ret
    exact ⟨rfl, below_next HB.out hB1⟩
  | false =>
    have HV : Hid (wordB k (bs t) (bs m) = false) := Lib.hid (by unfold wordB; rw [e6, Bool.false_and])
    rw [HV.out]
    go_enter Tryz.func56, Tryz.ntmps56
    go_wp2
    go_ret
    exact ⟨rfl, HB.out⟩

/-- A list of symbols in memory. -/
def SymRow (W : World) (g : Nat) (L : List Sym) : Prop := ∀ (j : Nat) (u : Value), (flatS L)[j]? = some u → W.cell? ⟨g, j, none⟩ = some u
theorem SymRow.below {w u : World} {g : Nat} {L : List Sym} (h : SymRow w g L) (k : Below w.heap.size w u) : SymRow u g L := fun j v hv => cell_kept_b k (h j v hv)
theorem markIs_at (k : Int) (t : ByteArray) (tk : Int) (tt te : ByteArray) (p : Int) (m : ByteArray) (v : Bool) (hv : markB k (bs t) (bs m) = v) (w : World) :
    Calls Tryz.prog 58 #[.agg #[.int .i64 k, .string t, .int .i64 tk, .string tt, .string te, .int .i64 p], .string m] w fun e w' => e = .returned (.bool v) ∧ Below w.heap.size w w' := by
  subst hv
  exact lexMarkIs_any k t tk tt te p m w
theorem wordIs_at (k : Int) (t : ByteArray) (ht : t.size ≤ 1000000000) (tk : Int) (tt te : ByteArray) (p : Int) (m : ByteArray) (v : Bool) (hv : wordB k (bs t) (bs m) = v) (w : World) :
    Calls Tryz.prog 56 #[.agg #[.int .i64 k, .string t, .int .i64 tk, .string tt, .string te, .int .i64 p], .string m] w fun e w' => e = .returned (.bool v) ∧ Below w.heap.size w w' := by
  subst hv
  exact lexWordIs_any k t ht tk tt te p m w

end Go.Proofs.YtbcoklbfebmpoaaGreatDoor

/-
  THE CONTRACT OF the law's known.
-/
namespace Go.Proofs.YtbcoklbfebmpoaaGreatDoor
open Go.RowKit
open Utf Term Lex
set_option linter.unusedVariables false
set_option linter.unusedSimpArgs false

end Go.Proofs.YtbcoklbfebmpoaaGreatDoor

