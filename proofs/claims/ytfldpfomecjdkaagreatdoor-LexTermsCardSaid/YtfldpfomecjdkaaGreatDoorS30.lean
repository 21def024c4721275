/-
  WHAT THE PROOF STANDS ON, a part of it: LexKnown2.
-/
import Derived.Test.YtfldpfomecjdkaaGreatDoorS26
import Derived.Test.YtfldpfomecjdkaaGreatDoorS29


/-
  CONTRACTS OF Mark, Word, sameLetters, the law's num AND known.
-/
namespace Go.Proofs.YtfldpfomecjdkaaGreatDoor
open Go.RowKit
open Utf Term Lex
set_option linter.unusedVariables false
set_option linter.unusedSimpArgs false

def markB (k : Int) (t m : List Int) : Bool := (k == 8) && decide (t = m)
theorem lexMarkIs_any (k : Int) (t : ByteArray) (tk : Int) (tt te : ByteArray) (p : Int) (m : ByteArray) (w : World) :
    Calls Tryz.prog 12 #[.agg (symC k t tk tt te p), .string m] w fun e w' => e = .returned (.bool (markB k (bs t) (bs m))) ∧ Below w.heap.size w w' := by
  have HS := Lib.hid (str_beq t m)
  have HB := Lib.hid (below_lex w (.cells (symC k t tk tt te p) 43))
  cases e8 : (k == 8) with
  | true =>
    have HV : Hid (markB k (bs t) (bs m) = (t.toList == m.toList)) := Lib.hid (by unfold markB; rw [e8, HS.out, Bool.true_and])
    rw [HV.out]
    go_enter Tryz.func12, Tryz.ntmps12
    go_wp2
    go_ret
    exact ⟨rfl, HB.out⟩
  | false =>
    have HV : Hid (markB k (bs t) (bs m) = false) := Lib.hid (by unfold markB; rw [e8, Bool.false_and])
    rw [HV.out]
    go_enter Tryz.func12, Tryz.ntmps12
    go_wp2
    go_ret
    exact ⟨rfl, HB.out⟩

def sameL (a b : List Int) : Bool := decide (a.map toS = b.map toS)
theorem sameL_step {a b : List Int} {k : Nat} {x y : Int} (hx : a[k]? = some x) (hy : b[k]? = some y) (h : (a.take k).map toS = (b.take k).map toS) (e : toS x = toS y) : (a.take (k + 1)).map toS = (b.take (k + 1)).map toS := by
  rw [List.take_add_one, List.take_add_one, hx, hy, List.map_append, List.map_append, h]
  simp [e]
theorem sameL_no {a b : List Int} {k : Nat} {x y : Int} (hx : a[k]? = some x) (hy : b[k]? = some y) (e : toS x ≠ toS y) : sameL a b = false := by
  unfold sameL
  refine decide_eq_false (fun h => e ?_)
  have := congrArg (fun l => l[k]?) h
  simpa [hx, hy] using this

set_option maxRecDepth 100000 in
set_option maxHeartbeats 4000000 in
theorem sameLetters_any (a b : ByteArray) (hs : a.size ≤ 1000000000) (w : World) : Calls Tryz.prog 32 #[.string a, .string b] w fun e w' => e = .returned (.bool (sameL (bs a) (bs b))) ∧ Below w.heap.size w w' := by
  obtain ⟨V, hV⟩ : ∃ V, V = sameL (bs a) (bs b) := ⟨_, rfl⟩
  rw [← hV]
  have HV := Lib.hid hV
  clear hV
  by_cases hl : a.size = b.size
  · have e0 : ((a.size : Int) != (b.size : Int)) = false := by simp [hl]
    have HL := Lib.hid hl
    have hle : a.size ≤ b.size := by omega
    clear hl
    go_enter Tryz.func32, Tryz.ntmps32
    go_wp2
    go_loopw [13] (fun i wr => ∃ k : Nat, k ≤ a.size ∧ i = .int .i64 k ∧ ((bs a).take k).map toS = ((bs b).take k).map toS ∧ Below w.heap.size w wr) (fun i _ => a.size - (intOf i).toNat)
    case atStart => exact ⟨0, by omega, rfl, rfl, Below.refl _ _⟩
    case round =>
      obtain ⟨k, hk, rfl, hso, hB⟩ := hrel
      have HSo := Lib.hid hso
      have HB := Lib.hid hB
      clear hso hB
      by_cases hlt : k < a.size
      · have hlb : k < b.size := by omega
        have HA := Lib.hid (bs_get a k hlt)
        have HBb := Lib.hid (bs_get b k hlb)
        have i0 : (0 : Int) ≤ (k : Int) := by omega
        have i1 : (k : Int) < (a.size : Int) := by omega
        have i2 : (k : Int) < (b.size : Int) := by omega
        by_cases he : toS (a[k].toNat : Int) = toS (b[k].toNat : Int)
        · have HN := Lib.hid (sameL_step HA.out HBb.out HSo.out he)
          have e1 : (toS (a[k].toNat : Int) != toS (b[k].toNat : Int)) = false := by simp [he]
          clear he
          go_wp2_with fail
          go_quiet ((go_at_call 63; exact Calls.quiet_of_same ((toSmall_any _ (byte_bd _) _).mono fun e w' h => ⟨h.1, h.2.symm⟩)))
          go_wp2
          go_roundw
          case rel => exact ⟨k + 1, by omega, by go_num, HN.out, HB.out.trans (lex_drewN _ _ _)⟩
          case measure => simp [intOf]; omega
        · have HN : Hid (V = false) := Lib.hid (by rw [HV.out]; exact sameL_no HA.out HBb.out he)
          have e1 : (toS (a[k].toNat : Int) != toS (b[k].toNat : Int)) = true := by simp [he]
          clear he
          go_wp2_with fail
          go_quiet ((go_at_call 63; exact Calls.quiet_of_same ((toSmall_any _ (byte_bd _) _).mono fun e w' h => ⟨h.1, h.2.symm⟩)))
          go_wp2
          go_ret
          exact ⟨ret_bool HN.out.symm, HB.out.trans (lex_drewN _ _ _)⟩
      · obtain rfl : k = a.size := by omega
        have HN : Hid (V = true) := Lib.hid (by
          rw [HV.out]
          unfold sameL
          have h := HSo.out
          rw [List.take_of_length_le (by rw [bs_length]; exact Nat.le_refl _), List.take_of_length_le (by rw [bs_length]; have := HL.out; omega)] at h
          exact decide_eq_true h)
        go_wp2
        go_ret
        exact ⟨ret_bool HN.out.symm, HB.out⟩
  · have e0 : ((a.size : Int) != (b.size : Int)) = true := by simp; omega
    have HN : Hid (V = false) := Lib.hid (by
      rw [HV.out]
      unfold sameL
      refine decide_eq_false (fun h => hl ?_)
      have := congrArg List.length h
      simpa [bs_length] using this)
    clear hl
    go_enter Tryz.func32, Tryz.ntmps32
    go_wp2
    go_ret
    exact ⟨ret_bool HN.out.symm, Below.refl _ _⟩

def wordB (k : Int) (t m : List Int) : Bool := (k == 6) && sameL t m
theorem lexWordIs_any (k : Int) (t : ByteArray) (ht : t.size ≤ 1000000000) (tk : Int) (tt te : ByteArray) (p : Int) (m : ByteArray) (w : World) :
    Calls Tryz.prog 14 #[.agg (symC k t tk tt te p), .string m] w fun e w' => e = .returned (.bool (wordB k (bs t) (bs m))) ∧ Below w.heap.size w w' := by
  have HC := Lib.hid (sameLetters_any t m ht (w.alloc (.cells (symC k t tk tt te p) 43)))
  have HB := Lib.hid (below_lex w (.cells (symC k t tk tt te p) 43))
  cases e6 : (k == 6) with
  | true =>
    have HV : Hid (wordB k (bs t) (bs m) = sameL (bs t) (bs m)) := Lib.hid (by unfold wordB; rw [e6, Bool.true_and])
    rw [HV.out]
    go_enter Tryz.func14, Tryz.ntmps14
    go_wp2_with (go_at_call 32; refine HC.out.mono ?_; rintro e w1 ⟨rfl, hB1⟩)
    go_ret
    exact ⟨rfl, below_next HB.out hB1⟩
  | false =>
    have HV : Hid (wordB k (bs t) (bs m) = false) := Lib.hid (by unfold wordB; rw [e6, Bool.false_and])
    rw [HV.out]
    go_enter Tryz.func14, Tryz.ntmps14
    go_wp2
    go_ret
    exact ⟨rfl, HB.out⟩

theorem num4_any (n : Int) (w : World) : Calls Tryz.prog 11 #[.int .i64 n] w fun e w' => e = .returned (.int .i64 n) ∧ w = w' := by
  go_enter Tryz.func11, Tryz.ntmps11
  go_wp2
  go_ret
  exact ⟨rfl, rfl⟩

/-- The chapter's two rows. -/
def rowA : List Sym := [⟨1, [], 1, [97], [], 0⟩, ⟨8, [58, 45], 0, [], [], 3⟩, ⟨5, [120], 0, [], [], 5⟩, ⟨8, [33, 61], 0, [], [], 8⟩, ⟨3, [98], 0, [], [], 11⟩, ⟨4, [101, 110], 0, [], [], 14⟩, ⟨8, [46], 0, [], [], 18⟩]
def rowB : List Sym := [⟨7, [97, 58, 98, 45, 99], 0, [], [], 0⟩, ⟨6, [97], 0, [], [], 6⟩, ⟨7, [58], 0, [], [], 8⟩]
theorem row_a : allL [60, 97, 62, 58, 45, 63, 120, 32, 33, 61, 32, 34, 98, 34, 64, 101, 110, 32, 46] = (rowA, 19) := by decide +kernel
theorem row_b : allL [97, 58, 98, 45, 99, 32, 97, 32, 58] = (rowB, 9) := by decide +kernel
theorem wf_a : wfL [60, 97, 62, 58, 45, 63, 120, 32, 33, 61, 32, 34, 98, 34, 64, 101, 110, 32, 46] = 19 := by decide +kernel
theorem wf_b : wfL [97, 58, 98, 45, 99, 32, 97, 32, 58] = 9 := by decide +kernel
abbrev textA : ByteArray := ⟨#[60, 97, 62, 58, 45, 63, 120, 32, 33, 61, 32, 34, 98, 34, 64, 101, 110, 32, 46]⟩
abbrev textB : ByteArray := ⟨#[97, 58, 98, 45, 99, 32, 97, 32, 58]⟩
theorem bs_textA : bs textA = [60, 97, 62, 58, 45, 63, 120, 32, 33, 61, 32, 34, 98, 34, 64, 101, 110, 32, 46] := by decide +kernel
theorem bs_textB : bs textB = [97, 58, 98, 45, 99, 32, 97, 32, 58] := by decide +kernel

/-- A list of symbols in memory. -/
def SymRow (W : World) (g : Nat) (L : List Sym) : Prop := ∀ (j : Nat) (u : Value), (flatS L)[j]? = some u → W.cell? ⟨g, j, none⟩ = some u
theorem SymRow.below {w u : World} {g : Nat} {L : List Sym} (h : SymRow w g L) (k : Below w.heap.size w u) : SymRow u g L := fun j v hv => cell_kept_b k (h j v hv)
theorem symRow_of {w : World} {B : Nat} {v : Value} {L : List Sym} (h : w.ownsRow B 43 6 v L.length (flatS L)) (hn : 0 < L.length) : ∃ g cap, v = .slice (some ⟨g, 0, none⟩) L.length cap ∧ B ≤ g ∧ SymRow w g L := by
  have h' := h
  obtain ⟨hl, ⟨h0, hx⟩ | ⟨g, cap, cur, rfl, hg, _⟩⟩ := h
  · omega
  · refine ⟨g, cap, rfl, hg, fun j u hu => ?_⟩
    have := h'.cells (g := g) rfl j u hu
    have hadd : (⟨g, 0, none⟩ : Addr).add j = ⟨g, j, none⟩ := by unfold Addr.add; split <;> simp_all
    rwa [hadd] at this

theorem all_a (w : World) (hv : LexEnv w) (hrp : 0 < w.heap.size ∧ 1 < w.heap.size ∧ 2 < w.heap.size) :
    Calls Tryz.prog 28 #[.string textA] w fun e w' => ∃ g cap, e = .returned (.tuple #[.slice (some ⟨g, 0, none⟩) 7 cap, .int .i64 0, .int .i64 0]) ∧ SymRow w' g rowA ∧ Below w.heap.size w w' := by
  refine (all_any lexEscape_any textA (by decide) w hv hrp).mono ?_
  intro e w' h
  unfold AllOut at h
  rw [bs_textA, row_a, wf_a, if_neg (by decide), if_neg (by decide), if_neg (by decide)] at h
  obtain ⟨hB, v, rfl, ho⟩ := h
  obtain ⟨g, cap, rfl, _, hr⟩ := symRow_of ho (by decide)
  exact ⟨g, cap, rfl, hr, hB⟩
theorem all_b (w : World) (hv : LexEnv w) (hrp : 0 < w.heap.size ∧ 1 < w.heap.size ∧ 2 < w.heap.size) :
    Calls Tryz.prog 28 #[.string textB] w fun e w' => ∃ g cap, e = .returned (.tuple #[.slice (some ⟨g, 0, none⟩) 3 cap, .int .i64 0, .int .i64 0]) ∧ SymRow w' g rowB ∧ Below w.heap.size w w' := by
  refine (all_any lexEscape_any textB (by decide) w hv hrp).mono ?_
  intro e w' h
  unfold AllOut at h
  rw [bs_textB, row_b, wf_b, if_neg (by decide), if_neg (by decide), if_neg (by decide)] at h
  obtain ⟨hB, v, rfl, ho⟩ := h
  obtain ⟨g, cap, rfl, _, hr⟩ := symRow_of ho (by decide)
  exact ⟨g, cap, rfl, hr, hB⟩
theorem markIs_at (k : Int) (t : ByteArray) (tk : Int) (tt te : ByteArray) (p : Int) (m : ByteArray) (v : Bool) (hv : markB k (bs t) (bs m) = v) (w : World) :
    Calls Tryz.prog 12 #[.agg #[.int .i64 k, .string t, .int .i64 tk, .string tt, .string te, .int .i64 p], .string m] w fun e w' => e = .returned (.bool v) ∧ Below w.heap.size w w' := by
  subst hv
  exact lexMarkIs_any k t tk tt te p m w
theorem wordIs_at (k : Int) (t : ByteArray) (ht : t.size ≤ 1000000000) (tk : Int) (tt te : ByteArray) (p : Int) (m : ByteArray) (v : Bool) (hv : wordB k (bs t) (bs m) = v) (w : World) :
    Calls Tryz.prog 14 #[.agg #[.int .i64 k, .string t, .int .i64 tk, .string tt, .string te, .int .i64 p], .string m] w fun e w' => e = .returned (.bool v) ∧ Below w.heap.size w w' := by
  subst hv
  exact lexWordIs_any k t ht tk tt te p m w

end Go.Proofs.YtfldpfomecjdkaaGreatDoor

/-
  THE CONTRACT OF the law's known.
-/
namespace Go.Proofs.YtfldpfomecjdkaaGreatDoor
open Go.RowKit
open Utf Term Lex
set_option linter.unusedVariables false
set_option linter.unusedSimpArgs false

set_option maxRecDepth 100000 in
set_option maxHeartbeats 8000000 in
theorem known4_any (w : World) (hv : LexEnv w) (hrp : 0 < w.heap.size ∧ 1 < w.heap.size ∧ 2 < w.heap.size) :
    Calls Tryz.prog 7 #[] w fun e w' => e = .returned (.bool true) ∧ Below w.heap.size w w' := by
  have HA := Lib.hid (all_a w hv hrp)
  have Hv := Lib.hid hv
  have Hrp := Lib.hid hrp
  clear hv hrp
  go_enter Tryz.func7, Tryz.ntmps7
  go_wp2_with fail
  refine HA.out.mono ?_
  rintro e w1 ⟨g, cg, rfl, hr1, hB1⟩
  have HB := Lib.hid (all_b w1 (Hv.out.below hB1) ⟨Nat.lt_of_lt_of_le Hrp.out.1 hB1.size, Nat.lt_of_lt_of_le Hrp.out.2.1 hB1.size, Nat.lt_of_lt_of_le Hrp.out.2.2 hB1.size⟩)
  have HR1 := Lib.hid hr1
  have HB1 := Lib.hid hB1
  clear hr1 hB1 HA
  go_wp2_with fail
  refine HB.out.mono ?_
  rintro e w2 ⟨h, ch, rfl, hr2, hB2⟩
  have HA2 := Lib.hid (HR1.out.below hB2)
  have HR2 := Lib.hid hr2
  have HB2 := Lib.hid (below_next HB1.out hB2)
  clear hr2 hB2 HB HR1
  have a0 := HA2.out 0 (.int .i64 1) (by kernel_rfl)
  have a6 := HA2.out 6 (.int .i64 8) (by kernel_rfl)
  have a7 := HA2.out 7 (.string ⟨#[58, 45]⟩) (by kernel_rfl)
  have a8 := HA2.out 8 (.int .i64 0) (by kernel_rfl)
  have a9 := HA2.out 9 (.string ⟨#[]⟩) (by kernel_rfl)
  have a10 := HA2.out 10 (.string ⟨#[]⟩) (by kernel_rfl)
  have a11 := HA2.out 11 (.int .i64 3) (by kernel_rfl)
  have a13 := HA2.out 13 (.string ⟨#[120]⟩) (by kernel_rfl)
  have a18 := HA2.out 18 (.int .i64 8) (by kernel_rfl)
  have a19 := HA2.out 19 (.string ⟨#[33, 61]⟩) (by kernel_rfl)
  have a20 := HA2.out 20 (.int .i64 0) (by kernel_rfl)
  have a21 := HA2.out 21 (.string ⟨#[]⟩) (by kernel_rfl)
  have a22 := HA2.out 22 (.string ⟨#[]⟩) (by kernel_rfl)
  have a23 := HA2.out 23 (.int .i64 8) (by kernel_rfl)
  have a25 := HA2.out 25 (.string ⟨#[98]⟩) (by kernel_rfl)
  have a31 := HA2.out 31 (.string ⟨#[101, 110]⟩) (by kernel_rfl)
  have a36 := HA2.out 36 (.int .i64 8) (by kernel_rfl)
  have a37 := HA2.out 37 (.string ⟨#[46]⟩) (by kernel_rfl)
  have a38 := HA2.out 38 (.int .i64 0) (by kernel_rfl)
  have a39 := HA2.out 39 (.string ⟨#[]⟩) (by kernel_rfl)
  have a40 := HA2.out 40 (.string ⟨#[]⟩) (by kernel_rfl)
  have a41 := HA2.out 41 (.int .i64 18) (by kernel_rfl)
  have b0 := HR2.out 0 (.int .i64 7) (by kernel_rfl)
  have b1 := HR2.out 1 (.string ⟨#[97, 58, 98, 45, 99]⟩) (by kernel_rfl)
  have b6 := HR2.out 6 (.int .i64 6) (by kernel_rfl)
  have b7 := HR2.out 7 (.string ⟨#[97]⟩) (by kernel_rfl)
  have b8 := HR2.out 8 (.int .i64 0) (by kernel_rfl)
  have b9 := HR2.out 9 (.string ⟨#[]⟩) (by kernel_rfl)
  have b10 := HR2.out 10 (.string ⟨#[]⟩) (by kernel_rfl)
  have b11 := HR2.out 11 (.int .i64 6) (by kernel_rfl)
  have b13 := HR2.out 13 (.string ⟨#[58]⟩) (by kernel_rfl)
  go_wp2_with (go_at_call 11; refine (num4_any _ _).mono ?_; rintro e w' ⟨rfl, rfl⟩)
  refine (markIs_at _ _ _ _ _ _ _ true (by decide +kernel) _).mono ?_
  rintro e w3 ⟨rfl, hB3⟩
  clear a0 a6 a7 a8 a9 a10 a11 a13 a18 a19 a20 a21 a22 a23 a25 a31 a36 a37 a38 a39 a40 a41 b0 b1 b6 b7 b8 b9 b10 b11 b13
  have HA3 := Lib.hid (HA2.out.below hB3)
  have HR3 := Lib.hid (HR2.out.below hB3)
  have HB3 := Lib.hid (below_next HB2.out hB3)
  clear hB3
  have a13 := HA3.out 13 (.string ⟨#[120]⟩) (by kernel_rfl)
  have a18 := HA3.out 18 (.int .i64 8) (by kernel_rfl)
  have a19 := HA3.out 19 (.string ⟨#[33, 61]⟩) (by kernel_rfl)
  have a20 := HA3.out 20 (.int .i64 0) (by kernel_rfl)
  have a21 := HA3.out 21 (.string ⟨#[]⟩) (by kernel_rfl)
  have a22 := HA3.out 22 (.string ⟨#[]⟩) (by kernel_rfl)
  have a23 := HA3.out 23 (.int .i64 8) (by kernel_rfl)
  have a25 := HA3.out 25 (.string ⟨#[98]⟩) (by kernel_rfl)
  have a31 := HA3.out 31 (.string ⟨#[101, 110]⟩) (by kernel_rfl)
  have a36 := HA3.out 36 (.int .i64 8) (by kernel_rfl)
  have a37 := HA3.out 37 (.string ⟨#[46]⟩) (by kernel_rfl)
  have a38 := HA3.out 38 (.int .i64 0) (by kernel_rfl)
  have a39 := HA3.out 39 (.string ⟨#[]⟩) (by kernel_rfl)
  have a40 := HA3.out 40 (.string ⟨#[]⟩) (by kernel_rfl)
  have a41 := HA3.out 41 (.int .i64 18) (by kernel_rfl)
  have b0 := HR3.out 0 (.int .i64 7) (by kernel_rfl)
  have b1 := HR3.out 1 (.string ⟨#[97, 58, 98, 45, 99]⟩) (by kernel_rfl)
  have b6 := HR3.out 6 (.int .i64 6) (by kernel_rfl)
  have b7 := HR3.out 7 (.string ⟨#[97]⟩) (by kernel_rfl)
  have b8 := HR3.out 8 (.int .i64 0) (by kernel_rfl)
  have b9 := HR3.out 9 (.string ⟨#[]⟩) (by kernel_rfl)
  have b10 := HR3.out 10 (.string ⟨#[]⟩) (by kernel_rfl)
  have b11 := HR3.out 11 (.int .i64 6) (by kernel_rfl)
  have b13 := HR3.out 13 (.string ⟨#[58]⟩) (by kernel_rfl)
  go_wp2_with fail
  refine (markIs_at _ _ _ _ _ _ _ true (by decide +kernel) _).mono ?_
  rintro e w4 ⟨rfl, hB4⟩
  clear a13 a18 a19 a20 a21 a22 a23 a25 a31 a36 a37 a38 a39 a40 a41 b0 b1 b6 b7 b8 b9 b10 b11 b13
  have HA4 := Lib.hid (HA3.out.below hB4)
  have HR4 := Lib.hid (HR3.out.below hB4)
  have HB4 := Lib.hid (below_next HB3.out hB4)
  clear hB4
  have a25 := HA4.out 25 (.string ⟨#[98]⟩) (by kernel_rfl)
  have a31 := HA4.out 31 (.string ⟨#[101, 110]⟩) (by kernel_rfl)
  have a36 := HA4.out 36 (.int .i64 8) (by kernel_rfl)
  have a37 := HA4.out 37 (.string ⟨#[46]⟩) (by kernel_rfl)
  have a38 := HA4.out 38 (.int .i64 0) (by kernel_rfl)
  have a39 := HA4.out 39 (.string ⟨#[]⟩) (by kernel_rfl)
  have a40 := HA4.out 40 (.string ⟨#[]⟩) (by kernel_rfl)
  have a41 := HA4.out 41 (.int .i64 18) (by kernel_rfl)
  have b0 := HR4.out 0 (.int .i64 7) (by kernel_rfl)
  have b1 := HR4.out 1 (.string ⟨#[97, 58, 98, 45, 99]⟩) (by kernel_rfl)
  have b6 := HR4.out 6 (.int .i64 6) (by kernel_rfl)
  have b7 := HR4.out 7 (.string ⟨#[97]⟩) (by kernel_rfl)
  have b8 := HR4.out 8 (.int .i64 0) (by kernel_rfl)
  have b9 := HR4.out 9 (.string ⟨#[]⟩) (by kernel_rfl)
  have b10 := HR4.out 10 (.string ⟨#[]⟩) (by kernel_rfl)
  have b11 := HR4.out 11 (.int .i64 6) (by kernel_rfl)
  have b13 := HR4.out 13 (.string ⟨#[58]⟩) (by kernel_rfl)
  go_wp2_with fail
  refine (markIs_at _ _ _ _ _ _ _ true (by decide +kernel) _).mono ?_
  rintro e w5 ⟨rfl, hB5⟩
  clear a25 a31 a36 a37 a38 a39 a40 a41 b0 b1 b6 b7 b8 b9 b10 b11 b13
  have HR5 := Lib.hid (HR4.out.below hB5)
  have HB5 := Lib.hid (below_next HB4.out hB5)
  clear hB5
  have b0 := HR5.out 0 (.int .i64 7) (by kernel_rfl)
  have b1 := HR5.out 1 (.string ⟨#[97, 58, 98, 45, 99]⟩) (by kernel_rfl)
  have b6 := HR5.out 6 (.int .i64 6) (by kernel_rfl)
  have b7 := HR5.out 7 (.string ⟨#[97]⟩) (by kernel_rfl)
  have b8 := HR5.out 8 (.int .i64 0) (by kernel_rfl)
  have b9 := HR5.out 9 (.string ⟨#[]⟩) (by kernel_rfl)
  have b10 := HR5.out 10 (.string ⟨#[]⟩) (by kernel_rfl)
  have b11 := HR5.out 11 (.int .i64 6) (by kernel_rfl)
  have b13 := HR5.out 13 (.string ⟨#[58]⟩) (by kernel_rfl)
  go_wp2_with fail
  refine (wordIs_at _ _ (by decide) _ _ _ _ _ true (by decide +kernel) _).mono ?_
  rintro e w6 ⟨rfl, hB6⟩
  clear b0 b1 b6 b7 b8 b9 b10 b11 b13
  have HR6 := Lib.hid (HR5.out.below hB6)
  have HB6 := Lib.hid (below_next HB5.out hB6)
  clear hB6
  have b13 := HR6.out 13 (.string ⟨#[58]⟩) (by kernel_rfl)
  go_wp2
  go_ret
  exact ⟨rfl, HB6.out⟩
end Go.Proofs.YtfldpfomecjdkaaGreatDoor
