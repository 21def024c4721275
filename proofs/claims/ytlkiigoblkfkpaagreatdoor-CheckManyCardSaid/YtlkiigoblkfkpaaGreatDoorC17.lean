/-
  WHAT THE PROOF STANDS ON, a part of it: TermLeaf, TermRune.
-/
import Derived.Test.YtlkiigoblkfkpaaGreatDoorC15
import Derived.Test.YtlkiigoblkfkpaaGreatDoorC12
import Derived.Deep.RegionWith
import Derived.RegionTactic
import Derived.ChangeAlike
import Derived.Test.YtlkiigoblkfkpaaGreatDoorC9
import Derived.Laws.RangeString
/-
  CONTRACTS OF THE SMALL FUNCTIONS OF LAYER 2: which runes may stand where; escape.
-/

namespace Go.Proofs.YtlkiigoblkfkpaaGreatDoor
open Go.RowKit
open Utf Term

theorem isSmall_any (r : Int) (w : World) : Calls Tryz.prog 107 #[.int .i64 r] w fun e w' => e = .returned (.bool (small r)) ∧ w = w' := by
  go_enter Tryz.func107, Tryz.ntmps107
  go_wp2
  all_goals
    go_ret
    exact ⟨ret_bool (by unfold small; simp_all <;> omega), rfl⟩
theorem isDigit_any (r : Int) (w : World) : Calls Tryz.prog 115 #[.int .i64 r] w fun e w' => e = .returned (.bool (digit r)) ∧ w = w' := by
  go_enter Tryz.func115, Tryz.ntmps115
  go_wp2
  all_goals
    go_ret
    exact ⟨ret_bool (by unfold digit; simp_all <;> omega), rfl⟩
theorem isSmallOrDigit_any (r : Int) (w : World) : Calls Tryz.prog 109 #[.int .i64 r] w fun e w' => e = .returned (.bool (smallDigit r)) ∧ w = w' := by
  cases hs : small r with
  | true =>
    have H := Lib.hid hs
    have C : Calls Tryz.prog 107 #[.int .i64 r] w fun e w' => e = .returned (.bool true) ∧ w = w' := by rw [← hs]; exact isSmall_any r w
    clear hs
    go_enter Tryz.func109, Tryz.ntmps109
    go_wp2_with (go_at_call 107; refine C.mono ?_; rintro e w' ⟨rfl, rfl⟩)
    go_ret
    exact ⟨ret_bool (by unfold smallDigit; rw [H.out]; rfl), rfl⟩
  | false =>
    have H := Lib.hid hs
    have C : Calls Tryz.prog 107 #[.int .i64 r] w fun e w' => e = .returned (.bool false) ∧ w = w' := by rw [← hs]; exact isSmall_any r w
    clear hs
    go_enter Tryz.func109, Tryz.ntmps109
    go_wp2_with (first | (go_at_call 107; refine C.mono ?_; rintro e w' ⟨rfl, rfl⟩) | (go_at_call 115; refine (isDigit_any r _).mono ?_; rintro e w' ⟨rfl, rfl⟩))
    go_ret
    exact ⟨ret_bool (by unfold smallDigit; rw [H.out]; rfl), rfl⟩
theorem isLetter_any (r : Int) (w : World) : Calls Tryz.prog 105 #[.int .i64 r] w fun e w' => e = .returned (.bool (letter r)) ∧ w = w' := by
  cases hs : small r with
  | true =>
    have H := Lib.hid hs
    have C : Calls Tryz.prog 107 #[.int .i64 r] w fun e w' => e = .returned (.bool true) ∧ w = w' := by rw [← hs]; exact isSmall_any r w
    clear hs
    go_enter Tryz.func105, Tryz.ntmps105
    go_wp2_with (go_at_call 107; refine C.mono ?_; rintro e w' ⟨rfl, rfl⟩)
    all_goals
      go_ret
      exact ⟨ret_bool (by unfold letter; rw [H.out]; rfl), rfl⟩
  | false =>
    have H := Lib.hid hs
    have C : Calls Tryz.prog 107 #[.int .i64 r] w fun e w' => e = .returned (.bool false) ∧ w = w' := by rw [← hs]; exact isSmall_any r w
    clear hs
    go_enter Tryz.func105, Tryz.ntmps105
    go_wp2_with (go_at_call 107; refine C.mono ?_; rintro e w' ⟨rfl, rfl⟩)
    all_goals
      go_ret
      exact ⟨ret_bool (by unfold letter; rw [H.out]; simp_all <;> omega), rfl⟩
theorem isLetterOrDigit_any (r : Int) (w : World) : Calls Tryz.prog 106 #[.int .i64 r] w fun e w' => e = .returned (.bool (letterDigit r)) ∧ w = w' := by
  cases hs : letter r with
  | true =>
    have H := Lib.hid hs
    have C : Calls Tryz.prog 105 #[.int .i64 r] w fun e w' => e = .returned (.bool true) ∧ w = w' := by rw [← hs]; exact isLetter_any r w
    clear hs
    go_enter Tryz.func106, Tryz.ntmps106
    go_wp2_with (go_at_call 105; refine C.mono ?_; rintro e w' ⟨rfl, rfl⟩)
    go_ret
    exact ⟨ret_bool (by unfold letterDigit; rw [H.out]; rfl), rfl⟩
  | false =>
    have H := Lib.hid hs
    have C : Calls Tryz.prog 105 #[.int .i64 r] w fun e w' => e = .returned (.bool false) ∧ w = w' := by rw [← hs]; exact isLetter_any r w
    clear hs
    go_enter Tryz.func106, Tryz.ntmps106
    go_wp2_with (first | (go_at_call 105; refine C.mono ?_; rintro e w' ⟨rfl, rfl⟩) | (go_at_call 115; refine (isDigit_any r _).mono ?_; rintro e w' ⟨rfl, rfl⟩))
    go_ret
    exact ⟨ret_bool (by unfold letterDigit; rw [H.out]; rfl), rfl⟩

namespace Term
end Term
end Go.Proofs.YtlkiigoblkfkpaaGreatDoor

/-
  strings.ContainsRune OF THE RUNES THAT ARE IN NO IRI, AT EVERY RUNE; isOfIRI.
-/

namespace Go.Proofs.YtlkiigoblkfkpaaGreatDoor
open Go.RowKit
open Utf Term

namespace Term
abbrev notS : ByteArray := ⟨#[60, 62, 34, 123, 125, 124, 94, 96, 92]⟩
end Term

theorem quiet_add_same {P : Program} {f : FuncId} {args : Array Value} {w : World} {a n : Nat} {v : Value}
    (h : Calls P f args (w.drewN (a + n)) fun e w' => e = .returned v ∧ w' = w.drewN (a + n)) :
    Calls P f args (w.drewN (a + n)) fun e w'' => e = .returned v ∧ ∃ m, w'' = w.drewN (a + m) :=
  h.mono fun _ _ ⟨he, hm⟩ => ⟨he, n, hm⟩
theorem slice_not (i : Int) (k : Nat) (hi : i = k) (hk : k ≤ 9) (w : World) : (Instr.slice 9 (.string notS) (some (.int .i64 i)) none none).run Tryz.prog w = .ok (.string (notS.extract k 9)) w := by
  rw [run_slice_string_from_if w 9 notS .i64 i Tryz.underlying9, if_pos ⟨by omega, by show i ≤ ((9 : Nat) : Int); omega⟩]
  rw [show i.toNat = k by omega]
  rfl
theorem run_encode (r : Int) (w : World) : (convert 21 9 (.int .i32 r)).run Tryz.prog w = .ok (.string (Utf8.encode r)) w := by kernel_rfl

theorem validRune_may {r : Int} (h : May r) : Lib.validRune r = true := by
  unfold Lib.validRune; unfold May at h; simp; omega

theorem below_iter (w : World) (s : ByteArray) (p : Nat) : Below w.heap.size w (w.iter s p) := (Below.refl _ w).alloc (Nat.le_refl _) _

set_option maxRecDepth 100000 in
set_option maxHeartbeats 1000000 in
theorem indexRune_bad (w : World) : Calls Tryz.prog 121 #[.string notS, .int .i32 65533] w fun e w' => e = .returned (.int .i64 (-1)) ∧ Below w.heap.size w w' := by
  have e0 := fun t => run_next_ascii (P := Tryz.prog) w notS 0 t (by decide) (by decide)
  have e1 := fun t => run_next_ascii (P := Tryz.prog) w notS 1 t (by decide) (by decide)
  have e2 := fun t => run_next_ascii (P := Tryz.prog) w notS 2 t (by decide) (by decide)
  have e3 := fun t => run_next_ascii (P := Tryz.prog) w notS 3 t (by decide) (by decide)
  have e4 := fun t => run_next_ascii (P := Tryz.prog) w notS 4 t (by decide) (by decide)
  have e5 := fun t => run_next_ascii (P := Tryz.prog) w notS 5 t (by decide) (by decide)
  have e6 := fun t => run_next_ascii (P := Tryz.prog) w notS 6 t (by decide) (by decide)
  have e7 := fun t => run_next_ascii (P := Tryz.prog) w notS 7 t (by decide) (by decide)
  have e8 := fun t => run_next_ascii (P := Tryz.prog) w notS 8 t (by decide) (by decide)
  have e9 := fun t => run_next_end (P := Tryz.prog) w notS 9 t (by decide)
  go_enter Tryz.func121, Tryz.ntmps121
  go_wp2
  refine wp_loop_rounds 10 ?_
  iterate 10 (rw [rounds_succ]; go_wp2)
  go_ret
  refine ⟨rfl, ?_⟩
  exact below_iter w notS 9

theorem indexByte_high : ∀ (l : List UInt8) (b : UInt8), 128 ≤ b.toNat → (∀ c ∈ l, c.toNat < 128) → Lib.indexByte l b = -1 := by
  intro l b hb h
  induction l with
  | nil => rfl
  | cons c t ih =>
    have h1 : (c == b) = false := by
      rw [beq_eq_false_iff_ne]
      rintro rfl
      have := h c (by simp)
      omega
    rw [Lib.indexByte, h1, ih (fun d hd => h d (by simp [hd]))]
    rfl
theorem indexByte_not (k : Nat) (W : World) (b : UInt8) (hb : 128 ≤ b.toNat) : Calls Tryz.prog 126 #[.string (notS.extract k 9), .int .u8 (b.toNat : Int)] W fun e w' => e = .returned (.int .i64 (-1)) ∧ w' = W := by
  have h := Tryz.strings_IndexByte (notS.extract k 9) (b.toNat : Int) W
  rw [indexByte_high _ _ (by simpa using hb)] at h
  · exact h
  · intro c hc
    have : ∀ c ∈ notS.data.toList, c.toNat < 128 := by decide
    refine this c ?_
    have e : (notS.extract k 9).data.toList = (notS.data.toList.drop k).take (9 - k) := by simp [List.extract_eq_take_drop]
    rw [e] at hc
    exact List.mem_of_mem_drop (List.mem_of_mem_take hc)

set_option maxRecDepth 100000 in
set_option maxHeartbeats 1000000 in
theorem indexRune_two (r : Int) (w : World) (a b : UInt8) (hb : 128 ≤ b.toNat) (hr : 128 ≤ r) (hm : May r) (h3 : (r == 65533) = false) (he : Utf8.encode r = ⟨#[a, b]⟩) : Calls Tryz.prog 121 #[.string notS, .int .i32 r] w fun e w' => e = .returned (.int .i64 (-1)) ∧ Below w.heap.size w w' := by
  have hc := run_encode r
  rw [he] at hc
  have hv : Calls Tryz.prog 127 #[.int .i32 r] w fun e w' => e = .returned (.bool true) ∧ w' = w := by rw [← validRune_may hm]; exact Tryz.utf8_ValidRune r w
  have d0 : decide (0 ≤ r) = true := by simp; omega
  have d1 : decide (r < 128) = false := by simp; omega
  have h62 : (((notS[1]'(by decide)).toNat : Int) != (((⟨#[a, b]⟩ : ByteArray)[1]'(by show 1 < 2; omega)).toNat : Int)) = true := by show ((62 : Int) != (b.toNat : Int)) = true; simp; omega
  have hI := fun W => indexByte_not 2 W b hb
  have hs := slice_not 2 2 rfl (by decide)
  have hw2 : IntKind.i64.wrap (1 + 1) = 2 := by decide
  clear he hm
  go_enter Tryz.func121, Tryz.ntmps121
  go_wp2_with (go_at_call 127; refine hv.mono ?_; rintro e w' ⟨rfl, rfl⟩)
  go_step3
  go_wp2
  refine wp_loop_rounds 1 ?_
  rw [rounds_succ]
  go_wp2
  go_step3
  go_wp2
  go_quiet (fail)
  go_wp2
  go_quiet ((go_at_call 126; exact quiet_add_same (hI _)))
  go_wp2
  rw [Exit.noGoto_ret]
  go_wp2
  try rw [Exit.noGoto_ret]
  go_ret
  exact ⟨rfl, below_drewN _ _ _⟩

set_option maxRecDepth 100000 in
set_option maxHeartbeats 1000000 in
theorem indexRune_three (r : Int) (w : World) (a b c : UInt8) (hb : 128 ≤ c.toNat) (hr : 128 ≤ r) (hm : May r) (h3 : (r == 65533) = false) (he : Utf8.encode r = ⟨#[a, b, c]⟩) : Calls Tryz.prog 121 #[.string notS, .int .i32 r] w fun e w' => e = .returned (.int .i64 (-1)) ∧ Below w.heap.size w w' := by
  have hc := run_encode r
  rw [he] at hc
  have hv : Calls Tryz.prog 127 #[.int .i32 r] w fun e w' => e = .returned (.bool true) ∧ w' = w := by rw [← validRune_may hm]; exact Tryz.utf8_ValidRune r w
  have d0 : decide (0 ≤ r) = true := by simp; omega
  have d1 : decide (r < 128) = false := by simp; omega
  have h62 : (((notS[2]'(by decide)).toNat : Int) != (((⟨#[a, b, c]⟩ : ByteArray)[2]'(by show 2 < 3; omega)).toNat : Int)) = true := by show ((34 : Int) != (c.toNat : Int)) = true; simp; omega
  have hI := fun W => indexByte_not 3 W c hb
  have hs := slice_not 3 3 rfl (by decide)
  have hw2 : IntKind.i64.wrap (2 + 1) = 3 := by decide
  clear he hm
  go_enter Tryz.func121, Tryz.ntmps121
  go_wp2_with (go_at_call 127; refine hv.mono ?_; rintro e w' ⟨rfl, rfl⟩)
  go_step3
  go_wp2
  refine wp_loop_rounds 1 ?_
  rw [rounds_succ]
  go_wp2
  go_step3
  go_wp2
  go_quiet (fail)
  go_wp2
  go_quiet ((go_at_call 126; exact quiet_add_same (hI _)))
  go_wp2
  rw [Exit.noGoto_ret]
  go_wp2
  try rw [Exit.noGoto_ret]
  go_ret
  exact ⟨rfl, below_drewN _ _ _⟩

set_option maxRecDepth 100000 in
set_option maxHeartbeats 1000000 in
theorem indexRune_four (r : Int) (w : World) (a b c d : UInt8) (hb : 128 ≤ d.toNat) (hr : 128 ≤ r) (hm : May r) (h3 : (r == 65533) = false) (he : Utf8.encode r = ⟨#[a, b, c, d]⟩) : Calls Tryz.prog 121 #[.string notS, .int .i32 r] w fun e w' => e = .returned (.int .i64 (-1)) ∧ Below w.heap.size w w' := by
  have hc := run_encode r
  rw [he] at hc
  have hv : Calls Tryz.prog 127 #[.int .i32 r] w fun e w' => e = .returned (.bool true) ∧ w' = w := by rw [← validRune_may hm]; exact Tryz.utf8_ValidRune r w
  have d0 : decide (0 ≤ r) = true := by simp; omega
  have d1 : decide (r < 128) = false := by simp; omega
  have h62 : (((notS[3]'(by decide)).toNat : Int) != (((⟨#[a, b, c, d]⟩ : ByteArray)[3]'(by show 3 < 4; omega)).toNat : Int)) = true := by show ((123 : Int) != (d.toNat : Int)) = true; simp; omega
  have hI := fun W => indexByte_not 4 W d hb
  have hs := slice_not 4 4 rfl (by decide)
  have hw2 : IntKind.i64.wrap (3 + 1) = 4 := by decide
  clear he hm
  go_enter Tryz.func121, Tryz.ntmps121
  go_wp2_with (go_at_call 127; refine hv.mono ?_; rintro e w' ⟨rfl, rfl⟩)
  go_step3
  go_wp2
  refine wp_loop_rounds 1 ?_
  rw [rounds_succ]
  go_wp2
  go_step3
  go_wp2
  go_quiet (fail)
  go_wp2
  go_quiet ((go_at_call 126; exact quiet_add_same (hI _)))
  go_wp2
  rw [Exit.noGoto_ret]
  go_wp2
  try rw [Exit.noGoto_ret]
  go_ret
  exact ⟨rfl, below_drewN _ _ _⟩

theorem encode_last {r : Int} (hr : 128 ≤ r) (h : May r) : (∃ a b : UInt8, 128 ≤ b.toNat ∧ Utf8.encode r = ⟨#[a, b]⟩) ∨ (∃ a b c : UInt8, 128 ≤ c.toNat ∧ Utf8.encode r = ⟨#[a, b, c]⟩) ∨ (∃ a b c d : UInt8, 128 ≤ d.toNat ∧ Utf8.encode r = ⟨#[a, b, c, d]⟩) := by
  have hv : Utf8.valid r = true := by unfold Utf8.valid; unfold May at h; simp; omega
  have hh : ∀ n : Nat, 128 ≤ (UInt8.ofNat (128 + n % 64)).toNat := by intro n; simp [UInt8.toNat_ofNat']; omega
  unfold Utf8.encode
  simp only [hv, if_true]
  rw [if_neg (by omega)]
  by_cases h2 : r.toNat < 2048
  · rw [if_pos h2]; exact .inl ⟨_, _, hh _, rfl⟩
  · rw [if_neg h2]
    by_cases h3 : r.toNat < 65536
    · rw [if_pos h3]; exact .inr (.inl ⟨_, _, _, hh _, rfl⟩)
    · rw [if_neg h3]; exact .inr (.inr ⟨_, _, _, _, hh _, rfl⟩)

theorem indexRune_high (r : Int) (w : World) (hr : 128 ≤ r) (hm : May r) : Calls Tryz.prog 121 #[.string notS, .int .i32 r] w fun e w' => e = .returned (.int .i64 (-1)) ∧ Below w.heap.size w w' := by
  by_cases h3 : r = 65533
  · subst h3; exact indexRune_bad w
  · have hf : (r == 65533) = false := by simpa using h3
    rcases encode_last hr hm with ⟨a, b, hb, he⟩ | ⟨a, b, c, hb, he⟩ | ⟨a, b, c, d, hb, he⟩
    · exact indexRune_two r w a b hb hr hm hf he
    · exact indexRune_three r w a b c hb hr hm hf he
    · exact indexRune_four r w a b c d hb hr hm hf he

/-- Is a rune in the text of those that are in no IRI? -/
theorem containsRune_any (r : Int) (w : World) (hm : May r) : Calls Tryz.prog 114 #[.string notS, .int .i32 r] w fun e w' => e = .returned (.bool (notIRI.contains r)) ∧ Below w.heap.size w w' := by
  by_cases hr : 128 ≤ r
  · have hn : notIRI.contains r = false := by simp [notIRI]; omega
    have C := indexRune_high r w hr hm
    rw [hn]
    clear hn hm
    go_enter Tryz.func114, Tryz.ntmps114
    go_wp2_with (go_at_call 121; refine C.mono ?_; rintro e w' ⟨rfl, hB⟩)
    go_ret
    exact ⟨rfl, hB⟩
  · refine (Tryz.strings_ContainsRune_ascii notS r w hm.1 (by omega)).mono ?_
    rintro e w' ⟨rfl, rfl⟩
    refine ⟨ret_bool ?_, Below.refl _ _⟩
    obtain ⟨n, rfl⟩ := Int.eq_ofNat_of_zero_le hm.1
    have hd : ∀ n : Fin 128, decide (0 ≤ Lib.indexByte notS.data.toList ((n.val : Int)).toNat.toUInt8) = notIRI.contains (n.val : Int) := by decide +kernel
    exact hd ⟨n, by omega⟩

theorem isOfIRI_any (r : Int) (w : World) (hm : May r) : Calls Tryz.prog 104 #[.int .i64 r] w fun e w' => e = .returned (.bool (iriC r)) ∧ Below w.heap.size w w' := by
  have hw : IntKind.i32.wrap r = r := by have := hm.1; have := hm.2.1; exact IntWalk.i32_in r (by omega)
  have hw2 : wrap32 r = r := IntWalk.wrap32_in r (by have := hm.1; have := hm.2.1; omega)
  have C := fun W => containsRune_any r W hm
  cases hc : notIRI.contains r with
  | true =>
    rw [hc] at C
    have H := Lib.hid hc
    clear hc hm
    by_cases h32 : 32 < r
    · go_enter Tryz.func104, Tryz.ntmps104
      go_wp2_with (go_at_call 114; refine (C _).mono ?_; rintro e w' ⟨rfl, hB⟩)
      go_ret
      exact ⟨ret_bool (by unfold iriC; rw [H.out]; simp), hB⟩
    · have hd : decide (32 < r) = false := by simpa using h32
      go_enter Tryz.func104, Tryz.ntmps104
      go_wp2
      go_ret
      exact ⟨ret_bool (by unfold iriC; rw [H.out]; simp), Below.refl _ _⟩
  | false =>
    rw [hc] at C
    have H := Lib.hid hc
    clear hc hm
    by_cases h32 : 32 < r
    · go_enter Tryz.func104, Tryz.ntmps104
      go_wp2_with (go_at_call 114; refine (C _).mono ?_; rintro e w' ⟨rfl, hB⟩)
      go_ret
      exact ⟨ret_bool (by unfold iriC; rw [H.out]; simpa using h32), hB⟩
    · have hd : decide (32 < r) = false := by simpa using h32
      go_enter Tryz.func104, Tryz.ntmps104
      go_wp2
      go_ret
      exact ⟨ret_bool (by unfold iriC; rw [H.out]; simpa using h32), Below.refl _ _⟩
end Go.Proofs.YtlkiigoblkfkpaaGreatDoor

