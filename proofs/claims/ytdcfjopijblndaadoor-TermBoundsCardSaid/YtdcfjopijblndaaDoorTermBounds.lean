/-
  TermBounds: THE WALK.
-/
import Derived.Test.YtdcfjopijblndaaDoorTermKnown
namespace Go.Proofs.YtdcfjopijblndaaDoor
open Go.RowKit
open Utf Term
set_option linter.unusedVariables false

namespace Term
def repS (E : ByteArray) : Nat → ByteArray
  | 0 => ⟨#[]⟩
  | n + 1 => repS E n ++ E
theorem repS_size (E : ByteArray) : ∀ n, (repS E n).size = n * E.size
  | 0 => by rw [repS, Nat.zero_mul]; rfl
  | n + 1 => by rw [repS, ByteArray.size_append, repS_size E n, Nat.succ_mul]
end Term
theorem bs_rep (E : ByteArray) (r : Int) (h : bs E = enc r) : ∀ n, bs (repS E n) = encs (List.replicate n r)
  | 0 => rfl
  | n + 1 => by
    rw [repS, bs_app, bs_rep E r h n, h, List.replicate_succ', encs_append, encs_one]

set_option maxHeartbeats 1000000 in
theorem often_any (r : Int) (E : ByteArray) (hE : Utf8.encode r = E) (n : Nat) (hn : n ≤ 100000) (h4 : E.size ≤ 4) (w : World) :
    Calls Tryd.prog 32 #[.int .i32 r, .int .i64 (n : Nat)] w fun e w' => e = .returned (.string (repS E n)) ∧ w = w' := by
  have hc := run_encode r
  rw [hE] at hc
  clear hE
  go_enter Tryd.func32, Tryd.ntmps32
  go_wp2
  go_loop [5, 6] (fun s i => ∃ k : Nat, k ≤ n ∧ i = .int .i64 k ∧ s = .string (repS E k)) (fun _ i => n - (intOf i).toNat)
  case atStart => exact ⟨0, Nat.zero_le _, rfl, rfl⟩
  case round =>
    obtain ⟨k, hk, rfl, rfl⟩ := hrel
    have hz := repS_size E k
    have hz2 : (repS E k).size ≤ 400000 := by rw [hz]; exact Nat.le_trans (Nat.mul_le_mul hk h4) (by omega)
    have HS : Hid (repS E (k + 1) = repS E k ++ E) := Lib.hid rfl
    clear hz
    generalize hS : repS E k = S at *
    have HQ := Lib.hid hS
    clear hS
    by_cases hlt : k < n
    · go_wp2
      go_round
      case rel => exact ⟨k + 1, by omega, by go_num, by rw [HS.out]⟩
      case measure => simp [intOf]; omega
    · obtain rfl : k = n := by omega
      go_wp2
      go_ret
      exact ⟨ret_str HQ.out.symm, rfl⟩

namespace Term
theorem mayS_1 (t x : ByteArray) : mayS 1 t x = (noExtra x && isIRIB (bs t)) := rfl
theorem mayS_2 (t x : ByteArray) : mayS 2 t x = (noExtra x && isBlankB (bs t)) := rfl
theorem mayS_3 (t x : ByteArray) : mayS 3 t x = (noExtra x && isValueB (bs t)) := rfl
theorem mayS_5 (t x : ByteArray) : mayS 5 t x = (isTypeB (bs x) && isValueB (bs t)) := rfl
abbrev iriA : ByteArray := repS ⟨#[97]⟩ 1000
abbrev textE : ByteArray := repS ⟨#[195, 169]⟩ 2000
theorem encs_ascii : ∀ n, encs (List.replicate n 97) = List.replicate n 97
  | 0 => rfl
  | n + 1 => by rw [List.replicate_succ, encs_cons, encs_ascii n]; rfl
theorem bs_a (n : Nat) : bs (repS ⟨#[97]⟩ n) = List.replicate n 97 := by rw [bs_rep _ 97 (by decide), encs_ascii]
theorem valid_a (n : Nat) (hn : n ≤ 1000000) : valid (List.replicate n 97) = true :=
  valid_ascii (by rw [List.length_replicate]; omega) (fun c hc => by rw [List.eq_of_mem_replicate hc]; decide)
theorem iri_a (n : Nat) (h0 : 0 < n) (hn : n ≤ 1000) : isIRIB (List.replicate n 97) = true := by
  unfold isIRIB
  rw [eachB_eq iriC_high (by rw [List.length_replicate]; omega), valid_a n (by omega), List.length_replicate, List.all_replicate]
  have h2 : iriC 97 = true := by decide
  simp [h0, hn, h2]
theorem may_i1 : mayS 1 iriA ⟨#[]⟩ = true := by
  rw [mayS_1, bs_a, iri_a 1000 (by decide) (by decide)]
  rfl
theorem may_i5 : mayS 5 ⟨#[]⟩ iriA = true := by
  rw [mayS_5, bs_a]
  unfold isTypeB
  rw [iri_a 1000 (by decide) (by decide)]
  have : decide (List.replicate 1000 (97 : Int) = xsd) = false := by
    rw [decide_eq_false_iff_not]
    intro h
    have := congrArg List.length h
    rw [List.length_replicate] at this
    exact absurd this (by decide)
  rw [this]
  decide +kernel
theorem may_t3 : mayS 3 textE ⟨#[]⟩ = true := by
  rw [mayS_3]
  have hv : valid (bs textE) = true := (valid_iff (by rw [bs_length, repS_size]; decide)).2 ⟨_, fun c hc => by rw [List.eq_of_mem_replicate hc]; decide, bs_rep _ 233 (by decide) 2000⟩
  unfold isValueB
  rw [hv, bs_length, repS_size]
  decide
theorem may_tag : mayS 4 ⟨#[]⟩ ⟨#[97, 98, 99, 100, 101, 102, 103, 104, 105, 106, 107, 108, 109, 110, 111, 112, 113, 114, 115, 116, 117, 118, 119, 120, 121, 122, 45, 49, 50, 51, 52, 53, 54, 55, 56]⟩ = true := by decide +kernel
theorem may_tag1 : mayS 4 ⟨#[]⟩ ⟨#[97, 98, 99, 100, 101, 102, 103, 104, 105, 106, 107, 108, 109, 110, 111, 112, 113, 114, 115, 116, 117, 118, 119, 120, 121, 122, 45, 49, 50, 51, 52, 53, 54, 55, 56, 49]⟩ = false := by decide +kernel
theorem take_a (k : Nat) (hk : k ≤ 1000) : (repS ⟨#[97]⟩ 1000).extract 0 k = repS ⟨#[97]⟩ k := by
  apply bs_inj
  rw [bs_extract, bs_a, bs_a, List.drop_zero, Nat.sub_zero, List.take_replicate]
  congr 1
  omega
theorem blank_a (n : Nat) (h0 : 0 < n) (hn : n ≤ 1000) : isBlankB (List.replicate n 97) = decide (n ≤ 64) := by
  unfold isBlankB
  rw [eachB_eq letterDigit_high (by rw [List.length_replicate]; omega), valid_a n (by omega), List.length_replicate, List.all_replicate]
  cases n with
  | zero => omega
  | succ n =>
    have h1 : letter ((List.replicate (n + 1) (97 : Int)).headD 0) = true := by rw [List.replicate_succ]; show letter 97 = true; decide
    have h2 : letterDigit 97 = true := by decide
    rw [h1]
    simp [h2]
theorem may_b64 : mayS 2 ((repS ⟨#[97]⟩ 1000).extract 0 64) ⟨#[]⟩ = true := by
  rw [mayS_2, take_a 64 (by decide), bs_a, blank_a 64 (by decide) (by decide)]
  rfl
theorem may_b65 : mayS 2 ((repS ⟨#[97]⟩ 1000).extract 0 65) ⟨#[]⟩ = false := by
  rw [mayS_2, take_a 65 (by decide), bs_a, blank_a 65 (by decide) (by decide)]
  rfl
theorem may_i1001 : mayS 1 (iriA ++ ⟨#[97]⟩) ⟨#[]⟩ = false := by
  rw [mayS_1]
  unfold isIRIB
  have hl : (bs (iriA ++ ⟨#[97]⟩)).length = 1001 := by rw [bs_app, bs_a, List.length_append, List.length_replicate, bs_length, show (⟨#[97]⟩ : ByteArray).size = 1 from rfl]
  rw [hl]
  have : decide (1001 ≤ 1000) = false := by decide
  rw [this, Bool.and_false, Bool.false_and, Bool.and_false]
theorem may_long (t x : ByteArray) (h : 4000 < t.size) : mayS 3 t x = false := by
  rw [mayS_3]
  unfold isValueB
  rw [bs_length, decide_eq_false (by omega), Bool.false_and, Bool.and_false]
theorem size_t : textE.size = 4000 := by
  have h2 : (⟨#[195, 169]⟩ : ByteArray).size = 2 := rfl
  have h3 := repS_size ⟨#[195, 169]⟩ 2000
  rw [h2] at h3
  omega
theorem may_t4001 : mayS 3 (textE ++ ⟨#[97]⟩) ⟨#[]⟩ = false :=
  may_long _ _ (by rw [ByteArray.size_append, size_t, show (⟨#[97]⟩ : ByteArray).size = 1 from rfl]; omega)
theorem may_xsd : mayS 5 ⟨#[]⟩ ⟨#[104, 116, 116, 112, 58, 47, 47, 119, 119, 119, 46, 119, 51, 46, 111, 114, 103, 47, 50, 48, 48, 49, 47, 88, 77, 76, 83, 99, 104, 101, 109, 97, 35, 115, 116, 114, 105, 110, 103]⟩ = false := by decide +kernel
theorem may_e1 : mayS 1 ⟨#[]⟩ ⟨#[]⟩ = false := by decide +kernel
theorem may_e4 : mayS 4 ⟨#[]⟩ ⟨#[]⟩ = false := by decide +kernel
end Term

theorem below_chain {w a b : World} (h : Below w.heap.size w a) (k : Below a.heap.size a b) : Below w.heap.size w b := h.trans (k.mono h.size)
/-- A term of which it is known whether it may be. -/
theorem may_known {k : Int} {t x : ByteArray} {v : Bool} (h : mayS k t x = v) (ht : t.size ≤ 1000000000000) (hx : x.size ≤ 1000000000000) (m : Int) (W : World) (hm : W.cell? ⟨0, 0, none⟩ = some (.int .i64 m)) :
    Calls Tryd.prog 12 #[termV k t x] W fun e w' => e = .returned (.bool v) ∧ Below W.heap.size W w' := by rw [← h]; exact may_term k t x ht hx m W hm

/-- May answers v, where the library's variable is an integer. -/
def Answer (m k : Int) (t x : ByteArray) (v : Bool) : Prop := ∀ W : World, W.cell? ⟨0, 0, none⟩ = some (.int .i64 m) → Calls Tryd.prog 12 #[termV k t x] W fun e w' => e = .returned (.bool v) ∧ Below W.heap.size W w'

set_option maxRecDepth 100000 in
set_option maxHeartbeats 1000000 in
theorem bounds_steps (m : Int) (w : World) (hm : w.cell? ⟨0, 0, none⟩ = some (.int .i64 m)) (I T B64 B65 I1 T1 : ByteArray)
    (O1 : ∀ W, Calls Tryd.prog 32 #[.int .i32 97, .int .i64 1000] W fun e w' => e = .returned (.string I) ∧ W = w')
    (O2 : ∀ W, Calls Tryd.prog 32 #[.int .i32 233, .int .i64 2000] W fun e w' => e = .returned (.string T) ∧ W = w')
    (S64 : ∀ W, (Instr.slice 9 (.string I) none (some (.int .i64 64)) none).run Tryd.prog W = .ok (.string B64) W)
    (S65 : ∀ W, (Instr.slice 9 (.string I) none (some (.int .i64 65)) none).run Tryd.prog W = .ok (.string B65) W)
    (A1 : ∀ W, (Op.stringOp .add I ⟨#[97]⟩).run Tryd.prog W = .ok (.string I1) W)
    (A2 : ∀ W, (Op.stringOp .add T ⟨#[97]⟩).run Tryd.prog W = .ok (.string T1) W)
    (M0 : Answer m 1 I ⟨#[]⟩ true)
    (M1 : Answer m 3 T ⟨#[]⟩ true)
    (M2 : Answer m 4 ⟨#[]⟩ ⟨#[97, 98, 99, 100, 101, 102, 103, 104, 105, 106, 107, 108, 109, 110, 111, 112, 113, 114, 115, 116, 117, 118, 119, 120, 121, 122, 45, 49, 50, 51, 52, 53, 54, 55, 56]⟩ true)
    (M3 : Answer m 2 B64 ⟨#[]⟩ true)
    (M4 : Answer m 5 ⟨#[]⟩ I true)
    (M5 : Answer m 1 I1 ⟨#[]⟩ false)
    (M6 : Answer m 3 T1 ⟨#[]⟩ false)
    (M7 : Answer m 4 ⟨#[]⟩ ⟨#[97, 98, 99, 100, 101, 102, 103, 104, 105, 106, 107, 108, 109, 110, 111, 112, 113, 114, 115, 116, 117, 118, 119, 120, 121, 122, 45, 49, 50, 51, 52, 53, 54, 55, 56, 49]⟩ false)
    (M8 : Answer m 2 B65 ⟨#[]⟩ false)
    (M9 : Answer m 5 ⟨#[]⟩ ⟨#[104, 116, 116, 112, 58, 47, 47, 119, 119, 119, 46, 119, 51, 46, 111, 114, 103, 47, 50, 48, 48, 49, 47, 88, 77, 76, 83, 99, 104, 101, 109, 97, 35, 115, 116, 114, 105, 110, 103]⟩ false)
    (M10 : Answer m 1 ⟨#[]⟩ ⟨#[]⟩ false)
    (M11 : Answer m 4 ⟨#[]⟩ ⟨#[]⟩ false)
    : Calls Tryd.prog 7 #[] w fun e w' => e = .returned (.bool true) ∧ Below w.heap.size w w' := by
  go_enter Tryd.func7, Tryd.ntmps7
  go_wp2_with fail
  refine (O1 _).mono ?_
  rintro e w' ⟨rfl, rfl⟩
  go_wp2_with fail
  refine (O2 _).mono ?_
  rintro e w' ⟨rfl, rfl⟩
  go_wp2_with fail
  refine (M0 _ hm).mono ?_
  rintro e w1 ⟨rfl, hB1⟩
  have hm1 : w1.cell? ⟨0, 0, none⟩ = some (.int .i64 m) := cell_kept2 hB1 hm
  clear M0
  go_wp2_with fail
  refine (M1 _ hm1).mono ?_
  rintro e w2 ⟨rfl, hB2⟩
  have hm2 : w2.cell? ⟨0, 0, none⟩ = some (.int .i64 m) := cell_kept2 hB2 hm1
  clear M1
  go_wp2_with fail
  refine (M2 _ hm2).mono ?_
  rintro e w3 ⟨rfl, hB3⟩
  have hm3 : w3.cell? ⟨0, 0, none⟩ = some (.int .i64 m) := cell_kept2 hB3 hm2
  clear M2
  go_wp2_with fail
  refine (M3 _ hm3).mono ?_
  rintro e w4 ⟨rfl, hB4⟩
  have hm4 : w4.cell? ⟨0, 0, none⟩ = some (.int .i64 m) := cell_kept2 hB4 hm3
  clear M3
  go_wp2_with fail
  refine (M4 _ hm4).mono ?_
  rintro e w5 ⟨rfl, hB5⟩
  have hm5 : w5.cell? ⟨0, 0, none⟩ = some (.int .i64 m) := cell_kept2 hB5 hm4
  clear M4
  go_wp2_with fail
  refine (M5 _ hm5).mono ?_
  rintro e w6 ⟨rfl, hB6⟩
  have hm6 : w6.cell? ⟨0, 0, none⟩ = some (.int .i64 m) := cell_kept2 hB6 hm5
  clear M5
  go_wp2_with fail
  refine (M6 _ hm6).mono ?_
  rintro e w7 ⟨rfl, hB7⟩
  have hm7 : w7.cell? ⟨0, 0, none⟩ = some (.int .i64 m) := cell_kept2 hB7 hm6
  clear M6
  go_wp2_with fail
  refine (M7 _ hm7).mono ?_
  rintro e w8 ⟨rfl, hB8⟩
  have hm8 : w8.cell? ⟨0, 0, none⟩ = some (.int .i64 m) := cell_kept2 hB8 hm7
  clear M7
  go_wp2_with fail
  refine (M8 _ hm8).mono ?_
  rintro e w9 ⟨rfl, hB9⟩
  have hm9 : w9.cell? ⟨0, 0, none⟩ = some (.int .i64 m) := cell_kept2 hB9 hm8
  clear M8
  go_wp2_with fail
  refine (M9 _ hm9).mono ?_
  rintro e w10 ⟨rfl, hB10⟩
  have hm10 : w10.cell? ⟨0, 0, none⟩ = some (.int .i64 m) := cell_kept2 hB10 hm9
  clear M9
  go_wp2_with fail
  refine (M10 _ hm10).mono ?_
  rintro e w11 ⟨rfl, hB11⟩
  have hm11 : w11.cell? ⟨0, 0, none⟩ = some (.int .i64 m) := cell_kept2 hB11 hm10
  clear M10
  go_wp2_with fail
  refine (M11 _ hm11).mono ?_
  rintro e w12 ⟨rfl, hB12⟩
  have hm12 : w12.cell? ⟨0, 0, none⟩ = some (.int .i64 m) := cell_kept2 hB12 hm11
  clear M11
  go_wp2_with fail
  refine (known2_any m _ hm12).mono ?_
  rintro e w13 ⟨rfl, hB13⟩
  go_wp2
  go_ret
  refine ⟨rfl, ?_⟩
  have c1 := hB1
  have c2 := below_chain c1 hB2
  have c3 := below_chain c2 hB3
  have c4 := below_chain c3 hB4
  have c5 := below_chain c4 hB5
  have c6 := below_chain c5 hB6
  have c7 := below_chain c6 hB7
  have c8 := below_chain c7 hB8
  have c9 := below_chain c8 hB9
  have c10 := below_chain c9 hB10
  have c11 := below_chain c10 hB11
  have c12 := below_chain c11 hB12
  have c13 := below_chain c12 hB13
  exact c13

theorem size_i : iriA.size = 1000 := by
  have h3 := repS_size ⟨#[97]⟩ 1000
  rw [show (⟨#[97]⟩ : ByteArray).size = 1 from rfl] at h3
  omega
theorem small_lit (s : ByteArray) (n : Nat) (h : s.size = n) (hn : n ≤ 5000) : s.size ≤ 1000000000000 := by omega
theorem answer_of {k : Int} {t x : ByteArray} {v : Bool} (m : Int) (h : mayS k t x = v) (ht : t.size ≤ 1000000000000) (hx : x.size ≤ 1000000000000) : Answer m k t x v := fun W hW => may_known h ht hx m W hW
theorem small_i : iriA.size ≤ 1000000000000 := small_lit _ _ size_i (by decide)
theorem small_t : textE.size ≤ 1000000000000 := small_lit _ _ size_t (by decide)
theorem small_e : (⟨#[]⟩ : ByteArray).size ≤ 1000000000000 := by decide
theorem small_cut (k : Nat) : ((repS ⟨#[97]⟩ 1000).extract 0 k).size ≤ 1000000000000 := by
  have h : (repS ⟨#[97]⟩ 1000).size = 1000 := size_i
  rw [ByteArray.size_extract]
  omega
theorem small_i1 : (iriA ++ ⟨#[97]⟩).size ≤ 1000000000000 := by rw [ByteArray.size_append, size_i, show (⟨#[97]⟩ : ByteArray).size = 1 from rfl]; omega
theorem small_t1 : (textE ++ ⟨#[97]⟩).size ≤ 1000000000000 := by rw [ByteArray.size_append, size_t, show (⟨#[97]⟩ : ByteArray).size = 1 from rfl]; omega
theorem add_run (a b : ByteArray) (n : Nat) (ha : a.size = n) (hb : b.size ≤ 10) (hn : n ≤ 10000) (W : World) : (Op.stringOp .add a b).run Tryd.prog W = .ok (.string (a ++ b)) W := run_string_add_sum W _ _ (by omega)
theorem often_at (r : Int) (E : ByteArray) (hE : Utf8.encode r = E) (n : Nat) (hn : n ≤ 100000) (h4 : E.size ≤ 4) (i : Int) (hi : i = (n : Int)) (w : World) :
    Calls Tryd.prog 32 #[.int .i32 r, .int .i64 i] w fun e w' => e = .returned (.string (repS E n)) ∧ w = w' := by
  subst hi; exact often_any r E hE n hn h4 w
theorem cut_run (k : Nat) (hk : k ≤ 1000) (i : Int) (hi : i = k) (W : World) : (Instr.slice 9 (.string iriA) none (some (.int .i64 i)) none).run Tryd.prog W = .ok (.string ((repS ⟨#[97]⟩ 1000).extract 0 k)) W := by
  rw [run_slice_string_to_if W 9 iriA .i64 i Tryd.underlying9, if_pos ⟨by omega, by rw [size_i]; omega⟩, show i.toNat = k by omega]

set_option maxRecDepth 100000 in
theorem termBounds_walk (m : Int) (w : World) (hm : w.cell? ⟨0, 0, none⟩ = some (.int .i64 m)) : Calls Tryd.prog 7 #[] w fun e w' => e = .returned (.bool true) ∧ Below w.heap.size w w' :=
  bounds_steps m w hm iriA textE ((repS ⟨#[97]⟩ 1000).extract 0 64) ((repS ⟨#[97]⟩ 1000).extract 0 65) (iriA ++ ⟨#[97]⟩) (textE ++ ⟨#[97]⟩)
    (fun W => often_at 97 ⟨#[97]⟩ (by decide) 1000 (by decide) (by decide) 1000 (by omega) W)
    (fun W => often_at 233 ⟨#[195, 169]⟩ (by decide) 2000 (by decide) (by decide) 2000 (by omega) W)
    (fun W => cut_run 64 (by decide) 64 (by omega) W) (fun W => cut_run 65 (by decide) 65 (by omega) W)
    (add_run iriA ⟨#[97]⟩ 1000 size_i (by decide) (by decide)) (add_run textE ⟨#[97]⟩ 4000 size_t (by decide) (by decide))
    (by as_aux_lemma => exact answer_of m may_i1 small_i small_e) (by as_aux_lemma => exact answer_of m may_t3 small_t small_e) (by as_aux_lemma => exact answer_of m may_tag small_e (by decide)) (by as_aux_lemma => exact answer_of m may_b64 (small_cut 64) small_e) (by as_aux_lemma => exact answer_of m may_i5 small_e small_i) (by as_aux_lemma => exact answer_of m may_i1001 small_i1 small_e) (by as_aux_lemma => exact answer_of m may_t4001 small_t1 small_e) (by as_aux_lemma => exact answer_of m may_tag1 small_e (by decide)) (by as_aux_lemma => exact answer_of m may_b65 (small_cut 65) small_e) (by as_aux_lemma => exact answer_of m may_xsd small_e (by decide)) (by as_aux_lemma => exact answer_of m may_e1 small_e small_e) (by as_aux_lemma => exact answer_of m may_e4 small_e small_e)
end Go.Proofs.YtdcfjopijblndaaDoor
