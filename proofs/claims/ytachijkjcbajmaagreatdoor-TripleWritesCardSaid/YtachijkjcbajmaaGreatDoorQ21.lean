/-
  WHAT THE PROOF STANDS ON, a part of it: RefMay.
-/
import Derived.Test.YtachijkjcbajmaaGreatDoorQ18
import Derived.Test.YtachijkjcbajmaaGreatDoorQ6
import Derived.Test.YtachijkjcbajmaaGreatDoorQ10
import Derived.LoopTactic


/-
  CONTRACTS OF THE REFERENCE OF LAYER 2: Valid, in, Letter, Digit, IRI, Word.
-/
namespace Go.Proofs.YtachijkjcbajmaaGreatDoor
open Go.RowKit
open Utf Term
set_option linter.unusedVariables false

theorem refvalid_any (s : ByteArray) (hs : s.size ≤ 40000) (w : World) :
    Calls Tryz.prog 62 #[.string s] w fun e w' => e = .returned (.bool (valid (bs s))) ∧ Below w.heap.size w w' := by
  have C := refrunes_any s w hs
  have hv : valid (bs s) = ((endR (allR (bs s)) : Int) == (s.size : Int)) := by unfold valid; rw [bs_length]
  rw [hv]
  clear hv
  generalize (endR (allR (bs s)) : Nat) = E at *
  go_enter Tryz.func62, Tryz.ntmps62
  go_wp2_with (go_at_call 28; refine C.mono ?_; rintro e w2 ⟨v, rfl, _, hB⟩)
  go_ret
  exact ⟨rfl, hB⟩

theorem refLetter_any (c : Int) (w : World) : Calls Tryz.prog 76 #[.int .u8 c] w fun e w' => e = .returned (.bool (letter c)) ∧ w = w' := by
  by_cases h1 : 65 ≤ c
  · by_cases h2 : c ≤ 90
    · have hr : letter c = true := by simp [letter, small]; omega
      go_enter Tryz.func76, Tryz.ntmps76
      have hd : decide (65 ≤ c) = true := by simpa using h1
      have hd2 : decide (c ≤ 90) = true := by simpa using h2
      go_wp2
      go_ret
      exact ⟨ret_bool hr.symm, rfl⟩
    · have hr : letter c = (decide (97 ≤ c) && decide (c ≤ 122)) := by simp [letter, small]; omega
      have hd : decide (65 ≤ c) = true := by simpa using h1
      have hd2 : decide (c ≤ 90) = false := by simpa using h2
      rw [hr]
      clear hr
      go_enter Tryz.func76, Tryz.ntmps76
      go_wp2
      all_goals
        go_ret
        refine ⟨ret_bool ?_, rfl⟩
        simp_all <;> omega
  · have hr : letter c = false := by simp [letter, small]; omega
    have hd : decide (65 ≤ c) = false := by simpa using h1
    have hd2 : decide (97 ≤ c) = false := by simp; omega
    rw [hr]
    clear hr
    go_enter Tryz.func76, Tryz.ntmps76
    go_wp2
    all_goals
      go_ret
      exact ⟨rfl, rfl⟩

theorem refDigit_any (c : Int) (w : World) : Calls Tryz.prog 55 #[.int .u8 c] w fun e w' => e = .returned (.bool (digit c)) ∧ w = w' := by
  go_enter Tryz.func55, Tryz.ntmps55
  go_wp2
  all_goals
    go_ret
    exact ⟨ret_bool (by unfold digit; simp_all <;> omega), rfl⟩

theorem bs_take_step (s : ByteArray) (k : Nat) (h : k < s.size) : (bs s).take (k + 1) = (bs s).take k ++ [(s[k].toNat : Int)] := by
  rw [List.take_add_one, bs_get s k h]
  rfl
theorem bs_take_all (s : ByteArray) : (bs s).take s.size = bs s := List.take_of_length_le (by rw [bs_length]; exact Nat.le_refl _)

set_option maxRecDepth 100000 in
theorem in_any (c : Int) (s : ByteArray) (hs : s.size ≤ 40000) (w : World) : Calls Tryz.prog 91 #[.int .u8 c, .string s] w fun e w' => e = .returned (.bool ((bs s).contains c)) ∧ w = w' := by
  go_enter Tryz.func91, Tryz.ntmps91
  go_wp2
  go_loop [5] (fun i => ∃ k : Nat, k ≤ s.size ∧ i = .int .i64 k ∧ ((bs s).take k).contains c = false) (fun i => s.size - (intOf i).toNat)
  case atStart => exact ⟨0, Nat.zero_le _, rfl, rfl⟩
  case round =>
    obtain ⟨k, hk, rfl, hno⟩ := hrel
    have HN := Lib.hid hno
    clear hno
    by_cases hlt : k < s.size
    · have HT := Lib.hid (bs_take_step s k hlt)
      have HM : Hid ((s[k].toNat : Int) ∈ bs s) := Lib.hid (by
        have := bs_get s k hlt
        exact List.mem_of_getElem? this)
      generalize hx : (s[k].toNat : Int) = x at *
      by_cases he : x = c
      · subst he
        have hxe : ((s[k].toNat : Int) == x) = true := by rw [hx]; simp
        have HR : Hid ((bs s).contains x = true) := Lib.hid (by simpa using HM.out)
        clear hx
        go_wp2
        go_ret
        exact ⟨ret_bool (by simpa using HR.out), rfl⟩
      · have hxe : ((s[k].toNat : Int) == c) = false := by rw [hx]; simpa using he
        have HR : Hid (((bs s).take (k + 1)).contains c = false) := Lib.hid (by
          rw [HT.out, List.contains_append, HN.out]
          simpa using fun h => he h.symm)
        clear hx he
        go_wp2
        go_round
        case rel => exact ⟨k + 1, by omega, by go_num, HR.out⟩
        case measure => simp [intOf]; omega
    · obtain rfl : k = s.size := by omega
      rw [bs_take_all] at HN
      go_wp2
      go_ret
      exact ⟨ret_bool (by simpa using HN.out), rfl⟩
end Go.Proofs.YtachijkjcbajmaaGreatDoor

/-
  CONTRACTS OF THE REFERENCE's IRI AND Word.
-/
namespace Go.Proofs.YtachijkjcbajmaaGreatDoor
open Go.RowKit
open Utf Term
set_option linter.unusedVariables false

theorem iriB_eq {l : List Int} (hl : l.length ≤ 1000000000000) : isIRIB l = (decide (0 < l.length) && decide (l.length ≤ 1000) && (valid l && l.all iriC)) := by
  unfold isIRIB; rw [eachB_eq iriC_high hl]

namespace Term
abbrev sixS : ByteArray := ⟨#[60, 62, 123, 125, 124, 94]⟩
theorem iri_split : ∀ c : Fin 256, iriC (c.val : Int) = !(decide ((c.val : Int) ≤ 32) || (bs sixS).contains (c.val : Int) || ((c.val : Int) == 34) || ((c.val : Int) == 92) || ((c.val : Int) == 96)) := by decide +kernel
end Term

set_option maxRecDepth 100000 in
set_option maxHeartbeats 2000000 in
theorem refIRI_loop (s : ByteArray) (hs : s.size ≤ 40000) (h0 : 1 ≤ s.size) (h1 : s.size ≤ 1000) (hv : valid (bs s) = true) (w : World) :
    Calls Tryz.prog 63 #[.string s] w fun e w' => e = .returned (.bool ((bs s).all iriC)) ∧ Below w.heap.size w w' := by
  have C := refvalid_any s hs w
  rw [hv] at C
  have d0 : decide ((s.size : Int) < 1) = false := by simp; omega
  have d1 : decide ((1000 : Int) < s.size) = false := by simp; omega
  clear hv
  go_enter Tryz.func63, Tryz.ntmps63
  go_wp2_with (go_at_call 62; refine C.mono ?_; rintro e w2 ⟨rfl, hB⟩)
  go_loop [3] (fun i => ∃ k : Nat, k ≤ s.size ∧ i = .int .i64 k ∧ ((bs s).take k).all iriC = true) (fun i => s.size - (intOf i).toNat)
  case atStart => exact ⟨0, Nat.zero_le _, rfl, rfl⟩
  case round =>
    obtain ⟨k, hk, rfl, hno⟩ := hrel
    have HN := Lib.hid hno
    clear hno C
    by_cases hlt : k < s.size
    · have HT := Lib.hid (bs_take_step s k hlt)
      have HM : Hid ((s[k].toNat : Int) ∈ bs s) := Lib.hid (by
        have := bs_get s k hlt
        exact List.mem_of_getElem? this)
      have HX := Lib.hid (iri_split ⟨s[k].toNat, s[k].toNat_lt⟩)
      have CI := fun W => in_any (s[k].toNat : Int) sixS (by decide) W
      dsimp only at HX
      generalize hx : (s[k].toNat : Int) = x at *
      have HF : Hid (iriC x = false → (bs s).all iriC = false) := Lib.hid (fun h => by
        rw [List.all_eq_false]
        exact ⟨x, HM.out, by simp [h]⟩)
      have HG : Hid (iriC x = true → ((bs s).take (k + 1)).all iriC = true) := Lib.hid (fun h => by
        rw [HT.out, List.all_append, HN.out]
        simpa using h)
      clear HT HN HM
      by_cases c1 : x ≤ 32
      · have f1 : decide ((s[k].toNat : Int) ≤ 32) = true := by rw [hx]; simpa using c1
        have HR : Hid ((bs s).all iriC = false) := Lib.hid (HF.out (by rw [HX.out]; simp [c1]))
        clear hx c1
        go_wp2
        go_ret
        exact ⟨ret_bool HR.out.symm, hB⟩
      · have f1 : decide ((s[k].toNat : Int) ≤ 32) = false := by rw [hx]; simpa using c1
        cases c2 : (bs sixS).contains x with
        | true =>
          have HR : Hid ((bs s).all iriC = false) := Lib.hid (HF.out (by rw [HX.out, c2]; simp))
          rw [c2] at CI
          subst hx
          clear c1 c2
          go_wp2_with (go_at_call 91; refine (CI _).mono ?_; rintro e w3 ⟨rfl, rfl⟩)
          go_ret
          exact ⟨ret_bool HR.out.symm, hB⟩
        | false =>
          rw [c2] at CI
          have HC2 := Lib.hid c2
          clear c2
          by_cases c3 : x = 34 ∨ x = 92 ∨ x = 96
          · have HR : Hid ((bs s).all iriC = false) := Lib.hid (HF.out (by rw [HX.out, HC2.out]; rcases c3 with rfl | rfl | rfl <;> rfl))
            rcases c3 with c3 | c3 | c3
            · have f3 : ((s[k].toNat : Int) == 34) = true := by rw [hx]; simpa using c3
              subst hx
              clear c1 c3
              go_wp2_with (go_at_call 91; refine (CI _).mono ?_; rintro e w3 ⟨rfl, rfl⟩)
              go_ret
              exact ⟨ret_bool HR.out.symm, hB⟩
            · have f3 : ((s[k].toNat : Int) == 34) = false := by rw [hx]; simp; omega
              have f4 : ((s[k].toNat : Int) == 92) = true := by rw [hx]; simpa using c3
              subst hx
              clear c1 c3
              go_wp2_with (go_at_call 91; refine (CI _).mono ?_; rintro e w3 ⟨rfl, rfl⟩)
              go_ret
              exact ⟨ret_bool HR.out.symm, hB⟩
            · have f3 : ((s[k].toNat : Int) == 34) = false := by rw [hx]; simp; omega
              have f4 : ((s[k].toNat : Int) == 92) = false := by rw [hx]; simp; omega
              have f5 : ((s[k].toNat : Int) == 96) = true := by rw [hx]; simpa using c3
              subst hx
              clear c1 c3
              go_wp2_with (go_at_call 91; refine (CI _).mono ?_; rintro e w3 ⟨rfl, rfl⟩)
              go_ret
              exact ⟨ret_bool HR.out.symm, hB⟩
          · have f3 : ((s[k].toNat : Int) == 34) = false := by rw [hx]; simp; omega
            have f4 : ((s[k].toNat : Int) == 92) = false := by rw [hx]; simp; omega
            have f5 : ((s[k].toNat : Int) == 96) = false := by rw [hx]; simp; omega
            have HR : Hid (((bs s).take (k + 1)).all iriC = true) := Lib.hid (HG.out (by
              rw [HX.out, HC2.out]
              rw [hx] at f3 f4 f5
              rw [f3, f4, f5]
              simpa using c1))
            subst hx
            clear c1 c3
            go_wp2_with (go_at_call 91; refine (CI _).mono ?_; rintro e w3 ⟨rfl, rfl⟩)
            go_round
            case rel => exact ⟨k + 1, by omega, by go_num, HR.out⟩
            case measure => simp [intOf]; omega
    · obtain rfl : k = s.size := by omega
      rw [bs_take_all] at HN
      go_wp2
      go_ret
      exact ⟨ret_bool HN.out.symm, hB⟩

theorem refIRI_any (s : ByteArray) (hs : s.size ≤ 40000) (w : World) :
    Calls Tryz.prog 63 #[.string s] w fun e w' => e = .returned (.bool (isIRIB (bs s))) ∧ Below w.heap.size w w' := by
  rw [iriB_eq (by rw [bs_length]; omega), bs_length]
  by_cases h0 : 1 ≤ s.size
  · by_cases h1 : s.size ≤ 1000
    · cases hv : valid (bs s) with
      | true =>
        have e : (decide (0 < s.size) && decide (s.size ≤ 1000) && (true && (bs s).all iriC)) = (bs s).all iriC := by simp [h1]; omega
        rw [e]
        exact refIRI_loop s hs h0 h1 hv w
      | false =>
        have C := refvalid_any s hs w
        rw [hv] at C
        have d0 : decide ((s.size : Int) < 1) = false := by simp; omega
        have d1 : decide ((1000 : Int) < s.size) = false := by simp; omega
        clear hv
        go_enter Tryz.func63, Tryz.ntmps63
        go_wp2_with (go_at_call 62; refine C.mono ?_; rintro e w2 ⟨rfl, hB⟩)
        go_ret
        exact ⟨ret_bool (by simp), hB⟩
    · have d0 : decide ((s.size : Int) < 1) = false := by simp; omega
      have d1 : decide ((1000 : Int) < s.size) = true := by simp; omega
      have HR : Hid ((decide (0 < s.size) && decide (s.size ≤ 1000) && (valid (bs s) && (bs s).all iriC)) = false) := Lib.hid (by simp [h1])
      go_enter Tryz.func63, Tryz.ntmps63
      go_wp2
      go_ret
      exact ⟨ret_bool HR.out.symm, Below.refl _ _⟩
  · have d0 : decide ((s.size : Int) < 1) = true := by simp; omega
    have HR : Hid ((decide (0 < s.size) && decide (s.size ≤ 1000) && (valid (bs s) && (bs s).all iriC)) = false) := Lib.hid (by
      rw [decide_eq_false (by omega)]; rfl)
    go_enter Tryz.func63, Tryz.ntmps63
    go_wp2
    go_ret
    exact ⟨ret_bool HR.out.symm, Below.refl _ _⟩

/-- Letters and digits, a letter first. -/
theorem blankB_eq {l : List Int} (hl : l.length ≤ 1000000000000) (hb : ∀ c ∈ l, IsByte c) : isBlankB l = (decide (0 < l.length) && decide (l.length ≤ 64) && letter (l.headD 0) && l.all letterDigit) := by
  unfold isBlankB; rw [eachB_low letterDigit_high hl hb]

set_option maxRecDepth 100000 in
set_option maxHeartbeats 2000000 in
theorem refWord_loop (s : ByteArray) (h0 : 1 ≤ s.size) (h1 : s.size ≤ 64) (hl : letter (s[0].toNat : Int) = true) (w : World) :
    Calls Tryz.prog 64 #[.string s, .int .i64 64] w fun e w' => e = .returned (.bool ((bs s).all letterDigit)) ∧ w = w' := by
  have C := fun W => refLetter_any (s[0].toNat : Int) W
  rw [hl] at C
  have d0 : decide ((s.size : Int) < 1) = false := by simp; omega
  have d1 : decide ((64 : Int) < s.size) = false := by simp; omega
  clear hl
  go_enter Tryz.func64, Tryz.ntmps64
  go_wp2_with (go_at_call 76; refine (C _).mono ?_; rintro e w2 ⟨rfl, rfl⟩)
  go_loop [5] (fun i => ∃ k : Nat, k ≤ s.size ∧ i = .int .i64 k ∧ ((bs s).take k).all letterDigit = true) (fun i => s.size - (intOf i).toNat)
  case atStart => exact ⟨0, Nat.zero_le _, rfl, rfl⟩
  case round =>
    obtain ⟨k, hk, rfl, hno⟩ := hrel
    have HN := Lib.hid hno
    clear hno C
    by_cases hlt : k < s.size
    · have HT := Lib.hid (bs_take_step s k hlt)
      have HM : Hid ((s[k].toNat : Int) ∈ bs s) := Lib.hid (by
        have := bs_get s k hlt
        exact List.mem_of_getElem? this)
      have CL := fun W => refLetter_any (s[k].toNat : Int) W
      have CD := fun W => refDigit_any (s[k].toNat : Int) W
      cases c1 : letter (s[k].toNat : Int) with
      | true =>
        have HR : Hid (((bs s).take (k + 1)).all letterDigit = true) := Lib.hid (by
          rw [HT.out, List.all_append, HN.out]
          simp [letterDigit, c1])
        rw [c1] at CL
        clear c1 CD
        go_wp2_with (go_at_call 76; refine (CL _).mono ?_; rintro e w3 ⟨rfl, rfl⟩)
        go_round
        case rel => exact ⟨k + 1, by omega, by go_num, HR.out⟩
        case measure => simp [intOf]; omega
      | false =>
        cases c2 : digit (s[k].toNat : Int) with
        | true =>
          have HR : Hid (((bs s).take (k + 1)).all letterDigit = true) := Lib.hid (by
            rw [HT.out, List.all_append, HN.out]
            simp [letterDigit, c1, c2])
          rw [c1] at CL
          rw [c2] at CD
          clear c1 c2
          go_wp2_with (first | (go_at_call 76; refine (CL _).mono ?_; rintro e w3 ⟨rfl, rfl⟩) | (go_at_call 55; refine (CD _).mono ?_; rintro e w3 ⟨rfl, rfl⟩))
          go_round
          case rel => exact ⟨k + 1, by omega, by go_num, HR.out⟩
          case measure => simp [intOf]; omega
        | false =>
          have HR : Hid ((bs s).all letterDigit = false) := Lib.hid (by
            rw [List.all_eq_false]
            exact ⟨_, HM.out, by simp [letterDigit, c1, c2]⟩)
          rw [c1] at CL
          rw [c2] at CD
          clear c1 c2
          go_wp2_with (first | (go_at_call 76; refine (CL _).mono ?_; rintro e w3 ⟨rfl, rfl⟩) | (go_at_call 55; refine (CD _).mono ?_; rintro e w3 ⟨rfl, rfl⟩))
          go_ret
          exact ⟨ret_bool HR.out.symm, rfl⟩
    · obtain rfl : k = s.size := by omega
      rw [bs_take_all] at HN
      go_wp2
      go_ret
      exact ⟨ret_bool HN.out.symm, rfl⟩

theorem refWord_any (s : ByteArray) (hs : s.size ≤ 40000) (w : World) :
    Calls Tryz.prog 64 #[.string s, .int .i64 64] w fun e w' => e = .returned (.bool (isBlankB (bs s))) ∧ w = w' := by
  rw [blankB_eq (by rw [bs_length]; omega) (bs_byte s), bs_length]
  by_cases h0 : 1 ≤ s.size
  · by_cases h1 : s.size ≤ 64
    · have hh : (bs s).headD 0 = (s[0].toNat : Int) := by rw [bs_head s h0]; rfl
      rw [hh]
      cases hl : letter (s[0].toNat : Int) with
      | true =>
        have e : (decide (0 < s.size) && decide (s.size ≤ 64) && true && (bs s).all letterDigit) = (bs s).all letterDigit := by simp [h1]; omega
        rw [e]
        exact refWord_loop s h0 h1 hl w
      | false =>
        have C := fun W => refLetter_any (s[0].toNat : Int) W
        rw [hl] at C
        have d0 : decide ((s.size : Int) < 1) = false := by simp; omega
        have d1 : decide ((64 : Int) < s.size) = false := by simp; omega
        clear hl hh
        go_enter Tryz.func64, Tryz.ntmps64
        go_wp2_with (go_at_call 76; refine (C _).mono ?_; rintro e w2 ⟨rfl, rfl⟩)
        go_ret
        exact ⟨ret_bool (by simp), rfl⟩
    · have d0 : decide ((s.size : Int) < 1) = false := by simp; omega
      have d1 : decide ((64 : Int) < s.size) = true := by simp; omega
      have HR : Hid ((decide (0 < s.size) && decide (s.size ≤ 64) && letter ((bs s).headD 0) && (bs s).all letterDigit) = false) := Lib.hid (by simp [h1])
      go_enter Tryz.func64, Tryz.ntmps64
      go_wp2
      go_ret
      exact ⟨ret_bool HR.out.symm, rfl⟩
  · have d0 : decide ((s.size : Int) < 1) = true := by simp; omega
    have HR : Hid ((decide (0 < s.size) && decide (s.size ≤ 64) && letter ((bs s).headD 0) && (bs s).all letterDigit) = false) := Lib.hid (by
      rw [decide_eq_false (by omega)]; rfl)
    go_enter Tryz.func64, Tryz.ntmps64
    go_wp2
    go_ret
    exact ⟨ret_bool HR.out.symm, rfl⟩
end Go.Proofs.YtachijkjcbajmaaGreatDoor

/-
  THE CONTRACT OF THE REFERENCE's tag.
-/
namespace Go.Proofs.YtachijkjcbajmaaGreatDoor
open Go.RowKit
open Utf Term
set_option linter.unusedVariables false

namespace Term
theorem scan_cut : ∀ (a b : List Int) (f p : Bool), scan f p a = false → scan f p (a ++ b) = false
  | [], _, _, _, h => by cases h
  | c :: a, b, f, p, h => by
    rw [List.cons_append, scan]
    rw [scan] at h
    cases e : stepOK f p c with
    | false => rfl
    | true =>
      rw [e, Bool.true_and] at h
      rw [Bool.true_and]
      exact scan_cut a b _ _ h
theorem begins_head (s : ByteArray) (h : 0 < s.size) : begins45 (bs s) = decide ((s[0].toNat : Int) = 45) := by rw [bs_head s h]; rfl
theorem ends_last : ∀ (l : List Int) (x : Int), ends45 (l ++ [x]) = decide (x = 45)
  | [], x => rfl
  | [c], x => rfl
  | c :: d :: l, x => by
    show ends45 (c :: d :: (l ++ [x])) = _
    rw [ends45_cons]
    exact ends_last (d :: l) x
theorem ends_size (s : ByteArray) (n : Nat) (h : s.size = n + 1) : ends45 (bs s) = decide ((s[n].toNat : Int) = 45) := by
  have e := bs_take_step s n (by omega)
  rw [← h, bs_take_all] at e
  rw [e, ends_last]
end Term

theorem idx_at (s : ByteArray) (i : Int) (k : Nat) (hi : i = k) (h : k < s.size) (W : World) : (Instr.index 9 (.string s) (.int .i64 i)).run Tryz.prog W = .ok (.int .u8 (s[k].toNat : Int)) W := by
  subst hi
  have h1 : (k : Int) < s.size := by omega
  go_simp

set_option maxRecDepth 100000 in
set_option maxHeartbeats 2000000 in
theorem reftag_loop (s : ByteArray) (n : Nat) (hn : s.size = n + 1) (h35 : s.size ≤ 35) (hb : (s[0].toNat : Int) ≠ 45) (he : (s[n].toNat : Int) ≠ 45) (w : World) :
    Calls Tryz.prog 65 #[.string s] w fun e w' => e = .returned (.bool (scan true false (bs s))) ∧ w = w' := by
  have d0 : decide ((s.size : Int) < 1) = false := by simp; omega
  have d1 : decide ((35 : Int) < s.size) = false := by simp; omega
  have e0 : ((s[0].toNat : Int) == 45) = false := by simpa using hb
  have i1 := idx_at s ((s.size : Int) - 1) n (by omega) (by omega)
  have i0 := idx_at s 0 0 rfl (by omega)
  have HB := Lib.hid hb
  have HN := Lib.hid hn
  have hpos : 0 < s.size := by omega
  have HY : Hid (∀ k (hk : k < s.size), (s[k].toNat : Int) = 45 → 1 ≤ k) := Lib.hid (fun k hk h => by
    cases k with
    | zero => exact absurd h hb
    | succ k => omega)
  generalize hx : (s[n].toNat : Int) = x at *
  generalize hy : (s[0].toNat : Int) = y at *
  have ex : (x == 45) = false := by simpa using he
  clear hb he hn hx hy HB
  go_enter Tryz.func65, Tryz.ntmps65
  go_wp2
  clear i1 i0 e0 ex
  go_loop [3, 4] (fun f i => ∃ (k : Nat) (F : Bool), k ≤ s.size ∧ i = .int .i64 k ∧ f = .bool F ∧ F = !(((bs s).take k).contains 45) ∧ scan true false ((bs s).take k) = true) (fun _ i => s.size - (intOf i).toNat)
  case atStart => exact ⟨0, true, Nat.zero_le _, rfl, rfl, rfl, rfl⟩
  case round =>
    obtain ⟨k, F, hk, rfl, rfl, hF, hsc⟩ := hrel
    have HF := Lib.hid hF
    have HSC := Lib.hid hsc
    clear hF hsc
    by_cases hlt : k < s.size
    · have HT := Lib.hid (bs_take_step s k hlt)
      have HY2 := Lib.hid (HY.out k hlt)
      have HL : Hid (((bs s).take k).getLast? = if k = 0 then none else (bs s)[k - 1]?) := Lib.hid (by
        rw [List.getLast?_eq_getElem?, List.length_take, bs_length, Nat.min_eq_left hk]
        cases k with
        | zero => simp
        | succ k => rw [if_neg (by omega), List.getElem?_take_of_lt (by omega)])
      have HO : Hid (∀ b : Bool, stepOK F (match ((bs s).take k).getLast? with | none => false | some d => decide (d = 45)) (s[k].toNat : Int) = b → scan true false ((bs s).take (k + 1)) = b) := Lib.hid (fun b h => by
        rw [HT.out, scan_snoc, HSC.out, Bool.true_and, Bool.true_and, ← HF.out]
        exact h)
      have HC : Hid (scan true false ((bs s).take (k + 1)) = false → scan true false (bs s) = false) := Lib.hid (fun h => by
        have e := scan_cut _ ((bs s).drop (k + 1)) true false h
        rwa [List.take_append_drop] at e)
      have HF2 : Hid ((!(((bs s).take (k + 1)).contains 45)) = (F && !((s[k].toNat : Int) == 45))) := Lib.hid (by
        rw [HT.out, List.contains_append, HF.out, Bool.not_or]
        congr 2
        simp only [List.contains_cons, List.contains_nil, Bool.or_false]
        rw [Bool.eq_iff_iff, beq_iff_eq, beq_iff_eq]
        exact ⟨fun h => h.symm, fun h => h.symm⟩)
      have CD := fun W => refDigit_any (s[k].toNat : Int) W
      have ik := idx_at s (k : Int) k rfl hlt
      clear HT
      by_cases h45 : (s[k].toNat : Int) = 45
      · have hk1 := HY2.out h45
        have ip := idx_at s ((k : Int) - 1) (k - 1) (by omega) (by omega)
        have HL2 : Hid (((bs s).take k).getLast? = some (s[k - 1].toNat : Int)) := Lib.hid (by rw [HL.out, if_neg (by omega), bs_get s (k - 1) (by omega)])
        generalize hp : (s[k - 1].toNat : Int) = p at *
        rw [h45] at HO HF2 ik
        clear hp HL HY2 h45 CD
        by_cases hp45 : p = 45
        · subst hp45
          have HR : Hid (scan true false (bs s) = false) := Lib.hid (HC.out (HO.out false (by rw [HL2.out]; rfl)))
          go_wp2
          go_ret
          exact ⟨ret_bool HR.out.symm, rfl⟩
        · have hpf : (p == 45) = false := by simpa using hp45
          have HR : Hid (scan true false ((bs s).take (k + 1)) = true) := Lib.hid (HO.out true (by
            rw [HL2.out]
            show (!decide (p = 45)) = true
            rw [decide_eq_false hp45]; rfl))
          clear hp45
          go_wp2
          go_round
          case rel => exact ⟨k + 1, false, by omega, by go_num, rfl, by rw [HF2.out]; simp, HR.out⟩
          case measure => simp [intOf]; omega
      · have hc45 : ((s[k].toNat : Int) == 45) = false := by simpa using h45
        rw [hc45, Bool.not_false, Bool.and_true] at HF2
        have HO2 : Hid (∀ b : Bool, (small (s[k].toNat : Int) || (!F && digit (s[k].toNat : Int))) = b → scan true false ((bs s).take (k + 1)) = b) := Lib.hid (fun b h => HO.out b (by unfold stepOK; rw [if_neg h45]; exact h))
        generalize hx : (s[k].toNat : Int) = c at *
        clear HO HL HY2 hx h45
        cases hs : small c with
        | true =>
          have h1 : decide (97 ≤ c) = true := by simp [small] at hs; simp; omega
          have h2 : decide (c ≤ 122) = true := by simp [small] at hs; simp; omega
          have HR : Hid (scan true false ((bs s).take (k + 1)) = true) := Lib.hid (HO2.out true (by rw [hs]; rfl))
          clear hs HO2
          go_wp2
          go_round
          case rel => exact ⟨k + 1, F, by omega, by go_num, rfl, HF2.out.symm, HR.out⟩
          case measure => simp [intOf]; omega
        | false =>
          have HS := Lib.hid hs
          cases F with
          | true =>
            have HR : Hid (scan true false (bs s) = false) := Lib.hid (HC.out (HO2.out false (by rw [hs]; rfl)))
            clear hs HO2
            by_cases h1 : 97 ≤ c
            · have g1 : decide (97 ≤ c) = true := by simpa using h1
              have g2 : decide (c ≤ 122) = false := by have := HS.out; simp [small] at this; simp; omega
              clear h1
              go_wp2
              go_ret
              exact ⟨ret_bool HR.out.symm, rfl⟩
            · have g1 : decide (97 ≤ c) = false := by simpa using h1
              clear h1
              go_wp2
              go_ret
              exact ⟨ret_bool HR.out.symm, rfl⟩
          | false =>
            cases hd : digit c with
            | true =>
              have HR : Hid (scan true false ((bs s).take (k + 1)) = true) := Lib.hid (HO2.out true (by rw [hs, hd]; rfl))
              rw [hd] at CD
              have g1 : decide (97 ≤ c) = false := by simp [digit] at hd; simp; omega
              clear hs hd HO2
              go_wp2_with (go_at_call 55; refine (CD _).mono ?_; rintro e w3 ⟨rfl, rfl⟩)
              go_round
              case rel => exact ⟨k + 1, false, by omega, by go_num, rfl, HF2.out.symm, HR.out⟩
              case measure => simp [intOf]; omega
            | false =>
              have HR : Hid (scan true false (bs s) = false) := Lib.hid (HC.out (HO2.out false (by rw [hs, hd]; rfl)))
              rw [hd] at CD
              clear hs hd HO2
              by_cases h1 : 97 ≤ c
              · have g1 : decide (97 ≤ c) = true := by simpa using h1
                have g2 : decide (c ≤ 122) = false := by have := HS.out; simp [small] at this; simp; omega
                clear h1
                go_wp2_with (go_at_call 55; refine (CD _).mono ?_; rintro e w3 ⟨rfl, rfl⟩)
                go_ret
                exact ⟨ret_bool HR.out.symm, rfl⟩
              · have g1 : decide (97 ≤ c) = false := by simpa using h1
                clear h1
                go_wp2_with (go_at_call 55; refine (CD _).mono ?_; rintro e w3 ⟨rfl, rfl⟩)
                go_ret
                exact ⟨ret_bool HR.out.symm, rfl⟩
    · obtain rfl : k = s.size := by omega
      rw [bs_take_all] at HSC
      go_wp2
      go_ret
      exact ⟨ret_bool HSC.out.symm, rfl⟩

theorem reftag_any (s : ByteArray) (hs : s.size ≤ 40000) (w : World) : Calls Tryz.prog 65 #[.string s] w fun e w' => e = .returned (.bool (tagL (bs s))) ∧ w = w' := by
  cases hn : s.size with
  | zero =>
    obtain rfl := empty_of s hn
    have HR : Hid (tagL (bs ByteArray.empty) = false) := Lib.hid (by decide +kernel)
    clear hn hs
    go_enter Tryz.func65, Tryz.ntmps65
    go_wp2
    go_ret
    exact ⟨ret_bool HR.out.symm, rfl⟩
  | succ n =>
    have hpos : 0 < s.size := by omega
    have d0 : decide ((s.size : Int) < 1) = false := by simp; omega
    by_cases h35 : s.size ≤ 35
    · have d1 : decide ((35 : Int) < s.size) = false := by simp; omega
      have e0 : (bs s).isEmpty = false := by rw [bs_head s hpos]; rfl
      have et : tagL (bs s) = (!decide ((s[0].toNat : Int) = 45) && !decide ((s[n].toNat : Int) = 45) && scan true false (bs s)) := by
        unfold tagL
        rw [bs_length, decide_eq_true h35, e0, begins_head s hpos, ends_size s n hn]
        rfl
      rw [et]
      clear et e0
      by_cases hb : (s[0].toNat : Int) = 45
      · have hbt : ((s[0].toNat : Int) == 45) = true := by simpa using hb
        rw [decide_eq_true hb]
        have i0 := idx_at s 0 0 rfl hpos
        generalize scan true false (bs s) = S at *
        generalize decide ((s[n].toNat : Int) = 45) = D at *
        generalize (s[0].toNat : Int) = y at *
        clear hb hn
        go_enter Tryz.func65, Tryz.ntmps65
        go_wp2
        go_ret
        exact ⟨rfl, rfl⟩
      · by_cases he : (s[n].toNat : Int) = 45
        · have hbf : ((s[0].toNat : Int) == 45) = false := by simpa using hb
          have het : ((s[n].toNat : Int) == 45) = true := by simpa using he
          rw [decide_eq_true he]
          have i0 := idx_at s 0 0 rfl hpos
          have i1 := idx_at s ((s.size : Int) - 1) n (by omega) (by omega)
          generalize scan true false (bs s) = S at *
          generalize decide ((s[0].toNat : Int) = 45) = D at *
          generalize (s[0].toNat : Int) = y at *
          generalize (s[n].toNat : Int) = z at *
          clear hb he hn
          go_enter Tryz.func65, Tryz.ntmps65
          go_wp2
          go_ret
          exact ⟨ret_bool (by simp), rfl⟩
        · rw [decide_eq_false hb, decide_eq_false he]
          have := reftag_loop s n hn h35 hb he w
          simpa using this
    · have d1 : decide ((35 : Int) < s.size) = true := by simp; omega
      have HR : Hid (tagL (bs s) = false) := Lib.hid (by unfold tagL; rw [bs_length, decide_eq_false h35]; rfl)
      clear hn
      go_enter Tryz.func65, Tryz.ntmps65
      go_wp2
      go_ret
      exact ⟨ret_bool HR.out.symm, rfl⟩
end Go.Proofs.YtachijkjcbajmaaGreatDoor

/-
  THE CONTRACT OF THE REFERENCE's May.
-/
namespace Go.Proofs.YtachijkjcbajmaaGreatDoor
open Go.RowKit
open Utf Term
set_option linter.unusedVariables false

theorem xsd_ne {x : ByteArray} (h : bs x ≠ xsd) : ¬ x.toList = [104, 116, 116, 112, 58, 47, 47, 119, 119, 119, 46, 119, 51, 46, 111, 114, 103, 47, 50, 48, 48, 49, 47, 88, 77, 76, 83, 99, 104, 101, 109, 97, 35, 115, 116, 114, 105, 110, 103] := by
  intro e
  refine h ?_
  rw [toList_eq] at e
  rw [bs_data, e]
  rfl
theorem noExtra_e : noExtra ByteArray.empty = true := rfl
theorem noExtra_n {x : ByteArray} (h : 0 < x.size) : noExtra x = false := by unfold noExtra; rw [decide_eq_false (by omega)]
theorem size_of_value {t : ByteArray} (h : t.size ≤ 4000) : isValueB (bs t) = valid (bs t) := by unfold isValueB; rw [bs_length, decide_eq_true h, Bool.true_and]
theorem size_of_long {t : ByteArray} (h : ¬ t.size ≤ 4000) : isValueB (bs t) = false := by unfold isValueB; rw [bs_length, decide_eq_false h, Bool.false_and]

set_option maxRecDepth 100000 in
set_option maxHeartbeats 1000000 in
theorem refmay_1a0 (k : Int) (t x : ByteArray) (ht : t.size ≤ 40000) (hx : x.size ≤ 40000) (w : World) (hA : t.size ≤ 4000) (hi : isIRIB (bs t) = true) (hx0 : x = ByteArray.empty) :
    Calls Tryz.prog 34 #[termV 1 t x] w fun e w' => e = .returned (.bool (true)) ∧ Below w.heap.size w w' := by
  have d4 : decide ((t.size : Int) ≤ 4000) = true := by simp; omega
  have CV := fun W => refvalid_any t ht W
  have CI := fun W => refIRI_any t ht W
  rw [hi] at CI
  have he : ByteArray.empty.toList.isEmpty = true := by rw [← decide_eq_emptyBytes]; simp
  subst hx0
  clear hi
  generalize valid (bs t) = v at *
  go_enter Tryz.func34, Tryz.ntmps34
  go_wp2_with (first | (go_at_call 62; refine (CV _).mono ?_; rintro e w2 ⟨rfl, hB2⟩; obtain ⟨d0, d1, d2⟩ := box_cells2 hB2) | (go_at_call 63; refine (CI _).mono ?_; rintro e w3 ⟨rfl, hB3⟩; have q0 := cell_kept2 hB3 d0; have q1 := cell_kept2 hB3 d1; have q2 := cell_kept2 hB3 d2))
  go_ret
  exact ⟨rfl, text_below hB2 hB3⟩

set_option maxRecDepth 100000 in
set_option maxHeartbeats 1000000 in
theorem refmay_1a1 (k : Int) (t x : ByteArray) (ht : t.size ≤ 40000) (hx : x.size ≤ 40000) (w : World) (hA : t.size ≤ 4000) (hi : isIRIB (bs t) = true) (hx0 : 0 < x.size) :
    Calls Tryz.prog 34 #[termV 1 t x] w fun e w' => e = .returned (.bool (false)) ∧ Below w.heap.size w w' := by
  have d4 : decide ((t.size : Int) ≤ 4000) = true := by simp; omega
  have CV := fun W => refvalid_any t ht W
  have CI := fun W => refIRI_any t ht W
  rw [hi] at CI
  have he : x.toList.isEmpty = false := nonempty hx0
  clear hi
  generalize valid (bs t) = v at *
  go_enter Tryz.func34, Tryz.ntmps34
  go_wp2_with (first | (go_at_call 62; refine (CV _).mono ?_; rintro e w2 ⟨rfl, hB2⟩; obtain ⟨d0, d1, d2⟩ := box_cells2 hB2) | (go_at_call 63; refine (CI _).mono ?_; rintro e w3 ⟨rfl, hB3⟩; have q0 := cell_kept2 hB3 d0; have q1 := cell_kept2 hB3 d1; have q2 := cell_kept2 hB3 d2))
  go_ret
  exact ⟨rfl, text_below hB2 hB3⟩

set_option maxRecDepth 100000 in
set_option maxHeartbeats 1000000 in
theorem refmay_1a2 (k : Int) (t x : ByteArray) (ht : t.size ≤ 40000) (hx : x.size ≤ 40000) (w : World) (hA : t.size ≤ 4000) (hi : isIRIB (bs t) = false) :
    Calls Tryz.prog 34 #[termV 1 t x] w fun e w' => e = .returned (.bool (false)) ∧ Below w.heap.size w w' := by
  have d4 : decide ((t.size : Int) ≤ 4000) = true := by simp; omega
  have CV := fun W => refvalid_any t ht W
  have CI := fun W => refIRI_any t ht W
  rw [hi] at CI
  clear hi
  generalize valid (bs t) = v at *
  go_enter Tryz.func34, Tryz.ntmps34
  go_wp2_with (first | (go_at_call 62; refine (CV _).mono ?_; rintro e w2 ⟨rfl, hB2⟩; obtain ⟨d0, d1, d2⟩ := box_cells2 hB2) | (go_at_call 63; refine (CI _).mono ?_; rintro e w3 ⟨rfl, hB3⟩; have q0 := cell_kept2 hB3 d0; have q1 := cell_kept2 hB3 d1; have q2 := cell_kept2 hB3 d2))
  go_ret
  exact ⟨rfl, text_below hB2 hB3⟩

set_option maxRecDepth 100000 in
set_option maxHeartbeats 1000000 in
theorem refmay_2a0 (k : Int) (t x : ByteArray) (ht : t.size ≤ 40000) (hx : x.size ≤ 40000) (w : World) (hA : t.size ≤ 4000) (hi : isBlankB (bs t) = true) (hx0 : x = ByteArray.empty) :
    Calls Tryz.prog 34 #[termV 2 t x] w fun e w' => e = .returned (.bool (true)) ∧ Below w.heap.size w w' := by
  have d4 : decide ((t.size : Int) ≤ 4000) = true := by simp; omega
  have CV := fun W => refvalid_any t ht W
  have CI := fun W => refWord_any t ht W
  rw [hi] at CI
  have he : ByteArray.empty.toList.isEmpty = true := by rw [← decide_eq_emptyBytes]; simp
  subst hx0
  clear hi
  generalize valid (bs t) = v at *
  go_enter Tryz.func34, Tryz.ntmps34
  go_wp2_with (first | (go_at_call 62; refine (CV _).mono ?_; rintro e w2 ⟨rfl, hB2⟩; obtain ⟨d0, d1, d2⟩ := box_cells2 hB2) | (go_at_call 64; refine (CI _).mono ?_; rintro e w3 ⟨rfl, rfl⟩))
  go_ret
  exact ⟨rfl, text_below hB2 (Below.refl _ _)⟩

set_option maxRecDepth 100000 in
set_option maxHeartbeats 1000000 in
theorem refmay_2a1 (k : Int) (t x : ByteArray) (ht : t.size ≤ 40000) (hx : x.size ≤ 40000) (w : World) (hA : t.size ≤ 4000) (hi : isBlankB (bs t) = true) (hx0 : 0 < x.size) :
    Calls Tryz.prog 34 #[termV 2 t x] w fun e w' => e = .returned (.bool (false)) ∧ Below w.heap.size w w' := by
  have d4 : decide ((t.size : Int) ≤ 4000) = true := by simp; omega
  have CV := fun W => refvalid_any t ht W
  have CI := fun W => refWord_any t ht W
  rw [hi] at CI
  have he : x.toList.isEmpty = false := nonempty hx0
  clear hi
  generalize valid (bs t) = v at *
  go_enter Tryz.func34, Tryz.ntmps34
  go_wp2_with (first | (go_at_call 62; refine (CV _).mono ?_; rintro e w2 ⟨rfl, hB2⟩; obtain ⟨d0, d1, d2⟩ := box_cells2 hB2) | (go_at_call 64; refine (CI _).mono ?_; rintro e w3 ⟨rfl, rfl⟩))
  go_ret
  exact ⟨rfl, text_below hB2 (Below.refl _ _)⟩

set_option maxRecDepth 100000 in
set_option maxHeartbeats 1000000 in
theorem refmay_2a2 (k : Int) (t x : ByteArray) (ht : t.size ≤ 40000) (hx : x.size ≤ 40000) (w : World) (hA : t.size ≤ 4000) (hi : isBlankB (bs t) = false) :
    Calls Tryz.prog 34 #[termV 2 t x] w fun e w' => e = .returned (.bool (false)) ∧ Below w.heap.size w w' := by
  have d4 : decide ((t.size : Int) ≤ 4000) = true := by simp; omega
  have CV := fun W => refvalid_any t ht W
  have CI := fun W => refWord_any t ht W
  rw [hi] at CI
  clear hi
  generalize valid (bs t) = v at *
  go_enter Tryz.func34, Tryz.ntmps34
  go_wp2_with (first | (go_at_call 62; refine (CV _).mono ?_; rintro e w2 ⟨rfl, hB2⟩; obtain ⟨d0, d1, d2⟩ := box_cells2 hB2) | (go_at_call 64; refine (CI _).mono ?_; rintro e w3 ⟨rfl, rfl⟩))
  go_ret
  exact ⟨rfl, text_below hB2 (Below.refl _ _)⟩

set_option maxRecDepth 100000 in
set_option maxHeartbeats 1000000 in
theorem refmay_3a0 (k : Int) (t x : ByteArray) (ht : t.size ≤ 40000) (hx : x.size ≤ 40000) (w : World) (hA : t.size ≤ 4000) (hv : valid (bs t) = true) (hx0 : x = ByteArray.empty) :
    Calls Tryz.prog 34 #[termV 3 t x] w fun e w' => e = .returned (.bool (true)) ∧ Below w.heap.size w w' := by
  have d4 : decide ((t.size : Int) ≤ 4000) = true := by simp; omega
  have CV := fun W => refvalid_any t ht W
  rw [hv] at CV
  clear hv
  have he : ByteArray.empty.toList.isEmpty = true := by rw [← decide_eq_emptyBytes]; simp
  subst hx0
  go_enter Tryz.func34, Tryz.ntmps34
  go_wp2_with (first | (go_at_call 62; refine (CV _).mono ?_; rintro e w2 ⟨rfl, hB2⟩; obtain ⟨d0, d1, d2⟩ := box_cells2 hB2))
  go_ret
  exact ⟨rfl, text_below hB2 (Below.refl _ _)⟩

set_option maxRecDepth 100000 in
set_option maxHeartbeats 1000000 in
theorem refmay_3a1 (k : Int) (t x : ByteArray) (ht : t.size ≤ 40000) (hx : x.size ≤ 40000) (w : World) (hA : t.size ≤ 4000) (hv : valid (bs t) = true) (hx0 : 0 < x.size) :
    Calls Tryz.prog 34 #[termV 3 t x] w fun e w' => e = .returned (.bool (false)) ∧ Below w.heap.size w w' := by
  have d4 : decide ((t.size : Int) ≤ 4000) = true := by simp; omega
  have CV := fun W => refvalid_any t ht W
  rw [hv] at CV
  clear hv
  have he : x.toList.isEmpty = false := nonempty hx0
  go_enter Tryz.func34, Tryz.ntmps34
  go_wp2_with (first | (go_at_call 62; refine (CV _).mono ?_; rintro e w2 ⟨rfl, hB2⟩; obtain ⟨d0, d1, d2⟩ := box_cells2 hB2))
  go_ret
  exact ⟨rfl, text_below hB2 (Below.refl _ _)⟩

set_option maxRecDepth 100000 in
set_option maxHeartbeats 1000000 in
theorem refmay_3a2 (k : Int) (t x : ByteArray) (ht : t.size ≤ 40000) (hx : x.size ≤ 40000) (w : World) (hA : t.size ≤ 4000) (hv : valid (bs t) = false) :
    Calls Tryz.prog 34 #[termV 3 t x] w fun e w' => e = .returned (.bool (false)) ∧ Below w.heap.size w w' := by
  have d4 : decide ((t.size : Int) ≤ 4000) = true := by simp; omega
  have CV := fun W => refvalid_any t ht W
  rw [hv] at CV
  clear hv
  go_enter Tryz.func34, Tryz.ntmps34
  go_wp2_with (first | (go_at_call 62; refine (CV _).mono ?_; rintro e w2 ⟨rfl, hB2⟩; obtain ⟨d0, d1, d2⟩ := box_cells2 hB2))
  go_ret
  exact ⟨rfl, text_below hB2 (Below.refl _ _)⟩

set_option maxRecDepth 100000 in
set_option maxHeartbeats 1000000 in
theorem refmay_4a2 (k : Int) (t x : ByteArray) (ht : t.size ≤ 40000) (hx : x.size ≤ 40000) (w : World) (hA : t.size ≤ 4000) (hv : valid (bs t) = false) :
    Calls Tryz.prog 34 #[termV 4 t x] w fun e w' => e = .returned (.bool (false)) ∧ Below w.heap.size w w' := by
  have d4 : decide ((t.size : Int) ≤ 4000) = true := by simp; omega
  have CV := fun W => refvalid_any t ht W
  rw [hv] at CV
  clear hv
  go_enter Tryz.func34, Tryz.ntmps34
  go_wp2_with (first | (go_at_call 62; refine (CV _).mono ?_; rintro e w2 ⟨rfl, hB2⟩; obtain ⟨d0, d1, d2⟩ := box_cells2 hB2))
  go_ret
  exact ⟨rfl, text_below hB2 (Below.refl _ _)⟩

set_option maxRecDepth 100000 in
set_option maxHeartbeats 1000000 in
theorem refmay_5a2 (k : Int) (t x : ByteArray) (ht : t.size ≤ 40000) (hx : x.size ≤ 40000) (w : World) (hA : t.size ≤ 4000) (hv : valid (bs t) = false) :
    Calls Tryz.prog 34 #[termV 5 t x] w fun e w' => e = .returned (.bool (false)) ∧ Below w.heap.size w w' := by
  have d4 : decide ((t.size : Int) ≤ 4000) = true := by simp; omega
  have CV := fun W => refvalid_any t ht W
  rw [hv] at CV
  clear hv
  go_enter Tryz.func34, Tryz.ntmps34
  go_wp2_with (first | (go_at_call 62; refine (CV _).mono ?_; rintro e w2 ⟨rfl, hB2⟩; obtain ⟨d0, d1, d2⟩ := box_cells2 hB2))
  go_ret
  exact ⟨rfl, text_below hB2 (Below.refl _ _)⟩

set_option maxRecDepth 100000 in
set_option maxHeartbeats 1000000 in
theorem refmay_4a0 (k : Int) (t x : ByteArray) (ht : t.size ≤ 40000) (hx : x.size ≤ 40000) (w : World) (hA : t.size ≤ 4000) (hv : valid (bs t) = true) :
    Calls Tryz.prog 34 #[termV 4 t x] w fun e w' => e = .returned (.bool (tagL (bs x))) ∧ Below w.heap.size w w' := by
  have d4 : decide ((t.size : Int) ≤ 4000) = true := by simp; omega
  have CV := fun W => refvalid_any t ht W
  rw [hv] at CV
  clear hv
  have CI := fun W => reftag_any x hx W
  generalize tagL (bs x) = g at *
  go_enter Tryz.func34, Tryz.ntmps34
  go_wp2_with (first | (go_at_call 62; refine (CV _).mono ?_; rintro e w2 ⟨rfl, hB2⟩; obtain ⟨d0, d1, d2⟩ := box_cells2 hB2) | (go_at_call 65; refine (CI _).mono ?_; rintro e w3 ⟨rfl, rfl⟩))
  go_ret
  exact ⟨rfl, text_below hB2 (Below.refl _ _)⟩

set_option maxRecDepth 100000 in
set_option maxHeartbeats 1000000 in
theorem refmay_5a0 (k : Int) (t x : ByteArray) (ht : t.size ≤ 40000) (hx : x.size ≤ 40000) (w : World) (hA : t.size ≤ 4000) (hv : valid (bs t) = true) (hi : isIRIB (bs x) = true) (hx0 : x = ⟨#[104, 116, 116, 112, 58, 47, 47, 119, 119, 119, 46, 119, 51, 46, 111, 114, 103, 47, 50, 48, 48, 49, 47, 88, 77, 76, 83, 99, 104, 101, 109, 97, 35, 115, 116, 114, 105, 110, 103]⟩) :
    Calls Tryz.prog 34 #[termV 5 t x] w fun e w' => e = .returned (.bool (false)) ∧ Below w.heap.size w w' := by
  have d4 : decide ((t.size : Int) ≤ 4000) = true := by simp; omega
  have CV := fun W => refvalid_any t ht W
  rw [hv] at CV
  clear hv
  have CI := fun W => refIRI_any x hx W
  rw [hi] at CI
  subst hx0
  clear hi
  go_enter Tryz.func34, Tryz.ntmps34
  go_wp2_with (first | (go_at_call 62; refine (CV _).mono ?_; rintro e w2 ⟨rfl, hB2⟩; obtain ⟨d0, d1, d2⟩ := box_cells2 hB2) | (go_at_call 63; refine (CI _).mono ?_; rintro e w3 ⟨rfl, hB3⟩; have q0 := cell_kept2 hB3 d0; have q1 := cell_kept2 hB3 d1; have q2 := cell_kept2 hB3 d2))
  go_ret
  exact ⟨rfl, text_below hB2 hB3⟩

set_option maxRecDepth 100000 in
set_option maxHeartbeats 1000000 in
theorem refmay_5a1 (k : Int) (t x : ByteArray) (ht : t.size ≤ 40000) (hx : x.size ≤ 40000) (w : World) (hA : t.size ≤ 4000) (hv : valid (bs t) = true) (hi : isIRIB (bs x) = true) (hx0 : bs x ≠ xsd) :
    Calls Tryz.prog 34 #[termV 5 t x] w fun e w' => e = .returned (.bool (true)) ∧ Below w.heap.size w w' := by
  have d4 : decide ((t.size : Int) ≤ 4000) = true := by simp; omega
  have CV := fun W => refvalid_any t ht W
  rw [hv] at CV
  clear hv
  have CI := fun W => refIRI_any x hx W
  rw [hi] at CI
  have hne := xsd_ne hx0
  clear hi hx0
  go_enter Tryz.func34, Tryz.ntmps34
  go_wp2_with (first | (go_at_call 62; refine (CV _).mono ?_; rintro e w2 ⟨rfl, hB2⟩; obtain ⟨d0, d1, d2⟩ := box_cells2 hB2) | (go_at_call 63; refine (CI _).mono ?_; rintro e w3 ⟨rfl, hB3⟩; have q0 := cell_kept2 hB3 d0; have q1 := cell_kept2 hB3 d1; have q2 := cell_kept2 hB3 d2))
  go_ret
  exact ⟨ret_bool (by simpa using hne), text_below hB2 hB3⟩

set_option maxRecDepth 100000 in
set_option maxHeartbeats 1000000 in
theorem refmay_5a3 (k : Int) (t x : ByteArray) (ht : t.size ≤ 40000) (hx : x.size ≤ 40000) (w : World) (hA : t.size ≤ 4000) (hv : valid (bs t) = true) (hi : isIRIB (bs x) = false) :
    Calls Tryz.prog 34 #[termV 5 t x] w fun e w' => e = .returned (.bool (false)) ∧ Below w.heap.size w w' := by
  have d4 : decide ((t.size : Int) ≤ 4000) = true := by simp; omega
  have CV := fun W => refvalid_any t ht W
  rw [hv] at CV
  clear hv
  have CI := fun W => refIRI_any x hx W
  rw [hi] at CI
  clear hi
  go_enter Tryz.func34, Tryz.ntmps34
  go_wp2_with (first | (go_at_call 62; refine (CV _).mono ?_; rintro e w2 ⟨rfl, hB2⟩; obtain ⟨d0, d1, d2⟩ := box_cells2 hB2) | (go_at_call 63; refine (CI _).mono ?_; rintro e w3 ⟨rfl, hB3⟩; have q0 := cell_kept2 hB3 d0; have q1 := cell_kept2 hB3 d1; have q2 := cell_kept2 hB3 d2))
  go_ret
  exact ⟨rfl, text_below hB2 hB3⟩

set_option maxRecDepth 100000 in
set_option maxHeartbeats 1000000 in
theorem refmay_oa (k : Int) (t x : ByteArray) (ht : t.size ≤ 40000) (hx : x.size ≤ 40000) (w : World) (hA : t.size ≤ 4000) (h1 : (k == 1) = false) (h2 : (k == 2) = false) (h3 : (k == 3) = false) (h4 : (k == 4) = false) (h5 : (k == 5) = false) :
    Calls Tryz.prog 34 #[termV k t x] w fun e w' => e = .returned (.bool (false)) ∧ Below w.heap.size w w' := by
  have d4 : decide ((t.size : Int) ≤ 4000) = true := by simp; omega
  have CV := fun W => refvalid_any t ht W
  generalize valid (bs t) = v at *
  go_enter Tryz.func34, Tryz.ntmps34
  go_wp2_with (first | (go_at_call 62; refine (CV _).mono ?_; rintro e w2 ⟨rfl, hB2⟩; obtain ⟨d0, d1, d2⟩ := box_cells2 hB2))
  go_ret
  exact ⟨rfl, text_below hB2 (Below.refl _ _)⟩

set_option maxRecDepth 100000 in
set_option maxHeartbeats 1000000 in
theorem refmay_1b0 (k : Int) (t x : ByteArray) (ht : t.size ≤ 40000) (hx : x.size ≤ 40000) (w : World) (hA : ¬ t.size ≤ 4000) (hi : isIRIB (bs t) = true) (hx0 : x = ByteArray.empty) :
    Calls Tryz.prog 34 #[termV 1 t x] w fun e w' => e = .returned (.bool (true)) ∧ Below w.heap.size w w' := by
  have d4 : decide ((t.size : Int) ≤ 4000) = false := by simp; omega
  have CI := fun W => refIRI_any t ht W
  rw [hi] at CI
  have he : ByteArray.empty.toList.isEmpty = true := by rw [← decide_eq_emptyBytes]; simp
  subst hx0
  clear hi
  go_enter Tryz.func34, Tryz.ntmps34
  go_wp2_with (first | (go_at_call 63; refine (CI _).mono ?_; rintro e w3 ⟨rfl, hB3⟩; obtain ⟨q0, q1, q2⟩ := box_cells2 hB3))
  go_ret
  exact ⟨rfl, text_below (Below.refl _ _) hB3⟩

set_option maxRecDepth 100000 in
set_option maxHeartbeats 1000000 in
theorem refmay_1b1 (k : Int) (t x : ByteArray) (ht : t.size ≤ 40000) (hx : x.size ≤ 40000) (w : World) (hA : ¬ t.size ≤ 4000) (hi : isIRIB (bs t) = true) (hx0 : 0 < x.size) :
    Calls Tryz.prog 34 #[termV 1 t x] w fun e w' => e = .returned (.bool (false)) ∧ Below w.heap.size w w' := by
  have d4 : decide ((t.size : Int) ≤ 4000) = false := by simp; omega
  have CI := fun W => refIRI_any t ht W
  rw [hi] at CI
  have he : x.toList.isEmpty = false := nonempty hx0
  clear hi
  go_enter Tryz.func34, Tryz.ntmps34
  go_wp2_with (first | (go_at_call 63; refine (CI _).mono ?_; rintro e w3 ⟨rfl, hB3⟩; obtain ⟨q0, q1, q2⟩ := box_cells2 hB3))
  go_ret
  exact ⟨rfl, text_below (Below.refl _ _) hB3⟩

set_option maxRecDepth 100000 in
set_option maxHeartbeats 1000000 in
theorem refmay_1b2 (k : Int) (t x : ByteArray) (ht : t.size ≤ 40000) (hx : x.size ≤ 40000) (w : World) (hA : ¬ t.size ≤ 4000) (hi : isIRIB (bs t) = false) :
    Calls Tryz.prog 34 #[termV 1 t x] w fun e w' => e = .returned (.bool (false)) ∧ Below w.heap.size w w' := by
  have d4 : decide ((t.size : Int) ≤ 4000) = false := by simp; omega
  have CI := fun W => refIRI_any t ht W
  rw [hi] at CI
  clear hi
  go_enter Tryz.func34, Tryz.ntmps34
  go_wp2_with (first | (go_at_call 63; refine (CI _).mono ?_; rintro e w3 ⟨rfl, hB3⟩; obtain ⟨q0, q1, q2⟩ := box_cells2 hB3))
  go_ret
  exact ⟨rfl, text_below (Below.refl _ _) hB3⟩

set_option maxRecDepth 100000 in
set_option maxHeartbeats 1000000 in
theorem refmay_2b0 (k : Int) (t x : ByteArray) (ht : t.size ≤ 40000) (hx : x.size ≤ 40000) (w : World) (hA : ¬ t.size ≤ 4000) (hi : isBlankB (bs t) = true) (hx0 : x = ByteArray.empty) :
    Calls Tryz.prog 34 #[termV 2 t x] w fun e w' => e = .returned (.bool (true)) ∧ Below w.heap.size w w' := by
  have d4 : decide ((t.size : Int) ≤ 4000) = false := by simp; omega
  have CI := fun W => refWord_any t ht W
  rw [hi] at CI
  have he : ByteArray.empty.toList.isEmpty = true := by rw [← decide_eq_emptyBytes]; simp
  subst hx0
  clear hi
  go_enter Tryz.func34, Tryz.ntmps34
  go_wp2_with (first | (go_at_call 64; refine (CI _).mono ?_; rintro e w3 ⟨rfl, rfl⟩))
  go_ret
  exact ⟨rfl, text_below (Below.refl _ _) (Below.refl _ _)⟩

set_option maxRecDepth 100000 in
set_option maxHeartbeats 1000000 in
theorem refmay_2b1 (k : Int) (t x : ByteArray) (ht : t.size ≤ 40000) (hx : x.size ≤ 40000) (w : World) (hA : ¬ t.size ≤ 4000) (hi : isBlankB (bs t) = true) (hx0 : 0 < x.size) :
    Calls Tryz.prog 34 #[termV 2 t x] w fun e w' => e = .returned (.bool (false)) ∧ Below w.heap.size w w' := by
  have d4 : decide ((t.size : Int) ≤ 4000) = false := by simp; omega
  have CI := fun W => refWord_any t ht W
  rw [hi] at CI
  have he : x.toList.isEmpty = false := nonempty hx0
  clear hi
  go_enter Tryz.func34, Tryz.ntmps34
  go_wp2_with (first | (go_at_call 64; refine (CI _).mono ?_; rintro e w3 ⟨rfl, rfl⟩))
  go_ret
  exact ⟨rfl, text_below (Below.refl _ _) (Below.refl _ _)⟩

set_option maxRecDepth 100000 in
set_option maxHeartbeats 1000000 in
theorem refmay_2b2 (k : Int) (t x : ByteArray) (ht : t.size ≤ 40000) (hx : x.size ≤ 40000) (w : World) (hA : ¬ t.size ≤ 4000) (hi : isBlankB (bs t) = false) :
    Calls Tryz.prog 34 #[termV 2 t x] w fun e w' => e = .returned (.bool (false)) ∧ Below w.heap.size w w' := by
  have d4 : decide ((t.size : Int) ≤ 4000) = false := by simp; omega
  have CI := fun W => refWord_any t ht W
  rw [hi] at CI
  clear hi
  go_enter Tryz.func34, Tryz.ntmps34
  go_wp2_with (first | (go_at_call 64; refine (CI _).mono ?_; rintro e w3 ⟨rfl, rfl⟩))
  go_ret
  exact ⟨rfl, text_below (Below.refl _ _) (Below.refl _ _)⟩

set_option maxRecDepth 100000 in
set_option maxHeartbeats 1000000 in
theorem refmay_3b (k : Int) (t x : ByteArray) (ht : t.size ≤ 40000) (hx : x.size ≤ 40000) (w : World) (hA : ¬ t.size ≤ 4000) :
    Calls Tryz.prog 34 #[termV 3 t x] w fun e w' => e = .returned (.bool (false)) ∧ Below w.heap.size w w' := by
  have d4 : decide ((t.size : Int) ≤ 4000) = false := by simp; omega
  go_enter Tryz.func34, Tryz.ntmps34
  go_wp2
  go_ret
  exact ⟨rfl, text_below (Below.refl _ _) (Below.refl _ _)⟩

set_option maxRecDepth 100000 in
set_option maxHeartbeats 1000000 in
theorem refmay_4b (k : Int) (t x : ByteArray) (ht : t.size ≤ 40000) (hx : x.size ≤ 40000) (w : World) (hA : ¬ t.size ≤ 4000) :
    Calls Tryz.prog 34 #[termV 4 t x] w fun e w' => e = .returned (.bool (false)) ∧ Below w.heap.size w w' := by
  have d4 : decide ((t.size : Int) ≤ 4000) = false := by simp; omega
  go_enter Tryz.func34, Tryz.ntmps34
  go_wp2
  go_ret
  exact ⟨rfl, text_below (Below.refl _ _) (Below.refl _ _)⟩

set_option maxRecDepth 100000 in
set_option maxHeartbeats 1000000 in
theorem refmay_5b (k : Int) (t x : ByteArray) (ht : t.size ≤ 40000) (hx : x.size ≤ 40000) (w : World) (hA : ¬ t.size ≤ 4000) :
    Calls Tryz.prog 34 #[termV 5 t x] w fun e w' => e = .returned (.bool (false)) ∧ Below w.heap.size w w' := by
  have d4 : decide ((t.size : Int) ≤ 4000) = false := by simp; omega
  go_enter Tryz.func34, Tryz.ntmps34
  go_wp2
  go_ret
  exact ⟨rfl, text_below (Below.refl _ _) (Below.refl _ _)⟩

set_option maxRecDepth 100000 in
set_option maxHeartbeats 1000000 in
theorem refmay_ob (k : Int) (t x : ByteArray) (ht : t.size ≤ 40000) (hx : x.size ≤ 40000) (w : World) (hA : ¬ t.size ≤ 4000) (h1 : (k == 1) = false) (h2 : (k == 2) = false) (h3 : (k == 3) = false) (h4 : (k == 4) = false) (h5 : (k == 5) = false) :
    Calls Tryz.prog 34 #[termV k t x] w fun e w' => e = .returned (.bool (false)) ∧ Below w.heap.size w w' := by
  have d4 : decide ((t.size : Int) ≤ 4000) = false := by simp; omega
  go_enter Tryz.func34, Tryz.ntmps34
  go_wp2
  go_ret
  exact ⟨rfl, text_below (Below.refl _ _) (Below.refl _ _)⟩

/-- The reference's May answers as the term's own. -/
theorem refmay_any (k : Int) (t x : ByteArray) (ht : t.size ≤ 40000) (hx : x.size ≤ 40000) (w : World) :
    Calls Tryz.prog 34 #[termV k t x] w fun e w' => e = .returned (.bool (mayS k t x)) ∧ Below w.heap.size w w' := by
  have hx01 : x = ByteArray.empty ∨ 0 < x.size := by
    by_cases h : 0 < x.size
    · exact .inr h
    · exact .inl (empty_of x (by omega))
  by_cases hA : t.size ≤ 4000
  · by_cases h1 : k = 1
    · subst h1
      have e : mayS 1 t x = (noExtra x && isIRIB (bs t)) := rfl
      rw [e]
      cases hi : isIRIB (bs t) with
      | true => rcases hx01 with rfl | h
                · exact refmay_1a0 1 t _ ht hx w hA hi rfl
                · rw [noExtra_n h]; exact refmay_1a1 1 t x ht hx w hA hi h
      | false => rw [Bool.and_false]; exact refmay_1a2 1 t x ht hx w hA hi
    by_cases h2 : k = 2
    · subst h2
      have e : mayS 2 t x = (noExtra x && isBlankB (bs t)) := rfl
      rw [e]
      cases hi : isBlankB (bs t) with
      | true => rcases hx01 with rfl | h
                · exact refmay_2a0 1 t _ ht hx w hA hi rfl
                · rw [noExtra_n h]; exact refmay_2a1 1 t x ht hx w hA hi h
      | false => rw [Bool.and_false]; exact refmay_2a2 1 t x ht hx w hA hi
    by_cases h3 : k = 3
    · subst h3
      have e : mayS 3 t x = (noExtra x && isValueB (bs t)) := rfl
      rw [e, size_of_value hA]
      cases hi : valid (bs t) with
      | true => rcases hx01 with rfl | h
                · exact refmay_3a0 1 t _ ht hx w hA hi rfl
                · rw [noExtra_n h]; exact refmay_3a1 1 t x ht hx w hA hi h
      | false => rw [Bool.and_false]; exact refmay_3a2 1 t x ht hx w hA hi
    by_cases h4 : k = 4
    · subst h4
      have e : mayS 4 t x = (isTagS x && isValueB (bs t)) := rfl
      rw [e, size_of_value hA, isTagS_eq x (by omega)]
      cases hi : valid (bs t) with
      | true => rw [Bool.and_true]; exact refmay_4a0 1 t x ht hx w hA hi
      | false => rw [Bool.and_false]; exact refmay_4a2 1 t x ht hx w hA hi
    by_cases h5 : k = 5
    · subst h5
      have e : mayS 5 t x = (isTypeB (bs x) && isValueB (bs t)) := rfl
      rw [e, size_of_value hA]
      cases hv : valid (bs t) with
      | false => rw [Bool.and_false]; exact refmay_5a2 1 t x ht hx w hA hv
      | true =>
        unfold isTypeB
        cases hi : isIRIB (bs x) with
        | false => rw [Bool.and_false, Bool.false_and]; exact refmay_5a3 1 t x ht hx w hA hv hi
        | true =>
          by_cases hq : bs x = xsd
          · rw [decide_eq_true hq]
            exact refmay_5a0 1 t x ht hx w hA hv hi (bs_inj (by rw [hq]; decide +kernel))
          · rw [decide_eq_false hq]
            exact refmay_5a1 1 t x ht hx w hA hv hi hq
    · have e : mayS k t x = false := by unfold mayS; rw [if_neg h1, if_neg h2, if_neg h3, if_neg h4, if_neg h5]
      rw [e]
      exact refmay_oa k t x ht hx w hA (by simpa using h1) (by simpa using h2) (by simpa using h3) (by simpa using h4) (by simpa using h5)
  · by_cases h1 : k = 1
    · subst h1
      have e : mayS 1 t x = (noExtra x && isIRIB (bs t)) := rfl
      rw [e]
      cases hi : isIRIB (bs t) with
      | true => rcases hx01 with rfl | h
                · exact refmay_1b0 1 t _ ht hx w hA hi rfl
                · rw [noExtra_n h]; exact refmay_1b1 1 t x ht hx w hA hi h
      | false => rw [Bool.and_false]; exact refmay_1b2 1 t x ht hx w hA hi
    by_cases h2 : k = 2
    · subst h2
      have e : mayS 2 t x = (noExtra x && isBlankB (bs t)) := rfl
      rw [e]
      cases hi : isBlankB (bs t) with
      | true => rcases hx01 with rfl | h
                · exact refmay_2b0 1 t _ ht hx w hA hi rfl
                · rw [noExtra_n h]; exact refmay_2b1 1 t x ht hx w hA hi h
      | false => rw [Bool.and_false]; exact refmay_2b2 1 t x ht hx w hA hi
    by_cases h3 : k = 3
    · subst h3
      have e : mayS 3 t x = (noExtra x && isValueB (bs t)) := rfl
      rw [e, size_of_long hA, Bool.and_false]
      exact refmay_3b 1 t x ht hx w hA
    by_cases h4 : k = 4
    · subst h4
      have e : mayS 4 t x = (isTagS x && isValueB (bs t)) := rfl
      rw [e, size_of_long hA, Bool.and_false]
      exact refmay_4b 1 t x ht hx w hA
    by_cases h5 : k = 5
    · subst h5
      have e : mayS 5 t x = (isTypeB (bs x) && isValueB (bs t)) := rfl
      rw [e, size_of_long hA, Bool.and_false]
      exact refmay_5b 1 t x ht hx w hA
    · have e : mayS k t x = false := by unfold mayS; rw [if_neg h1, if_neg h2, if_neg h3, if_neg h4, if_neg h5]
      rw [e]
      exact refmay_ob k t x ht hx w hA (by simpa using h1) (by simpa using h2) (by simpa using h3) (by simpa using h4) (by simpa using h5)
end Go.Proofs.YtachijkjcbajmaaGreatDoor
