/-
  CONTRACTS OF THE REFERENCE's IRI AND Word.
-/
import Derived.Test.YtdcfjopijblndaaDoorRefLeaf
namespace Go.Proofs.YtdcfjopijblndaaDoor
open Go.RowKit
open Utf Term
set_option linter.unusedVariables false

theorem iriB_eq {l : List Int} (hl : l.length ≤ 1000000000000) : isIRIB l = (decide (0 < l.length) && decide (l.length ≤ 1000) && (valid l && l.all iriC)) := by
  unfold isIRIB; rw [eachB_eq iriC_high hl]

namespace Term
abbrev sixS : ByteArray := ⟨#[60, 62, 123, 125, 124, 94]⟩
theorem iri_split : ∀ c : Fin 256, iriC (c.val : Int) = !(decide ((c.val : Int) ≤ 32) || (bs sixS).contains (c.val : Int) || ((c.val : Int) == 34) || ((c.val : Int) == 92) || ((c.val : Int) == 96)) := by decide +kernel
end Term

set_option maxRecDepth 100000 in
set_option maxHeartbeats 2000000 in
theorem refIRI_loop (s : ByteArray) (hs : s.size ≤ 9000) (h0 : 1 ≤ s.size) (h1 : s.size ≤ 1000) (hv : valid (bs s) = true) (w : World) :
    Calls Tryd.prog 39 #[.string s] w fun e w' => e = .returned (.bool ((bs s).all iriC)) ∧ Below w.heap.size w w' := by
  have C := refvalid_any s hs w
  rw [hv] at C
  have d0 : decide ((s.size : Int) < 1) = false := by simp; omega
  have d1 : decide ((1000 : Int) < s.size) = false := by simp; omega
  clear hv
  go_enter Tryd.func39, Tryd.ntmps39
  go_wp2_with (go_at_call 38; refine C.mono ?_; rintro e w2 ⟨rfl, hB⟩)
  go_loop [3] (fun i => ∃ k : Nat, k ≤ s.size ∧ i = .int .i64 k ∧ ((bs s).take k).all iriC = true) (fun i => s.size - (intOf i).toNat)
  case atStart => exact ⟨0, Nat.zero_le _, rfl, rfl⟩
  case round =>
    obtain ⟨k, hk, rfl, hno⟩ := hrel
    have HN := Lib.hid hno
    clear hno C
    by_cases hlt : k < s.size
    · have HT := Lib.hid (bs_take_step s k hlt)
      have HM : Hid ((s[k].toNat : Int) ∈ bs s) := Lib.hid (by
        have := bs_get s k hlt
        exact List.mem_of_getElem? this)
      have HX := Lib.hid (iri_split ⟨s[k].toNat, s[k].toNat_lt⟩)
      have CI := fun W => in_any (s[k].toNat : Int) sixS (by decide) W
      dsimp only at HX
      generalize hx : (s[k].toNat : Int) = x at *
      have HF : Hid (iriC x = false → (bs s).all iriC = false) := Lib.hid (fun h => by
        rw [List.all_eq_false]
        exact ⟨x, HM.out, by simp [h]⟩)
      have HG : Hid (iriC x = true → ((bs s).take (k + 1)).all iriC = true) := Lib.hid (fun h => by
        rw [HT.out, List.all_append, HN.out]
        simpa using h)
      clear HT HN HM
      by_cases c1 : x ≤ 32
      · have f1 : decide ((s[k].toNat : Int) ≤ 32) = true := by rw [hx]; simpa using c1
        have HR : Hid ((bs s).all iriC = false) := Lib.hid (HF.out (by rw [HX.out]; simp [c1]))
        clear hx c1
        go_wp2
        go_ret
        exact ⟨ret_bool HR.out.symm, hB⟩
      · have f1 : decide ((s[k].toNat : Int) ≤ 32) = false := by rw [hx]; simpa using c1
        cases c2 : (bs sixS).contains x with
        | true =>
          have HR : Hid ((bs s).all iriC = false) := Lib.hid (HF.out (by rw [HX.out, c2]; simp))
          rw [c2] at CI
          subst hx
          clear c1 c2
          go_wp2_with (go_at_call 62; refine (CI _).mono ?_; rintro e w3 ⟨rfl, rfl⟩)
          go_ret
          exact ⟨ret_bool HR.out.symm, hB⟩
        | false =>
          rw [c2] at CI
          have HC2 := Lib.hid c2
          clear c2
          by_cases c3 : x = 34 ∨ x = 92 ∨ x = 96
          · have HR : Hid ((bs s).all iriC = false) := Lib.hid (HF.out (by rw [HX.out, HC2.out]; rcases c3 with rfl | rfl | rfl <;> rfl))
            rcases c3 with c3 | c3 | c3
            · have f3 : ((s[k].toNat : Int) == 34) = true := by rw [hx]; simpa using c3
              subst hx
              clear c1 c3
              go_wp2_with (go_at_call 62; refine (CI _).mono ?_; rintro e w3 ⟨rfl, rfl⟩)
              go_ret
              exact ⟨ret_bool HR.out.symm, hB⟩
            · have f3 : ((s[k].toNat : Int) == 34) = false := by rw [hx]; simp; omega
              have f4 : ((s[k].toNat : Int) == 92) = true := by rw [hx]; simpa using c3
              subst hx
              clear c1 c3
              go_wp2_with (go_at_call 62; refine (CI _).mono ?_; rintro e w3 ⟨rfl, rfl⟩)
              go_ret
              exact ⟨ret_bool HR.out.symm, hB⟩
            · have f3 : ((s[k].toNat : Int) == 34) = false := by rw [hx]; simp; omega
              have f4 : ((s[k].toNat : Int) == 92) = false := by rw [hx]; simp; omega
              have f5 : ((s[k].toNat : Int) == 96) = true := by rw [hx]; simpa using c3
              subst hx
              clear c1 c3
              go_wp2_with (go_at_call 62; refine (CI _).mono ?_; rintro e w3 ⟨rfl, rfl⟩)
              go_ret
              exact ⟨ret_bool HR.out.symm, hB⟩
          · have f3 : ((s[k].toNat : Int) == 34) = false := by rw [hx]; simp; omega
            have f4 : ((s[k].toNat : Int) == 92) = false := by rw [hx]; simp; omega
            have f5 : ((s[k].toNat : Int) == 96) = false := by rw [hx]; simp; omega
            have HR : Hid (((bs s).take (k + 1)).all iriC = true) := Lib.hid (HG.out (by
              rw [HX.out, HC2.out]
              rw [hx] at f3 f4 f5
              rw [f3, f4, f5]
              simpa using c1))
            subst hx
            clear c1 c3
            go_wp2_with (go_at_call 62; refine (CI _).mono ?_; rintro e w3 ⟨rfl, rfl⟩)
            go_round
            case rel => exact ⟨k + 1, by omega, by go_num, HR.out⟩
            case measure => simp [intOf]; omega
    · obtain rfl : k = s.size := by omega
      rw [bs_take_all] at HN
      go_wp2
      go_ret
      exact ⟨ret_bool HN.out.symm, hB⟩

theorem refIRI_any (s : ByteArray) (hs : s.size ≤ 9000) (w : World) :
    Calls Tryd.prog 39 #[.string s] w fun e w' => e = .returned (.bool (isIRIB (bs s))) ∧ Below w.heap.size w w' := by
  rw [iriB_eq (by rw [bs_length]; omega), bs_length]
  by_cases h0 : 1 ≤ s.size
  · by_cases h1 : s.size ≤ 1000
    · cases hv : valid (bs s) with
      | true =>
        have e : (decide (0 < s.size) && decide (s.size ≤ 1000) && (true && (bs s).all iriC)) = (bs s).all iriC := by simp [h1]; omega
        rw [e]
        exact refIRI_loop s hs h0 h1 hv w
      | false =>
        have C := refvalid_any s hs w
        rw [hv] at C
        have d0 : decide ((s.size : Int) < 1) = false := by simp; omega
        have d1 : decide ((1000 : Int) < s.size) = false := by simp; omega
        clear hv
        go_enter Tryd.func39, Tryd.ntmps39
        go_wp2_with (go_at_call 38; refine C.mono ?_; rintro e w2 ⟨rfl, hB⟩)
        go_ret
        exact ⟨ret_bool (by simp), hB⟩
    · have d0 : decide ((s.size : Int) < 1) = false := by simp; omega
      have d1 : decide ((1000 : Int) < s.size) = true := by simp; omega
      have HR : Hid ((decide (0 < s.size) && decide (s.size ≤ 1000) && (valid (bs s) && (bs s).all iriC)) = false) := Lib.hid (by simp [h1])
      go_enter Tryd.func39, Tryd.ntmps39
      go_wp2
      go_ret
      exact ⟨ret_bool HR.out.symm, Below.refl _ _⟩
  · have d0 : decide ((s.size : Int) < 1) = true := by simp; omega
    have HR : Hid ((decide (0 < s.size) && decide (s.size ≤ 1000) && (valid (bs s) && (bs s).all iriC)) = false) := Lib.hid (by
      rw [decide_eq_false (by omega)]; rfl)
    go_enter Tryd.func39, Tryd.ntmps39
    go_wp2
    go_ret
    exact ⟨ret_bool HR.out.symm, Below.refl _ _⟩

/-- Letters and digits, a letter first. -/
theorem blankB_eq {l : List Int} (hl : l.length ≤ 1000000000000) (hb : ∀ c ∈ l, IsByte c) : isBlankB l = (decide (0 < l.length) && decide (l.length ≤ 64) && letter (l.headD 0) && l.all letterDigit) := by
  unfold isBlankB; rw [eachB_low letterDigit_high hl hb]

set_option maxRecDepth 100000 in
set_option maxHeartbeats 2000000 in
theorem refWord_loop (s : ByteArray) (h0 : 1 ≤ s.size) (h1 : s.size ≤ 64) (hl : letter (s[0].toNat : Int) = true) (w : World) :
    Calls Tryd.prog 40 #[.string s, .int .i64 64] w fun e w' => e = .returned (.bool ((bs s).all letterDigit)) ∧ w = w' := by
  have C := fun W => refLetter_any (s[0].toNat : Int) W
  rw [hl] at C
  have d0 : decide ((s.size : Int) < 1) = false := by simp; omega
  have d1 : decide ((64 : Int) < s.size) = false := by simp; omega
  clear hl
  go_enter Tryd.func40, Tryd.ntmps40
  go_wp2_with (go_at_call 63; refine (C _).mono ?_; rintro e w2 ⟨rfl, rfl⟩)
  go_loop [5] (fun i => ∃ k : Nat, k ≤ s.size ∧ i = .int .i64 k ∧ ((bs s).take k).all letterDigit = true) (fun i => s.size - (intOf i).toNat)
  case atStart => exact ⟨0, Nat.zero_le _, rfl, rfl⟩
  case round =>
    obtain ⟨k, hk, rfl, hno⟩ := hrel
    have HN := Lib.hid hno
    clear hno C
    by_cases hlt : k < s.size
    · have HT := Lib.hid (bs_take_step s k hlt)
      have HM : Hid ((s[k].toNat : Int) ∈ bs s) := Lib.hid (by
        have := bs_get s k hlt
        exact List.mem_of_getElem? this)
      have CL := fun W => refLetter_any (s[k].toNat : Int) W
      have CD := fun W => refDigit_any (s[k].toNat : Int) W
      cases c1 : letter (s[k].toNat : Int) with
      | true =>
        have HR : Hid (((bs s).take (k + 1)).all letterDigit = true) := Lib.hid (by
          rw [HT.out, List.all_append, HN.out]
          simp [letterDigit, c1])
        rw [c1] at CL
        clear c1 CD
        go_wp2_with (go_at_call 63; refine (CL _).mono ?_; rintro e w3 ⟨rfl, rfl⟩)
        go_round
        case rel => exact ⟨k + 1, by omega, by go_num, HR.out⟩
        case measure => simp [intOf]; omega
      | false =>
        cases c2 : digit (s[k].toNat : Int) with
        | true =>
          have HR : Hid (((bs s).take (k + 1)).all letterDigit = true) := Lib.hid (by
            rw [HT.out, List.all_append, HN.out]
            simp [letterDigit, c1, c2])
          rw [c1] at CL
          rw [c2] at CD
          clear c1 c2
          go_wp2_with (first | (go_at_call 63; refine (CL _).mono ?_; rintro e w3 ⟨rfl, rfl⟩) | (go_at_call 64; refine (CD _).mono ?_; rintro e w3 ⟨rfl, rfl⟩))
          go_round
          case rel => exact ⟨k + 1, by omega, by go_num, HR.out⟩
          case measure => simp [intOf]; omega
        | false =>
          have HR : Hid ((bs s).all letterDigit = false) := Lib.hid (by
            rw [List.all_eq_false]
            exact ⟨_, HM.out, by simp [letterDigit, c1, c2]⟩)
          rw [c1] at CL
          rw [c2] at CD
          clear c1 c2
          go_wp2_with (first | (go_at_call 63; refine (CL _).mono ?_; rintro e w3 ⟨rfl, rfl⟩) | (go_at_call 64; refine (CD _).mono ?_; rintro e w3 ⟨rfl, rfl⟩))
          go_ret
          exact ⟨ret_bool HR.out.symm, rfl⟩
    · obtain rfl : k = s.size := by omega
      rw [bs_take_all] at HN
      go_wp2
      go_ret
      exact ⟨ret_bool HN.out.symm, rfl⟩

theorem refWord_any (s : ByteArray) (hs : s.size ≤ 9000) (w : World) :
    Calls Tryd.prog 40 #[.string s, .int .i64 64] w fun e w' => e = .returned (.bool (isBlankB (bs s))) ∧ w = w' := by
  rw [blankB_eq (by rw [bs_length]; omega) (bs_byte s), bs_length]
  by_cases h0 : 1 ≤ s.size
  · by_cases h1 : s.size ≤ 64
    · have hh : (bs s).headD 0 = (s[0].toNat : Int) := by rw [bs_head s h0]; rfl
      rw [hh]
      cases hl : letter (s[0].toNat : Int) with
      | true =>
        have e : (decide (0 < s.size) && decide (s.size ≤ 64) && true && (bs s).all letterDigit) = (bs s).all letterDigit := by simp [h1]; omega
        rw [e]
        exact refWord_loop s h0 h1 hl w
      | false =>
        have C := fun W => refLetter_any (s[0].toNat : Int) W
        rw [hl] at C
        have d0 : decide ((s.size : Int) < 1) = false := by simp; omega
        have d1 : decide ((64 : Int) < s.size) = false := by simp; omega
        clear hl hh
        go_enter Tryd.func40, Tryd.ntmps40
        go_wp2_with (go_at_call 63; refine (C _).mono ?_; rintro e w2 ⟨rfl, rfl⟩)
        go_ret
        exact ⟨ret_bool (by simp), rfl⟩
    · have d0 : decide ((s.size : Int) < 1) = false := by simp; omega
      have d1 : decide ((64 : Int) < s.size) = true := by simp; omega
      have HR : Hid ((decide (0 < s.size) && decide (s.size ≤ 64) && letter ((bs s).headD 0) && (bs s).all letterDigit) = false) := Lib.hid (by simp [h1])
      go_enter Tryd.func40, Tryd.ntmps40
      go_wp2
      go_ret
      exact ⟨ret_bool HR.out.symm, rfl⟩
  · have d0 : decide ((s.size : Int) < 1) = true := by simp; omega
    have HR : Hid ((decide (0 < s.size) && decide (s.size ≤ 64) && letter ((bs s).headD 0) && (bs s).all letterDigit) = false) := Lib.hid (by
      rw [decide_eq_false (by omega)]; rfl)
    go_enter Tryd.func40, Tryd.ntmps40
    go_wp2
    go_ret
    exact ⟨ret_bool HR.out.symm, rfl⟩
end Go.Proofs.YtdcfjopijblndaaDoor
