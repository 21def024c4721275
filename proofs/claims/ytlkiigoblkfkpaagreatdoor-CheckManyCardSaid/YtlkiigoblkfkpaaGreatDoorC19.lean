/-
  WHAT THE PROOF STANDS ON, a part of it: TermParts.
-/
import Derived.Test.YtlkiigoblkfkpaaGreatDoorC18
import Derived.WalkSpells
import Derived.BigGuardPart
/-
  CONTRACTS OF isIRI, isBlank, isValue, isType.
-/

namespace Go.Proofs.YtlkiigoblkfkpaaGreatDoor
open Go.RowKit
open Utf Term

theorem each_any (k : Nat) (P : Int → Bool) (hk : Tells k P) (s : ByteArray) (hs : s.size ≤ 1000000000000) (w : World) :
    Calls Tryz.prog 103 #[.string s, .func (.func k) #[] #[]] w fun e W' => e = .returned (.bool (eachB P (bs s))) ∧ Below w.heap.size w W' :=
  callsIn_wide.1 (each_in 5 (Nat.le_refl _) k P hk s hs w)

theorem tells_iri : Tells 104 iriC := ⟨enters_of Tryz.func104 (by kernel_rfl) rfl, fun r W h => isOfIRI_any r W h⟩
theorem tells_letterDigit : Tells 106 letterDigit :=
  ⟨enters_of Tryz.func106 (by kernel_rfl) rfl, fun r W _ => (isLetterOrDigit_any r W).mono fun e w' ⟨he, hw⟩ => ⟨he, hw ▸ Below.refl _ _⟩⟩
theorem tells_small : Tells 107 small :=
  ⟨enters_of Tryz.func107 (by kernel_rfl) rfl, fun r W _ => (isSmall_any r W).mono fun e w' ⟨he, hw⟩ => ⟨he, hw ▸ Below.refl _ _⟩⟩
theorem tells_smallDigit : Tells 109 smallDigit :=
  ⟨enters_of Tryz.func109 (by kernel_rfl) rfl, fun r W _ => (isSmallOrDigit_any r W).mono fun e w' ⟨he, hw⟩ => ⟨he, hw ▸ Below.refl _ _⟩⟩

namespace Term
def isIRIB (l : List Int) : Bool := decide (0 < l.length) && decide (l.length ≤ 1000) && eachB iriC l
def isBlankB (l : List Int) : Bool := decide (0 < l.length) && decide (l.length ≤ 64) && letter (l.headD 0) && eachB letterDigit l
def isValueB (l : List Int) : Bool := decide (l.length ≤ 4000) && valid l
def xsd : List Int := [104, 116, 116, 112, 58, 47, 47, 119, 119, 119, 46, 119, 51, 46, 111, 114, 103, 47, 50, 48, 48, 49, 47, 88, 77, 76, 83, 99, 104, 101, 109, 97, 35, 115, 116, 114, 105, 110, 103]
def isTypeB (l : List Int) : Bool := !(decide (l = xsd)) && isIRIB l
end Term
theorem empty_of (s : ByteArray) (h0 : s.size = 0) : s = ByteArray.empty := by
  apply ByteArray.ext
  apply Array.eq_empty_of_size_eq_zero
  exact h0

theorem isValue_any (s : ByteArray) (hs : s.size ≤ 9223372036854775807) (w : World) :
    Calls Tryz.prog 92 #[.string s] w fun e W' => e = .returned (.bool (isValueB (bs s))) ∧ Below w.heap.size w W' := by
  have e : isValueB (bs s) = (decide (s.size ≤ 4000) && valid (bs s)) := by unfold isValueB; rw [bs_length]
  rw [e]
  clear e
  by_cases h : s.size ≤ 4000
  · have hd : decide ((s.size : Int) ≤ 4000) = true := by simp; omega
    have C := valid_any s w (by omega)
    generalize valid (bs s) = v at *
    have H := Lib.hid h
    go_enter Tryz.func92, Tryz.ntmps92
    go_wp2_with (go_at_call 102; refine C.mono ?_; rintro e w' ⟨rfl, hB⟩)
    go_ret
    exact ⟨ret_bool (by simp [h]), hB⟩
  · have hd : decide ((s.size : Int) ≤ 4000) = false := by simp; omega
    go_enter Tryz.func92, Tryz.ntmps92
    go_wp2
    go_ret
    exact ⟨ret_bool (by simp [h]), Below.refl _ _⟩

theorem isIRI_any (s : ByteArray) (hs : s.size ≤ 9223372036854775807) (w : World) :
    Calls Tryz.prog 93 #[.string s] w fun e W' => e = .returned (.bool (isIRIB (bs s))) ∧ Below w.heap.size w W' := by
  by_cases h0 : 0 < s.size
  · have e : isIRIB (bs s) = (decide (s.size ≤ 1000) && eachB iriC (bs s)) := by unfold isIRIB; rw [bs_length]; simp [h0]
    rw [e]
    clear e
    have hne : s.toList.isEmpty = false := nonempty h0
    by_cases h : s.size ≤ 1000
    · have hd : decide ((s.size : Int) ≤ 1000) = true := by simp; omega
      have C := each_any _ _ tells_iri s (by omega) w
      generalize eachB iriC (bs s) = v at *
      go_enter Tryz.func93, Tryz.ntmps93
      go_wp2_with (go_at_call 103; refine C.mono ?_; rintro e w' ⟨rfl, hB⟩)
      go_ret
      exact ⟨ret_bool (by simp [h]), hB⟩
    · have hd : decide ((s.size : Int) ≤ 1000) = false := by simp; omega
      go_enter Tryz.func93, Tryz.ntmps93
      go_wp2
      go_ret
      exact ⟨ret_bool (by simp [h]), Below.refl _ _⟩
  · obtain rfl := empty_of s (by omega)
    go_enter Tryz.func93, Tryz.ntmps93
    go_wp2
    go_ret
    exact ⟨ret_bool (by rfl), Below.refl _ _⟩

theorem isType_any (s : ByteArray) (hs : s.size ≤ 9223372036854775807) (w : World) :
    Calls Tryz.prog 96 #[.string s] w fun e W' => e = .returned (.bool (isTypeB (bs s))) ∧ Below w.heap.size w W' := by
  by_cases hx : bs s = xsd
  · have e : s = ⟨#[104, 116, 116, 112, 58, 47, 47, 119, 119, 119, 46, 119, 51, 46, 111, 114, 103, 47, 50, 48, 48, 49, 47, 88, 77, 76, 83, 99, 104, 101, 109, 97, 35, 115, 116, 114, 105, 110, 103]⟩ := bs_inj (by rw [hx]; decide +kernel)
    rw [hx]
    subst e
    clear hx hs
    go_enter Tryz.func96, Tryz.ntmps96
    go_wp2
    go_ret
    exact ⟨ret_bool (by unfold isTypeB; simp), Below.refl _ _⟩
  · have e : isTypeB (bs s) = isIRIB (bs s) := by unfold isTypeB; simp [hx]
    rw [e]
    clear e
    have hne : (s.toList != (⟨#[104, 116, 116, 112, 58, 47, 47, 119, 119, 119, 46, 119, 51, 46, 111, 114, 103, 47, 50, 48, 48, 49, 47, 88, 77, 76, 83, 99, 104, 101, 109, 97, 35, 115, 116, 114, 105, 110, 103]⟩ : ByteArray).toList) = true := by
      rw [bne, str_beq]
      have hk : bs (⟨#[104, 116, 116, 112, 58, 47, 47, 119, 119, 119, 46, 119, 51, 46, 111, 114, 103, 47, 50, 48, 48, 49, 47, 88, 77, 76, 83, 99, 104, 101, 109, 97, 35, 115, 116, 114, 105, 110, 103]⟩ : ByteArray) = xsd := by decide +kernel
      rw [hk]
      simpa using hx
    have hne2 : ¬ s.toList = [104, 116, 116, 112, 58, 47, 47, 119, 119, 119, 46, 119, 51, 46, 111, 114, 103, 47, 50, 48, 48, 49, 47, 88, 77, 76, 83, 99, 104, 101, 109, 97, 35, 115, 116, 114, 105, 110, 103] := by
      intro h
      rw [h, toList_eq] at hne
      simp at hne
    have C := isIRI_any s hs w
    generalize isIRIB (bs s) = v at *
    clear hx hne
    go_enter Tryz.func96, Tryz.ntmps96
    go_wp2_with (go_at_call 93; refine C.mono ?_; rintro e w' ⟨rfl, hB⟩)
    go_ret
    exact ⟨rfl, hB⟩

theorem isBlank_any (s : ByteArray) (hs : s.size ≤ 9223372036854775807) (w : World) :
    Calls Tryz.prog 94 #[.string s] w fun e W' => e = .returned (.bool (isBlankB (bs s))) ∧ Below w.heap.size w W' := by
  by_cases h0 : 0 < s.size
  · have e : isBlankB (bs s) = (decide (s.size ≤ 64) && letter (s[0].toNat : Int) && eachB letterDigit (bs s)) := by
      unfold isBlankB; rw [bs_length, bs_head s h0]; simp [h0]
    rw [e]
    clear e
    have hne : s.toList.isEmpty = false := nonempty h0
    by_cases h : s.size ≤ 64
    · have hd : decide ((s.size : Int) ≤ 64) = true := by simp; omega
      have C := each_any _ _ tells_letterDigit s (by omega) w
      generalize eachB letterDigit (bs s) = v at *
      have hw : wrap64 (s[0].toNat : Int) = s[0].toNat := IntWalk.wrap64_in _ (by have := byte_bd s[0]; omega)
      have CL := isLetter_any (s[0].toNat : Int) w
      cases hl : letter (s[0].toNat : Int) with
      | true =>
        rw [hl] at CL
        clear hl
        go_enter Tryz.func94, Tryz.ntmps94
        go_wp2_with (first | (go_at_call 105; refine CL.mono ?_; rintro e w' ⟨rfl, rfl⟩) | (go_at_call 103; refine C.mono ?_; rintro e w' ⟨rfl, hB⟩))
        go_ret
        exact ⟨ret_bool (by simp [h]), hB⟩
      | false =>
        rw [hl] at CL
        clear hl
        go_enter Tryz.func94, Tryz.ntmps94
        go_wp2_with (first | (go_at_call 105; refine CL.mono ?_; rintro e w' ⟨rfl, rfl⟩) | (go_at_call 103; refine C.mono ?_; rintro e w' ⟨rfl, hB⟩))
        go_ret
        exact ⟨ret_bool (by simp), Below.refl _ _⟩
    · have hd : decide ((s.size : Int) ≤ 64) = false := by simp; omega
      go_enter Tryz.func94, Tryz.ntmps94
      go_wp2
      go_ret
      exact ⟨ret_bool (by simp [h]), Below.refl _ _⟩
  · obtain rfl := empty_of s (by omega)
    go_enter Tryz.func94, Tryz.ntmps94
    go_wp2
    go_ret
    exact ⟨ret_bool (by rfl), Below.refl _ _⟩
end Go.Proofs.YtlkiigoblkfkpaaGreatDoor

