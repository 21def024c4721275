/-
  WHAT THE PROOF STANDS ON, a part of it: LexRefSpan, LexRefQuoted, LexRefNamed, LexRefOne.
-/
import Derived.Test.YtbcoklbfebmpoaaGreatDoorV20
import Derived.Test.YtbcoklbfebmpoaaGreatDoorV18
import Derived.Test.YtbcoklbfebmpoaaGreatDoorV22
import Derived.Test.YtbcoklbfebmpoaaGreatDoorV27
import Derived.LoopTactic
import Derived.Test.YtbcoklbfebmpoaaGreatDoorV29
/-
  CONTRACTS OF THE REFERENCE's Skip, word: exact. Written by tools/genrefspan.py.
-/

namespace Go.Proofs.YtbcoklbfebmpoaaGreatDoor
open Go.RowKit
open Utf Term Lex
set_option linter.unusedVariables false
set_option linter.unusedSimpArgs false

theorem bs_dropAt (s : ByteArray) (k : Nat) (h : k < s.size) : (bs s).drop k = (s[k].toNat : Int) :: (bs s).drop (k + 1) := by
  rw [drop_at (by rw [bs_length]; exact h), bs_getD s k h]
theorem bs_dropEnd (s : ByteArray) (k : Nat) (h : ¬ k < s.size) : (bs s).drop k = [] := List.drop_eq_nil_of_le (by rw [bs_length]; omega)

/-- Where what may be between symbols ends. -/
def SkAt (b : Bool) (s : ByteArray) (k Q : Nat) : Prop := Q = k + sk b ((bs s).drop k)
theorem sk_cons_false (c : Int) (l : List Int) : sk false (c :: l) = if isWS c = true then 1 + sk false l else if c = 35 then 1 + sk true l else 0 := rfl
theorem sk_cons_true (c : Int) (l : List Int) : sk true (c :: l) = if c = 10 then 1 + sk false l else 1 + sk true l := rfl
theorem SkAt.hash {s : ByteArray} {k Q : Nat} (h : SkAt false s k Q) (hk : k < s.size) (hc : (s[k].toNat : Int) = 35) : SkAt true s k Q := by
  unfold SkAt at *
  rw [bs_dropAt s k hk, hc] at h ⊢
  exact h
theorem SkAt.back {s : ByteArray} {k Q : Nat} (h : SkAt true s k Q) (hk : k < s.size) (hc : (s[k].toNat : Int) = 10) : SkAt false s k Q := by
  unfold SkAt at *
  rw [bs_dropAt s k hk, hc] at h ⊢
  exact h
theorem SkAt.deep {s : ByteArray} {k Q : Nat} (h : SkAt true s k Q) (hk : k < s.size) (hc : ¬ (s[k].toNat : Int) = 10) : SkAt true s (k + 1) Q := by
  unfold SkAt at *
  rw [bs_dropAt s k hk, sk_cons_true, if_neg hc] at h
  omega
theorem SkAt.stop {b : Bool} {s : ByteArray} {k Q : Nat} (h : SkAt b s k Q) (hk : ¬ k < s.size) : SkAt false s k Q := by
  unfold SkAt at *
  rw [bs_dropEnd s k hk] at h ⊢
  cases b <;> exact h
theorem SkAt.ws {s : ByteArray} {k Q : Nat} (h : SkAt false s k Q) (hk : k < s.size) (hc : (s[k].toNat : Int) = 9 ∨ (s[k].toNat : Int) = 10 ∨ (s[k].toNat : Int) = 13 ∨ (s[k].toNat : Int) = 32) : SkAt false s (k + 1) Q := by
  unfold SkAt at *
  rw [bs_dropAt s k hk, sk_cons_false, if_pos (by rcases hc with e | e | e | e <;> rw [e] <;> rfl)] at h
  omega
theorem SkAt.done {s : ByteArray} {k Q : Nat} (h : SkAt false s k Q) (hk : k < s.size) (hc : ¬ ((s[k].toNat : Int) = 9 ∨ (s[k].toNat : Int) = 10 ∨ (s[k].toNat : Int) = 13 ∨ (s[k].toNat : Int) = 32)) (h35 : ¬ (s[k].toNat : Int) = 35) : Q = k := by
  unfold SkAt at h
  rw [bs_dropAt s k hk, sk_cons_false, if_neg (by unfold isWS; simp only [Bool.or_eq_true, decide_eq_true_eq]; intro e; exact hc (by omega)), if_neg h35] at h
  exact h
theorem SkAt.over {b : Bool} {s : ByteArray} {k Q : Nat} (h : SkAt b s k Q) (hk : ¬ k < s.size) : Q = k := by
  unfold SkAt at h
  rw [bs_dropEnd s k hk] at h
  cases b <;> exact h

/-- Where a word ends. -/
def WdAt (s : ByteArray) (a0 k Q : Nat) : Prop := (a0 = k ∧ Q = k + wordE ((bs s).drop k)) ∨ (a0 < k ∧ Q = k + spanL letterDigit ((bs s).drop k))
theorem WdAt.letter {s : ByteArray} {a0 k Q : Nat} (h : WdAt s a0 k Q) (hk : k < s.size) (hc : Term.letter (s[k].toNat : Int) = true) : WdAt s a0 (k + 1) Q := by
  rcases h with ⟨rfl, h⟩ | ⟨h0, h⟩
  · rw [bs_dropAt s _ hk, wordE_yes hc, span_succ (letter_ld hc)] at h
    exact .inr ⟨by omega, by omega⟩
  · rw [bs_dropAt s _ hk, span_succ (letter_ld hc)] at h
    exact .inr ⟨by omega, by omega⟩
theorem WdAt.digit {s : ByteArray} {a0 k Q : Nat} (h : WdAt s a0 k Q) (hk : k < s.size) (ha : a0 < k) (hc : Term.digit (s[k].toNat : Int) = true) : WdAt s a0 (k + 1) Q := by
  rcases h with ⟨rfl, h⟩ | ⟨h0, h⟩
  · omega
  · rw [bs_dropAt s _ hk, span_succ (by unfold letterDigit; rw [hc, Bool.or_true])] at h
    exact .inr ⟨by omega, by omega⟩
theorem WdAt.none {s : ByteArray} {a0 k Q : Nat} (h : WdAt s a0 k Q) (hk : k < s.size) (hc : Term.letter (s[k].toNat : Int) = false) (hd : Term.digit (s[k].toNat : Int) = false) : Q = k := by
  rcases h with ⟨rfl, h⟩ | ⟨h0, h⟩
  · rw [bs_dropAt s _ hk, wordE_no hc] at h
    exact h
  · rw [bs_dropAt s _ hk, span_zero (by unfold letterDigit; rw [hc, hd]; rfl)] at h
    exact h
theorem WdAt.first {s : ByteArray} {a0 k Q : Nat} (h : WdAt s a0 k Q) (hk : k < s.size) (hc : Term.letter (s[k].toNat : Int) = false) (ha : ¬ a0 < k) : Q = k := by
  rcases h with ⟨rfl, h⟩ | ⟨h0, h⟩
  · rw [bs_dropAt s _ hk, wordE_no hc] at h
    exact h
  · omega
theorem WdAt.over {s : ByteArray} {a0 k Q : Nat} (h : WdAt s a0 k Q) (hk : ¬ k < s.size) : Q = k := by
  rcases h with ⟨rfl, h⟩ | ⟨h0, h⟩
  · rw [bs_dropEnd s _ hk] at h
    exact h
  · rw [bs_dropEnd s _ hk] at h
    exact h

set_option maxRecDepth 100000 in
set_option maxHeartbeats 4000000 in
theorem refSkip_is (s : ByteArray) (a0 : Nat) (hs : s.size ≤ 1000000000) (ha : a0 ≤ s.size) (w : World) :
    Calls Tryz.prog 17 #[.string s, .int .i64 a0] w fun e w' => e = .returned (.int .i64 ((a0 + sk false ((bs s).drop a0) : Nat) : Int)) ∧ w = w' := by
  obtain ⟨n, hn⟩ : ∃ n, n = s.size := ⟨_, rfl⟩
  have HN := Lib.hid hn
  obtain ⟨Q, hQ⟩ : ∃ Q, Q = a0 + sk false ((bs s).drop a0) := ⟨_, rfl⟩
  have HQ0 : Hid (SkAt false s a0 Q) := Lib.hid hQ
  rw [← hQ]
  clear hQ
  go_enter Tryz.func17, Tryz.ntmps17
  go_wp2_with fail
  go_loopg [1] n (fun g i wr => ∃ k : Nat, k ≤ n ∧ n - k ≤ g ∧ a0 ≤ k ∧ i = .int .i64 k ∧ SkAt false s k Q ∧ wr = w)
  case atStart => exact ⟨a0, by omega, by omega, Nat.le_refl _, rfl, HQ0.out, rfl⟩
  case round =>
    obtain ⟨k, hk, hg, hak, rfl, hq, rfl⟩ := hrel
    have HQ := Lib.hid hq
    clear hq HQ0
    by_cases hlt : k < s.size
    · have d1 : decide ((k : Int) < (s.size : Int)) = true := by simpa using hlt
      have i0 : (0 : Int) ≤ (k : Int) := by omega
      have i1 : (k : Int) < (s.size : Int) := by omega
      have hb := byte_bd s[k]
      by_cases hc : (s[k].toNat : Int) = 35
      · have e1 : ((s[k].toNat : Int) == 35) = true := by simp [hc]
        have HC := Lib.hid hc
        have HQ1 := Lib.hid (HQ.out.hash hlt hc)
        clear hc
        go_wp2_with fail
        rename World => w0
        go_loopg [1] n (fun g i wr => ∃ k2 : Nat, k2 ≤ n ∧ n - k2 ≤ g ∧ k ≤ k2 ∧ i = .int .i64 k2 ∧ SkAt true s k2 Q ∧ wr = w0)
        case atStart => exact ⟨k, by omega, by omega, Nat.le_refl _, rfl, HQ1.out, rfl⟩
        case round =>
          obtain ⟨k2, hk2, hg2, hkk, rfl, hq2, rfl⟩ := hrel
          have HQ2 := Lib.hid hq2
          clear hq2 HQ1
          by_cases hlt2 : k2 < s.size
          · have d2 : decide ((k2 : Int) < (s.size : Int)) = true := by simpa using hlt2
            have i2 : (0 : Int) ≤ (k2 : Int) := by omega
            have i3 : (k2 : Int) < (s.size : Int) := by omega
            have hb2 := byte_bd s[k2]
            by_cases hc2 : (s[k2].toNat : Int) = 10
            · have e2 : ((s[k2].toNat : Int) != 10) = false := by simp [hc2]
              have HQ3 := Lib.hid (HQ2.out.back hlt2 hc2)
              have hne : k < k2 := by
                rcases Nat.lt_or_eq_of_le hkk with h | h
                · exact h
                · subst h; have := HC.out; omega
              clear hc2
              go_wp2_with fail
              go_roundg (n - k2)
              case measure => omega
              case rel => exact ⟨k2, hk2, Nat.le_refl _, by omega, rfl, HQ3.out, rfl⟩
            · have e2 : ((s[k2].toNat : Int) != 10) = true := by simp [hc2]
              have HQ3 := Lib.hid (HQ2.out.deep hlt2 hc2)
              clear hc2
              go_wp2_with fail
              go_roundg (n - (k2 + 1))
              case measure => omega
              case rel => exact ⟨k2 + 1, by omega, Nat.le_refl _, by omega, by go_num, HQ3.out, rfl⟩
          · have d2 : decide ((k2 : Int) < (s.size : Int)) = false := by simp; omega
            have HQ3 := Lib.hid (HQ2.out.stop hlt2)
            go_wp2_with fail
            go_roundg (n - k2)
            case measure => omega
            case rel => exact ⟨k2, hk2, Nat.le_refl _, by omega, rfl, HQ3.out, rfl⟩
      · have e1 : ((s[k].toNat : Int) == 35) = false := by simp [hc]
        have HC0 := Lib.hid hc
        clear hc
        by_cases hw : (s[k].toNat : Int) = 9 ∨ (s[k].toNat : Int) = 10 ∨ (s[k].toNat : Int) = 13 ∨ (s[k].toNat : Int) = 32
        · have HQ1 := Lib.hid (HQ.out.ws hlt hw)
          rcases hw with hx | hx | hx | hx
          · have f9 : ((s[k].toNat : Int) != 9) = false := by simp [hx]
            clear hx
            go_wp2_with fail
            go_roundg (n - (k + 1))
            case measure => omega
            case rel => exact ⟨k + 1, by omega, Nat.le_refl _, by omega, by go_num, HQ1.out, rfl⟩
          · have f9 : ((s[k].toNat : Int) != 9) = true := by simp [hx]
            have f10 : ((s[k].toNat : Int) != 10) = false := by simp [hx]
            clear hx
            go_wp2_with fail
            go_roundg (n - (k + 1))
            case measure => omega
            case rel => exact ⟨k + 1, by omega, Nat.le_refl _, by omega, by go_num, HQ1.out, rfl⟩
          · have f9 : ((s[k].toNat : Int) != 9) = true := by simp [hx]
            have f10 : ((s[k].toNat : Int) != 10) = true := by simp [hx]
            have f13 : ((s[k].toNat : Int) != 13) = false := by simp [hx]
            clear hx
            go_wp2_with fail
            go_roundg (n - (k + 1))
            case measure => omega
            case rel => exact ⟨k + 1, by omega, Nat.le_refl _, by omega, by go_num, HQ1.out, rfl⟩
          · have f9 : ((s[k].toNat : Int) != 9) = true := by simp [hx]
            have f10 : ((s[k].toNat : Int) != 10) = true := by simp [hx]
            have f13 : ((s[k].toNat : Int) != 13) = true := by simp [hx]
            have f32 : ((s[k].toNat : Int) != 32) = false := by simp [hx]
            clear hx
            go_wp2_with fail
            go_roundg (n - (k + 1))
            case measure => omega
            case rel => exact ⟨k + 1, by omega, Nat.le_refl _, by omega, by go_num, HQ1.out, rfl⟩
        · have hx : ¬ (s[k].toNat : Int) = 9 ∧ ¬ (s[k].toNat : Int) = 10 ∧ ¬ (s[k].toNat : Int) = 13 ∧ ¬ (s[k].toNat : Int) = 32 := ⟨fun h => hw (.inl h), fun h => hw (.inr (.inl h)), fun h => hw (.inr (.inr (.inl h))), fun h => hw (.inr (.inr (.inr h)))⟩
          have HE := Lib.hid (HQ.out.done hlt hw HC0.out)
          clear hw
          have f9 : ((s[k].toNat : Int) != 9) = true := bne_iff_ne.2 hx.1
          have f10 : ((s[k].toNat : Int) != 10) = true := bne_iff_ne.2 hx.2.1
          have f13 : ((s[k].toNat : Int) != 13) = true := bne_iff_ne.2 hx.2.2.1
          have f32 : ((s[k].toNat : Int) != 32) = true := bne_iff_ne.2 hx.2.2.2
          clear hx
          go_wp2_with fail
          go_ret
          exact ⟨by cases HE.out; rfl, rfl⟩
    · have d1 : decide ((k : Int) < (s.size : Int)) = false := by simp; omega
      have HE := Lib.hid (HQ.out.over hlt)
      go_wp2_with fail
      go_ret
      exact ⟨by cases HE.out; rfl, rfl⟩

set_option maxRecDepth 100000 in
set_option maxHeartbeats 4000000 in
theorem refWordEnd_is (s : ByteArray) (a0 : Nat) (hs : s.size ≤ 1000000000) (ha : a0 ≤ s.size) (w : World) :
    Calls Tryz.prog 40 #[.string s, .int .i64 a0] w fun e w' => e = .returned (.int .i64 ((a0 + wordE ((bs s).drop a0) : Nat) : Int)) ∧ w = w' := by
  obtain ⟨n, hn⟩ : ∃ n, n = s.size := ⟨_, rfl⟩
  have HN := Lib.hid hn
  obtain ⟨Q, hQ⟩ : ∃ Q, Q = a0 + wordE ((bs s).drop a0) := ⟨_, rfl⟩
  have HQ0 : Hid (WdAt s a0 a0 Q) := Lib.hid (.inl ⟨rfl, hQ⟩)
  rw [← hQ]
  clear hQ
  have CL := fun c => refLetter_any c w
  have CD := fun c => refDigit_any c w
  go_enter Tryz.func40, Tryz.ntmps40
  go_wp2_with fail
  go_loopg [1] n (fun g i wr => ∃ k : Nat, k ≤ n ∧ n - k ≤ g ∧ a0 ≤ k ∧ i = .int .i64 k ∧ WdAt s a0 k Q ∧ wr = w)
  case atStart => exact ⟨a0, by omega, by omega, Nat.le_refl _, rfl, HQ0.out, rfl⟩
  case round =>
    obtain ⟨k, hk, hg, hak, rfl, hq, rfl⟩ := hrel
    have HQ := Lib.hid hq
    clear hq HQ0
    by_cases hlt : k < s.size
    · have d1 : decide ((k : Int) < (s.size : Int)) = true := by simpa using hlt
      have i0 : (0 : Int) ≤ (k : Int) := by omega
      have i1 : (k : Int) < (s.size : Int) := by omega
      have cl := CL (s[k].toNat : Int)
      have cd := CD (s[k].toNat : Int)
      have HLt := Lib.hid (fun h => HQ.out.letter hlt h)
      have HDg := Lib.hid (fun h1 h => HQ.out.digit hlt h1 h)
      have HNo := Lib.hid (fun h1 h => HQ.out.none hlt h1 h)
      have HFi := Lib.hid (fun h1 h => HQ.out.first hlt h1 h)
      generalize Term.letter (s[k].toNat : Int) = L at *
      generalize Term.digit (s[k].toNat : Int) = D at *
      cases L with
      | true =>
        have HQ1 := Lib.hid (HLt.out rfl)
        clear HLt HDg HNo HFi
        go_wp2_with (first | (go_at_call 72; refine cl.mono ?_; rintro e w3 ⟨rfl, rfl⟩))
        go_roundg (n - (k + 1))
        case measure => omega
        case rel => exact ⟨k + 1, by omega, Nat.le_refl _, by omega, by go_num, HQ1.out, rfl⟩
      | false =>
        by_cases hgt : a0 < k
        · have d2 : decide ((a0 : Int) < (k : Int)) = true := by simpa using hgt
          cases D with
          | true =>
            have HQ1 := Lib.hid (HDg.out hgt rfl)
            clear HLt HDg HNo HFi
            go_wp2_with (first | (go_at_call 72; refine cl.mono ?_; rintro e w3 ⟨rfl, rfl⟩) | (go_at_call 41; refine cd.mono ?_; rintro e w3 ⟨rfl, rfl⟩))
            go_roundg (n - (k + 1))
            case measure => omega
            case rel => exact ⟨k + 1, by omega, Nat.le_refl _, by omega, by go_num, HQ1.out, rfl⟩
          | false =>
            have HE := Lib.hid (HNo.out rfl rfl)
            clear HLt HDg HNo HFi
            go_wp2_with (first | (go_at_call 72; refine cl.mono ?_; rintro e w3 ⟨rfl, rfl⟩) | (go_at_call 41; refine cd.mono ?_; rintro e w3 ⟨rfl, rfl⟩))
            go_ret
            exact ⟨by cases HE.out; rfl, rfl⟩
        · have d2 : decide ((a0 : Int) < (k : Int)) = false := by simp; omega
          have HE := Lib.hid (HFi.out rfl hgt)
          clear HLt HDg HNo HFi
          go_wp2_with (first | (go_at_call 72; refine cl.mono ?_; rintro e w3 ⟨rfl, rfl⟩))
          go_ret
          exact ⟨by cases HE.out; rfl, rfl⟩
    · have d1 : decide ((k : Int) < (s.size : Int)) = false := by simp; omega
      have HE := Lib.hid (HQ.out.over hlt)
      go_wp2_with fail
      go_ret
      exact ⟨by cases HE.out; rfl, rfl⟩
end Go.Proofs.YtbcoklbfebmpoaaGreatDoor

/-
  CONTRACT OF THE REFERENCE's quoted: exact.
-/

namespace Go.Proofs.YtbcoklbfebmpoaaGreatDoor
open Go.RowKit
open Utf Term Lex
set_option linter.unusedVariables false
set_option linter.unusedSimpArgs false

theorem den_at2 {nl all : Bool} {stop c : Int} {l : List Int} {k : Nat} (h : l[k]? = some c) : den nl all stop (l.drop k) =
    if c = stop then some ([], 1)
    else if nl = true ∧ (c = 10 ∨ c = 13) then none
    else if c = 92 then
      match escL all (l.drop (k + 1)) with
      | none => none
      | some (b, m) => (den nl all stop (l.drop (k + m))).map fun x => (b ++ x.1, m + x.2)
    else (den nl all stop (l.drop (k + 1))).map fun x => (c :: x.1, 1 + x.2) := den_at h
/-- What has been read so far, and what comes. -/
def DenG (D : Option (List Int × Nat)) (all : Bool) (stop : Int) (l acc : List Int) (b k : Nat) : Prop :=
  D = (den all all stop (l.drop k)).map fun x => (acc ++ x.1, k - b + x.2)
theorem DenG.plain {D : Option (List Int × Nat)} {all : Bool} {stop c : Int} {l acc : List Int} {b k : Nat} (h : DenG D all stop l acc b k) (hk : b ≤ k) (hc : l[k]? = some c) (h1 : c ≠ stop) (h2 : all = true → ¬ (c = 10 ∨ c = 13)) (h4 : c ≠ 92) : DenG D all stop l (acc ++ [c]) b (k + 1) := by
  unfold DenG at *
  rw [h, den_at2 hc, if_neg h1, if_neg (by rintro ⟨e1, e2⟩; exact h2 e1 e2), if_neg h4, Option.map_map]
  congr 1
  funext x
  simp only [Function.comp, List.append_assoc, List.cons_append, List.nil_append, Prod.mk.injEq, true_and]
  omega
theorem DenG.esc {D : Option (List Int × Nat)} {all : Bool} {stop : Int} {l acc x : List Int} {b k m : Nat} (h : DenG D all stop l acc b k) (hk : b ≤ k) (hc : l[k]? = some 92) (h1 : (92 : Int) ≠ stop) (he : escL all (l.drop (k + 1)) = some (x, m)) : DenG D all stop l (acc ++ x) b (k + m) := by
  unfold DenG at *
  rw [h, den_at2 hc, if_neg h1, if_neg (by intro h; exact h.2.elim (by decide) (by decide)), if_pos rfl, he, Option.map_map]
  congr 1
  funext y
  simp only [Function.comp, List.append_assoc, Prod.mk.injEq, true_and]
  omega
theorem DenG.noEsc {D : Option (List Int × Nat)} {all : Bool} {stop : Int} {l acc : List Int} {b k : Nat} (h : DenG D all stop l acc b k) (hc : l[k]? = some 92) (h1 : (92 : Int) ≠ stop) (he : escL all (l.drop (k + 1)) = none) : D = none := by
  unfold DenG at *
  rw [h, den_at2 hc, if_neg h1, if_neg (by intro h; exact h.2.elim (by decide) (by decide)), if_pos rfl, he]
  rfl
theorem DenG.line {D : Option (List Int × Nat)} {all : Bool} {stop c : Int} {l acc : List Int} {b k : Nat} (h : DenG D all stop l acc b k) (hc : l[k]? = some c) (h1 : c ≠ stop) (ha : all = true) (h2 : c = 10 ∨ c = 13) : D = none := by
  unfold DenG at *
  rw [h, den_at2 hc, if_neg h1, if_pos ⟨ha, h2⟩]
  rfl
theorem DenG.stop {D : Option (List Int × Nat)} {all : Bool} {stop : Int} {l acc : List Int} {b k : Nat} (h : DenG D all stop l acc b k) (hc : l[k]? = some stop) : D = some (acc, k - b + 1) := by
  unfold DenG at *
  rw [h, den_at2 hc, if_pos rfl]
  simp only [Option.map_some, List.append_nil]
theorem DenG.end_ {D : Option (List Int × Nat)} {all : Bool} {stop : Int} {l acc : List Int} {b k : Nat} (h : DenG D all stop l acc b k) (hk : l.length ≤ k) : D = none := by
  unfold DenG at *
  rw [h, List.drop_eq_nil_of_le hk]
  rfl

/-- What quoted answers. -/
def quoE (a : Nat) : Option (List Int × Nat) → Ending
  | none => .returned (.tuple #[.string ⟨#[]⟩, .int .i64 (-1)])
  | some (t, n) => .returned (.tuple #[.string (strOfNums t), .int .i64 ((a + 1 + n : Nat) : Int)])

set_option maxRecDepth 100000 in
set_option maxHeartbeats 8000000 in
theorem refQuoted_is (s : ByteArray) (a : Nat) (stop : Int) (all : Bool) (hs : s.size ≤ 1000000000) (ha : a < s.size) (hst : stop ≠ 92) (w : World) :
    Calls Tryz.prog 37 #[.string s, .int .i64 a, .int .u8 stop, .bool all] w fun e w' => e = quoE a (den all all stop ((bs s).drop (a + 1))) ∧ Below w.heap.size w w' := by
  obtain ⟨i0, hi, hz0, hz1, hz2⟩ := info_parts info_u8
  obtain ⟨D, hD⟩ : ∃ D, D = den all all stop ((bs s).drop (a + 1)) := ⟨_, rfl⟩
  have HD : Hid (DenG D all stop (bs s) [] (a + 1) (a + 1)) := Lib.hid (by
    unfold DenG
    rw [hD]
    cases den all all stop ((bs s).drop (a + 1)) <;> simp)
  rw [← hD]
  clear hD
  obtain ⟨E, hEq⟩ : ∃ E, E = quoE a D := ⟨_, rfl⟩
  rw [← hEq]
  have HEq := Lib.hid hEq
  clear hEq
  go_enter Tryz.func37, Tryz.ntmps37
  go_upto_region 3 with fail
  go_loopg [1, 10, 11, 12] s.size (fun g i v bv nx wr => ∃ (k : Nat) (acc : List Int), a + 1 ≤ k ∧ k ≤ s.size ∧ s.size - k ≤ g ∧ i = .int .i64 k ∧ acc.length ≤ k ∧ DenG D all stop (bs s) acc (a + 1) k ∧ wr.ownsRow w.heap.size 5 1 v acc.length (acc.map (Value.int .u8)) ∧ Below w.heap.size w wr)
  case atStart => exact ⟨a + 1, [], Nat.le_refl _, by omega, by omega, by go_num, by simp, HD.out, World.ownsRow_nil _ _ _ _, Below.refl _ _⟩
  case round =>
    obtain ⟨k, acc, hk1, hk, hg, rfl, hal, hso, hown, hB⟩ := hrel
    have HSo := Lib.hid hso
    have HO := Lib.hid hown
    have HB := Lib.hid hB
    have hwr := hB.size
    clear hso hown hB HD
    by_cases hlt : k < s.size
    · have HG := Lib.hid (bs_get s k hlt)
      have d1 : decide ((k : Int) < (s.size : Int)) = true := by simpa using hlt
      have i1 : (k : Int) < (s.size : Int) := by omega
      have d2 : decide ((s.size : Int) ≤ (k : Int)) = false := by simp; omega
      by_cases c1 : (s[k].toNat : Int) = stop
      · have HF : Hid (E = .returned (.tuple #[.string (strOfNums acc), .int .i64 ((k + 1 : Nat) : Int)])) := Lib.hid (by
          rw [HEq.out, HSo.out.stop (by rw [HG.out, c1])]
          simp only [quoE]
          rw [show a + 1 + (k - (a + 1) + 1) = k + 1 by omega])
        have e1 : ((s[k].toNat : Int) != stop) = false := by simp [c1]
        have ek : (((k + 1 : Nat) : Int)) = (k : Int) + 1 := by omega
        rw [ek] at HF
        clear HSo HG c1 ek HEq
        rcases owns_forms HO.out with ⟨rfl, hx⟩ | ⟨g, cp, rfl, hg, hx, hcell⟩
        · have hs := nil_string wr
          rw [hx] at HF
          clear hx HO hwr
          go_wp2_with fail
          go_ret2
          exact ⟨HF.out.symm, HB.out⟩
        · have hs := owns_string (cap := cp) hx hcell hg (Below.refl _ wr)
          clear hx HO hcell hg
          go_wp2_with fail
          go_ret2
          exact ⟨HF.out.symm, HB.out⟩
      · have e1 : ((s[k].toNat : Int) != stop) = true := bne_iff_ne.2 c1
        by_cases c2 : all = true ∧ ((s[k].toNat : Int) = 10 ∨ (s[k].toNat : Int) = 13)
        · have HF : Hid (E = quoE a none) := Lib.hid (by rw [HEq.out, HSo.out.line HG.out c1 c2.1 c2.2])
          obtain ⟨rfl, c3⟩ := c2
          rcases c3 with c3 | c3
          · have e2 : ((s[k].toNat : Int) == 10) = true := by simpa using c3
            clear HSo HG c1 c3 HEq HO
            go_wp2_with fail
            go_ret2
            exact ⟨HF.out.symm, HB.out⟩
          · have e2 : ((s[k].toNat : Int) == 10) = false := by rw [c3]; rfl
            have e3 : ((s[k].toNat : Int) == 13) = true := by simpa using c3
            clear HSo HG c1 c3 HEq HO
            go_wp2_with fail
            go_ret2
            exact ⟨HF.out.symm, HB.out⟩
        · have hn : all = true → ¬ ((s[k].toNat : Int) = 10 ∨ (s[k].toNat : Int) = 13) := fun h1 h2 => c2 ⟨h1, h2⟩
          by_cases c4 : (s[k].toNat : Int) = 92
          · have e4 : ((s[k].toNat : Int) != 92) = false := by simp [c4]
            have e2 : ((s[k].toNat : Int) == 10) = false := by rw [c4]; rfl
            have e3 : ((s[k].toNat : Int) == 13) = false := by rw [c4]; rfl
            have HC := refEscape_is s k all hs (by omega) wr
            have hG92 : (bs s)[k]? = some 92 := by rw [HG.out, c4]
            cases hesc : escL all ((bs s).drop (k + 1)) with
            | none =>
              have HF : Hid (E = quoE a none) := Lib.hid (by rw [HEq.out, HSo.out.noEsc hG92 (Ne.symm hst) hesc])
              unfold EscX at HC
              rw [hesc] at HC
              have HC2 := Lib.hid HC
              clear HSo HG c1 c2 c4 HEq HO HC hesc hG92 hn
              cases all <;>
              · go_wp2_with (go_at_call 71; refine HC2.out.mono ?_; rintro e w1 ⟨hB1, rfl⟩)
                go_ret2
                exact ⟨HF.out.symm, HB.out.trans (hB1.mono hwr)⟩
            | some x =>
              obtain ⟨b, m⟩ := x
              have HN := Lib.hid (HSo.out.esc hk1 hG92 (Ne.symm hst) hesc)
              have hpos := escL_pos hesc
              have hlen := escL_len hesc
              rw [List.length_drop, bs_length] at hpos
              unfold EscX at HC
              rw [hesc] at HC
              have HC2 := Lib.hid HC
              have m0 : (0 : Int) ≤ (k : Int) + (m : Int) := by omega
              have d4 : decide ((k : Int) + (m : Int) < 0) = false := by simp; omega
              clear HSo HG c1 c2 c4 HC hesc hG92 hn
              cases all <;>
              · go_upto_region 12 with (go_at_call 71; refine HC2.out.mono ?_; rintro e w1 ⟨hB1, rfl, hblk⟩)
                have HO1 := Lib.hid (own_kept HO.out hB1)
                have HB1 := Lib.hid (HB.out.trans (hB1.mono hwr))
                have hw1 := hB1.size
                have HX : Hid (∀ (j : Nat) (u : Value), (b.map (Value.int .u8))[j]? = some u → w1.cell? ((⟨wr.heap.size, 0, none⟩ : Addr).add j) = some u) := Lib.hid (fun j u e => by
                  have := hblk.cell (j := j) (v := u) (by simpa using e)
                  unfold Addr.add
                  split
                  · rename_i h0
                    subst h0
                    exact this
                  · rw [Nat.zero_add]
                    exact this)
                clear hblk hB1 HO
                go_wp2_with (at_builtin; refine wpList_append_own _ rfl _ _ 105 rfl w.heap.size 5 i0 (.int .u8 0) 1 1 Tryz.underlying105 hi hz0 hz1 hz2 rfl (by decide) _ _ _ rfl HO1.out ⟨wr.heap.size, 0, none⟩ b.length b.length (b.map (Value.int .u8)) rfl (by simp) HX.out (by intro u hu; obtain ⟨c, _, rfl⟩ := List.mem_map.1 hu; rfl) (by unfold maxLen; omega) (by omega) (by omega) ?_; intro v' w2 hown' hgrow _)
                have HB2 := Lib.hid (HB1.out.grown hgrow (by omega) (fun k e => (HO1.out.lt k e).1))
                have HO2 := Lib.hid hown'
                clear hgrow hown'
                go_roundg (s.size - (k + m))
                case rel => exact ⟨k + m, acc ++ b, by omega, by omega, Nat.le_refl _, by go_num, by rw [List.length_append]; omega, HN.out, by rw [List.length_append, List.map_append]; exact HO2.out, HB2.out⟩
                case measure => omega
          · have e4 : ((s[k].toNat : Int) != 92) = true := bne_iff_ne.2 c4
            have HN := Lib.hid (HSo.out.plain hk1 HG.out c1 hn c4)
            clear HSo HG c1 c4
            cases all with
            | false =>
              clear c2 hn
              go_wp2_with (at_builtin; refine wpList_append_own _ rfl _ _ 105 rfl w.heap.size 5 i0 (.int .u8 0) 1 1 Tryz.underlying105 hi hz0 hz1 hz2 rfl (by decide) _ _ _ rfl (HO.out.alloc _) ⟨wr.heap.size, 0, none⟩ 1 1 [.int .u8 (s[k].toNat : Int)] rfl rfl (cells_new _ _ _ _ (pre_one _)) (by intro u hu; simp at hu; subst hu; rfl) (by unfold maxLen; omega) (by omega) (by simp; omega) ?_; intro v' w1 hown' hgrow _)
              have HB2 := Lib.hid ((HB.out.alloc hwr _).grown hgrow (by simp; omega) (fun k e => (HO.out.lt k e).1))
              have HO2 := Lib.hid hown'
              clear hgrow hown'
              go_roundg (s.size - (k + 1))
              case rel => exact ⟨k + 1, acc ++ [(s[k].toNat : Int)], by omega, by omega, Nat.le_refl _, by go_num, by rw [List.length_append, List.length_singleton]; omega, HN.out, by rw [List.length_append, List.map_append]; exact HO2.out, HB2.out⟩
              case measure => omega
            | true =>
              have e2 : ((s[k].toNat : Int) == 10) = false := by simpa using fun h => hn rfl (.inl h)
              have e3 : ((s[k].toNat : Int) == 13) = false := by simpa using fun h => hn rfl (.inr h)
              clear c2 hn
              go_wp2_with (at_builtin; refine wpList_append_own _ rfl _ _ 105 rfl w.heap.size 5 i0 (.int .u8 0) 1 1 Tryz.underlying105 hi hz0 hz1 hz2 rfl (by decide) _ _ _ rfl (HO.out.alloc _) ⟨wr.heap.size, 0, none⟩ 1 1 [.int .u8 (s[k].toNat : Int)] rfl rfl (cells_new _ _ _ _ (pre_one _)) (by intro u hu; simp at hu; subst hu; rfl) (by unfold maxLen; omega) (by omega) (by simp; omega) ?_; intro v' w1 hown' hgrow _)
              have HB2 := Lib.hid ((HB.out.alloc hwr _).grown hgrow (by simp; omega) (fun k e => (HO.out.lt k e).1))
              have HO2 := Lib.hid hown'
              clear hgrow hown'
              go_roundg (s.size - (k + 1))
              case rel => exact ⟨k + 1, acc ++ [(s[k].toNat : Int)], by omega, by omega, Nat.le_refl _, by go_num, by rw [List.length_append, List.length_singleton]; omega, HN.out, by rw [List.length_append, List.map_append]; exact HO2.out, HB2.out⟩
              case measure => omega
    · have hkk : (bs s).length ≤ k := by rw [bs_length]; omega
      have HF : Hid (E = quoE a none) := Lib.hid (by rw [HEq.out, HSo.out.end_ hkk])
      have d0 : decide ((k : Int) < (s.size : Int)) = false := by simp; omega
      have d2 : decide ((s.size : Int) ≤ (k : Int)) = true := by simp; omega
      clear HSo HEq hkk HO
      go_wp2_with fail
      go_ret2
      exact ⟨HF.out.symm, HB.out⟩
end Go.Proofs.YtbcoklbfebmpoaaGreatDoor

/-
  CONTRACT OF THE REFERENCE's named: exact. Written by tools/genrefnamed.py.
-/

namespace Go.Proofs.YtbcoklbfebmpoaaGreatDoor
open Go.RowKit
open Utf Term Lex
set_option linter.unusedVariables false
set_option linter.unusedSimpArgs false

/-- What One answers. -/
def OneX (T : Took) (a : Nat) (w : World) (e : Ending) (w' : World) : Prop :=
  Below w.heap.size w w' ∧ match T with
  | .got x n => e = .returned (.tuple #[symV { x with place := a }, .int .i64 ((a + n : Nat) : Int)])
  | _ => ∃ k t tk tt te p, e = .returned (.tuple #[.agg (symC k t tk tt te p), .int .i64 (-1)])
theorem OneX.bad {T : Took} {a : Nat} {w : World} (h : T = .bad) (k : Int) (t : ByteArray) (tk : Int) (tt te : ByteArray) (p : Int) (W : World) (hB : Below w.heap.size w W) : OneX T a w (.returned (.tuple #[.agg (symC k t tk tt te p), .int .i64 (-1)])) W := by
  subst h
  exact ⟨hB, k, t, tk, tt, te, p, rfl⟩
theorem OneX.text {T : Took} {a : Nat} {w : World} {k : Nat} {l : List Int} {n : Nat} (h : T = .got (symT k l) n) {t : ByteArray} (ht : bs t = l) (W : World) (hB : Below w.heap.size w W) : OneX T a w (.returned (.tuple #[.agg (symC k t 0 ⟨#[]⟩ ⟨#[]⟩ a), .int .i64 ((a + n : Nat) : Int)])) W := by
  subst h
  refine ⟨hB, ?_⟩
  simp only [symV, symA, symT]
  rw [str_of ht]
  rfl

theorem slice_at (s : ByteArray) (a e : Nat) (h1 : a ≤ e) (h2 : e ≤ s.size) : ∀ W, (Instr.slice 9 (.string s) (some (.int .i64 (a : Int))) (some (.int .i64 (e : Int))) none).run Tryz.prog W = .ok (.string (s.extract a e)) W := by
  intro W
  rw [run_slice_string W 9 s .i64 .i64 (a : Int) (e : Int) Tryz.underlying9 (by omega) (by omega) (by omega)]
  rw [show (a : Int).toNat = a by omega, show (e : Int).toNat = e by omega]

/-- Where a run of some characters ends. -/
def SpAt (p : Int → Bool) (s : ByteArray) (k Q : Nat) : Prop := Q = k + spanL p ((bs s).drop k)
theorem SpAt.step {p : Int → Bool} {s : ByteArray} {k Q : Nat} (h : SpAt p s k Q) (hk : k < s.size) (hc : p (s[k].toNat : Int) = true) : SpAt p s (k + 1) Q := by
  unfold SpAt at *
  rw [bs_dropAt s k hk, span_succ hc] at h
  omega
theorem SpAt.none {p : Int → Bool} {s : ByteArray} {k Q : Nat} (h : SpAt p s k Q) (hk : k < s.size) (hc : p (s[k].toNat : Int) = false) : Q = k := by
  unfold SpAt at h
  rw [bs_dropAt s k hk, span_zero hc] at h
  exact h
theorem SpAt.over {p : Int → Bool} {s : ByteArray} {k Q : Nat} (h : SpAt p s k Q) (hk : ¬ k < s.size) : Q = k := by
  unfold SpAt at h
  rw [bs_dropEnd s k hk] at h
  exact h
theorem localC_of {c : Int} {L D : Bool} (hL : letter c = L) (hD : digit c = D) : localC c = (L || D || decide (c = 45) || decide (c = 95)) := by
  unfold localC letterDigit
  rw [hL, hD]

/-- named, by what stands there. -/
theorem namedR_bad1 {l : List Int} (h : (wordE l = 0 ∧ l.getD 0 0 ≠ 58) ∨ 32 < wordE l) : namedR l = .bad := by
  unfold namedR
  rw [if_pos h]
theorem namedR_word {l : List Int} (h : ¬ ((wordE l = 0 ∧ l.getD 0 0 ≠ 58) ∨ 32 < wordE l)) (h2 : l.getD (wordE l) 0 ≠ 58 ∨ l.getD (wordE l + 1) 0 = 45) : namedR l = .got (symT 6 (l.take (wordE l))) (wordE l) := by
  unfold namedR
  rw [if_neg h, if_pos h2]
theorem namedR_bad2 {l : List Int} (h : ¬ ((wordE l = 0 ∧ l.getD 0 0 ≠ 58) ∨ 32 < wordE l)) (h2 : ¬ (l.getD (wordE l) 0 ≠ 58 ∨ l.getD (wordE l + 1) 0 = 45)) (h3 : 64 < spanL localC (l.drop (wordE l + 1))) : namedR l = .bad := by
  unfold namedR
  rw [if_neg h, if_neg h2, if_pos h3]
theorem namedR_name {l : List Int} (h : ¬ ((wordE l = 0 ∧ l.getD 0 0 ≠ 58) ∨ 32 < wordE l)) (h2 : ¬ (l.getD (wordE l) 0 ≠ 58 ∨ l.getD (wordE l + 1) 0 = 45)) (h3 : ¬ 64 < spanL localC (l.drop (wordE l + 1))) : namedR l = .got (symT 7 (l.take (wordE l + 1 + spanL localC (l.drop (wordE l + 1))))) (wordE l + 1 + spanL localC (l.drop (wordE l + 1))) := by
  unfold namedR
  rw [if_neg h, if_neg h2, if_neg h3]
theorem getD_drop (l : List Int) (a k : Nat) : (l.drop a).getD k 0 = l.getD (a + k) 0 := by
  rw [List.getD_eq_getElem?_getD, List.getD_eq_getElem?_getD, List.getElem?_drop]

set_option maxRecDepth 100000 in
set_option maxHeartbeats 16000000 in
theorem refNamed_is (s : ByteArray) (a : Nat) (hs : s.size ≤ 1000000000) (ha : a < s.size) (w : World) :
    Calls Tryz.prog 43 #[.string s, .int .i64 a, .agg (symC 0 ⟨#[]⟩ 0 ⟨#[]⟩ ⟨#[]⟩ a)] w (OneX (namedR ((bs s).drop a)) a w) := by
  have hB : Below w.heap.size w ((w.alloc (.cells (symC 0 ⟨#[]⟩ 0 ⟨#[]⟩ ⟨#[]⟩ a) 64)).alloc (.cells zeroC 64)) := below_next (below_lex _ _) (below_lex _ _)
  have hX : BlockAt ((w.alloc (.cells (symC 0 ⟨#[]⟩ 0 ⟨#[]⟩ ⟨#[]⟩ a) 64)).alloc (.cells zeroC 64)) w.heap.size (symC 0 ⟨#[]⟩ 0 ⟨#[]⟩ ⟨#[]⟩ a) 64 := (block_new w _ _).alloc _
  have hZ : BlockAt ((w.alloc (.cells (symC 0 ⟨#[]⟩ 0 ⟨#[]⟩ ⟨#[]⟩ a) 64)).alloc (.cells zeroC 64)) (w.heap.size + 1) zeroC 64 := by
    have := block_new (w.alloc (.cells (symC 0 ⟨#[]⟩ 0 ⟨#[]⟩ ⟨#[]⟩ a) 64)) zeroC 64
    rwa [World.size_alloc] at this
  obtain ⟨W0, hW0⟩ : ∃ W0, W0 = ((w.alloc (.cells (symC 0 ⟨#[]⟩ 0 ⟨#[]⟩ ⟨#[]⟩ a) 64)).alloc (.cells zeroC 64)) := ⟨_, rfl⟩
  rw [← hW0] at hB hX hZ
  have HB := Lib.hid hB
  have HX := Lib.hid hX
  have HZ := Lib.hid hZ
  have HW0 := Lib.hid hW0
  clear hB hX hZ hW0
  have hle := wordE_le ((bs s).drop a)
  rw [List.length_drop, bs_length] at hle
  have hbad1 : (wordE ((bs s).drop a) = 0 ∧ (s[a].toNat : Int) ≠ 58) ∨ 32 < wordE ((bs s).drop a) → namedR ((bs s).drop a) = .bad := fun h => namedR_bad1 (by rw [getD_drop, Nat.add_zero, bs_getD s a ha]; exact h)
  have hg0 : ((bs s).drop a).getD 0 0 = (s[a].toNat : Int) := by rw [getD_drop, Nat.add_zero, bs_getD s a ha]
  have hword : ∀ E, E = a + wordE ((bs s).drop a) → ¬ ((wordE ((bs s).drop a) = 0 ∧ (s[a].toNat : Int) ≠ 58) ∨ 32 < wordE ((bs s).drop a)) → ((bs s).getD E 0 ≠ 58 ∨ (bs s).getD (E + 1) 0 = 45) → ∀ W, Below w.heap.size w W → OneX (namedR ((bs s).drop a)) a w (.returned (.tuple #[.agg (symC 6 (s.extract a E) 0 ⟨#[]⟩ ⟨#[]⟩ a), .int .i64 E])) W := by
    intro E hE h1 h2 W hW
    have h := namedR_word (l := (bs s).drop a) (by rw [hg0]; exact h1) (by rw [getD_drop, getD_drop, ← Nat.add_assoc, ← hE]; exact h2)
    have := OneX.text (a := a) (w := w) h (t := s.extract a E) (by rw [hE]; exact bs_mid s a _) W hW
    rwa [← hE] at this
  have hbad2 : ∀ E k, E = a + wordE ((bs s).drop a) → k = E + 1 + spanL localC ((bs s).drop (E + 1)) → ¬ ((wordE ((bs s).drop a) = 0 ∧ (s[a].toNat : Int) ≠ 58) ∨ 32 < wordE ((bs s).drop a)) → ¬ ((bs s).getD E 0 ≠ 58 ∨ (bs s).getD (E + 1) 0 = 45) → E + 1 + 64 < k → namedR ((bs s).drop a) = .bad := by
    intro E k hE hk h1 h2 h3
    refine namedR_bad2 (by rw [hg0]; exact h1) (by rw [getD_drop, getD_drop, ← Nat.add_assoc, ← hE]; exact h2) ?_
    rw [List.drop_drop, ← Nat.add_assoc, ← hE]
    omega
  have hname : ∀ E k, E = a + wordE ((bs s).drop a) → k = E + 1 + spanL localC ((bs s).drop (E + 1)) → ¬ ((wordE ((bs s).drop a) = 0 ∧ (s[a].toNat : Int) ≠ 58) ∨ 32 < wordE ((bs s).drop a)) → ¬ ((bs s).getD E 0 ≠ 58 ∨ (bs s).getD (E + 1) 0 = 45) → ¬ E + 1 + 64 < k → ∀ W, Below w.heap.size w W → OneX (namedR ((bs s).drop a)) a w (.returned (.tuple #[.agg (symC 7 (s.extract a k) 0 ⟨#[]⟩ ⟨#[]⟩ a), .int .i64 k])) W := by
    intro E k hE hk h1 h2 h3 W hW
    have h := namedR_name (l := (bs s).drop a) (by rw [hg0]; exact h1) (by rw [getD_drop, getD_drop, ← Nat.add_assoc, ← hE]; exact h2) (by rw [List.drop_drop, ← Nat.add_assoc, ← hE]; omega)
    have ek : a + (wordE ((bs s).drop a) + 1 + spanL localC (((bs s).drop a).drop (wordE ((bs s).drop a) + 1))) = k := by
      have e1 : a + (wordE ((bs s).drop a) + 1) = E + 1 := by omega
      rw [List.drop_drop, e1]
      omega
    have := OneX.text (a := a) (w := w) h (t := s.extract a k) (by rw [← ek]; exact bs_mid s a _) W hW
    rwa [ek] at this
  have hcw := refWordEnd_is s a hs (by omega) W0
  obtain ⟨F, hF⟩ : ∃ F, F = OneX (namedR ((bs s).drop a)) a w := ⟨_, rfl⟩
  have HBad : Hid (namedR ((bs s).drop a) = .bad → ∀ kk t tk tt te p W, Below w.heap.size w W → F (.returned (.tuple #[.agg (symC kk t tk tt te p), .int .i64 (-1)])) W) := Lib.hid (fun h kk t tk tt te p W hW => by rw [hF]; exact OneX.bad h kk t tk tt te p W hW)
  rw [← hF] at hword hname ⊢
  clear hF hg0
  generalize namedR ((bs s).drop a) = NR at *
  obtain ⟨E, hE⟩ : ∃ E, E = a + wordE ((bs s).drop a) := ⟨_, rfl⟩
  have hword := hword E hE
  replace hbad2 := fun k => hbad2 E k hE
  replace hname := fun k => hname E k hE
  rw [← hE] at hcw
  have hE1 : a ≤ E := by omega
  have hE2 : E ≤ s.size := by omega
  have hwE : wordE ((bs s).drop a) = E - a := by omega
  rw [hwE] at hbad1 hbad2 hname hword
  have HW := Lib.hid hcw
  obtain ⟨f, hf⟩ : ∃ f : Int → Int, f = fun i => (bs s).getD i.toNat 0 := ⟨_, rfl⟩
  have HCh : Hid (∀ i : Int, 0 ≤ i → i ≤ 2000000000 → Calls Tryz.prog 39 #[.string s, .int .i64 i] W0 fun e w' => e = .returned (.int .u8 (f i)) ∧ W0 = w') := Lib.hid (fun i h0 h1 => by
    have := refCh_is s i.toNat hs (by omega) W0
    rw [hf]
    rwa [Int.toNat_of_nonneg h0] at this)
  have hfE : f (E : Int) = (bs s).getD E 0 := by rw [hf]; rfl
  have hfE1 : f ((E : Int) + 1) = (bs s).getD (E + 1) 0 := by rw [hf]; rfl
  rw [← hfE, ← hfE1] at hbad2 hname hword
  have hEs : f (E : Int) = 58 → E < s.size := fun h => by
    rw [hfE] at h
    have := getD_in (l := bs s) (k := E) (by rw [h]; decide)
    rwa [bs_length] at this
  have HEs := Lib.hid hEs
  clear hf hfE hfE1 hEs
  have a0 : (0 : Int) ≤ (a : Int) := by omega
  have a1 : (a : Int) < (s.size : Int) := by omega
  have e0 : (0 : Int) ≤ (E : Int) := by omega
  have e1 : (a : Int) ≤ (E : Int) := by omega
  have e2 : (E : Int) ≤ (s.size : Int) := by omega
  have HWd := Lib.hid hword
  have HB1 := Lib.hid hbad1
  have HB2 := Lib.hid hbad2
  have HNa := Lib.hid hname
  have CL := Lib.hid (fun c => refLetter_any c W0)
  have CD := Lib.hid (fun c => refDigit_any c W0)
  clear hE hwE hle hcw hword hbad1 hbad2 hname
  go_enter Tryz.func43, Tryz.ntmps43
  go_upto_region 1 with fail
  rw [← HW0.out]
  by_cases hb1 : (E - a = 0 ∧ (s[a].toNat : Int) ≠ 58) ∨ 32 < E - a
  · have HBd := Lib.hid (HBad.out (HB1.out hb1))
    clear HWd HB2 HNa HCh HB1 HBad HEs CL CD
    by_cases hz : E = a
    · subst hz
      have g1 : (((E : Nat) : Int) == (E : Int)) = true := beq_self_eq_true _
      have hc : (s[E].toNat : Int) ≠ 58 := by
        rcases hb1 with h | h
        · exact h.2
        · omega
      have g2 : ((s[E].toNat : Int) != 58) = true := bne_iff_ne.2 hc
      clear hb1 hc
      have x0 := HX.out.cell (j := 0) rfl
      have x1 := HX.out.cell (j := 1) rfl
      have x2 := HX.out.cell (j := 2) rfl
      have x3 := HX.out.cell (j := 3) rfl
      have x4 := HX.out.cell (j := 4) rfl
      have x5 := HX.out.cell (j := 5) rfl
      have k0 := HZ.out.cell (j := 0) rfl
      have k1 := HZ.out.cell (j := 1) rfl
      have k2 := HZ.out.cell (j := 2) rfl
      have k3 := HZ.out.cell (j := 3) rfl
      have k4 := HZ.out.cell (j := 4) rfl
      have k5 := HZ.out.cell (j := 5) rfl
      have kf : ∀ j, W0.frozen? ⟨w.heap.size + 1, j, none⟩ = false := fun j => HZ.out.free j
      go_wp2_with (go_at_call 40; refine HW.out.mono ?_; rintro e y ⟨rfl, rfl⟩)
      refine bodyPost_ret (results_lex rfl _ _ _ (w.heap.size + 1) 64 _ (0, 0) _ rfl (HZ.out.set6 _ _ _ _ _ _) Tryz.underlying64 (by kernel_rfl)) rfl (HBd.out _ _ _ _ _ _ _ (below_set6 HB.out (Nat.le_succ _) _ _ _ _ _ _))
    · have g1 : ((E : Int) == (a : Int)) = false := by rw [beq_eq_false_iff_ne]; omega
      have hc : 32 < E - a := by
        rcases hb1 with h | h
        · omega
        · exact h
      have g2 : decide ((a : Int) + 32 < (E : Int)) = true := by simp; omega
      clear hb1 hc hz
      have x0 := HX.out.cell (j := 0) rfl
      have x1 := HX.out.cell (j := 1) rfl
      have x2 := HX.out.cell (j := 2) rfl
      have x3 := HX.out.cell (j := 3) rfl
      have x4 := HX.out.cell (j := 4) rfl
      have x5 := HX.out.cell (j := 5) rfl
      have k0 := HZ.out.cell (j := 0) rfl
      have k1 := HZ.out.cell (j := 1) rfl
      have k2 := HZ.out.cell (j := 2) rfl
      have k3 := HZ.out.cell (j := 3) rfl
      have k4 := HZ.out.cell (j := 4) rfl
      have k5 := HZ.out.cell (j := 5) rfl
      have kf : ∀ j, W0.frozen? ⟨w.heap.size + 1, j, none⟩ = false := fun j => HZ.out.free j
      go_wp2_with (go_at_call 40; refine HW.out.mono ?_; rintro e y ⟨rfl, rfl⟩)
      refine bodyPost_ret (results_lex rfl _ _ _ (w.heap.size + 1) 64 _ (0, 0) _ rfl (HZ.out.set6 _ _ _ _ _ _) Tryz.underlying64 (by kernel_rfl)) rfl (HBd.out _ _ _ _ _ _ _ (below_set6 HB.out (Nat.le_succ _) _ _ _ _ _ _))
  have g3 : decide ((a : Int) + 32 < (E : Int)) = false := by simp; omega
  have HWd2 := Lib.hid (fun h => HWd.out hb1 h)
  have HB22 := Lib.hid (fun k h => HB2.out k h hb1)
  have HNa2 := Lib.hid (fun k h => HNa.out k h hb1)
  clear HWd HB2 HNa HB1
  by_cases hz : E = a
  · have hc58 : (s[a].toNat : Int) = 58 := Classical.byContradiction fun h => hb1 (.inl ⟨by omega, h⟩)
    subst hz
    have g1 : (((E : Nat) : Int) == (E : Int)) = true := beq_self_eq_true _
    have g2 : ((s[E].toNat : Int) != 58) = false := by rw [hc58]; rfl
    clear hc58 hb1
    by_cases hq : f (E : Int) ≠ 58 ∨ f ((E : Int) + 1) = 45
    · have HS := Lib.hid (HWd2.out hq)
      have hsl := slice_at s E E (by omega) (by omega)
      obtain ⟨txt, htx⟩ : ∃ txt, txt = s.extract E E := ⟨_, rfl⟩
      rw [← htx] at HS hsl
      clear htx
      by_cases hq1 : f (E : Int) = 58
      · have n1 : (f (E : Int) != 58) = false := by rw [hq1]; rfl
        have n2 : (f ((E : Int) + 1) == 45) = true := by rw [beq_iff_eq]; exact hq.elim (fun h => absurd hq1 h) id
        clear hq hq1 HWd2 HB22 HNa2
        go_upto_region 5 with (first | (go_at_call 40; refine HW.out.mono ?_; rintro e y ⟨rfl, rfl⟩) | (go_at_call 39; refine (HCh.out _ (by omega) (by omega)).mono ?_; rintro e y ⟨rfl, rfl⟩))
        have x0 := HX.out.cell (j := 0) rfl
        have x1 := HX.out.cell (j := 1) rfl
        have x2 := HX.out.cell (j := 2) rfl
        have x3 := HX.out.cell (j := 3) rfl
        have x4 := HX.out.cell (j := 4) rfl
        have x5 := HX.out.cell (j := 5) rfl
        have xf : ∀ j, W0.frozen? ⟨w.heap.size, j, none⟩ = false := fun j => HX.out.free j
        go_region_with fail
        all_goals
          have hB1 : Below w.heap.size w ((W0.setCell ⟨w.heap.size, 0, none⟩ (.int .i64 6)).setCell ⟨w.heap.size, 1, none⟩ (.string txt)).drew := ((HB.out.setCell (Nat.le_refl _) _).setCell (Nat.le_refl _) _).trans (lex_drewN _ _ 1)
          have hX1 : BlockAt ((W0.setCell ⟨w.heap.size, 0, none⟩ (.int .i64 6)).setCell ⟨w.heap.size, 1, none⟩ (.string txt)).drew w.heap.size (symC 6 txt 0 ⟨#[]⟩ ⟨#[]⟩ E) 64 := ((HX.out.set 0 _).set 1 _).drew 1
          have hZ1 : BlockAt ((W0.setCell ⟨w.heap.size, 0, none⟩ (.int .i64 6)).setCell ⟨w.heap.size, 1, none⟩ (.string txt)).drew (w.heap.size + 1) zeroC 64 := ((HZ.out.other (by omega) _ _).other (by omega) _ _).drew 1
          clear x0 x1 x2 x3 x4 x5 xf
          generalize ((W0.setCell ⟨w.heap.size, 0, none⟩ (.int .i64 6)).setCell ⟨w.heap.size, 1, none⟩ (.string txt)).drew = W1 at *
          have HB1 := Lib.hid hB1
          have HX1 := Lib.hid hX1
          have HZ1 := Lib.hid hZ1
          clear hB1 hX1 hZ1
          have x0 := HX1.out.cell (j := 0) rfl
          have x1 := HX1.out.cell (j := 1) rfl
          have x2 := HX1.out.cell (j := 2) rfl
          have x3 := HX1.out.cell (j := 3) rfl
          have x4 := HX1.out.cell (j := 4) rfl
          have x5 := HX1.out.cell (j := 5) rfl
          have k0 := HZ1.out.cell (j := 0) rfl
          have k1 := HZ1.out.cell (j := 1) rfl
          have k2 := HZ1.out.cell (j := 2) rfl
          have k3 := HZ1.out.cell (j := 3) rfl
          have k4 := HZ1.out.cell (j := 4) rfl
          have k5 := HZ1.out.cell (j := 5) rfl
          have kf : ∀ j, W1.frozen? ⟨w.heap.size + 1, j, none⟩ = false := fun j => HZ1.out.free j
          go_wp2_with fail
          refine bodyPost_ret (results_lex (p := 6) (u := 7) rfl _ _ _ (w.heap.size + 1) 64 _ (0, 0) _ rfl (HZ1.out.set6 _ _ _ _ _ _) Tryz.underlying64 (by kernel_rfl)) rfl ?_
          exact HS.out _ (below_set6 HB1.out (Nat.le_succ _) _ _ _ _ _ _)
      · have n1 : (f (E : Int) != 58) = true := bne_iff_ne.2 hq1
        clear hq hq1 HWd2 HB22 HNa2
        go_upto_region 5 with (first | (go_at_call 40; refine HW.out.mono ?_; rintro e y ⟨rfl, rfl⟩) | (go_at_call 39; refine (HCh.out _ (by omega) (by omega)).mono ?_; rintro e y ⟨rfl, rfl⟩))
        have x0 := HX.out.cell (j := 0) rfl
        have x1 := HX.out.cell (j := 1) rfl
        have x2 := HX.out.cell (j := 2) rfl
        have x3 := HX.out.cell (j := 3) rfl
        have x4 := HX.out.cell (j := 4) rfl
        have x5 := HX.out.cell (j := 5) rfl
        have xf : ∀ j, W0.frozen? ⟨w.heap.size, j, none⟩ = false := fun j => HX.out.free j
        go_region_with fail
        all_goals
          have hB1 : Below w.heap.size w ((W0.setCell ⟨w.heap.size, 0, none⟩ (.int .i64 6)).setCell ⟨w.heap.size, 1, none⟩ (.string txt)).drew := ((HB.out.setCell (Nat.le_refl _) _).setCell (Nat.le_refl _) _).trans (lex_drewN _ _ 1)
          have hX1 : BlockAt ((W0.setCell ⟨w.heap.size, 0, none⟩ (.int .i64 6)).setCell ⟨w.heap.size, 1, none⟩ (.string txt)).drew w.heap.size (symC 6 txt 0 ⟨#[]⟩ ⟨#[]⟩ E) 64 := ((HX.out.set 0 _).set 1 _).drew 1
          have hZ1 : BlockAt ((W0.setCell ⟨w.heap.size, 0, none⟩ (.int .i64 6)).setCell ⟨w.heap.size, 1, none⟩ (.string txt)).drew (w.heap.size + 1) zeroC 64 := ((HZ.out.other (by omega) _ _).other (by omega) _ _).drew 1
          clear x0 x1 x2 x3 x4 x5 xf
          generalize ((W0.setCell ⟨w.heap.size, 0, none⟩ (.int .i64 6)).setCell ⟨w.heap.size, 1, none⟩ (.string txt)).drew = W1 at *
          have HB1 := Lib.hid hB1
          have HX1 := Lib.hid hX1
          have HZ1 := Lib.hid hZ1
          clear hB1 hX1 hZ1
          have x0 := HX1.out.cell (j := 0) rfl
          have x1 := HX1.out.cell (j := 1) rfl
          have x2 := HX1.out.cell (j := 2) rfl
          have x3 := HX1.out.cell (j := 3) rfl
          have x4 := HX1.out.cell (j := 4) rfl
          have x5 := HX1.out.cell (j := 5) rfl
          have k0 := HZ1.out.cell (j := 0) rfl
          have k1 := HZ1.out.cell (j := 1) rfl
          have k2 := HZ1.out.cell (j := 2) rfl
          have k3 := HZ1.out.cell (j := 3) rfl
          have k4 := HZ1.out.cell (j := 4) rfl
          have k5 := HZ1.out.cell (j := 5) rfl
          have kf : ∀ j, W1.frozen? ⟨w.heap.size + 1, j, none⟩ = false := fun j => HZ1.out.free j
          go_wp2_with fail
          refine bodyPost_ret (results_lex (p := 6) (u := 7) rfl _ _ _ (w.heap.size + 1) 64 _ (0, 0) _ rfl (HZ1.out.set6 _ _ _ _ _ _) Tryz.underlying64 (by kernel_rfl)) rfl ?_
          exact HS.out _ (below_set6 HB1.out (Nat.le_succ _) _ _ _ _ _ _)
    · have hq1 : f (E : Int) = 58 := Classical.byContradiction fun h => hq (.inl h)
      have n1 : (f (E : Int) != 58) = false := by rw [hq1]; rfl
      have n2 : (f ((E : Int) + 1) == 45) = false := by rw [beq_eq_false_iff_ne]; exact fun h => hq (.inr h)
      have hes := HEs.out hq1
      obtain ⟨Q, hQ⟩ : ∃ Q, Q = E + 1 + spanL localC ((bs s).drop (E + 1)) := ⟨_, rfl⟩
      have HQ0 : Hid (SpAt localC s (E + 1) Q) := Lib.hid hQ
      have HBk := Lib.hid (fun k (hk : Q = k) => HB22.out k (hk.symm.trans hQ) hq)
      have HNk := Lib.hid (fun k (hk : Q = k) => HNa2.out k (hk.symm.trans hQ) hq)
      clear hq hq1 hQ HWd2 HB22 HNa2
      go_wp2_with (first | (go_at_call 40; refine HW.out.mono ?_; rintro e y ⟨rfl, rfl⟩) | (go_at_call 39; refine (HCh.out _ (by omega) (by omega)).mono ?_; rintro e y ⟨rfl, rfl⟩))
      go_loopg [8] s.size (fun g i wr => ∃ k : Nat, k ≤ s.size ∧ s.size - k ≤ g ∧ E + 1 ≤ k ∧ i = .int .i64 k ∧ SpAt localC s k Q ∧ W0 = wr)
      case atStart => exact ⟨E + 1, by omega, by omega, Nat.le_refl _, by go_num, HQ0.out, rfl⟩
      case round =>
        obtain ⟨k, hk, hg, hak, rfl, hq, rfl⟩ := hrel
        have HQ := Lib.hid hq
        clear hq HQ0
        by_cases hlt : k < s.size
        · have d1 : decide ((k : Int) < (s.size : Int)) = true := by simpa using hlt
          have i0 : (0 : Int) ≤ (k : Int) := by omega
          have i1 : (k : Int) < (s.size : Int) := by omega
          have cl := CL.out (s[k].toNat : Int)
          have cd := CD.out (s[k].toNat : Int)
          have hloc := localC_of (c := (s[k].toNat : Int)) rfl rfl
          generalize Term.letter (s[k].toNat : Int) = L at *
          generalize Term.digit (s[k].toNat : Int) = D at *
          have HLo := Lib.hid hloc
          clear hloc
          cases L with
          | true =>
            have HQ1 := Lib.hid (HQ.out.step hlt (by rw [HLo.out]; simp))
            go_wp2_with (first | (go_at_call 72; refine cl.mono ?_; rintro e y ⟨rfl, rfl⟩) | (go_at_call 41; refine cd.mono ?_; rintro e y ⟨rfl, rfl⟩))
            go_roundg (s.size - (k + 1))
            case measure => omega
            case rel => exact ⟨k + 1, by omega, Nat.le_refl _, by omega, by go_num, HQ1.out, rfl⟩
          | false =>
            cases D with
            | true =>
              have HQ1 := Lib.hid (HQ.out.step hlt (by rw [HLo.out]; simp))
              go_wp2_with (first | (go_at_call 72; refine cl.mono ?_; rintro e y ⟨rfl, rfl⟩) | (go_at_call 41; refine cd.mono ?_; rintro e y ⟨rfl, rfl⟩))
              go_roundg (s.size - (k + 1))
              case measure => omega
              case rel => exact ⟨k + 1, by omega, Nat.le_refl _, by omega, by go_num, HQ1.out, rfl⟩
            | false =>
              by_cases c45 : (s[k].toNat : Int) = 45
              · have HQ1 := Lib.hid (HQ.out.step hlt (by rw [HLo.out, c45]; decide))
                have f1 : ((s[k].toNat : Int) == 45) = true := by simpa using c45
                clear c45
                go_wp2_with (first | (go_at_call 72; refine cl.mono ?_; rintro e y ⟨rfl, rfl⟩) | (go_at_call 41; refine cd.mono ?_; rintro e y ⟨rfl, rfl⟩))
                go_roundg (s.size - (k + 1))
                case measure => omega
                case rel => exact ⟨k + 1, by omega, Nat.le_refl _, by omega, by go_num, HQ1.out, rfl⟩
              · have f1 : ((s[k].toNat : Int) == 45) = false := by simpa using c45
                by_cases c95 : (s[k].toNat : Int) = 95
                · have HQ1 := Lib.hid (HQ.out.step hlt (by rw [HLo.out, c95]; decide))
                  have f2 : ((s[k].toNat : Int) == 95) = true := by simpa using c95
                  clear c45 c95
                  go_wp2_with (first | (go_at_call 72; refine cl.mono ?_; rintro e y ⟨rfl, rfl⟩) | (go_at_call 41; refine cd.mono ?_; rintro e y ⟨rfl, rfl⟩))
                  go_roundg (s.size - (k + 1))
                  case measure => omega
                  case rel => exact ⟨k + 1, by omega, Nat.le_refl _, by omega, by go_num, HQ1.out, rfl⟩
                · have f2 : ((s[k].toNat : Int) == 95) = false := by simpa using c95
                  have HE := Lib.hid (HQ.out.none hlt (by rw [HLo.out, decide_eq_false c45, decide_eq_false c95]; rfl))
                  clear c45 c95
                  by_cases h64 : E + 1 + 64 < k
                  · have d3 : decide ((E : Int) + 1 + 64 < (k : Int)) = true := by simp; omega
                    have HBd := Lib.hid (HBad.out (HBk.out k HE.out h64))
                    have x0 := HX.out.cell (j := 0) rfl
                    have x1 := HX.out.cell (j := 1) rfl
                    have x2 := HX.out.cell (j := 2) rfl
                    have x3 := HX.out.cell (j := 3) rfl
                    have x4 := HX.out.cell (j := 4) rfl
                    have x5 := HX.out.cell (j := 5) rfl
                    have k0 := HZ.out.cell (j := 0) rfl
                    have k1 := HZ.out.cell (j := 1) rfl
                    have k2 := HZ.out.cell (j := 2) rfl
                    have k3 := HZ.out.cell (j := 3) rfl
                    have k4 := HZ.out.cell (j := 4) rfl
                    have k5 := HZ.out.cell (j := 5) rfl
                    have kf : ∀ j, W0.frozen? ⟨w.heap.size + 1, j, none⟩ = false := fun j => HZ.out.free j
                    go_wp2_with (first | (go_at_call 72; refine cl.mono ?_; rintro e y ⟨rfl, rfl⟩) | (go_at_call 41; refine cd.mono ?_; rintro e y ⟨rfl, rfl⟩))
                    refine bodyPost_ret (results_lex rfl _ _ _ (w.heap.size + 1) 64 _ (0, 0) _ rfl (HZ.out.set6 _ _ _ _ _ _) Tryz.underlying64 (by kernel_rfl)) rfl (HBd.out _ _ _ _ _ _ _ (below_set6 HB.out (Nat.le_succ _) _ _ _ _ _ _))
                  · have d3 : decide ((E : Int) + 1 + 64 < (k : Int)) = false := by simp; omega
                    have HS := Lib.hid (HNk.out k HE.out h64)
                    have hsl := slice_at s E k (by omega) (by omega)
                    obtain ⟨txt, htx⟩ : ∃ txt, txt = s.extract E k := ⟨_, rfl⟩
                    rw [← htx] at HS hsl
                    clear htx
                    go_upto_region 13 with (first | (go_at_call 72; refine cl.mono ?_; rintro e y ⟨rfl, rfl⟩) | (go_at_call 41; refine cd.mono ?_; rintro e y ⟨rfl, rfl⟩))
                    have x0 := HX.out.cell (j := 0) rfl
                    have x1 := HX.out.cell (j := 1) rfl
                    have x2 := HX.out.cell (j := 2) rfl
                    have x3 := HX.out.cell (j := 3) rfl
                    have x4 := HX.out.cell (j := 4) rfl
                    have x5 := HX.out.cell (j := 5) rfl
                    have xf : ∀ j, W0.frozen? ⟨w.heap.size, j, none⟩ = false := fun j => HX.out.free j
                    go_region_with fail
                    all_goals
                      have hB1 : Below w.heap.size w ((W0.setCell ⟨w.heap.size, 0, none⟩ (.int .i64 7)).setCell ⟨w.heap.size, 1, none⟩ (.string txt)).drew := ((HB.out.setCell (Nat.le_refl _) _).setCell (Nat.le_refl _) _).trans (lex_drewN _ _ 1)
                      have hX1 : BlockAt ((W0.setCell ⟨w.heap.size, 0, none⟩ (.int .i64 7)).setCell ⟨w.heap.size, 1, none⟩ (.string txt)).drew w.heap.size (symC 7 txt 0 ⟨#[]⟩ ⟨#[]⟩ E) 64 := ((HX.out.set 0 _).set 1 _).drew 1
                      have hZ1 : BlockAt ((W0.setCell ⟨w.heap.size, 0, none⟩ (.int .i64 7)).setCell ⟨w.heap.size, 1, none⟩ (.string txt)).drew (w.heap.size + 1) zeroC 64 := ((HZ.out.other (by omega) _ _).other (by omega) _ _).drew 1
                      clear x0 x1 x2 x3 x4 x5 xf
                      generalize ((W0.setCell ⟨w.heap.size, 0, none⟩ (.int .i64 7)).setCell ⟨w.heap.size, 1, none⟩ (.string txt)).drew = W1 at *
                      have HB1 := Lib.hid hB1
                      have HX1 := Lib.hid hX1
                      have HZ1 := Lib.hid hZ1
                      clear hB1 hX1 hZ1
                      have x0 := HX1.out.cell (j := 0) rfl
                      have x1 := HX1.out.cell (j := 1) rfl
                      have x2 := HX1.out.cell (j := 2) rfl
                      have x3 := HX1.out.cell (j := 3) rfl
                      have x4 := HX1.out.cell (j := 4) rfl
                      have x5 := HX1.out.cell (j := 5) rfl
                      have k0 := HZ1.out.cell (j := 0) rfl
                      have k1 := HZ1.out.cell (j := 1) rfl
                      have k2 := HZ1.out.cell (j := 2) rfl
                      have k3 := HZ1.out.cell (j := 3) rfl
                      have k4 := HZ1.out.cell (j := 4) rfl
                      have k5 := HZ1.out.cell (j := 5) rfl
                      have kf : ∀ j, W1.frozen? ⟨w.heap.size + 1, j, none⟩ = false := fun j => HZ1.out.free j
                      go_wp2_with fail
                      refine bodyPost_ret (results_lex (p := 6) (u := 7) rfl _ _ _ (w.heap.size + 1) 64 _ (0, 0) _ rfl (HZ1.out.set6 _ _ _ _ _ _) Tryz.underlying64 (by kernel_rfl)) rfl ?_
                      exact HS.out _ (below_set6 HB1.out (Nat.le_succ _) _ _ _ _ _ _)
        · have d1 : decide ((k : Int) < (s.size : Int)) = false := by simp; omega
          have HE := Lib.hid (HQ.out.over hlt)
          by_cases h64 : E + 1 + 64 < k
          · have d3 : decide ((E : Int) + 1 + 64 < (k : Int)) = true := by simp; omega
            have HBd := Lib.hid (HBad.out (HBk.out k HE.out h64))
            have x0 := HX.out.cell (j := 0) rfl
            have x1 := HX.out.cell (j := 1) rfl
            have x2 := HX.out.cell (j := 2) rfl
            have x3 := HX.out.cell (j := 3) rfl
            have x4 := HX.out.cell (j := 4) rfl
            have x5 := HX.out.cell (j := 5) rfl
            have k0 := HZ.out.cell (j := 0) rfl
            have k1 := HZ.out.cell (j := 1) rfl
            have k2 := HZ.out.cell (j := 2) rfl
            have k3 := HZ.out.cell (j := 3) rfl
            have k4 := HZ.out.cell (j := 4) rfl
            have k5 := HZ.out.cell (j := 5) rfl
            have kf : ∀ j, W0.frozen? ⟨w.heap.size + 1, j, none⟩ = false := fun j => HZ.out.free j
            go_wp2_with (first | (go_at_call 72; refine cl.mono ?_; rintro e y ⟨rfl, rfl⟩) | (go_at_call 41; refine cd.mono ?_; rintro e y ⟨rfl, rfl⟩))
            refine bodyPost_ret (results_lex rfl _ _ _ (w.heap.size + 1) 64 _ (0, 0) _ rfl (HZ.out.set6 _ _ _ _ _ _) Tryz.underlying64 (by kernel_rfl)) rfl (HBd.out _ _ _ _ _ _ _ (below_set6 HB.out (Nat.le_succ _) _ _ _ _ _ _))
          · have d3 : decide ((E : Int) + 1 + 64 < (k : Int)) = false := by simp; omega
            have HS := Lib.hid (HNk.out k HE.out h64)
            have hsl := slice_at s E k (by omega) (by omega)
            obtain ⟨txt, htx⟩ : ∃ txt, txt = s.extract E k := ⟨_, rfl⟩
            rw [← htx] at HS hsl
            clear htx
            go_upto_region 13 with (first | (go_at_call 72; refine cl.mono ?_; rintro e y ⟨rfl, rfl⟩) | (go_at_call 41; refine cd.mono ?_; rintro e y ⟨rfl, rfl⟩))
            have x0 := HX.out.cell (j := 0) rfl
            have x1 := HX.out.cell (j := 1) rfl
            have x2 := HX.out.cell (j := 2) rfl
            have x3 := HX.out.cell (j := 3) rfl
            have x4 := HX.out.cell (j := 4) rfl
            have x5 := HX.out.cell (j := 5) rfl
            have xf : ∀ j, W0.frozen? ⟨w.heap.size, j, none⟩ = false := fun j => HX.out.free j
            go_region_with fail
            all_goals
              have hB1 : Below w.heap.size w ((W0.setCell ⟨w.heap.size, 0, none⟩ (.int .i64 7)).setCell ⟨w.heap.size, 1, none⟩ (.string txt)).drew := ((HB.out.setCell (Nat.le_refl _) _).setCell (Nat.le_refl _) _).trans (lex_drewN _ _ 1)
              have hX1 : BlockAt ((W0.setCell ⟨w.heap.size, 0, none⟩ (.int .i64 7)).setCell ⟨w.heap.size, 1, none⟩ (.string txt)).drew w.heap.size (symC 7 txt 0 ⟨#[]⟩ ⟨#[]⟩ E) 64 := ((HX.out.set 0 _).set 1 _).drew 1
              have hZ1 : BlockAt ((W0.setCell ⟨w.heap.size, 0, none⟩ (.int .i64 7)).setCell ⟨w.heap.size, 1, none⟩ (.string txt)).drew (w.heap.size + 1) zeroC 64 := ((HZ.out.other (by omega) _ _).other (by omega) _ _).drew 1
              clear x0 x1 x2 x3 x4 x5 xf
              generalize ((W0.setCell ⟨w.heap.size, 0, none⟩ (.int .i64 7)).setCell ⟨w.heap.size, 1, none⟩ (.string txt)).drew = W1 at *
              have HB1 := Lib.hid hB1
              have HX1 := Lib.hid hX1
              have HZ1 := Lib.hid hZ1
              clear hB1 hX1 hZ1
              have x0 := HX1.out.cell (j := 0) rfl
              have x1 := HX1.out.cell (j := 1) rfl
              have x2 := HX1.out.cell (j := 2) rfl
              have x3 := HX1.out.cell (j := 3) rfl
              have x4 := HX1.out.cell (j := 4) rfl
              have x5 := HX1.out.cell (j := 5) rfl
              have k0 := HZ1.out.cell (j := 0) rfl
              have k1 := HZ1.out.cell (j := 1) rfl
              have k2 := HZ1.out.cell (j := 2) rfl
              have k3 := HZ1.out.cell (j := 3) rfl
              have k4 := HZ1.out.cell (j := 4) rfl
              have k5 := HZ1.out.cell (j := 5) rfl
              have kf : ∀ j, W1.frozen? ⟨w.heap.size + 1, j, none⟩ = false := fun j => HZ1.out.free j
              go_wp2_with fail
              refine bodyPost_ret (results_lex (p := 6) (u := 7) rfl _ _ _ (w.heap.size + 1) 64 _ (0, 0) _ rfl (HZ1.out.set6 _ _ _ _ _ _) Tryz.underlying64 (by kernel_rfl)) rfl ?_
              exact HS.out _ (below_set6 HB1.out (Nat.le_succ _) _ _ _ _ _ _)
  · have g1 : ((E : Int) == (a : Int)) = false := by rw [beq_eq_false_iff_ne]; omega
    clear hz hb1
    by_cases hq : f (E : Int) ≠ 58 ∨ f ((E : Int) + 1) = 45
    · have HS := Lib.hid (HWd2.out hq)
      have hsl := slice_at s a E (by omega) (by omega)
      obtain ⟨txt, htx⟩ : ∃ txt, txt = s.extract a E := ⟨_, rfl⟩
      rw [← htx] at HS hsl
      clear htx
      by_cases hq1 : f (E : Int) = 58
      · have n1 : (f (E : Int) != 58) = false := by rw [hq1]; rfl
        have n2 : (f ((E : Int) + 1) == 45) = true := by rw [beq_iff_eq]; exact hq.elim (fun h => absurd hq1 h) id
        clear hq hq1 HWd2 HB22 HNa2
        go_upto_region 5 with (first | (go_at_call 40; refine HW.out.mono ?_; rintro e y ⟨rfl, rfl⟩) | (go_at_call 39; refine (HCh.out _ (by omega) (by omega)).mono ?_; rintro e y ⟨rfl, rfl⟩))
        have x0 := HX.out.cell (j := 0) rfl
        have x1 := HX.out.cell (j := 1) rfl
        have x2 := HX.out.cell (j := 2) rfl
        have x3 := HX.out.cell (j := 3) rfl
        have x4 := HX.out.cell (j := 4) rfl
        have x5 := HX.out.cell (j := 5) rfl
        have xf : ∀ j, W0.frozen? ⟨w.heap.size, j, none⟩ = false := fun j => HX.out.free j
        go_region_with fail
        all_goals
          have hB1 : Below w.heap.size w ((W0.setCell ⟨w.heap.size, 0, none⟩ (.int .i64 6)).setCell ⟨w.heap.size, 1, none⟩ (.string txt)).drew := ((HB.out.setCell (Nat.le_refl _) _).setCell (Nat.le_refl _) _).trans (lex_drewN _ _ 1)
          have hX1 : BlockAt ((W0.setCell ⟨w.heap.size, 0, none⟩ (.int .i64 6)).setCell ⟨w.heap.size, 1, none⟩ (.string txt)).drew w.heap.size (symC 6 txt 0 ⟨#[]⟩ ⟨#[]⟩ a) 64 := ((HX.out.set 0 _).set 1 _).drew 1
          have hZ1 : BlockAt ((W0.setCell ⟨w.heap.size, 0, none⟩ (.int .i64 6)).setCell ⟨w.heap.size, 1, none⟩ (.string txt)).drew (w.heap.size + 1) zeroC 64 := ((HZ.out.other (by omega) _ _).other (by omega) _ _).drew 1
          clear x0 x1 x2 x3 x4 x5 xf
          generalize ((W0.setCell ⟨w.heap.size, 0, none⟩ (.int .i64 6)).setCell ⟨w.heap.size, 1, none⟩ (.string txt)).drew = W1 at *
          have HB1 := Lib.hid hB1
          have HX1 := Lib.hid hX1
          have HZ1 := Lib.hid hZ1
          clear hB1 hX1 hZ1
          have x0 := HX1.out.cell (j := 0) rfl
          have x1 := HX1.out.cell (j := 1) rfl
          have x2 := HX1.out.cell (j := 2) rfl
          have x3 := HX1.out.cell (j := 3) rfl
          have x4 := HX1.out.cell (j := 4) rfl
          have x5 := HX1.out.cell (j := 5) rfl
          have k0 := HZ1.out.cell (j := 0) rfl
          have k1 := HZ1.out.cell (j := 1) rfl
          have k2 := HZ1.out.cell (j := 2) rfl
          have k3 := HZ1.out.cell (j := 3) rfl
          have k4 := HZ1.out.cell (j := 4) rfl
          have k5 := HZ1.out.cell (j := 5) rfl
          have kf : ∀ j, W1.frozen? ⟨w.heap.size + 1, j, none⟩ = false := fun j => HZ1.out.free j
          go_wp2_with fail
          refine bodyPost_ret (results_lex (p := 6) (u := 7) rfl _ _ _ (w.heap.size + 1) 64 _ (0, 0) _ rfl (HZ1.out.set6 _ _ _ _ _ _) Tryz.underlying64 (by kernel_rfl)) rfl ?_
          exact HS.out _ (below_set6 HB1.out (Nat.le_succ _) _ _ _ _ _ _)
      · have n1 : (f (E : Int) != 58) = true := bne_iff_ne.2 hq1
        clear hq hq1 HWd2 HB22 HNa2
        go_upto_region 5 with (first | (go_at_call 40; refine HW.out.mono ?_; rintro e y ⟨rfl, rfl⟩) | (go_at_call 39; refine (HCh.out _ (by omega) (by omega)).mono ?_; rintro e y ⟨rfl, rfl⟩))
        have x0 := HX.out.cell (j := 0) rfl
        have x1 := HX.out.cell (j := 1) rfl
        have x2 := HX.out.cell (j := 2) rfl
        have x3 := HX.out.cell (j := 3) rfl
        have x4 := HX.out.cell (j := 4) rfl
        have x5 := HX.out.cell (j := 5) rfl
        have xf : ∀ j, W0.frozen? ⟨w.heap.size, j, none⟩ = false := fun j => HX.out.free j
        go_region_with fail
        all_goals
          have hB1 : Below w.heap.size w ((W0.setCell ⟨w.heap.size, 0, none⟩ (.int .i64 6)).setCell ⟨w.heap.size, 1, none⟩ (.string txt)).drew := ((HB.out.setCell (Nat.le_refl _) _).setCell (Nat.le_refl _) _).trans (lex_drewN _ _ 1)
          have hX1 : BlockAt ((W0.setCell ⟨w.heap.size, 0, none⟩ (.int .i64 6)).setCell ⟨w.heap.size, 1, none⟩ (.string txt)).drew w.heap.size (symC 6 txt 0 ⟨#[]⟩ ⟨#[]⟩ a) 64 := ((HX.out.set 0 _).set 1 _).drew 1
          have hZ1 : BlockAt ((W0.setCell ⟨w.heap.size, 0, none⟩ (.int .i64 6)).setCell ⟨w.heap.size, 1, none⟩ (.string txt)).drew (w.heap.size + 1) zeroC 64 := ((HZ.out.other (by omega) _ _).other (by omega) _ _).drew 1
          clear x0 x1 x2 x3 x4 x5 xf
          generalize ((W0.setCell ⟨w.heap.size, 0, none⟩ (.int .i64 6)).setCell ⟨w.heap.size, 1, none⟩ (.string txt)).drew = W1 at *
          have HB1 := Lib.hid hB1
          have HX1 := Lib.hid hX1
          have HZ1 := Lib.hid hZ1
          clear hB1 hX1 hZ1
          have x0 := HX1.out.cell (j := 0) rfl
          have x1 := HX1.out.cell (j := 1) rfl
          have x2 := HX1.out.cell (j := 2) rfl
          have x3 := HX1.out.cell (j := 3) rfl
          have x4 := HX1.out.cell (j := 4) rfl
          have x5 := HX1.out.cell (j := 5) rfl
          have k0 := HZ1.out.cell (j := 0) rfl
          have k1 := HZ1.out.cell (j := 1) rfl
          have k2 := HZ1.out.cell (j := 2) rfl
          have k3 := HZ1.out.cell (j := 3) rfl
          have k4 := HZ1.out.cell (j := 4) rfl
          have k5 := HZ1.out.cell (j := 5) rfl
          have kf : ∀ j, W1.frozen? ⟨w.heap.size + 1, j, none⟩ = false := fun j => HZ1.out.free j
          go_wp2_with fail
          refine bodyPost_ret (results_lex (p := 6) (u := 7) rfl _ _ _ (w.heap.size + 1) 64 _ (0, 0) _ rfl (HZ1.out.set6 _ _ _ _ _ _) Tryz.underlying64 (by kernel_rfl)) rfl ?_
          exact HS.out _ (below_set6 HB1.out (Nat.le_succ _) _ _ _ _ _ _)
    · have hq1 : f (E : Int) = 58 := Classical.byContradiction fun h => hq (.inl h)
      have n1 : (f (E : Int) != 58) = false := by rw [hq1]; rfl
      have n2 : (f ((E : Int) + 1) == 45) = false := by rw [beq_eq_false_iff_ne]; exact fun h => hq (.inr h)
      have hes := HEs.out hq1
      obtain ⟨Q, hQ⟩ : ∃ Q, Q = E + 1 + spanL localC ((bs s).drop (E + 1)) := ⟨_, rfl⟩
      have HQ0 : Hid (SpAt localC s (E + 1) Q) := Lib.hid hQ
      have HBk := Lib.hid (fun k (hk : Q = k) => HB22.out k (hk.symm.trans hQ) hq)
      have HNk := Lib.hid (fun k (hk : Q = k) => HNa2.out k (hk.symm.trans hQ) hq)
      clear hq hq1 hQ HWd2 HB22 HNa2
      go_wp2_with (first | (go_at_call 40; refine HW.out.mono ?_; rintro e y ⟨rfl, rfl⟩) | (go_at_call 39; refine (HCh.out _ (by omega) (by omega)).mono ?_; rintro e y ⟨rfl, rfl⟩))
      go_loopg [8] s.size (fun g i wr => ∃ k : Nat, k ≤ s.size ∧ s.size - k ≤ g ∧ E + 1 ≤ k ∧ i = .int .i64 k ∧ SpAt localC s k Q ∧ W0 = wr)
      case atStart => exact ⟨E + 1, by omega, by omega, Nat.le_refl _, by go_num, HQ0.out, rfl⟩
      case round =>
        obtain ⟨k, hk, hg, hak, rfl, hq, rfl⟩ := hrel
        have HQ := Lib.hid hq
        clear hq HQ0
        by_cases hlt : k < s.size
        · have d1 : decide ((k : Int) < (s.size : Int)) = true := by simpa using hlt
          have i0 : (0 : Int) ≤ (k : Int) := by omega
          have i1 : (k : Int) < (s.size : Int) := by omega
          have cl := CL.out (s[k].toNat : Int)
          have cd := CD.out (s[k].toNat : Int)
          have hloc := localC_of (c := (s[k].toNat : Int)) rfl rfl
          generalize Term.letter (s[k].toNat : Int) = L at *
          generalize Term.digit (s[k].toNat : Int) = D at *
          have HLo := Lib.hid hloc
          clear hloc
          cases L with
          | true =>
            have HQ1 := Lib.hid (HQ.out.step hlt (by rw [HLo.out]; simp))
            go_wp2_with (first | (go_at_call 72; refine cl.mono ?_; rintro e y ⟨rfl, rfl⟩) | (go_at_call 41; refine cd.mono ?_; rintro e y ⟨rfl, rfl⟩))
            go_roundg (s.size - (k + 1))
            case measure => omega
            case rel => exact ⟨k + 1, by omega, Nat.le_refl _, by omega, by go_num, HQ1.out, rfl⟩
          | false =>
            cases D with
            | true =>
              have HQ1 := Lib.hid (HQ.out.step hlt (by rw [HLo.out]; simp))
              go_wp2_with (first | (go_at_call 72; refine cl.mono ?_; rintro e y ⟨rfl, rfl⟩) | (go_at_call 41; refine cd.mono ?_; rintro e y ⟨rfl, rfl⟩))
              go_roundg (s.size - (k + 1))
              case measure => omega
              case rel => exact ⟨k + 1, by omega, Nat.le_refl _, by omega, by go_num, HQ1.out, rfl⟩
            | false =>
              by_cases c45 : (s[k].toNat : Int) = 45
              · have HQ1 := Lib.hid (HQ.out.step hlt (by rw [HLo.out, c45]; decide))
                have f1 : ((s[k].toNat : Int) == 45) = true := by simpa using c45
                clear c45
                go_wp2_with (first | (go_at_call 72; refine cl.mono ?_; rintro e y ⟨rfl, rfl⟩) | (go_at_call 41; refine cd.mono ?_; rintro e y ⟨rfl, rfl⟩))
                go_roundg (s.size - (k + 1))
                case measure => omega
                case rel => exact ⟨k + 1, by omega, Nat.le_refl _, by omega, by go_num, HQ1.out, rfl⟩
              · have f1 : ((s[k].toNat : Int) == 45) = false := by simpa using c45
                by_cases c95 : (s[k].toNat : Int) = 95
                · have HQ1 := Lib.hid (HQ.out.step hlt (by rw [HLo.out, c95]; decide))
                  have f2 : ((s[k].toNat : Int) == 95) = true := by simpa using c95
                  clear c45 c95
                  go_wp2_with (first | (go_at_call 72; refine cl.mono ?_; rintro e y ⟨rfl, rfl⟩) | (go_at_call 41; refine cd.mono ?_; rintro e y ⟨rfl, rfl⟩))
                  go_roundg (s.size - (k + 1))
                  case measure => omega
                  case rel => exact ⟨k + 1, by omega, Nat.le_refl _, by omega, by go_num, HQ1.out, rfl⟩
                · have f2 : ((s[k].toNat : Int) == 95) = false := by simpa using c95
                  have HE := Lib.hid (HQ.out.none hlt (by rw [HLo.out, decide_eq_false c45, decide_eq_false c95]; rfl))
                  clear c45 c95
                  by_cases h64 : E + 1 + 64 < k
                  · have d3 : decide ((E : Int) + 1 + 64 < (k : Int)) = true := by simp; omega
                    have HBd := Lib.hid (HBad.out (HBk.out k HE.out h64))
                    have x0 := HX.out.cell (j := 0) rfl
                    have x1 := HX.out.cell (j := 1) rfl
                    have x2 := HX.out.cell (j := 2) rfl
                    have x3 := HX.out.cell (j := 3) rfl
                    have x4 := HX.out.cell (j := 4) rfl
                    have x5 := HX.out.cell (j := 5) rfl
                    have k0 := HZ.out.cell (j := 0) rfl
                    have k1 := HZ.out.cell (j := 1) rfl
                    have k2 := HZ.out.cell (j := 2) rfl
                    have k3 := HZ.out.cell (j := 3) rfl
                    have k4 := HZ.out.cell (j := 4) rfl
                    have k5 := HZ.out.cell (j := 5) rfl
                    have kf : ∀ j, W0.frozen? ⟨w.heap.size + 1, j, none⟩ = false := fun j => HZ.out.free j
                    go_wp2_with (first | (go_at_call 72; refine cl.mono ?_; rintro e y ⟨rfl, rfl⟩) | (go_at_call 41; refine cd.mono ?_; rintro e y ⟨rfl, rfl⟩))
                    refine bodyPost_ret (results_lex rfl _ _ _ (w.heap.size + 1) 64 _ (0, 0) _ rfl (HZ.out.set6 _ _ _ _ _ _) Tryz.underlying64 (by kernel_rfl)) rfl (HBd.out _ _ _ _ _ _ _ (below_set6 HB.out (Nat.le_succ _) _ _ _ _ _ _))
                  · have d3 : decide ((E : Int) + 1 + 64 < (k : Int)) = false := by simp; omega
                    have HS := Lib.hid (HNk.out k HE.out h64)
                    have hsl := slice_at s a k (by omega) (by omega)
                    obtain ⟨txt, htx⟩ : ∃ txt, txt = s.extract a k := ⟨_, rfl⟩
                    rw [← htx] at HS hsl
                    clear htx
                    go_upto_region 13 with (first | (go_at_call 72; refine cl.mono ?_; rintro e y ⟨rfl, rfl⟩) | (go_at_call 41; refine cd.mono ?_; rintro e y ⟨rfl, rfl⟩))
                    have x0 := HX.out.cell (j := 0) rfl
                    have x1 := HX.out.cell (j := 1) rfl
                    have x2 := HX.out.cell (j := 2) rfl
                    have x3 := HX.out.cell (j := 3) rfl
                    have x4 := HX.out.cell (j := 4) rfl
                    have x5 := HX.out.cell (j := 5) rfl
                    have xf : ∀ j, W0.frozen? ⟨w.heap.size, j, none⟩ = false := fun j => HX.out.free j
                    go_region_with fail
                    all_goals
                      have hB1 : Below w.heap.size w ((W0.setCell ⟨w.heap.size, 0, none⟩ (.int .i64 7)).setCell ⟨w.heap.size, 1, none⟩ (.string txt)).drew := ((HB.out.setCell (Nat.le_refl _) _).setCell (Nat.le_refl _) _).trans (lex_drewN _ _ 1)
                      have hX1 : BlockAt ((W0.setCell ⟨w.heap.size, 0, none⟩ (.int .i64 7)).setCell ⟨w.heap.size, 1, none⟩ (.string txt)).drew w.heap.size (symC 7 txt 0 ⟨#[]⟩ ⟨#[]⟩ a) 64 := ((HX.out.set 0 _).set 1 _).drew 1
                      have hZ1 : BlockAt ((W0.setCell ⟨w.heap.size, 0, none⟩ (.int .i64 7)).setCell ⟨w.heap.size, 1, none⟩ (.string txt)).drew (w.heap.size + 1) zeroC 64 := ((HZ.out.other (by omega) _ _).other (by omega) _ _).drew 1
                      clear x0 x1 x2 x3 x4 x5 xf
                      generalize ((W0.setCell ⟨w.heap.size, 0, none⟩ (.int .i64 7)).setCell ⟨w.heap.size, 1, none⟩ (.string txt)).drew = W1 at *
                      have HB1 := Lib.hid hB1
                      have HX1 := Lib.hid hX1
                      have HZ1 := Lib.hid hZ1
                      clear hB1 hX1 hZ1
                      have x0 := HX1.out.cell (j := 0) rfl
                      have x1 := HX1.out.cell (j := 1) rfl
                      have x2 := HX1.out.cell (j := 2) rfl
                      have x3 := HX1.out.cell (j := 3) rfl
                      have x4 := HX1.out.cell (j := 4) rfl
                      have x5 := HX1.out.cell (j := 5) rfl
                      have k0 := HZ1.out.cell (j := 0) rfl
                      have k1 := HZ1.out.cell (j := 1) rfl
                      have k2 := HZ1.out.cell (j := 2) rfl
                      have k3 := HZ1.out.cell (j := 3) rfl
                      have k4 := HZ1.out.cell (j := 4) rfl
                      have k5 := HZ1.out.cell (j := 5) rfl
                      have kf : ∀ j, W1.frozen? ⟨w.heap.size + 1, j, none⟩ = false := fun j => HZ1.out.free j
                      go_wp2_with fail
                      refine bodyPost_ret (results_lex (p := 6) (u := 7) rfl _ _ _ (w.heap.size + 1) 64 _ (0, 0) _ rfl (HZ1.out.set6 _ _ _ _ _ _) Tryz.underlying64 (by kernel_rfl)) rfl ?_
                      exact HS.out _ (below_set6 HB1.out (Nat.le_succ _) _ _ _ _ _ _)
        · have d1 : decide ((k : Int) < (s.size : Int)) = false := by simp; omega
          have HE := Lib.hid (HQ.out.over hlt)
          by_cases h64 : E + 1 + 64 < k
          · have d3 : decide ((E : Int) + 1 + 64 < (k : Int)) = true := by simp; omega
            have HBd := Lib.hid (HBad.out (HBk.out k HE.out h64))
            have x0 := HX.out.cell (j := 0) rfl
            have x1 := HX.out.cell (j := 1) rfl
            have x2 := HX.out.cell (j := 2) rfl
            have x3 := HX.out.cell (j := 3) rfl
            have x4 := HX.out.cell (j := 4) rfl
            have x5 := HX.out.cell (j := 5) rfl
            have k0 := HZ.out.cell (j := 0) rfl
            have k1 := HZ.out.cell (j := 1) rfl
            have k2 := HZ.out.cell (j := 2) rfl
            have k3 := HZ.out.cell (j := 3) rfl
            have k4 := HZ.out.cell (j := 4) rfl
            have k5 := HZ.out.cell (j := 5) rfl
            have kf : ∀ j, W0.frozen? ⟨w.heap.size + 1, j, none⟩ = false := fun j => HZ.out.free j
            go_wp2_with (first | (go_at_call 72; refine cl.mono ?_; rintro e y ⟨rfl, rfl⟩) | (go_at_call 41; refine cd.mono ?_; rintro e y ⟨rfl, rfl⟩))
            refine bodyPost_ret (results_lex rfl _ _ _ (w.heap.size + 1) 64 _ (0, 0) _ rfl (HZ.out.set6 _ _ _ _ _ _) Tryz.underlying64 (by kernel_rfl)) rfl (HBd.out _ _ _ _ _ _ _ (below_set6 HB.out (Nat.le_succ _) _ _ _ _ _ _))
          · have d3 : decide ((E : Int) + 1 + 64 < (k : Int)) = false := by simp; omega
            have HS := Lib.hid (HNk.out k HE.out h64)
            have hsl := slice_at s a k (by omega) (by omega)
            obtain ⟨txt, htx⟩ : ∃ txt, txt = s.extract a k := ⟨_, rfl⟩
            rw [← htx] at HS hsl
            clear htx
            go_upto_region 13 with (first | (go_at_call 72; refine cl.mono ?_; rintro e y ⟨rfl, rfl⟩) | (go_at_call 41; refine cd.mono ?_; rintro e y ⟨rfl, rfl⟩))
            have x0 := HX.out.cell (j := 0) rfl
            have x1 := HX.out.cell (j := 1) rfl
            have x2 := HX.out.cell (j := 2) rfl
            have x3 := HX.out.cell (j := 3) rfl
            have x4 := HX.out.cell (j := 4) rfl
            have x5 := HX.out.cell (j := 5) rfl
            have xf : ∀ j, W0.frozen? ⟨w.heap.size, j, none⟩ = false := fun j => HX.out.free j
            go_region_with fail
            all_goals
              have hB1 : Below w.heap.size w ((W0.setCell ⟨w.heap.size, 0, none⟩ (.int .i64 7)).setCell ⟨w.heap.size, 1, none⟩ (.string txt)).drew := ((HB.out.setCell (Nat.le_refl _) _).setCell (Nat.le_refl _) _).trans (lex_drewN _ _ 1)
              have hX1 : BlockAt ((W0.setCell ⟨w.heap.size, 0, none⟩ (.int .i64 7)).setCell ⟨w.heap.size, 1, none⟩ (.string txt)).drew w.heap.size (symC 7 txt 0 ⟨#[]⟩ ⟨#[]⟩ a) 64 := ((HX.out.set 0 _).set 1 _).drew 1
              have hZ1 : BlockAt ((W0.setCell ⟨w.heap.size, 0, none⟩ (.int .i64 7)).setCell ⟨w.heap.size, 1, none⟩ (.string txt)).drew (w.heap.size + 1) zeroC 64 := ((HZ.out.other (by omega) _ _).other (by omega) _ _).drew 1
              clear x0 x1 x2 x3 x4 x5 xf
              generalize ((W0.setCell ⟨w.heap.size, 0, none⟩ (.int .i64 7)).setCell ⟨w.heap.size, 1, none⟩ (.string txt)).drew = W1 at *
              have HB1 := Lib.hid hB1
              have HX1 := Lib.hid hX1
              have HZ1 := Lib.hid hZ1
              clear hB1 hX1 hZ1
              have x0 := HX1.out.cell (j := 0) rfl
              have x1 := HX1.out.cell (j := 1) rfl
              have x2 := HX1.out.cell (j := 2) rfl
              have x3 := HX1.out.cell (j := 3) rfl
              have x4 := HX1.out.cell (j := 4) rfl
              have x5 := HX1.out.cell (j := 5) rfl
              have k0 := HZ1.out.cell (j := 0) rfl
              have k1 := HZ1.out.cell (j := 1) rfl
              have k2 := HZ1.out.cell (j := 2) rfl
              have k3 := HZ1.out.cell (j := 3) rfl
              have k4 := HZ1.out.cell (j := 4) rfl
              have k5 := HZ1.out.cell (j := 5) rfl
              have kf : ∀ j, W1.frozen? ⟨w.heap.size + 1, j, none⟩ = false := fun j => HZ1.out.free j
              go_wp2_with fail
              refine bodyPost_ret (results_lex (p := 6) (u := 7) rfl _ _ _ (w.heap.size + 1) 64 _ (0, 0) _ rfl (HZ1.out.set6 _ _ _ _ _ _) Tryz.underlying64 (by kernel_rfl)) rfl ?_
              exact HS.out _ (below_set6 HB1.out (Nat.le_succ _) _ _ _ _ _ _)
end Go.Proofs.YtbcoklbfebmpoaaGreatDoor

/-
  CONTRACTS OF THE REFERENCE's marks, One: exact. Written by tools/genrefone.py.
-/

namespace Go.Proofs.YtbcoklbfebmpoaaGreatDoor
open Go.RowKit
open Utf Term Lex
set_option linter.unusedVariables false
set_option linter.unusedSimpArgs false

set_option maxRecDepth 100000 in
set_option maxHeartbeats 2000000 in
theorem refMarks_any (W : World) :
    Calls Tryz.prog 36 #[] W fun e W' => ∃ g, e = .returned (.slice (some ⟨g, 0, none⟩) 10 10) ∧ BlockAt W' g marksC 9 ∧ Below W.heap.size W W' := by
  go_enter Tryz.func36, Tryz.ntmps36
  go_wp2_with fail
  go_ret
  exact ⟨W.heap.size, rfl, block_new _ _ _, below_lex _ _⟩
theorem mark_get : ∀ k, k < 10 → marksC[k]? = some (.string (markS k)) := below10 ⟨rfl, rfl, rfl, rfl, rfl, rfl, rfl, rfl, rfl, rfl⟩

/-- A mark stands there, or does not. -/
theorem mark_there (s m : ByteArray) (a : Nat) (ha : a ≤ s.size) (h : (bs m).isPrefixOf ((bs s).drop a) = true) : m.size ≤ s.size - a ∧ ((s.extract a (a + m.size)).toList == m.toList) = true := by
  have h1 := List.isPrefixOf_iff_prefix.1 h
  have h2 := h1.length_le
  rw [List.length_drop, bs_length, bs_length] at h2
  refine ⟨h2, ?_⟩
  have h3 : bs (s.extract a (a + m.size)) = bs m := by
    rw [bs_mid]
    obtain ⟨t, ht⟩ := h1
    rw [← ht, ← bs_length m, List.take_left]
  rw [str_beq, h3]
  exact decide_eq_true rfl
theorem mark_not (s m : ByteArray) (a : Nat) (ha : a ≤ s.size) (h : (bs m).isPrefixOf ((bs s).drop a) = false) (h2 : m.size ≤ s.size - a) : ((s.extract a (a + m.size)).toList == m.toList) = false := by
  rw [str_beq]
  refine decide_eq_false ?_
  intro e
  rw [bs_mid] at e
  have : (bs m).isPrefixOf ((bs s).drop a) = true := List.isPrefixOf_iff_prefix.2 (by rw [← e]; exact List.take_prefix _ _)
  rw [this] at h
  cases h

theorem OneX.any {T : Took} {a : Nat} {w W : World} {x : Sym} {n : Nat} {d : Int} (h : T = .got x n) (hd : d = ((a + n : Nat) : Int)) (hB : Below w.heap.size w W) : OneX T a w (.returned (.tuple #[.agg (symC x.kind (strOfNums x.text) x.tk (strOfNums x.tt) (strOfNums x.te) a), .int .i64 d])) W := by
  subst h hd
  exact ⟨hB, rfl⟩
/-- '<'. -/
theorem quo_iri (a : Nat) (r : List Int) (hr : ∀ c ∈ r, IsByte c) (l : List Int) (hl : one l = iriR r) : ∃ (T : ByteArray) (d : Int), quoE a (den false false 62 r) = .returned (.tuple #[.string T, .int .i64 d]) ∧ T.size ≤ r.length ∧
    ∀ w W, Below w.heap.size w W → OneX (one l) a w (.returned (.tuple #[.agg (symC 1 ⟨#[]⟩ 1 T ⟨#[]⟩ a), .int .i64 (if 0 ≤ d ∧ mayS 1 T ⟨#[]⟩ = true then d else -1)])) W := by
  rw [hl]
  unfold iriR
  cases hd : den false false 62 r with
  | none => exact ⟨⟨#[]⟩, -1, rfl, Nat.zero_le _, fun w W hB => by rw [if_neg (by omega)]; exact OneX.bad rfl _ _ _ _ _ _ _ hB⟩
  | some y =>
    obtain ⟨t, n⟩ := y
    have hb := den_bytes (Nat.le_refl _) hr hd
    refine ⟨strOfNums t, ((a + 1 + n : Nat) : Int), rfl, by rw [strOfNums_size]; exact hb.2, fun w W hB => ?_⟩
    rw [mayS_iri, bs_strOfNums hb.1]
    cases hi : isIRIB t with
    | true =>
      rw [if_pos ⟨by omega, rfl⟩]
      simp only [hi, if_true]
      exact OneX.any (x := ⟨1, [], 1, t, [], 0⟩) rfl (by omega) hB
    | false =>
      rw [if_neg (by simp)]
      simp only [hi, Bool.false_eq_true, if_false]
      exact OneX.bad rfl _ _ _ _ _ _ _ hB
/-- '"'. -/
theorem quo_str (a : Nat) (r : List Int) (hr : ∀ c ∈ r, IsByte c) (l : List Int) (hl : one l = quotedR r) : ∃ (T : ByteArray) (d : Int), quoE a (den true true 34 r) = .returned (.tuple #[.string T, .int .i64 d]) ∧
    ∀ w W, Below w.heap.size w W → OneX (one l) a w (.returned (.tuple #[.agg (symC 3 T 0 ⟨#[]⟩ ⟨#[]⟩ a), .int .i64 d])) W := by
  rw [hl]
  unfold quotedR
  cases hd : den true true 34 r with
  | none => exact ⟨⟨#[]⟩, -1, rfl, fun w W hB => OneX.bad rfl _ _ _ _ _ _ _ hB⟩
  | some y =>
    obtain ⟨t, n⟩ := y
    exact ⟨strOfNums t, ((a + 1 + n : Nat) : Int), rfl, fun w W hB => OneX.any (x := symT 3 t) rfl (by omega) hB⟩
/-- '_:'. -/
theorem word_blank (s : ByteArray) (a E : Nat) (hE : E = a + 2 + wordE ((bs s).drop (a + 2))) (l : List Int) (hl : one l = blankR ((bs s).drop (a + 2))) :
    ∀ w W, Below w.heap.size w W → OneX (one l) a w (.returned (.tuple #[.agg (symC 2 ⟨#[]⟩ 2 (s.extract (a + 2) E) ⟨#[]⟩ a), .int .i64 (if (0 : Int) ≤ (E : Int) ∧ mayS 2 (s.extract (a + 2) E) ⟨#[]⟩ = true then (E : Int) else -1)])) W := by
  intro w W hB
  have hb : bs (s.extract (a + 2) E) = ((bs s).drop (a + 2)).take (wordE ((bs s).drop (a + 2))) := by rw [hE]; exact bs_mid s (a + 2) _
  rw [mayS_blank, hb, hl]
  unfold blankR
  cases hi : isBlankB (((bs s).drop (a + 2)).take (wordE ((bs s).drop (a + 2)))) with
  | true =>
    rw [if_pos rfl, if_pos ⟨by omega, rfl⟩, ← str_of hb]
    exact OneX.any (x := ⟨2, [], 2, _, [], 0⟩) rfl (by omega) hB
  | false =>
    rw [if_neg (by simp), if_neg (by simp)]
    exact OneX.bad rfl _ _ _ _ _ _ _ hB
/-- '@'. -/
theorem span_lang (s : ByteArray) (a E : Nat) (hE : E = a + 1 + spanL langC ((bs s).drop (a + 1))) (l : List Int) (hl : one l = langR ((bs s).drop (a + 1))) :
    (mayS 4 ⟨#[]⟩ (s.extract (a + 1) E) = true → ∀ w W, Below w.heap.size w W → OneX (one l) a w (.returned (.tuple #[.agg (symC 4 (s.extract (a + 1) E) 0 ⟨#[]⟩ ⟨#[]⟩ a), .int .i64 E])) W) ∧
    (mayS 4 ⟨#[]⟩ (s.extract (a + 1) E) = false → one l = .bad) := by
  have hb : bs (s.extract (a + 1) E) = ((bs s).drop (a + 1)).take (spanL langC ((bs s).drop (a + 1))) := by rw [hE]; exact bs_mid s (a + 1) _
  rw [mayS_lang, hb, hl]
  unfold langR
  refine ⟨fun h w W hB => ?_, fun h => ?_⟩
  · rw [if_pos h, ← str_of hb]
    exact OneX.any (x := symT 4 _) rfl (by omega) hB
  · rw [if_neg (by rw [h]; decide)]
/-- '?'. -/
theorem word_var (s : ByteArray) (a E : Nat) (hE : E = a + 1 + wordE ((bs s).drop (a + 1))) (l : List Int) (hl : one l = varR ((bs s).drop (a + 1))) :
    (a + 1 < E → E ≤ a + 33 → ∀ w W, Below w.heap.size w W → OneX (one l) a w (.returned (.tuple #[.agg (symC 5 (s.extract (a + 1) E) 0 ⟨#[]⟩ ⟨#[]⟩ a), .int .i64 E])) W) ∧
    (¬ (a + 1 < E ∧ E ≤ a + 33) → one l = .bad) := by
  have hb : bs (s.extract (a + 1) E) = ((bs s).drop (a + 1)).take (wordE ((bs s).drop (a + 1))) := by rw [hE]; exact bs_mid s (a + 1) _
  rw [hl]
  unfold varR
  refine ⟨fun h1 h2 w W hB => ?_, fun h => ?_⟩
  · rw [if_pos ⟨by omega, by omega⟩, ← str_of hb]
    exact OneX.any (x := symT 5 _) rfl (by omega) hB
  · rw [if_neg (by omega)]
theorem OneX.form {T : Took} {a : Nat} {y : World} {e : Ending} {W' : World} (h : OneX T a y e W') : Below y.heap.size y W' ∧ ∃ k t tk tt te p d, e = .returned (.tuple #[.agg (symC k t tk tt te p), .int .i64 d]) ∧ ∀ w W, Below w.heap.size w W → OneX T a w e W := by
  obtain ⟨h1, h2⟩ := h
  cases T with
  | got x n =>
    refine ⟨h1, x.kind, strOfNums x.text, x.tk, strOfNums x.tt, strOfNums x.te, a, ((a + n : Nat) : Int), h2, fun w W hB => ⟨hB, h2⟩⟩
  | no =>
    obtain ⟨k, t, tk, tt, te, p, he⟩ := h2
    exact ⟨h1, k, t, tk, tt, te, p, -1, he, fun w W hB => ⟨hB, k, t, tk, tt, te, p, he⟩⟩
  | bad =>
    obtain ⟨k, t, tk, tt, te, p, he⟩ := h2
    exact ⟨h1, k, t, tk, tt, te, p, -1, he, fun w W hB => ⟨hB, k, t, tk, tt, te, p, he⟩⟩
theorem mark_one {l : List Int} {k : Nat} (hk : k < 10) (h : NoMark l k) (hp : (markL.getD k []).isPrefixOf l = true) (a : Nat) : ∀ w W, Below w.heap.size w W → OneX (one l) a w (.returned (.tuple #[.agg (symC 8 (markS k) 0 ⟨#[]⟩ ⟨#[]⟩ a), .int .i64 (((a + (markS k).size : Nat)) : Int)])) W := by
  intro w W hB
  rw [one_at_mark (markT_at hk h hp), ← bs_mark k hk, bs_length]
  have := OneX.any (a := a) (w := w) (W := W) (x := symT 8 (bs (markS k))) (n := (markS k).size) (T := .got (symT 8 (bs (markS k))) (markS k).size) rfl rfl hB
  simp only [symT] at this
  rw [str_of rfl] at this
  exact this

set_option maxRecDepth 100000 in
set_option maxHeartbeats 32000000 in
theorem refOne_is (s : ByteArray) (a : Nat) (hs : s.size ≤ 40000) (ha : a < s.size) (w : World) :
    Calls Tryz.prog 18 #[.string s, .int .i64 a] w (OneX (one ((bs s).drop a)) a w) := by
  have hB : Below w.heap.size w ((w.alloc (.cells zeroC 64)).alloc (.cells (symC 0 ⟨#[]⟩ 0 ⟨#[]⟩ ⟨#[]⟩ a) 64)) := below_next (below_lex _ _) (below_lex _ _)
  have hZ : BlockAt ((w.alloc (.cells zeroC 64)).alloc (.cells (symC 0 ⟨#[]⟩ 0 ⟨#[]⟩ ⟨#[]⟩ a) 64)) w.heap.size zeroC 64 := (block_new w _ _).alloc _
  have hX : BlockAt ((w.alloc (.cells zeroC 64)).alloc (.cells (symC 0 ⟨#[]⟩ 0 ⟨#[]⟩ ⟨#[]⟩ a) 64)) (w.heap.size + 1) (symC 0 ⟨#[]⟩ 0 ⟨#[]⟩ ⟨#[]⟩ a) 64 := by
    have := block_new (w.alloc (.cells zeroC 64)) (symC 0 ⟨#[]⟩ 0 ⟨#[]⟩ ⟨#[]⟩ a) 64
    rwa [World.size_alloc] at this
  obtain ⟨W0, hW0⟩ : ∃ W0, W0 = ((w.alloc (.cells zeroC 64)).alloc (.cells (symC 0 ⟨#[]⟩ 0 ⟨#[]⟩ ⟨#[]⟩ a) 64)) := ⟨_, rfl⟩
  rw [← hW0] at hB hX hZ
  have HB := Lib.hid hB
  have HX := Lib.hid hX
  have HZ := Lib.hid hZ
  have HW0 := Lib.hid hW0
  clear hB hX hZ hW0
  have hs9 : s.size ≤ 1000000000 := by omega
  have w1 : IntKind.i64.wrap ((a : Int) + 1) = (a : Int) + 1 := IntWalk.i64_in _ (by omega)
  have w2 : IntKind.i64.wrap ((a : Int) + 2) = (a : Int) + 2 := IntWalk.i64_in _ (by omega)
  have a0 : (0 : Int) ≤ (a : Int) := by omega
  have a1 : (a : Int) < (s.size : Int) := by omega
  have hbyte : ∀ k, ∀ c ∈ (bs s).drop k, IsByte c := fun k c hc => bs_byte s c (List.mem_of_mem_drop hc)
  have HBy := Lib.hid hbyte
  clear hbyte
  have hdr := bs_dropAt s a ha
  obtain ⟨L, hL⟩ : ∃ L, L = (bs s).drop a := ⟨_, rfl⟩
  have HDr : Hid (L = (s[a].toNat : Int) :: (bs s).drop (a + 1)) := Lib.hid (hL.trans hdr)
  have HL := Lib.hid hL
  obtain ⟨F, hF⟩ : ∃ F, F = OneX (one L) a w := ⟨_, rfl⟩
  have HF := Lib.hid hF
  rw [← hL, ← hF]
  clear hdr hL hF
  obtain ⟨f, hf⟩ : ∃ f : Int → Int, f = fun i => (bs s).getD i.toNat 0 := ⟨_, rfl⟩
  have HCh : Hid (∀ (W : World) (i : Int), 0 ≤ i → i ≤ 2000000000 → Calls Tryz.prog 39 #[.string s, .int .i64 i] W fun e w' => e = .returned (.int .u8 (f i)) ∧ W = w') := Lib.hid (fun W i h0 h1 => by
    have := refCh_is s i.toNat hs9 (by omega) W
    rw [hf]
    rwa [Int.toNat_of_nonneg h0] at this)
  have HF1 : Hid (f ((a : Int) + 1) = (bs s).getD (a + 1) 0) := Lib.hid (by rw [hf]; rfl)
  clear hf
  go_enter Tryz.func18, Tryz.ntmps18
  go_upto_region 2 with fail
  rw [← HW0.out]
  go_wp2_with fail
  go_loopg [8, 9] 10 (fun g i m wr => ∃ k : Nat, k ≤ 10 ∧ 10 - k ≤ g ∧ i = .int .i64 k ∧ NoMark L k ∧ Below W0.heap.size W0 wr)
  case atStart => exact ⟨0, by omega, by omega, rfl, fun j hj => by omega, Below.refl _ _⟩
  case round =>
    obtain ⟨k, hk, hg, rfl, hno, hBr⟩ := hrel
    have HN := Lib.hid hno
    have HBr := Lib.hid hBr
    have HB1 := Lib.hid (HB.out.trans (hBr.mono HB.out.size))
    have HX1 := Lib.hid (HX.out.kept hBr)
    have HZ1 := Lib.hid (HZ.out.kept hBr)
    clear hno hBr
    by_cases hlt : k < 10
    · have dk : decide ((k : Int) < 10) = true := by simp; omega
      have k0' : (0 : Int) ≤ (k : Int) := by omega
      have k1' : (k : Int) < 10 := by omega
      go_upto_region 6 with (go_at_call 36; refine (refMarks_any _).mono ?_; rintro e y1 ⟨g1, rfl, hb1, hB1⟩)
      have HBy1 := Lib.hid (HBr.out.trans (hB1.mono HBr.out.size))
      clear hb1 hB1
      go_upto_region 7 with (go_at_call 36; refine (refMarks_any _).mono ?_; rintro e y2 ⟨g2, rfl, hb2, hB2⟩; have mk := hb2.cell (j := k) (mark_get k hlt))
      have HBy2 := Lib.hid (HBy1.out.trans (hB2.mono HBy1.out.size))
      clear hb2 hB2 HBy1 mk
      have HB3 := Lib.hid (HB.out.trans (HBy2.out.mono HB.out.size))
      have HX3 := Lib.hid (HX.out.kept HBy2.out)
      have HZ3 := Lib.hid (HZ.out.kept HBy2.out)
      have hm10 : (markS k).size ≤ 10 := by
        have h1 := bs_mark k hlt
        have h2 : ∀ j, j < 10 → (markL.getD j []).length ≤ 10 := below10 (by decide)
        have := h2 k hlt
        rw [← h1, bs_length] at this
        exact this
      cases hp : (markL.getD k []).isPrefixOf L with
      | true =>
        have hOut := mark_one hlt HN.out hp a w
        have hth := mark_there s (markS k) a (by omega) (by rw [bs_mark k hlt, ← HL.out]; exact hp)
        rw [← HF.out] at hOut
        have HOut := Lib.hid hOut
        have hsl := slice_at s a (a + (markS k).size) (by omega) (by omega)
        rw [Int.natCast_add] at hsl
        rw [Int.natCast_add] at HOut
        generalize s.extract a (a + (markS k).size) = txt at *
        generalize markS k = m at *
        obtain ⟨hm1, heq⟩ := hth
        have d1 : decide ((m.size : Int) ≤ (s.size : Int) - (a : Int)) = true := by simp; omega
        clear hOut hp hm1
        go_upto_region 8 with fail
        have x0 := HX3.out.cell (j := 0) rfl
        have x1 := HX3.out.cell (j := 1) rfl
        have x2 := HX3.out.cell (j := 2) rfl
        have x3 := HX3.out.cell (j := 3) rfl
        have x4 := HX3.out.cell (j := 4) rfl
        have x5 := HX3.out.cell (j := 5) rfl
        have xf : ∀ j, y2.frozen? ⟨w.heap.size + 1, j, none⟩ = false := fun j => HX3.out.free j
        go_upto_region 9 with fail
        have hB1 : Below w.heap.size w ((y2.setCell ⟨w.heap.size + 1, 0, none⟩ (.int .i64 8)).setCell ⟨w.heap.size + 1, 1, none⟩ (.string m)) := ((HB3.out.setCell (p := ⟨w.heap.size + 1, 0, none⟩) (Nat.le_succ _) _).setCell (p := ⟨w.heap.size + 1, 1, none⟩) (Nat.le_succ _) _)
        have hX1 : BlockAt ((y2.setCell ⟨w.heap.size + 1, 0, none⟩ (.int .i64 8)).setCell ⟨w.heap.size + 1, 1, none⟩ (.string m)) (w.heap.size + 1) (symC 8 m 0 ⟨#[]⟩ ⟨#[]⟩ a) 64 := ((HX3.out.set 0 _).set 1 _)
        have hZ1 : BlockAt ((y2.setCell ⟨w.heap.size + 1, 0, none⟩ (.int .i64 8)).setCell ⟨w.heap.size + 1, 1, none⟩ (.string m)) w.heap.size zeroC 64 := ((HZ3.out.other (by omega) _ _).other (by omega) _ _)
        clear x0 x1 x2 x3 x4 x5 xf
        generalize ((y2.setCell ⟨w.heap.size + 1, 0, none⟩ (.int .i64 8)).setCell ⟨w.heap.size + 1, 1, none⟩ (.string m)) = W5 at *
        have HB5 := Lib.hid hB1
        have HX5 := Lib.hid hX1
        have HZ5 := Lib.hid hZ1
        clear hB1 hX1 hZ1
        have x0 := HX5.out.cell (j := 0) rfl
        have x1 := HX5.out.cell (j := 1) rfl
        have x2 := HX5.out.cell (j := 2) rfl
        have x3 := HX5.out.cell (j := 3) rfl
        have x4 := HX5.out.cell (j := 4) rfl
        have x5 := HX5.out.cell (j := 5) rfl
        have k0 := HZ5.out.cell (j := 0) rfl
        have k1 := HZ5.out.cell (j := 1) rfl
        have k2 := HZ5.out.cell (j := 2) rfl
        have k3 := HZ5.out.cell (j := 3) rfl
        have k4 := HZ5.out.cell (j := 4) rfl
        have k5 := HZ5.out.cell (j := 5) rfl
        have kf : ∀ j, W5.frozen? ⟨w.heap.size, j, none⟩ = false := fun j => HZ5.out.free j
        go_wp2_with fail
        refine bodyPost_ret (results_lex (p := 4) (u := 5) rfl _ _ _ w.heap.size 64 _ (0, 0) _ rfl (HZ5.out.set6 _ _ _ _ _ _) Tryz.underlying64 (by kernel_rfl)) rfl ?_
        exact HOut.out _ (below_set6 HB5.out (Nat.le_refl _) _ _ _ _ _ _)
      | false =>
        have HN2 := Lib.hid (HN.out.next hp)
        have hnt := mark_not s (markS k) a (by omega) (by rw [bs_mark k hlt, ← HL.out]; exact hp)
        by_cases hm : (markS k).size ≤ s.size - a
        · have heq := hnt hm
          have hsl := slice_at s a (a + (markS k).size) (by omega) (by omega)
          rw [Int.natCast_add] at hsl
          generalize s.extract a (a + (markS k).size) = txt at *
          generalize markS k = m at *
          have d1 : decide ((m.size : Int) ≤ (s.size : Int) - (a : Int)) = true := by simp; omega
          clear hnt hp
          go_wp2_with fail
          go_roundg (10 - (k + 1))
          case measure => omega
          case rel => exact ⟨k + 1, by omega, Nat.le_refl _, by go_num, HN2.out, HBy2.out⟩
        · generalize markS k = m at *
          have d1 : decide ((m.size : Int) ≤ (s.size : Int) - (a : Int)) = false := by simp; omega
          clear hnt hp
          go_wp2_with fail
          go_roundg (10 - (k + 1))
          case measure => omega
          case rel => exact ⟨k + 1, by omega, Nat.le_refl _, by go_num, HN2.out, HBy2.out⟩
    · obtain rfl : k = 10 := by omega
      have dk : decide (((10 : Nat) : Int) < 10) = false := by decide
      have hmt := markT_no HN.out
      rw [HDr.out] at hmt
      have HMt := Lib.hid hmt
      clear hmt
      go_upto_region 10 with (go_at_call 36; refine (refMarks_any _).mono ?_; rintro e y1 ⟨g1, rfl, hb1, hB1⟩)
      have hBy := HBr.out.trans (hB1.mono HBr.out.size)
      have HB3 := Lib.hid (HB.out.trans (hBy.mono HB.out.size))
      have HX3 := Lib.hid (HX.out.kept hBy)
      have HZ3 := Lib.hid (HZ.out.kept hBy)
      clear hb1 hB1 hBy HB HX HZ HBr HB1 HX1 HZ1 HN
      by_cases c60 : (s[a].toNat : Int) = 60
      · have hone : one L = iriR ((bs s).drop (a + 1)) := by rw [HDr.out, c60]; exact oneR_60 (by rw [← c60]; exact HMt.out)
        have e60 : ((s[a].toNat : Int) == 60) = true := by rw [c60]; rfl
        have e95 : ((s[a].toNat : Int) == 95) = false := by rw [c60]; rfl
        have e34 : ((s[a].toNat : Int) == 34) = false := by rw [c60]; rfl
        have e64 : ((s[a].toNat : Int) == 64) = false := by rw [c60]; rfl
        have e63 : ((s[a].toNat : Int) == 63) = false := by rw [c60]; rfl
        obtain ⟨T, d, hq, hT, hout⟩ := quo_iri a _ (HBy.out (a + 1)) L hone
        have hqc := refQuoted_is s a 62 false hs9 ha (by decide) y1
        rw [hq] at hqc
        have HQ := Lib.hid hqc
        rw [List.length_drop, bs_length] at hT
        have hO := hout w
        rw [← HF.out] at hO
        have HOut := Lib.hid hO
        clear hone hq hqc hO hout c60
        go_upto_region 12 with (go_at_call 37; refine HQ.out.mono ?_; rintro e y ⟨rfl, hB2⟩)
        have HB4 := Lib.hid (HB3.out.trans (hB2.mono HB3.out.size))
        have HX4 := Lib.hid (HX3.out.kept hB2)
        have HZ4 := Lib.hid (HZ3.out.kept hB2)
        clear hB2 HB3 HX3 HZ3
        have x0 := HX4.out.cell (j := 0) rfl
        have x1 := HX4.out.cell (j := 1) rfl
        have x2 := HX4.out.cell (j := 2) rfl
        have x3 := HX4.out.cell (j := 3) rfl
        have x4 := HX4.out.cell (j := 4) rfl
        have x5 := HX4.out.cell (j := 5) rfl
        have xf : ∀ j, y.frozen? ⟨w.heap.size + 1, j, none⟩ = false := fun j => HX4.out.free j
        go_upto_region 13 with fail
        have hB1 : Below w.heap.size w ((((y.setCell ⟨w.heap.size + 1, 0, none⟩ (.int .i64 1)).setCell ⟨w.heap.size + 1, 2, none⟩ (.int .i64 1)).setCell ⟨w.heap.size + 1, 3, none⟩ (.string T)).setCell ⟨w.heap.size + 1, 4, none⟩ (.string ⟨#[]⟩)) := ((((HB4.out.setCell (p := ⟨w.heap.size + 1, 0, none⟩) (Nat.le_succ _) _).setCell (p := ⟨w.heap.size + 1, 2, none⟩) (Nat.le_succ _) _).setCell (p := ⟨w.heap.size + 1, 3, none⟩) (Nat.le_succ _) _).setCell (p := ⟨w.heap.size + 1, 4, none⟩) (Nat.le_succ _) _)
        have hX1 : BlockAt ((((y.setCell ⟨w.heap.size + 1, 0, none⟩ (.int .i64 1)).setCell ⟨w.heap.size + 1, 2, none⟩ (.int .i64 1)).setCell ⟨w.heap.size + 1, 3, none⟩ (.string T)).setCell ⟨w.heap.size + 1, 4, none⟩ (.string ⟨#[]⟩)) (w.heap.size + 1) (symC 1 ⟨#[]⟩ 1 T ⟨#[]⟩ a) 64 := ((((HX4.out.set 0 _).set 2 _).set 3 _).set 4 _)
        have hZ1 : BlockAt ((((y.setCell ⟨w.heap.size + 1, 0, none⟩ (.int .i64 1)).setCell ⟨w.heap.size + 1, 2, none⟩ (.int .i64 1)).setCell ⟨w.heap.size + 1, 3, none⟩ (.string T)).setCell ⟨w.heap.size + 1, 4, none⟩ (.string ⟨#[]⟩)) w.heap.size zeroC 64 := ((((HZ4.out.other (by omega) _ _).other (by omega) _ _).other (by omega) _ _).other (by omega) _ _)
        clear x0 x1 x2 x3 x4 x5 xf
        generalize ((((y.setCell ⟨w.heap.size + 1, 0, none⟩ (.int .i64 1)).setCell ⟨w.heap.size + 1, 2, none⟩ (.int .i64 1)).setCell ⟨w.heap.size + 1, 3, none⟩ (.string T)).setCell ⟨w.heap.size + 1, 4, none⟩ (.string ⟨#[]⟩)) = W5 at *
        have HB5 := Lib.hid hB1
        have HX5 := Lib.hid hX1
        have HZ5 := Lib.hid hZ1
        clear hB1 hX1 hZ1
        have HM := Lib.hid (refMaySym_any 1 ⟨#[]⟩ 1 T ⟨#[]⟩ a d (by omega) (by decide) W5)
        obtain ⟨D2, hD2⟩ : ∃ D2 : Int, D2 = if (0 : Int) ≤ d ∧ mayS 1 T ⟨#[]⟩ = true then d else -1 := ⟨_, rfl⟩
        rw [← hD2] at HM HOut
        clear hD2
        have x0 := HX5.out.cell (j := 0) rfl
        have x1 := HX5.out.cell (j := 1) rfl
        have x2 := HX5.out.cell (j := 2) rfl
        have x3 := HX5.out.cell (j := 3) rfl
        have x4 := HX5.out.cell (j := 4) rfl
        have x5 := HX5.out.cell (j := 5) rfl
        go_wp2_with (go_at_call 38; refine HM.out.mono ?_; rintro e y2 ⟨rfl, hB3⟩; have k0 := (HZ5.out.kept hB3).cell (j := 0) rfl; have k1 := (HZ5.out.kept hB3).cell (j := 1) rfl; have k2 := (HZ5.out.kept hB3).cell (j := 2) rfl; have k3 := (HZ5.out.kept hB3).cell (j := 3) rfl; have k4 := (HZ5.out.kept hB3).cell (j := 4) rfl; have k5 := (HZ5.out.kept hB3).cell (j := 5) rfl; have kf : ∀ j, y2.frozen? ⟨w.heap.size, j, none⟩ = false := fun j => (HZ5.out.kept hB3).free j)
        refine bodyPost_ret (results_lex (p := 4) (u := 5) rfl _ _ _ w.heap.size 64 _ (0, 0) _ rfl ((HZ5.out.kept hB3).set6 _ _ _ _ _ _) Tryz.underlying64 (by kernel_rfl)) rfl ?_
        exact HOut.out _ (below_set6 (HB5.out.trans (hB3.mono HB5.out.size)) (Nat.le_refl _) _ _ _ _ _ _)
      by_cases c95b : (s[a].toNat : Int) = 95 ∧ f ((a : Int) + 1) = 58
      · obtain ⟨c95, c58⟩ := c95b
        have e60 : ((s[a].toNat : Int) == 60) = false := by rw [c95]; rfl
        have e95 : ((s[a].toNat : Int) == 95) = true := by rw [c95]; rfl
        have e34 : ((s[a].toNat : Int) == 34) = false := by rw [c95]; rfl
        have e64 : ((s[a].toNat : Int) == 64) = false := by rw [c95]; rfl
        have e63 : ((s[a].toNat : Int) == 63) = false := by rw [c95]; rfl
        have e58 : (f ((a : Int) + 1) == 58) = true := by rw [c58]; rfl
        have h58 : (bs s).getD (a + 1) 0 = 58 := by rw [← HF1.out]; exact c58
        have h1s : a + 1 < s.size := by
          have := getD_in (l := bs s) (k := a + 1) (by rw [h58]; decide)
          rwa [bs_length] at this
        have hd2 : (bs s).drop (a + 1) = 58 :: (bs s).drop (a + 2) := by rw [drop_at (by rw [bs_length]; exact h1s), h58]
        have hone : one L = blankR ((bs s).drop (a + 2)) := by
          have hm := HMt.out
          rw [HDr.out, c95, hd2]
          rw [c95, hd2] at hm
          exact oneR_95 hm
        obtain ⟨E, hE⟩ : ∃ E, E = a + 2 + wordE ((bs s).drop (a + 2)) := ⟨_, rfl⟩
        have hwd : Calls Tryz.prog 40 #[.string s, .int .i64 ((a : Int) + 2)] y1 fun e w' => e = .returned (.int .i64 ((a + 2 + wordE ((bs s).drop (a + 2)) : Nat) : Int)) ∧ y1 = w' := refWordEnd_is s (a + 2) hs9 (by omega) y1
        rw [← hE] at hwd
        have hle := wordE_le ((bs s).drop (a + 2))
        rw [List.length_drop, bs_length] at hle
        have hE1 : a + 2 ≤ E := by omega
        have hE2 : E ≤ s.size := by omega
        have hO := word_blank s a E hE L hone w
        rw [← HF.out] at hO
        have HOut := Lib.hid hO
        have HWd := Lib.hid hwd
        have hsl : ∀ W, (Instr.slice 9 (.string s) (some (.int .i64 ((a : Int) + 2))) (some (.int .i64 (E : Int))) none).run Tryz.prog W = .ok (.string (s.extract (a + 2) E)) W := slice_at s (a + 2) E hE1 hE2
        have hT : (s.extract (a + 2) E).size ≤ 40000 := by simp; omega
        generalize s.extract (a + 2) E = T at *
        clear hone hO hwd hE hle hd2 h58 c58 c95 c60
        go_upto_region 16 with (first | (go_at_call 39; refine (HCh.out _ _ (by omega) (by omega)).mono ?_; rintro e y ⟨rfl, rfl⟩) | (go_at_call 40; refine HWd.out.mono ?_; rintro e y ⟨rfl, rfl⟩))
        have x0 := HX3.out.cell (j := 0) rfl
        have x1 := HX3.out.cell (j := 1) rfl
        have x2 := HX3.out.cell (j := 2) rfl
        have x3 := HX3.out.cell (j := 3) rfl
        have x4 := HX3.out.cell (j := 4) rfl
        have x5 := HX3.out.cell (j := 5) rfl
        have xf : ∀ j, y1.frozen? ⟨w.heap.size + 1, j, none⟩ = false := fun j => HX3.out.free j
        go_region_with fail
        all_goals
          have hB1 : Below w.heap.size w ((((y1.setCell ⟨w.heap.size + 1, 0, none⟩ (.int .i64 2)).setCell ⟨w.heap.size + 1, 2, none⟩ (.int .i64 2)).setCell ⟨w.heap.size + 1, 3, none⟩ (.string T)).setCell ⟨w.heap.size + 1, 4, none⟩ (.string ⟨#[]⟩)).drew := (((((HB3.out.setCell (p := ⟨w.heap.size + 1, 0, none⟩) (Nat.le_succ _) _).setCell (p := ⟨w.heap.size + 1, 2, none⟩) (Nat.le_succ _) _).setCell (p := ⟨w.heap.size + 1, 3, none⟩) (Nat.le_succ _) _).setCell (p := ⟨w.heap.size + 1, 4, none⟩) (Nat.le_succ _) _).trans (lex_drewN _ _ 1))
          have hX1 : BlockAt ((((y1.setCell ⟨w.heap.size + 1, 0, none⟩ (.int .i64 2)).setCell ⟨w.heap.size + 1, 2, none⟩ (.int .i64 2)).setCell ⟨w.heap.size + 1, 3, none⟩ (.string T)).setCell ⟨w.heap.size + 1, 4, none⟩ (.string ⟨#[]⟩)).drew (w.heap.size + 1) (symC 2 ⟨#[]⟩ 2 T ⟨#[]⟩ a) 64 := (((((HX3.out.set 0 _).set 2 _).set 3 _).set 4 _).drew 1)
          have hZ1 : BlockAt ((((y1.setCell ⟨w.heap.size + 1, 0, none⟩ (.int .i64 2)).setCell ⟨w.heap.size + 1, 2, none⟩ (.int .i64 2)).setCell ⟨w.heap.size + 1, 3, none⟩ (.string T)).setCell ⟨w.heap.size + 1, 4, none⟩ (.string ⟨#[]⟩)).drew w.heap.size zeroC 64 := (((((HZ3.out.other (by omega) _ _).other (by omega) _ _).other (by omega) _ _).other (by omega) _ _).drew 1)
          clear x0 x1 x2 x3 x4 x5 xf
          generalize ((((y1.setCell ⟨w.heap.size + 1, 0, none⟩ (.int .i64 2)).setCell ⟨w.heap.size + 1, 2, none⟩ (.int .i64 2)).setCell ⟨w.heap.size + 1, 3, none⟩ (.string T)).setCell ⟨w.heap.size + 1, 4, none⟩ (.string ⟨#[]⟩)).drew = W5 at *
          have HB5 := Lib.hid hB1
          have HX5 := Lib.hid hX1
          have HZ5 := Lib.hid hZ1
          clear hB1 hX1 hZ1
          have HM := Lib.hid (refMaySym_any 2 ⟨#[]⟩ 2 T ⟨#[]⟩ a (E : Int) hT (by decide) W5)
          obtain ⟨D2, hD2⟩ : ∃ D2 : Int, D2 = if (0 : Int) ≤ (E : Int) ∧ mayS 2 T ⟨#[]⟩ = true then (E : Int) else -1 := ⟨_, rfl⟩
          rw [← hD2] at HM HOut
          clear hD2
          have x0 := HX5.out.cell (j := 0) rfl
          have x1 := HX5.out.cell (j := 1) rfl
          have x2 := HX5.out.cell (j := 2) rfl
          have x3 := HX5.out.cell (j := 3) rfl
          have x4 := HX5.out.cell (j := 4) rfl
          have x5 := HX5.out.cell (j := 5) rfl
          go_wp2_with (go_at_call 38; refine HM.out.mono ?_; rintro e y2 ⟨rfl, hB3⟩; have k0 := (HZ5.out.kept hB3).cell (j := 0) rfl; have k1 := (HZ5.out.kept hB3).cell (j := 1) rfl; have k2 := (HZ5.out.kept hB3).cell (j := 2) rfl; have k3 := (HZ5.out.kept hB3).cell (j := 3) rfl; have k4 := (HZ5.out.kept hB3).cell (j := 4) rfl; have k5 := (HZ5.out.kept hB3).cell (j := 5) rfl; have kf : ∀ j, y2.frozen? ⟨w.heap.size, j, none⟩ = false := fun j => (HZ5.out.kept hB3).free j)
          refine bodyPost_ret (results_lex (p := 4) (u := 5) rfl _ _ _ w.heap.size 64 _ (0, 0) _ rfl ((HZ5.out.kept hB3).set6 _ _ _ _ _ _) Tryz.underlying64 (by kernel_rfl)) rfl ?_
          exact HOut.out _ (below_set6 (HB5.out.trans (hB3.mono HB5.out.size)) (Nat.le_refl _) _ _ _ _ _ _)
      by_cases c34 : (s[a].toNat : Int) = 34
      · have hone : one L = quotedR ((bs s).drop (a + 1)) := by rw [HDr.out, c34]; exact oneR_34 (by rw [← c34]; exact HMt.out)
        have e60 : ((s[a].toNat : Int) == 60) = false := by rw [c34]; rfl
        have e95 : ((s[a].toNat : Int) == 95) = false := by rw [c34]; rfl
        have e34 : ((s[a].toNat : Int) == 34) = true := by rw [c34]; rfl
        have e64 : ((s[a].toNat : Int) == 64) = false := by rw [c34]; rfl
        have e63 : ((s[a].toNat : Int) == 63) = false := by rw [c34]; rfl
        obtain ⟨T, d, hq, hout⟩ := quo_str a _ (HBy.out (a + 1)) L hone
        have hqc := refQuoted_is s a 34 true hs9 ha (by decide) y1
        rw [hq] at hqc
        have HQ := Lib.hid hqc
        have hO := hout w
        rw [← HF.out] at hO
        have HOut := Lib.hid hO
        clear hone hq hqc hO hout c60 c34 c95b
        go_upto_region 20 with (go_at_call 37; refine HQ.out.mono ?_; rintro e y ⟨rfl, hB2⟩)
        have HB4 := Lib.hid (HB3.out.trans (hB2.mono HB3.out.size))
        have HX4 := Lib.hid (HX3.out.kept hB2)
        have HZ4 := Lib.hid (HZ3.out.kept hB2)
        clear hB2 HB3 HX3 HZ3
        have x0 := HX4.out.cell (j := 0) rfl
        have x1 := HX4.out.cell (j := 1) rfl
        have x2 := HX4.out.cell (j := 2) rfl
        have x3 := HX4.out.cell (j := 3) rfl
        have x4 := HX4.out.cell (j := 4) rfl
        have x5 := HX4.out.cell (j := 5) rfl
        have xf : ∀ j, y.frozen? ⟨w.heap.size + 1, j, none⟩ = false := fun j => HX4.out.free j
        go_upto_region 21 with fail
        have hB1 : Below w.heap.size w ((y.setCell ⟨w.heap.size + 1, 0, none⟩ (.int .i64 3)).setCell ⟨w.heap.size + 1, 1, none⟩ (.string T)) := ((HB4.out.setCell (p := ⟨w.heap.size + 1, 0, none⟩) (Nat.le_succ _) _).setCell (p := ⟨w.heap.size + 1, 1, none⟩) (Nat.le_succ _) _)
        have hX1 : BlockAt ((y.setCell ⟨w.heap.size + 1, 0, none⟩ (.int .i64 3)).setCell ⟨w.heap.size + 1, 1, none⟩ (.string T)) (w.heap.size + 1) (symC 3 T 0 ⟨#[]⟩ ⟨#[]⟩ a) 64 := ((HX4.out.set 0 _).set 1 _)
        have hZ1 : BlockAt ((y.setCell ⟨w.heap.size + 1, 0, none⟩ (.int .i64 3)).setCell ⟨w.heap.size + 1, 1, none⟩ (.string T)) w.heap.size zeroC 64 := ((HZ4.out.other (by omega) _ _).other (by omega) _ _)
        clear x0 x1 x2 x3 x4 x5 xf
        generalize ((y.setCell ⟨w.heap.size + 1, 0, none⟩ (.int .i64 3)).setCell ⟨w.heap.size + 1, 1, none⟩ (.string T)) = W5 at *
        have HB5 := Lib.hid hB1
        have HX5 := Lib.hid hX1
        have HZ5 := Lib.hid hZ1
        clear hB1 hX1 hZ1
        have x0 := HX5.out.cell (j := 0) rfl
        have x1 := HX5.out.cell (j := 1) rfl
        have x2 := HX5.out.cell (j := 2) rfl
        have x3 := HX5.out.cell (j := 3) rfl
        have x4 := HX5.out.cell (j := 4) rfl
        have x5 := HX5.out.cell (j := 5) rfl
        have k0 := HZ5.out.cell (j := 0) rfl
        have k1 := HZ5.out.cell (j := 1) rfl
        have k2 := HZ5.out.cell (j := 2) rfl
        have k3 := HZ5.out.cell (j := 3) rfl
        have k4 := HZ5.out.cell (j := 4) rfl
        have k5 := HZ5.out.cell (j := 5) rfl
        have kf : ∀ j, W5.frozen? ⟨w.heap.size, j, none⟩ = false := fun j => HZ5.out.free j
        go_wp2_with fail
        refine bodyPost_ret (results_lex (p := 4) (u := 5) rfl _ _ _ w.heap.size 64 _ (0, 0) _ rfl (HZ5.out.set6 _ _ _ _ _ _) Tryz.underlying64 (by kernel_rfl)) rfl ?_
        exact HOut.out _ (below_set6 HB5.out (Nat.le_refl _) _ _ _ _ _ _)
      have HBad : Hid (one L = .bad → ∀ kk t tk tt te p W, Below w.heap.size w W → F (.returned (.tuple #[.agg (symC kk t tk tt te p), .int .i64 (-1)])) W) := Lib.hid (fun h kk t tk tt te p W hW => by rw [HF.out]; exact OneX.bad h kk t tk tt te p W hW)
      by_cases c64 : (s[a].toNat : Int) = 64
      · have hone : one L = langR ((bs s).drop (a + 1)) := by rw [HDr.out, c64]; exact oneR_64 (by rw [← c64]; exact HMt.out)
        have e60 : ((s[a].toNat : Int) == 60) = false := by rw [c64]; rfl
        have e95 : ((s[a].toNat : Int) == 95) = false := by rw [c64]; rfl
        have e34 : ((s[a].toNat : Int) == 34) = false := by rw [c64]; rfl
        have e64 : ((s[a].toNat : Int) == 64) = true := by rw [c64]; rfl
        have e63 : ((s[a].toNat : Int) == 63) = false := by rw [c64]; rfl
        obtain ⟨Q, hQ⟩ : ∃ Q, Q = a + 1 + spanL langC ((bs s).drop (a + 1)) := ⟨_, rfl⟩
        have HQ0 : Hid (SpAt langC s (a + 1) Q) := Lib.hid hQ
        have hsl0 := fun k (hk : Q = k) => span_lang s a k (hk.symm.trans hQ) L hone
        have hsl1 : ∀ k, Q = k → (mayS 4 ⟨#[]⟩ (s.extract (a + 1) k) = true → ∀ W, Below w.heap.size w W → F (.returned (.tuple #[.agg (symC 4 (s.extract (a + 1) k) 0 ⟨#[]⟩ ⟨#[]⟩ a), .int .i64 k])) W) ∧ (mayS 4 ⟨#[]⟩ (s.extract (a + 1) k) = false → one L = .bad) := fun k hk => ⟨fun h => by rw [HF.out]; exact (hsl0 k hk).1 h w, (hsl0 k hk).2⟩
        have HSl := Lib.hid hsl1
        have CD := Lib.hid (fun c => refDigit_any c y1)
        clear hone hQ hsl0 hsl1 c60 c34 c64 c95b
        go_wp2_with fail
        go_loopg [15] s.size (fun g i wr => ∃ k : Nat, k ≤ s.size ∧ s.size - k ≤ g ∧ a + 1 ≤ k ∧ i = .int .i64 k ∧ SpAt langC s k Q ∧ y1 = wr)
        case atStart => exact ⟨a + 1, by omega, by omega, Nat.le_refl _, by go_num, HQ0.out, rfl⟩
        case round =>
          obtain ⟨k, hk, hg, hak, rfl, hq, rfl⟩ := hrel
          have HQ2 := Lib.hid hq
          clear hq HQ0
          by_cases hlt : k < s.size
          · have d1 : decide ((k : Int) < (s.size : Int)) = true := by simpa using hlt
            have i0 : (0 : Int) ≤ (k : Int) := by omega
            have i1 : (k : Int) < (s.size : Int) := by omega
            by_cases h1 : (97 : Int) ≤ (s[k].toNat : Int)
            · have f1 : decide ((97 : Int) ≤ (s[k].toNat : Int)) = true := decide_eq_true h1
              by_cases h2 : (s[k].toNat : Int) ≤ 122
              · have f2 : decide ((s[k].toNat : Int) ≤ 122) = true := decide_eq_true h2
                have HQ1 := Lib.hid (HQ2.out.step hlt (by unfold langC small; rw [f1, f2]; rfl))
                clear h1 h2
                go_wp2_with fail
                go_roundg (s.size - (k + 1))
                case measure => omega
                case rel => exact ⟨k + 1, by omega, Nat.le_refl _, by omega, by go_num, HQ1.out, rfl⟩
              · have f2 : decide ((s[k].toNat : Int) ≤ 122) = false := decide_eq_false h2
                have hsm : small (s[k].toNat : Int) = false := by unfold small; simp; omega
                have hlc : langC (s[k].toNat : Int) = (false || Term.digit (s[k].toNat : Int) || decide ((s[k].toNat : Int) = 45)) := by unfold langC; rw [hsm]
                have cd := CD.out (s[k].toNat : Int)
                generalize Term.digit (s[k].toNat : Int) = D at *
                have HLc := Lib.hid hlc
                clear hsm hlc h1 h2
                cases D with
                | true =>
                  have HQ1 := Lib.hid (HQ2.out.step hlt (by rw [HLc.out]; simp))
                  go_wp2_with (go_at_call 41; refine cd.mono ?_; rintro e y ⟨rfl, rfl⟩)
                  go_roundg (s.size - (k + 1))
                  case measure => omega
                  case rel => exact ⟨k + 1, by omega, Nat.le_refl _, by omega, by go_num, HQ1.out, rfl⟩
                | false =>
                  by_cases c45 : (s[k].toNat : Int) = 45
                  · have HQ1 := Lib.hid (HQ2.out.step hlt (by rw [HLc.out, c45]; decide))
                    have f3 : ((s[k].toNat : Int) == 45) = true := by simpa using c45
                    clear c45
                    go_wp2_with (go_at_call 41; refine cd.mono ?_; rintro e y ⟨rfl, rfl⟩)
                    go_roundg (s.size - (k + 1))
                    case measure => omega
                    case rel => exact ⟨k + 1, by omega, Nat.le_refl _, by omega, by go_num, HQ1.out, rfl⟩
                  · have f3 : ((s[k].toNat : Int) == 45) = false := by simpa using c45
                    have HE := Lib.hid (HQ2.out.none hlt (by rw [HLc.out, decide_eq_false c45]; rfl))
                    clear c45
                    have HO1 := Lib.hid (fun h => (HSl.out k HE.out).1 h)
                    have HO2 := Lib.hid (fun h => (HSl.out k HE.out).2 h)
                    have hsl : ∀ W, (Instr.slice 9 (.string s) (some (.int .i64 ((a : Int) + 1))) (some (.int .i64 (k : Int))) none).run Tryz.prog W = .ok (.string (s.extract (a + 1) k)) W := slice_at s (a + 1) k (by omega) (by omega)
                    have hT : (s.extract (a + 1) k).size ≤ 40000 := by simp; omega
                    generalize s.extract (a + 1) k = T at *
                    go_upto_region 26 with (go_at_call 41; refine cd.mono ?_; rintro e y ⟨rfl, rfl⟩)
                    have x0 := HX3.out.cell (j := 0) rfl
                    have x1 := HX3.out.cell (j := 1) rfl
                    have x2 := HX3.out.cell (j := 2) rfl
                    have x3 := HX3.out.cell (j := 3) rfl
                    have x4 := HX3.out.cell (j := 4) rfl
                    have x5 := HX3.out.cell (j := 5) rfl
                    have xf : ∀ j, y1.frozen? ⟨w.heap.size + 1, j, none⟩ = false := fun j => HX3.out.free j
                    go_region_with fail
                    all_goals
                      have hB1 : Below w.heap.size w ((y1.setCell ⟨w.heap.size + 1, 0, none⟩ (.int .i64 4)).setCell ⟨w.heap.size + 1, 1, none⟩ (.string T)).drew := (((HB3.out.setCell (p := ⟨w.heap.size + 1, 0, none⟩) (Nat.le_succ _) _).setCell (p := ⟨w.heap.size + 1, 1, none⟩) (Nat.le_succ _) _).trans (lex_drewN _ _ 1))
                      have hX1 : BlockAt ((y1.setCell ⟨w.heap.size + 1, 0, none⟩ (.int .i64 4)).setCell ⟨w.heap.size + 1, 1, none⟩ (.string T)).drew (w.heap.size + 1) (symC 4 T 0 ⟨#[]⟩ ⟨#[]⟩ a) 64 := (((HX3.out.set 0 _).set 1 _).drew 1)
                      have hZ1 : BlockAt ((y1.setCell ⟨w.heap.size + 1, 0, none⟩ (.int .i64 4)).setCell ⟨w.heap.size + 1, 1, none⟩ (.string T)).drew w.heap.size zeroC 64 := (((HZ3.out.other (by omega) _ _).other (by omega) _ _).drew 1)
                      clear x0 x1 x2 x3 x4 x5 xf
                      generalize ((y1.setCell ⟨w.heap.size + 1, 0, none⟩ (.int .i64 4)).setCell ⟨w.heap.size + 1, 1, none⟩ (.string T)).drew = W5 at *
                      have HB5 := Lib.hid hB1
                      have HX5 := Lib.hid hX1
                      have HZ5 := Lib.hid hZ1
                      clear hB1 hX1 hZ1
                      have HMy := Lib.hid (refmay_any 4 ⟨#[]⟩ T (by decide) hT W5)
                      cases hv : mayS 4 ⟨#[]⟩ T with
                      | true =>
                        have HOut := Lib.hid (HO1.out hv)
                        rw [hv] at HMy
                        clear hv
                        have x1 := HX5.out.cell (j := 1) rfl
                        go_upto_region 29 with (go_at_call 42; refine HMy.out.mono ?_; rintro e y2 ⟨rfl, hB2⟩)
                        have HX6 := Lib.hid (HX5.out.kept hB2)
                        have HZ6 := Lib.hid (HZ5.out.kept hB2)
                        have HB6 := Lib.hid (HB5.out.trans (hB2.mono HB5.out.size))
                        clear hB2 x1
                        have x0 := HX6.out.cell (j := 0) rfl
                        have x1 := HX6.out.cell (j := 1) rfl
                        have x2 := HX6.out.cell (j := 2) rfl
                        have x3 := HX6.out.cell (j := 3) rfl
                        have x4 := HX6.out.cell (j := 4) rfl
                        have x5 := HX6.out.cell (j := 5) rfl
                        have k0 := HZ6.out.cell (j := 0) rfl
                        have k1 := HZ6.out.cell (j := 1) rfl
                        have k2 := HZ6.out.cell (j := 2) rfl
                        have k3 := HZ6.out.cell (j := 3) rfl
                        have k4 := HZ6.out.cell (j := 4) rfl
                        have k5 := HZ6.out.cell (j := 5) rfl
                        have kf : ∀ j, y2.frozen? ⟨w.heap.size, j, none⟩ = false := fun j => HZ6.out.free j
                        go_wp2_with fail
                        refine bodyPost_ret (results_lex (p := 4) (u := 5) rfl _ _ _ w.heap.size 64 _ (0, 0) _ rfl (HZ6.out.set6 _ _ _ _ _ _) Tryz.underlying64 (by kernel_rfl)) rfl ?_
                        exact HOut.out _ (below_set6 HB6.out (Nat.le_refl _) _ _ _ _ _ _)
                      | false =>
                        have HOut := Lib.hid (HBad.out (HO2.out hv))
                        rw [hv] at HMy
                        clear hv
                        have x1 := HX5.out.cell (j := 1) rfl
                        go_upto_region 28 with (go_at_call 42; refine HMy.out.mono ?_; rintro e y2 ⟨rfl, hB2⟩)
                        have HX6 := Lib.hid (HX5.out.kept hB2)
                        have HZ6 := Lib.hid (HZ5.out.kept hB2)
                        have HB6 := Lib.hid (HB5.out.trans (hB2.mono HB5.out.size))
                        clear hB2 x1
                        have x0 := HX6.out.cell (j := 0) rfl
                        have x1 := HX6.out.cell (j := 1) rfl
                        have x2 := HX6.out.cell (j := 2) rfl
                        have x3 := HX6.out.cell (j := 3) rfl
                        have x4 := HX6.out.cell (j := 4) rfl
                        have x5 := HX6.out.cell (j := 5) rfl
                        have k0 := HZ6.out.cell (j := 0) rfl
                        have k1 := HZ6.out.cell (j := 1) rfl
                        have k2 := HZ6.out.cell (j := 2) rfl
                        have k3 := HZ6.out.cell (j := 3) rfl
                        have k4 := HZ6.out.cell (j := 4) rfl
                        have k5 := HZ6.out.cell (j := 5) rfl
                        have kf : ∀ j, y2.frozen? ⟨w.heap.size, j, none⟩ = false := fun j => HZ6.out.free j
                        go_wp2_with fail
                        refine bodyPost_ret (results_lex (p := 4) (u := 5) rfl _ _ _ w.heap.size 64 _ (0, 0) _ rfl (HZ6.out.set6 _ _ _ _ _ _) Tryz.underlying64 (by kernel_rfl)) rfl ?_
                        exact HOut.out _ _ _ _ _ _ _ (below_set6 HB6.out (Nat.le_refl _) _ _ _ _ _ _)
            · have f1 : decide ((97 : Int) ≤ (s[k].toNat : Int)) = false := decide_eq_false h1
              have hsm : small (s[k].toNat : Int) = false := by unfold small; simp; omega
              have hlc : langC (s[k].toNat : Int) = (false || Term.digit (s[k].toNat : Int) || decide ((s[k].toNat : Int) = 45)) := by unfold langC; rw [hsm]
              have cd := CD.out (s[k].toNat : Int)
              generalize Term.digit (s[k].toNat : Int) = D at *
              have HLc := Lib.hid hlc
              clear hsm hlc h1
              cases D with
              | true =>
                have HQ1 := Lib.hid (HQ2.out.step hlt (by rw [HLc.out]; simp))
                go_wp2_with (go_at_call 41; refine cd.mono ?_; rintro e y ⟨rfl, rfl⟩)
                go_roundg (s.size - (k + 1))
                case measure => omega
                case rel => exact ⟨k + 1, by omega, Nat.le_refl _, by omega, by go_num, HQ1.out, rfl⟩
              | false =>
                by_cases c45 : (s[k].toNat : Int) = 45
                · have HQ1 := Lib.hid (HQ2.out.step hlt (by rw [HLc.out, c45]; decide))
                  have f3 : ((s[k].toNat : Int) == 45) = true := by simpa using c45
                  clear c45
                  go_wp2_with (go_at_call 41; refine cd.mono ?_; rintro e y ⟨rfl, rfl⟩)
                  go_roundg (s.size - (k + 1))
                  case measure => omega
                  case rel => exact ⟨k + 1, by omega, Nat.le_refl _, by omega, by go_num, HQ1.out, rfl⟩
                · have f3 : ((s[k].toNat : Int) == 45) = false := by simpa using c45
                  have HE := Lib.hid (HQ2.out.none hlt (by rw [HLc.out, decide_eq_false c45]; rfl))
                  clear c45
                  have HO1 := Lib.hid (fun h => (HSl.out k HE.out).1 h)
                  have HO2 := Lib.hid (fun h => (HSl.out k HE.out).2 h)
                  have hsl : ∀ W, (Instr.slice 9 (.string s) (some (.int .i64 ((a : Int) + 1))) (some (.int .i64 (k : Int))) none).run Tryz.prog W = .ok (.string (s.extract (a + 1) k)) W := slice_at s (a + 1) k (by omega) (by omega)
                  have hT : (s.extract (a + 1) k).size ≤ 40000 := by simp; omega
                  generalize s.extract (a + 1) k = T at *
                  go_upto_region 26 with (go_at_call 41; refine cd.mono ?_; rintro e y ⟨rfl, rfl⟩)
                  have x0 := HX3.out.cell (j := 0) rfl
                  have x1 := HX3.out.cell (j := 1) rfl
                  have x2 := HX3.out.cell (j := 2) rfl
                  have x3 := HX3.out.cell (j := 3) rfl
                  have x4 := HX3.out.cell (j := 4) rfl
                  have x5 := HX3.out.cell (j := 5) rfl
                  have xf : ∀ j, y1.frozen? ⟨w.heap.size + 1, j, none⟩ = false := fun j => HX3.out.free j
                  go_region_with fail
                  all_goals
                    have hB1 : Below w.heap.size w ((y1.setCell ⟨w.heap.size + 1, 0, none⟩ (.int .i64 4)).setCell ⟨w.heap.size + 1, 1, none⟩ (.string T)).drew := (((HB3.out.setCell (p := ⟨w.heap.size + 1, 0, none⟩) (Nat.le_succ _) _).setCell (p := ⟨w.heap.size + 1, 1, none⟩) (Nat.le_succ _) _).trans (lex_drewN _ _ 1))
                    have hX1 : BlockAt ((y1.setCell ⟨w.heap.size + 1, 0, none⟩ (.int .i64 4)).setCell ⟨w.heap.size + 1, 1, none⟩ (.string T)).drew (w.heap.size + 1) (symC 4 T 0 ⟨#[]⟩ ⟨#[]⟩ a) 64 := (((HX3.out.set 0 _).set 1 _).drew 1)
                    have hZ1 : BlockAt ((y1.setCell ⟨w.heap.size + 1, 0, none⟩ (.int .i64 4)).setCell ⟨w.heap.size + 1, 1, none⟩ (.string T)).drew w.heap.size zeroC 64 := (((HZ3.out.other (by omega) _ _).other (by omega) _ _).drew 1)
                    clear x0 x1 x2 x3 x4 x5 xf
                    generalize ((y1.setCell ⟨w.heap.size + 1, 0, none⟩ (.int .i64 4)).setCell ⟨w.heap.size + 1, 1, none⟩ (.string T)).drew = W5 at *
                    have HB5 := Lib.hid hB1
                    have HX5 := Lib.hid hX1
                    have HZ5 := Lib.hid hZ1
                    clear hB1 hX1 hZ1
                    have HMy := Lib.hid (refmay_any 4 ⟨#[]⟩ T (by decide) hT W5)
                    cases hv : mayS 4 ⟨#[]⟩ T with
                    | true =>
                      have HOut := Lib.hid (HO1.out hv)
                      rw [hv] at HMy
                      clear hv
                      have x1 := HX5.out.cell (j := 1) rfl
                      go_upto_region 29 with (go_at_call 42; refine HMy.out.mono ?_; rintro e y2 ⟨rfl, hB2⟩)
                      have HX6 := Lib.hid (HX5.out.kept hB2)
                      have HZ6 := Lib.hid (HZ5.out.kept hB2)
                      have HB6 := Lib.hid (HB5.out.trans (hB2.mono HB5.out.size))
                      clear hB2 x1
                      have x0 := HX6.out.cell (j := 0) rfl
                      have x1 := HX6.out.cell (j := 1) rfl
                      have x2 := HX6.out.cell (j := 2) rfl
                      have x3 := HX6.out.cell (j := 3) rfl
                      have x4 := HX6.out.cell (j := 4) rfl
                      have x5 := HX6.out.cell (j := 5) rfl
                      have k0 := HZ6.out.cell (j := 0) rfl
                      have k1 := HZ6.out.cell (j := 1) rfl
                      have k2 := HZ6.out.cell (j := 2) rfl
                      have k3 := HZ6.out.cell (j := 3) rfl
                      have k4 := HZ6.out.cell (j := 4) rfl
                      have k5 := HZ6.out.cell (j := 5) rfl
                      have kf : ∀ j, y2.frozen? ⟨w.heap.size, j, none⟩ = false := fun j => HZ6.out.free j
                      go_wp2_with fail
                      refine bodyPost_ret (results_lex (p := 4) (u := 5) rfl _ _ _ w.heap.size 64 _ (0, 0) _ rfl (HZ6.out.set6 _ _ _ _ _ _) Tryz.underlying64 (by kernel_rfl)) rfl ?_
                      exact HOut.out _ (below_set6 HB6.out (Nat.le_refl _) _ _ _ _ _ _)
                    | false =>
                      have HOut := Lib.hid (HBad.out (HO2.out hv))
                      rw [hv] at HMy
                      clear hv
                      have x1 := HX5.out.cell (j := 1) rfl
                      go_upto_region 28 with (go_at_call 42; refine HMy.out.mono ?_; rintro e y2 ⟨rfl, hB2⟩)
                      have HX6 := Lib.hid (HX5.out.kept hB2)
                      have HZ6 := Lib.hid (HZ5.out.kept hB2)
                      have HB6 := Lib.hid (HB5.out.trans (hB2.mono HB5.out.size))
                      clear hB2 x1
                      have x0 := HX6.out.cell (j := 0) rfl
                      have x1 := HX6.out.cell (j := 1) rfl
                      have x2 := HX6.out.cell (j := 2) rfl
                      have x3 := HX6.out.cell (j := 3) rfl
                      have x4 := HX6.out.cell (j := 4) rfl
                      have x5 := HX6.out.cell (j := 5) rfl
                      have k0 := HZ6.out.cell (j := 0) rfl
                      have k1 := HZ6.out.cell (j := 1) rfl
                      have k2 := HZ6.out.cell (j := 2) rfl
                      have k3 := HZ6.out.cell (j := 3) rfl
                      have k4 := HZ6.out.cell (j := 4) rfl
                      have k5 := HZ6.out.cell (j := 5) rfl
                      have kf : ∀ j, y2.frozen? ⟨w.heap.size, j, none⟩ = false := fun j => HZ6.out.free j
                      go_wp2_with fail
                      refine bodyPost_ret (results_lex (p := 4) (u := 5) rfl _ _ _ w.heap.size 64 _ (0, 0) _ rfl (HZ6.out.set6 _ _ _ _ _ _) Tryz.underlying64 (by kernel_rfl)) rfl ?_
                      exact HOut.out _ _ _ _ _ _ _ (below_set6 HB6.out (Nat.le_refl _) _ _ _ _ _ _)
          · have d1 : decide ((k : Int) < (s.size : Int)) = false := by simp; omega
            have HE := Lib.hid (HQ2.out.over hlt)
            have HO1 := Lib.hid (fun h => (HSl.out k HE.out).1 h)
            have HO2 := Lib.hid (fun h => (HSl.out k HE.out).2 h)
            have hsl : ∀ W, (Instr.slice 9 (.string s) (some (.int .i64 ((a : Int) + 1))) (some (.int .i64 (k : Int))) none).run Tryz.prog W = .ok (.string (s.extract (a + 1) k)) W := slice_at s (a + 1) k (by omega) (by omega)
            have hT : (s.extract (a + 1) k).size ≤ 40000 := by simp; omega
            generalize s.extract (a + 1) k = T at *
            go_upto_region 26 with fail
            have x0 := HX3.out.cell (j := 0) rfl
            have x1 := HX3.out.cell (j := 1) rfl
            have x2 := HX3.out.cell (j := 2) rfl
            have x3 := HX3.out.cell (j := 3) rfl
            have x4 := HX3.out.cell (j := 4) rfl
            have x5 := HX3.out.cell (j := 5) rfl
            have xf : ∀ j, y1.frozen? ⟨w.heap.size + 1, j, none⟩ = false := fun j => HX3.out.free j
            go_region_with fail
            all_goals
              have hB1 : Below w.heap.size w ((y1.setCell ⟨w.heap.size + 1, 0, none⟩ (.int .i64 4)).setCell ⟨w.heap.size + 1, 1, none⟩ (.string T)).drew := (((HB3.out.setCell (p := ⟨w.heap.size + 1, 0, none⟩) (Nat.le_succ _) _).setCell (p := ⟨w.heap.size + 1, 1, none⟩) (Nat.le_succ _) _).trans (lex_drewN _ _ 1))
              have hX1 : BlockAt ((y1.setCell ⟨w.heap.size + 1, 0, none⟩ (.int .i64 4)).setCell ⟨w.heap.size + 1, 1, none⟩ (.string T)).drew (w.heap.size + 1) (symC 4 T 0 ⟨#[]⟩ ⟨#[]⟩ a) 64 := (((HX3.out.set 0 _).set 1 _).drew 1)
              have hZ1 : BlockAt ((y1.setCell ⟨w.heap.size + 1, 0, none⟩ (.int .i64 4)).setCell ⟨w.heap.size + 1, 1, none⟩ (.string T)).drew w.heap.size zeroC 64 := (((HZ3.out.other (by omega) _ _).other (by omega) _ _).drew 1)
              clear x0 x1 x2 x3 x4 x5 xf
              generalize ((y1.setCell ⟨w.heap.size + 1, 0, none⟩ (.int .i64 4)).setCell ⟨w.heap.size + 1, 1, none⟩ (.string T)).drew = W5 at *
              have HB5 := Lib.hid hB1
              have HX5 := Lib.hid hX1
              have HZ5 := Lib.hid hZ1
              clear hB1 hX1 hZ1
              have HMy := Lib.hid (refmay_any 4 ⟨#[]⟩ T (by decide) hT W5)
              cases hv : mayS 4 ⟨#[]⟩ T with
              | true =>
                have HOut := Lib.hid (HO1.out hv)
                rw [hv] at HMy
                clear hv
                have x1 := HX5.out.cell (j := 1) rfl
                go_upto_region 29 with (go_at_call 42; refine HMy.out.mono ?_; rintro e y2 ⟨rfl, hB2⟩)
                have HX6 := Lib.hid (HX5.out.kept hB2)
                have HZ6 := Lib.hid (HZ5.out.kept hB2)
                have HB6 := Lib.hid (HB5.out.trans (hB2.mono HB5.out.size))
                clear hB2 x1
                have x0 := HX6.out.cell (j := 0) rfl
                have x1 := HX6.out.cell (j := 1) rfl
                have x2 := HX6.out.cell (j := 2) rfl
                have x3 := HX6.out.cell (j := 3) rfl
                have x4 := HX6.out.cell (j := 4) rfl
                have x5 := HX6.out.cell (j := 5) rfl
                have k0 := HZ6.out.cell (j := 0) rfl
                have k1 := HZ6.out.cell (j := 1) rfl
                have k2 := HZ6.out.cell (j := 2) rfl
                have k3 := HZ6.out.cell (j := 3) rfl
                have k4 := HZ6.out.cell (j := 4) rfl
                have k5 := HZ6.out.cell (j := 5) rfl
                have kf : ∀ j, y2.frozen? ⟨w.heap.size, j, none⟩ = false := fun j => HZ6.out.free j
                go_wp2_with fail
                refine bodyPost_ret (results_lex (p := 4) (u := 5) rfl _ _ _ w.heap.size 64 _ (0, 0) _ rfl (HZ6.out.set6 _ _ _ _ _ _) Tryz.underlying64 (by kernel_rfl)) rfl ?_
                exact HOut.out _ (below_set6 HB6.out (Nat.le_refl _) _ _ _ _ _ _)
              | false =>
                have HOut := Lib.hid (HBad.out (HO2.out hv))
                rw [hv] at HMy
                clear hv
                have x1 := HX5.out.cell (j := 1) rfl
                go_upto_region 28 with (go_at_call 42; refine HMy.out.mono ?_; rintro e y2 ⟨rfl, hB2⟩)
                have HX6 := Lib.hid (HX5.out.kept hB2)
                have HZ6 := Lib.hid (HZ5.out.kept hB2)
                have HB6 := Lib.hid (HB5.out.trans (hB2.mono HB5.out.size))
                clear hB2 x1
                have x0 := HX6.out.cell (j := 0) rfl
                have x1 := HX6.out.cell (j := 1) rfl
                have x2 := HX6.out.cell (j := 2) rfl
                have x3 := HX6.out.cell (j := 3) rfl
                have x4 := HX6.out.cell (j := 4) rfl
                have x5 := HX6.out.cell (j := 5) rfl
                have k0 := HZ6.out.cell (j := 0) rfl
                have k1 := HZ6.out.cell (j := 1) rfl
                have k2 := HZ6.out.cell (j := 2) rfl
                have k3 := HZ6.out.cell (j := 3) rfl
                have k4 := HZ6.out.cell (j := 4) rfl
                have k5 := HZ6.out.cell (j := 5) rfl
                have kf : ∀ j, y2.frozen? ⟨w.heap.size, j, none⟩ = false := fun j => HZ6.out.free j
                go_wp2_with fail
                refine bodyPost_ret (results_lex (p := 4) (u := 5) rfl _ _ _ w.heap.size 64 _ (0, 0) _ rfl (HZ6.out.set6 _ _ _ _ _ _) Tryz.underlying64 (by kernel_rfl)) rfl ?_
                exact HOut.out _ _ _ _ _ _ _ (below_set6 HB6.out (Nat.le_refl _) _ _ _ _ _ _)
      by_cases c63 : (s[a].toNat : Int) = 63
      · have hone : one L = varR ((bs s).drop (a + 1)) := by rw [HDr.out, c63]; exact oneR_63 (by rw [← c63]; exact HMt.out)
        have e60 : ((s[a].toNat : Int) == 60) = false := by rw [c63]; rfl
        have e95 : ((s[a].toNat : Int) == 95) = false := by rw [c63]; rfl
        have e34 : ((s[a].toNat : Int) == 34) = false := by rw [c63]; rfl
        have e64 : ((s[a].toNat : Int) == 64) = false := by rw [c63]; rfl
        have e63 : ((s[a].toNat : Int) == 63) = true := by rw [c63]; rfl
        obtain ⟨E, hE⟩ : ∃ E, E = a + 1 + wordE ((bs s).drop (a + 1)) := ⟨_, rfl⟩
        have hwd : Calls Tryz.prog 40 #[.string s, .int .i64 ((a : Int) + 1)] y1 fun e w' => e = .returned (.int .i64 ((a + 1 + wordE ((bs s).drop (a + 1)) : Nat) : Int)) ∧ y1 = w' := refWordEnd_is s (a + 1) hs9 (by omega) y1
        rw [← hE] at hwd
        have hle := wordE_le ((bs s).drop (a + 1))
        rw [List.length_drop, bs_length] at hle
        have hE1 : a + 1 ≤ E := by omega
        have hE2 : E ≤ s.size := by omega
        obtain ⟨hv1, hv2⟩ := word_var s a E hE L hone
        have HV1 : Hid (a + 1 < E → E ≤ a + 33 → ∀ W, Below w.heap.size w W → F (.returned (.tuple #[.agg (symC 5 (s.extract (a + 1) E) 0 ⟨#[]⟩ ⟨#[]⟩ a), .int .i64 E])) W) := Lib.hid (fun h1 h2 => by rw [HF.out]; exact hv1 h1 h2 w)
        have HV2 := Lib.hid hv2
        have HWd := Lib.hid hwd
        have hsl : ∀ W, (Instr.slice 9 (.string s) (some (.int .i64 ((a : Int) + 1))) (some (.int .i64 (E : Int))) none).run Tryz.prog W = .ok (.string (s.extract (a + 1) E)) W := slice_at s (a + 1) E hE1 hE2
        generalize s.extract (a + 1) E = T at *
        clear hone hv1 hv2 hwd hE hle c60 c34 c64 c63 c95b
        go_upto_region 32 with (go_at_call 40; refine HWd.out.mono ?_; rintro e y ⟨rfl, rfl⟩)
        have x0 := HX3.out.cell (j := 0) rfl
        have x1 := HX3.out.cell (j := 1) rfl
        have x2 := HX3.out.cell (j := 2) rfl
        have x3 := HX3.out.cell (j := 3) rfl
        have x4 := HX3.out.cell (j := 4) rfl
        have x5 := HX3.out.cell (j := 5) rfl
        have xf : ∀ j, y1.frozen? ⟨w.heap.size + 1, j, none⟩ = false := fun j => HX3.out.free j
        go_region_with fail
        all_goals
          have hB1 : Below w.heap.size w ((y1.setCell ⟨w.heap.size + 1, 0, none⟩ (.int .i64 5)).setCell ⟨w.heap.size + 1, 1, none⟩ (.string T)).drew := (((HB3.out.setCell (p := ⟨w.heap.size + 1, 0, none⟩) (Nat.le_succ _) _).setCell (p := ⟨w.heap.size + 1, 1, none⟩) (Nat.le_succ _) _).trans (lex_drewN _ _ 1))
          have hX1 : BlockAt ((y1.setCell ⟨w.heap.size + 1, 0, none⟩ (.int .i64 5)).setCell ⟨w.heap.size + 1, 1, none⟩ (.string T)).drew (w.heap.size + 1) (symC 5 T 0 ⟨#[]⟩ ⟨#[]⟩ a) 64 := (((HX3.out.set 0 _).set 1 _).drew 1)
          have hZ1 : BlockAt ((y1.setCell ⟨w.heap.size + 1, 0, none⟩ (.int .i64 5)).setCell ⟨w.heap.size + 1, 1, none⟩ (.string T)).drew w.heap.size zeroC 64 := (((HZ3.out.other (by omega) _ _).other (by omega) _ _).drew 1)
          clear x0 x1 x2 x3 x4 x5 xf
          generalize ((y1.setCell ⟨w.heap.size + 1, 0, none⟩ (.int .i64 5)).setCell ⟨w.heap.size + 1, 1, none⟩ (.string T)).drew = W5 at *
          have HB5 := Lib.hid hB1
          have HX5 := Lib.hid hX1
          have HZ5 := Lib.hid hZ1
          clear hB1 hX1 hZ1
          have x0 := HX5.out.cell (j := 0) rfl
          have x1 := HX5.out.cell (j := 1) rfl
          have x2 := HX5.out.cell (j := 2) rfl
          have x3 := HX5.out.cell (j := 3) rfl
          have x4 := HX5.out.cell (j := 4) rfl
          have x5 := HX5.out.cell (j := 5) rfl
          have k0 := HZ5.out.cell (j := 0) rfl
          have k1 := HZ5.out.cell (j := 1) rfl
          have k2 := HZ5.out.cell (j := 2) rfl
          have k3 := HZ5.out.cell (j := 3) rfl
          have k4 := HZ5.out.cell (j := 4) rfl
          have k5 := HZ5.out.cell (j := 5) rfl
          have kf : ∀ j, W5.frozen? ⟨w.heap.size, j, none⟩ = false := fun j => HZ5.out.free j
          by_cases hz : E = a + 1
          · have g1 : ((E : Int) == (a : Int) + 1) = true := by rw [beq_iff_eq]; omega
            have HOut := Lib.hid (HBad.out (HV2.out (by omega)))
            go_wp2_with fail
            refine bodyPost_ret (results_lex (p := 4) (u := 5) rfl _ _ _ w.heap.size 64 _ (0, 0) _ rfl (HZ5.out.set6 _ _ _ _ _ _) Tryz.underlying64 (by kernel_rfl)) rfl ?_
            exact HOut.out _ _ _ _ _ _ _ (below_set6 HB5.out (Nat.le_refl _) _ _ _ _ _ _)
          · have g1 : ((E : Int) == (a : Int) + 1) = false := by rw [beq_eq_false_iff_ne]; omega
            by_cases hz2 : E ≤ a + 33
            · have g2 : decide ((a : Int) + 33 < (E : Int)) = false := by simp; omega
              have HOut := Lib.hid (HV1.out (by omega) hz2)
              go_wp2_with fail
              refine bodyPost_ret (results_lex (p := 4) (u := 5) rfl _ _ _ w.heap.size 64 _ (0, 0) _ rfl (HZ5.out.set6 _ _ _ _ _ _) Tryz.underlying64 (by kernel_rfl)) rfl ?_
              exact HOut.out _ (below_set6 HB5.out (Nat.le_refl _) _ _ _ _ _ _)
            · have g2 : decide ((a : Int) + 33 < (E : Int)) = true := by simp; omega
              have HOut := Lib.hid (HBad.out (HV2.out (by omega)))
              go_wp2_with fail
              refine bodyPost_ret (results_lex (p := 4) (u := 5) rfl _ _ _ w.heap.size 64 _ (0, 0) _ rfl (HZ5.out.set6 _ _ _ _ _ _) Tryz.underlying64 (by kernel_rfl)) rfl ?_
              exact HOut.out _ _ _ _ _ _ _ (below_set6 HB5.out (Nat.le_refl _) _ _ _ _ _ _)
      have hone : one L = namedR L := by
        rw [HDr.out]
        exact oneR_named HMt.out c60 (fun h => c95b ⟨h.1, by rw [HF1.out, ← Nat.add_zero (a + 1), ← getD_drop]; exact h.2⟩) c34 c64 c63
      have HNm : Hid (Calls Tryz.prog 43 #[.string s, .int .i64 a, .agg (symC 0 ⟨#[]⟩ 0 ⟨#[]⟩ ⟨#[]⟩ a)] y1 (OneX (one L) a y1)) := Lib.hid (by rw [hone, HL.out]; exact refNamed_is s a hs9 ha y1)
      have HCv : Hid (∀ e W', OneX (one L) a y1 e W' → Below y1.heap.size y1 W' ∧ ∃ k t tk tt te p d, e = .returned (.tuple #[.agg (symC k t tk tt te p), .int .i64 d]) ∧ ∀ W, Below w.heap.size w W → F e W) := Lib.hid (fun e W' h => by
        obtain ⟨h1, k, t, tk, tt, te, p, d, h2, h3⟩ := h.form
        exact ⟨h1, k, t, tk, tt, te, p, d, h2, fun W hW => by rw [HF.out]; exact h3 w W hW⟩)
      have e60 : ((s[a].toNat : Int) == 60) = false := by simpa using c60
      have e34 : ((s[a].toNat : Int) == 34) = false := by simpa using c34
      have e64 : ((s[a].toNat : Int) == 64) = false := by simpa using c64
      have e63 : ((s[a].toNat : Int) == 63) = false := by simpa using c63
      have x0 := HX3.out.cell (j := 0) rfl
      have x1 := HX3.out.cell (j := 1) rfl
      have x2 := HX3.out.cell (j := 2) rfl
      have x3 := HX3.out.cell (j := 3) rfl
      have x4 := HX3.out.cell (j := 4) rfl
      have x5 := HX3.out.cell (j := 5) rfl
      by_cases c95 : (s[a].toNat : Int) = 95
      · have e95 : ((s[a].toNat : Int) == 95) = true := by simpa using c95
        have e58 : (f ((a : Int) + 1) == 58) = false := by rw [beq_eq_false_iff_ne]; exact fun h => c95b ⟨c95, h⟩
        clear hone c60 c34 c64 c63 c95 c95b
        go_wp2_with (first | (go_at_call 39; refine (HCh.out _ _ (by omega) (by omega)).mono ?_; rintro e y ⟨rfl, rfl⟩) | (go_at_call 43; refine HNm.out.mono ?_; rintro e y2 hx; obtain ⟨hB2, k', t', tk', tt', te', p', d', rfl, hall⟩ := HCv.out _ _ hx; have k0 := (HZ3.out.kept hB2).cell (j := 0) rfl; have k1 := (HZ3.out.kept hB2).cell (j := 1) rfl; have k2 := (HZ3.out.kept hB2).cell (j := 2) rfl; have k3 := (HZ3.out.kept hB2).cell (j := 3) rfl; have k4 := (HZ3.out.kept hB2).cell (j := 4) rfl; have k5 := (HZ3.out.kept hB2).cell (j := 5) rfl; have kf : ∀ j, y2.frozen? ⟨w.heap.size, j, none⟩ = false := fun j => (HZ3.out.kept hB2).free j; clear hx))
        refine bodyPost_ret (results_lex (p := 4) (u := 5) rfl _ _ _ w.heap.size 64 _ (0, 0) _ rfl ((HZ3.out.kept hB2).set6 _ _ _ _ _ _) Tryz.underlying64 (by kernel_rfl)) rfl ?_
        exact hall _ (below_set6 (HB3.out.trans (hB2.mono HB3.out.size)) (Nat.le_refl _) _ _ _ _ _ _)
      · have e95 : ((s[a].toNat : Int) == 95) = false := by simpa using c95
        clear hone c60 c34 c64 c63 c95 c95b
        go_wp2_with (go_at_call 43; refine HNm.out.mono ?_; rintro e y2 hx; obtain ⟨hB2, k', t', tk', tt', te', p', d', rfl, hall⟩ := HCv.out _ _ hx; have k0 := (HZ3.out.kept hB2).cell (j := 0) rfl; have k1 := (HZ3.out.kept hB2).cell (j := 1) rfl; have k2 := (HZ3.out.kept hB2).cell (j := 2) rfl; have k3 := (HZ3.out.kept hB2).cell (j := 3) rfl; have k4 := (HZ3.out.kept hB2).cell (j := 4) rfl; have k5 := (HZ3.out.kept hB2).cell (j := 5) rfl; have kf : ∀ j, y2.frozen? ⟨w.heap.size, j, none⟩ = false := fun j => (HZ3.out.kept hB2).free j; clear hx)
        refine bodyPost_ret (results_lex (p := 4) (u := 5) rfl _ _ _ w.heap.size 64 _ (0, 0) _ rfl ((HZ3.out.kept hB2).set6 _ _ _ _ _ _) Tryz.underlying64 (by kernel_rfl)) rfl ?_
        exact hall _ (below_set6 (HB3.out.trans (hB2.mono HB3.out.size)) (Nat.le_refl _) _ _ _ _ _ _)
end Go.Proofs.YtbcoklbfebmpoaaGreatDoor

