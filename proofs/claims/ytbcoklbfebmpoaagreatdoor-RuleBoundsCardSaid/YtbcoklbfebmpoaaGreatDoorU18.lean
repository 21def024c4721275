/-
  WHAT THE PROOF STANDS ON, a part of it: LexLeaf.
-/
import Derived.Test.YtbcoklbfebmpoaaGreatDoorU17
import Derived.Test.YtbcoklbfebmpoaaGreatDoorU5
import Derived.LoopTactic
import Derived.IntWalk
/-
  CONTRACTS OF THE SMALL FUNCTIONS OF LAYER 4: which bytes may stand where; run; isWord.
-/

namespace Go.Proofs.YtbcoklbfebmpoaaGreatDoor
open Go.RowKit
open Utf Term Lex
set_option linter.unusedVariables false

theorem lexDigit_any (c : Int) (w : World) : Calls Tryz.prog 153 #[.int .u8 c] w fun e w' => e = .returned (.bool (digit c)) ∧ w = w' := by
  go_enter Tryz.func153, Tryz.ntmps153
  go_wp2
  all_goals
    go_ret
    exact ⟨ret_bool (by unfold digit; simp_all <;> omega), rfl⟩
theorem lexSmall_any (c : Int) (w : World) : Calls Tryz.prog 154 #[.int .u8 c] w fun e w' => e = .returned (.bool (small c)) ∧ w = w' := by
  go_enter Tryz.func154, Tryz.ntmps154
  go_wp2
  all_goals
    go_ret
    exact ⟨ret_bool (by unfold small; simp_all <;> omega), rfl⟩
/-- The small letter of a capital one. -/
def toS (c : Int) : Int := if 65 ≤ c ∧ c ≤ 90 then c + 32 else c
theorem toSmall_any (c : Int) (hc : IsByte c) (w : World) : Calls Tryz.prog 120 #[.int .u8 c] w fun e w' => e = .returned (.int .u8 (toS c)) ∧ w = w' := by
  obtain ⟨h0, h1⟩ := hc
  by_cases h2 : 65 ≤ c ∧ c ≤ 90
  · obtain ⟨h3, h4⟩ := h2
    have w1 : IntKind.u8.wrap (c - 65) = c - 65 := IntWalk.u8_in _ (by omega)
    have w2 : IntKind.u8.wrap (c - 65 + 97) = c + 32 := by rw [IntWalk.u8_in _ (by omega)]; omega
    have e : toS c = c + 32 := by unfold toS; rw [if_pos ⟨h3, h4⟩]
    have HE := Lib.hid e
    clear e
    go_enter Tryz.func120, Tryz.ntmps120
    go_wp2
    go_ret
    exact ⟨ret_int (by rw [HE.out]), rfl⟩
  · have e : toS c = c := by unfold toS; rw [if_neg h2]
    have HE := Lib.hid e
    clear e
    by_cases h3 : 65 ≤ c
    · have h4 : decide (c ≤ 90) = false := by simp; omega
      have h5 : decide (65 ≤ c) = true := by simpa using h3
      go_enter Tryz.func120, Tryz.ntmps120
      go_wp2
      go_ret
      exact ⟨ret_int (by rw [HE.out]), rfl⟩
    · have h5 : decide (65 ≤ c) = false := by simpa using h3
      go_enter Tryz.func120, Tryz.ntmps120
      go_wp2
      go_ret
      exact ⟨ret_int (by rw [HE.out]), rfl⟩
theorem letter_small (c : Int) : small (toS c) = letter c := by
  unfold letter small toS
  rw [Bool.eq_iff_iff]
  split <;> simp <;> omega

theorem lexLD_any (c : Int) (hc : IsByte c) (w : World) : Calls Tryz.prog 137 #[.int .u8 c] w fun e w' => e = .returned (.bool (letterDigit c)) ∧ w = w' := by
  have C2 := lexSmall_any (toS c)
  have C1 := toSmall_any c hc
  rw [letter_small] at C2
  have C0 := lexDigit_any c
  have HE : Hid (letterDigit c = (digit c || letter c)) := Lib.hid (by unfold letterDigit; exact Bool.or_comm _ _)
  generalize toS c = c' at C1 C2
  generalize letter c = L at C2 HE
  cases hd : digit c with
  | true =>
    rw [hd] at C0
    have HD := Lib.hid hd
    clear hd C1 C2
    go_enter Tryz.func137, Tryz.ntmps137
    go_wp2_with (go_at_call 153; refine (C0 _).mono ?_; rintro e w' ⟨rfl, rfl⟩)
    go_ret
    exact ⟨ret_bool (by rw [HE.out, HD.out]; rfl), rfl⟩
  | false =>
    rw [hd] at C0
    have HD := Lib.hid hd
    clear hd
    go_enter Tryz.func137, Tryz.ntmps137
    go_wp2_with (first | (go_at_call 153; refine (C0 _).mono ?_; rintro e w' ⟨rfl, rfl⟩) | (go_at_call 120; refine (C1 _).mono ?_; rintro e w' ⟨rfl, rfl⟩) | (go_at_call 154; refine (C2 _).mono ?_; rintro e w' ⟨rfl, rfl⟩))
    go_ret
    exact ⟨ret_bool (by rw [HE.out, HD.out]; rfl), rfl⟩

theorem beq_dec (a b : Int) : (a == b) = decide (a = b) := by rw [Bool.eq_iff_iff]; simp
theorem lexLocal_any (c : Int) (hc : IsByte c) (w : World) : Calls Tryz.prog 138 #[.int .u8 c] w fun e w' => e = .returned (.bool (localC c)) ∧ w = w' := by
  have C0 := lexLD_any c hc
  have HE : Hid (localC c = ((letterDigit c || decide (c = 45)) || decide (c = 95))) := Lib.hid rfl
  generalize localC c = R at HE ⊢
  generalize letterDigit c = L at C0 HE
  cases L with
  | true =>
    go_enter Tryz.func138, Tryz.ntmps138
    go_wp2_with (go_at_call 137; refine (C0 _).mono ?_; rintro e w' ⟨rfl, rfl⟩)
    go_ret
    exact ⟨ret_bool (by rw [HE.out]; rfl), rfl⟩
  | false =>
    by_cases h45 : c = 45
    · subst h45
      go_enter Tryz.func138, Tryz.ntmps138
      go_wp2_with (go_at_call 137; refine (C0 _).mono ?_; rintro e w' ⟨rfl, rfl⟩)
      go_ret
      exact ⟨ret_bool (by rw [HE.out]; rfl), rfl⟩
    · have e : (c == 45) = false := by simpa using h45
      have H45 := Lib.hid h45
      clear h45
      go_enter Tryz.func138, Tryz.ntmps138
      go_wp2_with (go_at_call 137; refine (C0 _).mono ?_; rintro e w' ⟨rfl, rfl⟩)
      all_goals
        go_ret
        exact ⟨ret_bool (by rw [HE.out]; simp [H45.out, beq_dec]), rfl⟩

theorem lexLang_any (c : Int) (hc : IsByte c) (w : World) : Calls Tryz.prog 142 #[.int .u8 c] w fun e w' => e = .returned (.bool (langC c)) ∧ w = w' := by
  have C0 := lexSmall_any c
  have C1 := lexDigit_any c
  have HE : Hid (langC c = ((small c || digit c) || decide (c = 45))) := Lib.hid rfl
  generalize langC c = R at HE ⊢
  generalize small c = L at C0 HE
  generalize digit c = D at C1 HE
  cases L with
  | true =>
    go_enter Tryz.func142, Tryz.ntmps142
    go_wp2_with (go_at_call 154; refine (C0 _).mono ?_; rintro e w' ⟨rfl, rfl⟩)
    go_ret
    exact ⟨ret_bool (by rw [HE.out]; rfl), rfl⟩
  | false =>
    cases D with
    | true =>
      go_enter Tryz.func142, Tryz.ntmps142
      go_wp2_with (first | (go_at_call 154; refine (C0 _).mono ?_; rintro e w' ⟨rfl, rfl⟩) | (go_at_call 153; refine (C1 _).mono ?_; rintro e w' ⟨rfl, rfl⟩))
      go_ret
      exact ⟨ret_bool (by rw [HE.out]; rfl), rfl⟩
    | false =>
      go_enter Tryz.func142, Tryz.ntmps142
      go_wp2_with (first | (go_at_call 154; refine (C0 _).mono ?_; rintro e w' ⟨rfl, rfl⟩) | (go_at_call 153; refine (C1 _).mono ?_; rintro e w' ⟨rfl, rfl⟩))
      go_ret
      exact ⟨ret_bool (by rw [HE.out]; simp [beq_dec]), rfl⟩

/-- A function of the program that tells of each byte whether it may stand there. -/
def TellsB (k : Nat) (P : Int → Bool) : Prop :=
  (∀ args w, (callFunc k args).run Tryz.prog w = .ok (.enter k args) w) ∧ ∀ c W, IsByte c → Calls Tryz.prog k #[.int .u8 c] W fun e W' => e = .returned (.bool (P c)) ∧ W = W'
theorem tells_LD : TellsB 137 letterDigit := ⟨enters_of Tryz.func137 (by kernel_rfl) rfl, fun c W h => lexLD_any c h W⟩
theorem tells_local : TellsB 138 localC := ⟨enters_of Tryz.func138 (by kernel_rfl) rfl, fun c W h => lexLocal_any c h W⟩
theorem tells_lang : TellsB 142 langC := ⟨enters_of Tryz.func142 (by kernel_rfl) rfl, fun c W h => lexLang_any c h W⟩

theorem runL_step {P : Int → Bool} {l : List Int} {k : Nat} {c : Int} (h : l[k]? = some c) : spanL P (l.drop k) = if P c = true then 1 + spanL P (l.drop (k + 1)) else 0 := by
  have hk := (List.getElem?_eq_some_iff.1 h).1
  rw [List.drop_eq_getElem_cons hk]
  have : l[k] = c := (List.getElem?_eq_some_iff.1 h).2
  rw [this]
  unfold spanL
  rw [List.takeWhile_cons]
  split <;> simp_all <;> omega
theorem runL_end {P : Int → Bool} {l : List Int} {k : Nat} (h : l.length ≤ k) : spanL P (l.drop k) = 0 := by
  rw [List.drop_eq_nil_of_le h]; rfl

set_option maxRecDepth 100000 in
set_option maxHeartbeats 1000000 in
theorem lexRun_any (K : Nat) (P : Int → Bool) (hT : TellsB K P) (s : ByteArray) (a : Nat) (ha : a ≤ s.size) (hs : s.size ≤ 1000000000000) (w : World) :
    Calls Tryz.prog 136 #[.string s, .int .i64 a, .func (.func K) #[] #[]] w fun e w' => e = .returned (.int .i64 ((a + spanL P ((bs s).drop a) : Nat) : Int)) ∧ w = w' := by
  have e := hT.1
  have HC := Lib.hid hT.2
  clear hT
  obtain ⟨R, hR⟩ : ∃ R, R = a + spanL P ((bs s).drop a) := ⟨_, rfl⟩
  rw [← hR]
  have HR := Lib.hid hR
  clear hR
  go_enter Tryz.func136, Tryz.ntmps136
  go_wp2
  go_loop [1] (fun i => ∃ k : Nat, k ≤ s.size ∧ i = .int .i64 k ∧ R = k + spanL P ((bs s).drop k)) (fun i => s.size - (intOf i).toNat)
  case atStart => exact ⟨a, ha, rfl, HR.out⟩
  case round =>
    obtain ⟨k, hk, rfl, hr⟩ := hrel
    have HK := Lib.hid hr
    clear hr
    by_cases hlt : k < s.size
    · have C := HC.out (s[k].toNat : Int) w (byte_bd s[k])
      have hst := runL_step (P := P) (bs_get s k hlt)
      cases hp : P (s[k].toNat : Int) with
      | true =>
        rw [hp] at hst C
        rw [if_pos rfl] at hst
        have HS := Lib.hid hst
        have HC2 := Lib.hid C
        clear hp hst C
        go_wp2_with (go_at_fn K; refine HC2.out.mono ?_; rintro e w' ⟨rfl, rfl⟩)
        go_round
        case rel => exact ⟨k + 1, by omega, by go_num, by have := HK.out; have := HS.out; omega⟩
        case measure => simp [intOf]; omega
      | false =>
        rw [hp] at hst C
        rw [if_neg (by decide)] at hst
        have HS := Lib.hid hst
        have HC2 := Lib.hid C
        clear hp hst C
        go_wp2_with (go_at_fn K; refine HC2.out.mono ?_; rintro e w' ⟨rfl, rfl⟩)
        go_ret
        exact ⟨ret_int (by have := HK.out; have := HS.out; omega), rfl⟩
    · obtain rfl : k = s.size := by omega
      have hst := runL_end (P := P) (l := bs s) (k := s.size) (by rw [bs_length]; exact Nat.le_refl _)
      have HS := Lib.hid hst
      clear hst
      go_wp2
      go_ret
      exact ⟨ret_int (by have := HK.out; have := HS.out; omega), rfl⟩

theorem isWord_any (s : ByteArray) (hs : s.size ≤ 1000000000000) (w : World) : Calls Tryz.prog 139 #[.string s] w fun e w' => e = .returned (.bool (isWordL (bs s))) ∧ w = w' := by
  have HE : Hid (isWordL (bs s) = (decide (0 < s.size) && decide (s.size ≤ 32) && !digit ((bs s).headD 0))) := Lib.hid (by unfold isWordL; rw [bs_length])
  by_cases h0 : 0 < s.size
  · have hne := nonempty h0
    have hne2 : (!s.toList.isEmpty) = true := by rw [hne]; rfl
    by_cases h1 : s.size ≤ 32
    · have C := lexDigit_any (s[0].toNat : Int)
      have d1 : decide ((s.size : Int) ≤ 32) = true := by simp; omega
      have HH : Hid ((bs s).headD 0 = (s[0].toNat : Int)) := Lib.hid (by rw [bs_head s h0]; rfl)
      go_enter Tryz.func139, Tryz.ntmps139
      go_wp2_with (go_at_call 153; refine (C _).mono ?_; rintro e w' ⟨rfl, rfl⟩)
      go_ret
      exact ⟨ret_bool (by rw [HE.out, HH.out]; simp [h0, h1]), rfl⟩
    · have d1 : decide ((s.size : Int) ≤ 32) = false := by simp; omega
      go_enter Tryz.func139, Tryz.ntmps139
      go_wp2
      go_ret
      exact ⟨ret_bool (by rw [HE.out]; simp [h1]), rfl⟩
  · have hs0 : s = ByteArray.empty := by
      apply ByteArray.ext
      apply Array.eq_empty_of_size_eq_zero
      show s.size = 0
      omega
    subst hs0
    have he : ByteArray.empty.toList.isEmpty = true := by rw [← decide_eq_emptyBytes]; simp
    have he2 : (!ByteArray.empty.toList.isEmpty) = false := by rw [he]; rfl
    go_enter Tryz.func139, Tryz.ntmps139
    go_wp2
    go_ret
    exact ⟨ret_bool (by rw [HE.out]; rfl), rfl⟩
end Go.Proofs.YtbcoklbfebmpoaaGreatDoor

