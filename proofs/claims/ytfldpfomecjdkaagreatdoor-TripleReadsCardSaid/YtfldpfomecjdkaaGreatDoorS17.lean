/-
  WHAT THE PROOF STANDS ON, a part of it: LexLeaf, LexRefLeaf.
-/
import Derived.Test.YtfldpfomecjdkaaGreatDoorS16
import Derived.Test.YtfldpfomecjdkaaGreatDoorS6
import Derived.LoopTactic
import Derived.IntWalk
/-
  CONTRACTS OF THE SMALL FUNCTIONS OF LAYER 4: which bytes may stand where; run; isWord.
-/

namespace Go.Proofs.YtfldpfomecjdkaaGreatDoor
open Go.RowKit
open Utf Term Lex
set_option linter.unusedVariables false

theorem lexDigit_any (c : Int) (w : World) : Calls Tryz.prog 117 #[.int .u8 c] w fun e w' => e = .returned (.bool (digit c)) ∧ w = w' := by
  go_enter Tryz.func117, Tryz.ntmps117
  go_wp2
  all_goals
    go_ret
    exact ⟨ret_bool (by unfold digit; simp_all <;> omega), rfl⟩
theorem lexSmall_any (c : Int) (w : World) : Calls Tryz.prog 118 #[.int .u8 c] w fun e w' => e = .returned (.bool (small c)) ∧ w = w' := by
  go_enter Tryz.func118, Tryz.ntmps118
  go_wp2
  all_goals
    go_ret
    exact ⟨ret_bool (by unfold small; simp_all <;> omega), rfl⟩
/-- The small letter of a capital one. -/
def toS (c : Int) : Int := if 65 ≤ c ∧ c ≤ 90 then c + 32 else c
theorem toSmall_any (c : Int) (hc : IsByte c) (w : World) : Calls Tryz.prog 63 #[.int .u8 c] w fun e w' => e = .returned (.int .u8 (toS c)) ∧ w = w' := by
  obtain ⟨h0, h1⟩ := hc
  by_cases h2 : 65 ≤ c ∧ c ≤ 90
  · obtain ⟨h3, h4⟩ := h2
    have w1 : IntKind.u8.wrap (c - 65) = c - 65 := IntWalk.u8_in _ (by omega)
    have w2 : IntKind.u8.wrap (c - 65 + 97) = c + 32 := by rw [IntWalk.u8_in _ (by omega)]; omega
    have e : toS c = c + 32 := by unfold toS; rw [if_pos ⟨h3, h4⟩]
    have HE := Lib.hid e
    clear e
    go_enter Tryz.func63, Tryz.ntmps63
    go_wp2
    go_ret
    exact ⟨ret_int (by rw [HE.out]), rfl⟩
  · have e : toS c = c := by unfold toS; rw [if_neg h2]
    have HE := Lib.hid e
    clear e
    by_cases h3 : 65 ≤ c
    · have h4 : decide (c ≤ 90) = false := by simp; omega
      have h5 : decide (65 ≤ c) = true := by simpa using h3
      go_enter Tryz.func63, Tryz.ntmps63
      go_wp2
      go_ret
      exact ⟨ret_int (by rw [HE.out]), rfl⟩
    · have h5 : decide (65 ≤ c) = false := by simpa using h3
      go_enter Tryz.func63, Tryz.ntmps63
      go_wp2
      go_ret
      exact ⟨ret_int (by rw [HE.out]), rfl⟩
theorem toS_byte {c : Int} (h : IsByte c) : IsByte (toS c) := by unfold IsByte toS at *; split <;> omega
theorem letter_small (c : Int) : small (toS c) = letter c := by
  unfold letter small toS
  rw [Bool.eq_iff_iff]
  split <;> simp <;> omega

theorem lexLD_any (c : Int) (hc : IsByte c) (w : World) : Calls Tryz.prog 97 #[.int .u8 c] w fun e w' => e = .returned (.bool (letterDigit c)) ∧ w = w' := by
  have C2 := lexSmall_any (toS c)
  have C1 := toSmall_any c hc
  rw [letter_small] at C2
  have C0 := lexDigit_any c
  have HE : Hid (letterDigit c = (digit c || letter c)) := Lib.hid (by unfold letterDigit; exact Bool.or_comm _ _)
  generalize toS c = c' at C1 C2
  generalize letter c = L at C2 HE
  cases hd : digit c with
  | true =>
    rw [hd] at C0
    have HD := Lib.hid hd
    clear hd C1 C2
    go_enter Tryz.func97, Tryz.ntmps97
    go_wp2_with (go_at_call 117; refine (C0 _).mono ?_; rintro e w' ⟨rfl, rfl⟩)
    go_ret
    exact ⟨ret_bool (by rw [HE.out, HD.out]; rfl), rfl⟩
  | false =>
    rw [hd] at C0
    have HD := Lib.hid hd
    clear hd
    go_enter Tryz.func97, Tryz.ntmps97
    go_wp2_with (first | (go_at_call 117; refine (C0 _).mono ?_; rintro e w' ⟨rfl, rfl⟩) | (go_at_call 63; refine (C1 _).mono ?_; rintro e w' ⟨rfl, rfl⟩) | (go_at_call 118; refine (C2 _).mono ?_; rintro e w' ⟨rfl, rfl⟩))
    go_ret
    exact ⟨ret_bool (by rw [HE.out, HD.out]; rfl), rfl⟩

theorem beq_dec (a b : Int) : (a == b) = decide (a = b) := by rw [Bool.eq_iff_iff]; simp
theorem lexLocal_any (c : Int) (hc : IsByte c) (w : World) : Calls Tryz.prog 98 #[.int .u8 c] w fun e w' => e = .returned (.bool (localC c)) ∧ w = w' := by
  have C0 := lexLD_any c hc
  have HE : Hid (localC c = ((letterDigit c || decide (c = 45)) || decide (c = 95))) := Lib.hid rfl
  generalize localC c = R at HE ⊢
  generalize letterDigit c = L at C0 HE
  cases L with
  | true =>
    go_enter Tryz.func98, Tryz.ntmps98
    go_wp2_with (go_at_call 97; refine (C0 _).mono ?_; rintro e w' ⟨rfl, rfl⟩)
    go_ret
    exact ⟨ret_bool (by rw [HE.out]; rfl), rfl⟩
  | false =>
    by_cases h45 : c = 45
    · subst h45
      go_enter Tryz.func98, Tryz.ntmps98
      go_wp2_with (go_at_call 97; refine (C0 _).mono ?_; rintro e w' ⟨rfl, rfl⟩)
      go_ret
      exact ⟨ret_bool (by rw [HE.out]; rfl), rfl⟩
    · have e : (c == 45) = false := by simpa using h45
      have H45 := Lib.hid h45
      clear h45
      go_enter Tryz.func98, Tryz.ntmps98
      go_wp2_with (go_at_call 97; refine (C0 _).mono ?_; rintro e w' ⟨rfl, rfl⟩)
      all_goals
        go_ret
        exact ⟨ret_bool (by rw [HE.out]; simp [H45.out, beq_dec]), rfl⟩

theorem lexLang_any (c : Int) (hc : IsByte c) (w : World) : Calls Tryz.prog 102 #[.int .u8 c] w fun e w' => e = .returned (.bool (langC c)) ∧ w = w' := by
  have C0 := lexSmall_any c
  have C1 := lexDigit_any c
  have HE : Hid (langC c = ((small c || digit c) || decide (c = 45))) := Lib.hid rfl
  generalize langC c = R at HE ⊢
  generalize small c = L at C0 HE
  generalize digit c = D at C1 HE
  cases L with
  | true =>
    go_enter Tryz.func102, Tryz.ntmps102
    go_wp2_with (go_at_call 118; refine (C0 _).mono ?_; rintro e w' ⟨rfl, rfl⟩)
    go_ret
    exact ⟨ret_bool (by rw [HE.out]; rfl), rfl⟩
  | false =>
    cases D with
    | true =>
      go_enter Tryz.func102, Tryz.ntmps102
      go_wp2_with (first | (go_at_call 118; refine (C0 _).mono ?_; rintro e w' ⟨rfl, rfl⟩) | (go_at_call 117; refine (C1 _).mono ?_; rintro e w' ⟨rfl, rfl⟩))
      go_ret
      exact ⟨ret_bool (by rw [HE.out]; rfl), rfl⟩
    | false =>
      go_enter Tryz.func102, Tryz.ntmps102
      go_wp2_with (first | (go_at_call 118; refine (C0 _).mono ?_; rintro e w' ⟨rfl, rfl⟩) | (go_at_call 117; refine (C1 _).mono ?_; rintro e w' ⟨rfl, rfl⟩))
      go_ret
      exact ⟨ret_bool (by rw [HE.out]; simp [beq_dec]), rfl⟩

/-- A function of the program that tells of each byte whether it may stand there. -/
def TellsB (k : Nat) (P : Int → Bool) : Prop :=
  (∀ args w, (callFunc k args).run Tryz.prog w = .ok (.enter k args) w) ∧ ∀ c W, IsByte c → Calls Tryz.prog k #[.int .u8 c] W fun e W' => e = .returned (.bool (P c)) ∧ W = W'
theorem tells_LD : TellsB 97 letterDigit := ⟨enters_of Tryz.func97 (by kernel_rfl) rfl, fun c W h => lexLD_any c h W⟩
theorem tells_local : TellsB 98 localC := ⟨enters_of Tryz.func98 (by kernel_rfl) rfl, fun c W h => lexLocal_any c h W⟩
theorem tells_lang : TellsB 102 langC := ⟨enters_of Tryz.func102 (by kernel_rfl) rfl, fun c W h => lexLang_any c h W⟩

theorem runL_step {P : Int → Bool} {l : List Int} {k : Nat} {c : Int} (h : l[k]? = some c) : spanL P (l.drop k) = if P c = true then 1 + spanL P (l.drop (k + 1)) else 0 := by
  have hk := (List.getElem?_eq_some_iff.1 h).1
  rw [List.drop_eq_getElem_cons hk]
  have : l[k] = c := (List.getElem?_eq_some_iff.1 h).2
  rw [this]
  unfold spanL
  rw [List.takeWhile_cons]
  split <;> simp_all <;> omega
theorem runL_end {P : Int → Bool} {l : List Int} {k : Nat} (h : l.length ≤ k) : spanL P (l.drop k) = 0 := by
  rw [List.drop_eq_nil_of_le h]; rfl

set_option maxRecDepth 100000 in
set_option maxHeartbeats 1000000 in
theorem lexRun_any (K : Nat) (P : Int → Bool) (hT : TellsB K P) (s : ByteArray) (a : Nat) (ha : a ≤ s.size) (hs : s.size ≤ 1000000000000) (w : World) :
    Calls Tryz.prog 96 #[.string s, .int .i64 a, .func (.func K) #[] #[]] w fun e w' => e = .returned (.int .i64 ((a + spanL P ((bs s).drop a) : Nat) : Int)) ∧ w = w' := by
  have e := hT.1
  have HC := Lib.hid hT.2
  clear hT
  obtain ⟨R, hR⟩ : ∃ R, R = a + spanL P ((bs s).drop a) := ⟨_, rfl⟩
  rw [← hR]
  have HR := Lib.hid hR
  clear hR
  go_enter Tryz.func96, Tryz.ntmps96
  go_wp2
  go_loop [1] (fun i => ∃ k : Nat, k ≤ s.size ∧ i = .int .i64 k ∧ R = k + spanL P ((bs s).drop k)) (fun i => s.size - (intOf i).toNat)
  case atStart => exact ⟨a, ha, rfl, HR.out⟩
  case round =>
    obtain ⟨k, hk, rfl, hr⟩ := hrel
    have HK := Lib.hid hr
    clear hr
    by_cases hlt : k < s.size
    · have C := HC.out (s[k].toNat : Int) w (byte_bd s[k])
      have hst := runL_step (P := P) (bs_get s k hlt)
      cases hp : P (s[k].toNat : Int) with
      | true =>
        rw [hp] at hst C
        rw [if_pos rfl] at hst
        have HS := Lib.hid hst
        have HC2 := Lib.hid C
        clear hp hst C
        go_wp2_with (go_at_fn K; refine HC2.out.mono ?_; rintro e w' ⟨rfl, rfl⟩)
        go_round
        case rel => exact ⟨k + 1, by omega, by go_num, by have := HK.out; have := HS.out; omega⟩
        case measure => simp [intOf]; omega
      | false =>
        rw [hp] at hst C
        rw [if_neg (by decide)] at hst
        have HS := Lib.hid hst
        have HC2 := Lib.hid C
        clear hp hst C
        go_wp2_with (go_at_fn K; refine HC2.out.mono ?_; rintro e w' ⟨rfl, rfl⟩)
        go_ret
        exact ⟨ret_int (by have := HK.out; have := HS.out; omega), rfl⟩
    · obtain rfl : k = s.size := by omega
      have hst := runL_end (P := P) (l := bs s) (k := s.size) (by rw [bs_length]; exact Nat.le_refl _)
      have HS := Lib.hid hst
      clear hst
      go_wp2
      go_ret
      exact ⟨ret_int (by have := HK.out; have := HS.out; omega), rfl⟩

theorem isWord_any (s : ByteArray) (hs : s.size ≤ 1000000000000) (w : World) : Calls Tryz.prog 99 #[.string s] w fun e w' => e = .returned (.bool (isWordL (bs s))) ∧ w = w' := by
  have HE : Hid (isWordL (bs s) = (decide (0 < s.size) && decide (s.size ≤ 32) && !digit ((bs s).headD 0))) := Lib.hid (by unfold isWordL; rw [bs_length])
  by_cases h0 : 0 < s.size
  · have hne := nonempty h0
    have hne2 : (!s.toList.isEmpty) = true := by rw [hne]; rfl
    by_cases h1 : s.size ≤ 32
    · have C := lexDigit_any (s[0].toNat : Int)
      have d1 : decide ((s.size : Int) ≤ 32) = true := by simp; omega
      have HH : Hid ((bs s).headD 0 = (s[0].toNat : Int)) := Lib.hid (by rw [bs_head s h0]; rfl)
      go_enter Tryz.func99, Tryz.ntmps99
      go_wp2_with (go_at_call 117; refine (C _).mono ?_; rintro e w' ⟨rfl, rfl⟩)
      go_ret
      exact ⟨ret_bool (by rw [HE.out, HH.out]; simp [h0, h1]), rfl⟩
    · have d1 : decide ((s.size : Int) ≤ 32) = false := by simp; omega
      go_enter Tryz.func99, Tryz.ntmps99
      go_wp2
      go_ret
      exact ⟨ret_bool (by rw [HE.out]; simp [h1]), rfl⟩
  · have hs0 : s = ByteArray.empty := by
      apply ByteArray.ext
      apply Array.eq_empty_of_size_eq_zero
      show s.size = 0
      omega
    subst hs0
    have he : ByteArray.empty.toList.isEmpty = true := by rw [← decide_eq_emptyBytes]; simp
    have he2 : (!ByteArray.empty.toList.isEmpty) = false := by rw [he]; rfl
    go_enter Tryz.func99, Tryz.ntmps99
    go_wp2
    go_ret
    exact ⟨ret_bool (by rw [HE.out]; rfl), rfl⟩
end Go.Proofs.YtfldpfomecjdkaaGreatDoor
/-
  CONTRACTS OF THE REFERENCE's ch, hex, Skip: bounds.
-/

namespace Go.Proofs.YtfldpfomecjdkaaGreatDoor
open Go.RowKit
open Utf Term Lex
set_option linter.unusedVariables false
set_option linter.unusedSimpArgs false

set_option maxRecDepth 100000 in
set_option maxHeartbeats 2000000 in
theorem refCh_any (s : ByteArray) (at_ : Nat) (hs : s.size ≤ 1000000000) (ha : at_ ≤ 2000000000) (w : World) :
    Calls Tryz.prog 50 #[.string s, .int .i64 at_] w fun e w' => (∃ c : Int, e = .returned (.int .u8 c) ∧ 0 ≤ c ∧ c ≤ 255 ∧ (c ≠ 0 → at_ < s.size)) ∧ w = w' := by
  have a0 : (0 : Int) ≤ (at_ : Int) := by omega
  by_cases h : at_ < s.size
  · have d : decide ((at_ : Int) < (s.size : Int)) = true := by simpa using h
    have d1 : (at_ : Int) < (s.size : Int) := by omega
    go_enter Tryz.func50, Tryz.ntmps50
    go_wp2
    go_ret
    exact ⟨⟨_, rfl, (byte_bd _).1, (byte_bd _).2, fun _ => h⟩, rfl⟩
  · have d : decide ((at_ : Int) < (s.size : Int)) = false := by simp; omega
    go_enter Tryz.func50, Tryz.ntmps50
    go_wp2
    go_ret
    exact ⟨⟨0, rfl, by decide, by decide, fun h => absurd rfl h⟩, rfl⟩

set_option maxRecDepth 100000 in
set_option maxHeartbeats 2000000 in
theorem refHex_any (c : Int) (h0 : 0 ≤ c) (h1 : c ≤ 255) (w : World) :
    Calls Tryz.prog 91 #[.int .u8 c] w fun e w' => (∃ d : Int, e = .returned (.int .i64 d) ∧ -1 ≤ d ∧ d ≤ 15 ∧ (0 ≤ d → 48 ≤ c)) ∧ w = w' := by
  by_cases d1 : 48 ≤ c ∧ c ≤ 57
  · have t1 : decide ((48 : Int) ≤ c) = true := by simpa using d1.1
    have t2 : decide (c ≤ (57 : Int)) = true := by simpa using d1.2
    go_enter Tryz.func91, Tryz.ntmps91
    go_wp2
    go_ret
    exact ⟨⟨_, rfl, by omega, by omega, by omega⟩, rfl⟩
  by_cases d2 : 65 ≤ c ∧ c ≤ 70
  · have t1 : decide ((48 : Int) ≤ c) = true := by simp; omega
    have t2 : decide (c ≤ (57 : Int)) = false := by simp; omega
    have t3 : decide ((65 : Int) ≤ c) = true := by simpa using d2.1
    have t4 : decide (c ≤ (70 : Int)) = true := by simpa using d2.2
    go_enter Tryz.func91, Tryz.ntmps91
    go_wp2
    go_ret
    exact ⟨⟨_, rfl, by omega, by omega, by omega⟩, rfl⟩
  by_cases d3 : 97 ≤ c ∧ c ≤ 102
  · have t1 : decide ((48 : Int) ≤ c) = true := by simp; omega
    have t2 : decide (c ≤ (57 : Int)) = false := by simp; omega
    have t3 : decide ((65 : Int) ≤ c) = true := by simp; omega
    have t4 : decide (c ≤ (70 : Int)) = false := by simp; omega
    have t5 : decide ((97 : Int) ≤ c) = true := by simpa using d3.1
    have t6 : decide (c ≤ (102 : Int)) = true := by simpa using d3.2
    go_enter Tryz.func91, Tryz.ntmps91
    go_wp2
    go_ret
    exact ⟨⟨_, rfl, by omega, by omega, by omega⟩, rfl⟩
  have t1 : (decide ((48 : Int) ≤ c) && decide (c ≤ (57 : Int))) = false := by simpa using d1
  have t2 : (decide ((65 : Int) ≤ c) && decide (c ≤ (70 : Int))) = false := by simpa using d2
  have t3 : (decide ((97 : Int) ≤ c) && decide (c ≤ (102 : Int))) = false := by simpa using d3
  generalize hq1 : decide ((48 : Int) ≤ c) = q1 at *
  generalize hq2 : decide (c ≤ (57 : Int)) = q2 at *
  generalize hq3 : decide ((65 : Int) ≤ c) = q3 at *
  generalize hq4 : decide (c ≤ (70 : Int)) = q4 at *
  generalize hq5 : decide ((97 : Int) ≤ c) = q5 at *
  generalize hq6 : decide (c ≤ (102 : Int)) = q6 at *
  cases q1 <;> cases q2 <;> cases q3 <;> cases q4 <;> cases q5 <;> cases q6 <;> first | (exact absurd t1 (by decide)) | (exact absurd t2 (by decide)) | (exact absurd t3 (by decide)) | skip
  all_goals
    clear d1 d2 d3 t1 t2 t3
    go_enter Tryz.func91, Tryz.ntmps91
    go_wp2
    go_ret
    exact ⟨⟨_, rfl, by omega, by omega, by omega⟩, rfl⟩

set_option maxRecDepth 100000 in
set_option maxHeartbeats 4000000 in
theorem refSkip_any (s : ByteArray) (a0 : Nat) (hs : s.size ≤ 1000000000) (ha : a0 ≤ s.size) (w : World) :
    Calls Tryz.prog 26 #[.string s, .int .i64 a0] w fun e w' => (∃ q : Nat, e = .returned (.int .i64 q) ∧ a0 ≤ q ∧ q ≤ s.size) ∧ w = w' := by
  obtain ⟨n, hn⟩ : ∃ n, n = s.size := ⟨_, rfl⟩
  have HN := Lib.hid hn
  go_enter Tryz.func26, Tryz.ntmps26
  go_wp2_with fail
  go_loopg [1] n (fun g i wr => ∃ k : Nat, k ≤ n ∧ n - k ≤ g ∧ a0 ≤ k ∧ i = .int .i64 k ∧ wr = w)
  case atStart => exact ⟨a0, by omega, by omega, Nat.le_refl _, rfl, rfl⟩
  case round =>
    obtain ⟨k, hk, hg, hak, rfl, rfl⟩ := hrel
    by_cases hlt : k < s.size
    · have d1 : decide ((k : Int) < (s.size : Int)) = true := by simpa using hlt
      have i0 : (0 : Int) ≤ (k : Int) := by omega
      have i1 : (k : Int) < (s.size : Int) := by omega
      have hb := byte_bd s[k]
      by_cases hc : (s[k].toNat : Int) = 35
      · have e1 : ((s[k].toNat : Int) == 35) = true := by simp [hc]
        have HC := Lib.hid hc
        clear hc
        go_wp2_with fail
        rename World => w0
        go_loopg [1] n (fun g i wr => ∃ k2 : Nat, k2 ≤ n ∧ n - k2 ≤ g ∧ k ≤ k2 ∧ i = .int .i64 k2 ∧ wr = w0)
        case atStart => exact ⟨k, by omega, by omega, Nat.le_refl _, rfl, rfl⟩
        case round =>
          obtain ⟨k2, hk2, hg2, hkk, rfl, rfl⟩ := hrel
          by_cases hlt2 : k2 < s.size
          · have d2 : decide ((k2 : Int) < (s.size : Int)) = true := by simpa using hlt2
            have i2 : (0 : Int) ≤ (k2 : Int) := by omega
            have i3 : (k2 : Int) < (s.size : Int) := by omega
            have hb2 := byte_bd s[k2]
            by_cases hc2 : (s[k2].toNat : Int) = 10
            · have e2 : ((s[k2].toNat : Int) != 10) = false := by simp [hc2]
              have hne : k < k2 := by
                rcases Nat.lt_or_eq_of_le hkk with h | h
                · exact h
                · subst h; have := HC.out; omega
              clear hc2
              go_wp2_with fail
              go_roundg (n - k2)
              case measure => omega
              case rel => exact ⟨k2, hk2, Nat.le_refl _, by omega, rfl, rfl⟩
            · have e2 : ((s[k2].toNat : Int) != 10) = true := by simp [hc2]
              clear hc2
              go_wp2_with fail
              go_roundg (n - (k2 + 1))
              case measure => omega
              case rel => exact ⟨k2 + 1, by omega, Nat.le_refl _, by omega, by go_num, rfl⟩
          · have d2 : decide ((k2 : Int) < (s.size : Int)) = false := by simp; omega
            go_wp2_with fail
            go_roundg (n - k2)
            case measure => omega
            case rel => exact ⟨k2, hk2, Nat.le_refl _, by omega, rfl, rfl⟩
      · have e1 : ((s[k].toNat : Int) == 35) = false := by simp [hc]
        clear hc
        by_cases hw : (s[k].toNat : Int) = 9 ∨ (s[k].toNat : Int) = 10 ∨ (s[k].toNat : Int) = 13 ∨ (s[k].toNat : Int) = 32
        · rcases hw with hx | hx | hx | hx
          · have f9 : ((s[k].toNat : Int) != 9) = false := by simp [hx]
            clear hx
            go_wp2_with fail
            go_roundg (n - (k + 1))
            case measure => omega
            case rel => exact ⟨k + 1, by omega, Nat.le_refl _, by omega, by go_num, rfl⟩
          · have f9 : ((s[k].toNat : Int) != 9) = true := by simp [hx]
            have f10 : ((s[k].toNat : Int) != 10) = false := by simp [hx]
            clear hx
            go_wp2_with fail
            go_roundg (n - (k + 1))
            case measure => omega
            case rel => exact ⟨k + 1, by omega, Nat.le_refl _, by omega, by go_num, rfl⟩
          · have f9 : ((s[k].toNat : Int) != 9) = true := by simp [hx]
            have f10 : ((s[k].toNat : Int) != 10) = true := by simp [hx]
            have f13 : ((s[k].toNat : Int) != 13) = false := by simp [hx]
            clear hx
            go_wp2_with fail
            go_roundg (n - (k + 1))
            case measure => omega
            case rel => exact ⟨k + 1, by omega, Nat.le_refl _, by omega, by go_num, rfl⟩
          · have f9 : ((s[k].toNat : Int) != 9) = true := by simp [hx]
            have f10 : ((s[k].toNat : Int) != 10) = true := by simp [hx]
            have f13 : ((s[k].toNat : Int) != 13) = true := by simp [hx]
            have f32 : ((s[k].toNat : Int) != 32) = false := by simp [hx]
            clear hx
            go_wp2_with fail
            go_roundg (n - (k + 1))
            case measure => omega
            case rel => exact ⟨k + 1, by omega, Nat.le_refl _, by omega, by go_num, rfl⟩
        · have hx : ¬ (s[k].toNat : Int) = 9 ∧ ¬ (s[k].toNat : Int) = 10 ∧ ¬ (s[k].toNat : Int) = 13 ∧ ¬ (s[k].toNat : Int) = 32 := ⟨fun h => hw (.inl h), fun h => hw (.inr (.inl h)), fun h => hw (.inr (.inr (.inl h))), fun h => hw (.inr (.inr (.inr h)))⟩
          clear hw
          have f9 : ((s[k].toNat : Int) != 9) = true := bne_iff_ne.2 hx.1
          have f10 : ((s[k].toNat : Int) != 10) = true := bne_iff_ne.2 hx.2.1
          have f13 : ((s[k].toNat : Int) != 13) = true := bne_iff_ne.2 hx.2.2.1
          have f32 : ((s[k].toNat : Int) != 32) = true := bne_iff_ne.2 hx.2.2.2
          clear hx
          go_wp2_with fail
          go_ret
          exact ⟨⟨k, rfl, hak, by omega⟩, rfl⟩
    · have d1 : decide ((k : Int) < (s.size : Int)) = false := by simp; omega
      go_wp2_with fail
      go_ret
      exact ⟨⟨k, rfl, hak, by omega⟩, rfl⟩
end Go.Proofs.YtfldpfomecjdkaaGreatDoor
