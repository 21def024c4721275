/-
  THE CONTRACT OF THE REFERENCE's tag.
-/
import Derived.Test.YtdcfjopijblndaaDoorRefIRI
import Derived.Test.YtdcfjopijblndaaDoorTagMath
namespace Go.Proofs.YtdcfjopijblndaaDoor
open Go.RowKit
open Utf Term
set_option linter.unusedVariables false

namespace Term
theorem scan_cut : ∀ (a b : List Int) (f p : Bool), scan f p a = false → scan f p (a ++ b) = false
  | [], _, _, _, h => by cases h
  | c :: a, b, f, p, h => by
    rw [List.cons_append, scan]
    rw [scan] at h
    cases e : stepOK f p c with
    | false => rfl
    | true =>
      rw [e, Bool.true_and] at h
      rw [Bool.true_and]
      exact scan_cut a b _ _ h
theorem begins_head (s : ByteArray) (h : 0 < s.size) : begins45 (bs s) = decide ((s[0].toNat : Int) = 45) := by rw [bs_head s h]; rfl
theorem ends_last : ∀ (l : List Int) (x : Int), ends45 (l ++ [x]) = decide (x = 45)
  | [], x => rfl
  | [c], x => rfl
  | c :: d :: l, x => by
    show ends45 (c :: d :: (l ++ [x])) = _
    rw [ends45_cons]
    exact ends_last (d :: l) x
theorem ends_size (s : ByteArray) (n : Nat) (h : s.size = n + 1) : ends45 (bs s) = decide ((s[n].toNat : Int) = 45) := by
  have e := bs_take_step s n (by omega)
  rw [← h, bs_take_all] at e
  rw [e, ends_last]
end Term

theorem idx_at (s : ByteArray) (i : Int) (k : Nat) (hi : i = k) (h : k < s.size) (W : World) : (Instr.index 9 (.string s) (.int .i64 i)).run Tryd.prog W = .ok (.int .u8 (s[k].toNat : Int)) W := by
  subst hi
  have h1 : (k : Int) < s.size := by omega
  go_simp

set_option maxRecDepth 100000 in
set_option maxHeartbeats 2000000 in
theorem reftag_loop (s : ByteArray) (n : Nat) (hn : s.size = n + 1) (h35 : s.size ≤ 35) (hb : (s[0].toNat : Int) ≠ 45) (he : (s[n].toNat : Int) ≠ 45) (w : World) :
    Calls Tryd.prog 41 #[.string s] w fun e w' => e = .returned (.bool (scan true false (bs s))) ∧ w = w' := by
  have d0 : decide ((s.size : Int) < 1) = false := by simp; omega
  have d1 : decide ((35 : Int) < s.size) = false := by simp; omega
  have e0 : ((s[0].toNat : Int) == 45) = false := by simpa using hb
  have i1 := idx_at s ((s.size : Int) - 1) n (by omega) (by omega)
  have i0 := idx_at s 0 0 rfl (by omega)
  have HB := Lib.hid hb
  have HN := Lib.hid hn
  have hpos : 0 < s.size := by omega
  have HY : Hid (∀ k (hk : k < s.size), (s[k].toNat : Int) = 45 → 1 ≤ k) := Lib.hid (fun k hk h => by
    cases k with
    | zero => exact absurd h hb
    | succ k => omega)
  generalize hx : (s[n].toNat : Int) = x at *
  generalize hy : (s[0].toNat : Int) = y at *
  have ex : (x == 45) = false := by simpa using he
  clear hb he hn hx hy HB
  go_enter Tryd.func41, Tryd.ntmps41
  go_wp2
  clear i1 i0 e0 ex
  go_loop [3, 4] (fun f i => ∃ (k : Nat) (F : Bool), k ≤ s.size ∧ i = .int .i64 k ∧ f = .bool F ∧ F = !(((bs s).take k).contains 45) ∧ scan true false ((bs s).take k) = true) (fun _ i => s.size - (intOf i).toNat)
  case atStart => exact ⟨0, true, Nat.zero_le _, rfl, rfl, rfl, rfl⟩
  case round =>
    obtain ⟨k, F, hk, rfl, rfl, hF, hsc⟩ := hrel
    have HF := Lib.hid hF
    have HSC := Lib.hid hsc
    clear hF hsc
    by_cases hlt : k < s.size
    · have HT := Lib.hid (bs_take_step s k hlt)
      have HY2 := Lib.hid (HY.out k hlt)
      have HL : Hid (((bs s).take k).getLast? = if k = 0 then none else (bs s)[k - 1]?) := Lib.hid (by
        rw [List.getLast?_eq_getElem?, List.length_take, bs_length, Nat.min_eq_left hk]
        cases k with
        | zero => simp
        | succ k => rw [if_neg (by omega), List.getElem?_take_of_lt (by omega)])
      have HO : Hid (∀ b : Bool, stepOK F (match ((bs s).take k).getLast? with | none => false | some d => decide (d = 45)) (s[k].toNat : Int) = b → scan true false ((bs s).take (k + 1)) = b) := Lib.hid (fun b h => by
        rw [HT.out, scan_snoc, HSC.out, Bool.true_and, Bool.true_and, ← HF.out]
        exact h)
      have HC : Hid (scan true false ((bs s).take (k + 1)) = false → scan true false (bs s) = false) := Lib.hid (fun h => by
        have e := scan_cut _ ((bs s).drop (k + 1)) true false h
        rwa [List.take_append_drop] at e)
      have HF2 : Hid ((!(((bs s).take (k + 1)).contains 45)) = (F && !((s[k].toNat : Int) == 45))) := Lib.hid (by
        rw [HT.out, List.contains_append, HF.out, Bool.not_or]
        congr 2
        simp only [List.contains_cons, List.contains_nil, Bool.or_false]
        rw [Bool.eq_iff_iff, beq_iff_eq, beq_iff_eq]
        exact ⟨fun h => h.symm, fun h => h.symm⟩)
      have CD := fun W => refDigit_any (s[k].toNat : Int) W
      have ik := idx_at s (k : Int) k rfl hlt
      clear HT
      by_cases h45 : (s[k].toNat : Int) = 45
      · have hk1 := HY2.out h45
        have ip := idx_at s ((k : Int) - 1) (k - 1) (by omega) (by omega)
        have HL2 : Hid (((bs s).take k).getLast? = some (s[k - 1].toNat : Int)) := Lib.hid (by rw [HL.out, if_neg (by omega), bs_get s (k - 1) (by omega)])
        generalize hp : (s[k - 1].toNat : Int) = p at *
        rw [h45] at HO HF2 ik
        clear hp HL HY2 h45 CD
        by_cases hp45 : p = 45
        · subst hp45
          have HR : Hid (scan true false (bs s) = false) := Lib.hid (HC.out (HO.out false (by rw [HL2.out]; rfl)))
          go_wp2
          go_ret
          exact ⟨ret_bool HR.out.symm, rfl⟩
        · have hpf : (p == 45) = false := by simpa using hp45
          have HR : Hid (scan true false ((bs s).take (k + 1)) = true) := Lib.hid (HO.out true (by
            rw [HL2.out]
            show (!decide (p = 45)) = true
            rw [decide_eq_false hp45]; rfl))
          clear hp45
          go_wp2
          go_round
          case rel => exact ⟨k + 1, false, by omega, by go_num, rfl, by rw [HF2.out]; simp, HR.out⟩
          case measure => simp [intOf]; omega
      · have hc45 : ((s[k].toNat : Int) == 45) = false := by simpa using h45
        rw [hc45, Bool.not_false, Bool.and_true] at HF2
        have HO2 : Hid (∀ b : Bool, (small (s[k].toNat : Int) || (!F && digit (s[k].toNat : Int))) = b → scan true false ((bs s).take (k + 1)) = b) := Lib.hid (fun b h => HO.out b (by unfold stepOK; rw [if_neg h45]; exact h))
        generalize hx : (s[k].toNat : Int) = c at *
        clear HO HL HY2 hx h45
        cases hs : small c with
        | true =>
          have h1 : decide (97 ≤ c) = true := by simp [small] at hs; simp; omega
          have h2 : decide (c ≤ 122) = true := by simp [small] at hs; simp; omega
          have HR : Hid (scan true false ((bs s).take (k + 1)) = true) := Lib.hid (HO2.out true (by rw [hs]; rfl))
          clear hs HO2
          go_wp2
          go_round
          case rel => exact ⟨k + 1, F, by omega, by go_num, rfl, HF2.out.symm, HR.out⟩
          case measure => simp [intOf]; omega
        | false =>
          have HS := Lib.hid hs
          cases F with
          | true =>
            have HR : Hid (scan true false (bs s) = false) := Lib.hid (HC.out (HO2.out false (by rw [hs]; rfl)))
            clear hs HO2
            by_cases h1 : 97 ≤ c
            · have g1 : decide (97 ≤ c) = true := by simpa using h1
              have g2 : decide (c ≤ 122) = false := by have := HS.out; simp [small] at this; simp; omega
              clear h1
              go_wp2
              go_ret
              exact ⟨ret_bool HR.out.symm, rfl⟩
            · have g1 : decide (97 ≤ c) = false := by simpa using h1
              clear h1
              go_wp2
              go_ret
              exact ⟨ret_bool HR.out.symm, rfl⟩
          | false =>
            cases hd : digit c with
            | true =>
              have HR : Hid (scan true false ((bs s).take (k + 1)) = true) := Lib.hid (HO2.out true (by rw [hs, hd]; rfl))
              rw [hd] at CD
              have g1 : decide (97 ≤ c) = false := by simp [digit] at hd; simp; omega
              clear hs hd HO2
              go_wp2_with (go_at_call 64; refine (CD _).mono ?_; rintro e w3 ⟨rfl, rfl⟩)
              go_round
              case rel => exact ⟨k + 1, false, by omega, by go_num, rfl, HF2.out.symm, HR.out⟩
              case measure => simp [intOf]; omega
            | false =>
              have HR : Hid (scan true false (bs s) = false) := Lib.hid (HC.out (HO2.out false (by rw [hs, hd]; rfl)))
              rw [hd] at CD
              clear hs hd HO2
              by_cases h1 : 97 ≤ c
              · have g1 : decide (97 ≤ c) = true := by simpa using h1
                have g2 : decide (c ≤ 122) = false := by have := HS.out; simp [small] at this; simp; omega
                clear h1
                go_wp2_with (go_at_call 64; refine (CD _).mono ?_; rintro e w3 ⟨rfl, rfl⟩)
                go_ret
                exact ⟨ret_bool HR.out.symm, rfl⟩
              · have g1 : decide (97 ≤ c) = false := by simpa using h1
                clear h1
                go_wp2_with (go_at_call 64; refine (CD _).mono ?_; rintro e w3 ⟨rfl, rfl⟩)
                go_ret
                exact ⟨ret_bool HR.out.symm, rfl⟩
    · obtain rfl : k = s.size := by omega
      rw [bs_take_all] at HSC
      go_wp2
      go_ret
      exact ⟨ret_bool HSC.out.symm, rfl⟩

theorem reftag_any (s : ByteArray) (hs : s.size ≤ 9000) (w : World) : Calls Tryd.prog 41 #[.string s] w fun e w' => e = .returned (.bool (tagL (bs s))) ∧ w = w' := by
  cases hn : s.size with
  | zero =>
    obtain rfl := empty_of s hn
    have HR : Hid (tagL (bs ByteArray.empty) = false) := Lib.hid (by decide +kernel)
    clear hn hs
    go_enter Tryd.func41, Tryd.ntmps41
    go_wp2
    go_ret
    exact ⟨ret_bool HR.out.symm, rfl⟩
  | succ n =>
    have hpos : 0 < s.size := by omega
    have d0 : decide ((s.size : Int) < 1) = false := by simp; omega
    by_cases h35 : s.size ≤ 35
    · have d1 : decide ((35 : Int) < s.size) = false := by simp; omega
      have e0 : (bs s).isEmpty = false := by rw [bs_head s hpos]; rfl
      have et : tagL (bs s) = (!decide ((s[0].toNat : Int) = 45) && !decide ((s[n].toNat : Int) = 45) && scan true false (bs s)) := by
        unfold tagL
        rw [bs_length, decide_eq_true h35, e0, begins_head s hpos, ends_size s n hn]
        rfl
      rw [et]
      clear et e0
      by_cases hb : (s[0].toNat : Int) = 45
      · have hbt : ((s[0].toNat : Int) == 45) = true := by simpa using hb
        rw [decide_eq_true hb]
        have i0 := idx_at s 0 0 rfl hpos
        generalize scan true false (bs s) = S at *
        generalize decide ((s[n].toNat : Int) = 45) = D at *
        generalize (s[0].toNat : Int) = y at *
        clear hb hn
        go_enter Tryd.func41, Tryd.ntmps41
        go_wp2
        go_ret
        exact ⟨rfl, rfl⟩
      · by_cases he : (s[n].toNat : Int) = 45
        · have hbf : ((s[0].toNat : Int) == 45) = false := by simpa using hb
          have het : ((s[n].toNat : Int) == 45) = true := by simpa using he
          rw [decide_eq_true he]
          have i0 := idx_at s 0 0 rfl hpos
          have i1 := idx_at s ((s.size : Int) - 1) n (by omega) (by omega)
          generalize scan true false (bs s) = S at *
          generalize decide ((s[0].toNat : Int) = 45) = D at *
          generalize (s[0].toNat : Int) = y at *
          generalize (s[n].toNat : Int) = z at *
          clear hb he hn
          go_enter Tryd.func41, Tryd.ntmps41
          go_wp2
          go_ret
          exact ⟨ret_bool (by simp), rfl⟩
        · rw [decide_eq_false hb, decide_eq_false he]
          have := reftag_loop s n hn h35 hb he w
          simpa using this
    · have d1 : decide ((35 : Int) < s.size) = true := by simp; omega
      have HR : Hid (tagL (bs s) = false) := Lib.hid (by unfold tagL; rw [bs_length, decide_eq_false h35]; rfl)
      clear hn
      go_enter Tryd.func41, Tryd.ntmps41
      go_wp2
      go_ret
      exact ⟨ret_bool HR.out.symm, rfl⟩
end Go.Proofs.YtdcfjopijblndaaDoor
