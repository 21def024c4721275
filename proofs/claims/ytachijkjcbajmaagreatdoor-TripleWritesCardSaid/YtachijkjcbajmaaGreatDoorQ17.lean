/-
  WHAT THE PROOF STANDS ON, a part of it: LexName.
-/
import Derived.Test.YtachijkjcbajmaaGreatDoorQ14
/-
  CONTRACTS OF THE TAKERS name, variable.
-/

namespace Go.Proofs.YtachijkjcbajmaaGreatDoor
open Go.RowKit
open Utf Term Lex
set_option linter.unusedVariables false
set_option linter.unusedSimpArgs false

theorem hasPrefix_at (s p : ByteArray) (l lp : List Int) (h : bs s = l) (hp : bs p = lp) (v : Bool) (hv : lp.isPrefixOf l = v) (w : World) : Calls Tryz.prog 97 #[.string s, .string p] w fun e w' => e = .returned (.bool v) ∧ w = w' := by
  subst h
  subst hp
  subst hv
  exact hasPrefix_any s p w

/-- There is no name. -/
theorem nameT_no {l : List Int} (h : colonB (l.drop (spanL letterDigit l)) = false) : nameT l = .no := by
  unfold nameT
  rw [if_neg (by rw [h]; decide)]

set_option maxRecDepth 100000 in
set_option maxHeartbeats 2000000 in
theorem name_no (rp : Nat) (s : ByteArray) (a : Nat) (w : World) (h : RdAt w rp s a) (hno : colonB (((bs s).drop a).drop (spanL letterDigit ((bs s).drop a))) = false) :
    Calls Tryz.prog 79 #[.pointer (some ⟨rp, 0, none⟩)] w fun e w' => e = tookE (nameT ((bs s).drop a)) ∧ Below w.heap.size w w' := by
  rw [nameT_no hno]
  have HB := Lib.hid (below_lex w (.cells zeroC 43))
  have HZ := Lib.hid (block_new w zeroC 43)
  have HR := Lib.hid (h.below HB.out).rest
  have hr := rest_size s a
  have hs := h.sz
  have hl := bs_from s a
  rw [← hl] at hno
  clear hl
  generalize (s.extract a s.size) = r at *
  have hrs : r.size ≤ 1000000000 := by omega
  clear h hr hs
  have hn := runL_size letterDigit r
  have HC := Lib.hid (fun W => run_zero 100 letterDigit tells_LD r (by omega) W)
  have HE : Hid (bs (r.extract (spanL letterDigit (bs r)) r.size) = (bs r).drop (spanL letterDigit (bs r))) := Lib.hid (bs_from _ _)
  unfold colonB at hno
  cases h1 : [58].isPrefixOf ((bs r).drop (spanL letterDigit (bs r))) with
  | false =>
    have HP := Lib.hid (fun W => hasPrefix_at _ ⟨#[58]⟩ _ [58] HE.out rfl _ h1 W)
    clear h1 hno HE
    generalize spanL letterDigit (bs r) = n at *
    have b0 : 0 ≤ (n : Int) := by omega
    have b1 : (n : Int) ≤ (r.size : Int) := by omega
    go_enter Tryz.func79, Tryz.ntmps79
    go_wp2_with (go_at_call 98; refine HR.out.mono ?_; rintro e w1 ⟨rfl, hB1⟩)
    have HB1 := Lib.hid (below_next HB.out hB1)
    have HZ1 := Lib.hid (HZ.out.kept hB1)
    clear hB1
    have k0 := HZ1.out.cell (j := 0) rfl
    have k1 := HZ1.out.cell (j := 1) rfl
    have k2 := HZ1.out.cell (j := 2) rfl
    have k3 := HZ1.out.cell (j := 3) rfl
    have k4 := HZ1.out.cell (j := 4) rfl
    have k5 := HZ1.out.cell (j := 5) rfl
    have kf : ∀ j, w1.frozen? ⟨w.heap.size, j, none⟩ = false := fun j => HZ1.out.free j
    go_wp2_with (first | (go_at_call 99; refine (HC.out _).mono ?_; rintro e w' ⟨rfl, rfl⟩) | (go_at_call 97; refine (HP.out _).mono ?_; rintro e w' ⟨rfl, rfl⟩))
    refine bodyPost_ret (results_lex rfl _ _ _ w.heap.size 43 _ (0, 0) _ rfl (HZ1.out.set6 _ _ _ _ _ _) Tryz.underlying43 (by kernel_rfl)) rfl ⟨rfl, below_set6 HB1.out (Nat.le_refl _) _ _ _ _ _ _⟩
  | true =>
    rw [h1, Bool.true_and, Bool.not_eq_false'] at hno
    have HP := Lib.hid (fun W => hasPrefix_at _ ⟨#[58]⟩ _ [58] HE.out rfl _ h1 W)
    have HP2 := Lib.hid (fun W => hasPrefix_at _ ⟨#[58, 45]⟩ _ [58, 45] HE.out rfl _ hno W)
    clear h1 hno HE
    generalize spanL letterDigit (bs r) = n at *
    have b0 : 0 ≤ (n : Int) := by omega
    have b1 : (n : Int) ≤ (r.size : Int) := by omega
    go_enter Tryz.func79, Tryz.ntmps79
    go_wp2_with (go_at_call 98; refine HR.out.mono ?_; rintro e w1 ⟨rfl, hB1⟩)
    have HB1 := Lib.hid (below_next HB.out hB1)
    have HZ1 := Lib.hid (HZ.out.kept hB1)
    clear hB1
    have k0 := HZ1.out.cell (j := 0) rfl
    have k1 := HZ1.out.cell (j := 1) rfl
    have k2 := HZ1.out.cell (j := 2) rfl
    have k3 := HZ1.out.cell (j := 3) rfl
    have k4 := HZ1.out.cell (j := 4) rfl
    have k5 := HZ1.out.cell (j := 5) rfl
    have kf : ∀ j, w1.frozen? ⟨w.heap.size, j, none⟩ = false := fun j => HZ1.out.free j
    go_wp2_with (first | (go_at_call 99; refine (HC.out _).mono ?_; rintro e w' ⟨rfl, rfl⟩) | (go_at_call 97; with_reducible refine (HP.out _).mono ?_; rintro e w' ⟨rfl, rfl⟩) | (go_at_call 97; with_reducible refine (HP2.out _).mono ?_; rintro e w' ⟨rfl, rfl⟩))
    refine bodyPost_ret (results_lex rfl _ _ _ w.heap.size 43 _ (0, 0) _ rfl (HZ1.out.set6 _ _ _ _ _ _) Tryz.underlying43 (by kernel_rfl)) rfl ⟨rfl, below_set6 HB1.out (Nat.le_refl _) _ _ _ _ _ _⟩

set_option maxRecDepth 100000 in
set_option maxHeartbeats 4000000 in
theorem name_yes (rp : Nat) (s : ByteArray) (a : Nat) (w : World) (h : RdAt w rp s a) (hno : colonB (((bs s).drop a).drop (spanL letterDigit ((bs s).drop a))) = true) :
    Calls Tryz.prog 79 #[.pointer (some ⟨rp, 0, none⟩)] w fun e w' => e = tookE (nameT ((bs s).drop a)) ∧ Below w.heap.size w w' := by
  have HB := Lib.hid (below_lex w (.cells zeroC 43))
  have HZ := Lib.hid (block_new w zeroC 43)
  have HR := Lib.hid (h.below HB.out).rest
  have hr := rest_size s a
  have hs := h.sz
  have hl := bs_from s a
  rw [← hl] at hno ⊢
  clear hl
  generalize (s.extract a s.size) = r at *
  have hrs : r.size ≤ 1000000000 := by omega
  clear h hr hs
  have hn := runL_size letterDigit r
  have HC := Lib.hid (fun W => run_zero 100 letterDigit tells_LD r (by omega) W)
  have HE : Hid (bs (r.extract (spanL letterDigit (bs r)) r.size) = (bs r).drop (spanL letterDigit (bs r))) := Lib.hid (bs_from _ _)
  have hno2 := hno
  unfold colonB at hno2
  rw [Bool.and_eq_true, Bool.not_eq_true'] at hno2
  have HP := Lib.hid (fun W => hasPrefix_at _ ⟨#[58]⟩ _ [58] HE.out rfl _ hno2.1 W)
  have HP2 := Lib.hid (fun W => hasPrefix_at _ ⟨#[58, 45]⟩ _ [58, 45] HE.out rfl _ hno2.2 W)
  have hc1 : spanL letterDigit (bs r) + 1 ≤ r.size := by
    have := prefix_len hno2.1
    rw [List.length_drop, bs_length] at this
    simp only [List.length_cons, List.length_nil] at this
    omega
  have hk := runL_le localC ((bs r).drop (spanL letterDigit (bs r) + 1))
  rw [List.length_drop, bs_length] at hk
  have HC2 := Lib.hid (fun W => run_at 101 localC tells_local r (spanL letterDigit (bs r) + 1) ((spanL letterDigit (bs r) : Int) + 1) (by omega) hc1 (by omega) W)
  have HW : Hid (bs (r.extract 0 (spanL letterDigit (bs r))) = (bs r).take (spanL letterDigit (bs r))) := Lib.hid (bs_first _ _)
  have HF : Hid (bs (r.extract 0 (spanL letterDigit (bs r) + 1 + spanL localC ((bs r).drop (spanL letterDigit (bs r) + 1)))) = (bs r).take (spanL letterDigit (bs r) + 1 + spanL localC ((bs r).drop (spanL letterDigit (bs r) + 1)))) := Lib.hid (bs_first _ _)
  have HV : Hid (nameT (bs r) = if (0 < spanL letterDigit (bs r) ∧ isWordL ((bs r).take (spanL letterDigit (bs r))) = false) ∨ 64 < spanL localC ((bs r).drop (spanL letterDigit (bs r) + 1)) then .bad
    else .got (symT 7 ((bs r).take (spanL letterDigit (bs r) + 1 + spanL localC ((bs r).drop (spanL letterDigit (bs r) + 1))))) (spanL letterDigit (bs r) + 1 + spanL localC ((bs r).drop (spanL letterDigit (bs r) + 1)))) := Lib.hid (by
      unfold nameT; rw [if_pos hno])
  rw [HV.out]
  clear HV hno hno2 HE
  have HI : Hid (∀ W v, isWordL ((bs r).take (spanL letterDigit (bs r))) = v → Calls Tryz.prog 102 #[.string (r.extract 0 (spanL letterDigit (bs r)))] W fun e w' => e = .returned (.bool v) ∧ W = w') := Lib.hid (fun W v hv => isWord_at _ _ HW.out (by simp; omega) v hv W)
  clear HW
  generalize isWordL ((bs r).take (spanL letterDigit (bs r))) = iw at *
  generalize spanL localC ((bs r).drop (spanL letterDigit (bs r) + 1)) = k at *
  generalize spanL letterDigit (bs r) = c at *
  obtain ⟨n, hcn⟩ : ∃ n, n = c + 1 + k := ⟨_, rfl⟩
  rw [← hcn] at HC2 HF ⊢
  have b0 : 0 ≤ (c : Int) := by omega
  have b1 : (c : Int) ≤ (r.size : Int) := by omega
  have b2 : (c : Int) + 1 ≤ (n : Int) := by omega
  have b3 : (n : Int) ≤ (r.size : Int) := by omega
  have b4 : 0 ≤ (n : Int) := by omega
  by_cases hA : 0 < c ∧ iw = false
  · rw [if_pos (.inl hA)]
    obtain ⟨hA1, rfl⟩ := hA
    have d0 : decide ((0 : Int) < (c : Int)) = true := by simpa using hA1
    have HI2 := Lib.hid (fun W => HI.out W false rfl)
    clear HI hcn
    go_enter Tryz.func79, Tryz.ntmps79
    go_wp2_with (go_at_call 98; refine HR.out.mono ?_; rintro e w1 ⟨rfl, hB1⟩)
    go_wp2_with (go_at_call 99; refine (HC.out _).mono ?_; rintro e w' ⟨rfl, rfl⟩)
    go_wp2_with (first | (go_at_call 97; with_reducible refine (HP.out _).mono ?_; rintro e w' ⟨rfl, rfl⟩) | (go_at_call 97; with_reducible refine (HP2.out _).mono ?_; rintro e w' ⟨rfl, rfl⟩))
    go_wp2_with (go_at_call 99; refine (HC2.out _).mono ?_; rintro e w' ⟨rfl, rfl⟩)
    go_wp2_with (go_at_call 102; refine (HI2.out _).mono ?_; rintro e w' ⟨rfl, rfl⟩)
    exact ⟨rfl, rfl, below_next HB.out hB1⟩
  · by_cases hk : 64 < k
    · rw [if_pos (.inr hk)]
      have d1 : decide ((64 : Int) < (n : Int) - (c : Int) - 1) = true := by simp; omega
      by_cases hc : 0 < c
      · have d0 : decide ((0 : Int) < (c : Int)) = true := by simpa using hc
        have hiw : iw = true := by cases iw with | true => rfl | false => exact absurd ⟨hc, rfl⟩ hA
        have HI2 := Lib.hid (fun W => HI.out W true hiw)
        clear HI hcn hA hiw hk
        go_enter Tryz.func79, Tryz.ntmps79
        go_wp2_with (go_at_call 98; refine HR.out.mono ?_; rintro e w1 ⟨rfl, hB1⟩)
        go_wp2_with (go_at_call 99; refine (HC.out _).mono ?_; rintro e w' ⟨rfl, rfl⟩)
        go_wp2_with (first | (go_at_call 97; with_reducible refine (HP.out _).mono ?_; rintro e w' ⟨rfl, rfl⟩) | (go_at_call 97; with_reducible refine (HP2.out _).mono ?_; rintro e w' ⟨rfl, rfl⟩))
        go_wp2_with (go_at_call 99; refine (HC2.out _).mono ?_; rintro e w' ⟨rfl, rfl⟩)
        go_wp2_with (go_at_call 102; refine (HI2.out _).mono ?_; rintro e w' ⟨rfl, rfl⟩)
        exact ⟨rfl, rfl, below_next HB.out hB1⟩
      · have d0 : decide ((0 : Int) < (c : Int)) = false := by simp; omega
        clear HI hcn hA hk
        go_enter Tryz.func79, Tryz.ntmps79
        go_wp2_with (go_at_call 98; refine HR.out.mono ?_; rintro e w1 ⟨rfl, hB1⟩)
        go_wp2_with (go_at_call 99; refine (HC.out _).mono ?_; rintro e w' ⟨rfl, rfl⟩)
        go_wp2_with (first | (go_at_call 97; with_reducible refine (HP.out _).mono ?_; rintro e w' ⟨rfl, rfl⟩) | (go_at_call 97; with_reducible refine (HP2.out _).mono ?_; rintro e w' ⟨rfl, rfl⟩))
        go_wp2_with (go_at_call 99; refine (HC2.out _).mono ?_; rintro e w' ⟨rfl, rfl⟩)
        go_wp2_with fail
        exact ⟨rfl, rfl, below_next HB.out hB1⟩
    · rw [if_neg (fun h => h.elim hA hk)]
      have d1 : decide ((64 : Int) < (n : Int) - (c : Int) - 1) = false := by simp; omega
      have HX : Hid (tookE (.got (symT 7 ((bs r).take n)) n) = .returned (.tuple #[.agg (symC 7 (r.extract 0 n) 0 ⟨#[]⟩ ⟨#[]⟩ 0), .int .i64 (n : Nat)])) := Lib.hid (by
        unfold tookE symV symA symT
        simp only [str_of HF.out]
        rfl)
      rw [HX.out]
      by_cases hc : 0 < c
      · have d0 : decide ((0 : Int) < (c : Int)) = true := by simpa using hc
        have hiw : iw = true := by cases iw with | true => rfl | false => exact absurd ⟨hc, rfl⟩ hA
        have HI2 := Lib.hid (fun W => HI.out W true hiw)
        clear HI hcn hA hiw hk HX HF
        go_enter Tryz.func79, Tryz.ntmps79
        go_wp2_with (go_at_call 98; refine HR.out.mono ?_; rintro e w1 ⟨rfl, hB1⟩)
        have HB1 := Lib.hid (below_next HB.out hB1)
        have HZ1 := Lib.hid (HZ.out.kept hB1)
        clear hB1
        have k0 := HZ1.out.cell (j := 0) rfl
        have k1 := HZ1.out.cell (j := 1) rfl
        have k2 := HZ1.out.cell (j := 2) rfl
        have k3 := HZ1.out.cell (j := 3) rfl
        have k4 := HZ1.out.cell (j := 4) rfl
        have k5 := HZ1.out.cell (j := 5) rfl
        have kf : ∀ j, w1.frozen? ⟨w.heap.size, j, none⟩ = false := fun j => HZ1.out.free j
        go_wp2_with (go_at_call 99; refine (HC.out _).mono ?_; rintro e w' ⟨rfl, rfl⟩)
        go_wp2_with (first | (go_at_call 97; with_reducible refine (HP.out _).mono ?_; rintro e w' ⟨rfl, rfl⟩) | (go_at_call 97; with_reducible refine (HP2.out _).mono ?_; rintro e w' ⟨rfl, rfl⟩))
        go_wp2_with (go_at_call 99; refine (HC2.out _).mono ?_; rintro e w' ⟨rfl, rfl⟩)
        go_wp2_with (go_at_call 102; refine (HI2.out _).mono ?_; rintro e w' ⟨rfl, rfl⟩)
        refine bodyPost_ret (results_lex rfl _ _ _ w.heap.size 43 _ (0, 0) _ rfl (HZ1.out.set6 _ _ _ _ _ _) Tryz.underlying43 (by kernel_rfl)) rfl ⟨rfl, below_set6 HB1.out (Nat.le_refl _) _ _ _ _ _ _⟩
      · have d0 : decide ((0 : Int) < (c : Int)) = false := by simp; omega
        clear HI hcn hA hk HX HF
        go_enter Tryz.func79, Tryz.ntmps79
        go_wp2_with (go_at_call 98; refine HR.out.mono ?_; rintro e w1 ⟨rfl, hB1⟩)
        have HB1 := Lib.hid (below_next HB.out hB1)
        have HZ1 := Lib.hid (HZ.out.kept hB1)
        clear hB1
        have k0 := HZ1.out.cell (j := 0) rfl
        have k1 := HZ1.out.cell (j := 1) rfl
        have k2 := HZ1.out.cell (j := 2) rfl
        have k3 := HZ1.out.cell (j := 3) rfl
        have k4 := HZ1.out.cell (j := 4) rfl
        have k5 := HZ1.out.cell (j := 5) rfl
        have kf : ∀ j, w1.frozen? ⟨w.heap.size, j, none⟩ = false := fun j => HZ1.out.free j
        go_wp2_with (go_at_call 99; refine (HC.out _).mono ?_; rintro e w' ⟨rfl, rfl⟩)
        go_wp2_with (first | (go_at_call 97; with_reducible refine (HP.out _).mono ?_; rintro e w' ⟨rfl, rfl⟩) | (go_at_call 97; with_reducible refine (HP2.out _).mono ?_; rintro e w' ⟨rfl, rfl⟩))
        go_wp2_with (go_at_call 99; refine (HC2.out _).mono ?_; rintro e w' ⟨rfl, rfl⟩)
        go_wp2_with fail
        refine bodyPost_ret (results_lex rfl _ _ _ w.heap.size 43 _ (0, 0) _ rfl (HZ1.out.set6 _ _ _ _ _ _) Tryz.underlying43 (by kernel_rfl)) rfl ⟨rfl, below_set6 HB1.out (Nat.le_refl _) _ _ _ _ _ _⟩

theorem name_any (rp : Nat) (s : ByteArray) (a : Nat) (w : World) (h : RdAt w rp s a) :
    Calls Tryz.prog 79 #[.pointer (some ⟨rp, 0, none⟩)] w fun e w' => e = tookE (nameT ((bs s).drop a)) ∧ Below w.heap.size w w' := by
  cases hc : colonB (((bs s).drop a).drop (spanL letterDigit ((bs s).drop a))) with
  | true => exact name_yes rp s a w h hc
  | false => exact name_no rp s a w h hc
end Go.Proofs.YtachijkjcbajmaaGreatDoor
