/-
  WHAT THE PROOF STANDS ON, a part of it: UtfRunesRef.
-/
import Derived.Test.YtbcoklbfebmpoaaGreatDoorV5
import Derived.Test.YtbcoklbfebmpoaaGreatDoorV11
import Derived.Deep.RegionWith
import Derived.Lib.Strings


/-
  CONTRACTS OF THE REFERENCE's Put AND Get.
-/
namespace Go.Proofs.YtbcoklbfebmpoaaGreatDoor
open Go.RowKit
open Utf

theorem may_any (r : Int) (w : World) : Calls Tryz.prog 69 #[.int .i64 r] w fun e w' => e = .returned (.bool (decide (May r))) ∧ w = w' := by
  go_enter Tryz.func69, Tryz.ntmps69
  go_wp2
  all_goals
    go_ret
    refine ⟨ret_bool ?_, rfl⟩
    have hm : decide (May r) = true ↔ (0 ≤ r ∧ r ≤ 1114111 ∧ (r < 55296 ∨ 57343 < r)) := by rw [decide_eq_true_eq]; exact Iff.rfl
    rw [Bool.eq_iff_iff, hm]
    first | (simp only [true_iff]; omega) | (simp only [Bool.false_eq_true, false_iff]; omega) | (simp only [decide_eq_true_eq]; omega)

/-- The reference's Put: a new block with the rune's bytes. -/
def RefPut (w : World) (r : Int) (e : Ending) (w' : World) : Prop :=
  e = .returned (.slice (some ⟨w.heap.size, 0, none⟩) (rsize r) (rsize r)) ∧ w' = w.alloc (.cells ((enc r).map (Value.int .u8)).toArray 5)

theorem refput_of {w : World} {r : Int} {k : Nat} {cs : Array Value} (hk : rsize r = k) (hc : (enc r).map (Value.int .u8) = cs.toList) : RefPut w r (.returned (.slice (some ⟨w.heap.size, 0, none⟩) k k)) (w.alloc (.cells cs 5)) := by
  unfold RefPut; rw [hk, hc]; exact ⟨rfl, rfl⟩

set_option maxRecDepth 100000 in
set_option maxHeartbeats 400000 in
theorem refput_any (r : Int) (w : World) (h : May r) : Calls Tryz.prog 70 #[.int .i64 r] w (RefPut w r) := by
  have hr := rsize_eq (r := r)
  unfold May at h
  have HR := Lib.hid hr
  clear hr
  by_cases h1 : r ≤ 127
  · have h0 : 0 ≤ r := h.1
    clear h
    go_enter Tryz.func70, Tryz.ntmps70
    go_wp2
    go_ret
    exact refput_of (HR.out.1.2 ⟨h0, h1⟩) (by unfold enc; rw [if_pos h1]; rfl)
  by_cases h2 : r ≤ 2047
  · have h0 : 128 ≤ r := by omega
    clear h h1
    go_enter Tryz.func70, Tryz.ntmps70
    go_wp2
    go_ret
    exact refput_of (HR.out.2.1.2 ⟨h0, h2⟩) (by unfold enc; rw [if_neg (by omega), if_pos h2]; rfl)
  by_cases h3 : r ≤ 65535
  · have h0 : 2048 ≤ r := by omega
    have HG := Lib.hid h.2.2
    clear h h1 h2
    go_enter Tryz.func70, Tryz.ntmps70
    go_wp2
    go_ret
    exact refput_of (HR.out.2.2.1.2 ⟨h0, h3, HG.out⟩) (by unfold enc; rw [if_neg (by omega), if_neg (by omega), if_pos h3]; rfl)
  · have h0 : 65536 ≤ r := by omega
    have h4 : r ≤ 1114111 := h.2.1
    clear h h1 h2 h3
    go_enter Tryz.func70, Tryz.ntmps70
    go_wp2
    go_ret
    exact refput_of (HR.out.2.2.2.2 ⟨h0, h4⟩) (by unfold enc; rw [if_neg (by omega), if_neg (by omega), if_neg (by omega)]; rfl)
theorem may_yes (r : Int) (w : World) (h : May r) : Calls Tryz.prog 69 #[.int .i64 r] w fun e w' => e = .returned (.bool true) ∧ w = w' :=
  (may_any r w).mono fun e w' ⟨he, hw⟩ => ⟨by rw [he, decide_eq_true h], hw⟩
theorem may_no (r : Int) (w : World) (h : ¬ May r) : Calls Tryz.prog 69 #[.int .i64 r] w fun e w' => e = .returned (.bool false) ∧ w = w' :=
  (may_any r w).mono fun e w' ⟨he, hw⟩ => ⟨by rw [he, decide_eq_false h], hw⟩

theorem may_no' (r : Int) (w : World) (h : ¬ May r) : Calls Tryz.prog 69 #[.int .i64 r] w fun e w' => e = .returned (.bool false) ∧ w' = w :=
  (may_no r w h).mono fun _ _ ⟨he, hw⟩ => ⟨he, hw.symm⟩

theorem cells_enc (w : World) (l : List Int) (t : TypeId) : ∀ i, i < l.length → (w.alloc (.cells (List.map (Value.int .u8) l).toArray t)).cell? ⟨w.heap.size, 0 + i, none⟩ = some (.int .u8 (l.getD i 0)) := by
  intro i hi
  rw [World.cell?_alloc_at _ _ _ _ rfl]
  simp [hi]

theorem run_convert_enc (r : Int) (h : May r) (w : World) (g c : Nat) (hg : g = w.heap.size) :
    (convert 105 9 (.slice (some ⟨g, 0, none⟩) (rsize r) c)).run Tryz.prog (w.alloc (.cells (List.map (Value.int .u8) (enc r)).toArray 5)).drew = .ok (.string (strOfNums (enc r))) (w.alloc (.cells (List.map (Value.int .u8) (enc r)).toArray 5)).drew := by
  subst hg
  exact run_convert_bytes_arg _ _ 5 Tryz.underlying105 Tryz.underlying5 _ _ _ _ (enc r) (rsize_enc h).symm (by rw [rsize_enc h]; exact cells_enc _ _ _) _ Tryz.underlying9

/-! ### what the reference's test says -/
theorem enc_beq {r : Int} (h : May r) (s : ByteArray) (n : Nat) : ((strOfNums (enc r)).toList == (s.extract 0 n).toList) = decide (enc r = (bs s).take n) := by
  rw [str_beq, bs_strOfNums (enc_bytes h), bs_extract]
  simp

theorem dec_found {l : List Int} {r : Int} {n : Nat} (h : May r) (he : enc r = l.take n) (hn : n ≤ l.length) : dec l = (r, n) := by
  have e : dec (enc r ++ l.drop n) = (r, rsize r) := dec_enc h _
  rw [he, List.take_append_drop] at e
  rw [e, rsize_enc h, he, List.length_take]
  simp; omega

theorem refget_fin {l : List Int} {n : Nat} {r : Int} (h : dec l = (r, n)) : (Ending.returned (.tuple #[.int .i64 r, .int .i64 (n : Nat)])) = .returned (.tuple #[.int .i64 (dec l).1, .int .i64 ((dec l).2 : Nat)]) := by rw [h]

/-- If n bytes are read, the rune is what the reference reckons of them. -/
theorem miss_of {l : List Int} {n : Nat} {R : Int} (hR : ∀ r, Reads l r n → r = R) (hn : n ≠ 0) (h : ¬ (May R ∧ enc R = l.take n)) : (dec l).2 ≠ n := by
  intro e
  have hd : dec l = ((dec l).1, n) := by rw [← e]
  have hr := dec_reads hd hn
  have := hR _ hr
  obtain ⟨a, b, c⟩ := reads_enc hr
  rw [this] at a b c
  exact h ⟨a, by rw [List.prefix_iff_eq_take.1 c, b, rsize_enc a]⟩

theorem reads_get {l : List Int} {r : Int} {n : Nat} (h : Reads l r n) : 
    (n = 1 → r = l.getD 0 0 ∧ 0 ≤ l.getD 0 0 ∧ l.getD 0 0 ≤ 127) ∧
    (n = 2 → r = 64 * (l.getD 0 0 % 32) + l.getD 1 0 % 64) ∧
    (n = 3 → r = 64 * (64 * (l.getD 0 0 % 16) + l.getD 1 0 % 64) + l.getD 2 0 % 64) ∧
    (n = 4 → r = 64 * (64 * (64 * (l.getD 0 0 % 8) + l.getD 1 0 % 64) + l.getD 2 0 % 64) + l.getD 3 0 % 64) := by
  have s1 := rsize_eq (r := r)
  cases h
  all_goals (refine ⟨fun e => ?_, fun e => ?_, fun e => ?_, fun e => ?_⟩)
  all_goals first | omega | (simp; omega)

/-- What holds when k lengths have been tried. -/
def Tried (s : ByteArray) (k : Nat) : Prop := (dec (bs s)).2 = 0 ∨ k < (dec (bs s)).2
theorem Tried.next {s : ByteArray} {k : Nat} (h : Tried s k) (hn : (dec (bs s)).2 ≠ k + 1) : Tried s (k + 1) := by unfold Tried at *; omega

set_option maxRecDepth 100000 in
set_option maxHeartbeats 4000000 in
theorem refget_any (s : ByteArray) (w : World) (hs : s.size ≤ 40000) :
    Calls Tryz.prog 35 #[.string s] w fun e w' => e = .returned (.tuple #[.int .i64 (dec (bs s)).1, .int .i64 ((dec (bs s)).2 : Nat)]) ∧ Below w.heap.size w w' := by
  go_enter Tryz.func35, Tryz.ntmps35
  go_wp2_with fail
  go_loopw [4] (fun n wr => ∃ k : Nat, k ≤ 4 ∧ k ≤ s.size ∧ n = .int .i64 ((k + 1 : Nat) : Int) ∧ Tried s k ∧ Below w.heap.size w wr) (fun n _ => 5 - (intOf n).toNat)
  case atStart => exact ⟨0, by omega, by omega, by simp, by unfold Tried; omega, Below.refl _ _⟩
  case round =>
    obtain ⟨k, hk, hks, rfl, HD, hB⟩ := hrel
    by_cases hin : k < 4 ∧ k < s.size
    · obtain ⟨hk4, hks4⟩ := hin
      match k, hk4, hks4 with
      | 0, _, hks4 =>
        clear hk hks
        have b0 : (s[0].toNat : Int) ≤ 255 := (byte_bd _).2
        go_wp2_with fail
        refine wp_loop_rounds 2 ?_
        rw [rounds_succ]
        go_wp2_with fail
        rw [rounds_succ]
        go_wp2_with fail
        generalize hR : (s[0].toNat : Int) = R at *
        have HM : Hid (∀ r, Reads (bs s) r 1 → r = R) := by
          intro r hr
          have := (reads_get hr).1 rfl
          simp only [bs_getD s 0 (by omega)] at this
          omega
        clear hR b0
        by_cases hm : May R
        · have HY := Lib.hid (may_yes R)
          have HP := Lib.hid (refput_any R)
          have hconv := run_convert_enc R hm
          have hE := enc_beq hm s 1
          by_cases he : enc R = (bs s).take 1
          · have HF := Lib.hid (dec_found hm he (by rw [bs_length]; omega))
            rw [decide_eq_true he] at hE
            clear he
            go_region_with (first | (go_at_call 69; refine (HY.out _ hm).mono ?_; rintro e w' ⟨rfl, rfl⟩) | (go_at_call 70; refine (HP.out _ hm).mono ?_; rintro e w' ⟨rfl, rfl⟩))
            go_wp2_with fail
            go_ret2
            exact ⟨refget_fin HF.out, hB.trans (((Below.refl _ _).alloc hB.size _).drew)⟩
          · have HF := Lib.hid (HD.next (miss_of HM.out (by decide) (fun x => he x.2)))
            rw [decide_eq_false he] at hE
            clear he
            go_region_with (first | (go_at_call 69; refine (HY.out _ hm).mono ?_; rintro e w' ⟨rfl, rfl⟩) | (go_at_call 70; refine (HP.out _ hm).mono ?_; rintro e w' ⟨rfl, rfl⟩))
            go_wp2_with fail
            go_roundw
            case rel => exact ⟨1, by omega, by omega, by simp, HF.out, hB.trans (((Below.refl _ _).alloc hB.size _).drew)⟩
            case measure => simp [intOf]
        · have HY := Lib.hid (may_no' R)
          have HF := Lib.hid (HD.next (miss_of HM.out (by decide) (fun x => hm x.1)))
          go_quiet ((go_at_call 69; exact Calls.quiet_of_same (HY.out _ hm)))
          go_wp2_with fail
          go_roundw
          case rel => exact ⟨1, by omega, by omega, by simp, HF.out, hB.trans (below_drewN _ _ _)⟩
          case measure => simp [intOf]
      | 1, _, hks4 =>
        clear hk hks
        have b0 : (s[0].toNat : Int) ≤ 255 := (byte_bd _).2
        have b1 : (s[1].toNat : Int) ≤ 255 := (byte_bd _).2
        go_wp2_with fail
        refine wp_loop_rounds 3 ?_
        rw [rounds_succ]
        go_wp2_with fail
        rw [rounds_succ]
        go_wp2_with fail
        rw [rounds_succ]
        go_wp2_with fail
        generalize hR : 64 * ((s[0].toNat : Int) % 32) + (s[1].toNat : Int) % 64 = R at *
        have HM : Hid (∀ r, Reads (bs s) r 2 → r = R) := by
          intro r hr
          have := (reads_get hr).2.1 rfl
          simp only [bs_getD s 0 (by omega), bs_getD s 1 (by omega)] at this
          omega
        clear hR b0 b1
        by_cases hm : May R
        · have HY := Lib.hid (may_yes R)
          have HP := Lib.hid (refput_any R)
          have hconv := run_convert_enc R hm
          have hE := enc_beq hm s 2
          by_cases he : enc R = (bs s).take 2
          · have HF := Lib.hid (dec_found hm he (by rw [bs_length]; omega))
            rw [decide_eq_true he] at hE
            clear he
            go_region_with (first | (go_at_call 69; refine (HY.out _ hm).mono ?_; rintro e w' ⟨rfl, rfl⟩) | (go_at_call 70; refine (HP.out _ hm).mono ?_; rintro e w' ⟨rfl, rfl⟩))
            go_wp2_with fail
            go_ret2
            exact ⟨refget_fin HF.out, hB.trans ((((Below.refl _ _).alloc hB.size _).alloc (by have := hB.size; simp; omega) _).drew)⟩
          · have HF := Lib.hid (HD.next (miss_of HM.out (by decide) (fun x => he x.2)))
            rw [decide_eq_false he] at hE
            clear he
            go_region_with (first | (go_at_call 69; refine (HY.out _ hm).mono ?_; rintro e w' ⟨rfl, rfl⟩) | (go_at_call 70; refine (HP.out _ hm).mono ?_; rintro e w' ⟨rfl, rfl⟩))
            go_wp2_with fail
            go_roundw
            case rel => exact ⟨2, by omega, by omega, by simp, HF.out, hB.trans ((((Below.refl _ _).alloc hB.size _).alloc (by have := hB.size; simp; omega) _).drew)⟩
            case measure => simp [intOf]
        · have HY := Lib.hid (may_no' R)
          have HF := Lib.hid (HD.next (miss_of HM.out (by decide) (fun x => hm x.1)))
          go_quiet ((go_at_call 69; exact Calls.quiet_of_same (HY.out _ hm)))
          go_wp2_with fail
          go_roundw
          case rel => exact ⟨2, by omega, by omega, by simp, HF.out, hB.trans ((((Below.refl _ _).alloc hB.size _)).trans (below_drewN _ _ _))⟩
          case measure => simp [intOf]
      | 2, _, hks4 =>
        clear hk hks
        have b0 : (s[0].toNat : Int) ≤ 255 := (byte_bd _).2
        have b1 : (s[1].toNat : Int) ≤ 255 := (byte_bd _).2
        have b2 : (s[2].toNat : Int) ≤ 255 := (byte_bd _).2
        go_wp2_with fail
        refine wp_loop_rounds 4 ?_
        rw [rounds_succ]
        go_wp2_with fail
        rw [rounds_succ]
        go_wp2_with fail
        rw [rounds_succ]
        go_wp2_with fail
        rw [rounds_succ]
        go_wp2_with fail
        generalize hR : 64 * (64 * ((s[0].toNat : Int) % 16) + (s[1].toNat : Int) % 64) + (s[2].toNat : Int) % 64 = R at *
        have HM : Hid (∀ r, Reads (bs s) r 3 → r = R) := by
          intro r hr
          have := (reads_get hr).2.2.1 rfl
          simp only [bs_getD s 0 (by omega), bs_getD s 1 (by omega), bs_getD s 2 (by omega)] at this
          omega
        clear hR b0 b1 b2
        by_cases hm : May R
        · have HY := Lib.hid (may_yes R)
          have HP := Lib.hid (refput_any R)
          have hconv := run_convert_enc R hm
          have hE := enc_beq hm s 3
          by_cases he : enc R = (bs s).take 3
          · have HF := Lib.hid (dec_found hm he (by rw [bs_length]; omega))
            rw [decide_eq_true he] at hE
            clear he
            go_region_with (first | (go_at_call 69; refine (HY.out _ hm).mono ?_; rintro e w' ⟨rfl, rfl⟩) | (go_at_call 70; refine (HP.out _ hm).mono ?_; rintro e w' ⟨rfl, rfl⟩))
            go_wp2_with fail
            go_ret2
            exact ⟨refget_fin HF.out, hB.trans ((((Below.refl _ _).alloc hB.size _).alloc (by have := hB.size; simp; omega) _).drew)⟩
          · have HF := Lib.hid (HD.next (miss_of HM.out (by decide) (fun x => he x.2)))
            rw [decide_eq_false he] at hE
            clear he
            go_region_with (first | (go_at_call 69; refine (HY.out _ hm).mono ?_; rintro e w' ⟨rfl, rfl⟩) | (go_at_call 70; refine (HP.out _ hm).mono ?_; rintro e w' ⟨rfl, rfl⟩))
            go_wp2_with fail
            go_roundw
            case rel => exact ⟨3, by omega, by omega, by simp, HF.out, hB.trans ((((Below.refl _ _).alloc hB.size _).alloc (by have := hB.size; simp; omega) _).drew)⟩
            case measure => simp [intOf]
        · have HY := Lib.hid (may_no' R)
          have HF := Lib.hid (HD.next (miss_of HM.out (by decide) (fun x => hm x.1)))
          go_quiet ((go_at_call 69; exact Calls.quiet_of_same (HY.out _ hm)))
          go_wp2_with fail
          go_roundw
          case rel => exact ⟨3, by omega, by omega, by simp, HF.out, hB.trans ((((Below.refl _ _).alloc hB.size _)).trans (below_drewN _ _ _))⟩
          case measure => simp [intOf]
      | 3, _, hks4 =>
        clear hk hks
        have b0 : (s[0].toNat : Int) ≤ 255 := (byte_bd _).2
        have b1 : (s[1].toNat : Int) ≤ 255 := (byte_bd _).2
        have b2 : (s[2].toNat : Int) ≤ 255 := (byte_bd _).2
        have b3 : (s[3].toNat : Int) ≤ 255 := (byte_bd _).2
        go_wp2_with fail
        refine wp_loop_rounds 5 ?_
        rw [rounds_succ]
        go_wp2_with fail
        rw [rounds_succ]
        go_wp2_with fail
        rw [rounds_succ]
        go_wp2_with fail
        rw [rounds_succ]
        go_wp2_with fail
        rw [rounds_succ]
        go_wp2_with fail
        generalize hR : 64 * (64 * (64 * ((s[0].toNat : Int) % 8) + (s[1].toNat : Int) % 64) + (s[2].toNat : Int) % 64) + (s[3].toNat : Int) % 64 = R at *
        have HM : Hid (∀ r, Reads (bs s) r 4 → r = R) := by
          intro r hr
          have := (reads_get hr).2.2.2 rfl
          simp only [bs_getD s 0 (by omega), bs_getD s 1 (by omega), bs_getD s 2 (by omega), bs_getD s 3 (by omega)] at this
          omega
        clear hR b0 b1 b2 b3
        by_cases hm : May R
        · have HY := Lib.hid (may_yes R)
          have HP := Lib.hid (refput_any R)
          have hconv := run_convert_enc R hm
          have hE := enc_beq hm s 4
          by_cases he : enc R = (bs s).take 4
          · have HF := Lib.hid (dec_found hm he (by rw [bs_length]; omega))
            rw [decide_eq_true he] at hE
            clear he
            go_region_with (first | (go_at_call 69; refine (HY.out _ hm).mono ?_; rintro e w' ⟨rfl, rfl⟩) | (go_at_call 70; refine (HP.out _ hm).mono ?_; rintro e w' ⟨rfl, rfl⟩))
            go_wp2_with fail
            go_ret2
            exact ⟨refget_fin HF.out, hB.trans ((((Below.refl _ _).alloc hB.size _).alloc (by have := hB.size; simp; omega) _).drew)⟩
          · have HF := Lib.hid (HD.next (miss_of HM.out (by decide) (fun x => he x.2)))
            rw [decide_eq_false he] at hE
            clear he
            go_region_with (first | (go_at_call 69; refine (HY.out _ hm).mono ?_; rintro e w' ⟨rfl, rfl⟩) | (go_at_call 70; refine (HP.out _ hm).mono ?_; rintro e w' ⟨rfl, rfl⟩))
            go_wp2_with fail
            go_roundw
            case rel => exact ⟨4, by omega, by omega, by simp, HF.out, hB.trans ((((Below.refl _ _).alloc hB.size _).alloc (by have := hB.size; simp; omega) _).drew)⟩
            case measure => simp [intOf]
        · have HY := Lib.hid (may_no' R)
          have HF := Lib.hid (HD.next (miss_of HM.out (by decide) (fun x => hm x.1)))
          go_quiet ((go_at_call 69; exact Calls.quiet_of_same (HY.out _ hm)))
          go_wp2_with fail
          go_roundw
          case rel => exact ⟨4, by omega, by omega, by simp, HF.out, hB.trans ((((Below.refl _ _).alloc hB.size _)).trans (below_drewN _ _ _))⟩
          case measure => simp [intOf]
    · have HZ := Lib.hid (dec_zero (l := bs s) (by
        have h1 := dec_le (bs s)
        rw [bs_length] at h1
        unfold Tried at HD
        omega))
      by_cases hk4 : k = 4
      · subst hk4
        clear hin
        go_wp2_with fail
        go_ret2
        exact ⟨refget_fin HZ.out, hB⟩
      · have hk5 : k < 4 := by omega
        have hk6 : s.size < k + 1 := by omega
        clear hin hk4
        go_wp2_with fail
        all_goals
          go_ret2
          exact ⟨refget_fin HZ.out, hB⟩
end Go.Proofs.YtbcoklbfebmpoaaGreatDoor

/-
  THE CONTRACT OF THE REFERENCE's Runes.
-/
namespace Go.Proofs.YtbcoklbfebmpoaaGreatDoor
open Go.RowKit
open Utf

theorem info_rune : (Tryz.prog.info? 90).map (fun i => (i.zero, i.size, i.bytes)) = some (some (.agg #[.int .i64 0, .int .i64 0]), 2, 16) := by kernel_rfl

namespace Utf
theorem dec_window (l : List Int) : dec (l.take 4) = dec l := by
  by_cases h : (dec l).2 = 0
  · rw [dec_zero h]
    apply dec_zero
    rw [dec_none] at h ⊢
    intro r hr hp
    exact h r hr (hp.trans (List.take_prefix _ _))
  · obtain ⟨a, b, c⟩ := dec_some (r := (dec l).1) (n := (dec l).2) rfl h
    have h4 := (dec_le l).2
    obtain ⟨t, ht⟩ := c
    have e : l.take 4 = enc (dec l).1 ++ t.take (4 - (dec l).2) := by
      conv => lhs; rw [← ht]
      rw [List.take_append, List.take_of_length_le (by rw [← rsize_enc a]; omega), ← rsize_enc a, b]
    rw [e, dec_enc a, ← b]

/-- The cells of runes with their places. -/
def flat (l : List RuneAt) : List Value := l.flatMap fun x => [.int .i64 (x.1.1 : Int), .int .i64 x.1.2]
theorem flat_snoc (l : List RuneAt) (x : RuneAt) : flat (l ++ [x]) = flat l ++ [.int .i64 (x.1.1 : Int), .int .i64 x.1.2] := by simp [flat]
end Utf

theorem refget_eq (s : ByteArray) (w : World) (hs : s.size ≤ 40000) {r : Int} {n : Nat} (h : dec (bs s) = (r, n)) :
    Calls Tryz.prog 35 #[.string s] w fun e w' => e = .returned (.tuple #[.int .i64 r, .int .i64 (n : Nat)]) ∧ Below w.heap.size w w' :=
  (refget_any s w hs).mono fun e w' ⟨he, hw⟩ => ⟨by rw [he, h], hw⟩

theorem slice_four (s : ByteArray) (p : Nat) (h : p + 4 < s.size) (w : World) : (Instr.slice 9 (.string s) (some (.int .i64 (p : Int))) (some (.int .i64 ((p : Int) + 4))) none).run Tryz.prog w = .ok (.string (s.extract p (p + 4))) w := by
  rw [run_slice_string w 9 s .i64 .i64 (p : Int) ((p : Int) + 4) Tryz.underlying9 (by omega) (by omega) (by omega)]
  rw [show ((p : Int) + 4).toNat = p + 4 by omega, show (p : Int).toNat = p by omega]

theorem refrunes_kept {w w1 w2 : World} {e : TypeId} {k n : Nat} {v : Value} {xs : List Value} (h : w1.ownsRow w.heap.size e k v n xs) (hB : Below w1.heap.size w1 w2) : w2.ownsRow w.heap.size e k v n xs :=
  h.kept (row := none) ⟨hB.os, hB.tape, hB.output, hB.size, fun k hk _ => hB.block k hk⟩ (by cases hv : v.ownBlock <;> simp)

theorem pre2two (w : World) (a b : Value) (t : TypeId) : ∀ (j : Nat) (u : Value), [a, b][j]? = some u → (w.alloc (.cells #[a, b] t)).cell? ((⟨w.heap.size, 0, none⟩ : Addr).add j) = some u :=
  cells_new w #[a, b] t [a, b] (fun j u h => by simpa using h)

set_option maxRecDepth 100000 in
set_option maxHeartbeats 1000000 in
theorem refrunes_any (s : ByteArray) (w : World) (hs : s.size ≤ 40000) :
    Calls Tryz.prog 16 #[.string s] w fun e w' => ∃ v, e = .returned (.tuple #[v, .int .i64 (endR (allR (bs s)) : Nat)]) ∧
      w'.ownsRow w.heap.size 90 2 v (allR (bs s)).length (flat (allR (bs s))) ∧ Below w.heap.size w w' := by
  obtain ⟨i0, hi, hz0, hz1, hz2⟩ := info_parts info_rune
  go_enter Tryz.func16, Tryz.ntmps16
  go_wp2_with fail
  go_loopw [4, 5] (fun v i wr => ∃ (p : Nat) (pre : List RuneAt), p ≤ s.size ∧ i = .int .i64 p ∧ allR (bs s) = pre ++ tailR p ((bs s).drop p) ∧ p = endR pre ∧
    wr.ownsRow w.heap.size 90 2 v pre.length (flat pre) ∧ Below w.heap.size w wr ∧ pre.length ≤ p) (fun _ i _ => s.size - (intOf i).toNat)
  case atStart => exact ⟨0, [], by omega, rfl, rfl, rfl, World.ownsRow_nil _ _ _ _, Below.refl _ _, by simp⟩
  case round =>
    obtain ⟨p, pre, hp, rfl, hall, hend, hown, hB, hpl⟩ := hrel
    have HA := Lib.hid hall
    have HE := Lib.hid hend
    clear hall hend
    by_cases hlt : p < s.size
    · by_cases h4 : p + 4 < s.size
      · have hsl := slice_four s p h4
        have hwin : dec (bs (s.extract p (p + 4))) = dec ((bs s).drop p) := by
          rw [bs_extract]
          rw [show p + 4 - p = 4 by omega, dec_window]
        obtain ⟨r, n, hd⟩ : ∃ r n, dec ((bs s).drop p) = (r, n) := ⟨_, _, rfl⟩
        rw [hd] at hwin
        by_cases hn : n = 0
        · subst hn
          have hz := dec_zero (by rw [hd])
          have HW := Lib.hid (fun w => refget_eq (s.extract p (p + 4)) w (by simp; omega) (hwin.trans (hd.symm.trans hz)))
          have hall2 : allR (bs s) = pre := by
            rw [HA.out, tailR_stop, List.append_nil]
            · rw [List.length_drop, bs_length]; omega
            · rw [hz]
          have HA2 := Lib.hid hall2
          clear hall2 hz hd hwin
          go_wp2_with (go_at_call 35; refine (HW.out _).mono ?_; rintro e w' ⟨rfl, hB2⟩)
          go_ret2
          exact ⟨u4, by rw [HA2.out, ← HE.out]; rfl, by rw [HA2.out]; exact refrunes_kept hown hB2, hB.trans (hB2.mono hB.size)⟩
        · have HW := Lib.hid (fun w => refget_eq (s.extract p (p + 4)) w (by simp; omega) hwin)
          have hle := (dec_le ((bs s).drop p)).1
          rw [hd, List.length_drop, bs_length] at hle
          dsimp only at hle
          obtain ⟨x, hx1, hx2⟩ := tailR_step (p := p) (l := (bs s).drop p) (by rw [List.length_drop, bs_length]; omega) (by rw [hd]; exact hn)
          obtain ⟨hmay, hsz, _⟩ := dec_some hd hn
          rw [hd] at hx1 hx2
          dsimp only at hx1 hx2
          rw [List.drop_drop] at hx2
          have HX := Lib.hid hx1
          have HX2 := Lib.hid hx2
          have HZ := Lib.hid hsz
          have hn1 : 1 ≤ n := by omega
          have hb0 : ((n : Int) == 0) = false := by simp; omega
          clear hx1 hx2 hmay hsz hd hwin hn
          go_wp2_with (first | (go_at_call 35; refine (HW.out _).mono ?_; rintro e w' ⟨rfl, hB2⟩) | (at_builtin; refine wpList_append_own _ rfl _ _ 58 rfl w.heap.size 90 i0 (.agg #[.int .i64 0, .int .i64 0]) 2 16 Tryz.underlying58 hi hz0 hz1 hz2 rfl (by decide) _ _ _ rfl ((refrunes_kept hown hB2).alloc _) ⟨w'.heap.size, 0, none⟩ 1 1 [.int .i64 (p : Int), .int .i64 r] rfl rfl (pre2two _ _ _ _) (by simp [Value.oneCell']) (by unfold maxLen; omega) (by omega) (by have := hB.size; have := hB2.size; simp; omega) ?_; intro v' w3 hown' hgrow' _))
          have hB3 : Below w.heap.size w w3 := (hB.trans (hB2.mono hB.size)).trans (((Below.refl w.heap.size w').alloc (Nat.le_trans hB.size hB2.size) _).grown hgrow' (by have := hB.size; have := hB2.size; simp; omega) (fun k e => (hown.lt k e).1))
          go_roundw
          case rel =>
            refine ⟨p + n, pre ++ [x], by omega, by simp, by rw [HA.out, HX2.out]; simp, by rw [endR_snoc, HX.out, HZ.out], ?_, hB3, by simp; omega⟩
            rw [flat_snoc, HX.out, List.length_append]
            exact hown'
          case measure => simp [intOf]; omega
      · have h5 : s.size ≤ p + 4 := by omega
        clear h4
        have hwin : dec (bs (s.extract p s.size)) = dec ((bs s).drop p) := by
          rw [bs_extract]
          rw [List.take_of_length_le (by rw [List.length_drop, bs_length]; exact Nat.le_refl _)]
        obtain ⟨r, n, hd⟩ : ∃ r n, dec ((bs s).drop p) = (r, n) := ⟨_, _, rfl⟩
        rw [hd] at hwin
        by_cases hn : n = 0
        · subst hn
          have hz := dec_zero (by rw [hd])
          have HW := Lib.hid (fun w => refget_eq (s.extract p s.size) w (by simp; omega) (hwin.trans (hd.symm.trans hz)))
          have hall2 : allR (bs s) = pre := by
            rw [HA.out, tailR_stop, List.append_nil]
            · rw [List.length_drop, bs_length]; omega
            · rw [hz]
          have HA2 := Lib.hid hall2
          clear hall2 hz hd hwin
          go_wp2_with (go_at_call 35; refine (HW.out _).mono ?_; rintro e w' ⟨rfl, hB2⟩)
          go_ret2
          exact ⟨u4, by rw [HA2.out, ← HE.out]; rfl, by rw [HA2.out]; exact refrunes_kept hown hB2, hB.trans (hB2.mono hB.size)⟩
        · have HW := Lib.hid (fun w => refget_eq (s.extract p s.size) w (by simp; omega) hwin)
          have hle := (dec_le ((bs s).drop p)).1
          rw [hd, List.length_drop, bs_length] at hle
          dsimp only at hle
          obtain ⟨x, hx1, hx2⟩ := tailR_step (p := p) (l := (bs s).drop p) (by rw [List.length_drop, bs_length]; omega) (by rw [hd]; exact hn)
          obtain ⟨hmay, hsz, _⟩ := dec_some hd hn
          rw [hd] at hx1 hx2
          dsimp only at hx1 hx2
          rw [List.drop_drop] at hx2
          have HX := Lib.hid hx1
          have HX2 := Lib.hid hx2
          have HZ := Lib.hid hsz
          have hn1 : 1 ≤ n := by omega
          have hb0 : ((n : Int) == 0) = false := by simp; omega
          clear hx1 hx2 hmay hsz hd hwin hn
          go_wp2_with (first | (go_at_call 35; refine (HW.out _).mono ?_; rintro e w' ⟨rfl, hB2⟩) | (at_builtin; refine wpList_append_own _ rfl _ _ 58 rfl w.heap.size 90 i0 (.agg #[.int .i64 0, .int .i64 0]) 2 16 Tryz.underlying58 hi hz0 hz1 hz2 rfl (by decide) _ _ _ rfl ((refrunes_kept hown hB2).alloc _) ⟨w'.heap.size, 0, none⟩ 1 1 [.int .i64 (p : Int), .int .i64 r] rfl rfl (pre2two _ _ _ _) (by simp [Value.oneCell']) (by unfold maxLen; omega) (by omega) (by have := hB.size; have := hB2.size; simp; omega) ?_; intro v' w3 hown' hgrow' _))
          have hB3 : Below w.heap.size w w3 := (hB.trans (hB2.mono hB.size)).trans (((Below.refl w.heap.size w').alloc (Nat.le_trans hB.size hB2.size) _).grown hgrow' (by have := hB.size; have := hB2.size; simp; omega) (fun k e => (hown.lt k e).1))
          go_roundw
          case rel =>
            refine ⟨p + n, pre ++ [x], by omega, by simp, by rw [HA.out, HX2.out]; simp, by rw [endR_snoc, HX.out, HZ.out], ?_, hB3, by simp; omega⟩
            rw [flat_snoc, HX.out, List.length_append]
            exact hown'
          case measure => simp [intOf]; omega
    · obtain rfl : p = s.size := by omega
      have hall2 : allR (bs s) = pre := by
        rw [HA.out, tailR_stop, List.append_nil]
        · rw [List.length_drop, bs_length]; omega
        · rw [List.drop_of_length_le (by rw [bs_length]; omega)]; rfl
      have HA2 := Lib.hid hall2
      clear hall2
      go_wp2_with fail
      go_ret2
      exact ⟨u4, by rw [HA2.out, ← HE.out]; rfl, by rw [HA2.out]; exact hown, hB⟩
end Go.Proofs.YtbcoklbfebmpoaaGreatDoor

