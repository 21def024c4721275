/-
  CONTRACTS OF THE REFERENCE's Put AND Get.
-/
import Derived.Test.YtdcfjopijblndaaDoorUtfOwn
import Derived.Deep.RegionWith
import Derived.Lib.Strings
namespace Go.Proofs.YtdcfjopijblndaaDoor
open Go.RowKit
open Utf

theorem may_any (r : Int) (w : World) : Calls Tryd.prog 97 #[.int .i64 r] w fun e w' => e = .returned (.bool (decide (May r))) ∧ w = w' := by
  go_enter Tryd.func97, Tryd.ntmps97
  go_wp2
  all_goals
    go_ret
    refine ⟨ret_bool ?_, rfl⟩
    have hm : decide (May r) = true ↔ (0 ≤ r ∧ r ≤ 1114111 ∧ (r < 55296 ∨ 57343 < r)) := by rw [decide_eq_true_eq]; exact Iff.rfl
    rw [Bool.eq_iff_iff, hm]
    first | (simp only [true_iff]; omega) | (simp only [Bool.false_eq_true, false_iff]; omega) | (simp only [decide_eq_true_eq]; omega)

/-- The reference's Put: a new block with the rune's bytes. -/
def RefPut (w : World) (r : Int) (e : Ending) (w' : World) : Prop :=
  e = .returned (.slice (some ⟨w.heap.size, 0, none⟩) (rsize r) (rsize r)) ∧ w' = w.alloc (.cells ((enc r).map (Value.int .u8)).toArray 5)

theorem refput_of {w : World} {r : Int} {k : Nat} {cs : Array Value} (hk : rsize r = k) (hc : (enc r).map (Value.int .u8) = cs.toList) : RefPut w r (.returned (.slice (some ⟨w.heap.size, 0, none⟩) k k)) (w.alloc (.cells cs 5)) := by
  unfold RefPut; rw [hk, hc]; exact ⟨rfl, rfl⟩

set_option maxRecDepth 100000 in
set_option maxHeartbeats 400000 in
theorem refput_any (r : Int) (w : World) (h : May r) : Calls Tryd.prog 98 #[.int .i64 r] w (RefPut w r) := by
  have hr := rsize_eq (r := r)
  unfold May at h
  have HR := Lib.hid hr
  clear hr
  by_cases h1 : r ≤ 127
  · have h0 : 0 ≤ r := h.1
    clear h
    go_enter Tryd.func98, Tryd.ntmps98
    go_wp2
    go_ret
    exact refput_of (HR.out.1.2 ⟨h0, h1⟩) (by unfold enc; rw [if_pos h1]; rfl)
  by_cases h2 : r ≤ 2047
  · have h0 : 128 ≤ r := by omega
    clear h h1
    go_enter Tryd.func98, Tryd.ntmps98
    go_wp2
    go_ret
    exact refput_of (HR.out.2.1.2 ⟨h0, h2⟩) (by unfold enc; rw [if_neg (by omega), if_pos h2]; rfl)
  by_cases h3 : r ≤ 65535
  · have h0 : 2048 ≤ r := by omega
    have HG := Lib.hid h.2.2
    clear h h1 h2
    go_enter Tryd.func98, Tryd.ntmps98
    go_wp2
    go_ret
    exact refput_of (HR.out.2.2.1.2 ⟨h0, h3, HG.out⟩) (by unfold enc; rw [if_neg (by omega), if_neg (by omega), if_pos h3]; rfl)
  · have h0 : 65536 ≤ r := by omega
    have h4 : r ≤ 1114111 := h.2.1
    clear h h1 h2 h3
    go_enter Tryd.func98, Tryd.ntmps98
    go_wp2
    go_ret
    exact refput_of (HR.out.2.2.2.2 ⟨h0, h4⟩) (by unfold enc; rw [if_neg (by omega), if_neg (by omega), if_neg (by omega)]; rfl)
theorem may_yes (r : Int) (w : World) (h : May r) : Calls Tryd.prog 97 #[.int .i64 r] w fun e w' => e = .returned (.bool true) ∧ w = w' :=
  (may_any r w).mono fun e w' ⟨he, hw⟩ => ⟨by rw [he, decide_eq_true h], hw⟩
theorem may_no (r : Int) (w : World) (h : ¬ May r) : Calls Tryd.prog 97 #[.int .i64 r] w fun e w' => e = .returned (.bool false) ∧ w = w' :=
  (may_any r w).mono fun e w' ⟨he, hw⟩ => ⟨by rw [he, decide_eq_false h], hw⟩

theorem may_no' (r : Int) (w : World) (h : ¬ May r) : Calls Tryd.prog 97 #[.int .i64 r] w fun e w' => e = .returned (.bool false) ∧ w' = w :=
  (may_no r w h).mono fun _ _ ⟨he, hw⟩ => ⟨he, hw.symm⟩

theorem cells_enc (w : World) (l : List Int) (t : TypeId) : ∀ i, i < l.length → (w.alloc (.cells (List.map (Value.int .u8) l).toArray t)).cell? ⟨w.heap.size, 0 + i, none⟩ = some (.int .u8 (l.getD i 0)) := by
  intro i hi
  rw [World.cell?_alloc_at _ _ _ _ rfl]
  simp [hi]

theorem run_convert_enc (r : Int) (h : May r) (w : World) (g c : Nat) (hg : g = w.heap.size) :
    (convert 50 9 (.slice (some ⟨g, 0, none⟩) (rsize r) c)).run Tryd.prog (w.alloc (.cells (List.map (Value.int .u8) (enc r)).toArray 5)).drew = .ok (.string (strOfNums (enc r))) (w.alloc (.cells (List.map (Value.int .u8) (enc r)).toArray 5)).drew := by
  subst hg
  exact run_convert_bytes_arg _ _ 5 Tryd.underlying50 Tryd.underlying5 _ _ _ _ (enc r) (rsize_enc h).symm (by rw [rsize_enc h]; exact cells_enc _ _ _) _ Tryd.underlying9

/-! ### what the reference's test says -/
theorem bs_extract (s : ByteArray) (a b : Nat) : bs (s.extract a b) = ((bs s).drop a).take (b - a) := by
  unfold bs
  rw [Lib.extract_data, List.map_take, List.map_drop]

theorem bs_inj {s t : ByteArray} (h : bs s = bs t) : s = t := by
  unfold bs at h
  have : s.data.toList = t.data.toList := by
    refine (List.map_inj_right ?_).1 h
    intro a b hab
    exact UInt8.toNat_inj.1 (by omega)
  apply ByteArray.ext
  exact Array.toList_inj.1 this

theorem bs_strOfNums {l : List Int} (hl : ∀ c ∈ l, IsByte c) : bs (strOfNums l) = l := by
  unfold bs
  rw [strOfNums_data, List.map_map]
  conv => rhs; rw [← List.map_id l]
  apply List.map_congr_left
  intro c hc
  have := hl c hc
  unfold IsByte at this
  simp
  omega

theorem toList_eq (s : ByteArray) : s.toList = s.data.toList := ByteArray.toList_eq s

/-- Two strings are compared as their bytes. -/
theorem str_beq (s t : ByteArray) : (s.toList == t.toList) = decide (bs s = bs t) := by
  rw [Bool.eq_iff_iff, beq_iff_eq, decide_eq_true_eq]
  constructor
  · intro h
    unfold bs
    rw [← toList_eq, ← toList_eq, h]
  · intro h; rw [bs_inj h]

theorem enc_beq {r : Int} (h : May r) (s : ByteArray) (n : Nat) : ((strOfNums (enc r)).toList == (s.extract 0 n).toList) = decide (enc r = (bs s).take n) := by
  rw [str_beq, bs_strOfNums (enc_bytes h), bs_extract]
  simp

theorem dec_found {l : List Int} {r : Int} {n : Nat} (h : May r) (he : enc r = l.take n) (hn : n ≤ l.length) : dec l = (r, n) := by
  have e : dec (enc r ++ l.drop n) = (r, rsize r) := dec_enc h _
  rw [he, List.take_append_drop] at e
  rw [e, rsize_enc h, he, List.length_take]
  simp; omega

theorem refget_fin {l : List Int} {n : Nat} {r : Int} (h : dec l = (r, n)) : (Ending.returned (.tuple #[.int .i64 r, .int .i64 (n : Nat)])) = .returned (.tuple #[.int .i64 (dec l).1, .int .i64 ((dec l).2 : Nat)]) := by rw [h]

/-- If n bytes are read, the rune is what the reference reckons of them. -/
theorem miss_of {l : List Int} {n : Nat} {R : Int} (hR : ∀ r, Reads l r n → r = R) (hn : n ≠ 0) (h : ¬ (May R ∧ enc R = l.take n)) : (dec l).2 ≠ n := by
  intro e
  have hd : dec l = ((dec l).1, n) := by rw [← e]
  have hr := dec_reads hd hn
  have := hR _ hr
  obtain ⟨a, b, c⟩ := reads_enc hr
  rw [this] at a b c
  exact h ⟨a, by rw [List.prefix_iff_eq_take.1 c, b, rsize_enc a]⟩

theorem reads_get {l : List Int} {r : Int} {n : Nat} (h : Reads l r n) : 
    (n = 1 → r = l.getD 0 0 ∧ 0 ≤ l.getD 0 0 ∧ l.getD 0 0 ≤ 127) ∧
    (n = 2 → r = 64 * (l.getD 0 0 % 32) + l.getD 1 0 % 64) ∧
    (n = 3 → r = 64 * (64 * (l.getD 0 0 % 16) + l.getD 1 0 % 64) + l.getD 2 0 % 64) ∧
    (n = 4 → r = 64 * (64 * (64 * (l.getD 0 0 % 8) + l.getD 1 0 % 64) + l.getD 2 0 % 64) + l.getD 3 0 % 64) := by
  have s1 := rsize_eq (r := r)
  cases h
  all_goals (refine ⟨fun e => ?_, fun e => ?_, fun e => ?_, fun e => ?_⟩)
  all_goals first | omega | (simp; omega)

theorem bs_getD (s : ByteArray) (k : Nat) (h : k < s.size) : (bs s).getD k 0 = (s[k].toNat : Int) := by
  rw [List.getD_eq_getElem?_getD, bs_get s k h]; rfl

theorem below_drewN (B : Nat) (w : World) (n : Nat) : Below B w (w.drewN n) := ⟨rfl, rfl, rfl, Nat.le_refl _, fun _ _ => rfl⟩

/-- What holds when k lengths have been tried. -/
def Tried (s : ByteArray) (k : Nat) : Prop := (dec (bs s)).2 = 0 ∨ k < (dec (bs s)).2
theorem Tried.next {s : ByteArray} {k : Nat} (h : Tried s k) (hn : (dec (bs s)).2 ≠ k + 1) : Tried s (k + 1) := by unfold Tried at *; omega

set_option maxRecDepth 100000 in
set_option maxHeartbeats 4000000 in
theorem refget_any (s : ByteArray) (w : World) (hs : s.size ≤ 9000) :
    Calls Tryd.prog 80 #[.string s] w fun e w' => e = .returned (.tuple #[.int .i64 (dec (bs s)).1, .int .i64 ((dec (bs s)).2 : Nat)]) ∧ Below w.heap.size w w' := by
  go_enter Tryd.func80, Tryd.ntmps80
  go_wp2_with fail
  go_loopw [4] (fun n wr => ∃ k : Nat, k ≤ 4 ∧ k ≤ s.size ∧ n = .int .i64 ((k + 1 : Nat) : Int) ∧ Tried s k ∧ Below w.heap.size w wr) (fun n _ => 5 - (intOf n).toNat)
  case atStart => exact ⟨0, by omega, by omega, by simp, by unfold Tried; omega, Below.refl _ _⟩
  case round =>
    obtain ⟨k, hk, hks, rfl, HD, hB⟩ := hrel
    by_cases hin : k < 4 ∧ k < s.size
    · obtain ⟨hk4, hks4⟩ := hin
      match k, hk4, hks4 with
      | 0, _, hks4 =>
        clear hk hks
        have b0 : (s[0].toNat : Int) ≤ 255 := (byte_bd _).2
        go_wp2_with fail
        refine wp_loop_rounds 2 ?_
        rw [rounds_succ]
        go_wp2_with fail
        rw [rounds_succ]
        go_wp2_with fail
        generalize hR : (s[0].toNat : Int) = R at *
        have HM : Hid (∀ r, Reads (bs s) r 1 → r = R) := by
          intro r hr
          have := (reads_get hr).1 rfl
          simp only [bs_getD s 0 (by omega)] at this
          omega
        clear hR b0
        by_cases hm : May R
        · have HY := Lib.hid (may_yes R)
          have HP := Lib.hid (refput_any R)
          have hconv := run_convert_enc R hm
          have hE := enc_beq hm s 1
          by_cases he : enc R = (bs s).take 1
          · have HF := Lib.hid (dec_found hm he (by rw [bs_length]; omega))
            rw [decide_eq_true he] at hE
            clear he
            go_region_with (first | (go_at_call 97; refine (HY.out _ hm).mono ?_; rintro e w' ⟨rfl, rfl⟩) | (go_at_call 98; refine (HP.out _ hm).mono ?_; rintro e w' ⟨rfl, rfl⟩))
            go_wp2_with fail
            go_ret2
            exact ⟨refget_fin HF.out, hB.trans (((Below.refl _ _).alloc hB.size _).drew)⟩
          · have HF := Lib.hid (HD.next (miss_of HM.out (by decide) (fun x => he x.2)))
            rw [decide_eq_false he] at hE
            clear he
            go_region_with (first | (go_at_call 97; refine (HY.out _ hm).mono ?_; rintro e w' ⟨rfl, rfl⟩) | (go_at_call 98; refine (HP.out _ hm).mono ?_; rintro e w' ⟨rfl, rfl⟩))
            go_wp2_with fail
            go_roundw
            case rel => exact ⟨1, by omega, by omega, by simp, HF.out, hB.trans (((Below.refl _ _).alloc hB.size _).drew)⟩
            case measure => simp [intOf]
        · have HY := Lib.hid (may_no' R)
          have HF := Lib.hid (HD.next (miss_of HM.out (by decide) (fun x => hm x.1)))
          go_quiet ((go_at_call 97; exact Calls.quiet_of_same (HY.out _ hm)))
          go_wp2_with fail
          go_roundw
          case rel => exact ⟨1, by omega, by omega, by simp, HF.out, hB.trans (below_drewN _ _ _)⟩
          case measure => simp [intOf]
      | 1, _, hks4 =>
        clear hk hks
        have b0 : (s[0].toNat : Int) ≤ 255 := (byte_bd _).2
        have b1 : (s[1].toNat : Int) ≤ 255 := (byte_bd _).2
        go_wp2_with fail
        refine wp_loop_rounds 3 ?_
        rw [rounds_succ]
        go_wp2_with fail
        rw [rounds_succ]
        go_wp2_with fail
        rw [rounds_succ]
        go_wp2_with fail
        generalize hR : 64 * ((s[0].toNat : Int) % 32) + (s[1].toNat : Int) % 64 = R at *
        have HM : Hid (∀ r, Reads (bs s) r 2 → r = R) := by
          intro r hr
          have := (reads_get hr).2.1 rfl
          simp only [bs_getD s 0 (by omega), bs_getD s 1 (by omega)] at this
          omega
        clear hR b0 b1
        by_cases hm : May R
        · have HY := Lib.hid (may_yes R)
          have HP := Lib.hid (refput_any R)
          have hconv := run_convert_enc R hm
          have hE := enc_beq hm s 2
          by_cases he : enc R = (bs s).take 2
          · have HF := Lib.hid (dec_found hm he (by rw [bs_length]; omega))
            rw [decide_eq_true he] at hE
            clear he
            go_region_with (first | (go_at_call 97; refine (HY.out _ hm).mono ?_; rintro e w' ⟨rfl, rfl⟩) | (go_at_call 98; refine (HP.out _ hm).mono ?_; rintro e w' ⟨rfl, rfl⟩))
            go_wp2_with fail
            go_ret2
            exact ⟨refget_fin HF.out, hB.trans ((((Below.refl _ _).alloc hB.size _).alloc (by have := hB.size; simp; omega) _).drew)⟩
          · have HF := Lib.hid (HD.next (miss_of HM.out (by decide) (fun x => he x.2)))
            rw [decide_eq_false he] at hE
            clear he
            go_region_with (first | (go_at_call 97; refine (HY.out _ hm).mono ?_; rintro e w' ⟨rfl, rfl⟩) | (go_at_call 98; refine (HP.out _ hm).mono ?_; rintro e w' ⟨rfl, rfl⟩))
            go_wp2_with fail
            go_roundw
            case rel => exact ⟨2, by omega, by omega, by simp, HF.out, hB.trans ((((Below.refl _ _).alloc hB.size _).alloc (by have := hB.size; simp; omega) _).drew)⟩
            case measure => simp [intOf]
        · have HY := Lib.hid (may_no' R)
          have HF := Lib.hid (HD.next (miss_of HM.out (by decide) (fun x => hm x.1)))
          go_quiet ((go_at_call 97; exact Calls.quiet_of_same (HY.out _ hm)))
          go_wp2_with fail
          go_roundw
          case rel => exact ⟨2, by omega, by omega, by simp, HF.out, hB.trans ((((Below.refl _ _).alloc hB.size _)).trans (below_drewN _ _ _))⟩
          case measure => simp [intOf]
      | 2, _, hks4 =>
        clear hk hks
        have b0 : (s[0].toNat : Int) ≤ 255 := (byte_bd _).2
        have b1 : (s[1].toNat : Int) ≤ 255 := (byte_bd _).2
        have b2 : (s[2].toNat : Int) ≤ 255 := (byte_bd _).2
        go_wp2_with fail
        refine wp_loop_rounds 4 ?_
        rw [rounds_succ]
        go_wp2_with fail
        rw [rounds_succ]
        go_wp2_with fail
        rw [rounds_succ]
        go_wp2_with fail
        rw [rounds_succ]
        go_wp2_with fail
        generalize hR : 64 * (64 * ((s[0].toNat : Int) % 16) + (s[1].toNat : Int) % 64) + (s[2].toNat : Int) % 64 = R at *
        have HM : Hid (∀ r, Reads (bs s) r 3 → r = R) := by
          intro r hr
          have := (reads_get hr).2.2.1 rfl
          simp only [bs_getD s 0 (by omega), bs_getD s 1 (by omega), bs_getD s 2 (by omega)] at this
          omega
        clear hR b0 b1 b2
        by_cases hm : May R
        · have HY := Lib.hid (may_yes R)
          have HP := Lib.hid (refput_any R)
          have hconv := run_convert_enc R hm
          have hE := enc_beq hm s 3
          by_cases he : enc R = (bs s).take 3
          · have HF := Lib.hid (dec_found hm he (by rw [bs_length]; omega))
            rw [decide_eq_true he] at hE
            clear he
            go_region_with (first | (go_at_call 97; refine (HY.out _ hm).mono ?_; rintro e w' ⟨rfl, rfl⟩) | (go_at_call 98; refine (HP.out _ hm).mono ?_; rintro e w' ⟨rfl, rfl⟩))
            go_wp2_with fail
            go_ret2
            exact ⟨refget_fin HF.out, hB.trans ((((Below.refl _ _).alloc hB.size _).alloc (by have := hB.size; simp; omega) _).drew)⟩
          · have HF := Lib.hid (HD.next (miss_of HM.out (by decide) (fun x => he x.2)))
            rw [decide_eq_false he] at hE
            clear he
            go_region_with (first | (go_at_call 97; refine (HY.out _ hm).mono ?_; rintro e w' ⟨rfl, rfl⟩) | (go_at_call 98; refine (HP.out _ hm).mono ?_; rintro e w' ⟨rfl, rfl⟩))
            go_wp2_with fail
            go_roundw
            case rel => exact ⟨3, by omega, by omega, by simp, HF.out, hB.trans ((((Below.refl _ _).alloc hB.size _).alloc (by have := hB.size; simp; omega) _).drew)⟩
            case measure => simp [intOf]
        · have HY := Lib.hid (may_no' R)
          have HF := Lib.hid (HD.next (miss_of HM.out (by decide) (fun x => hm x.1)))
          go_quiet ((go_at_call 97; exact Calls.quiet_of_same (HY.out _ hm)))
          go_wp2_with fail
          go_roundw
          case rel => exact ⟨3, by omega, by omega, by simp, HF.out, hB.trans ((((Below.refl _ _).alloc hB.size _)).trans (below_drewN _ _ _))⟩
          case measure => simp [intOf]
      | 3, _, hks4 =>
        clear hk hks
        have b0 : (s[0].toNat : Int) ≤ 255 := (byte_bd _).2
        have b1 : (s[1].toNat : Int) ≤ 255 := (byte_bd _).2
        have b2 : (s[2].toNat : Int) ≤ 255 := (byte_bd _).2
        have b3 : (s[3].toNat : Int) ≤ 255 := (byte_bd _).2
        go_wp2_with fail
        refine wp_loop_rounds 5 ?_
        rw [rounds_succ]
        go_wp2_with fail
        rw [rounds_succ]
        go_wp2_with fail
        rw [rounds_succ]
        go_wp2_with fail
        rw [rounds_succ]
        go_wp2_with fail
        rw [rounds_succ]
        go_wp2_with fail
        generalize hR : 64 * (64 * (64 * ((s[0].toNat : Int) % 8) + (s[1].toNat : Int) % 64) + (s[2].toNat : Int) % 64) + (s[3].toNat : Int) % 64 = R at *
        have HM : Hid (∀ r, Reads (bs s) r 4 → r = R) := by
          intro r hr
          have := (reads_get hr).2.2.2 rfl
          simp only [bs_getD s 0 (by omega), bs_getD s 1 (by omega), bs_getD s 2 (by omega), bs_getD s 3 (by omega)] at this
          omega
        clear hR b0 b1 b2 b3
        by_cases hm : May R
        · have HY := Lib.hid (may_yes R)
          have HP := Lib.hid (refput_any R)
          have hconv := run_convert_enc R hm
          have hE := enc_beq hm s 4
          by_cases he : enc R = (bs s).take 4
          · have HF := Lib.hid (dec_found hm he (by rw [bs_length]; omega))
            rw [decide_eq_true he] at hE
            clear he
            go_region_with (first | (go_at_call 97; refine (HY.out _ hm).mono ?_; rintro e w' ⟨rfl, rfl⟩) | (go_at_call 98; refine (HP.out _ hm).mono ?_; rintro e w' ⟨rfl, rfl⟩))
            go_wp2_with fail
            go_ret2
            exact ⟨refget_fin HF.out, hB.trans ((((Below.refl _ _).alloc hB.size _).alloc (by have := hB.size; simp; omega) _).drew)⟩
          · have HF := Lib.hid (HD.next (miss_of HM.out (by decide) (fun x => he x.2)))
            rw [decide_eq_false he] at hE
            clear he
            go_region_with (first | (go_at_call 97; refine (HY.out _ hm).mono ?_; rintro e w' ⟨rfl, rfl⟩) | (go_at_call 98; refine (HP.out _ hm).mono ?_; rintro e w' ⟨rfl, rfl⟩))
            go_wp2_with fail
            go_roundw
            case rel => exact ⟨4, by omega, by omega, by simp, HF.out, hB.trans ((((Below.refl _ _).alloc hB.size _).alloc (by have := hB.size; simp; omega) _).drew)⟩
            case measure => simp [intOf]
        · have HY := Lib.hid (may_no' R)
          have HF := Lib.hid (HD.next (miss_of HM.out (by decide) (fun x => hm x.1)))
          go_quiet ((go_at_call 97; exact Calls.quiet_of_same (HY.out _ hm)))
          go_wp2_with fail
          go_roundw
          case rel => exact ⟨4, by omega, by omega, by simp, HF.out, hB.trans ((((Below.refl _ _).alloc hB.size _)).trans (below_drewN _ _ _))⟩
          case measure => simp [intOf]
    · have HZ := Lib.hid (dec_zero (l := bs s) (by
        have h1 := dec_le (bs s)
        rw [bs_length] at h1
        unfold Tried at HD
        omega))
      by_cases hk4 : k = 4
      · subst hk4
        clear hin
        go_wp2_with fail
        go_ret2
        exact ⟨refget_fin HZ.out, hB⟩
      · have hk5 : k < 4 := by omega
        have hk6 : s.size < k + 1 := by omega
        clear hin hk4
        go_wp2_with fail
        all_goals
          go_ret2
          exact ⟨refget_fin HZ.out, hB⟩
end Go.Proofs.YtdcfjopijblndaaDoor
