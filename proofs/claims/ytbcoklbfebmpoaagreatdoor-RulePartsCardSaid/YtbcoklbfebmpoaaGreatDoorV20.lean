/-
  WHAT THE PROOF STANDS ON, a part of it: LexRefX.
-/
import Derived.Test.YtbcoklbfebmpoaaGreatDoorV18
import Derived.Test.YtbcoklbfebmpoaaGreatDoorV12
import Derived.Test.YtbcoklbfebmpoaaGreatDoorV19
import Derived.Deep.DeepCutAuto
import Derived.LoopTactic
/-
  CONTRACTS OF THE REFERENCE's ch, hex AND escape: exact.
-/

namespace Go.Proofs.YtbcoklbfebmpoaaGreatDoor
open Go.RowKit
open Utf Term Lex
set_option linter.unusedVariables false
set_option linter.unusedSimpArgs false

set_option maxRecDepth 100000 in
set_option maxHeartbeats 2000000 in
theorem refCh_is (s : ByteArray) (at_ : Nat) (hs : s.size ≤ 1000000000) (ha : at_ ≤ 2000000000) (w : World) :
    Calls Tryz.prog 39 #[.string s, .int .i64 at_] w fun e w' => e = .returned (.int .u8 ((bs s).getD at_ 0)) ∧ w = w' := by
  have a0 : (0 : Int) ≤ (at_ : Int) := by omega
  by_cases h : at_ < s.size
  · have d : decide ((at_ : Int) < (s.size : Int)) = true := by simpa using h
    have d1 : (at_ : Int) < (s.size : Int) := by omega
    have hb := Lib.hid (bs_getD s at_ h)
    go_enter Tryz.func39, Tryz.ntmps39
    go_wp2
    go_ret
    rw [hb.out]
    exact ⟨rfl, rfl⟩
  · have d : decide ((at_ : Int) < (s.size : Int)) = false := by simp; omega
    have hb : Hid ((bs s).getD at_ 0 = 0) := Lib.hid (by rw [List.getD_eq_getElem?_getD, List.getElem?_eq_none (by rw [bs_length]; omega)]; rfl)
    go_enter Tryz.func39, Tryz.ntmps39
    go_wp2
    go_ret
    rw [hb.out]
    exact ⟨rfl, rfl⟩

set_option maxRecDepth 100000 in
set_option maxHeartbeats 2000000 in
theorem refHex_is (c : Int) (h0 : 0 ≤ c) (h1 : c ≤ 255) (w : World) :
    Calls Tryz.prog 103 #[.int .u8 c] w fun e w' => e = .returned (.int .i64 (hexD c)) ∧ w = w' := by
  by_cases d1 : 48 ≤ c ∧ c ≤ 57
  · have t1 : decide ((48 : Int) ≤ c) = true := by simpa using d1.1
    have t2 : decide (c ≤ (57 : Int)) = true := by simpa using d1.2
    have e : hexD c = c - 48 := by unfold hexD; rw [if_pos d1]
    rw [e]
    clear e
    go_enter Tryz.func103, Tryz.ntmps103
    go_wp2
    go_ret
    exact ⟨rfl, rfl⟩
  by_cases d2 : 65 ≤ c ∧ c ≤ 70
  · have t1 : decide ((48 : Int) ≤ c) = true := by simp; omega
    have t2 : decide (c ≤ (57 : Int)) = false := by simp; omega
    have t3 : decide ((65 : Int) ≤ c) = true := by simpa using d2.1
    have t4 : decide (c ≤ (70 : Int)) = true := by simpa using d2.2
    have e : hexD c = c - 55 := by unfold hexD; rw [if_neg d1, if_pos d2]
    rw [e]
    clear e
    go_enter Tryz.func103, Tryz.ntmps103
    go_wp2
    go_ret
    exact ⟨rfl, rfl⟩
  by_cases d3 : 97 ≤ c ∧ c ≤ 102
  · have t1 : decide ((48 : Int) ≤ c) = true := by simp; omega
    have t2 : decide (c ≤ (57 : Int)) = false := by simp; omega
    have t3 : decide ((65 : Int) ≤ c) = true := by simp; omega
    have t4 : decide (c ≤ (70 : Int)) = false := by simp; omega
    have t5 : decide ((97 : Int) ≤ c) = true := by simpa using d3.1
    have t6 : decide (c ≤ (102 : Int)) = true := by simpa using d3.2
    have e : hexD c = c - 87 := by unfold hexD; rw [if_neg d1, if_neg d2, if_pos d3]
    rw [e]
    clear e
    go_enter Tryz.func103, Tryz.ntmps103
    go_wp2
    go_ret
    exact ⟨rfl, rfl⟩
  have e : hexD c = -1 := by unfold hexD; rw [if_neg d1, if_neg d2, if_neg d3]
  rw [e]
  clear e
  have t1 : (decide ((48 : Int) ≤ c) && decide (c ≤ (57 : Int))) = false := by simpa using d1
  have t2 : (decide ((65 : Int) ≤ c) && decide (c ≤ (70 : Int))) = false := by simpa using d2
  have t3 : (decide ((97 : Int) ≤ c) && decide (c ≤ (102 : Int))) = false := by simpa using d3
  generalize hq1 : decide ((48 : Int) ≤ c) = q1 at *
  generalize hq2 : decide (c ≤ (57 : Int)) = q2 at *
  generalize hq3 : decide ((65 : Int) ≤ c) = q3 at *
  generalize hq4 : decide (c ≤ (70 : Int)) = q4 at *
  generalize hq5 : decide ((97 : Int) ≤ c) = q5 at *
  generalize hq6 : decide (c ≤ (102 : Int)) = q6 at *
  cases q1 <;> cases q2 <;> cases q3 <;> cases q4 <;> cases q5 <;> cases q6 <;> first | (exact absurd t1 (by decide)) | (exact absurd t2 (by decide)) | (exact absurd t3 (by decide)) | skip
  all_goals
    clear d1 d2 d3 t1 t2 t3
    go_enter Tryz.func103, Tryz.ntmps103
    go_wp2
    go_ret
    exact ⟨rfl, rfl⟩

theorem getD_in {l : List Int} {k : Nat} (h : l.getD k 0 ≠ 0) : k < l.length := by
  rcases Nat.lt_or_ge k l.length with h1 | h1
  · exact h1
  · rw [List.getD_eq_getElem?_getD, List.getElem?_eq_none h1] at h
    exact absurd rfl h
theorem drop_at {l : List Int} {k : Nat} (h : k < l.length) : l.drop k = l.getD k 0 :: l.drop (k + 1) := by
  rw [List.drop_eq_getElem_cons h, List.getD_eq_getElem?_getD, List.getElem?_eq_getElem h]
  rfl
theorem hexD_zero : hexD 0 = -1 := by decide
theorem hexD_rng (c : Int) : -1 ≤ hexD c ∧ hexD c ≤ 15 := by
  unfold hexD
  split
  · omega
  · split
    · omega
    · split <;> omega
/-- A digit that is none: no number. -/
theorem num_none {k j : Nat} {r : List Int} (hj : j < k) (h : hexD (r.getD j 0) < 0) : numL k r = none := by
  unfold numL
  refine if_neg fun ⟨h1, h2, _⟩ => ?_
  unfold hexOK at h2
  have hm : r.getD j 0 ∈ r.take k := by
    rw [List.getD_eq_getElem?_getD, List.getElem?_eq_getElem (by omega)]
    exact List.mem_of_getElem? (by rw [List.getElem?_take_of_lt hj]; exact List.getElem?_eq_getElem (by omega))
  have := List.all_eq_true.1 h2 _ hm
  rw [List.getD_eq_getElem?_getD] at h this
  simp at this
  omega
theorem take_next {r : List Int} {j : Nat} (h : j < r.length) : r.take (j + 1) = r.take j ++ [r.getD j 0] := by
  rw [List.take_add_one, List.getD_eq_getElem?_getD, List.getElem?_eq_getElem h]
  rfl
theorem hexV_next {r : List Int} {j : Nat} (h : j < r.length) : hexV (r.take (j + 1)) = 16 * hexV (r.take j) + hexD (r.getD j 0) := by
  rw [take_next h]
  unfold hexV
  rw [List.foldl_append]
  rfl
theorem hexOK_next {r : List Int} {j : Nat} (h : j < r.length) (h1 : hexOK (r.take j) = true) (h2 : 0 ≤ hexD (r.getD j 0)) : hexOK (r.take (j + 1)) = true := by
  rw [take_next h]
  unfold hexOK at *
  rw [List.all_append, h1]
  simpa using h2

/-- What escape answers. -/
def EscX (s : ByteArray) (a : Nat) (all : Bool) (w : World) (e : Ending) (w' : World) : Prop :=
  Below w.heap.size w w' ∧ match escL all ((bs s).drop (a + 1)) with
  | none => e = .returned (.tuple #[.slice none 0 0, .int .i64 (-1)])
  | some (b, k) => e = .returned (.tuple #[.slice (some ⟨w.heap.size, 0, none⟩) b.length b.length, .int .i64 ((a : Int) + (k : Int))]) ∧ BlockAt w' w.heap.size (b.map (Value.int .u8)).toArray 5
theorem EscX.no {s : ByteArray} {a : Nat} {all : Bool} {w : World} (h : escL all ((bs s).drop (a + 1)) = none) : EscX s a all w (.returned (.tuple #[.slice none 0 0, .int .i64 (-1)])) w := by
  unfold EscX
  rw [h]
  exact ⟨Below.refl _ _, rfl⟩
theorem EscX.one {s : ByteArray} {a : Nat} {all : Bool} {w : World} (b : Int) (h : escL all ((bs s).drop (a + 1)) = some ([b], 2)) : EscX s a all w (.returned (.tuple #[.slice (some ⟨w.heap.size, 0, none⟩) 1 1, .int .i64 ((a : Int) + 2)])) (w.alloc (.cells #[.int .u8 b] 5)) := by
  unfold EscX
  rw [h]
  exact ⟨below_lex _ _, rfl, block_new _ _ _⟩
theorem EscX.put {s : ByteArray} {a : Nat} {all : Bool} {w : World} (r : Int) (hr : May r) (k : Nat) (h : escL all ((bs s).drop (a + 1)) = some (enc r, k)) (d : Int) (hd : d = (a : Int) + (k : Int)) : EscX s a all w (.returned (.tuple #[.slice (some ⟨w.heap.size, 0, none⟩) (rsize r) (rsize r), .int .i64 d])) (w.alloc (.cells ((enc r).map (Value.int .u8)).toArray 5)) := by
  unfold EscX
  rw [h, hd]
  exact ⟨below_lex _ _, by rw [rsize_enc hr], block_new _ _ _⟩
theorem getD_byte (s : ByteArray) (k : Nat) : 0 ≤ (bs s).getD k 0 ∧ (bs s).getD k 0 ≤ 255 := by
  rcases Nat.lt_or_ge k s.size with h | h
  · rw [bs_getD s k h]; exact byte_bd _
  · rw [List.getD_eq_getElem?_getD, List.getElem?_eq_none (by rw [bs_length]; omega)]; exact ⟨by decide, by decide⟩

set_option maxRecDepth 100000 in
set_option maxHeartbeats 16000000 in
theorem refEscape_is (s : ByteArray) (a : Nat) (all : Bool) (hs : s.size ≤ 1000000000) (ha : a ≤ 1000000000) (w : World) :
    Calls Tryz.prog 71 #[.string s, .int .i64 a, .bool all] w (EscX s a all w) := by
  have hC0 := refCh_is s (a + 1) hs (by omega) w
  have HCj : Hid (∀ j : Nat, j ≤ 8 → ∃ q : Int, (Calls Tryz.prog 39 #[.string s, .int .i64 ((a : Int) + 2 + (j : Int))] w fun e w' => e = .returned (.int .u8 q) ∧ w = w') ∧ 0 ≤ q ∧ q ≤ 255 ∧ q = ((bs s).drop (a + 2)).getD j 0) := Lib.hid (fun j hj => by
    have h := refCh_is s (a + 2 + j) hs (by omega) w
    have hb := getD_byte s (a + 2 + j)
    refine ⟨(bs s).getD (a + 2 + j) 0, h, hb.1, hb.2, ?_⟩
    rw [List.getD_eq_getElem?_getD, List.getD_eq_getElem?_getD, List.getElem?_drop])
  have hcl : (bs s).getD (a + 1) 0 ≠ 0 → a + 1 < s.size ∧ escL all ((bs s).drop (a + 1)) = escL all ((bs s).getD (a + 1) 0 :: (bs s).drop (a + 2)) := fun h => by
    have h1 := getD_in h
    exact ⟨by rwa [bs_length] at h1, by rw [drop_at h1]⟩
  have hc0 : (bs s).getD (a + 1) 0 = 0 → escL all ((bs s).drop (a + 1)) = none := fun h => by
    rcases Nat.lt_or_ge (a + 1) (bs s).length with h1 | h1
    · rw [drop_at h1, h]
      cases all <;> rfl
    · rw [List.drop_eq_nil_of_le h1]; rfl
  have hcb := getD_byte s (a + 1)
  generalize (bs s).getD (a + 1) 0 = c at *
  obtain ⟨c0, c1⟩ := hcb
  have HC : Hid (Calls Tryz.prog 39 #[.string s, .int .i64 ((a : Int) + 1)] w fun e w' => e = .returned (.int .u8 c) ∧ w = w') := Lib.hid hC0
  have HC0 := Lib.hid hc0
  have HCl := Lib.hid hcl
  clear hC0 hc0 hcl
  have a0 : (0 : Int) ≤ (a : Int) := by omega
  have a1 : (a : Int) ≤ 1000000000 := by omega
  have HN := Lib.hid (fun h => EscX.no (s := s) (a := a) (all := all) (w := w) h)
  have HO := Lib.hid (fun b h => EscX.one (s := s) (a := a) (all := all) (w := w) b h)
  have HP := Lib.hid (fun r hr k h d hd => EscX.put (s := s) (a := a) (all := all) (w := w) r hr k h d hd)
  obtain ⟨F, hF⟩ : ∃ F, F = EscX s a all w := ⟨_, rfl⟩
  rw [← hF] at HN HO HP ⊢
  clear hF
  go_enter Tryz.func71, Tryz.ntmps71
  go_upto_region 3 with (go_at_call 39; refine HC.out.mono ?_; rintro e w1 ⟨rfl, rfl⟩)
  by_cases hc117 : c = 117
  · subst hc117
    obtain ⟨hin, hle⟩ := HCl.out (by decide)
    have HLe : Hid (escL all ((bs s).drop (a + 1)) = numL 4 ((bs s).drop (a + 2))) := Lib.hid (by rw [hle]; rfl)
    clear c0 c1 HCl hin hle
    go_wp2_with fail
    go_loopg [10, 11, 12] 4 (fun g r i d wr => ∃ (j : Nat) (R : Int), j ≤ 4 ∧ 4 - j ≤ g ∧ r = .int .i64 R ∧ i = .int .i64 j ∧ 0 ≤ R ∧ R < ((16 ^ j : Nat) : Int) ∧ j ≤ ((bs s).drop (a + 2)).length ∧ R = hexV (((bs s).drop (a + 2)).take j) ∧ hexOK (((bs s).drop (a + 2)).take j) = true ∧ w = wr)
    case atStart => exact ⟨0, 0, by omega, by omega, rfl, rfl, by decide, by decide, Nat.zero_le _, rfl, rfl, rfl⟩
    case round =>
      obtain ⟨j, R, hj, hg, rfl, rfl, r0, r1, hjl, hRv, hRo, rfl⟩ := hrel
      have HJ := Lib.hid hjl
      have HV := Lib.hid hRv
      have HO1 := Lib.hid hRo
      clear hjl hRv hRo
      by_cases hlt : j < 4
      · have d1 : decide ((j : Int) < 4) = true := by simp; omega
        have j0 : (0 : Int) ≤ (j : Int) := by omega
        have j1 : (j : Int) ≤ 8 := by omega
        have hp : 16 ^ j ≤ 16 ^ 7 := Nat.pow_le_pow_right (by decide) (by omega)
        have hp7 : (16 : Nat) ^ 7 = 268435456 := by decide
        have hps : (16 : Nat) ^ (j + 1) = 16 * 16 ^ j := by rw [Nat.pow_succ, Nat.mul_comm]
        have HR1 : Hid (∀ d : Int, 0 ≤ d → d ≤ 15 → 16 * R + d < ((16 ^ (j + 1) : Nat) : Int)) := Lib.hid (fun d _ _ => by rw [hps]; omega)
        have r2 : R ≤ 268435456 := by omega
        clear hp hp7 hps r1
        obtain ⟨q, hcq, q0, q1, hqq⟩ := HCj.out j (by omega)
        have HCq := Lib.hid hcq
        have HX := Lib.hid (refHex_is q q0 q1 w)
        obtain ⟨D, hD⟩ : ∃ D, D = hexD q := ⟨_, rfl⟩
        rw [← hD] at HX
        have HD := Lib.hid hD
        have e1 : D ≤ 15 := by rw [hD]; exact (hexD_rng q).2
        have e0 : -1 ≤ D := by rw [hD]; exact (hexD_rng q).1
        have Hq := Lib.hid hqq
        clear hD hqq hcq
        by_cases hd : D < 0
        · have dd : decide (D < 0) = true := by simpa using hd
          have HN2 := Lib.hid (HN.out (by rw [HLe.out]; exact num_none hlt (by rw [← Hq.out, ← HD.out]; exact hd)))
          go_wp2_with (first | (go_at_call 39; refine HCq.out.mono ?_; rintro e w1 ⟨rfl, rfl⟩) | (go_at_call 103; refine HX.out.mono ?_; rintro e w1 ⟨rfl, rfl⟩))
          exact HN2.out
        · have dd : decide (D < 0) = false := by simpa using hd
          have d0 : 0 ≤ D := by omega
          have HR2 := Lib.hid (HR1.out D d0 e1)
          have hjr : j < ((bs s).drop (a + 2)).length := by
            refine getD_in ?_
            rw [← Hq.out]
            rintro rfl
            rw [HD.out, hexD_zero] at d0
            omega
          have HJ2 := Lib.hid hjr
          have HV2 : Hid (16 * R + D = hexV (((bs s).drop (a + 2)).take (j + 1))) := Lib.hid (by rw [hexV_next hjr, ← HV.out, ← Hq.out, ← HD.out])
          have HO2 := Lib.hid (hexOK_next hjr HO1.out (by rw [← Hq.out, ← HD.out]; exact d0))
          clear hjr
          go_wp2_with (first | (go_at_call 39; refine HCq.out.mono ?_; rintro e w1 ⟨rfl, rfl⟩) | (go_at_call 103; refine HX.out.mono ?_; rintro e w1 ⟨rfl, rfl⟩))
          go_roundg (4 - (j + 1))
          case measure => omega
          case rel => exact ⟨j + 1, 16 * R + D, by omega, Nat.le_refl _, rfl, by go_num, by omega, HR2.out, HJ2.out, HV2.out, HO2.out, rfl⟩
      · obtain rfl : j = 4 := by omega
        have d1 : decide (((4 : Nat) : Int) < 4) = false := by decide
        by_cases hm : May R
        · have HM := Lib.hid (may_yes R w hm)
          have HQ := Lib.hid (refput_any R w hm)
          have HPr := Lib.hid (HP.out R hm (2 + 4) (by rw [HLe.out]; unfold numL; rw [if_pos ⟨HJ.out, HO1.out, by rw [← HV.out]; exact hm⟩, ← HV.out]) ((a : Int) + 2 + 4) (by omega))
          go_wp2_with (first | (go_at_call 69; refine HM.out.mono ?_; rintro e w1 ⟨rfl, rfl⟩) | (go_at_call 70; refine HQ.out.mono ?_; rintro e w1 ⟨rfl, rfl⟩))
          exact HPr.out
        · have HM := Lib.hid (may_no R w hm)
          have HN2 := Lib.hid (HN.out (by rw [HLe.out]; unfold numL; exact if_neg fun h => hm (by rw [HV.out]; exact h.2.2)))
          go_wp2_with (first | (go_at_call 69; refine HM.out.mono ?_; rintro e w1 ⟨rfl, rfl⟩))
          exact HN2.out
  by_cases hc85 : c = 85
  · subst hc85
    obtain ⟨hin, hle⟩ := HCl.out (by decide)
    have HLe : Hid (escL all ((bs s).drop (a + 1)) = numL 8 ((bs s).drop (a + 2))) := Lib.hid (by rw [hle]; rfl)
    clear c0 c1 HCl hin hle
    go_wp2_with fail
    go_loopg [10, 11, 12] 8 (fun g r i d wr => ∃ (j : Nat) (R : Int), j ≤ 8 ∧ 8 - j ≤ g ∧ r = .int .i64 R ∧ i = .int .i64 j ∧ 0 ≤ R ∧ R < ((16 ^ j : Nat) : Int) ∧ j ≤ ((bs s).drop (a + 2)).length ∧ R = hexV (((bs s).drop (a + 2)).take j) ∧ hexOK (((bs s).drop (a + 2)).take j) = true ∧ w = wr)
    case atStart => exact ⟨0, 0, by omega, by omega, rfl, rfl, by decide, by decide, Nat.zero_le _, rfl, rfl, rfl⟩
    case round =>
      obtain ⟨j, R, hj, hg, rfl, rfl, r0, r1, hjl, hRv, hRo, rfl⟩ := hrel
      have HJ := Lib.hid hjl
      have HV := Lib.hid hRv
      have HO1 := Lib.hid hRo
      clear hjl hRv hRo
      by_cases hlt : j < 8
      · have d1 : decide ((j : Int) < 8) = true := by simp; omega
        have j0 : (0 : Int) ≤ (j : Int) := by omega
        have j1 : (j : Int) ≤ 8 := by omega
        have hp : 16 ^ j ≤ 16 ^ 7 := Nat.pow_le_pow_right (by decide) (by omega)
        have hp7 : (16 : Nat) ^ 7 = 268435456 := by decide
        have hps : (16 : Nat) ^ (j + 1) = 16 * 16 ^ j := by rw [Nat.pow_succ, Nat.mul_comm]
        have HR1 : Hid (∀ d : Int, 0 ≤ d → d ≤ 15 → 16 * R + d < ((16 ^ (j + 1) : Nat) : Int)) := Lib.hid (fun d _ _ => by rw [hps]; omega)
        have r2 : R ≤ 268435456 := by omega
        clear hp hp7 hps r1
        obtain ⟨q, hcq, q0, q1, hqq⟩ := HCj.out j (by omega)
        have HCq := Lib.hid hcq
        have HX := Lib.hid (refHex_is q q0 q1 w)
        obtain ⟨D, hD⟩ : ∃ D, D = hexD q := ⟨_, rfl⟩
        rw [← hD] at HX
        have HD := Lib.hid hD
        have e1 : D ≤ 15 := by rw [hD]; exact (hexD_rng q).2
        have e0 : -1 ≤ D := by rw [hD]; exact (hexD_rng q).1
        have Hq := Lib.hid hqq
        clear hD hqq hcq
        by_cases hd : D < 0
        · have dd : decide (D < 0) = true := by simpa using hd
          have HN2 := Lib.hid (HN.out (by rw [HLe.out]; exact num_none hlt (by rw [← Hq.out, ← HD.out]; exact hd)))
          go_wp2_with (first | (go_at_call 39; refine HCq.out.mono ?_; rintro e w1 ⟨rfl, rfl⟩) | (go_at_call 103; refine HX.out.mono ?_; rintro e w1 ⟨rfl, rfl⟩))
          exact HN2.out
        · have dd : decide (D < 0) = false := by simpa using hd
          have d0 : 0 ≤ D := by omega
          have HR2 := Lib.hid (HR1.out D d0 e1)
          have hjr : j < ((bs s).drop (a + 2)).length := by
            refine getD_in ?_
            rw [← Hq.out]
            rintro rfl
            rw [HD.out, hexD_zero] at d0
            omega
          have HJ2 := Lib.hid hjr
          have HV2 : Hid (16 * R + D = hexV (((bs s).drop (a + 2)).take (j + 1))) := Lib.hid (by rw [hexV_next hjr, ← HV.out, ← Hq.out, ← HD.out])
          have HO2 := Lib.hid (hexOK_next hjr HO1.out (by rw [← Hq.out, ← HD.out]; exact d0))
          clear hjr
          go_wp2_with (first | (go_at_call 39; refine HCq.out.mono ?_; rintro e w1 ⟨rfl, rfl⟩) | (go_at_call 103; refine HX.out.mono ?_; rintro e w1 ⟨rfl, rfl⟩))
          go_roundg (8 - (j + 1))
          case measure => omega
          case rel => exact ⟨j + 1, 16 * R + D, by omega, Nat.le_refl _, rfl, by go_num, by omega, HR2.out, HJ2.out, HV2.out, HO2.out, rfl⟩
      · obtain rfl : j = 8 := by omega
        have d1 : decide (((8 : Nat) : Int) < 8) = false := by decide
        by_cases hm : May R
        · have HM := Lib.hid (may_yes R w hm)
          have HQ := Lib.hid (refput_any R w hm)
          have HPr := Lib.hid (HP.out R hm (2 + 8) (by rw [HLe.out]; unfold numL; rw [if_pos ⟨HJ.out, HO1.out, by rw [← HV.out]; exact hm⟩, ← HV.out]) ((a : Int) + 2 + 8) (by omega))
          go_wp2_with (first | (go_at_call 69; refine HM.out.mono ?_; rintro e w1 ⟨rfl, rfl⟩) | (go_at_call 70; refine HQ.out.mono ?_; rintro e w1 ⟨rfl, rfl⟩))
          exact HPr.out
        · have HM := Lib.hid (may_no R w hm)
          have HN2 := Lib.hid (HN.out (by rw [HLe.out]; unfold numL; exact if_neg fun h => hm (by rw [HV.out]; exact h.2.2)))
          go_wp2_with (first | (go_at_call 69; refine HM.out.mono ?_; rintro e w1 ⟨rfl, rfl⟩))
          exact HN2.out
  have q1 : (c == 117) = false := by simpa using hc117
  have q2 : (c == 85) = false := by simpa using hc85
  have HLe : Hid (escL all ((bs s).drop (a + 1)) = if all = true then (shortE c).map (fun x => ([x], 2)) else none) := Lib.hid (by
    by_cases h0 : c = 0
    · rw [HC0.out h0, h0]
      cases all <;> rfl
    · rw [(HCl.out h0).2, escL, if_neg hc117, if_neg hc85])
  clear HCl HC0 HP HCj HC
  cases all with
  | false =>
    have HN2 := Lib.hid (HN.out (by rw [HLe.out]; rfl))
    go_wp2_with fail
    exact HN2.out
  | true =>
    by_cases p0 : c = 116
    · subst p0
      have HO2 := Lib.hid (HO.out 9 (by rw [HLe.out]; rfl))
      go_wp2_with fail
      refine wp_loop_rounds 9 ?_
      rw [rounds_succ]
      go_wp2_with fail
      exact HO2.out
    by_cases p1 : c = 98
    · subst p1
      have HO2 := Lib.hid (HO.out 8 (by rw [HLe.out]; rfl))
      go_wp2_with fail
      refine wp_loop_rounds 9 ?_
      rw [rounds_succ]
      go_wp2_with fail
      rw [rounds_succ]
      go_wp2_with fail
      exact HO2.out
    by_cases p2 : c = 110
    · subst p2
      have HO2 := Lib.hid (HO.out 10 (by rw [HLe.out]; rfl))
      go_wp2_with fail
      refine wp_loop_rounds 9 ?_
      rw [rounds_succ]
      go_wp2_with fail
      rw [rounds_succ]
      go_wp2_with fail
      rw [rounds_succ]
      go_wp2_with fail
      exact HO2.out
    by_cases p3 : c = 114
    · subst p3
      have HO2 := Lib.hid (HO.out 13 (by rw [HLe.out]; rfl))
      go_wp2_with fail
      refine wp_loop_rounds 9 ?_
      rw [rounds_succ]
      go_wp2_with fail
      rw [rounds_succ]
      go_wp2_with fail
      rw [rounds_succ]
      go_wp2_with fail
      rw [rounds_succ]
      go_wp2_with fail
      exact HO2.out
    by_cases p4 : c = 102
    · subst p4
      have HO2 := Lib.hid (HO.out 12 (by rw [HLe.out]; rfl))
      go_wp2_with fail
      refine wp_loop_rounds 9 ?_
      rw [rounds_succ]
      go_wp2_with fail
      rw [rounds_succ]
      go_wp2_with fail
      rw [rounds_succ]
      go_wp2_with fail
      rw [rounds_succ]
      go_wp2_with fail
      rw [rounds_succ]
      go_wp2_with fail
      exact HO2.out
    by_cases p5 : c = 34
    · subst p5
      have HO2 := Lib.hid (HO.out 34 (by rw [HLe.out]; rfl))
      go_wp2_with fail
      refine wp_loop_rounds 9 ?_
      rw [rounds_succ]
      go_wp2_with fail
      rw [rounds_succ]
      go_wp2_with fail
      rw [rounds_succ]
      go_wp2_with fail
      rw [rounds_succ]
      go_wp2_with fail
      rw [rounds_succ]
      go_wp2_with fail
      rw [rounds_succ]
      go_wp2_with fail
      exact HO2.out
    by_cases p6 : c = 39
    · subst p6
      have HO2 := Lib.hid (HO.out 39 (by rw [HLe.out]; rfl))
      go_wp2_with fail
      refine wp_loop_rounds 9 ?_
      rw [rounds_succ]
      go_wp2_with fail
      rw [rounds_succ]
      go_wp2_with fail
      rw [rounds_succ]
      go_wp2_with fail
      rw [rounds_succ]
      go_wp2_with fail
      rw [rounds_succ]
      go_wp2_with fail
      rw [rounds_succ]
      go_wp2_with fail
      rw [rounds_succ]
      go_wp2_with fail
      exact HO2.out
    by_cases p7 : c = 92
    · subst p7
      have HO2 := Lib.hid (HO.out 92 (by rw [HLe.out]; rfl))
      go_wp2_with fail
      refine wp_loop_rounds 9 ?_
      rw [rounds_succ]
      go_wp2_with fail
      rw [rounds_succ]
      go_wp2_with fail
      rw [rounds_succ]
      go_wp2_with fail
      rw [rounds_succ]
      go_wp2_with fail
      rw [rounds_succ]
      go_wp2_with fail
      rw [rounds_succ]
      go_wp2_with fail
      rw [rounds_succ]
      go_wp2_with fail
      rw [rounds_succ]
      go_wp2_with fail
      exact HO2.out
    have HN2 := Lib.hid (HN.out (by
      rw [HLe.out]
      unfold shortE
      rw [if_neg p0, if_neg p1, if_neg p2, if_neg p3, if_neg p4, if_neg p5, if_neg p6, if_neg p7]
      rfl))
    have r0 : ((((⟨#[116, 98, 110, 114, 102, 34, 39, 92]⟩ : ByteArray)[0]).toNat : Int) == c) = false := by show ((116 : Int) == c) = false; rw [beq_eq_false_iff_ne]; exact fun h => p0 h.symm
    have r1 : ((((⟨#[116, 98, 110, 114, 102, 34, 39, 92]⟩ : ByteArray)[1]).toNat : Int) == c) = false := by show ((98 : Int) == c) = false; rw [beq_eq_false_iff_ne]; exact fun h => p1 h.symm
    have r2 : ((((⟨#[116, 98, 110, 114, 102, 34, 39, 92]⟩ : ByteArray)[2]).toNat : Int) == c) = false := by show ((110 : Int) == c) = false; rw [beq_eq_false_iff_ne]; exact fun h => p2 h.symm
    have r3 : ((((⟨#[116, 98, 110, 114, 102, 34, 39, 92]⟩ : ByteArray)[3]).toNat : Int) == c) = false := by show ((114 : Int) == c) = false; rw [beq_eq_false_iff_ne]; exact fun h => p3 h.symm
    have r4 : ((((⟨#[116, 98, 110, 114, 102, 34, 39, 92]⟩ : ByteArray)[4]).toNat : Int) == c) = false := by show ((102 : Int) == c) = false; rw [beq_eq_false_iff_ne]; exact fun h => p4 h.symm
    have r5 : ((((⟨#[116, 98, 110, 114, 102, 34, 39, 92]⟩ : ByteArray)[5]).toNat : Int) == c) = false := by show ((34 : Int) == c) = false; rw [beq_eq_false_iff_ne]; exact fun h => p5 h.symm
    have r6 : ((((⟨#[116, 98, 110, 114, 102, 34, 39, 92]⟩ : ByteArray)[6]).toNat : Int) == c) = false := by show ((39 : Int) == c) = false; rw [beq_eq_false_iff_ne]; exact fun h => p6 h.symm
    have r7 : ((((⟨#[116, 98, 110, 114, 102, 34, 39, 92]⟩ : ByteArray)[7]).toNat : Int) == c) = false := by show ((92 : Int) == c) = false; rw [beq_eq_false_iff_ne]; exact fun h => p7 h.symm
    go_wp2_with fail
    refine wp_loop_rounds 9 ?_
    rw [rounds_succ]
    go_wp2_with fail
    rw [rounds_succ]
    go_wp2_with fail
    rw [rounds_succ]
    go_wp2_with fail
    rw [rounds_succ]
    go_wp2_with fail
    rw [rounds_succ]
    go_wp2_with fail
    rw [rounds_succ]
    go_wp2_with fail
    rw [rounds_succ]
    go_wp2_with fail
    rw [rounds_succ]
    go_wp2_with fail
    rw [rounds_succ]
    go_wp2_with fail
    exact HN2.out
end Go.Proofs.YtbcoklbfebmpoaaGreatDoor

