/-
  WHAT THE PROOF STANDS ON, a part of it: UtfLeaf, UtfGet.
-/
import Derived.Test.YtlkiigoblkfkpaaGreatDoorC1
import Derived.Test.YtlkiigoblkfkpaaGreatDoorProg
import Derived.WalkKit
import Derived.BigQuiet
import Derived.BigGuardPart
import Derived.Deep.QuietTactic
import Derived.Lib.Hide
import Derived.Deep.LoopGhost
/-
  CONTRACTS OF THE SMALL FUNCTIONS OF LAYER 1: size, mark, first, and of the law's num, of the reference's May.
-/

namespace Go.Proofs.YtlkiigoblkfkpaaGreatDoor
open Go.RowKit
open Utf
namespace Utf

/-- A string's bytes, as numbers. -/
def bs (s : ByteArray) : List Int := s.data.toList.map fun c => (c.toNat : Int)

theorem bs_length (s : ByteArray) : (bs s).length = s.size := by simp [bs]
theorem bs_get (s : ByteArray) (k : Nat) (h : k < s.size) : (bs s)[k]? = some (s[k].toNat : Int) := by
  simp only [bs, List.getElem?_map]
  rw [List.getElem?_eq_getElem (by simpa using h)]
  rfl
theorem bs_head (s : ByteArray) (h : 0 < s.size) : bs s = (s[0].toNat : Int) :: (bs s).tail := by
  have h1 := bs_get s 0 h
  cases e : bs s with
  | nil => rw [e] at h1; simp at h1
  | cons c l => rw [e] at h1; simp at h1; simp [h1]
theorem byte_bd (c : UInt8) : 0 ≤ (c.toNat : Int) ∧ (c.toNat : Int) ≤ 255 := by have := c.toNat_lt; omega
theorem ret_int {a b : Int} {k : IntKind} (h : a = b) : Ending.returned (.int k a) = .returned (.int k b) := by rw [h]
theorem ret_bool {a b : Bool} (h : a = b) : Ending.returned (.bool a) = .returned (.bool b) := by rw [h]
theorem ret2 {a b a' b' : Int} {k : IntKind} (h : a = a') (h' : b = b') : Ending.returned (.tuple #[.int k a, .int k b]) = .returned (.tuple #[.int k a', .int k b']) := by rw [h, h']

theorem nonempty {s : ByteArray} (h : 0 < s.size) : s.toList.isEmpty = false := by
  rw [← decide_eq_emptyBytes, decide_eq_false_iff_not]
  rintro rfl
  exact absurd h (by decide)

end Utf

theorem size_any (r : Int) (w : World) : Calls Tryz.prog 113 #[.int .i64 r] w fun e w' => e = .returned (.int .i64 (rsize r : Nat)) ∧ w = w' := by
  go_enter Tryz.func113, Tryz.ntmps113
  go_wp2
  all_goals
    go_ret
    refine ⟨ret_int ?_, rfl⟩
    have hr := rsize_eq (r := r)
    have hl := rsize_le r
    omega

theorem first_nil (w : World) : Calls Tryz.prog 125 #[.string ByteArray.empty] w fun e w' => e = .returned (.tuple #[.int .i64 0, .int .i64 0]) ∧ w = w' := by
  have h0 : ByteArray.empty.toList.isEmpty = true := by rw [← decide_eq_emptyBytes]; simp
  go_enter Tryz.func125, Tryz.ntmps125
  go_wp2
  go_ret2
  exact ⟨rfl, rfl⟩

theorem first_any (s : ByteArray) (w : World) (h0 : 0 < s.size) :
    Calls Tryz.prog 125 #[.string s] w fun e w' => e = .returned (.tuple #[.int .i64 (lead s[0].toNat).1, .int .i64 ((lead s[0].toNat).2 : Nat)]) ∧ w = w' := by
  have hne : s.toList.isEmpty = false := nonempty h0
  go_enter Tryz.func125, Tryz.ntmps125
  go_wp2
  all_goals
    have hw : wrap64 (s[0].toNat : Int) = s[0].toNat := IntWalk.wrap64_in _ (by have := byte_bd s[0]; omega)
    simp only [hw] at *
    go_ret2
    refine ⟨?_, rfl⟩
    apply ret2
    all_goals
      unfold lead
      first
        | rw [if_pos (by omega)]
        | rw [if_neg (by omega), if_pos (by omega)]
        | rw [if_neg (by omega), if_neg (by omega), if_pos (by omega)]
        | rw [if_neg (by omega), if_neg (by omega), if_neg (by omega), if_pos (by omega)]
        | rw [if_neg (by omega), if_neg (by omega), if_neg (by omega), if_neg (by omega), if_pos (by omega)]
        | rw [if_neg (by omega), if_neg (by omega), if_neg (by omega), if_neg (by omega), if_neg (by omega)]
      try rfl
end Go.Proofs.YtlkiigoblkfkpaaGreatDoor

/-
  THE CONTRACT OF utf.Get.
-/

namespace Go.Proofs.YtlkiigoblkfkpaaGreatDoor
open Go.RowKit
open Utf

/-- A scope whose one label lies ahead: the run goes on behind it, and jumps no more. -/
theorem wp_scope_ahead {P : Program} {a : Act} {w : World} {Q : Exit → Act → World → Prop} {c rest : Code} (l : Nat) (hf : findLabel c l = some rest)
    (first : c.wp P (Exit.jump l (fun a w => rest.wp P (Exit.noGoto Q) a w) Q) a w) : (Code.scope c).wp P Q a w := by
  refine wp_scope_jumps l _ (fun _ _ => 0) hf first ?_
  intro a w h
  refine wp_mono h ?_
  intro e a' w' hq
  cases e with
  | goto l' => exact hq.elim
  | _ => exact hq

namespace Utf
def gotten (l : List Int) : Ending := .returned (.tuple #[.int .i64 (dec l).1, .int .i64 ((dec l).2 : Nat), .int .i64 (getErr (dec l).2)])
theorem gotten_zero {l : List Int} (h : dec l = (0, 0)) : .returned (.tuple #[.int .i64 0, .int .i64 0, .int .i64 4]) = gotten l := by
  unfold gotten; rw [h]; rfl
end Utf

set_option maxHeartbeats 400000 in
theorem get_empty (s : ByteArray) (w : World) (h0 : s.size = 0) : Calls Tryz.prog 120 #[.string s] w fun e w' => e = gotten (bs s) ∧ w = w' := by
  have hs : s = ByteArray.empty := by
    apply ByteArray.ext
    apply Array.eq_empty_of_size_eq_zero
    exact h0
  subst hs
  have H := Lib.hid (gotten_zero (l := bs ByteArray.empty) rfl)
  go_enter Tryz.func120, Tryz.ntmps120
  go_wp2_with fail
  refine wp_scope_ahead 0 rfl ?_
  go_wp2_with (go_at_call 125; refine (first_nil _).mono ?_; rintro e w' ⟨rfl, rfl⟩)
  go_step3
  refine ⟨rfl, ?_⟩
  go_wp2
  try rw [Exit.noGoto_ret]
  go_ret3
  exact ⟨H.out, rfl⟩

set_option maxHeartbeats 400000 in
theorem get_short (s : ByteArray) (w : World) (h0 : 0 < s.size) (hs : s.size ≤ 9223372036854775807) {b0 : Int} {n : Nat} (hl : lead s[0].toNat = (b0, n)) (hn : n = 0 ∨ s.size < n) : Calls Tryz.prog 120 #[.string s] w fun e w' => e = gotten (bs s) ∧ w = w' := by
  have H := Lib.hid (gotten_zero (l := bs s) (by
    rw [bs_head s h0]
    exact dec_short hl (by have := bs_length s; rw [bs_head s h0] at this; simp at this ⊢; omega)))
  have HF := Lib.hid (first_any s w h0)
  have hb := (lead_bd (by have := byte_bd s[0]; exact this) hl).2.2
  rw [hl] at HF
  clear hl
  go_enter Tryz.func120, Tryz.ntmps120
  go_wp2_with fail
  refine wp_scope_ahead 0 rfl ?_
  rcases hn with rfl | hn
  · go_wp2_with (go_at_call 125; refine HF.out.mono ?_; rintro e w' ⟨rfl, rfl⟩)
    go_step3
    refine ⟨rfl, ?_⟩
    go_wp2
    try rw [Exit.noGoto_ret]
    go_ret3
    exact ⟨H.out, rfl⟩
  · have hn0 : ((n : Int) == 0) = false := by simp; omega
    go_wp2_with (go_at_call 125; refine HF.out.mono ?_; rintro e w' ⟨rfl, rfl⟩)
    go_step3
    refine ⟨rfl, ?_⟩
    go_wp2
    try rw [Exit.noGoto_ret]
    go_ret3
    exact ⟨H.out, rfl⟩

theorem fold_bd {b0 : Int} (hb : 0 ≤ b0 ∧ b0 ≤ 127) {l : List Int} : ∀ k, k ≤ 3 → (l.take k).all isCont = true → 0 ≤ fold b0 (l.take k) ∧ fold b0 (l.take k) ≤ 40000000 := by
  have step : ∀ k (B : Int), (0 ≤ fold b0 (l.take k) ∧ fold b0 (l.take k) ≤ B) → (l.take (k + 1)).all isCont = true → 63 ≤ B → 0 ≤ fold b0 (l.take (k + 1)) ∧ fold b0 (l.take (k + 1)) ≤ B * 64 + 63 := by
    intro k B h ha hB
    by_cases hk : k < l.length
    · have hd : l[k]? = some l[k] := List.getElem?_eq_getElem hk
      rw [fold_snoc b0 l k hd]
      rw [List.all_eq_true] at ha
      have := ha l[k] (List.mem_of_getElem? (i := k) (by rw [List.getElem?_take_of_lt (by omega)]; exact hd))
      rw [isCont_iff] at this
      omega
    · rw [List.take_of_length_le (by omega)]
      rw [List.take_of_length_le (by omega)] at h
      omega
  have le : ∀ k, (l.take (k + 1)).all isCont = true → (l.take k).all isCont = true := by
    intro k h
    rw [List.all_eq_true] at h ⊢
    intro x hx
    exact h x (List.mem_of_mem_take (by rw [List.take_take]; rw [show min k (k+1) = k by omega]; exact hx))
  intro k hk ha
  have h0 : 0 ≤ fold b0 (l.take 0) ∧ fold b0 (l.take 0) ≤ 127 := by simp [fold]; exact hb
  match k, hk, ha with
  | 0, _, _ => omega
  | 1, _, ha => have := step 0 127 h0 ha (by omega); simp only [Nat.zero_add] at this; omega
  | 2, _, ha =>
    have h1 := step 0 127 h0 (le _ ha) (by omega)
    have := step 1 _ h1 ha (by omega); simp only [Nat.reduceAdd] at this; omega
  | 3, _, ha =>
    have h1 := step 0 127 h0 (le _ (le _ ha)) (by omega)
    have h2 := step 1 _ h1 (le _ ha) (by omega)
    have := step 2 _ h2 ha (by omega); simp only [Nat.reduceAdd] at this; omega

def Conts (l : List Int) (k : Nat) : Prop := (l.take k).all isCont = true

set_option maxRecDepth 100000 in
set_option maxHeartbeats 1000000 in
theorem get_long (s : ByteArray) (w : World) (h0 : 0 < s.size) (hs : s.size ≤ 9223372036854775807) {b0 : Int} {n : Nat} (hl : lead s[0].toNat = (b0, n)) (hn : n ≠ 0) (hn2 : n ≤ s.size) : Calls Tryz.prog 120 #[.string s] w fun e w' => e = gotten (bs s) ∧ w = w' := by
  obtain ⟨hb0, hb1, hb⟩ := lead_bd (by have := byte_bd s[0]; exact this) hl
  have HF := Lib.hid (first_any s w h0)
  rw [hl] at HF
  have HL := Lib.hid hl
  clear hl
  obtain ⟨l, HB, hll⟩ : ∃ l : List Int, Hid (bs s = (s[0].toNat : Int) :: l) ∧ l.length + 1 = s.size := ⟨(bs s).tail, Lib.hid (bs_head s h0), by rw [List.length_tail, bs_length]; omega⟩
  have hget : ∀ k, (h : k + 1 < s.size) → l[k]? = some (s[k + 1].toNat : Int) := by
    intro k h
    have := bs_get s (k + 1) h
    rw [HB.out] at this
    simpa using this
  have HG := Lib.hid hget
  clear hget
  have hn0 : ((n : Int) == 0) = false := by simp; omega
  go_enter Tryz.func120, Tryz.ntmps120
  go_wp2_with fail
  refine wp_scope_ahead 0 rfl ?_
  go_wp2_with (go_at_call 125; refine HF.out.mono ?_; rintro e w' ⟨rfl, rfl⟩)
  go_loop [5, 7] (fun r i => ∃ k : Nat, k + 1 ≤ n ∧ i = .int .i64 ((k + 1 : Nat) : Int) ∧ r = .int .i64 (fold b0 (l.take k)) ∧ Conts l k) (fun _ i => n - (intOf i).toNat)
  case atStart => exact ⟨0, by omega, by simp, rfl, rfl⟩
  case round =>
    obtain ⟨k, hk, rfl, rfl, HA⟩ := hrel
    have hf := fold_bd (l := l) ⟨hb0, hb1⟩ k (by omega) HA
    obtain ⟨hf0, hf1⟩ := hf
    by_cases hlt : k + 1 < n
    · have hks : k + 1 < s.size := by omega
      have hg := HG.out k hks
      have HS := Lib.hid (fold_snoc b0 l k hg)
      have HX := Lib.hid hg
      clear hg
      go_wp2
      · go_step3
        refine ⟨rfl, ?_⟩
        go_wp2
        try rw [Exit.noGoto_ret]
        go_ret3
        have h1 : (s[k + 1].toNat : Int) < 128 := by assumption
        exact ⟨gotten_zero (by rw [HB.out]; exact dec_bad HL.out hlt HX.out (by simp [isCont]; omega)), rfl⟩
      · go_step3
        refine ⟨rfl, ?_⟩
        go_wp2
        try rw [Exit.noGoto_ret]
        go_ret3
        have h1 : 192 ≤ (s[k + 1].toNat : Int) := by assumption
        exact ⟨gotten_zero (by rw [HB.out]; exact dec_bad HL.out hlt HX.out (by simp [isCont]; omega)), rfl⟩
      · have h1 : (s[k + 1].toNat : Int) < 192 := by assumption
        have h2 : 128 ≤ (s[k + 1].toNat : Int) := by assumption
        go_round
        case rel => exact ⟨k + 1, by omega, by simp, HS.out.symm, all_snoc l k HX.out HA (by rw [isCont_iff]; omega)⟩
        case measure => simp [intOf]; omega
    · obtain rfl : n = k + 1 := by omega
      have hd := dec_done HL.out (by omega) (by omega) HA
      rw [← HB.out] at hd
      have HD := Lib.hid hd
      clear hd
      simp only [Nat.add_sub_cancel] at HD
      generalize hF : fold b0 (List.take k l) = F at *
      have HF2 := Lib.hid hF
      clear hF
      have HZ := Lib.hid (size_any F w)
      by_cases hsz : rsize F = k + 1
      · rw [if_pos hsz] at HD
        rw [hsz] at HZ
        clear hsz
        go_wp2_with (go_at_call 113; refine HZ.out.mono ?_; rintro e w' ⟨rfl, rfl⟩)
        simp only [Exit.jump]
        go_ret3
        refine ⟨?_, rfl⟩
        unfold gotten
        rw [HD.out]
        simp [getErr]
      · rw [if_neg hsz] at HD
        generalize rsize F = z at *
        have hne : ((z : Int) != (k : Int) + 1) = true := by rw [bne_iff_ne]; omega
        go_wp2_with (go_at_call 113; refine HZ.out.mono ?_; rintro e w' ⟨rfl, rfl⟩)
        go_step3
        refine ⟨rfl, ?_⟩
        go_wp2
        try rw [Exit.noGoto_ret]
        go_ret3
        exact ⟨gotten_zero HD.out, rfl⟩

theorem get_any (s : ByteArray) (w : World) (hs : s.size ≤ 9223372036854775807) : Calls Tryz.prog 120 #[.string s] w fun e w' => e = gotten (bs s) ∧ w = w' := by
  by_cases h0 : s.size = 0
  · exact get_empty s w h0
  · have h1 : 0 < s.size := by omega
    obtain ⟨b0, n, hl⟩ : ∃ b0 n, lead s[0].toNat = (b0, n) := ⟨_, _, rfl⟩
    by_cases hn : n = 0 ∨ s.size < n
    · exact get_short s w h1 hs hl hn
    · exact get_long s w h1 hs hl (by omega) (by omega)
end Go.Proofs.YtlkiigoblkfkpaaGreatDoor

