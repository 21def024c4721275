/-
  WHAT THE PROOF STANDS ON, a part of it: LexParse.
-/
import Derived.Test.YtbcoklbfebmpoaaGreatDoorU26
import Derived.Test.YtbcoklbfebmpoaaGreatDoorU2
import Derived.Lib.ConvBytes
import Derived.Lib.UnsafeStr
import Derived.Laws.Strings3
import Derived.Laws.Closers25
import Derived.Laws.Closers25b
/-
  CONTRACTS OF strconv.ParseUint AT BASE 16, OF numbered AND OF escape.
-/

namespace Go.Proofs.YtbcoklbfebmpoaaGreatDoor
open Go.RowKit
open Utf Term Lex
set_option linter.unusedVariables false
set_option linter.unusedSimpArgs false

def lowC (c : Int) : Int := if c / 32 % 2 = 0 then c + 32 else c
theorem low_all : ∀ c : Fin 256, bits .or .u8 (c.val : Int) 32 = lowC (c.val : Int) := by decide +kernel
theorem low_of {c : Int} (hc : IsByte c) : bits .or .u8 c 32 = lowC c := by
  have h := low_all ⟨c.toNat, by have := hc.1; have := hc.2; omega⟩
  have e : ((c.toNat : Nat) : Int) = c := by have := hc.1; omega
  simpa only [e] using h
theorem lower_any (c : Int) (hc : IsByte c) (w : World) : Calls Tryz.prog 184 #[.int .u8 c] w fun e w' => e = .returned (.int .u8 (lowC c)) ∧ w = w' := by
  have H := Lib.hid (low_of hc)
  go_enter Tryz.func184, Tryz.ntmps184
  go_wp2
  go_ret
  exact ⟨ret_int H.out, rfl⟩

theorem hexV_snoc (l : List Int) (c : Int) : hexV (l ++ [c]) = 16 * hexV l + hexD c := by unfold hexV; rw [List.foldl_append]; rfl
theorem hexOK_snoc (l : List Int) (c : Int) : hexOK (l ++ [c]) = (hexOK l && decide (0 ≤ hexD c)) := by unfold hexOK; simp
theorem hexD_le (c : Int) : hexD c ≤ 15 := by unfold hexD; repeat' split
                                              all_goals omega
theorem hexV_bd : ∀ {l : List Int}, hexOK l = true → 0 ≤ hexV l ∧ hexV l < 16 ^ l.length := by
  intro l
  have key : ∀ n (l : List Int), l.length = n → hexOK l = true → 0 ≤ hexV l ∧ hexV l < 16 ^ n := by
    intro n
    induction n with
    | zero =>
      intro l hl _
      rw [List.eq_nil_of_length_eq_zero hl]
      exact ⟨by decide, by decide⟩
    | succ n ih =>
      intro l hl h
      obtain ⟨k, c, rfl⟩ : ∃ k c, l = k ++ [c] := ⟨l.dropLast, l.getLast (by intro e; rw [e] at hl; simp at hl), (List.dropLast_concat_getLast _).symm⟩
      rw [hexOK_snoc, Bool.and_eq_true, decide_eq_true_eq] at h
      rw [List.length_append, List.length_singleton] at hl
      have := ih k (by omega) h.1
      have h2 := hexD_le c
      rw [hexV_snoc, Int.pow_succ]
      omega
  exact key _ l rfl
theorem hexOK_cut {l : List Int} {k : Nat} (h : hexOK (l.take k) = false) : hexOK l = false := by
  cases e : hexOK l with
  | false => rfl
  | true =>
    unfold hexOK at *
    rw [List.all_eq_true] at e
    rw [List.all_eq_false] at h
    obtain ⟨x, hx, hn⟩ := h
    exact absurd (e x (List.mem_of_mem_take hx)) hn

theorem pow16 : ∀ k : Nat, k ≤ 7 → (16 : Int) ^ k ≤ 268435456 := by
  intro k hk
  have h : ∀ j : Fin 8, (16 : Int) ^ j.val ≤ 268435456 := by decide
  exact h ⟨k, by omega⟩

/-- What the library's inner ParseUint answers. -/
def hexE (l : List Int) : Ending := if hexOK l = true then .returned (.tuple #[.int .u64 (hexV l), .nilIface]) else .returned (.tuple #[.int .u64 0, .iface 211 (.int .i64 2)])

set_option maxRecDepth 100000 in
set_option maxHeartbeats 32000000 in
theorem parseIn_any (t : ByteArray) (h0 : 0 < t.size) (h8 : t.size ≤ 8) (w : World) :
    Calls Tryz.prog 180 #[.string t, .int .i64 16, .int .i64 32] w fun e w' => e = hexE (bs t) ∧ Below w.heap.size w w' := by
  have hemp : t.toList.isEmpty = false := nonempty h0
  have hcv := Lib.run_convert_string_bytes (P := Tryz.prog) w 9 105 5 t (u := .string) Tryz.underlying9 Tryz.underlying105 Tryz.underlying5
  have hB : ∀ j (h : j < t.size), (Lib.bytesWorld w 5 t).cell? ⟨w.heap.size, j, none⟩ = some (.int .u8 (t[j].toNat : Int)) := fun j hj => by
    rw [Lib.bytesWorld_cell w 5 t j hj]
    congr 2
    rw [List.getD_eq_getElem?_getD, List.getElem?_eq_getElem (by simpa using hj)]
    rfl
  have hBl : Below w.heap.size w (Lib.bytesWorld w 5 t) := by
    unfold Lib.bytesWorld
    exact Lib.below_freeze (((lex_drewN _ w 1)).alloc (by simp) _) (by simp) _
  obtain ⟨W1, hW1⟩ : ∃ W1, W1 = Lib.bytesWorld w 5 t := ⟨_, rfl⟩
  rw [← hW1] at hcv hB hBl
  clear hW1
  have HB := Lib.hid hB
  have HBl := Lib.hid hBl
  clear hB hBl
  have hmv : IntKind.u64.wrap (IntKind.u64.wrap 4294967296 - 1) = 4294967295 := by
    rw [IntKind.wrap_u64, IntKind.wrap_u64]
    decide
  obtain ⟨E, hE⟩ : ∃ E, E = hexE (bs t) := ⟨_, rfl⟩
  rw [← hE]
  have HE := Lib.hid hE
  clear hE
  go_enter Tryz.func180, Tryz.ntmps180
  go_wp2
  go_loop [12, 13, 101] (fun vu vn vi => ∃ (k : Nat), vu = .bool false ∧ vn = .int .u64 (hexV ((bs t).take k)) ∧ vi = .int .i64 k ∧ k ≤ t.size ∧ hexOK ((bs t).take k) = true) (fun _ _ vi => t.size - (intOf vi).toNat)
  case atStart => exact ⟨0, rfl, rfl, rfl, by omega, rfl⟩
  case round =>
    obtain ⟨k, rfl, rfl, rfl, hk, hok⟩ := hrel
    have hbd := hexV_bd hok
    rw [List.length_take, bs_length] at hbd
    have HOK := Lib.hid hok
    clear hok
    by_cases hlt : k < t.size
    · have ck := HB.out k hlt
      have HTk : Hid ((bs t).take (k + 1) = (bs t).take k ++ [(t[k].toNat : Int)]) := Lib.hid (by rw [List.take_add_one, bs_get t k hlt]; rfl)
      obtain ⟨c, hc⟩ : ∃ c, c = (t[k].toNat : Int) := ⟨_, rfl⟩
      have hby : IsByte c := by rw [hc]; exact byte_bd _
      have hp := pow16 k (by omega)
      have hmin : min k t.size = k := by omega
      rw [hmin] at hbd
      have HV : Hid (hexV ((bs t).take (k + 1)) = 16 * hexV ((bs t).take k) + hexD c) := Lib.hid (by rw [HTk.out, hexV_snoc, hc])
      have HO : Hid (hexOK ((bs t).take (k + 1)) = decide (0 ≤ hexD c)) := Lib.hid (by rw [HTk.out, hexOK_snoc, HOK.out, Bool.true_and, hc])
      rw [← hc] at ck
      obtain ⟨c0, c1⟩ := hby
      clear hc HTk HOK hmin
      generalize hexV ((bs t).take k) = a at *
      obtain ⟨a0, a1⟩ := hbd
      have a2 : a ≤ 268435455 := by omega
      clear a1 hp
      by_cases hA : 48 ≤ c ∧ c ≤ 57
      · obtain ⟨hA1, hA2⟩ := hA
        have HD : Hid (hexD c = c - 48) := Lib.hid (by unfold hexD; rw [if_pos ⟨hA1, hA2⟩])
        have e95 : (c == 95) = false := by simp; omega
        have d1 : decide (48 ≤ c) = true := by simpa using hA1
        have d2 : decide (c ≤ 57) = true := by simpa using hA2
        have W1 : IntKind.u8.wrap (c - 48) = c - 48 := IntWalk.u8_in _ (by omega)
        have W2 : IntKind.u64.wrap (a * 16) = a * 16 := IntWalk.u64_in _ (by omega)
        have W3 : IntKind.u64.wrap (a * 16 + (c - 48)) = a * 16 + (c - 48) := IntWalk.u64_in _ (by omega)
        go_wp2
        go_round
        case rel => exact ⟨k + 1, rfl, by rw [HV.out, HD.out]; go_num, by go_num, by omega, by rw [HO.out, HD.out]; simp; omega⟩
        case measure => simp [intOf]; omega
      · have C := fun W => lower_any c ⟨c0, c1⟩ W
        have hL : (lowC c = c + 32 ∧ c / 32 % 2 = 0) ∨ (lowC c = c ∧ ¬ c / 32 % 2 = 0) := by
          unfold lowC
          split
          · left; exact ⟨rfl, by assumption⟩
          · right; exact ⟨rfl, by assumption⟩
        obtain ⟨L, hLe⟩ : ∃ L, L = lowC c := ⟨_, rfl⟩
        rw [← hLe] at C hL
        clear hLe
        have l0 : 0 ≤ L := by omega
        have l1 : L ≤ 255 := by omega
        by_cases hB1 : 97 ≤ L ∧ L ≤ 102
        · obtain ⟨hB1, hB2⟩ := hB1
          have HD : Hid (hexD c = L - 97 + 10) := Lib.hid (by unfold hexD; rw [if_neg hA]; by_cases h65 : 65 ≤ c ∧ c ≤ 70
                                                              · rw [if_pos h65]; omega
                                                              · rw [if_neg h65, if_pos (by omega)]; omega)
          have HC := Lib.hid C
          have hr : 0 ≤ hexD c := by rw [HD.out]; omega
          have HR := Lib.hid hr
          have e95 : (c == 95) = false := by simp; omega
          have d3 : decide (97 ≤ L) = true := by simpa using hB1
          have d4 : decide (L ≤ 122) = true := by simp; omega
          have W0 : IntKind.u8.wrap (L - 97) = L - 97 := IntWalk.u8_in _ (by omega)
          have W1 : IntKind.u8.wrap (L - 97 + 10) = L - 97 + 10 := IntWalk.u8_in _ (by omega)
          have W2 : IntKind.u64.wrap (a * 16) = a * 16 := IntWalk.u64_in _ (by omega)
          have W3 : IntKind.u64.wrap (a * 16 + (L - 97 + 10)) = a * 16 + (L - 97 + 10) := IntWalk.u64_in _ (by omega)
          have d1 : decide (48 ≤ c) = true := by simp; omega
          have d2 : decide (c ≤ 57) = false := by simp; omega
          clear hL C hr
          go_wp2_with (go_at_call 184; refine (HC.out _).mono ?_; rintro e w' ⟨rfl, rfl⟩)
          go_round
          case rel => exact ⟨k + 1, rfl, by rw [HV.out, HD.out]; go_num, by go_num, by omega, by rw [HO.out]; exact decide_eq_true HR.out⟩
          case measure => simp [intOf]; omega
        · have HC := Lib.hid C
          have HD : Hid (hexD c = -1) := Lib.hid (by unfold hexD; rw [if_neg hA, if_neg (by omega), if_neg (by omega)])
          have HX : Hid (E = .returned (.tuple #[.int .u64 0, .iface 211 (.int .i64 2)])) := Lib.hid (by
            rw [HE.out]
            unfold hexE
            rw [if_neg]
            rw [hexOK_cut (k := k + 1) (by rw [HO.out, HD.out]; rfl)]
            decide)
          clear HE HV HO HD C
          by_cases h97 : 97 ≤ L
          · have d3 : decide (97 ≤ L) = true := by simpa using h97
            by_cases h122 : L ≤ 122
            · have d4 : decide (L ≤ 122) = true := by simpa using h122
              have W0 : IntKind.u8.wrap (L - 97) = L - 97 := IntWalk.u8_in _ (by omega)
              have W1 : IntKind.u8.wrap (L - 97 + 10) = L - 97 + 10 := IntWalk.u8_in _ (by omega)
              have d5 : decide (16 ≤ L - 97 + 10) = true := by simp; omega
              have e95 : (c == 95) = false := by simp; omega
              have d1 : decide (48 ≤ c) = true := by simp; omega
              have d2 : decide (c ≤ 57) = false := by simp; omega
              clear hL hA hB1
              go_wp2_with (go_at_call 184; refine (HC.out _).mono ?_; rintro e w' ⟨rfl, rfl⟩)
              go_ret2
              exact ⟨HX.out.symm, HBl.out⟩
            · have d4 : decide (L ≤ 122) = false := by simpa using h122
              by_cases h48 : 48 ≤ c
              · have d1 : decide (48 ≤ c) = true := by simpa using h48
                have d2 : decide (c ≤ 57) = false := by simp; omega
                by_cases h95 : c = 95
                · have e95 : (c == 95) = true := by simpa using h95
                  clear hL hA hB1 h95
                  go_wp2_with (go_at_call 184; refine (HC.out _).mono ?_; rintro e w' ⟨rfl, rfl⟩)
                  go_ret2
                  exact ⟨HX.out.symm, HBl.out⟩
                · have e95 : (c == 95) = false := by simpa using h95
                  clear hL hA hB1 h95
                  go_wp2_with (go_at_call 184; refine (HC.out _).mono ?_; rintro e w' ⟨rfl, rfl⟩)
                  go_ret2
                  exact ⟨HX.out.symm, HBl.out⟩
              · have d1 : decide (48 ≤ c) = false := by simpa using h48
                have e95 : (c == 95) = false := by simp; omega
                clear hL hA hB1
                go_wp2_with (go_at_call 184; refine (HC.out _).mono ?_; rintro e w' ⟨rfl, rfl⟩)
                go_ret2
                exact ⟨HX.out.symm, HBl.out⟩
          · have d3 : decide (97 ≤ L) = false := by simpa using h97
            by_cases h48 : 48 ≤ c
            · have d1 : decide (48 ≤ c) = true := by simpa using h48
              have d2 : decide (c ≤ 57) = false := by simp; omega
              by_cases h95 : c = 95
              · exfalso
                omega
              · have e95 : (c == 95) = false := by simpa using h95
                clear hL hA hB1 h95
                go_wp2_with (go_at_call 184; refine (HC.out _).mono ?_; rintro e w' ⟨rfl, rfl⟩)
                go_ret2
                exact ⟨HX.out.symm, HBl.out⟩
            · have d1 : decide (48 ≤ c) = false := by simpa using h48
              have e95 : (c == 95) = false := by simp; omega
              clear hL hA hB1
              go_wp2_with (go_at_call 184; refine (HC.out _).mono ?_; rintro e w' ⟨rfl, rfl⟩)
              go_ret2
              exact ⟨HX.out.symm, HBl.out⟩
    · obtain rfl : k = t.size := by omega
      have hall : (bs t).take t.size = bs t := List.take_of_length_le (by rw [bs_length]; exact Nat.le_refl _)
      have HX : Hid (E = .returned (.tuple #[.int .u64 (hexV ((bs t).take t.size)), .nilIface])) := Lib.hid (by
        rw [HE.out]
        unfold hexE
        rw [hall] at HOK ⊢
        rw [if_pos HOK.out])
      clear hall HOK HE hbd
      generalize hexV ((bs t).take t.size) = a at *
      go_wp2
      go_ret2
      exact ⟨HX.out.symm, HBl.out⟩

/-- What strconv.ParseUint answers at base 16. -/
def ParsedHex (l : List Int) (w : World) (e : Ending) (w' : World) : Prop :=
  Below w.heap.size w w' ∧ if hexOK l = true then e = .returned (.tuple #[.int .u64 (hexV l), .nilIface]) else ∃ tp p, e = .returned (.tuple #[.int .u64 0, .iface tp p])

set_option maxRecDepth 100000 in
set_option maxHeartbeats 4000000 in
theorem parse_any (t : ByteArray) (h0 : 0 < t.size) (h8 : t.size ≤ 8) (w : World) (hv : ErrVar w) :
    Calls Tryz.prog 175 #[.string t, .int .i64 16, .int .i64 32] w (ParsedHex (bs t) w) := by
  have HI := parseIn_any t h0 h8 w
  obtain ⟨F, hF⟩ : ∃ F, F = ParsedHex (bs t) w := ⟨_, rfl⟩
  rw [← hF]
  have HF := Lib.hid hF
  clear hF
  have HV := Lib.hid hv
  clear hv
  unfold hexE at HI
  cases hk : hexOK (bs t) with
  | true =>
    rw [if_pos hk] at HI
    have HX : Hid (∀ W, Below w.heap.size w W → F (.returned (.tuple #[.int .u64 (hexV (bs t)), .nilIface])) W) := Lib.hid (fun W hW => by
      rw [HF.out]
      unfold ParsedHex
      rw [if_pos hk]
      exact ⟨hW, rfl⟩)
    have HC := Lib.hid HI
    clear HI HF hk
    go_enter Tryz.func175, Tryz.ntmps175
    go_wp2_with (go_at_call 180; refine HC.out.mono ?_; rintro e w1 ⟨rfl, hB1⟩)
    exact HX.out _ hB1
  | false =>
    rw [if_neg (by rw [hk]; decide)] at HI
    have HX : Hid (∀ W tp p, Below w.heap.size w W → F (.returned (.tuple #[.int .u64 0, .iface tp p])) W) := Lib.hid (fun W tp p hW => by
      rw [HF.out]
      unfold ParsedHex
      rw [if_neg (by rw [hk]; decide)]
      exact ⟨hW, tp, p, rfl⟩)
    have HC := Lib.hid HI
    have HT : Hid (∀ W, Below w.heap.size w W → Calls Tryz.prog 181 #[.string ⟨#[80, 97, 114, 115, 101, 85, 105, 110, 116]⟩, .string t, .int .i64 16, .int .i64 32, .iface 211 (.int .i64 2)] W fun e w' => ∃ N, e = .returned (.iface 212 (.pointer (some ⟨N, 0, none⟩))) ∧ Below W.heap.size W w') := Lib.hid (fun W hW => by
      obtain ⟨ev, h1, h2⟩ := HV.out.below hW
      refine (AnyPu.strconv_toError_syntax Tryz.toErrT _ t 16 32 ev W (by omega) h1 h2).mono ?_
      rintro e w' ⟨N, he, _, _, hb⟩
      exact ⟨N, he, hb⟩)
    clear HI HF hk
    go_enter Tryz.func175, Tryz.ntmps175
    go_wp2_with (go_at_call 180; refine HC.out.mono ?_; rintro e w1 ⟨rfl, hB1⟩)
    refine (HT.out _ hB1).mono ?_
    rintro e w2 ⟨N, rfl, hB2⟩
    go_wp2
    exact HX.out _ _ _ (below_next hB1 hB2)

theorem pow16' (k : Nat) (hk : k = 4 ∨ k = 8) : (16 : Int) ^ k ≤ 4294967296 := by
  rcases hk with rfl | rfl <;> decide
/-- What numbered answers: a rune's bytes, and how many bytes it has itself. -/
def Numbered (k : Nat) (l : List Int) (w : World) (e : Ending) (w' : World) : Prop :=
  Below w.heap.size w w' ∧
  match numL k l with
  | none => e = badE
  | some (b, n) => ∃ g cap, e = .returned (.tuple #[.slice (some ⟨g, 0, none⟩) b.length cap, .int .i64 (n : Nat)]) ∧ (∀ (j : Nat) (u : Value), (b.map (Value.int .u8))[j]? = some u → w'.cell? ((⟨g, 0, none⟩ : Addr).add j) = some u)
theorem own_cells {w : World} {B : Nat} {v : Value} {n : Nat} {b : List Int} (h : w.ownsRow B 5 1 v n (b.map (Value.int .u8))) (hn : 0 < n) : ∃ g cap, v = .slice (some ⟨g, 0, none⟩) n cap ∧ b.length = n ∧ ∀ (j : Nat) (u : Value), (b.map (Value.int .u8))[j]? = some u → w.cell? ((⟨g, 0, none⟩ : Addr).add j) = some u := by
  obtain ⟨g, cap, rfl, _, _, hl, _⟩ := owns_some h hn
  exact ⟨g, cap, rfl, hl, h.cells rfl⟩

set_option maxRecDepth 100000 in
set_option maxHeartbeats 4000000 in
theorem numbered_any (q : ByteArray) (x : Int) (l : List Int) (hq : bs q = 92 :: x :: l) (k : Nat) (hk : k = 4 ∨ k = 8) (hs : q.size ≤ 1000000000) (w : World) (hv : ErrVar w) :
    Calls Tryz.prog 165 #[.string q, .int .i64 (k : Nat)] w (Numbered k l w) := by
  have hsz : q.size = l.length + 2 := by rw [← bs_length, hq]; rfl
  obtain ⟨F, hF⟩ : ∃ F, F = Numbered k l w := ⟨_, rfl⟩
  rw [← hF]
  have HF := Lib.hid hF
  clear hF
  have W0 : IntKind.i64.wrap (2 + (k : Int)) = 2 + (k : Int) := IntWalk.i64_in _ (by omega)
  by_cases hlen : k ≤ l.length
  · have hmid : bs (q.extract 2 (2 + k)) = l.take k := by
      rw [bs_mid, hq]
      rfl
    have hm8 : (q.extract 2 (2 + k)).size = k := by simp; omega
    have HP := parse_any (q.extract 2 (2 + k)) (by omega) (by omega) w hv
    rw [hmid] at HP
    unfold ParsedHex at HP
    have d0 : decide ((q.size : Int) < 2 + (k : Int)) = false := by simp; omega
    have b0 : (0 : Int) ≤ 2 + (k : Int) := by omega
    have b1 : 2 + (k : Int) ≤ (q.size : Int) := by omega
    have b2 : (2 : Int) ≤ 2 + (k : Int) := by omega
    have e2 : (2 + (k : Int)).toNat = 2 + k := by omega
    clear hm8
    cases hok : hexOK (l.take k) with
    | false =>
      have HP2 := HP.mono (R' := fun e w' => Below w.heap.size w w' ∧ ∃ tp p, e = .returned (.tuple #[.int .u64 0, .iface tp p])) (fun e w' h => ⟨h.1, by have h2 := h.2; rwa [if_neg (by rw [hok]; decide)] at h2⟩)
      have HX : Hid (∀ W, Below w.heap.size w W → F badE W) := Lib.hid (fun W hW => by
        rw [HF.out]
        unfold Numbered numL
        rw [if_neg (by rw [hok]; intro h; exact absurd h.2.1 (by decide))]
        exact ⟨hW, rfl⟩)
      have HC := Lib.hid HP2
      clear HP HP2 hok hmid hq HF
      go_enter Tryz.func165, Tryz.ntmps165
      go_wp2_with (go_at_call 175; refine HC.out.mono ?_; rintro e w1 ⟨hB1, tp, p, rfl⟩)
      exact ⟨rfl, HX.out _ hB1⟩
    | true =>
      have hbd := hexV_bd hok
      rw [List.length_take] at hbd
      have hb8 := pow16' k hk
      have hmin : min k l.length = k := by omega
      rw [hmin] at hbd
      have HP2 := HP.mono (R' := fun e w' => Below w.heap.size w w' ∧ e = .returned (.tuple #[.int .u64 (hexV (l.take k)), .nilIface])) (fun e w' h => ⟨h.1, by have h2 := h.2; rwa [if_pos hok] at h2⟩)
      by_cases hmay : May (hexV (l.take k))
      · have HX : Hid (∀ W g cap, Below w.heap.size w W → (∀ (j : Nat) (u : Value), ((enc (hexV (l.take k))).map (Value.int .u8))[j]? = some u → W.cell? ((⟨g, 0, none⟩ : Addr).add j) = some u) → F (.returned (.tuple #[.slice (some ⟨g, 0, none⟩) (enc (hexV (l.take k))).length cap, .int .i64 ((2 + k : Nat) : Int)])) W) := Lib.hid (fun W g cap hW hc => by
          rw [HF.out]
          unfold Numbered numL
          rw [if_pos ⟨hlen, hok, hmay⟩]
          exact ⟨hW, g, cap, rfl, hc⟩)
        have HM := Lib.hid (fun W => put_any (hexV (l.take k)) W hmay)
        have hr0 := rsize_pos.2 hmay
        have hre := rsize_enc hmay
        have ek : ((2 + k : Nat) : Int) = 2 + (k : Int) := by omega
        rw [ek] at HX
        have HC := Lib.hid HP2
        rw [← hre] at HX
        obtain ⟨a0, a1⟩ := hbd
        clear HP HP2 hok hmid hq HF hre hmin ek hmay
        generalize hexV (l.take k) = a at *
        have W1 : IntKind.i64.wrap a = a := IntWalk.i64_in _ (by omega)
        have HR0 := Lib.hid hr0
        clear hr0
        go_enter Tryz.func165, Tryz.ntmps165
        go_wp2_with (go_at_call 175; refine HC.out.mono ?_; rintro e w1 ⟨hB1, rfl⟩)
        have HB1 := Lib.hid hB1
        clear hB1
        refine (HM.out w1).mono ?_
        rintro e w2 ⟨v', rfl, hown, hB2⟩
        obtain ⟨g, cap, rfl, hl, hcells⟩ := own_cells hown HR0.out
        have HF2 := Lib.hid (HX.out w2 g cap (below_next HB1.out hB2) hcells)
        clear hown hcells hB2 hl
        go_wp2
        exact HF2.out
      · have HX : Hid (∀ W, Below w.heap.size w W → F badE W) := Lib.hid (fun W hW => by
          rw [HF.out]
          unfold Numbered numL
          rw [if_neg (fun h => hmay h.2.2)]
          exact ⟨hW, rfl⟩)
        have HM := Lib.hid (fun W => put_none (hexV (l.take k)) W hmay)
        have HC := Lib.hid HP2
        obtain ⟨a0, a1⟩ := hbd
        clear HP HP2 hok hmid hq HF hmin hmay
        generalize hexV (l.take k) = a at *
        have W1 : IntKind.i64.wrap a = a := IntWalk.i64_in _ (by omega)
        go_enter Tryz.func165, Tryz.ntmps165
        go_wp2_with (go_at_call 175; refine HC.out.mono ?_; rintro e w1 ⟨hB1, rfl⟩)
        have HB1 := Lib.hid hB1
        clear hB1
        refine (HM.out w1).mono ?_
        rintro e w2 ⟨rfl, hB2⟩
        go_wp2
        exact ⟨rfl, HX.out _ (below_next HB1.out hB2)⟩
  · have d0 : decide ((q.size : Int) < 2 + (k : Int)) = true := by simp; omega
    have HX : Hid (F badE w) := Lib.hid (by
      rw [HF.out]
      unfold Numbered numL
      rw [if_neg (fun h => hlen h.1)]
      exact ⟨Below.refl _ _, rfl⟩)
    clear HF hq
    go_enter Tryz.func165, Tryz.ntmps165
    go_wp2
    exact ⟨rfl, HX.out⟩

abbrev meansS : ByteArray := ⟨#[9, 8, 10, 13, 12, 34, 39, 92]⟩
theorem index_means (W : World) : ∀ j : Nat, j < 8 → (Instr.index 9 (.string meansS) (.int .i64 (j : Nat))).run Tryz.prog W = .ok (.int .u8 ((bs meansS).getD j 0)) W := by
  have H : ∀ p : Nat → Prop, (p 0 ∧ p 1 ∧ p 2 ∧ p 3 ∧ p 4 ∧ p 5 ∧ p 6 ∧ p 7) → ∀ k, k < 8 → p k := by
    intro p h k hk
    match k, hk with
    | 0, _ => exact h.1
    | 1, _ => exact h.2.1
    | 2, _ => exact h.2.2.1
    | 3, _ => exact h.2.2.2.1
    | 4, _ => exact h.2.2.2.2.1
    | 5, _ => exact h.2.2.2.2.2.1
    | 6, _ => exact h.2.2.2.2.2.2.1
    | 7, _ => exact h.2.2.2.2.2.2.2
    | n + 8, h => omega
  exact H _ ⟨by kernel_rfl, by kernel_rfl, by kernel_rfl, by kernel_rfl, by kernel_rfl, by kernel_rfl, by kernel_rfl, by kernel_rfl⟩
def shortB (c : Nat) : Bool :=
  match shortE c with
  | none => decide (Lib.indexByte (sigS true).data.toList c.toUInt8 = -1)
  | some y => decide (0 ≤ Lib.indexByte (sigS true).data.toList c.toUInt8) && decide (Lib.indexByte (sigS true).data.toList c.toUInt8 < 8) && decide ((bs meansS).getD (Lib.indexByte (sigS true).data.toList c.toUInt8).toNat 0 = y)
theorem short_all : ∀ c : Fin 256, shortB c.val = true := by decide +kernel

set_option maxRecDepth 100000 in
set_option maxHeartbeats 4000000 in
theorem lexEscape_any : EscOK := by
  intro all q l w hq hs hv
  obtain ⟨F, hF⟩ : ∃ F, F = Escaped all l w := ⟨_, rfl⟩
  rw [← hF]
  have HF := Lib.hid hF
  clear hF
  cases l with
  | nil =>
    have hsz : q.size = 1 := by rw [← bs_length, hq]; rfl
    have HX : Hid (F badE w) := Lib.hid (by rw [HF.out]; exact ⟨Below.refl _ _, rfl⟩)
    have e1 : ((q.size : Int) == 1) = true := by simp [hsz]
    clear HF hq hsz
    go_enter Tryz.func155, Tryz.ntmps155
    go_wp2
    exact ⟨rfl, HX.out⟩
  | cons c r =>
    have hsz : q.size = r.length + 2 := by rw [← bs_length, hq]; rfl
    have hlt : 1 < q.size := by omega
    have hc : (q[1].toNat : Int) = c := by
      have := bs_get q 1 hlt
      rw [hq] at this
      simpa using this.symm
    have e1 : ((q.size : Int) == 1) = false := by simp; omega
    have b1 : (1 : Int) < (q.size : Int) := by omega
    have hby : IsByte c := by rw [← hc]; exact byte_bd _
    by_cases h117 : c = 117
    · skip
      have HN := numbered_any q c r hq 4 (.inl rfl) hs w hv
      have he : escL all (c :: r) = numL 4 r := by rw [escL, if_pos h117]
      have e117 : ((q[1].toNat : Int) == 117) = true := by rw [hc]; simpa using h117
      cases hn : numL 4 r with
      | none =>
        have HC : Hid (Calls Tryz.prog 165 #[.string q, .int .i64 4] w fun e w' => Below w.heap.size w w' ∧ e = badE) := Lib.hid (HN.mono (fun e w' h => by unfold Numbered at h; rw [hn] at h; exact h))
        have HX : Hid (∀ W, Below w.heap.size w W → F badE W) := Lib.hid (fun W hW => by
          rw [HF.out]
          unfold Escaped
          rw [he, hn]
          exact ⟨hW, rfl⟩)
        clear HF hq HN he hn hc hsz h117
        go_enter Tryz.func155, Tryz.ntmps155
        go_wp2_with (go_at_call 165; refine HC.out.mono ?_; rintro e w1 ⟨hB1, rfl⟩)
        exact ⟨rfl, HX.out _ hB1⟩
      | some z =>
        obtain ⟨b, n⟩ := z
        have HC : Hid (Calls Tryz.prog 165 #[.string q, .int .i64 4] w fun e w' => ∃ g cap, e = .returned (.tuple #[.slice (some ⟨g, 0, none⟩) b.length cap, .int .i64 (n : Nat)]) ∧ F (.returned (.tuple #[.slice (some ⟨g, 0, none⟩) b.length cap, .int .i64 (n : Nat)])) w') := Lib.hid (HN.mono (fun e w' h => by
          unfold Numbered at h
          rw [hn] at h
          obtain ⟨hB, g, cap, rfl, hcl⟩ := h
          refine ⟨g, cap, rfl, ?_⟩
          rw [HF.out]
          unfold Escaped
          rw [he, hn]
          exact ⟨hB, g, cap, rfl, hcl⟩))
        clear HF hq HN he hn hc hsz h117
        go_enter Tryz.func155, Tryz.ntmps155
        go_wp2_with (go_at_call 165; refine HC.out.mono ?_; rintro e w1 ⟨g, cap, rfl, hF1⟩)
        exact hF1
    · have e117 : ((q[1].toNat : Int) == 117) = false := by rw [hc]; simpa using h117
      by_cases h85 : c = 85
      · skip
        have HN := numbered_any q c r hq 8 (.inr rfl) hs w hv
        have he : escL all (c :: r) = numL 8 r := by rw [escL, if_neg h117, if_pos h85]
        have e85 : ((q[1].toNat : Int) == 85) = true := by rw [hc]; simpa using h85
        cases hn : numL 8 r with
        | none =>
          have HC : Hid (Calls Tryz.prog 165 #[.string q, .int .i64 8] w fun e w' => Below w.heap.size w w' ∧ e = badE) := Lib.hid (HN.mono (fun e w' h => by unfold Numbered at h; rw [hn] at h; exact h))
          have HX : Hid (∀ W, Below w.heap.size w W → F badE W) := Lib.hid (fun W hW => by
            rw [HF.out]
            unfold Escaped
            rw [he, hn]
            exact ⟨hW, rfl⟩)
          clear HF hq HN he hn hc hsz h85 h117
          go_enter Tryz.func155, Tryz.ntmps155
          go_wp2_with (go_at_call 165; refine HC.out.mono ?_; rintro e w1 ⟨hB1, rfl⟩)
          exact ⟨rfl, HX.out _ hB1⟩
        | some z =>
          obtain ⟨b, n⟩ := z
          have HC : Hid (Calls Tryz.prog 165 #[.string q, .int .i64 8] w fun e w' => ∃ g cap, e = .returned (.tuple #[.slice (some ⟨g, 0, none⟩) b.length cap, .int .i64 (n : Nat)]) ∧ F (.returned (.tuple #[.slice (some ⟨g, 0, none⟩) b.length cap, .int .i64 (n : Nat)])) w') := Lib.hid (HN.mono (fun e w' h => by
            unfold Numbered at h
            rw [hn] at h
            obtain ⟨hB, g, cap, rfl, hcl⟩ := h
            refine ⟨g, cap, rfl, ?_⟩
            rw [HF.out]
            unfold Escaped
            rw [he, hn]
            exact ⟨hB, g, cap, rfl, hcl⟩))
          clear HF hq HN he hn hc hsz h85 h117
          go_enter Tryz.func155, Tryz.ntmps155
          go_wp2_with (go_at_call 165; refine HC.out.mono ?_; rintro e w1 ⟨g, cap, rfl, hF1⟩)
          exact hF1
      · have e85 : ((q[1].toNat : Int) == 85) = false := by rw [hc]; simpa using h85
        have HI := Tryz.strings_IndexByte (sigS all) (q[1].toNat : Int) w
        have hu : (q[1].toNat : Int).toNat.toUInt8 = q[1] := by simp
        rw [hu] at HI
        have HXn : escL all (c :: r) = none → Hid (∀ W, Below w.heap.size w W → F badE W) := fun he => Lib.hid (fun W hW => by
          rw [HF.out]
          unfold Escaped
          rw [he]
          exact ⟨hW, rfl⟩)
        have he0 : escL all (c :: r) = if all = true then (shortE c).map (fun x => ([x], 2)) else none := by rw [escL, if_neg h117, if_neg h85]
        cases all with
        | false =>
          have HX := HXn he0
          have hi : Lib.indexByte (sigS false).data.toList q[1] = -1 := rfl
          rw [hi] at HI
          have HC := Lib.hid HI
          clear HF hq HI he0 HXn hi hc hsz h117 h85 hu
          go_enter Tryz.func155, Tryz.ntmps155
          go_wp2_with (go_at_call 156; refine HC.out.mono ?_; rintro e w1 ⟨rfl, rfl⟩)
          exact ⟨rfl, HX.out _ (Below.refl _ _)⟩
        | true =>
          rw [if_pos rfl] at he0
          have hS := short_all ⟨q[1].toNat, q[1].toNat_lt⟩
          unfold shortB at hS
          simp only [hc] at hS
          have hu2 : q[1].toNat.toUInt8 = q[1] := by simp
          rw [hu2] at hS
          cases hsh : shortE c with
          | none =>
            rw [hsh] at hS he0
            have hi : Lib.indexByte (sigS true).data.toList q[1] = -1 := of_decide_eq_true hS
            have HX := HXn he0
            rw [hi] at HI
            have HC := Lib.hid HI
            clear HF hq HI he0 HXn hi hc hsz h117 h85 hu hu2 hS hsh
            go_enter Tryz.func155, Tryz.ntmps155
            go_wp2_with (go_at_call 156; refine HC.out.mono ?_; rintro e w1 ⟨rfl, rfl⟩)
            exact ⟨rfl, HX.out _ (Below.refl _ _)⟩
          | some y =>
            rw [hsh] at hS he0
            simp only [Bool.and_eq_true, decide_eq_true_eq] at hS
            have HX : Hid (∀ W g, Below w.heap.size w W → W.cell? ⟨g, 0, none⟩ = some (.int .u8 y) → F (.returned (.tuple #[.slice (some ⟨g, 0, none⟩) 1 1, .int .i64 2])) W) := Lib.hid (fun W g hW hcell => by
              rw [HF.out]
              unfold Escaped
              rw [he0]
              refine ⟨hW, g, 1, rfl, ?_⟩
              intro j u hj
              match j, hj with
              | 0, hj =>
                simp at hj
                subst hj
                simpa [Addr.add] using hcell
              | j + 1, hj => simp at hj)
            generalize Lib.indexByte (sigS true).data.toList q[1] = i at *
            obtain ⟨⟨i0, i8⟩, hy⟩ := hS
            obtain ⟨m, rfl⟩ : ∃ m : Nat, i = m := ⟨i.toNat, by omega⟩
            have hm8 : m < 8 := by omega
            have hix := fun W => index_means W m hm8
            rw [Int.toNat_natCast] at hy
            rw [hy] at hix
            have HC := Lib.hid HI
            have dn : decide ((m : Int) < 0) = false := by simp
            clear HF hq HI he0 HXn hc hsz h117 h85 hu hu2 hsh hy i0 i8
            go_enter Tryz.func155, Tryz.ntmps155
            go_wp2_with (go_at_call 156; refine HC.out.mono ?_; rintro e w1 ⟨rfl, rfl⟩)
            refine HX.out _ _ (below_lex _ _) ?_
            exact (block_new _ _ _).cell (j := 0) rfl
end Go.Proofs.YtbcoklbfebmpoaaGreatDoor

