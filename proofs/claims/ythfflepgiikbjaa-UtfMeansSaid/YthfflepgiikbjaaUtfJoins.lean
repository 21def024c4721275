/-
  THE LAW UtfJoins: THE WALK.
-/
import Derived.Test.YthfflepgiikbjaaUtfTexts
import Derived.Test.YthfflepgiikbjaaUtfText
namespace Go.Proofs.Ythfflepgiikbjaa
open Go.RowKit
open Utf

theorem bs_append (s t : ByteArray) : bs (s ++ t) = bs s ++ bs t := by
  unfold bs
  rw [ByteArray.data_append, Array.toList_append, List.map_append]

theorem valid_yes (s : ByteArray) (w : World) (hs : s.size ≤ 100000) {b : Bool} (h : valid (bs s) = b) :
    Calls Try.prog 16 #[.string s] w fun e W' => e = .returned (.bool b) ∧ Below w.heap.size w W' :=
  (valid_any s w (by omega)).mono fun e W' ⟨he, hw⟩ => ⟨by rw [he, h], hw⟩
theorem len_is (s : ByteArray) (w : World) (hs : s.size ≤ 100000) {n : Nat} (h : (allR (bs s)).length = n) :
    Calls Try.prog 17 #[.string s] w fun e W' => e = .returned (.int .i64 (n : Nat)) ∧ Below w.heap.size w W' :=
  (len_any s w (by omega)).mono fun e W' ⟨he, hw⟩ => ⟨by rw [he, h], hw⟩

set_option maxRecDepth 100000 in
set_option maxHeartbeats 2000000 in
theorem utfJoins_no (s t : ByteArray) (cut : Int) (w : World) (hm : s.size ≤ 9223372036854775807) (hmt : t.size ≤ 9223372036854775807) (h : 3000 < s.size ∨ 3000 < t.size ∨ valid (bs s) = false) :
    Calls Try.prog 7 #[.string s, .string t, .int .i64 cut] w fun e w' => e = .returned (.bool true) ∧ Below w.heap.size w w' := by
  by_cases h1 : 3000 < s.size
  · clear h
    have ds : decide ((3000 : Int) < (s.size : Int)) = true := by simp; omega
    go_enter Try.func7, Try.ntmps7
    go_wp2_with (go_at_call 8; refine (known_any _).mono ?_; rintro e w' ⟨rfl, hB⟩)
    go_ret
    exact ⟨rfl, hB⟩
  by_cases h2 : 3000 < t.size
  · have h3 : s.size ≤ 3000 := by omega
    clear h h1
    have ds : decide ((3000 : Int) < (s.size : Int)) = false := by simp; omega
    have dt : decide ((3000 : Int) < (t.size : Int)) = true := by simp; omega
    go_enter Try.func7, Try.ntmps7
    go_wp2_with (go_at_call 8; refine (known_any _).mono ?_; rintro e w' ⟨rfl, hB⟩)
    go_ret
    exact ⟨rfl, hB⟩
  · have h3 : s.size ≤ 3000 := by omega
    have h4 : t.size ≤ 3000 := by omega
    have HV := Lib.hid (fun w => valid_yes s w (by omega) (b := false) (by rcases h with h | h | h; omega; omega; exact h))
    clear h h1 h2
    have ds : decide ((3000 : Int) < (s.size : Int)) = false := by simp; omega
    have dt : decide ((3000 : Int) < (t.size : Int)) = false := by simp; omega
    go_enter Try.func7, Try.ntmps7
    go_wp2_with (first | (go_at_call 16; refine (HV.out _).mono ?_; rintro e w1 ⟨rfl, hB1⟩) | (go_at_call 8; refine (known_any _).mono ?_; rintro e w' ⟨rfl, hB⟩))
    go_ret
    exact ⟨rfl, below_chain hB1 hB⟩

namespace Utf
/-- 'begins' when k runes have been gone over. -/
def bgs (l : List Int) (c k : Nat) : Bool := ((c : Int) == (l.length : Int)) || ((allR l).take k).any fun x => (x.1.1 : Int) == (c : Int)
theorem bgs_zero (l : List Int) (c : Nat) : bgs l c 0 = ((c : Int) == (l.length : Int)) := by simp [bgs]
theorem bgs_succ (l : List Int) (c k : Nat) (h : k < (allR l).length) : bgs l c (k + 1) = (bgs l c k || ((allR l)[k].1.1 : Int) == (c : Int)) := by
  unfold bgs
  rw [List.take_add_one, List.any_append, List.getElem?_eq_getElem h]
  simp [Bool.or_assoc]
theorem bgs_iff {rs : List Int} {c : Nat} (h : AllMay rs) (hl : (encs rs).length ≤ 100000) : bgs (encs rs) c (allR (encs rs)).length = true ↔ Begins rs c := by
  have hb := begins_iff rs 0 c h
  unfold bgs Begins
  rw [List.take_length, Bool.or_eq_true, beq_iff_eq, List.any_eq_true]
  simp only [Nat.zero_add] at hb
  rw [← hb]
  have e := allR_encs h (by omega)
  constructor
  · rintro (h | ⟨x, hx, h⟩)
    · left; omega
    · right
      refine ⟨x.1, by rw [← e]; exact List.mem_map_of_mem hx, ?_⟩
      rw [beq_iff_eq] at h; omega
  · rintro (h | ⟨x, hx, h⟩)
    · left; omega
    · right
      rw [← e, List.mem_map] at hx
      obtain ⟨y, hy, rfl⟩ := hx
      exact ⟨y, hy, by rw [beq_iff_eq]; omega⟩
theorem cut_facts {l : List Int} {c : Nat} (hl : l.length ≤ 100000) (h : valid l = true) (hc : c ≤ l.length) : valid (l.take c) = bgs l c (allR l).length ∧ valid (l.drop c) = bgs l c (allR l).length := by
  obtain ⟨rs, h1, rfl⟩ := (valid_iff (by omega)).1 h
  have hb := bgs_iff (c := c) h1 hl
  refine ⟨?_, ?_⟩
  · rw [Bool.eq_iff_iff, hb, valid_take h1 hl]
    constructor
    · intro k
      by_cases hlt : c < (encs rs).length
      · exact k hlt
      · exact ⟨rs, [], by simp, by omega⟩
    · intro k _; exact k
  · rw [Bool.eq_iff_iff, hb, valid_drop h1 hl hc]
end Utf

set_option maxRecDepth 100000 in
set_option maxHeartbeats 4000000 in
theorem utfJoins_out (s t : ByteArray) (cut : Int) (w : World) (hs : s.size ≤ 3000) (ht : t.size ≤ 3000) (h : valid (bs s) = true) (hcut : cut < 0 ∨ (s.size : Int) < cut) :
    Calls Try.prog 7 #[.string s, .string t, .int .i64 cut] w fun e w' => e = .returned (.bool true) ∧ Below w.heap.size w w' := by
  have HV := Lib.hid (fun w => valid_yes s w (by omega) h)
  have hbs : (bs s).length ≤ 100000 := by rw [bs_length]; omega
  have hbt : (bs t).length ≤ 100000 := by rw [bs_length]; omega
  have HLE := Lib.hid (fun k => len_join hbs hbt h k)
  have HS := Lib.hid (fun w => len_is s w (by omega) rfl)
  have HT := Lib.hid (fun w => len_is t w (by omega) rfl)
  have hn1 : (allR (bs s)).length ≤ 3000 := Nat.le_trans (restR_length _ _ _) (by rw [bs_length]; exact hs)
  have hn2 : (allR (bs t)).length ≤ 3000 := Nat.le_trans (restR_length _ _ _) (by rw [bs_length]; exact ht)
  obtain ⟨b, hb⟩ : ∃ b, valid (bs t) = b := ⟨_, rfl⟩
  have HJ := Lib.hid (fun w => valid_yes (s ++ t) w (by rw [ByteArray.size_append]; omega) (by rw [bs_append, valid_join hbs hbt h, hb]))
  have HVT := Lib.hid (fun w => valid_yes t w (by omega) hb)
  have HLJ : Hid (b = true → ∀ w, Calls Try.prog 17 #[.string (s ++ t)] w fun e W' => e = .returned (.int .i64 (((allR (bs s)).length + (allR (bs t)).length : Nat) : Int)) ∧ Below w.heap.size w W') :=
    fun k w => len_is (s ++ t) w (by rw [ByteArray.size_append]; omega) (by rw [bs_append, HLE.out (by rw [hb, k])])
  clear h hbs hbt hb
  have ds : decide ((3000 : Int) < (s.size : Int)) = false := by simp; omega
  have dt : decide ((3000 : Int) < (t.size : Int)) = false := by simp; omega
  obtain ⟨n1, HN1⟩ : ∃ n, Hid ((allR (bs s)).length = n) := ⟨_, rfl⟩
  obtain ⟨n2, HN2⟩ : ∃ n, Hid ((allR (bs t)).length = n) := ⟨_, rfl⟩
  rw [HN1.out] at HLJ HS hn1
  rw [HN2.out] at HLJ HT hn2
  go_enter Try.func7, Try.ntmps7
  go_wp2_with fail
  refine (HV.out _).mono ?_
  rintro e w1 ⟨rfl, hB1⟩
  go_wp2_with fail
  refine (HJ.out _).mono ?_
  rintro e w2 ⟨rfl, hB2⟩
  go_wp2_with fail
  refine (HVT.out _).mono ?_
  rintro e w3 ⟨rfl, hB3⟩
  obtain ⟨wz, HB, hK⟩ : ∃ wz, Hid (Below w.heap.size w wz) ∧ wz = w3 := ⟨w3, below_chain hB1 (below_chain hB2 hB3), rfl⟩
  clear hB1 hB2 hB3
  subst hK
  cases b
  · go_wp2_with fail
    refine (HVT.out _).mono ?_
    rintro e w4 ⟨rfl, hB4⟩
    rcases hcut with hc | hc
    · go_wp2_with (go_at_call 8; refine (known_any _).mono ?_; rintro e w5 ⟨rfl, hB5⟩)
      go_ret
      exact ⟨rfl, below_chain HB.out (below_chain hB4 hB5)⟩
    · have hc0 : 0 ≤ cut := by omega
      have hd0 : decide (cut < 0) = false := by simp; omega
      have hd1 : decide ((s.size : Int) < cut) = true := by simp; omega
      go_wp2_with (go_at_call 8; refine (known_any _).mono ?_; rintro e w5 ⟨rfl, hB5⟩)
      go_ret
      exact ⟨rfl, below_chain HB.out (below_chain hB4 hB5)⟩
  · go_wp2_with fail
    refine (HVT.out _).mono ?_
    rintro e w4 ⟨rfl, hB4⟩
    go_wp2_with fail
    refine (HLJ.out (by simp) _).mono ?_
    rintro e w5 ⟨rfl, hB5⟩
    go_wp2_with fail
    refine (HS.out _).mono ?_
    rintro e w6 ⟨rfl, hB6⟩
    go_wp2_with fail
    refine (HT.out _).mono ?_
    rintro e w7 ⟨rfl, hB7⟩
    have HB2 := Lib.hid (below_chain HB.out (below_chain hB4 (below_chain hB5 (below_chain hB6 hB7))))
    clear hB4 hB5 hB6 hB7
    rcases hcut with hc | hc
    · go_wp2_with (go_at_call 8; refine (known_any _).mono ?_; rintro e w8 ⟨rfl, hB8⟩)
      go_ret
      exact ⟨rfl, below_chain HB2.out hB8⟩
    · have hc0 : 0 ≤ cut := by omega
      have hd0 : decide (cut < 0) = false := by simp; omega
      have hd1 : decide ((s.size : Int) < cut) = true := by simp; omega
      go_wp2_with (go_at_call 8; refine (known_any _).mono ?_; rintro e w8 ⟨rfl, hB8⟩)
      go_ret
      exact ⟨rfl, below_chain HB2.out hB8⟩
theorem slice_to (s : ByteArray) (c : Nat) (h : c ≤ s.size) (w : World) : (Instr.slice 9 (.string s) none (some (.int .i64 (c : Int))) none).run Try.prog w = .ok (.string (s.extract 0 c)) w := by
  rw [run_slice_string_h w 9 s Try.underlying9 .i64 (c : Int) (by omega) (by omega)]
  rw [show (c : Int).toNat = c by omega]

set_option maxRecDepth 100000 in
set_option maxHeartbeats 8000000 in
theorem utfJoins_in (s t : ByteArray) (c : Nat) (w : World) (hs : s.size ≤ 3000) (ht : t.size ≤ 3000) (h : valid (bs s) = true) (hc : c ≤ s.size) :
    Calls Try.prog 7 #[.string s, .string t, .int .i64 (c : Int)] w fun e w' => e = .returned (.bool true) ∧ Below w.heap.size w w' := by
  have HV := Lib.hid (fun w => valid_yes s w (by omega) h)
  have hbs : (bs s).length ≤ 100000 := by rw [bs_length]; omega
  have hbt : (bs t).length ≤ 100000 := by rw [bs_length]; omega
  have HLE := Lib.hid (fun k => len_join hbs hbt h k)
  have HS := Lib.hid (fun w => len_is s w (by omega) rfl)
  have HT := Lib.hid (fun w => len_is t w (by omega) rfl)
  have hn1 : (allR (bs s)).length ≤ 3000 := Nat.le_trans (restR_length _ _ _) (by rw [bs_length]; exact hs)
  have hn2 : (allR (bs t)).length ≤ 3000 := Nat.le_trans (restR_length _ _ _) (by rw [bs_length]; exact ht)
  obtain ⟨b, hb⟩ : ∃ b, valid (bs t) = b := ⟨_, rfl⟩
  have HJ := Lib.hid (fun w => valid_yes (s ++ t) w (by rw [ByteArray.size_append]; omega) (by rw [bs_append, valid_join hbs hbt h, hb]))
  have HVT := Lib.hid (fun w => valid_yes t w (by omega) hb)
  have HLJ : Hid (b = true → ∀ w, Calls Try.prog 17 #[.string (s ++ t)] w fun e W' => e = .returned (.int .i64 (((allR (bs s)).length + (allR (bs t)).length : Nat) : Int)) ∧ Below w.heap.size w W') :=
    fun k w => len_is (s ++ t) w (by rw [ByteArray.size_append]; omega) (by rw [bs_append, HLE.out (by rw [hb, k])])
  have HCF := Lib.hid (cut_facts hbs h (c := c) (by rw [bs_length]; exact hc))
  have HR := Lib.hid (fun w => refrunes_any s w (by omega))
  clear h hbs hbt hb
  have ds : decide ((3000 : Int) < (s.size : Int)) = false := by simp; omega
  have dt : decide ((3000 : Int) < (t.size : Int)) = false := by simp; omega
  obtain ⟨n1, HN1⟩ : ∃ n, Hid ((allR (bs s)).length = n) := ⟨_, rfl⟩
  obtain ⟨n2, HN2⟩ : ∃ n, Hid ((allR (bs t)).length = n) := ⟨_, rfl⟩
  rw [HN1.out] at HLJ HS hn1
  rw [HN2.out] at HLJ HT hn2
  go_enter Try.func7, Try.ntmps7
  go_wp2_with fail
  refine (HV.out _).mono ?_
  rintro e w1 ⟨rfl, hB1⟩
  go_wp2_with fail
  refine (HJ.out _).mono ?_
  rintro e w2 ⟨rfl, hB2⟩
  go_wp2_with fail
  refine (HVT.out _).mono ?_
  rintro e w3 ⟨rfl, hB3⟩
  obtain ⟨wz, HB, hK⟩ : ∃ wz, Hid (Below w.heap.size w wz) ∧ wz = w3 := ⟨w3, below_chain hB1 (below_chain hB2 hB3), rfl⟩
  clear hB1 hB2 hB3
  subst hK
  have hc0 : decide ((c : Int) < 0) = false := by rw [decide_eq_false_iff_not]; omega
  have hc1 : decide ((s.size : Int) < (c : Int)) = false := by rw [decide_eq_false_iff_not]; omega
  cases b
  · go_wp2_with fail
    refine (HVT.out _).mono ?_
    rintro e w4 ⟨rfl, hB4⟩
    have HB2 := Lib.hid (below_chain HB.out hB4)
    clear hB4
    go_wp2_with (go_at_call 15; refine (HR.out _).mono ?_; rintro e wr ⟨v, rfl, hown, hBr⟩)
    obtain ⟨a, cap, rfl, hw⟩ := wantAt_of hown
    clear hown
    have HW := Lib.hid hw
    have HBr := Lib.hid (below_chain HB2.out hBr)
    clear hBr hw
    rw [HN1.out]
    go_wp2_with fail
    go_loop [9, 10] (fun g i => ∃ k : Nat, k ≤ n1 ∧ i = .int .i64 k ∧ g = .bool (bgs (bs s) c k)) (fun _ i => n1 - (intOf i).toNat)
    case atStart => exact ⟨0, by omega, rfl, by rw [bgs_zero, bs_length]⟩
    case round =>
      obtain ⟨k, hk, rfl, rfl⟩ := hrel
      by_cases hlt : k < n1
      · obtain ⟨g, rfl, hg, hcs⟩ : ∃ g, a = some ⟨g, 0, none⟩ ∧ g < wr.heap.size ∧ ∀ i (h : i < (allR (bs s)).length), wr.cell? ⟨g, i * 2, none⟩ = some (.int .i64 ((allR (bs s))[i].1.1 : Int)) ∧ wr.cell? ⟨g, i * 2 + 1, none⟩ = some (.int .i64 (allR (bs s))[i].1.2) := by
          rcases HW.out with h | h
          · have := HN1.out; rw [h] at this; simp at this; omega
          · exact h
        have hkl : k < (allR (bs s)).length := by have := HN1.out; omega
        have q1 := (hcs k hkl).1
        have HS2 := Lib.hid (bgs_succ (bs s) c k hkl)
        generalize ((allR (bs s))[k].1.1 : Int) = y at q1 HS2
        clear hcs hkl
        generalize hb0 : bgs (bs s) c k = b0 at *
        have HB0 := Lib.hid hb0
        clear hb0
        cases b0
        · obtain ⟨b1, hb1⟩ : ∃ b1, (y == (c : Int)) = b1 := ⟨_, rfl⟩
          have HY := Lib.hid hb1
          clear hb1
          go_wp2_with fail
          go_round
          case rel => exact ⟨k + 1, by omega, by simp, by rw [HS2.out]; rfl⟩
          case measure => simp [intOf]; omega
        · go_wp2_with fail
          go_round
          case rel => exact ⟨k + 1, by omega, by simp, by rw [HS2.out]; rfl⟩
          case measure => simp [intOf]; omega
      · obtain rfl : k = n1 := by omega
        rw [HN1.out] at HCF
        generalize bgs (bs s) c k = bb at *
        have HT1 := Lib.hid (fun w => valid_yes (s.extract 0 c) w (by simp; omega) (b := bb) (by rw [bs_extract]; simpa using HCF.out.1))
        have HT2 := Lib.hid (fun w => valid_yes (s.extract c s.size) w (by simp; omega) (b := bb) (by rw [bs_rest]; exact HCF.out.2))
        have hsl := slice_to s c hc
        cases bb
        all_goals
          go_wp2_with fail
          refine (HT1.out _).mono ?_
          rintro e x1 ⟨rfl, hX1⟩
          go_wp2_with fail
          refine (HT2.out _).mono ?_
          rintro e x2 ⟨rfl, hX2⟩
          go_wp2_with (go_at_call 8; refine (known_any _).mono ?_; rintro e x3 ⟨rfl, hX3⟩)
          go_ret
          exact ⟨rfl, below_chain HBr.out (below_chain hX1 (below_chain hX2 hX3))⟩
  · go_wp2_with fail
    refine (HVT.out _).mono ?_
    rintro e w4 ⟨rfl, hB4⟩
    go_wp2_with fail
    refine (HLJ.out (by simp) _).mono ?_
    rintro e w5 ⟨rfl, hB5⟩
    go_wp2_with fail
    refine (HS.out _).mono ?_
    rintro e w6 ⟨rfl, hB6⟩
    go_wp2_with fail
    refine (HT.out _).mono ?_
    rintro e w7 ⟨rfl, hB7⟩
    have HB2 := Lib.hid (below_chain HB.out (below_chain hB4 (below_chain hB5 (below_chain hB6 hB7))))
    clear hB4 hB5 hB6 hB7
    go_wp2_with (go_at_call 15; refine (HR.out _).mono ?_; rintro e wr ⟨v, rfl, hown, hBr⟩)
    obtain ⟨a, cap, rfl, hw⟩ := wantAt_of hown
    clear hown
    have HW := Lib.hid hw
    have HBr := Lib.hid (below_chain HB2.out hBr)
    clear hBr hw
    rw [HN1.out]
    go_wp2_with fail
    go_loop [9, 10] (fun g i => ∃ k : Nat, k ≤ n1 ∧ i = .int .i64 k ∧ g = .bool (bgs (bs s) c k)) (fun _ i => n1 - (intOf i).toNat)
    case atStart => exact ⟨0, by omega, rfl, by rw [bgs_zero, bs_length]⟩
    case round =>
      obtain ⟨k, hk, rfl, rfl⟩ := hrel
      by_cases hlt : k < n1
      · obtain ⟨g, rfl, hg, hcs⟩ : ∃ g, a = some ⟨g, 0, none⟩ ∧ g < wr.heap.size ∧ ∀ i (h : i < (allR (bs s)).length), wr.cell? ⟨g, i * 2, none⟩ = some (.int .i64 ((allR (bs s))[i].1.1 : Int)) ∧ wr.cell? ⟨g, i * 2 + 1, none⟩ = some (.int .i64 (allR (bs s))[i].1.2) := by
          rcases HW.out with h | h
          · have := HN1.out; rw [h] at this; simp at this; omega
          · exact h
        have hkl : k < (allR (bs s)).length := by have := HN1.out; omega
        have q1 := (hcs k hkl).1
        have HS2 := Lib.hid (bgs_succ (bs s) c k hkl)
        generalize ((allR (bs s))[k].1.1 : Int) = y at q1 HS2
        clear hcs hkl
        generalize hb0 : bgs (bs s) c k = b0 at *
        have HB0 := Lib.hid hb0
        clear hb0
        cases b0
        · obtain ⟨b1, hb1⟩ : ∃ b1, (y == (c : Int)) = b1 := ⟨_, rfl⟩
          have HY := Lib.hid hb1
          clear hb1
          go_wp2_with fail
          go_round
          case rel => exact ⟨k + 1, by omega, by simp, by rw [HS2.out]; rfl⟩
          case measure => simp [intOf]; omega
        · go_wp2_with fail
          go_round
          case rel => exact ⟨k + 1, by omega, by simp, by rw [HS2.out]; rfl⟩
          case measure => simp [intOf]; omega
      · obtain rfl : k = n1 := by omega
        rw [HN1.out] at HCF
        generalize bgs (bs s) c k = bb at *
        have HT1 := Lib.hid (fun w => valid_yes (s.extract 0 c) w (by simp; omega) (b := bb) (by rw [bs_extract]; simpa using HCF.out.1))
        have HT2 := Lib.hid (fun w => valid_yes (s.extract c s.size) w (by simp; omega) (b := bb) (by rw [bs_rest]; exact HCF.out.2))
        have hsl := slice_to s c hc
        cases bb
        all_goals
          go_wp2_with fail
          refine (HT1.out _).mono ?_
          rintro e x1 ⟨rfl, hX1⟩
          go_wp2_with fail
          refine (HT2.out _).mono ?_
          rintro e x2 ⟨rfl, hX2⟩
          go_wp2_with (go_at_call 8; refine (known_any _).mono ?_; rintro e x3 ⟨rfl, hX3⟩)
          go_ret
          exact ⟨rfl, below_chain HBr.out (below_chain hX1 (below_chain hX2 hX3))⟩

theorem utfJoins_walk (s t : ByteArray) (cut : Int) (w : World) (hm : s.size ≤ maxLen) (hmt : t.size ≤ maxLen) (_ : (Lit.int .i64 cut).wf = true) :
    Calls Try.prog 7 #[.string s, .string t, .int .i64 cut] w fun e w' => e = .returned (.bool true) ∧ Below w.heap.size w w' := by
  unfold maxLen at hm hmt
  by_cases h : 3000 < s.size ∨ 3000 < t.size ∨ valid (bs s) = false
  · exact utfJoins_no s t cut w (by omega) (by omega) h
  · have h3 : valid (bs s) = true := by
      cases hv : valid (bs s)
      · exact (h (.inr (.inr hv))).elim
      · rfl
    have h1 : s.size ≤ 3000 := by
      rcases Nat.lt_or_ge 3000 s.size with k | k
      · exact (h (.inl k)).elim
      · exact k
    have h2 : t.size ≤ 3000 := by
      rcases Nat.lt_or_ge 3000 t.size with k | k
      · exact (h (.inr (.inl k))).elim
      · exact k
    by_cases hcut : cut < 0 ∨ (s.size : Int) < cut
    · exact utfJoins_out s t cut w h1 h2 h3 hcut
    · obtain ⟨c, rfl⟩ := Int.eq_ofNat_of_zero_le (show 0 ≤ cut by omega)
      exact utfJoins_in s t c w h1 h2 h3 (by omega)
end Go.Proofs.Ythfflepgiikbjaa
