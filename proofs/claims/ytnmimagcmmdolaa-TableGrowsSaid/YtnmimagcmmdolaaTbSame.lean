/-
  CONTRACT OF the law's same.
-/
import Derived.Test.YtnmimagcmmdolaaTbDo
import Derived.Test.YtnmimagcmmdolaaTbRef4
namespace Go.Proofs.Ytnmimagcmmdolaa
open Go.RowKit Go.Shelf
set_option linter.unusedVariables false
set_option linter.unusedSimpArgs false

theorem row_neq0 (w : World) : (binOp .neq 34 (.agg #[.int .u32 0, .int .u32 0, .int .u32 0]) (.agg #[.int .u32 0, .int .u32 0, .int .u32 0])).run Try.prog w = .ok (.bool false) w := row_neq (0, 0, 0) w
section
variable {B : Nat} {w : World} {S Q : Nat → Prop} {tb wb : Nat} {R : List EntN}
set_option maxRecDepth 100000 in
set_option maxHeartbeats 4000000 in
theorem same_any (h : Both B w S Q tb wb R) (hR : R.length ≤ 1000000) :
    Calls Try.prog 10 #[tabP tb, refP wb] w fun e w' => e = .returned (.bool true) ∧ Below w.heap.size w w' := by
  have HL : Hid (∀ U, Below w.heap.size w U → ∃ ra rc, U.cell? ⟨wb, 0, none⟩ = some (.slice ra R.length rc)) := Lib.hid (fun U hU => by
    obtain ⟨ra, rc, ba, bc, hm⟩ := h.ref.below hU
    exact ⟨ra, rc, cell_in hm.blk rfl⟩)
  have HLen : Hid (∀ U, Below w.heap.size w U → Calls Try.prog 17 #[tabP tb] U fun e w' => e = .returned (.int .i64 (R.length : Int)) ∧ U = w') := Lib.hid (fun U hU => (h.tab.below hU).len)
  have HLive : Hid (∀ U, Below w.heap.size w U → Calls Try.prog 28 #[tabP tb] U fun e w' => e = .returned (.int .i64 ((R.countP liveB : Nat) : Int)) ∧ U = w') := Lib.hid (fun U hU => (h.tab.below hU).live)
  have HGet : Hid (∀ U, Below w.heap.size w U → ∀ n : Int, Calls Try.prog 25 #[tabP tb, .int .i64 n] U fun e w' => e = .returned (.tuple #[rowV (getE R n).1, .int .u8 ((getE R n).2 : Int)]) ∧ Below w.heap.size w w') := Lib.hid (fun U hU n => ((h.tab.below hU).getE n).mono fun e w' ⟨a, b⟩ => ⟨a, hU.trans (b.mono hU.size)⟩)
  have HIn : Hid (∀ U, Below w.heap.size w U → ∀ n : Int, Calls Try.prog 22 #[refP wb, .int .i64 n] U fun e w' => e = .returned (.bool (decide (0 ≤ n ∧ n < (R.length : Int)))) ∧ U = w') := Lib.hid (fun U hU n => (h.ref.below hU).in_ n)
  have HDi : Hid (∀ U, Below w.heap.size w U → ∀ p : Int, Calls Try.prog 26 #[tabP tb, .int .i64 p] U fun e w' => e = .returned (.int .i64 ((distI R p : Nat) : Int)) ∧ U = w') := Lib.hid (fun U hU p => (h.tab.below hU).dist p)
  have HDr : Hid (∀ U, Below w.heap.size w U → ∀ p : Int, Calls Try.prog 27 #[refP wb, .int .i64 p] U fun e w' => e = .returned (.int .i64 ((distI R p : Nat) : Int)) ∧ Below w.heap.size w w') := Lib.hid (fun U hU p => ((h.ref.below hU).dist p hR).mono fun e w' ⟨a, b⟩ => ⟨a, hU.trans (b.mono hU.size)⟩)
  have HRow : Hid (∀ U, Below w.heap.size w U → ∀ (k : Nat) (x : EntN), R[k]? = some x → ∃ g o g2 o2 rc bc, U.cell? ⟨wb, 0, none⟩ = some (.slice (some ⟨g, o, none⟩) R.length rc) ∧ U.cell? ⟨wb, 1, none⟩ = some (.slice (some ⟨g2, o2, none⟩) R.length bc) ∧ U.cell? ⟨g, o + k * 3, none⟩ = some (.int .u32 (x.1.1 : Int)) ∧ U.cell? ⟨g, o + k * 3 + 1, none⟩ = some (.int .u32 (x.1.2.1 : Int)) ∧ U.cell? ⟨g, o + k * 3 + 2, none⟩ = some (.int .u32 (x.1.2.2 : Int)) ∧ U.cell? ⟨g2, o2 + k, none⟩ = some (.int .u8 (x.2 : Int))) :=
    Lib.hid (fun U hU k x hx => by
      obtain ⟨ra, rc, ba, bc, hm⟩ := h.ref.below hU
      obtain ⟨g, o, g2, o2, e1, e2, hc, _⟩ := hm.at_ (by have := (List.getElem?_eq_some_iff.1 hx).1; omega)
      obtain ⟨a, b, c, d⟩ := hc k x hx
      exact ⟨g, o, g2, o2, rc, bc, by rw [← e1]; exact cell_in hm.blk rfl, by rw [← e2]; exact cell_in hm.blk rfl, a, b, c, d⟩)
  clear h
  go_enter Try.func10, Try.ntmps10
  go_wp2
  go_loopg [5, 6, 7, 8] (R.length + 2) (fun g l i _ _ wr => ∃ m : Nat, m ≤ R.length + 2 ∧ R.length + 2 - m ≤ g ∧ i = .int .i64 ((m : Int) - 1) ∧ l = .int .i64 (((R.take (m - 1)).countP liveB : Nat) : Int) ∧ Below w.heap.size w wr)
  case atStart => exact ⟨0, by omega, by omega, rfl, rfl, Below.refl _ _⟩
  case round =>
    obtain ⟨m, hm, hg, rfl, rfl, hbr⟩ := hrel
    obtain ⟨ra, rc, p0⟩ := HL.out _ hbr
    have HBr := Lib.hid hbr
    have hcl : (R.take (m - 1)).countP liveB ≤ R.length := Nat.le_trans List.countP_le_length (by rw [List.length_take]; omega)
    by_cases hml : m ≤ R.length + 1
    · obtain ⟨i, hi⟩ : ∃ i : Int, i = (m : Int) - 1 := ⟨_, rfl⟩
      rw [← hi]
      have e1 : decide (i ≤ (R.length : Int)) = true := by simp; omega
      have i5 : i + 1 = ((m + 1 : Nat) : Int) - 1 := by omega
      have HI5 := Lib.hid i5
      have HI := Lib.hid hi
      have b1 : -1 ≤ i := by omega
      have b2 : i ≤ 1000000 := by omega
      clear hbr i5 hi
      by_cases hin : 0 ≤ i ∧ i < (R.length : Int)
      · obtain ⟨k, hk⟩ : ∃ k : Nat, m = k + 1 := ⟨m - 1, by have := HI.out; omega⟩
        have hik : i = (k : Int) := by have := HI.out; omega
        obtain ⟨x, hx⟩ : ∃ x, R[k]? = some x := ⟨_, List.getElem?_eq_getElem (by omega)⟩
        have hG : getE R i = x := by
          unfold getE
          rw [if_pos hin.1, hik, Int.toNat_natCast, List.getD_eq_getElem?_getD, hx]
          rfl
        have HGe : Hid (Calls Try.prog 25 #[tabP tb, .int .i64 i] wr fun e w3 => e = .returned (.tuple #[rowV x.1, .int .u8 (x.2 : Int)]) ∧ ∃ g o g2 o2 rc bc, (w3.alloc (.cells #[.int .u32 (x.1.1 : Int), .int .u32 (x.1.2.1 : Int), .int .u32 (x.1.2.2 : Int)] 34)).cell? ⟨wb, 0, none⟩ = some (.slice (some ⟨g, o, none⟩) R.length rc) ∧ (w3.alloc (.cells #[.int .u32 (x.1.1 : Int), .int .u32 (x.1.2.1 : Int), .int .u32 (x.1.2.2 : Int)] 34)).cell? ⟨wb, 1, none⟩ = some (.slice (some ⟨g2, o2, none⟩) R.length bc) ∧
            ((w3.alloc (.cells #[.int .u32 (x.1.1 : Int), .int .u32 (x.1.2.1 : Int), .int .u32 (x.1.2.2 : Int)] 34)).cell? ⟨g, o + k * 3, none⟩ = some (.int .u32 (x.1.1 : Int)) ∧ (w3.alloc (.cells #[.int .u32 (x.1.1 : Int), .int .u32 (x.1.2.1 : Int), .int .u32 (x.1.2.2 : Int)] 34)).cell? ⟨g, o + k * 3 + 1, none⟩ = some (.int .u32 (x.1.2.1 : Int)) ∧ (w3.alloc (.cells #[.int .u32 (x.1.1 : Int), .int .u32 (x.1.2.1 : Int), .int .u32 (x.1.2.2 : Int)] 34)).cell? ⟨g, o + k * 3 + 2, none⟩ = some (.int .u32 (x.1.2.2 : Int)) ∧ (w3.alloc (.cells #[.int .u32 (x.1.1 : Int), .int .u32 (x.1.2.1 : Int), .int .u32 (x.1.2.2 : Int)] 34)).cell? ⟨g2, o2 + k, none⟩ = some (.int .u8 (x.2 : Int))) ∧
            Below w.heap.size w (w3.alloc (.cells #[.int .u32 (x.1.1 : Int), .int .u32 (x.1.2.1 : Int), .int .u32 (x.1.2.2 : Int)] 34)) ∧ Calls Try.prog 22 #[refP wb, .int .i64 i] (w3.alloc (.cells #[.int .u32 (x.1.1 : Int), .int .u32 (x.1.2.1 : Int), .int .u32 (x.1.2.2 : Int)] 34)) (fun e w' => e = .returned (.bool true) ∧ (w3.alloc (.cells #[.int .u32 (x.1.1 : Int), .int .u32 (x.1.2.1 : Int), .int .u32 (x.1.2.2 : Int)] 34)) = w')) := Lib.hid (by
          have hg := HGet.out wr HBr.out i
          rw [hG] at hg
          refine hg.mono ?_
          rintro e w3 ⟨rfl, hb3⟩
          have h4 := hb3.alloc hb3.size (.cells #[.int .u32 (x.1.1 : Int), .int .u32 (x.1.2.1 : Int), .int .u32 (x.1.2.2 : Int)] 34)
          obtain ⟨g, o, g2, o2, rc, bc, q1, q2, q3, q4, q5, q6⟩ := HRow.out _ h4 k x hx
          have hi2 := HIn.out _ h4 i
          rw [decide_eq_true hin] at hi2
          exact ⟨rfl, g, o, g2, o2, rc, bc, q1, q2, ⟨q3, q4, q5, q6⟩, h4, hi2⟩)
        have hrn := row_neq x.1
        have j0 : (0 : Int) ≤ (k : Int) := by omega
        have j1 : (k : Int) < (R.length : Int) := by omega
        have HT : Hid ((R.take (m + 1 - 1)).countP liveB = (R.take (m - 1)).countP liveB + (if liveB x = true then 1 else 0)) := Lib.hid (by
          rw [hk, Nat.add_sub_cancel, Nat.add_sub_cancel, List.take_add_one, hx, List.countP_append]
          simp [List.countP_cons])
        have HIk := Lib.hid hik
        have HKm := Lib.hid hk
        generalize (R.take (m - 1)).countP liveB = c0 at *
        have e1n : decide (k ≤ R.length) = true := by simp; omega
        clear hG hin hx hk
        subst hik
        by_cases hx0 : x.2 = 0
        · have d1 : ((x.2 : Int) != 0) = false := by simp [hx0]
          have HT2 : Hid ((R.take (m + 1 - 1)).countP liveB = c0) := Lib.hid (by rw [HT.out, if_neg (by simp [liveB, hx0])]; rfl)
          clear hx0
          go_upto_region 9 with (first
            | (go_at_call 25; refine HGe.out.mono ?_; rintro e w3 ⟨rfl, g, o, g2, o2, rc9, bc9, q1, q2, ⟨q3, q4, q5, q6⟩, hb4, hin⟩; replace hb4 := Lib.hid hb4; replace hin := Lib.hid hin)
            | (go_at_call 22; refine hin.out.mono ?_; rintro e w4 ⟨rfl, rfl⟩))
          go_quiet (fail)
          go_wp2
          go_roundg (R.length + 2 - (m + 1))
          case measure => omega
          case rel => exact ⟨m + 1, by omega, Nat.le_refl _, by rw [HI5.out], by rw [HT2.out], below_drewN hb4.out _⟩
        · have d1 : ((x.2 : Int) != 0) = true := by rw [bne_iff_ne]; omega
          have HT2 : Hid ((R.take (m + 1 - 1)).countP liveB = c0 + 1) := Lib.hid (by rw [HT.out, if_pos (by simp [liveB, hx0])])
          have b3 : c0 + 1 ≤ 10000000 := by omega
          clear hx0
          go_upto_region 9 with (first
            | (go_at_call 25; refine HGe.out.mono ?_; rintro e w3 ⟨rfl, g, o, g2, o2, rc9, bc9, q1, q2, ⟨q3, q4, q5, q6⟩, hb4, hin⟩; replace hb4 := Lib.hid hb4; replace hin := Lib.hid hin)
            | (go_at_call 22; refine hin.out.mono ?_; rintro e w4 ⟨rfl, rfl⟩))
          go_quiet (fail)
          go_wp2
          go_roundg (R.length + 2 - (m + 1))
          case measure => omega
          case rel => exact ⟨m + 1, by omega, Nat.le_refl _, by rw [HI5.out], by rw [HT2.out]; go_num, below_drewN hb4.out _⟩
      · have hG : getE R i = ((0, 0, 0), 0) := by
          unfold getE
          split
          · rw [List.getD_eq_getElem?_getD, List.getElem?_eq_none (by omega)]
            rfl
          · rfl
        have HGe : Hid (Calls Try.prog 25 #[tabP tb, .int .i64 i] wr fun e w3 => e = .returned (.tuple #[.agg #[.int .u32 0, .int .u32 0, .int .u32 0], .int .u8 0]) ∧
            Below w.heap.size w (w3.alloc (.cells #[.int .u32 0, .int .u32 0, .int .u32 0] 34)) ∧ Calls Try.prog 22 #[refP wb, .int .i64 i] (w3.alloc (.cells #[.int .u32 0, .int .u32 0, .int .u32 0] 34)) (fun e w' => e = .returned (.bool false) ∧ (w3.alloc (.cells #[.int .u32 0, .int .u32 0, .int .u32 0] 34)) = w')) := Lib.hid (by
          have hg := HGet.out wr HBr.out i
          rw [hG] at hg
          refine hg.mono ?_
          rintro e w3 ⟨rfl, hb3⟩
          have h4 := hb3.alloc hb3.size (.cells #[.int .u32 0, .int .u32 0, .int .u32 0] 34)
          have hi2 := HIn.out _ h4 i
          rw [decide_eq_false hin] at hi2
          exact ⟨rfl, h4, hi2⟩)
        have hrn := row_neq0
        have HT2 : Hid ((R.take (m + 1 - 1)).countP liveB = (R.take (m - 1)).countP liveB) := Lib.hid (by
          have hio := HI.out
          by_cases h0 : m = 0
          · rw [h0]
          · have : m = R.length + 1 := by omega
            rw [this, Nat.add_sub_cancel, Nat.add_sub_cancel, List.take_of_length_le (by omega), List.take_of_length_le (by omega)])
        generalize (R.take (m - 1)).countP liveB = c0 at *
        clear hG hin
        go_wp2_with (first
          | (go_at_call 25; refine HGe.out.mono ?_; rintro e w3 ⟨rfl, hb4, hin⟩; replace hb4 := Lib.hid hb4; replace hin := Lib.hid hin)
          | (go_at_call 22; refine hin.out.mono ?_; rintro e w4 ⟨rfl, rfl⟩))
        go_roundg (R.length + 2 - (m + 1))
        case measure => omega
        case rel => exact ⟨m + 1, by omega, Nat.le_refl _, by rw [HI5.out], by rw [HT2.out], hb4.out⟩
    · obtain rfl : m = R.length + 2 := by omega
      have e1 : decide (((R.length + 2 : Nat) : Int) - 1 ≤ (R.length : Int)) = false := by simp; omega
      have e1' : decide ((R.length : Int) + 1 ≤ (R.length : Int)) = false := by simp; omega
      have hc : (R.take (R.length + 2 - 1)).countP liveB = R.countP liveB := by rw [List.take_of_length_le (by omega)]
      rw [hc]
      have HBr2 := Lib.hid hbr
      obtain ⟨i, hi⟩ : ∃ i : Int, i = ((R.length + 2 : Nat) : Int) - 1 := ⟨_, rfl⟩
      rw [← hi] at e1 ⊢
      clear hbr hc hcl hi e1' hml hg hm
      go_wp2
      rename World => wo
      go_loopg [9] 6 (fun g p wr => ∃ m : Nat, m ≤ 5 ∧ 6 - m ≤ g ∧ p = .int .i64 ((m : Int) - 1) ∧ Below w.heap.size w wr)
      case atStart => exact ⟨0, by omega, by omega, rfl, HBr2.out⟩
      case round =>
        obtain ⟨m, hm, hg, rfl, hbr⟩ := hrel
        obtain ⟨p, hp⟩ : ∃ p : Int, p = (m : Int) - 1 := ⟨_, rfl⟩
        rw [← hp]
        have HB3 := Lib.hid hbr
        have HP := Lib.hid hp
        have hp5 : p + 1 = ((m + 1 : Nat) : Int) - 1 := by omega
        have HP5 := Lib.hid hp5
        by_cases hp4 : p < 4
        · have e2 : decide (p < 4) = true := by simpa using hp4
          have b1 : -1 ≤ p := by omega
          clear hbr hp hp5
          go_wp2_with (first
            | (go_at_call 26; refine (HDi.out _ HB3.out _).mono ?_; rintro e w4 ⟨rfl, rfl⟩)
            | (go_at_call 27; refine (HDr.out _ HB3.out _).mono ?_; rintro e w4 ⟨rfl, hb4⟩; replace hb4 := Lib.hid hb4))
          go_roundg (6 - (m + 1))
          case measure => omega
          case rel => exact ⟨m + 1, by have := HP.out; omega, Nat.le_refl _, by rw [HP5.out], hb4.out⟩
        · have e2 : decide (p < 4) = false := by simpa using hp4
          obtain ⟨ra2, rc2, p02⟩ := HL.out _ hbr
          have p02d : wr.drew.cell? ⟨wb, 0, none⟩ = some (.slice ra2 R.length rc2) := p02
          have HLn := Lib.hid (HLen.out _ (HB3.out.drew))
          have HLv := Lib.hid (HLive.out _ (HB3.out.drew))
          have hsd : wr.drew = wr.drew := rfl
          clear hbr hp hp5 hp4
          go_upto_region 18 with fail
          go_region_held3 (fun W' => W' = wr.drew) ((first | assumption | rfl)) (first | (go_at_call 17; refine HLn.out.mono ?_; rintro e w4 ⟨rfl, rfl⟩) | (go_at_call 28; refine HLv.out.mono ?_; rintro e w4 ⟨rfl, rfl⟩))
          all_goals
            go_wp2
            go_ret
            exact ⟨rfl, HB3.out.drew⟩
end
end Go.Proofs.Ytnmimagcmmdolaa
