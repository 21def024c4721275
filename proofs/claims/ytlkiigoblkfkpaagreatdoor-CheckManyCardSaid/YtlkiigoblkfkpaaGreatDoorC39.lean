/-
  WHAT THE PROOF STANDS ON, a part of it: CkManyQ, CkMany.
-/
import Derived.Test.YtlkiigoblkfkpaaGreatDoorC38
import Derived.Laws.BytesArg
/-
  THE TEXT THAT CheckMany MAKES.
-/

namespace Go.Proofs.YtlkiigoblkfkpaaGreatDoor
open Go.RowKit
open Utf Term
set_option linter.unusedVariables false
set_option linter.unusedSimpArgs false

abbrev threeI (k : Nat) : List Int := [97 + (k : Int) / 676, 97 + (k : Int) / 26 % 26, 97 + (k : Int) % 26]
theorem q1_eq (k : Nat) : (97 + (k : Int) / 676).toNat = 97 + k / 676 := by
  have : (97 + (k : Int) / 676) = ((97 + k / 676 : Nat) : Int) := by simp
  rw [this, Int.toNat_natCast]
theorem q2_eq (k : Nat) : (97 + (k : Int) / 26 % 26).toNat = 97 + k / 26 % 26 := by
  have : (97 + (k : Int) / 26 % 26) = ((97 + k / 26 % 26 : Nat) : Int) := by simp
  rw [this, Int.toNat_natCast]
theorem q3_eq (k : Nat) : (97 + (k : Int) % 26).toNat = 97 + k % 26 := by
  have : (97 + (k : Int) % 26) = ((97 + k % 26 : Nat) : Int) := by simp
  rw [this, Int.toNat_natCast]
theorem qT_app (k : Nat) : (⟨#[104, 116, 116, 112, 58, 47, 47, 113, 47]⟩ : ByteArray) ++ strOfNums (threeI k) = qT k := by
  apply ByteArray.ext
  rw [ByteArray.data_append]
  unfold strOfNums qT threeI
  rw [List.map_cons, List.map_cons, List.map_cons, List.map_nil, q1_eq, q2_eq, q3_eq]
  rfl
theorem run_three (k g : Nat) (U : World) (hg : g = U.heap.size) : (convert 38 9 (.slice (some ⟨g, 0, none⟩) 3 3)).run Tryz.prog (U.alloc (.cells #[.int .u8 (97 + (k : Int) / 676), .int .u8 (97 + (k : Int) / 26 % 26), .int .u8 (97 + (k : Int) % 26)] 5)) = .ok (.string (strOfNums (threeI k))) (U.alloc (.cells #[.int .u8 (97 + (k : Int) / 676), .int .u8 (97 + (k : Int) / 26 % 26), .int .u8 (97 + (k : Int) % 26)] 5)) := by
  subst hg
  have d := heap_alloc_new U (.cells #[.int .u8 (97 + (k : Int) / 676), .int .u8 (97 + (k : Int) / 26 % 26), .int .u8 (97 + (k : Int) % 26)] 5)
  refine run_convert_bytes_arg _ _ 5 Tryz.underlying38 Tryz.underlying5 _ _ _ _ (threeI k) rfl (fun i hi => ?_) _ Tryz.underlying9
  rw [Nat.zero_add]
  match i, hi with
  | 0, _ => exact cell_in d rfl
  | 1, _ => exact cell_in d rfl
  | 2, _ => exact cell_in d rfl
end Go.Proofs.YtlkiigoblkfkpaaGreatDoor

/-
  THE WALK OF CheckMany. (Written by tools/genckmany.py.)
-/

namespace Go.Proofs.YtlkiigoblkfkpaaGreatDoor
open Go.RowKit
open Utf Term
set_option linter.unusedVariables false
set_option linter.unusedSimpArgs false

/-- Numbers that the law passes over. -/
def badB (n : Int) : Bool := decide (n < 0) || decide (1010 < n) || (decide (20 < n) && decide (n < 995))
set_option maxRecDepth 100000 in
set_option maxHeartbeats 16000000 in
theorem checkMany_walk (n : Int) (m : Int) (w : World) (hm : HasMax w m) : Calls Tryz.prog 5 #[.int .i64 n] w fun e w' => e = .returned (.bool true) ∧ Below w.heap.size w w' := by
  have HKn := Lib.hid (fun W (h : Below w.heap.size w W) => ckKnown_any W m (cell_below h hm))
  have HM := Lib.hid hm
  clear hm
  go_enter Tryz.func5, Tryz.ntmps5
  go_upto_region 1 with fail
  go_cut [23] (fun s23 wc => s23 = .bool (badB n) ∧ wc = w)
  case first =>
    by_cases h1 : n < 0
    · have e1 : decide (n < 0) = true := decide_eq_true h1
      go_wp2_with fail
      go_meet
      exact ⟨by simp [badB, e1], rfl⟩
    · have e1 : decide (n < 0) = false := decide_eq_false h1
      by_cases h2 : 1010 < n
      · have e2 : decide (1010 < n) = true := decide_eq_true h2
        have e3 : decide (n > 1010) = true := decide_eq_true h2
        go_wp2_with fail
        go_meet
        exact ⟨by simp [badB, e1, e2], rfl⟩
      · have e2 : decide (1010 < n) = false := decide_eq_false h2
        have e3 : decide (n > 1010) = false := decide_eq_false h2
        by_cases h3 : 20 < n
        · have e4 : decide (20 < n) = true := decide_eq_true h3
          have e5 : decide (n > 20) = true := decide_eq_true h3
          go_wp2_with fail
          go_meet
          exact ⟨by simp [badB, e1, e2, e4], rfl⟩
        · have e4 : decide (20 < n) = false := decide_eq_false h3
          have e5 : decide (n > 20) = false := decide_eq_false h3
          go_wp2_with fail
          go_meet
          exact ⟨by simp [badB, e1, e2, e4], rfl⟩
  case rest =>
    obtain ⟨rfl, rfl⟩ := hcut
    cases hB : badB n with
    | true =>
      go_wp2_with (first | (go_at_call 7; refine (HKn.out _ (Below.refl _ _)).mono ?_; rintro e w1 ⟨rfl, hb1⟩))
      go_ret
      exact ⟨rfl, hb1⟩
    | false =>
      obtain ⟨N, rfl, hN⟩ : ∃ N : Nat, n = (N : Int) ∧ N ≤ 1010 := by
        unfold badB at hB
        simp only [Bool.or_eq_false_iff, decide_eq_false_iff_not] at hB
        exact ⟨n.toNat, by omega, by omega⟩
      have HNn := Lib.hid hN
      clear hB hN
      go_upto_region 7 with fail
      have d3 := heap_alloc_new wc (.cells #[.string ⟨#[]⟩, .int .i64 1, .string hp, .string ⟨#[]⟩] 37)
      have s3 : (wc.alloc (.cells #[.string ⟨#[]⟩, .int .i64 1, .string hp, .string ⟨#[]⟩] 37)).heap.size = wc.heap.size + 1 := World.size_alloc _ _
      have d4 := heap_alloc_new (wc.alloc (.cells #[.string ⟨#[]⟩, .int .i64 1, .string hp, .string ⟨#[]⟩] 37)) (.cells #[.string ⟨#[120]⟩, .int .i64 0, .string ⟨#[]⟩, .string ⟨#[]⟩] 37)
      have d3' := (Below.heap_alloc (wc.alloc (.cells #[.string ⟨#[]⟩, .int .i64 1, .string hp, .string ⟨#[]⟩] 37)) (.cells #[.string ⟨#[120]⟩, .int .i64 0, .string ⟨#[]⟩, .string ⟨#[]⟩] 37) wc.heap.size (by rw [s3]; omega)).trans d3
      have hb2 := ((Below.refl wc.heap.size wc).alloc (Nat.le_refl _) (.cells #[.string ⟨#[]⟩, .int .i64 1, .string hp, .string ⟨#[]⟩] 37)).alloc (by rw [s3]; omega) (.cells #[.string ⟨#[120]⟩, .int .i64 0, .string ⟨#[]⟩, .string ⟨#[]⟩] 37)
      rw [s3] at d4
      obtain ⟨n0, hn0⟩ : ∃ n0, n0 = wc.heap.size := ⟨_, rfl⟩
      rw [← hn0] at d3' d4
      obtain ⟨W2, hW2⟩ : ∃ W, W = (wc.alloc (.cells #[.string ⟨#[]⟩, .int .i64 1, .string hp, .string ⟨#[]⟩] 37)).alloc (.cells #[.string ⟨#[120]⟩, .int .i64 0, .string ⟨#[]⟩, .string ⟨#[]⟩] 37) := ⟨_, rfl⟩
      rw [← hW2] at d3' d4 hb2
      rw [← hW2, ← hn0]
      have HX : Hid (∀ U, Below W2.heap.size W2 U → U.cell? ⟨n0, 0, none⟩ = some (.string ⟨#[]⟩) ∧ U.cell? ⟨n0, 1, none⟩ = some (.int .i64 1) ∧ U.cell? ⟨n0, 2, none⟩ = some (.string hp) ∧ U.cell? ⟨n0, 3, none⟩ = some (.string ⟨#[]⟩)
        ∧ U.cell? ⟨n0 + 1, 0, none⟩ = some (.string ⟨#[120]⟩) ∧ U.cell? ⟨n0 + 1, 1, none⟩ = some (.int .i64 0) ∧ U.cell? ⟨n0 + 1, 2, none⟩ = some (.string ⟨#[]⟩) ∧ U.cell? ⟨n0 + 1, 3, none⟩ = some (.string ⟨#[]⟩)) := Lib.hid (fun U hU => by
        have a1 := (hU.block n0 (Array.getElem?_eq_some_iff.1 d3').1).trans d3'
        have a2 := (hU.block (n0 + 1) (Array.getElem?_eq_some_iff.1 d4).1).trans d4
        exact ⟨cell_in a1 rfl, cell_in a1 rfl, cell_in a1 rfl, cell_in a1 rfl, cell_in a2 rfl, cell_in a2 rfl, cell_in a2 rfl, cell_in a2 rfl⟩)
      have HB2 := Lib.hid hb2
      clear d3 s3 d4 d3' hb2 hn0 hW2
      go_loopg [5, 6] N (fun gg l i wr => ∃ (k : Nat) (L : List RvD) (ao : Option Addr) (cap : Nat), k ≤ N ∧ N - k ≤ gg ∧ i = .int .i64 (k : Int) ∧ l = .slice ao k cap ∧ MkI W2 k L ao cap wr)
      case atStart => exact ⟨0, [], none, 0, Nat.zero_le _, by omega, rfl, rfl, ⟨Below.refl _ _, ⟨rfl, .inl ⟨rfl, rfl, rfl⟩⟩, rfl, (fun a h => by cases h), (fun j x h => by simp at h)⟩⟩
      case round =>
        obtain ⟨k, L, ao, cap, hk, hg, rfl, rfl, hI⟩ := hrel
        have HI := Lib.hid hI
        clear hI
        by_cases hlt : k < N
        · have e1 : decide ((k : Int) < (N : Int)) = true := by simp; omega
          have e2 : decide (k < N) = true := by simp; omega
          have hk1 : k < 1010 := by have := HNn.out; omega
          have hconv := run_three k _ wr rfl
          have hq := qT_app k
          have hTs : (strOfNums (threeI k)).size = 3 := by simp [strOfNums, ByteArray.size]
          obtain ⟨T, hT⟩ : ∃ T, T = strOfNums (threeI k) := ⟨_, rfl⟩
          rw [← hT] at hconv hq hTs
          have hTf : ¬ 9223372036854775807 < 9 + T.size := by omega
          clear hT
          go_upto_region 10 with fail
          obtain ⟨n7, hn7⟩ : ∃ n, n = wr.heap.size + 1 := ⟨_, rfl⟩
          have sA : (wr.alloc (.cells #[.int .u8 (97 + (k : Int) / 676), .int .u8 (97 + (k : Int) / 26 % 26), .int .u8 (97 + (k : Int) % 26)] 5)).heap.size = wr.heap.size + 1 := World.size_alloc _ _
          have d7 := heap_alloc_new (wr.alloc (.cells #[.int .u8 (97 + (k : Int) / 676), .int .u8 (97 + (k : Int) / 26 % 26), .int .u8 (97 + (k : Int) % 26)] 5)) (.cells #[.string ⟨#[]⟩, .int .i64 1, .string (qT k), .string ⟨#[]⟩] 37)
          have hb7 := ((Below.refl wr.heap.size wr).alloc (Nat.le_refl _) (.cells #[.int .u8 (97 + (k : Int) / 676), .int .u8 (97 + (k : Int) / 26 % 26), .int .u8 (97 + (k : Int) % 26)] 5)).alloc (by rw [sA]; omega) (.cells #[.string ⟨#[]⟩, .int .i64 1, .string (qT k), .string ⟨#[]⟩] 37)
          rw [sA, ← hn7] at d7
          rw [← hn7]
          obtain ⟨U0, hU0⟩ : ∃ U, U = (wr.alloc (.cells #[.int .u8 (97 + (k : Int) / 676), .int .u8 (97 + (k : Int) / 26 % 26), .int .u8 (97 + (k : Int) % 26)] 5)).alloc (.cells #[.string ⟨#[]⟩, .int .i64 1, .string (qT k), .string ⟨#[]⟩] 37) := ⟨_, rfl⟩
          rw [← hU0] at d7 hb7 ⊢
          obtain ⟨x0, x1, x2, x3, y0, y1, y2, y3⟩ := HX.out U0 (HI.out.low.trans (hb7.mono HI.out.low.size))
          have q0 : U0.cell? ⟨n7, 0, none⟩ = some (.string ⟨#[]⟩) := cell_in d7 rfl
          have q1 : U0.cell? ⟨n7, 1, none⟩ = some (.int .i64 1) := cell_in d7 rfl
          have q2 : U0.cell? ⟨n7, 2, none⟩ = some (.string (qT k)) := cell_in d7 rfl
          have q3 : U0.cell? ⟨n7, 3, none⟩ = some (.string ⟨#[]⟩) := cell_in d7 rfl
          obtain ⟨b, hb⟩ : ∃ b, b = U0.heap.size := ⟨_, rfl⟩
          have dL := heap_alloc_new U0 (.cells (litC mB) 43)
          have sL : (U0.alloc (.cells (litC mB) 43)).heap.size = b + 1 := by rw [World.size_alloc, hb]
          have dR := heap_alloc_new (U0.alloc (.cells (litC mB) 43)) (.cells (ruleC (mR k).1 (.slice (some ⟨b, 0, none⟩) 1 1)) 46)
          have dL2 := (Below.heap_alloc (U0.alloc (.cells (litC mB) 43)) (.cells (ruleC (mR k).1 (.slice (some ⟨b, 0, none⟩) 1 1)) 46) U0.heap.size (by rw [sL, ← hb]; omega)).trans dL
          have hb8 := hb7.trans (((Below.refl U0.heap.size U0).alloc (Nat.le_refl _) (.cells (litC mB) 43)).mono hb7.size)
          have hb9 := hb8.alloc hb8.size (.cells (ruleC (mR k).1 (.slice (some ⟨b, 0, none⟩) 1 1)) 46)
          rw [sL] at dR
          rw [← hb] at dL2
          obtain ⟨U2, hU2⟩ : ∃ U, U = (U0.alloc (.cells (litC mB) 43)).alloc (.cells (ruleC (mR k).1 (.slice (some ⟨b, 0, none⟩) 1 1)) 46) := ⟨_, rfl⟩
          rw [← hU2] at dR dL2 hb9
          have HRow := Lib.hid (HI.out.row.kept (U := U2) (fun a ha => hb9.block a.block (HI.out.row.lt ha)))
          have HNews : Hid (∀ j u, (ruleC (mR k).1 (.slice (some ⟨b, 0, none⟩) 1 1)).toList[j]? = some u → U2.cell? ((⟨b + 1, 0, none⟩ : Addr).add j) = some u) := Lib.hid (fun j u hu => by
            rw [Addr.add_mid, Nat.zero_add]
            exact cell_in dR (by simpa using hu))
          have HOnes : Hid (∀ u ∈ (ruleC (mR k).1 (.slice (some ⟨b, 0, none⟩) 1 1)).toList, u.oneCell' = true) := Lib.hid (rv_one ((mR k).1, (some ⟨b, 0, none⟩, 1, 1)))
          have HU2 : Hid (U2 = (U0.alloc (.cells #[.int .i64 1, .string ⟨#[120]⟩, .int .i64 0, .string ⟨#[]⟩, .string ⟨#[]⟩, .string ⟨#[]⟩, .int .i64 1, .string hp, .string ⟨#[]⟩, .string ⟨#[120]⟩, .int .i64 0, .string ⟨#[]⟩, .string ⟨#[]⟩, .string ⟨#[]⟩, .int .i64 0, .string ⟨#[]⟩, .string ⟨#[]⟩, .string ⟨#[]⟩, .int .i64 0, .string ⟨#[]⟩, .string ⟨#[]⟩] 43)).alloc (.cells #[.string ⟨#[120]⟩, .int .i64 0, .string ⟨#[]⟩, .string ⟨#[]⟩, .string ⟨#[]⟩, .int .i64 1, .string hp, .string ⟨#[]⟩, .string ⟨#[]⟩, .int .i64 1, .string (qT k), .string ⟨#[]⟩, .slice (some ⟨b, 0, none⟩) 1 1] 46)) := Lib.hid hU2
          have HBb := Lib.hid hb
          have HDL := Lib.hid dL2
          have HB9 := Lib.hid hb9
          obtain ⟨i0, z0, hi, hz0, hz1, hz2, hz3⟩ := info_rv
          have Hi := Lib.hid hi
          have Hz0 := Lib.hid hz0
          have Hz1 := Lib.hid hz1
          have Hz2 := Lib.hid hz2
          have Hz3 := Lib.hid hz3
          clear sA d7 hb7 hU0 hconv hq dL sL dR dL2 hb8 hb9 hU2 hn7 hb hi hz0 hz1 hz2 hz3
          go_wp2_with (first
          | (rw [← HBb.out, ← HU2.out]; refine wpList_append_rowk rfl (.tmp 51) (.tmp 63) 22 rfl 46 i0 z0 13 192 Tryz.underlying22 Hi.out Hz0.out Hz1.out Hz2.out Hz3.out (by decide) ao k cap (rvC L) rfl HRow.out ⟨b + 1, 0, none⟩ 1 (ruleC (mR k).1 (.slice (some ⟨b, 0, none⟩) 1 1)).toList rfl rfl HNews.out HOnes.out (by have h : (1000000 : Nat) ≤ maxLen := (by decide); omega) (by omega) ?_; intro g o' cap' w' hR hgr hw; have HI2 := Lib.hid (HI.out.step HB9.out HDL.out hR hgr hw); clear hR hgr hw))
          go_roundg (N - (k + 1))
          case measure => omega
          case rel => exact ⟨k + 1, _, _, cap', by omega, Nat.le_refl _, by go_num, rfl, HI2.out⟩
        · obtain rfl : k = N := by omega
          have hlow := HB2.out.trans (HI.out.low.mono HB2.out.size)
          have hPr := ckProgram_any (w := wr) HI.out.slice (fun r hr => by obtain ⟨j, _, rfl⟩ := List.mem_map.1 hr; exact mR_vast j) m (cell_below hlow HM.out) (by rw [mRs_length]; have := HNn.out; omega) (fun r hr => by obtain ⟨j, _, rfl⟩ := List.mem_map.1 hr; show (1 : Nat) ≤ 1000000000; decide) (by intro _ hn; rw [mRs_neg] at hn; cases hn)
          have e1 : decide ((k : Int) < (k : Int)) = false := by simp
          have e2 : decide (k < k) = false := by simp
          have HLow := Lib.hid hlow
          by_cases hk9 : 1000 < k
          · rw [show progM (mRs k) = .tuple #[.agg #[.bool false], .int .i64 9] by unfold progM; rw [mRs_prog HNn.out, if_pos hk9, mRs_neg]; rfl] at hPr
            have HPr := Lib.hid hPr
            have c1 : decide ((k : Int) > 1000) = true := by simp; omega
            have c2 : decide ((1000 : Int) < (k : Int)) = true := by simp; omega
            have c3 : decide (1000 < k) = true := by simp; omega
            have c4 : decide ((k : Int) ≤ 1000) = false := by simp; omega
            have c5 : decide (k ≤ 1000) = false := by simp; omega
            clear hPr hlow
            go_wp2_with (first
            | (go_at_call 8; refine HPr.out.mono ?_; rintro e w1 ⟨rfl, hb1⟩; have z1 := Lib.hid ((HLow.out.trans (hb1.mono HLow.out.size)).alloc (HLow.out.trans (hb1.mono HLow.out.size)).size (.cells #[.bool false] 26)); clear hb1)
            | (go_at_call 7; refine (HKn.out _ z1.out).mono ?_; rintro e w2 ⟨rfl, hb2⟩; have z2 := Lib.hid (z1.out.trans (hb2.mono z1.out.size)); clear hb2))
            go_ret
            exact ⟨rfl, z2.out⟩
          · rw [show progM (mRs k) = .tuple #[.agg #[.bool true], .int .i64 0] by unfold progM; rw [mRs_prog HNn.out, if_neg hk9, mRs_neg]; rfl] at hPr
            have HPr := Lib.hid hPr
            have c1 : decide ((k : Int) > 1000) = false := by simp; omega
            have c2 : decide ((1000 : Int) < (k : Int)) = false := by simp; omega
            have c3 : decide (1000 < k) = false := by simp; omega
            have c4 : decide ((k : Int) ≤ 1000) = true := by simp; omega
            have c5 : decide (k ≤ 1000) = true := by simp; omega
            clear hPr hlow
            go_wp2_with (first
            | (go_at_call 8; refine HPr.out.mono ?_; rintro e w1 ⟨rfl, hb1⟩; have z1 := Lib.hid ((HLow.out.trans (hb1.mono HLow.out.size)).alloc (HLow.out.trans (hb1.mono HLow.out.size)).size (.cells #[.bool true] 26)); clear hb1)
            | (go_at_call 7; refine (HKn.out _ z1.out).mono ?_; rintro e w2 ⟨rfl, hb2⟩; have z2 := Lib.hid (z1.out.trans (hb2.mono z1.out.size)); clear hb2))
            go_ret
            exact ⟨rfl, z2.out⟩
end Go.Proofs.YtlkiigoblkfkpaaGreatDoor

