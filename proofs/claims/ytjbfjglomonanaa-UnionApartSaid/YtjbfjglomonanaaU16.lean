/-
  WHAT THE PROOF STANDS ON, a part of it: UnSort12, UnSort13, UnSort14.
-/
import Derived.Test.YtjbfjglomonanaaU15
import Derived.Sort.LotA
import Derived.Sort.LotB
import Derived.Sort.LotC
import Derived.Sort.LotD3
import Derived.Test.YtjbfjglomonanaaU12
import Derived.Test.YtjbfjglomonanaaU13
/-
  THE LOOP OF pdqsortOrdered: what is sorted and what is left (plain mathematics).
-/

namespace Go.Proofs.Ytjbfjglomonanaa
open Go.RowKit Go.Sort
set_option linter.unusedVariables false
set_option linter.unusedSimpArgs false

structure PdqI (a0 b0 : Nat) (d0 : Array Nat) (n a b : Nat) (d : Array Nat) : Prop where
  size : n = d.size
  le : a ≤ b
  hb : b ≤ n
  below : Below ltU a b d
  fin : ∀ R, PermIn a b d R → SortedIn ltU a b R → PermIn a0 b0 d0 R ∧ SortedIn ltU a0 b0 R
section
variable {a0 b0 n a b : Nat} {d0 d : Array Nat}
theorem PdqI.start (hab : a ≤ b) (hb : b ≤ d.size) (hB : Below ltU a b d) : PdqI a b d d.size a b d := ⟨rfl, hab, hb, hB, fun R h1 h2 => ⟨h1, h2⟩⟩
theorem PdqI.perm (h : PdqI a0 b0 d0 n a b d) {d' : Array Nat} (hp : PermIn a b d d') : PdqI a0 b0 d0 n a b d' :=
  ⟨h.size.trans hp.1.symm, h.le, h.hb, h.below.perm (by rw [← h.size]; exact h.hb) hp, fun R h1 h2 => h.fin R (permIn_trans _ _ _ a b hp h1) h2⟩
theorem PdqI.ins (h : PdqI a0 b0 d0 n a b d) : PermIn a0 b0 d0 (insertionSort ltU d a b) ∧ SortedIn ltU a0 b0 (insertionSort ltU d a b) := by
  obtain ⟨h1, h2⟩ := insertionSort_holds (lt := ltU) swoU d a b h.le (by rw [← h.size]; exact h.hb)
  exact h.fin _ h1 h2
theorem PdqI.heap (h : PdqI a0 b0 d0 n a b d) : PermIn a0 b0 d0 (heapSort ltU d a b) ∧ SortedIn ltU a0 b0 (heapSort ltU d a b) := by
  obtain ⟨h1, h2⟩ := heapSort_holds (lt := ltU) swoU d a b h.le (by rw [← h.size]; exact h.hb)
  exact h.fin _ h1 h2
theorem PdqI.rev (h : PdqI a0 b0 d0 n a b d) : PdqI a0 b0 d0 n a b (reverseRange d a b) := h.perm (reverseRange_holds d a b h.le (by rw [← h.size]; exact h.hb))
theorem PdqI.pis (h : PdqI a0 b0 d0 n a b d) (hab : a < b) : PdqI a0 b0 d0 n a b (partialInsertionSort ltU d a b).1 ∧ ((partialInsertionSort ltU d a b).2 = true → PermIn a0 b0 d0 (partialInsertionSort ltU d a b).1 ∧ SortedIn ltU a0 b0 (partialInsertionSort ltU d a b).1) := by
  obtain ⟨h1, h2⟩ := partialInsertionSort_holds (lt := ltU) swoU d a b hab (by rw [← h.size]; exact h.hb) h.below
  exact ⟨h.perm h1, fun e => h.fin _ h1 (h2 e)⟩
theorem PdqI.eq (h : PdqI a0 b0 d0 n a b d) {p : Nat} (ha : 0 < a) (hp1 : a ≤ p) (hp2 : p < b) (hnl : ltU d[a - 1]! d[p]! = false) :
    a < (partitionEqual ltU d a b p).1 ∧ PdqI a0 b0 d0 n (partitionEqual ltU d a b p).1 b (partitionEqual ltU d a b p).2 := by
  obtain ⟨h1, h2, h3, h4, h5⟩ := round_eq (lt := ltU) swoU (partitionEqual_holds ltU) ha hp1 hp2 (by rw [← h.size]; exact h.hb) h.below hnl (show partitionEqual ltU d a b p = ((partitionEqual ltU d a b p).1, (partitionEqual ltU d a b p).2) from rfl)
  exact ⟨h1, h.size.trans h3.symm, h2, h.hb, h4, fun R r1 r2 => by obtain ⟨q1, q2⟩ := h5 R r1 r2; exact h.fin R q1 q2⟩
theorem PdqI.part (h : PdqI a0 b0 d0 n a b d) {p : Nat} (hp1 : a ≤ p) (hp2 : p < b) :
    a ≤ (partition ltU d a b p).1 ∧ (partition ltU d a b p).1 < b ∧ n = (partition ltU d a b p).2.2.size ∧ Below ltU a (partition ltU d a b p).1 (partition ltU d a b p).2.2 ∧ Below ltU ((partition ltU d a b p).1 + 1) b (partition ltU d a b p).2.2 ∧
    (∀ L, PermIn a (partition ltU d a b p).1 (partition ltU d a b p).2.2 L → SortedIn ltU a (partition ltU d a b p).1 L → PdqI a0 b0 d0 n ((partition ltU d a b p).1 + 1) b L) ∧
    (∀ L, PermIn ((partition ltU d a b p).1 + 1) b (partition ltU d a b p).2.2 L → SortedIn ltU ((partition ltU d a b p).1 + 1) b L → PdqI a0 b0 d0 n a (partition ltU d a b p).1 L) := by
  obtain ⟨h1, h2, h3, h4, h5, h6, h7⟩ := round_part (lt := ltU) swoU (partition_holds ltU) hp1 hp2 (by rw [← h.size]; exact h.hb) h.below (show partition ltU d a b p = ((partition ltU d a b p).1, (partition ltU d a b p).2.1, (partition ltU d a b p).2.2) from rfl)
  have hn := h.hb
  refine ⟨h1, h2, h.size.trans h3.symm, h4, h5, fun L l1 l2 => ?_, fun L l1 l2 => ?_⟩
  · obtain ⟨k1, k2⟩ := h6 L l1 l2
    exact ⟨(h.size.trans h3.symm).trans l1.1.symm, by omega, h.hb, k1, fun R r1 r2 => by obtain ⟨q1, q2⟩ := k2 R r1 r2; exact h.fin R q1 q2⟩
  · obtain ⟨k1, k2⟩ := h7 L l1 l2
    exact ⟨(h.size.trans h3.symm).trans l1.1.symm, by omega, by omega, k1, fun R r1 r2 => by obtain ⟨q1, q2⟩ := k2 R r1 r2; exact h.fin R q1 q2⟩
end
end Go.Proofs.Ytjbfjglomonanaa

/-
  CONTRACT OF slices.pdqsortOrdered at numbers of 32 bits: it sorts.
-/

namespace Go.Proofs.Ytjbfjglomonanaa
open Go.RowKit Go.Sort
set_option linter.unusedVariables false
set_option linter.unusedSimpArgs false

set_option maxRecDepth 100000 in
set_option maxHeartbeats 4000000 in
theorem pdqU_any {W0 : World} {blk off n : Nat} (cap : Nat) (hn : n ≤ 1000000) : ∀ (N : Nat) (W : World) (d : Array Nat) (a b limit : Nat), b - a < N → SrtW W0 blk off d W → n = d.size → a ≤ b → b ≤ n → limit ≤ 64 → Below ltU a b d →
    Calls Try.prog 44 #[.slice (some ⟨blk, off, none⟩) n cap, .int .i64 (a : Int), .int .i64 (b : Int), .int .i64 (limit : Int)] W fun e w' => ∃ d2, e = .returned (.tuple #[]) ∧ (PermIn a b d d2 ∧ SortedIn ltU a b d2) ∧ SrtW W0 blk off d2 w' := by
  intro N
  induction N with
  | zero => exact fun W d a b limit h => absurd h (Nat.not_lt_zero _)
  | succ N IH =>
    intro W d a b limit hN hW hd hab hb hl hB
    replace IH := Lib.hid IH
    have HW0 := Lib.hid hW
    have HQ := Lib.hid less_any
    have HI0 : Hid (PdqI a b d n a b d) := Lib.hid (by rw [hd] at hb ⊢; exact PdqI.start hab hb hB)
    clear hW hB hd
    have HNn := Lib.hid hN
    go_enter Try.func44, Try.ntmps44
    go_wp2
    go_loopg [1, 2, 3, 8, 9] (N + 2) (fun g av bv lv xv yv wr => ∃ (a' b' l' : Nat) (x y : Bool) (d' : Array Nat), b' - a' + 1 ≤ g ∧ b' - a' ≤ N ∧ l' ≤ 64 ∧ av = .int .i64 (a' : Int) ∧ bv = .int .i64 (b' : Int) ∧ lv = .int .i64 (l' : Int) ∧ xv = .bool x ∧ yv = .bool y ∧ Hid (PdqI a b d n a' b' d') ∧ SrtW W0 blk off d' wr)
    case atStart => exact ⟨a, b, limit, true, true, d, by omega, by omega, hl, rfl, rfl, rfl, rfl, rfl, HI0, HW0.out⟩
    case round =>
      obtain ⟨a', b', l', x, y, d', hg, hN', hl', rfl, rfl, rfl, rfl, rfl, hI, hW⟩ := hrel
      have HW := Lib.hid hW
      clear hW
      have hle := hI.out.le
      have hbn := hI.out.hb
      obtain ⟨ln, hln⟩ : ∃ ln, ln = b' - a' := ⟨_, rfl⟩
      have v1 : IntKind.i64.wrap ((b' : Int) - (a' : Int)) = (ln : Int) := wrap_nat _ _ (by omega) (by omega)
      have HLn : Hid (ln = b' - a') := Lib.hid hln
      by_cases h12 : ln ≤ 12
      · have e1 : decide ((ln : Int) ≤ 12) = true := by simp; omega
        have HC := insU_any HW.out cap a' b' (by rw [← hI.out.size]; exact hbn) (by omega) (by rw [← hI.out.size]; exact hn)
        rw [← hI.out.size] at HC
        replace HC := Lib.hid HC
        have HF := Lib.hid hI.out.ins
        clear hln
        go_wp2_with (go_at_call 55; refine HC.out.mono ?_; rintro e w2 ⟨rfl, hW2⟩; replace hW2 := Lib.hid hW2)
        refine bodyPost_ret (results_none rfl _ _ _) rfl ?_
        exact ⟨_, by simp, HF.out, hW2.out⟩
      · have e1 : decide ((ln : Int) ≤ 12) = false := by simp; omega
        have hab12 : a' + 12 < b' := by omega
        by_cases hl0 : l' = 0
        · subst hl0
          have HC := heapU_any HW.out cap a' b' (by rw [← hI.out.size]; exact hbn) (by omega) (by rw [← hI.out.size]; exact hn)
          rw [← hI.out.size] at HC
          replace HC := Lib.hid HC
          have HF := Lib.hid hI.out.heap
          clear hln
          go_wp2_with (go_at_call 56; refine HC.out.mono ?_; rintro e w2 ⟨rfl, hW2⟩; replace hW2 := Lib.hid hW2)
          refine bodyPost_ret (results_none rfl _ _ _) rfl ?_
          exact ⟨_, by simp, HF.out, hW2.out⟩
        · have e2 : ((l' : Int) == 0) = false := by simp; omega
          have e2' : decide ((l' : Int) = 0) = false := by simp; omega
          have HLp : Hid (0 < l') := Lib.hid (by omega)
          clear hln
          go_upto_region 5 with fail
          go_cut [29] (fun s29 wx => s29 = .bool false ∧ SrtW W0 blk off d' wx)
          case first =>
            go_wp2
            go_meet
            exact ⟨rfl, HW.out⟩
          case rest =>
            obtain ⟨rfl, hcut⟩ := hcut
            replace HW := Lib.hid hcut
            clear hcut e1
            go_step
            go_step
            go_step
            go_step
            go_step
            go_step
            go_cut [3] (fun s3 wx => ∃ (l2 : Nat) (d2 : Array Nat), s3 = .int .i64 (l2 : Int) ∧ l2 ≤ 64 ∧ Hid (PdqI a b d n a' b' d2) ∧ SrtW W0 blk off d2 wx)
            case first =>
              cases x with
              | true =>
                go_wp2
                go_meet
                exact ⟨l', d', rfl, hl', hI, HW.out⟩
              | false =>
                obtain ⟨lm, hlm⟩ : ∃ lm, lm = l' - 1 := ⟨_, rfl⟩
                have v2 : IntKind.i64.wrap ((l' : Int) - 1) = (lm : Int) := wrap_nat _ _ (by omega) (by omega)
                have HC := brkU_any HW.out cap a' b' (by rw [← hI.out.size]; exact hbn) hab12 (by rw [← hI.out.size]; exact hn)
                rw [← hI.out.size] at HC
                replace HC := Lib.hid HC
                have hlm2 : lm ≤ 64 := by omega
                clear hlm
                go_wp2_with (go_at_call 57; refine HC.out.mono ?_; rintro e w2 ⟨d2, rfl, hP, hW2⟩; replace hW2 := Lib.hid hW2; replace hP := Lib.hid hP)
                go_meet
                exact ⟨lm, d2, rfl, hlm2, Lib.hid (hI.out.perm hP.out), hW2.out⟩
            case rest =>
              obtain ⟨l2, d2, rfl, hl2, hI2, hcut⟩ := hcut
              replace HW := Lib.hid hcut
              clear hcut hI
              rename World => wo2
              go_upto_region 10 with fail
              go_cut [11, 12] (fun s11 s12 wx => ∃ p h : Nat, s11 = .int .i64 (p : Int) ∧ s12 = .int .i64 (h : Int) ∧ (a' ≤ p ∧ p < b') ∧ h ≤ 2 ∧ SrtW W0 blk off d2 wx)
              case first =>
                have HC := pivU_any HW.out cap a' b' (by rw [← hI2.out.size]; exact hbn) hab12 (by rw [← hI2.out.size]; exact hn)
                rw [← hI2.out.size] at HC
                replace HC := Lib.hid HC
                go_wp2_with (go_at_call 58; refine HC.out.mono ?_; rintro e w2 ⟨p, h, rfl, hp, hh, hW2⟩; replace hW2 := Lib.hid hW2)
                go_meet
                exact ⟨p, h, rfl, rfl, hp, hh, hW2.out⟩
              case rest =>
                obtain ⟨p, h, rfl, rfl, hp, hh, hcut⟩ := hcut
                replace HW := Lib.hid hcut
                clear hcut
                rename World => wo3
                go_step
                go_step
                go_cut [11, 12] (fun s11 s12 wx => ∃ (p h : Nat) (d3 : Array Nat), s11 = .int .i64 (p : Int) ∧ s12 = .int .i64 (h : Int) ∧ (a' ≤ p ∧ p < b') ∧ h ≤ 2 ∧ Hid (PdqI a b d n a' b' d3) ∧ SrtW W0 blk off d3 wx)
                case first =>
                  by_cases hh2 : h = 2
                  · subst hh2
                    have f1 : ((((2 : Nat) : Int)) == 2) = true := by simp
                    obtain ⟨bm, hbm⟩ : ∃ bm, bm = b' - 1 := ⟨_, rfl⟩
                    obtain ⟨pm, hpm⟩ : ∃ pm, pm = p - a' := ⟨_, rfl⟩
                    obtain ⟨p2, hp2⟩ : ∃ p2, p2 = bm - pm := ⟨_, rfl⟩
                    have v2 : IntKind.i64.wrap ((b' : Int) - 1) = (bm : Int) := wrap_nat _ _ (by omega) (by omega)
                    have v3 : IntKind.i64.wrap ((p : Int) - (a' : Int)) = (pm : Int) := wrap_nat _ _ (by omega) (by omega)
                    have v4 : IntKind.i64.wrap ((bm : Int) - (pm : Int)) = (p2 : Int) := wrap_nat _ _ (by omega) (by omega)
                    have hpr : a' ≤ p2 ∧ p2 < b' := by omega
                    have HC := revU_any HW.out cap a' b' (by rw [← hI2.out.size]; exact hbn) (by omega) hle (by rw [← hI2.out.size]; exact hn)
                    rw [← hI2.out.size] at HC
                    replace HC := Lib.hid HC
                    clear hbm hpm hp2
                    go_wp2_with (go_at_call 59; refine HC.out.mono ?_; rintro e w2 ⟨rfl, hW2⟩; replace hW2 := Lib.hid hW2)
                    go_meet
                    exact ⟨p2, 1, _, rfl, rfl, hpr, by omega, Lib.hid hI2.out.rev, hW2.out⟩
                  · have f1 : ((h : Int) == 2) = false := by rw [beq_eq_false_iff_ne]; omega
                    go_wp2
                    go_meet
                    exact ⟨p, h, d2, rfl, rfl, hp, hh, hI2, HW.out⟩
                case rest =>
                  obtain ⟨p3, h3, d3, rfl, rfl, hp3, hh3, hI3, hcut⟩ := hcut
                  replace HW := Lib.hid hcut
                  clear hcut hI2 hp hh
                  rename World => wo4
                  go_step
                  go_step
                  go_cut [] (fun wx => ∃ d4 : Array Nat, Hid (PdqI a b d n a' b' d4) ∧ SrtW W0 blk off d4 wx)
                  case first =>
                    cases x with
                    | false =>
                      go_wp2
                      go_meet
                      exact ⟨d3, hI3, HW.out⟩
                    | true =>
                      cases y with
                      | false =>
                        go_wp2
                        go_meet
                        exact ⟨d3, hI3, HW.out⟩
                      | true =>
                        by_cases hh1 : h3 = 1
                        · subst hh1
                          have f1 : ((((1 : Nat) : Int)) == 1) = true := by simp
                          have HC := pisU_any HW.out cap a' b' (by rw [← hI3.out.size]; exact hbn) (by omega) (by rw [← hI3.out.size]; exact hn)
                          rw [← hI3.out.size] at HC
                          replace HC := Lib.hid HC
                          have HF := hI3.out.pis (by omega)
                          generalize partialInsertionSort ltU d3 a' b' = res at *
                          obtain ⟨d4, r⟩ := res
                          simp only [] at HF
                          replace HF := Lib.hid HF
                          cases r with
                          | true =>
                            go_wp2_with (go_at_call 60; refine HC.out.mono ?_; rintro e w2 ⟨rfl, hW2⟩; replace hW2 := Lib.hid hW2)
                            refine bodyPost_ret (results_none rfl _ _ _) rfl ?_
                            exact ⟨d4, by simp, HF.out.2 (by simp), hW2.out⟩
                          | false =>
                            go_wp2_with (go_at_call 60; refine HC.out.mono ?_; rintro e w2 ⟨rfl, hW2⟩; replace hW2 := Lib.hid hW2)
                            go_meet
                            exact ⟨d4, Lib.hid HF.out.1, hW2.out⟩
                        · have f1 : ((h3 : Int) == 1) = false := by rw [beq_eq_false_iff_ne]; omega
                          go_wp2
                          go_meet
                          exact ⟨d3, hI3, HW.out⟩
                  case rest =>
                    obtain ⟨d4, hI4, hcut⟩ := hcut
                    replace HW := Lib.hid hcut
                    clear hcut hI3
                    rename World => wo5
                    obtain ⟨am, ham⟩ : ∃ am, am = a' - 1 := ⟨_, rfl⟩
                    obtain ⟨q, hq⟩ : ∃ q, q = (decide (0 < a') && !decide (d4[am]! < d4[p3]!)) := ⟨_, rfl⟩
                    go_upto_region 17 with fail
                    go_cut [87] (fun s87 wx => s87 = .bool q ∧ SrtW W0 blk off d4 wx)
                    case first =>
                      by_cases ha0 : 0 < a'
                      · have g1 : decide ((a' : Int) > 0) = true := by simp; omega
                        have g1' : decide (0 < (a' : Int)) = true := by simp; omega
                        have g1n : decide (0 < a') = true := by simpa using ha0
                        have v2 : IntKind.i64.wrap ((a' : Int) - 1) = (am : Int) := wrap_nat _ _ (by omega) (by omega)
                        have hx := HW.out
                        have c1 := hx.cell (i := am) (by rw [← hI4.out.size]; omega)
                        have c0 := hx.cell (i := p3) (by rw [← hI4.out.size]; omega)
                        have q0 : (0 : Int) ≤ (am : Int) := by omega
                        have q1 : (am : Int) < (n : Int) := by omega
                        have q2 : (0 : Int) ≤ (p3 : Int) := by omega
                        have q3 : (p3 : Int) < (n : Int) := by omega
                        have HQ := Lib.hid (fun W => less_any d4[am]! d4[p3]! W)
                        have HE : Hid (q = !decide (d4[am]! < d4[p3]!)) := Lib.hid (by rw [hq, g1n, Bool.true_and])
                        generalize decide (d4[am]! < d4[p3]!) = z at *
                        clear hx hq ham
                        go_quiet ((go_at_call 61; exact Calls.quiet_of_same (HQ.out _)))
                        go_wp2
                        go_meet
                        exact ⟨by rw [HE.out], HW.out.drewN _⟩
                      · have g1 : decide ((a' : Int) > 0) = false := by simp; omega
                        have g1' : decide (0 < (a' : Int)) = false := by simp; omega
                        have g1n : decide (0 < a') = false := by simpa using ha0
                        have HE : Hid (q = false) := Lib.hid (by rw [hq, g1n, Bool.false_and])
                        clear hq ham
                        go_quiet (fail)
                        go_wp2
                        go_meet
                        exact ⟨by rw [HE.out], HW.out.drewN _⟩
                    case rest =>
                      obtain ⟨rfl, hcut⟩ := hcut
                      replace HW := Lib.hid hcut
                      clear hcut
                      rename World => wo6
                      cases q with
                      | true =>
                        have ha0 : 0 < a' := by
                          by_cases ha0 : 0 < a'
                          · exact ha0
                          · rw [show decide (0 < a') = false by simpa using ha0] at hq
                            cases hq
                        have hnl : ltU d4[a' - 1]! d4[p3]! = false := by
                          rw [show decide (0 < a') = true by simpa using ha0, Bool.true_and] at hq
                          rw [← ham]
                          show decide (d4[am]! < d4[p3]!) = false
                          cases hz : decide (d4[am]! < d4[p3]!)
                          · rfl
                          · rw [hz] at hq
                            cases hq
                        have HF := hI4.out.eq ha0 hp3.1 hp3.2 hnl
                        have HC := partEqU_any HW.out cap a' b' p3 (by rw [← hI4.out.size]; exact hbn) hp3.1 hp3.2 (by rw [← hI4.out.size]; exact hn)
                        rw [← hI4.out.size] at HC
                        generalize partitionEqual ltU d4 a' b' p3 = res at *
                        obtain ⟨mid, d5⟩ := res
                        simp only [] at HF HC
                        obtain ⟨hm1, HF⟩ := HF
                        have hm2 : mid ≤ b' := HF.le
                        replace HC := Lib.hid HC
                        replace HF := Lib.hid HF
                        clear hq ham hnl
                        go_wp2_with (go_at_call 62; refine HC.out.mono ?_; rintro e w2 ⟨rfl, hW2⟩; replace hW2 := Lib.hid hW2)
                        go_roundg (b' - mid + 1)
                        case measure => omega
                        case rel => exact ⟨mid, b', l2, x, y, d5, by omega, by omega, hl2, rfl, rfl, rfl, rfl, rfl, HF, hW2.out⟩
                      | false =>
                        have HF := hI4.out.part hp3.1 hp3.2
                        have HC := partU_any HW.out cap a' b' p3 (by rw [← hI4.out.size]; exact hbn) hp3.1 hp3.2 (by rw [← hI4.out.size]; exact hn)
                        rw [← hI4.out.size] at HC
                        generalize partition ltU d4 a' b' p3 = res at *
                        obtain ⟨mid, ap, d5⟩ := res
                        simp only [] at HF HC
                        obtain ⟨hm1, hm2, hz5, hBl, hBr, HFl, HFr⟩ := HF
                        replace HC := Lib.hid HC
                        replace HFl := Lib.hid HFl
                        replace HFr := Lib.hid HFr
                        replace hBl := Lib.hid hBl
                        replace hBr := Lib.hid hBr
                        replace hz5 := Lib.hid hz5
                        clear hq ham
                        go_upto_region 20 with fail
                        go_cut [14, 15] (fun s14 s15 wx => s14 = .int .i64 (mid : Int) ∧ s15 = .bool ap ∧ SrtW W0 blk off d5 wx)
                        case first =>
                          go_wp2_with (go_at_call 63; refine HC.out.mono ?_; rintro e w2 ⟨rfl, hW2⟩; replace hW2 := Lib.hid hW2)
                          go_meet
                          exact ⟨rfl, rfl, hW2.out⟩
                        case rest =>
                          obtain ⟨rfl, rfl, hcut⟩ := hcut
                          replace HW := Lib.hid hcut
                          clear hcut HC
                          rename World => wo7
                          obtain ⟨lf, hlf⟩ : ∃ lf, lf = mid - a' := ⟨_, rfl⟩
                          obtain ⟨rt, hrt⟩ : ∃ rt, rt = b' - mid := ⟨_, rfl⟩
                          obtain ⟨l8, hl8⟩ : ∃ l8, l8 = ln / 8 := ⟨_, rfl⟩
                          have hln2 := HLn.out
                          have v2 : IntKind.i64.wrap ((mid : Int) - (a' : Int)) = (lf : Int) := wrap_nat _ _ (by omega) (by omega)
                          have v3 : IntKind.i64.wrap ((b' : Int) - (mid : Int)) = (rt : Int) := wrap_nat _ _ (by omega) (by omega)
                          have v4 : ((ln : Int)).tdiv 8 = (l8 : Int) := by rw [Int.tdiv_eq_ediv_of_nonneg (by omega)]; omega
                          have v5 : IntKind.i64.wrap (l8 : Int) = (l8 : Int) := IntWalk.i64_in _ (by omega)
                          have v6 : IntKind.i64.wrap ((mid : Int) + 1) = ((mid + 1 : Nat) : Int) := wrap_nat _ _ (by omega) (by omega)
                          by_cases hlr : lf < rt
                          · have f1 : decide ((lf : Int) < (rt : Int)) = true := by simp; omega
                            have f1n : decide (lf < rt) = true := by simpa using hlr
                            have HC := Lib.hid (IH.out wo7 d5 a' mid l2 (by omega) HW.out hz5.out hm1 (by omega) hl2 hBl.out)
                            obtain ⟨bal, hbal⟩ : ∃ bal, bal = decide ((lf : Int) ≥ (l8 : Int)) := ⟨_, rfl⟩
                            have f2 : decide ((lf : Int) ≥ (l8 : Int)) = bal := hbal.symm
                            have f2' : decide ((l8 : Int) ≤ (lf : Int)) = bal := hbal.symm
                            have f2n : decide (l8 ≤ lf) = bal := by rw [hbal]; simp
                            have i1 : mid + 1 ≤ b' := by omega
                            clear hlf hrt hl8 hln2 hbal hlr
                            go_wp2_with (go_at_call 44; refine HC.out.mono ?_; rintro e w2 ⟨d6, rfl, hd6, hW2⟩; replace hW2 := Lib.hid hW2; replace hd6 := Lib.hid hd6)
                            go_roundg (b' - (mid + 1) + 1)
                            case measure => omega
                            case rel => exact ⟨mid + 1, b', l2, bal, ap, d6, by omega, by omega, hl2, by go_num, rfl, rfl, rfl, rfl, Lib.hid (HFl.out _ hd6.out.1 hd6.out.2), hW2.out⟩
                          · have f1 : decide ((lf : Int) < (rt : Int)) = false := by simp; omega
                            have f1n : decide (lf < rt) = false := by simpa using hlr
                            have HC := Lib.hid (IH.out wo7 d5 (mid + 1) b' l2 (by omega) HW.out hz5.out (by omega) hbn hl2 hBr.out)
                            obtain ⟨bal, hbal⟩ : ∃ bal, bal = decide ((rt : Int) ≥ (l8 : Int)) := ⟨_, rfl⟩
                            have f2 : decide ((rt : Int) ≥ (l8 : Int)) = bal := hbal.symm
                            have f2' : decide ((l8 : Int) ≤ (rt : Int)) = bal := hbal.symm
                            have f2n : decide (l8 ≤ rt) = bal := by rw [hbal]; simp
                            have i1 : mid + 1 ≤ b' := by omega
                            clear hlf hrt hl8 hln2 hbal hlr
                            go_wp2_with (go_at_call 44; refine HC.out.mono ?_; rintro e w2 ⟨d6, rfl, hd6, hW2⟩; replace hW2 := Lib.hid hW2; replace hd6 := Lib.hid hd6)
                            go_roundg (mid - a' + 1)
                            case measure => omega
                            case rel => exact ⟨a', mid, l2, bal, ap, d6, by omega, by omega, hl2, rfl, rfl, rfl, rfl, rfl, Lib.hid (HFr.out _ hd6.out.1 hd6.out.2), hW2.out⟩
end Go.Proofs.Ytjbfjglomonanaa

/-
  CONTRACT OF slices.Sort at numbers of 32 bits: the sorted list; of no numbers, nil or not: nothing.
-/

namespace Go.Proofs.Ytjbfjglomonanaa
open Go.RowKit Go.Sort
set_option linter.unusedVariables false
set_option linter.unusedSimpArgs false

theorem blen_le (n : Nat) (h : n ≤ 1000000) : Lib.bitLen n ≤ 64 := by
  by_cases h0 : n = 0
  · subst h0
    show Lib.bitLenAux 64 0 ≤ 64
    rw [Lib.bitLenAux_zero]
    omega
  · obtain ⟨h1, h2, h3⟩ := Lib.bitLenAux_bounds 64 n (Nat.lt_of_le_of_lt h (by decide)) h0
    obtain ⟨L, hL⟩ : ∃ L, L = Lib.bitLen n := ⟨_, rfl⟩
    rw [show Lib.bitLenAux 64 n = L from hL.symm] at h1 h2 h3
    rw [← hL]
    by_cases hk : L ≤ 64
    · exact hk
    · have := Nat.pow_le_pow_right (n := 2) (by omega) (show 64 ≤ L - 1 by omega)
      omega
theorem sort_unique {d d2 : Array Nat} (hP : PermIn 0 d.size d d2) (hS : SortedIn ltU 0 d.size d2) : d2.toList = d.toList.mergeSort (fun x y => decide (x ≤ y)) := by
  have h := sorted_unique_holds (lt := ltU) swoU (fun x y h1 h2 => by simp at h1 h2; omega) d d2 hP hS
  rw [h]
  congr 1
  funext x y
  by_cases hxy : x ≤ y
  · simp [hxy, Nat.not_lt.mpr hxy]
  · simp [hxy, Nat.lt_of_not_le hxy]
set_option maxRecDepth 100000 in
set_option maxHeartbeats 4000000 in
theorem sortU_any {W0 W : World} {blk off : Nat} {d : Array Nat} (h : SrtW W0 blk off d W) (cap : Nat) (hn : d.size ≤ 1000000) :
    Calls Try.prog 37 #[.slice (some ⟨blk, off, none⟩) d.size cap] W fun e w' => ∃ d2 : Array Nat, e = .returned (.tuple #[]) ∧ d2.toList = d.toList.mergeSort (fun x y => decide (x ≤ y)) ∧ SrtW W0 blk off d2 w' := by
  obtain ⟨n, hnn⟩ : ∃ n, n = d.size := ⟨_, rfl⟩
  have HL := Lib.hid (Try.bits_Len (n : Int) W (by omega) (by omega))
  rw [Int.toNat_natCast] at HL
  have hbl := blen_le n (by omega)
  have HC := pdqU_any (W0 := W0) (blk := blk) (off := off) cap (n := n) (by omega) (n + 1) W d 0 n (Lib.bitLen n) (by omega) h hnn (by omega) (Nat.le_refl _) hbl (Or.inl rfl)
  generalize Lib.bitLen n = L at *
  rw [show (((0 : Nat)) : Int) = 0 from rfl] at HC
  replace HC := Lib.hid HC
  have HN := Lib.hid hnn
  rw [← hnn]
  have v1 : IntKind.u64.wrap (n : Int) = (n : Int) := IntWalk.u64_in _ (by omega)
  clear h hnn
  go_enter Try.func37, Try.ntmps37
  go_wp2_with (first
    | (go_at_call 41; refine HL.out.mono ?_; rintro e w' ⟨rfl, rfl⟩)
    | (go_at_call 44; refine HC.out.mono ?_; rintro e w2 ⟨d2, rfl, hd2, hW2⟩; replace hW2 := Lib.hid hW2; replace hd2 := Lib.hid hd2))
  go_end0
  refine ⟨d2, by simp, ?_, hW2.out⟩
  have h1 := hd2.out.1
  have h2 := hd2.out.2
  rw [HN.out] at h1 h2
  exact sort_unique h1 h2
set_option maxRecDepth 100000 in
set_option maxHeartbeats 4000000 in
theorem insNil_any (p : Option Addr) (cap : Nat) (W : World) :
    Calls Try.prog 55 #[.slice p 0 cap, .int .i64 0, .int .i64 0] W fun e w' => e = .returned (.tuple #[]) ∧ w' = W := by
  go_enter Try.func55, Try.ntmps55
  go_wp2
  go_loopg [6] 1 (fun g i wr => i = .int .i64 1 ∧ wr = W)
  case atStart => exact ⟨by go_num, rfl⟩
  case round =>
    obtain ⟨rfl, rfl⟩ := hrel
    go_wp2
    go_end0
    exact ⟨by simp, rfl⟩
set_option maxRecDepth 100000 in
set_option maxHeartbeats 4000000 in
theorem pdqNil_any (p : Option Addr) (cap : Nat) (limit : Int) (W : World) :
    Calls Try.prog 44 #[.slice p 0 cap, .int .i64 0, .int .i64 0, .int .i64 limit] W fun e w' => e = .returned (.tuple #[]) ∧ w' = W := by
  have HC := Lib.hid (insNil_any p cap W)
  go_enter Try.func44, Try.ntmps44
  go_wp2
  go_loopg [1, 2, 3, 8, 9] 1 (fun g av bv lv xv yv wr => av = .int .i64 0 ∧ bv = .int .i64 0 ∧ wr = W)
  case atStart => exact ⟨rfl, rfl, rfl⟩
  case round =>
    obtain ⟨rfl, rfl, rfl⟩ := hrel
    go_wp2_with (go_at_call 55; refine HC.out.mono ?_; rintro e w2 ⟨rfl, rfl⟩)
    refine bodyPost_ret (results_none rfl _ _ _) rfl ?_
    exact ⟨by simp, rfl⟩
set_option maxRecDepth 100000 in
set_option maxHeartbeats 4000000 in
theorem sortNil_any (p : Option Addr) (cap : Nat) (W : World) :
    Calls Try.prog 37 #[.slice p 0 cap] W fun e w' => e = .returned (.tuple #[]) ∧ w' = W := by
  have HL := Lib.hid (Try.bits_Len 0 W (by omega) (by omega))
  have HC := Lib.hid (fun L => pdqNil_any p cap L W)
  generalize (Lib.bitLen (0 : Int).toNat) = L at *
  go_enter Try.func37, Try.ntmps37
  go_wp2_with (first
    | (go_at_call 41; refine HL.out.mono ?_; rintro e w' ⟨rfl, rfl⟩)
    | (go_at_call 44; refine (HC.out _).mono ?_; rintro e w2 ⟨rfl, rfl⟩))
  go_end0
  exact ⟨by simp, rfl⟩
end Go.Proofs.Ytjbfjglomonanaa

