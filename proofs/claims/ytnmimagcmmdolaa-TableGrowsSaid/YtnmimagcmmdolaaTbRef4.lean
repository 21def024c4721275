/-
  CONTRACT OF the reference's Distinct.
-/
import Derived.Test.YtnmimagcmmdolaaTbRef2
namespace Go.Proofs.Ytnmimagcmmdolaa
open Go.RowKit
set_option linter.unusedVariables false
set_option linter.unusedSimpArgs false

def fK (R : List EntN) (p : Nat) (x : EntN) (k : Nat) : Bool := liveB x && (List.range k).all fun j => match R[j]? with
  | some y => !liveB y || atN y.1 p != atN x.1 p
  | none => true
theorem fK_succ (R : List EntN) (p : Nat) (x : EntN) (k : Nat) (y : EntN) (hy : R[k]? = some y) : fK R p x (k + 1) = (fK R p x k && (!liveB y || atN y.1 p != atN x.1 p)) := by
  unfold fK
  rw [List.range_succ, List.all_append, ← Bool.and_assoc]
  simp [hy]
theorem fK_first (R : List EntN) (p n : Nat) (x : EntN) (hx : R[n]? = some x) : firstB R p n = fK R p x n := by
  unfold firstB fK
  rw [hx]
  rfl
def dK (R : List EntN) (p n : Nat) : Nat := (List.range n).countP (firstB R p)
theorem dK_succ (R : List EntN) (p n : Nat) : dK R p (n + 1) = dK R p n + (if firstB R p n = true then 1 else 0) := by
  unfold dK
  rw [List.range_succ, List.countP_append, List.countP_singleton]
theorem dK_le (R : List EntN) (p n : Nat) : dK R p n ≤ n := by
  unfold dK
  have := List.countP_le_length (p := firstB R p) (l := List.range n)
  rw [List.length_range] at this
  exact this
section
variable {W U w : World} {Q : Nat → Prop} {wb : Nat} {R : List EntN} {ra ba : Option Addr} {rc bc : Nat}
set_option maxRecDepth 100000 in
set_option maxHeartbeats 4000000 in
theorem RefI.dist (h : RefI w Q wb R) (p : Int) (hR : R.length ≤ 1000000) : Calls Try.prog 27 #[refP wb, .int .i64 p] w fun e w' => e = .returned (.int .i64 ((distI R p : Nat) : Int)) ∧ Below w.heap.size w w' := by
  obtain ⟨ra, rc, ba, bc, h⟩ := h
  obtain ⟨v, hv⟩ : ∃ v, v = distI R p := ⟨_, rfl⟩
  rw [← hv]
  have hB0 := Below.refl w.heap.size w
  by_cases hp0 : p < 0
  · have e0 : decide (p < 0) = true := by simpa using hp0
    have hv0 : v = 0 := by rw [hv]; unfold distI; rw [if_pos (.inl hp0)]
    subst hv0
    clear hv h
    go_enter Try.func27, Try.ntmps27
    go_wp2
    go_ret
    exact ⟨rfl, hB0⟩
  have e0 : decide (p < 0) = false := by simpa using hp0
  by_cases hp2 : 2 < p
  · have e1 : decide (2 < p) = true := by simpa using hp2
    have e1' : decide (p > 2) = true := by simpa using hp2
    have hv0 : v = 0 := by rw [hv]; unfold distI; rw [if_pos (.inr hp2)]
    subst hv0
    clear hv h
    go_enter Try.func27, Try.ntmps27
    go_wp2
    go_ret
    exact ⟨rfl, hB0⟩
  have e1 : decide (2 < p) = false := by simpa using hp2
  have e1' : decide (p > 2) = false := by simpa using hp2
  obtain ⟨pp, rfl⟩ : ∃ pp : Nat, p = (pp : Int) := ⟨p.toNat, by omega⟩
  have hpp : pp < 3 := by omega
  have hvv : v = dK R pp R.length := by
    rw [hv]
    unfold distI
    rw [if_neg (by omega), Int.toNat_natCast, distR_eq]
    rfl
  have HV := Lib.hid hvv
  have HP : Hid (∀ U, Below w.heap.size w U → U.cell? ⟨wb, 0, none⟩ = some (.slice ra R.length rc) ∧ U.cell? ⟨wb, 1, none⟩ = some (.slice ba R.length bc)) := Lib.hid (fun U hU => ⟨cell_in (h.below hU).blk rfl, cell_in (h.below hU).blk rfl⟩)
  have HRow : Hid (∀ U, Below w.heap.size w U → ∀ (k : Nat) (x : EntN), R[k]? = some x → ∃ g o g2 o2, ra = some ⟨g, o, none⟩ ∧ ba = some ⟨g2, o2, none⟩ ∧ U.cell? ⟨g, o + k * 3 + pp, none⟩ = some (.int .u32 (atN x.1 pp : Int)) ∧ U.cell? ⟨g2, o2 + k, none⟩ = some (.int .u8 (x.2 : Int))) :=
    Lib.hid (fun U hU k x hx => by
      obtain ⟨g, o, g2, o2, e1, e2, hc, _⟩ := (h.below hU).at_ (by have := (List.getElem?_eq_some_iff.1 hx).1; omega)
      obtain ⟨a, b, c, d⟩ := hc k x hx
      refine ⟨g, o, g2, o2, e1, e2, ?_, d⟩
      obtain rfl | rfl | rfl : pp = 0 ∨ pp = 1 ∨ pp = 2 := by omega
      · exact a
      · exact b
      · exact c)
  have j0 : (0 : Int) ≤ (pp : Int) := by omega
  have j1 : (pp : Int) < 3 := by omega
  clear h hv hvv hp0 hp2 hpp hB0
  go_enter Try.func27, Try.ntmps27
  go_wp2
  go_loopg [5, 6, 7, 8] R.length (fun g c i _ _ wr => ∃ n : Nat, n ≤ R.length ∧ R.length - n ≤ g ∧ i = .int .i64 (n : Int) ∧ c = .int .i64 ((dK R pp n : Nat) : Int) ∧ Below w.heap.size w wr)
  case atStart => exact ⟨0, Nat.zero_le _, by omega, rfl, rfl, Below.refl _ _⟩
  case round =>
    obtain ⟨n, hn, hg, rfl, rfl, hbr⟩ := hrel
    obtain ⟨p0, p1⟩ := HP.out _ hbr
    have hdl := dK_le R pp n
    by_cases hlt : n < R.length
    · obtain ⟨x, hx⟩ : ∃ x, R[n]? = some x := ⟨_, List.getElem?_eq_getElem hlt⟩
      obtain ⟨g1, o, g2, o2, hra, hba, a0, a3⟩ := HRow.out _ hbr n x hx
      rw [hba] at p1
      have e2 : decide ((n : Int) < (R.length : Int)) = true := by simp; omega
      have i0 : (0 : Int) ≤ (n : Int) := by omega
      have i1 : (n : Int) < (R.length : Int) := by omega
      have HX := Lib.hid hx
      have HBr := Lib.hid hbr
      have HSu := Lib.hid (dK_succ R pp n)
      have HRa := Lib.hid hra
      have HBa := Lib.hid hba
      have HL : Hid (((x.2 : Int) != 0) = liveB x) := Lib.hid (by unfold liveB; rw [Bool.eq_iff_iff, bne_iff_ne, bne_iff_ne]; omega)
      generalize dK R pp n = c0 at *
      clear hx hra hba hbr
      rename World => wo
      go_wp2
      go_loopg [7, 8] n (fun g f i wr => ∃ k : Nat, k ≤ n ∧ n - k ≤ g ∧ i = .int .i64 (k : Int) ∧ f = .bool (fK R pp x k) ∧ Below w.heap.size w wr)
      case atStart => exact ⟨0, Nat.zero_le _, by omega, rfl, by rw [HL.out]; unfold fK; simp, HBr.out⟩
      case round =>
        obtain ⟨k, hk, hg2, rfl, rfl, hbr2⟩ := hrel
        obtain ⟨q0, q1⟩ := HP.out _ hbr2
        rw [HRa.out] at q0
        rw [HBa.out] at q1
        have HB2 := Lib.hid hbr2
        by_cases hkn : k < n
        · obtain ⟨y, hy⟩ : ∃ y, R[k]? = some y := ⟨_, List.getElem?_eq_getElem (by omega)⟩
          obtain ⟨g1', o', g2', o2', hra', hba', b0, b3⟩ := HRow.out _ hbr2 k y hy
          obtain ⟨g1'', o'', g2'', o2'', hra'', hba'', b0', b3'⟩ := HRow.out _ hbr2 n x HX.out
          obtain ⟨rfl, rfl⟩ : g1' = g1 ∧ o' = o := by
            have := HRa.out.symm.trans hra'
            injection this with this
            injection this with e1 e2
            exact ⟨e1.symm, e2.symm⟩
          obtain ⟨rfl, rfl⟩ : g2' = g2 ∧ o2' = o2 := by
            have := HBa.out.symm.trans hba'
            injection this with this
            injection this with e1 e2
            exact ⟨e1.symm, e2.symm⟩
          obtain ⟨rfl, rfl⟩ : g1'' = g1' ∧ o'' = o' := by
            have := HRa.out.symm.trans hra''
            injection this with this
            injection this with e1 e2
            exact ⟨e1.symm, e2.symm⟩
          have hfs := fK_succ R pp x k y hy
          have e3 : decide ((k : Int) < (n : Int)) = true := by simp; omega
          have k0 : (0 : Int) ≤ (k : Int) := by omega
          have k1 : (k : Int) < (R.length : Int) := by omega
          have k2 : k + 1 ≤ 10000000 := by omega
          have HFs := Lib.hid hfs
          generalize fK R pp x k = f at *
          clear hfs hy hra' hba' hra'' hba'' hbr2 b3'
          cases f with
          | false =>
            have HF2 : Hid (fK R pp x (k + 1) = false) := Lib.hid (by rw [HFs.out]; rfl)
            go_upto_region 11 with fail
            go_quiet (fail)
            go_wp2
            go_roundg (n - (k + 1))
            case measure => omega
            case rel => exact ⟨k + 1, by omega, Nat.le_refl _, by go_num, by rw [HF2.out], below_drewN HB2.out _⟩
          | true =>
            by_cases hy0 : y.2 = 0
            · have d1 : ((y.2 : Int) == 0) = true := by simp [hy0]
              have HF2 : Hid (fK R pp x (k + 1) = true) := Lib.hid (by rw [HFs.out]; simp [liveB, hy0])
              clear hy0
              go_upto_region 11 with fail
              go_quiet (fail)
              go_wp2
              go_roundg (n - (k + 1))
              case measure => omega
              case rel => exact ⟨k + 1, by omega, Nat.le_refl _, by go_num, by rw [HF2.out], below_drewN HB2.out _⟩
            · have d1 : ((y.2 : Int) == 0) = false := by rw [beq_eq_false_iff_ne]; omega
              obtain ⟨d, hd⟩ : ∃ d, d = ((atN y.1 pp : Int) != (atN x.1 pp : Int)) := ⟨_, rfl⟩
              have HF2 : Hid (fK R pp x (k + 1) = d) := Lib.hid (by
                rw [HFs.out, hd]
                have : liveB y = true := by simp [liveB, hy0]
                rw [this, Bool.true_and, Bool.not_true, Bool.false_or, Bool.eq_iff_iff, bne_iff_ne, bne_iff_ne]
                omega)
              have d2 : ((atN y.1 pp : Int) != (atN x.1 pp : Int)) = d := hd.symm
              clear hy0 hd
              go_upto_region 11 with fail
              go_quiet (fail)
              go_wp2
              go_roundg (n - (k + 1))
              case measure => omega
              case rel => exact ⟨k + 1, by omega, Nat.le_refl _, by go_num, by rw [HF2.out], below_drewN HB2.out _⟩
        · obtain rfl : k = n := by omega
          have e3 : decide ((k : Int) < (k : Int)) = false := by simp
          have HFi := Lib.hid (fK_first R pp k x HX.out)
          rw [← HFi.out]
          clear hkn hbr2 q0 q1
          cases hf : firstB R pp k with
          | true =>
            have HD : Hid (dK R pp (k + 1) = c0 + 1) := Lib.hid (by rw [HSu.out, if_pos hf])
            have i4 : c0 + 1 ≤ 10000000 := by omega
            go_wp2
            go_roundg (R.length - (k + 1))
            case measure => omega
            case rel => exact ⟨k + 1, by omega, Nat.le_refl _, by go_num, by rw [HD.out]; go_num, HB2.out⟩
          | false =>
            have HD : Hid (dK R pp (k + 1) = c0) := Lib.hid (by rw [HSu.out, if_neg (by rw [hf]; decide)]; rfl)
            go_wp2
            go_roundg (R.length - (k + 1))
            case measure => omega
            case rel => exact ⟨k + 1, by omega, Nat.le_refl _, by go_num, by rw [HD.out], HB2.out⟩
    · have e2 : decide ((n : Int) < (R.length : Int)) = false := by simp; omega
      obtain rfl : n = R.length := by omega
      have HBr := Lib.hid hbr
      rw [← HV.out]
      clear hbr hlt hdl
      go_wp2
      go_ret
      exact ⟨rfl, HBr.out⟩
end
end Go.Proofs.Ytnmimagcmmdolaa
