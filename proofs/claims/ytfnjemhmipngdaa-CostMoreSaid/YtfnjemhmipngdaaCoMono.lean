/-
  QUOTIENTS, ROUNDED TO EVEN: they rise with what is divided; by one or more nothing rises. Plain mathematics.
-/
import Derived.Test.YtfnjemhmipngdaaCoOrder
namespace Go.Proofs.Ytfnjemhmipngdaa
set_option linter.unusedVariables false
set_option linter.unusedSimpArgs false
open Ieee

/-- U by E, to the nearest, to even. -/
def rheN (U E : Nat) : Nat := U / E + (decide (E < 2 * (U % E)) || (E == 2 * (U % E) && U / E % 2 == 1)).toNat
theorem rhe_spec (U E : Nat) (hE : 0 < E) : 2 * (rheN U E * E) ≤ 2 * U + E ∧ 2 * U ≤ 2 * (rheN U E * E) + E ∧ (2 * U = 2 * (rheN U E * E) + E → rheN U E % 2 = 0) ∧ (2 * U + E = 2 * (rheN U E * E) → rheN U E % 2 = 0) := by
  unfold rheN
  have h1 := Nat.div_add_mod U E
  have h2 := Nat.mod_lt U hE
  generalize U % E = rest at *
  generalize U / E = lo at *
  rw [Nat.mul_comm] at h1
  have h3 : (lo + 1) * E = lo * E + E := Nat.succ_mul lo E
  generalize hP : lo * E = P at *
  by_cases c1 : E < 2 * rest
  · rw [decide_eq_true c1, Bool.true_or, Bool.toNat_true, h3]
    omega
  · rw [decide_eq_false c1, Bool.false_or]
    by_cases c2 : E = 2 * rest
    · by_cases c3 : lo % 2 = 1
      · have : (E == 2 * rest && lo % 2 == 1) = true := by rw [Bool.and_eq_true, beq_iff_eq, beq_iff_eq]; exact ⟨c2, c3⟩
        rw [this, Bool.toNat_true, h3]
        omega
      · have : (E == 2 * rest && lo % 2 == 1) = false := by rw [Bool.and_eq_false_iff]; exact .inr (by rw [beq_eq_false_iff_ne]; exact c3)
        rw [this, Bool.toNat_false, Nat.add_zero, hP]
        omega
    · have : (E == 2 * rest && lo % 2 == 1) = false := by rw [Bool.and_eq_false_iff]; exact .inl (by rw [beq_eq_false_iff_ne]; exact c2)
      rw [this, Bool.toNat_false, Nat.add_zero, hP]
      omega
theorem rhe_mono {U1 E1 U2 E2 : Nat} (h1 : 0 < E1) (h2 : 0 < E2) (h : U1 * E2 ≤ U2 * E1) : rheN U1 E1 ≤ rheN U2 E2 := by
  obtain ⟨a1, b1, c1, d1⟩ := rhe_spec U1 E1 h1
  obtain ⟨a2, b2, c2, d2⟩ := rhe_spec U2 E2 h2
  generalize rheN U1 E1 = r1 at *
  generalize rheN U2 E2 = r2 at *
  rw [← Nat.not_lt]
  intro hlt
  obtain ⟨t, rfl⟩ : ∃ t, r1 = r2 + 1 + t := ⟨r1 - (r2 + 1), by omega⟩
  have p1 := Nat.mul_le_mul_right E2 a1
  have p2 := Nat.mul_le_mul_right E1 b2
  have hG : 0 < E1 * E2 := Nat.mul_pos h1 h2
  have q1 : 2 * ((r2 + 1 + t) * E1) * E2 = 2 * (r2 * (E1 * E2)) + 2 * (E1 * E2) + 2 * (t * (E1 * E2)) := by
    rw [Nat.mul_assoc 2, Nat.mul_assoc (r2 + 1 + t), Nat.add_mul, Nat.add_mul, Nat.one_mul]
    omega
  have q2 : (2 * U1 + E1) * E2 = 2 * (U1 * E2) + E1 * E2 := by rw [Nat.add_mul, Nat.mul_assoc]
  have q3 : (2 * (r2 * E2) + E2) * E1 = 2 * (r2 * (E1 * E2)) + E1 * E2 := by
    rw [Nat.add_mul, Nat.mul_assoc 2, Nat.mul_assoc r2, Nat.mul_comm E2 E1]
  have q4 : 2 * U2 * E1 = 2 * (U2 * E1) := Nat.mul_assoc _ _ _
  rw [q1, q2] at p1
  rw [q3, q4] at p2
  have ht : t * (E1 * E2) = 0 := by omega
  have ht0 : t = 0 := by
    rcases Nat.mul_eq_zero.1 ht with h | h
    · exact h
    · omega
  subst ht0
  have e2 : 2 * U2 = 2 * (r2 * E2) + E2 := by
    refine Nat.le_antisymm b2 ?_
    refine Nat.le_of_mul_le_mul_right (c := E1) ?_ h1
    rw [q3, q4]
    omega
  have e1 : 2 * U1 + E1 = 2 * ((r2 + 1 + 0) * E1) := by
    refine Nat.le_antisymm ?_ a1
    refine Nat.le_of_mul_le_mul_right (c := E2) ?_ h2
    rw [q1, q2]
    omega
  have := c2 e2
  have := d1 e1
  omega
theorem rhe_whole (k E : Nat) (hE : 0 < E) : rheN (k * E) E = k := by
  unfold rheN
  rw [Nat.mul_div_cancel _ hE, Nat.mul_mod_left]
  have : (decide (E < 2 * 0) || (E == 2 * 0 && k % 2 == 1)) = false := by
    rw [Bool.or_eq_false_iff, Bool.and_eq_false_iff]
    exact ⟨decide_eq_false (by omega), .inl (by rw [beq_eq_false_iff_ne]; omega)⟩
  rw [this]
  rfl
theorem log2_mono {a b : Nat} (h : a ≤ b) : a.log2 ≤ b.log2 := by
  by_cases ha : a = 0
  · subst ha; exact Nat.zero_le _
  · have hb : b ≠ 0 := by omega
    rw [Nat.le_log2 hb]
    exact Nat.le_trans (Nat.log2_self_le ha) h
abbrev BB : Nat := 4503599627370496
theorem BB_eq : BB = 2 ^ 52 := by decide
/-- The rung of U by D, in units of the least place. -/
def rqN (U D : Nat) : Nat := ((U / D).log2 - 52) * BB + rheN U (D * 2 ^ ((U / D).log2 - 52))
theorem rq_mono {U1 D1 U2 D2 : Nat} (h1 : 0 < D1) (h2 : 0 < D2) (h : U1 * D2 ≤ U2 * D1) : rqN U1 D1 ≤ rqN U2 D2 := by
  have hf : U1 / D1 ≤ U2 / D2 := by
    rw [Nat.le_div_iff_mul_le h2]
    refine Nat.le_of_mul_le_mul_right (c := D1) ?_ h1
    refine Nat.le_trans ?_ h
    have := Nat.mul_le_mul_right D2 (Nat.div_mul_le_self U1 D1)
    refine Nat.le_trans (Nat.le_of_eq ?_) this
    ac_rfl
  have hl := log2_mono hf
  have hlt1 : U1 / D1 < 2 ^ ((U1 / D1).log2 + 1) := Nat.lt_log2_self
  have hge2 : U2 / D2 ≠ 0 → 2 ^ (U2 / D2).log2 ≤ U2 / D2 := Nat.log2_self_le
  unfold rqN
  generalize hm1 : (U1 / D1).log2 = m1 at *
  generalize hm2 : (U2 / D2).log2 = m2 at *
  have p1 : 0 < D1 * 2 ^ (m1 - 52) := Nat.mul_pos h1 (Nat.two_pow_pos _)
  have p2 : 0 < D2 * 2 ^ (m2 - 52) := Nat.mul_pos h2 (Nat.two_pow_pos _)
  by_cases he : m1 - 52 = m2 - 52
  · rw [he] at p1 ⊢
    refine Nat.add_le_add_left (rhe_mono p1 p2 ?_) _
    have := Nat.mul_le_mul_right (2 ^ (m2 - 52)) h
    rw [Nat.mul_assoc, Nat.mul_assoc] at this
    exact this
  · have hlow : rheN U1 (D1 * 2 ^ (m1 - 52)) ≤ 2 * BB := by
      have := rhe_mono (U1 := U1) (E1 := D1 * 2 ^ (m1 - 52)) (U2 := 2 * BB * (D1 * 2 ^ (m1 - 52))) (E2 := D1 * 2 ^ (m1 - 52)) p1 p1 (Nat.mul_le_mul_right _ ?_)
      · rwa [rhe_whole _ _ p1] at this
      · have h3 : U1 / D1 < 2 ^ (53 + (m1 - 52)) := Nat.lt_of_lt_of_le hlt1 (Nat.pow_le_pow_right (by omega) (by omega))
        rw [Nat.div_lt_iff_lt_mul h1] at h3
        refine Nat.le_of_lt (Nat.lt_of_lt_of_le h3 (Nat.le_of_eq ?_))
        rw [Nat.pow_add, show (2 : Nat) ^ 53 = 2 * BB by decide]
        ac_rfl
    have hhigh : BB ≤ rheN U2 (D2 * 2 ^ (m2 - 52)) := by
      have := rhe_mono (U1 := BB * (D2 * 2 ^ (m2 - 52))) (E1 := D2 * 2 ^ (m2 - 52)) (U2 := U2) (E2 := D2 * 2 ^ (m2 - 52)) p2 p2 (Nat.mul_le_mul_right _ ?_)
      · rwa [rhe_whole _ _ p2] at this
      · have hne : U2 / D2 ≠ 0 := by
          intro h0
          rw [h0] at hm2
          have : m2 = 0 := hm2.symm
          omega
        have h3 := hge2 hne
        rw [Nat.le_div_iff_mul_le h2] at h3
        refine Nat.le_trans (Nat.le_of_eq ?_) h3
        rw [show m2 = 52 + (m2 - 52) by omega, Nat.pow_add, show 52 + (m2 - 52) - 52 = m2 - 52 by omega, BB_eq]
        ac_rfl
    have : m1 - 52 + 1 ≤ m2 - 52 := by omega
    have := Nat.mul_le_mul_right BB this
    rw [Nat.add_mul] at this
    omega
/-- The value of a rung, in units of the least place. -/
def vrN (p : Nat) : Nat := if p < BB then p else (BB + p % BB) * 2 ^ (p / BB - 1)
theorem rq_vr (p : Nat) : rqN (vrN p) 1 = p := by
  unfold rqN vrN
  rw [Nat.div_one]
  by_cases h : p < BB
  · rw [if_pos h]
    have : p.log2 - 52 = 0 := by
      by_cases h0 : p = 0
      · subst h0; rfl
      · have : p.log2 < 52 := (Nat.log2_lt h0).2 h
        omega
    rw [this, Nat.zero_mul, Nat.zero_add]
    have := rhe_whole p 1 (by decide)
    rwa [Nat.mul_one] at this
  · rw [if_neg h]
    have hlt := Nat.mod_lt p (show 0 < BB by decide)
    have hdm := Nat.div_add_mod p BB
    have hpos : 1 ≤ p / BB := by rw [Nat.le_div_iff_mul_le (by decide)]; omega
    have hBB : BB = 4503599627370496 := rfl
    generalize p % BB = f at *
    generalize hk : p / BB - 1 = k at *
    have hlog : ((BB + f) * 2 ^ k).log2 = 52 + k := by
      have hne : (BB + f) * 2 ^ k ≠ 0 := Nat.ne_of_gt (Nat.mul_pos (by omega) (Nat.two_pow_pos _))
      rw [Nat.log2_eq_iff hne]
      constructor
      · rw [Nat.pow_add]
        exact Nat.mul_le_mul_right _ (by omega)
      · rw [show 52 + k + 1 = 53 + k by omega, Nat.pow_add]
        refine Nat.mul_lt_mul_of_pos_right ?_ (Nat.two_pow_pos _)
        omega
    rw [hlog, show 52 + k - 52 = k by omega, Nat.one_mul, rhe_whole _ _ (Nat.two_pow_pos _)]
    have : p / BB = k + 1 := by omega
    have e : BB * (k + 1) = k * BB + BB := by rw [Nat.mul_comm BB (k + 1), Nat.succ_mul]
    rw [this, e] at hdm
    generalize k * BB = z at hdm ⊢
    omega
theorem vr_mono {p q : Nat} (h : p ≤ q) : vrN p ≤ vrN q := by
  rw [← Nat.not_lt]
  intro hlt
  have h1 := rq_mono (U1 := vrN q) (D1 := 1) (U2 := vrN p) (D2 := 1) (by decide) (by decide) (by omega)
  rw [rq_vr, rq_vr] at h1
  have : p = q := by omega
  subst this
  omega
end Go.Proofs.Ytfnjemhmipngdaa
