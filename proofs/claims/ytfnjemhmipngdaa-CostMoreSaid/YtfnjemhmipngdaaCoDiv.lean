/-
  A QUOTIENT OF TWO NUMBERS THAT ARE NOT BELOW 0: the rung of the exact one. Plain mathematics.
-/
import Derived.Test.YtfnjemhmipngdaaCoMono
namespace Go.Proofs.Ytfnjemhmipngdaa
set_option linter.unusedVariables false
set_option linter.unusedSimpArgs false
open Ieee

abbrev F64 : Format := FloatKind.f64.format
abbrev infR : Nat := 9218868437227405312
abbrev sgW : Nat := 9223372036854775808
theorem f64_sign : F64.signWeight = sgW := by decide +kernel
theorem f64_binade : F64.binade = BB := by decide +kernel
theorem f64_inf : F64.infRung = infR := by decide +kernel
theorem f64_least : F64.leastPlace = -1074 := by decide +kernel
theorem f64_frac : F64.fractionBits = 52 := rfl
theorem cut_even (s : Bool) (Q d : Nat) : Toward.even.cut s Q d = rheN Q (2 ^ d) := by
  unfold Toward.cut rheN
  simp only [Nat.shiftLeft_eq, Nat.one_mul]
  by_cases h : d ≤ Q.log2 + 2
  · rw [Nat.min_eq_left h]
  · rw [Nat.min_eq_right (by omega)]
    have h1 : Q < 2 ^ (Q.log2 + 1) := Nat.lt_log2_self
    have h2 : 2 ^ (Q.log2 + 2) = 2 * 2 ^ (Q.log2 + 1) := by rw [show Q.log2 + 2 = (Q.log2 + 1) + 1 from rfl, Nat.pow_succ]; omega
    have h3 : 2 ^ (Q.log2 + 2) ≤ 2 ^ d := Nat.pow_le_pow_right (by omega) (by omega)
    have key : ∀ G, 2 * Q < G → Q / G + (decide (G < 2 * (Q % G)) || (G == 2 * (Q % G) && Q / G % 2 == 1)).toNat = 0 := fun G hG => by
      rw [Nat.div_eq_of_lt (by omega), Nat.mod_eq_of_lt (by omega), decide_eq_false (by omega), beq_eq_false_iff_ne.2 (by omega)]
      rfl
    rw [key _ (by omega), key _ (by omega)]
theorem sticky (M n K : Nat) (hn : 0 < n) (hK : 1 ≤ K) : rheN (2 * (M / n) + (M % n != 0).toNat) (2 ^ (K + 1)) = rheN M (n * 2 ^ K) := by
  obtain ⟨H, hH⟩ : ∃ H, 2 ^ K = 2 * H := ⟨2 ^ (K - 1), by rw [show K = K - 1 + 1 by omega, Nat.pow_succ, Nat.add_sub_cancel]; omega⟩
  have hHp : 0 < H := by have := Nat.two_pow_pos K; omega
  have hr := Nat.mod_lt M hn
  have e1 : (2 : Nat) ^ (K + 1) = 2 * 2 ^ K := by rw [Nat.pow_succ]; omega
  obtain ⟨b, hb⟩ : ∃ b, b = (M % n != 0).toNat := ⟨_, rfl⟩
  have hb2 : (b = 0 ∧ M % n = 0) ∨ (b = 1 ∧ M % n ≠ 0) := by
    by_cases h : M % n = 0
    · exact .inl ⟨by rw [hb, h]; rfl, h⟩
    · exact .inr ⟨by rw [hb, show (M % n != 0) = true by rw [bne_iff_ne]; exact h]; rfl, h⟩
  rw [← hb]
  unfold rheN
  have d1 : (2 * (M / n) + b) / 2 ^ (K + 1) = M / n / 2 ^ K := by
    rw [e1, ← Nat.div_div_eq_div_mul]
    congr 1
    omega
  have d2 : M / (n * 2 ^ K) = M / n / 2 ^ K := (Nat.div_div_eq_div_mul _ _ _).symm
  have m1 : (2 * (M / n) + b) % 2 ^ (K + 1) = b + 2 * (M / n % 2 ^ K) := by
    rw [e1, Nat.mod_mul]
    congr 1
    · omega
    · congr 2
      omega
  have m2 : M % (n * 2 ^ K) = M % n + n * (M / n % 2 ^ K) := Nat.mod_mul
  rw [d1, d2, m1, m2, e1, hH]
  generalize M / n / (2 * H) = lo
  generalize M / n % (2 * H) = f at *
  generalize M % n = r at *
  have c0 : n * (2 * H) = 2 * (n * H) := by rw [Nat.mul_left_comm]
  have key : (decide (2 * (2 * H) < 2 * (b + 2 * f)) = decide (n * (2 * H) < 2 * (r + n * f))) ∧ ((2 * (2 * H) == 2 * (b + 2 * f)) = (n * (2 * H) == 2 * (r + n * f))) := by
    rcases Nat.lt_trichotomy f H with hf | hf | hf
    · have h1 : n * f + n ≤ n * H := by
        have := Nat.mul_le_mul_left n (show f + 1 ≤ H from hf)
        rwa [Nat.mul_add, Nat.mul_one] at this
      refine ⟨?_, ?_⟩
      · rw [decide_eq_false (by omega), decide_eq_false (by omega)]
      · rw [beq_eq_false_iff_ne.2 (by omega), beq_eq_false_iff_ne.2 (by omega)]
    · subst hf
      rcases hb2 with ⟨rfl, h0⟩ | ⟨rfl, h0⟩
      · subst h0
        refine ⟨?_, ?_⟩
        · rw [decide_eq_false (by omega), decide_eq_false (by omega)]
        · rw [beq_iff_eq.2 (by omega), beq_iff_eq.2 (by omega)]
      · refine ⟨?_, ?_⟩
        · rw [decide_eq_true (by omega), decide_eq_true (by omega)]
        · rw [beq_eq_false_iff_ne.2 (by omega), beq_eq_false_iff_ne.2 (by omega)]
    · have h1 : n * H + n ≤ n * f := by
        have := Nat.mul_le_mul_left n (show H + 1 ≤ f from hf)
        rwa [Nat.mul_add, Nat.mul_one] at this
      refine ⟨?_, ?_⟩
      · rw [decide_eq_true (by omega), decide_eq_true (by omega)]
      · rw [beq_eq_false_iff_ne.2 (by omega), beq_eq_false_iff_ne.2 (by omega)]
  rw [key.1, key.2]
theorem log_of {a k : Nat} (h1 : 2 ^ k ≤ a) (h2 : a < 2 ^ (k + 1)) : a.log2 = k := (Nat.log2_eq_iff (by have := Nat.two_pow_pos k; omega)).2 ⟨h1, h2⟩
theorem nearest_quo (s : Bool) (m n : Nat) (I J : Nat) (hm : m ≠ 0) (hn : n ≠ 0) (Z : Nat) (hZ : (Z : Int) = 1074) (mo : Nat) (hmo : mo = 54 + n.log2 - m.log2) :
    F64.nearest s (2 * ((m <<< mo) / n) + ((m <<< mo) % n != 0).toNat) ((I : Int) - J - mo - 1) = F64.word s (min (rqN (m * 2 ^ (I + Z)) (n * 2 ^ J)) infR) := by
  have hnp : 0 < n := by omega
  rw [Nat.shiftLeft_eq]
  have hml : 2 ^ m.log2 ≤ m := Nat.log2_self_le hm
  have hnl : n < 2 ^ (n.log2 + 1) := Nat.lt_log2_self
  obtain ⟨M, hM⟩ : ∃ M, M = m * 2 ^ mo := ⟨_, rfl⟩
  rw [← hM]
  have hMl : 2 ^ (54 + n.log2) ≤ M := by
    refine Nat.le_trans (Nat.pow_le_pow_right (by omega) (show 54 + n.log2 ≤ m.log2 + mo by omega)) ?_
    rw [Nat.pow_add, hM]
    exact Nat.mul_le_mul_right _ hml
  have hF53 : 2 ^ 53 ≤ M / n := by
    rw [Nat.le_div_iff_mul_le hnp]
    refine Nat.le_trans (Nat.mul_le_mul_left _ (Nat.le_of_lt hnl)) ?_
    rw [← Nat.pow_add, show 53 + (n.log2 + 1) = 54 + n.log2 by omega]
    exact hMl
  have hFne : M / n ≠ 0 := by omega
  obtain ⟨f, hf⟩ : ∃ f, f = (M / n).log2 := ⟨_, rfl⟩
  have hf53 : 53 ≤ f := by rw [hf, Nat.le_log2 hFne]; exact hF53
  have hFl : 2 ^ f ≤ M / n := by rw [hf]; exact Nat.log2_self_le hFne
  have hFu : M / n < 2 ^ (f + 1) := by rw [hf]; exact Nat.lt_log2_self
  have hb1 : (M % n != 0).toNat ≤ 1 := Bool.toNat_le _
  have hQlog : (2 * (M / n) + (M % n != 0).toNat).log2 = f + 1 := log_of (by rw [Nat.pow_succ]; omega) (by rw [Nat.pow_succ, Nat.pow_succ] at *; omega)
  have hQ0 : 2 * (M / n) + (M % n != 0).toNat ≠ 0 := by omega
  have st := sticky M n
  obtain ⟨Q, hQ⟩ : ∃ Q, Q = 2 * (M / n) + (M % n != 0).toNat := ⟨_, rfl⟩
  rw [← hQ] at hQlog hQ0 st ⊢
  unfold Format.nearest
  rw [if_neg hQ0, hQlog, f64_frac, f64_least]
  obtain ⟨la, hla⟩ : ∃ la : Int, la = max ((I : Int) - J - mo - 1 + ((f + 1 : Nat) : Int) - ((52 : Nat) : Int)) (-1074) := ⟨_, rfl⟩
  simp only [← hla]
  obtain ⟨e, he⟩ : ∃ e : Nat, la = (e : Int) - 1074 := ⟨(la + 1074).toNat, by omega⟩
  obtain ⟨K, hK⟩ : ∃ K : Nat, (K : Int) + 1 = la - ((I : Int) - J - mo - 1) ∧ 1 ≤ K := ⟨(la - ((I : Int) - J - mo - 1) - 1).toNat, by omega, by omega⟩
  have t1 : ((I : Int) - J - mo - 1 - la).toNat = 0 := by omega
  have t2 : (la - ((I : Int) - J - mo - 1)).toNat = K + 1 := by omega
  have t3 : (la - -1074).toNat = e := by omega
  rw [t1, t2, t3, Nat.shiftLeft_zero, cut_even, st K hnp hK.2, f64_binade, f64_inf]
  have hKe : mo + J + e = I + Z + K := by omega
  have hM1 : 2 ^ f * n ≤ M := by have := hFl; rwa [Nat.le_div_iff_mul_le hnp] at this
  have hM2 : M < 2 ^ (f + 1) * n := by have := hFu; rwa [Nat.div_lt_iff_lt_mul hnp] at this
  have hDp : 0 < n * 2 ^ J := Nat.mul_pos hnp (Nat.two_pow_pos _)
  have two_cancel : ∀ a b : Nat, a * 2 ^ mo ≤ b * 2 ^ mo → a ≤ b := fun a b h => Nat.le_of_mul_le_mul_right h (Nat.two_pow_pos _)
  have two_cancel' : ∀ a b : Nat, a * 2 ^ mo < b * 2 ^ mo → a < b := fun a b h => Nat.lt_of_mul_lt_mul_right h
  have he2 : (m * 2 ^ (I + Z) / (n * 2 ^ J)).log2 - 52 = e := by
    by_cases ht : J + mo ≤ f + I + Z
    · obtain ⟨t, ht⟩ : ∃ t : Nat, f + I + Z = t + J + mo := ⟨f + I + Z - J - mo, by omega⟩
      have : (m * 2 ^ (I + Z) / (n * 2 ^ J)).log2 = t := by
        refine log_of ?_ ?_
        · rw [Nat.le_div_iff_mul_le hDp]
          refine two_cancel _ _ ?_
          have := Nat.mul_le_mul_right (2 ^ (I + Z)) hM1
          rw [hM] at this
          refine Nat.le_trans (Nat.le_of_eq ?_) (Nat.le_trans this (Nat.le_of_eq ?_))
          · have e1 : (2 : Nat) ^ f * 2 ^ (I + Z) = 2 ^ t * 2 ^ J * 2 ^ mo := by rw [← Nat.pow_add, ← Nat.pow_add, ← Nat.pow_add]; congr 1; omega
            calc 2 ^ t * (n * 2 ^ J) * 2 ^ mo = n * (2 ^ t * 2 ^ J * 2 ^ mo) := by ac_rfl
              _ = n * (2 ^ f * 2 ^ (I + Z)) := by rw [e1]
              _ = 2 ^ f * n * 2 ^ (I + Z) := by ac_rfl
          · ac_rfl
        · rw [Nat.div_lt_iff_lt_mul hDp]
          refine two_cancel' _ _ ?_
          have := Nat.mul_lt_mul_of_pos_right hM2 (Nat.two_pow_pos (I + Z))
          rw [hM] at this
          refine Nat.lt_of_le_of_lt (Nat.le_of_eq ?_) (Nat.lt_of_lt_of_le this (Nat.le_of_eq ?_))
          · ac_rfl
          · have e1 : (2 : Nat) ^ (f + 1) * 2 ^ (I + Z) = 2 ^ (t + 1) * 2 ^ J * 2 ^ mo := by rw [← Nat.pow_add, ← Nat.pow_add, ← Nat.pow_add]; congr 1; omega
            calc 2 ^ (f + 1) * n * 2 ^ (I + Z) = n * (2 ^ (f + 1) * 2 ^ (I + Z)) := by ac_rfl
              _ = n * (2 ^ (t + 1) * 2 ^ J * 2 ^ mo) := by rw [e1]
              _ = 2 ^ (t + 1) * (n * 2 ^ J) * 2 ^ mo := by ac_rfl
      omega
    · have : m * 2 ^ (I + Z) / (n * 2 ^ J) = 0 := by
        refine Nat.div_eq_of_lt (two_cancel' _ _ ?_)
        have := Nat.mul_lt_mul_of_pos_right hM2 (Nat.two_pow_pos (I + Z))
        rw [hM] at this
        refine Nat.lt_of_le_of_lt (Nat.le_of_eq ?_) (Nat.lt_of_lt_of_le this ?_)
        · ac_rfl
        · have e1 : (2 : Nat) ^ (f + 1) * 2 ^ (I + Z) ≤ 2 ^ J * 2 ^ mo := by rw [← Nat.pow_add, ← Nat.pow_add]; exact Nat.pow_le_pow_right (by omega) (by omega)
          calc 2 ^ (f + 1) * n * 2 ^ (I + Z) = n * (2 ^ (f + 1) * 2 ^ (I + Z)) := by ac_rfl
            _ ≤ n * (2 ^ J * 2 ^ mo) := Nat.mul_le_mul_left _ e1
            _ = n * 2 ^ J * 2 ^ mo := by ac_rfl
      rw [this, show Nat.log2 0 = 0 from rfl]
      omega
  have hcross : M * (n * 2 ^ J * 2 ^ e) = m * 2 ^ (I + Z) * (n * 2 ^ K) := by
    rw [hM]
    have e1 : (2 : Nat) ^ mo * 2 ^ J * 2 ^ e = 2 ^ (I + Z) * 2 ^ K := by rw [← Nat.pow_add, ← Nat.pow_add, ← Nat.pow_add, hKe]
    calc m * 2 ^ mo * (n * 2 ^ J * 2 ^ e) = m * n * (2 ^ mo * 2 ^ J * 2 ^ e) := by ac_rfl
      _ = m * n * (2 ^ (I + Z) * 2 ^ K) := by rw [e1]
      _ = m * 2 ^ (I + Z) * (n * 2 ^ K) := by ac_rfl
  have hp1 : 0 < n * 2 ^ K := Nat.mul_pos hnp (Nat.two_pow_pos _)
  have hp2 : 0 < n * 2 ^ J * 2 ^ e := Nat.mul_pos hDp (Nat.two_pow_pos _)
  have hrh : rheN M (n * 2 ^ K) = rheN (m * 2 ^ (I + Z)) (n * 2 ^ J * 2 ^ e) := Nat.le_antisymm (rhe_mono hp1 hp2 (Nat.le_of_eq hcross)) (rhe_mono hp2 hp1 (Nat.le_of_eq hcross.symm))
  rw [hrh]
  unfold rqN
  rw [he2]
/-- The sign and the rung of a word. -/
def sgF (x : Nat) : Bool := x / sgW % 2 == 1
def ruF (x : Nat) : Nat := x % sgW
theorem word_sg {s : Bool} {p : Nat} (hp : p < sgW) : sgF (F64.word s p) = s ∧ ruF (F64.word s p) = p := by
  have hS : sgW = 9223372036854775808 := rfl
  unfold sgF ruF Format.word
  rw [f64_sign]
  cases s
  · rw [if_neg (by simp), Nat.mod_eq_of_lt hp, Nat.div_eq_of_lt hp]
    exact ⟨rfl, rfl⟩
  · rw [if_pos rfl]
    have h2 : (9223372036854775808 + p) % 9223372036854775808 = p := by omega
    have h3 : (9223372036854775808 + p) / 9223372036854775808 % 2 = 1 := by omega
    refine ⟨?_, h2⟩
    rw [beq_iff_eq]
    exact h3
theorem read_fin {x : Nat} (h : ruF x < infR) : ∃ (m I : Nat), F64.read x = .number (sgF x) m ((I : Int) - 1074) ∧ m * 2 ^ I = vrN (ruF x) := by
  have hB : BB = 4503599627370496 := rfl
  unfold ruF at h
  unfold Format.read
  simp only [f64_sign, f64_binade, f64_inf, f64_least]
  by_cases hb : x % sgW < BB
  · refine ⟨x % sgW, 0, ?_, ?_⟩
    · rw [if_pos hb]
      rfl
    · unfold vrN ruF
      rw [if_pos hb, Nat.pow_zero, Nat.mul_one]
  · refine ⟨BB + x % sgW % BB, x % sgW / BB - 1, ?_, ?_⟩
    · rw [if_neg hb, if_pos h]
      unfold sgF
      congr 1
    · unfold vrN ruF
      rw [if_neg hb]
theorem read_inf {x : Nat} (h : ¬ ruF x < infR) : (∃ s, F64.read x = .infinity s) ∨ isN x = true := by
  have hB : BB = 4503599627370496 := rfl
  have hI : infR = 9218868437227405312 := rfl
  unfold ruF at h
  unfold isN
  show _ ∨ (F64.read x).isNaN = true
  unfold Format.read
  simp only [f64_sign, f64_binade, f64_inf, f64_least]
  rw [if_neg (by omega), if_neg h]
  by_cases hi : x % sgW = infR
  · rw [if_pos hi]
    exact .inl ⟨_, rfl⟩
  · rw [if_neg hi]
    exact .inr rfl
theorem zero_rung (z D : Nat) (hD : 0 < D) : rqN (0 * z) D = 0 := by
  rw [Nat.zero_mul]
  unfold rqN
  rw [Nat.zero_div, show Nat.log2 0 = 0 from rfl]
  have := rhe_whole 0 (D * 2 ^ (0 - 52)) (Nat.mul_pos hD (Nat.two_pow_pos _))
  rw [Nat.zero_mul] at this
  rw [this, Nat.zero_sub, Nat.zero_mul]
/-- A number that is not below 0, and is one. -/
structure GoodF (x : Nat) : Prop where
  fin : ruF x < infR
  sg : sgF x = true → ruF x = 0
def powN (z : Nat) : Nat := 2 ^ z
theorem powN_pos (z : Nat) : 0 < powN z := Nat.two_pow_pos z
theorem powN_add (m I z : Nat) : m * 2 ^ (I + z) = m * 2 ^ I * powN z := by
  rw [Nat.pow_add, ← Nat.mul_assoc]
  rfl
/-- A unit of 1 in units of the least place. -/
abbrev topN : Nat := powN 1074
theorem topN_pos : 0 < topN := powN_pos _
theorem topN_add (m I : Nat) : m * 2 ^ (I + 1074) = m * 2 ^ I * topN := powN_add m I 1074
/-- One, or more. -/
structure BigF (d : Nat) : Prop where
  fin : ruF d < infR
  sg : sgF d = false
  big : topN ≤ vrN (ruF d)
theorem quo_rung {x d : Nat} (hx : GoodF x) (hd : BigF d) : ∃ r, F64.div x d = some r ∧ sgF r = sgF x ∧ ruF r = min (rqN (vrN (ruF x) * topN) (vrN (ruF d))) infR := by
  obtain ⟨m, I, e1, hm⟩ := read_fin hx.fin
  obtain ⟨n, J, e2, hn⟩ := read_fin hd.fin
  have hn0 : n ≠ 0 := by
    intro h
    rw [h, Nat.zero_mul] at hn
    have := hd.big
    rw [← hn] at this
    exact Nat.not_le_of_lt (topN_pos) this
  have hlt : min (rqN (vrN (ruF x) * topN) (vrN (ruF d))) infR < sgW := by
    have : min (rqN (vrN (ruF x) * topN) (vrN (ruF d))) infR ≤ infR := Nat.min_le_right _ _
    exact Nat.lt_of_le_of_lt this (by decide)
  refine ⟨F64.word (sgF x) (min (rqN (vrN (ruF x) * topN) (vrN (ruF d))) infR), ?_, (word_sg hlt).1, (word_sg hlt).2⟩
  unfold Format.div
  rw [e1, e2, hd.sg, f64_frac]
  simp only [Datum.quotient, if_neg hn0, Option.map_some, Format.write, Bool.xor_false]
  congr 1
  by_cases hm0 : m = 0
  · subst hm0
    rw [Nat.zero_mul] at hm
    rw [← hm, zero_rung (topN) (vrN (ruF d)) (Nat.lt_of_lt_of_le (topN_pos) hd.big), Nat.zero_min, Nat.zero_shiftLeft, Nat.zero_div, Nat.zero_mod]
    unfold Format.nearest
    rw [if_pos (show 2 * 0 + (0 != 0).toNat = 0 from rfl)]
  · have h := nearest_quo (sgF x) m n I J hm0 hn0 1074 rfl _ rfl
    rw [topN_add, hm, hn] at h
    rw [← h]
    congr 1
    omega
theorem quo_le {x d r : Nat} (hx : GoodF x) (hd : BigF d) (hr : DivR x d r) : GoodF r ∧ ruF r ≤ ruF x := by
  obtain ⟨r', h1, h2, h3⟩ := quo_rung hx hd
  have e : r' = r := by
    rcases hr with hr | ⟨hr, _⟩
    · have : F64.div x d = some r := hr
      rw [h1] at this
      exact Option.some.inj this
    · have : F64.div x d = none := hr
      rw [h1] at this
      cases this
  subst e
  have hp : 0 < vrN (ruF d) := Nat.lt_of_lt_of_le (topN_pos) hd.big
  have hle : rqN (vrN (ruF x) * topN) (vrN (ruF d)) ≤ ruF x := by
    have := rq_mono (U1 := vrN (ruF x) * topN) (D1 := vrN (ruF d)) (U2 := vrN (ruF x)) (D2 := 1) hp (by decide) (by rw [Nat.mul_one]; exact Nat.mul_le_mul_left _ hd.big)
    rwa [rq_vr] at this
  have hle2 : ruF r' ≤ ruF x := by rw [h3]; exact Nat.le_trans (Nat.min_le_left _ _) hle
  exact ⟨⟨Nat.lt_of_le_of_lt hle2 hx.fin, fun h => by rw [h2] at h; have := hx.sg h; omega⟩, hle2⟩
theorem quo_mono {x y d r q : Nat} (hx : GoodF x) (hy : GoodF y) (hd : BigF d) (h : ruF y ≤ ruF x) (hr : DivR x d r) (hq : DivR y d q) : ruF q ≤ ruF r := by
  have key : ∀ {x r : Nat}, GoodF x → DivR x d r → ruF r = min (rqN (vrN (ruF x) * topN) (vrN (ruF d))) infR := fun {x r} hx hr => by
    obtain ⟨r', h1, h2, h3⟩ := quo_rung hx hd
    have e : r' = r := by
      rcases hr with hr | ⟨hr, _⟩
      · have : F64.div x d = some r := hr
        rw [h1] at this
        exact Option.some.inj this
      · have : F64.div x d = none := hr
        rw [h1] at this
        cases this
    subst e
    exact h3
  rw [key hx hr, key hy hq]
  have hp : 0 < vrN (ruF d) := Nat.lt_of_lt_of_le (topN_pos) hd.big
  have := rq_mono (U1 := vrN (ruF y) * topN) (D1 := vrN (ruF d)) (U2 := vrN (ruF x) * topN) (D2 := vrN (ruF d)) hp hp (Nat.mul_le_mul_right _ (Nat.mul_le_mul_right _ (vr_mono h)))
  omega
theorem good_num {x : Nat} (hx : GoodF x) : isN x = false := by
  obtain ⟨m, I, e, _⟩ := read_fin hx.fin
  unfold isN
  have e : FloatKind.f64.format.read x = _ := e
  rw [e]
  rfl
theorem order_at {s t : Bool} {m n : Nat} {I J : Nat} : (Datum.number s m ((I : Int) - 1074)).order (.number t n ((J : Int) - 1074)) = some .lt ↔ valI s (m * 2 ^ I) < valI t (n * 2 ^ J) := by
  rw [order_lt_iff, lt_place (b := -1074) (by omega) (by omega)]
  have key : ∀ (s : Bool) (m I : Nat), valI s m * 2 ^ ((I : Int) - 1074 - -1074).toNat = valI s (m * 2 ^ I) := fun s m I => by
    rw [show ((I : Int) - 1074 - -1074).toNat = I by omega]
    unfold valI
    cases s <;> simp [Int.neg_mul]
  rw [key, key]
theorem good_lss {x y : Nat} (hx : GoodF x) (hy : GoodF y) (h : ruF y ≤ ruF x) : lssF x y = false := by
  rw [← Bool.not_eq_true, lssF_iff]
  obtain ⟨m, I, e1, hm⟩ := read_fin hx.fin
  obtain ⟨n, J, e2, hn⟩ := read_fin hy.fin
  have e1 : FloatKind.f64.format.read x = _ := e1
  have e2 : FloatKind.f64.format.read y = _ := e2
  rw [e1, e2, order_at, hm, hn]
  have h1 := vr_mono h
  have key : ∀ {x : Nat}, GoodF x → valI (sgF x) (vrN (ruF x)) = (vrN (ruF x) : Int) := fun {x} hx => by
    unfold valI
    cases hs : sgF x
    · rfl
    · rw [hx.sg hs]
      rfl
  rw [key hx, key hy]
  omega
end Go.Proofs.Ytfnjemhmipngdaa
