/-
  CostMore IN MATHEMATICS: what is known of both lists; that no size is greater.
-/
import Derived.Test.YtfnjemhmipngdaaCoDiv
import Derived.Test.YtfnjemhmipngdaaCoArg
namespace Go.Proofs.Ytfnjemhmipngdaa
set_option linter.unusedVariables false
set_option linter.unusedSimpArgs false
open Ieee

def geF (a b : Nat) : Bool := FloatKind.f64.format.order a b == some .gt || FloatKind.f64.format.order a b == some .eq
def leF (a b : Nat) : Bool := FloatKind.f64.format.order a b == some .lt || FloatKind.f64.format.order a b == some .eq
theorem geF_not {a b : Nat} (h : geF a b = true) : (FloatKind.f64.format.read a).order (FloatKind.f64.format.read b) ≠ some .lt ∧ (FloatKind.f64.format.read a).order (FloatKind.f64.format.read b) ≠ none := by
  unfold geF at h
  have h : ((FloatKind.f64.format.read a).order (FloatKind.f64.format.read b) == some .gt || (FloatKind.f64.format.read a).order (FloatKind.f64.format.read b) == some .eq) = true := h
  rw [Bool.or_eq_true, beq_iff_eq, beq_iff_eq] at h
  rcases h with h | h <;> rw [h] <;> exact ⟨by decide, by decide⟩
theorem leF_not {a b : Nat} (h : leF a b = true) : (FloatKind.f64.format.read a).order (FloatKind.f64.format.read b) ≠ some .gt := by
  unfold leF at h
  have h : ((FloatKind.f64.format.read a).order (FloatKind.f64.format.read b) == some .lt || (FloatKind.f64.format.read a).order (FloatKind.f64.format.read b) == some .eq) = true := h
  rw [Bool.or_eq_true, beq_iff_eq, beq_iff_eq] at h
  rcases h with h | h <;> rw [h] <;> decide
abbrev oneF : Nat := 4607182418800017408
abbrev topF : Nat := 4832362400168542208
theorem read_zero : FloatKind.f64.format.read 0 = .number false 0 (((0 : Nat) : Int) - 1074) := by decide +kernel
theorem read_one : FloatKind.f64.format.read oneF = .number false BB (((1022 : Nat) : Int) - 1074) := by decide +kernel
theorem read_top : FloatKind.f64.format.read topF = .number false BB (((1072 : Nat) : Int) - 1074) := by decide +kernel
theorem fin_of {x b m : Nat} {i : Int} (hb : FloatKind.f64.format.read b = .number false m i) (h1 : geF x b = true) (h2 : leF x topF = true) : ruF x < infR := by
  by_cases h : ruF x < infR
  · exact h
  · have g1 := geF_not h1
    have g2 := leF_not h2
    rw [hb] at g1
    rw [read_top] at g2
    rcases read_inf h with ⟨s, e⟩ | e
    · have e : FloatKind.f64.format.read x = _ := e
      rw [e] at g1 g2
      cases s
      · exact absurd rfl g2
      · exact absurd rfl g1.1
    · unfold isN at e
      cases hx : FloatKind.f64.format.read x with
      | nan s t => rw [hx] at g1; exact absurd rfl g1.2
      | number s m i => rw [hx] at e; cases e
      | infinity s => rw [hx] at e; cases e
theorem vr_zero {p : Nat} (h : vrN p = 0) : p = 0 := by
  unfold vrN at h
  by_cases hb : p < BB
  · rwa [if_pos hb] at h
  · rw [if_neg hb] at h
    have : 0 < (BB + p % BB) * 2 ^ (p / BB - 1) := Nat.mul_pos (by have : BB = 4503599627370496 := rfl; omega) (Nat.two_pow_pos _)
    omega
theorem good_of {x : Nat} (h1 : geF x 0 = true) (h2 : leF x topF = true) : GoodF x := by
  have hf := fin_of read_zero h1 h2
  refine ⟨hf, fun hs => ?_⟩
  obtain ⟨m, I, e, hm⟩ := read_fin hf
  have g1 := (geF_not h1).1
  have e : FloatKind.f64.format.read x = _ := e
  rw [e, read_zero, Ne, order_at, hm, hs] at g1
  refine vr_zero ?_
  unfold valI at g1
  rw [if_pos rfl, if_neg (by simp), Nat.zero_mul] at g1
  omega
theorem bb_pow (j : Nat) : BB * 2 ^ j = powN (52 + j) := by
  unfold powN
  rw [BB_eq, ← Nat.pow_add]
theorem big_of {x : Nat} (h1 : geF x oneF = true) (h2 : leF x topF = true) : BigF x := by
  have hf := fin_of read_one h1 h2
  obtain ⟨m, I, e, hm⟩ := read_fin hf
  have g1 := (geF_not h1).1
  have e : FloatKind.f64.format.read x = _ := e
  rw [e, read_one, Ne, order_at, hm, bb_pow 1022] at g1
  obtain ⟨z, hz⟩ : ∃ z, z = topN := ⟨_, rfl⟩
  have hz2 : powN (52 + 1022) = z := hz.symm
  have hp := topN_pos
  rw [← hz] at hp
  rw [hz2] at g1
  unfold valI at g1
  rw [if_neg (show ¬ false = true by simp)] at g1
  cases hs : sgF x with
  | true =>
    rw [hs, if_pos rfl] at g1
    omega
  | false =>
    rw [hs, if_neg (show ¬ false = true by simp)] at g1
    exact ⟨hf, hs, by rw [← hz]; omega⟩
/-- With more that is known no size is greater. -/
theorem more_le {K K' : Int → Bool} {l : LookD} (hc : GoodF l.c) (hd : ∀ k, k < 3 → BigF (l.d k)) (hK : ∀ k, dvB K l k = true → dvB K' l k = true) :
    ∀ k, k ≤ 3 → ∀ x y, ChR K l k x → ChR K' l k y → GoodF x ∧ GoodF y ∧ ruF y ≤ ruF x := by
  intro k
  induction k with
  | zero =>
    intro _ x y h h'
    have h : x = l.c := h
    have h' : y = l.c := h'
    subst h h'
    exact ⟨hc, hc, Nat.le_refl _⟩
  | succ k ih =>
    rintro hk x y ⟨x0, hx0, s⟩ ⟨y0, hy0, s'⟩
    obtain ⟨gx, gy, hle⟩ := ih (by omega) x0 y0 hx0 hy0
    have hb := hd k (by omega)
    rcases s with ⟨e, s⟩ | ⟨e, s⟩
    · rcases s' with ⟨e', s'⟩ | ⟨e', s'⟩
      · exact ⟨(quo_le gx hb s).1, (quo_le gy hb s').1, quo_mono gx gy hb hle s s'⟩
      · rw [hK k e] at e'; cases e'
    · subst s
      rcases s' with ⟨e', s'⟩ | ⟨e', s'⟩
      · have := quo_le gy hb s'
        exact ⟨gx, this.1, Nat.le_trans this.2 hle⟩
      · subst s'
        exact ⟨gx, gy, hle⟩
theorem more_less {K K' : Int → Bool} {l : LookD} (hc : GoodF l.c) (hd : ∀ k, k < 3 → BigF (l.d k)) (hK : ∀ k, dvB K l k = true → dvB K' l k = true) {r r' : Nat} (h : SizeR K l r) (h' : SizeR K' l r') : lessF r r' = false := by
  obtain ⟨x, hx, rfl⟩ := h
  obtain ⟨y, hy, rfl⟩ := h'
  obtain ⟨gx, gy, hle⟩ := more_le hc hd hK 3 (Nat.le_refl _) x y hx hy
  rw [numF_of (good_num gx), numF_of (good_num gy)]
  unfold lessF
  rw [numF_of (good_num gx), numF_of (good_num gy)]
  exact good_lss gx gy hle
/-- What either list knows, so far. -/
def bothK (a b : List Bool) (k : Nat) : List Bool := (List.range (max a.length k)).map fun i => a.getD i false || (decide (i < k) && b.getD i false)
theorem bothK_len (a b : List Bool) (k : Nat) : (bothK a b k).length = max a.length k := by unfold bothK; simp
theorem bothK_get (a b : List Bool) (k i : Nat) : (bothK a b k)[i]? = if i < max a.length k then some (a.getD i false || (decide (i < k) && b.getD i false)) else none := by
  unfold bothK
  rw [List.getElem?_map]
  by_cases h : i < max a.length k
  · rw [if_pos h, List.getElem?_range h]
    rfl
  · rw [if_neg h, List.getElem?_eq_none (by rw [List.length_range]; omega)]
    rfl
theorem bothK_zero (a b : List Bool) : bothK a b 0 = a := by
  apply List.ext_getElem?
  intro i
  rw [bothK_get]
  by_cases h : i < a.length
  · rw [if_pos (by omega), List.getElem?_eq_getElem h, List.getD_eq_getElem?_getD, List.getElem?_eq_getElem h]
    simp
  · rw [if_neg (by omega), List.getElem?_eq_none (by omega)]
/-- One more, where the list is long enough. -/
theorem bothK_in (a b : List Bool) (k : Nat) (h : k < a.length) : bothK a b (k + 1) = (bothK a b k).set k (a.getD k false || b.getD k false) := by
  apply List.ext_getElem?
  intro i
  rw [List.getElem?_set, bothK_get, bothK_get, bothK_len]
  by_cases e : k = i
  · subst e
    rw [if_pos rfl, if_pos (by omega), if_pos (by omega), decide_eq_true (by omega)]
    rfl
  · rw [if_neg e]
    by_cases hi : i < max a.length k
    · rw [if_pos (by omega), if_pos hi]
      congr 3
      simp
      omega
    · rw [if_neg (by omega), if_neg hi]
/-- One more, behind it. -/
theorem bothK_out (a b : List Bool) (k : Nat) (h : a.length ≤ k) : bothK a b (k + 1) = (bothK a b k ++ [false]).set k (false || b.getD k false) := by
  apply List.ext_getElem?
  intro i
  rw [List.getElem?_set, bothK_get, List.length_append, bothK_len]
  by_cases e : k = i
  · subst e
    rw [if_pos rfl, if_pos (by omega), if_pos (by simp; omega), decide_eq_true (by omega)]
    rw [List.getD_eq_getElem?_getD, List.getElem?_eq_none h]
    rfl
  · rw [if_neg e]
    by_cases hi : i < k
    · rw [if_pos (by omega), List.getElem?_append_left (by rw [bothK_len]; omega), bothK_get, if_pos (by omega)]
      congr 3
      simp
      omega
    · rw [if_neg (by omega), List.getElem?_eq_none (by simp [bothK_len]; omega)]
theorem kn_more (a b : List Bool) (l : LookD) (k : Nat) (h : dvB (knB a) l k = true) : dvB (knB (bothK a b b.length)) l k = true := by
  unfold dvB at *
  rw [Bool.and_eq_true, decide_eq_true_eq] at *
  refine ⟨h.1, ?_⟩
  rw [Bool.or_eq_true] at *
  refine h.2.imp (fun h2 => ?_) id
  unfold knB at *
  rw [Bool.and_eq_true, decide_eq_true_eq] at *
  have hl := bothK_len a b b.length
  refine ⟨by omega, ?_⟩
  rw [List.getD_eq_getElem?_getD, bothK_get, if_pos (by omega)]
  rw [h2.2]
  rfl
end Go.Proofs.Ytfnjemhmipngdaa
