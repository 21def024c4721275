/-
  PLAIN MATHEMATICS: a text in quotes, rune by rune.
-/
import Derived.Test.YtjpppfcbhkbbpaaDoorTermMath
namespace Go.Proofs.YtjpppfcbhkbbpaaDoor.Term
open Utf

theorem encs_nil : encs [] = [] := rfl
theorem encs_one (r : Int) : encs [r] = enc r := by rw [encs_cons, encs_nil, List.append_nil]

theorem esc_high {r : Int} (h : 128 ≤ r) : esc r = [] := by
  unfold esc
  rw [if_neg (by omega), if_neg (by omega), if_neg (by omega), if_neg (by omega), if_neg (by omega), if_neg (by omega), if_neg (by omega), if_neg (by omega)]
theorem esc_low {r : Int} (h : esc r ≠ []) : r ≤ 127 := by
  by_cases h1 : 128 ≤ r
  · exact absurd (esc_high h1) h
  · omega
theorem esc_length (r : Int) : (esc r).length ≤ 6 := by
  unfold esc; repeat' split
  all_goals simp
theorem shown_length (r : Int) : (shown r).length ≤ 6 := by
  unfold shown; split
  · simp
  · exact esc_length r
theorem shown_len (l : List Int) : (l.flatMap shown).length ≤ 6 * l.length := by
  induction l with
  | nil => simp
  | cons c t ih =>
    have := shown_length c
    simp only [List.flatMap_cons, List.length_append, List.length_cons]
    omega
theorem shown_self {r : Int} (h : May r) (he : esc r = []) : (enc r).flatMap shown = enc r := by
  by_cases h1 : r ≤ 127
  · rw [enc_low h1]; simp [shown, he]
  · have hh := enc_high h (by omega)
    have : ∀ l : List Int, (∀ c ∈ l, 128 ≤ c) → l.flatMap shown = l := by
      intro l hl
      induction l with
      | nil => rfl
      | cons c t ih =>
        rw [List.flatMap_cons, ih fun d hd => hl d (by simp [hd])]
        simp [shown, esc_high (hl c (by simp))]
    exact this _ hh

/-- How far a text in quotes has come: L is written, of B's bytes 'done' are dealt with, of the runes ra. -/
def Mid (B ra : List Int) (done : Nat) (L : List Int) : Prop :=
  done ≤ (encs ra).length ∧ L ++ (B.drop done).take ((encs ra).length - done) = 34 :: (encs ra).flatMap shown

theorem mid_start (B : List Int) : Mid B [] 0 [34] := ⟨Nat.zero_le _, by simp [encs_nil]⟩

theorem drop_enc {B ra rb : List Int} {r : Int} (hB : B = encs (ra ++ r :: rb)) {done : Nat} (hd : done ≤ (encs ra).length) :
    (B.drop done).take ((encs ra).length + (enc r).length - done) = (B.drop done).take ((encs ra).length - done) ++ enc r := by
  subst hB
  rw [encs_append, encs_cons, List.drop_append_of_le_length hd, List.take_append, List.take_append]
  have e1 : ((encs ra).drop done).take ((encs ra).length + (enc r).length - done) = (encs ra).drop done := List.take_of_length_le (by rw [List.length_drop]; omega)
  have e2 : ((encs ra).drop done).take ((encs ra).length - done) = (encs ra).drop done := List.take_of_length_le (by rw [List.length_drop]; omega)
  have e4 : (((encs ra).drop done) ++ (enc r ++ encs rb)).take ((encs ra).length - done) = (encs ra).drop done := by
    rw [List.take_append_of_le_length (by rw [List.length_drop]; omega), e2]
  have e3 : (encs ra).length + (enc r).length - done - ((encs ra).length - done) = (enc r).length := by omega
  rw [e1, e4, List.length_drop, e3, Nat.sub_self, List.take_zero, List.append_nil, List.take_of_length_le (Nat.le_refl _)]

theorem mid_keep {B ra rb : List Int} {r : Int} {done : Nat} {L : List Int} (hB : B = encs (ra ++ r :: rb)) (hm : May r) (he : esc r = []) (h : Mid B ra done L) : Mid B (ra ++ [r]) done L := by
  obtain ⟨h1, h2⟩ := h
  have e : encs (ra ++ [r]) = encs ra ++ enc r := by rw [encs_append, encs_one]
  refine ⟨by rw [e, List.length_append]; omega, ?_⟩
  rw [e, List.length_append, drop_enc hB h1, ← List.append_assoc, h2, List.flatMap_append, shown_self hm he]
  rfl

theorem mid_esc {B ra : List Int} {r : Int} {done : Nat} {L : List Int} (he : esc r ≠ []) (h : Mid B ra done L) :
    Mid B (ra ++ [r]) ((encs ra).length + 1) (L ++ (B.drop done).take ((encs ra).length - done) ++ esc r) := by
  obtain ⟨h1, h2⟩ := h
  have e : encs (ra ++ [r]) = encs ra ++ [r] := by rw [encs_append, encs_one, enc_low (esc_low he)]
  refine ⟨by rw [e]; simp, ?_⟩
  rw [e, List.length_append, List.length_singleton, Nat.sub_self, List.take_zero, List.append_nil, h2, List.flatMap_append]
  simp [shown, he]

theorem mid_end {B rs : List Int} {done : Nat} {L : List Int} (hB : B = encs rs) (h : Mid B rs done L) : L ++ B.drop done ++ [34] = quoteL B := by
  obtain ⟨h1, h2⟩ := h
  subst hB
  have e : ((encs rs).drop done).take ((encs rs).length - done) = (encs rs).drop done := List.take_of_length_le (by rw [List.length_drop]; omega)
  rw [e] at h2
  rw [h2]
  rfl

theorem mid_len {B ra : List Int} {done : Nat} {L : List Int} (h : Mid B ra done L) : L.length ≤ 1 + 6 * (encs ra).length := by
  have h1 := congrArg List.length h.2
  have h2 := shown_len (encs ra)
  simp only [List.length_append, List.length_cons] at h1
  omega

/-- What comes next. -/
theorem posR_next : ∀ (p : Nat) (ra rs : List Int) (y : Nat × Int), AllMay rs → posR p ra ++ [y] <+: posR p rs → ∃ rb, rs = ra ++ y.2 :: rb ∧ y.1 = p + (encs ra).length
  | p, [], [], y, _, h => by simp [posR] at h
  | p, [], r :: rs, y, _, h => by
    simp [posR] at h
    subst h
    exact ⟨rs, rfl, by simp [encs_nil]⟩
  | p, q :: ra, [], y, _, h => by simp [posR] at h
  | p, q :: ra, r :: rs, y, hm, h => by
    rw [posR, posR, List.cons_append, List.cons_prefix_cons] at h
    obtain ⟨h1, h2⟩ := h
    have hq : q = r := by injection h1
    subst hq
    obtain ⟨rb, h3, h4⟩ := posR_next _ ra rs y hm.tail h2
    exact ⟨rb, by rw [h3]; rfl, by rw [h4, encs_cons, List.length_append, rsize_enc hm.head, Nat.add_assoc]⟩
end Go.Proofs.YtjpppfcbhkbbpaaDoor.Term
