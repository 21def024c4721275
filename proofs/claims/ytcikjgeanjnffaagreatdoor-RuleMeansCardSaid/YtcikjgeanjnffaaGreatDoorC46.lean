/-
  WHAT THE PROOF STANDS ON, a part of it: RuSize, RuMeans.
-/
import Derived.Test.YtcikjgeanjnffaaGreatDoorC42
import Derived.Test.YtcikjgeanjnffaaGreatDoorC40
import Derived.Test.YtcikjgeanjnffaaGreatDoorC45
import Derived.Test.YtcikjgeanjnffaaGreatDoorC44
import Derived.Test.YtcikjgeanjnffaaGreatDoorC35
import Derived.Deep.DeepCutAuto
/-
  PLAIN MATHEMATICS: the text of the rules that were read is not long.
-/

namespace Go.Proofs.YtcikjgeanjnffaaGreatDoor
open Go.RowKit
open Utf Term Lex
set_option linter.unusedVariables false
set_option linter.unusedSimpArgs false

def wgS (x : Sym) : Nat := max 1 (wS x)
def sumV : List Sym → Nat
  | [] => 0
  | x :: L => wgS x + sumV L
theorem sumV_append : ∀ (A B : List Sym), sumV (A ++ B) = sumV A + sumV B
  | [], B => by simp [sumV]
  | x :: A, B => by rw [List.cons_append, sumV, sumV, sumV_append A B]; omega
theorem sumV_split (L : List Sym) (n : Nat) : sumV L = sumV (L.take n) + sumV (L.drop n) := by rw [← sumV_append, List.take_append_drop]
theorem toks_weightV : ∀ (n : Nat) (l : List Int) (p : Nat), l.length ≤ n → ByteL l → sumV (toks l p).1 ≤ l.length := by
  intro n
  induction n with
  | zero =>
    intro l p hn _
    obtain rfl : l = [] := List.eq_nil_of_length_eq_zero (by omega)
    rw [toks_eq]
    simp [sk, sumV]
  | succ n ih =>
    intro l p hn hb
    rw [toks_eq l p]
    have hs := sk_le false l
    split
    · simp [sumV]
    · cases ho : one (l.drop (sk false l)) with
      | no => simp [sumV]
      | bad => simp [sumV]
      | got x m =>
        have hp := one_pos ho
        rw [List.length_drop] at hp
        have hw := one_weight (hb.drop _) ho
        have := ih (l.drop (sk false l + m)) (p + sk false l + m) (by rw [List.length_drop]; omega) (hb.drop _)
        rw [List.length_drop] at this
        simp only [sumV]
        have e : wgS { x with place := p + sk false l } = wgS x := rfl
        have e2 : wgS x ≤ m := by unfold wgS; omega
        rw [e]
        omega

/-- What prefixes begin with is not long. -/
def Pre (K : Nat) (P : ByteArray → Option ByteArray) : Prop := ∀ c b, P c = some b → b.size ≤ K
theorem Pre.mono {K M : Nat} {P : ByteArray → Option ByteArray} (h : Pre K P) (k : K ≤ M) : Pre M P := fun c b e => Nat.le_trans (h c b e) k
theorem Pre.upd {K : Nat} {P : ByteArray → Option ByteArray} (h : Pre K P) (w b : ByteArray) : Pre (max K b.size) (updP P w b) := by
  intro c d e
  unfold updP at e
  split at e
  · simp only [Option.some.injEq] at e
    subst e
    omega
  · have := h c d e
    omega
theorem named_out {K : Nat} {P : ByteArray → Option ByteArray} (hP : Pre K P) {x : Sym} {t : TermD} (h : namedS P x = some t) : t.2.1.size ≤ K + wgS x ∧ (t.1 = 1 ∨ t.1 = 2) ∧ t.2.2 = noneB := by
  unfold namedS at h
  split at h
  · cases h
    refine ⟨?_, .inl rfl, rfl⟩
    show (S x.tt).size ≤ _
    rw [S_size]; unfold wgS wS; omega
  · split at h
    · cases h
      refine ⟨?_, .inr rfl, rfl⟩
      show (S x.tt).size ≤ _
      rw [S_size]; unfold wgS wS; omega
    · split at h
      · cases hq : P (S (wordN x.text)) with
        | none => rw [hq] at h; cases h
        | some b =>
          rw [hq] at h
          simp only at h
          split at h
          · simp only [Option.some.injEq] at h
            subst h
            refine ⟨?_, .inl rfl, rfl⟩
            have h1 := hP _ _ hq
            have h2 := localN_len x.text
            show (b ++ S (localN x.text)).size ≤ _
            rw [ByteArray.size_append, S_size]
            unfold wgS wS
            omega
          · cases h
      · cases h
theorem whole_out {K : Nat} {P : ByteArray → Option ByteArray} (hP : Pre K P) {L : List Sym} {t : TermD} (h : wholeS P L = some t) : 2 * (textL t.1 t.2.1 t.2.2).length + 24 ≤ (K + 20) * (sumV L + 1) := by
  have hquote : ∀ s : List Int, (quoteL (bs (S s))).length ≤ 6 * s.length + 2 := fun s => by
    have := quoteL_len (bs (S s))
    rw [bs_length, S_size] at this
    exact this
  have hlit : ∀ n : Nat, 1 ≤ n → K * 2 ≤ K * (n + 1) := fun n hn => Nat.mul_le_mul_left K (by omega)
  match L, h with
  | [x], h =>
    rw [wholeS] at h
    have hv : 1 ≤ wgS x ∧ x.text.length ≤ wgS x := by unfold wgS wS; omega
    have hk := hlit (wgS x) hv.1
    have e : (K + 20) * (sumV [x] + 1) = K * (wgS x + 1) + 20 * (wgS x + 1) := by simp only [sumV, Nat.add_zero]; rw [Nat.add_mul]
    rw [e]
    split at h
    · rw [← okT_eq h]
      show 2 * (quoteL (bs (S x.text))).length + 24 ≤ _
      have := hquote x.text
      omega
    · obtain ⟨h1, h2, h3⟩ := named_out hP h
      obtain ⟨k, u, v⟩ := t
      simp only at h1 h2 h3
      subst h3
      have hb := bs_length u
      rcases h2 with rfl | rfl
      · show 2 * (60 :: (bs u ++ [62])).length + 24 ≤ _
        simp only [List.length_cons, List.length_append, List.length_nil]
        omega
      · show 2 * (95 :: 58 :: bs u).length + 24 ≤ _
        simp only [List.length_cons]
        omega
  | [x, y], h =>
    rw [wholeS] at h
    have hv : 1 ≤ wgS x ∧ x.text.length ≤ wgS x := by unfold wgS wS; omega
    have hv2 : 1 ≤ wgS y ∧ y.text.length ≤ wgS y := by unfold wgS wS; omega
    split at h
    · rw [← okT_eq h]
      show 2 * (quoteL (bs (S x.text)) ++ 64 :: bs (S y.text)).length + 24 ≤ _
      have := hquote x.text
      have hb : (bs (S y.text)).length = y.text.length := by rw [bs_length, S_size]
      have e : (K + 20) * (sumV [x, y] + 1) = K * (wgS x + wgS y + 1) + 20 * (wgS x + wgS y + 1) := by simp only [sumV, Nat.add_zero]; rw [Nat.add_mul, Nat.add_assoc (wgS x)]
      rw [e, List.length_append, List.length_cons, hb]
      omega
    · cases h
  | [x, y, z], h =>
    rw [wholeS] at h
    have hv : 1 ≤ wgS x ∧ x.text.length ≤ wgS x := by unfold wgS wS; omega
    have hv2 : 1 ≤ wgS y := by unfold wgS; omega
    have hv3 : 1 ≤ wgS z := by unfold wgS; omega
    have e : (K + 20) * (sumV [x, y, z] + 1) = K * (wgS x + (wgS y + wgS z) + 1) + 20 * (wgS x + (wgS y + wgS z) + 1) := by simp only [sumV, Nat.add_zero]; rw [Nat.add_mul]
    have hk : K * 2 ≤ K * (wgS x + (wgS y + wgS z) + 1) := Nat.mul_le_mul_left K (by omega)
    rw [e]
    split at h
    · unfold typedR at h
      cases hn : namedS P z with
      | none => rw [hn] at h; cases h
      | some q =>
        rw [hn] at h
        obtain ⟨h1, _, _⟩ := named_out hP hn
        simp only at h
        have := hquote x.text
        split at h
        · split at h
          · rw [← okT_eq h]
            show 2 * (quoteL (bs (S x.text))).length + 24 ≤ _
            omega
          · rw [← okT_eq h]
            show 2 * (quoteL (bs (S x.text)) ++ 94 :: 94 :: 60 :: (bs q.2.1 ++ [62])).length + 24 ≤ _
            have hb := bs_length q.2.1
            simp only [List.length_append, List.length_cons, List.length_nil]
            omega
        · cases h
    · cases h
theorem read_out {K : Nat} {P : ByteArray → Option ByteArray} (hP : Pre K P) {L : List Sym} {t : TermD} {n : Nat} (h : readS P L = some (t, n)) : 2 * (textL t.1 t.2.1 t.2.2).length + 24 ≤ (K + 20) * (sumV (L.take n) + 1) := by
  have ht : ∀ k, tryS P L k = some (t, n) → 2 * (textL t.1 t.2.1 t.2.2).length + 24 ≤ (K + 20) * (sumV (L.take n) + 1) := by
    intro k hk
    unfold tryS at hk
    split at hk
    · cases hw : wholeS P (L.take k) with
      | none => rw [hw] at hk; cases hk
      | some u =>
        rw [hw] at hk
        simp only [Option.map_some, Option.some.injEq, Prod.mk.injEq] at hk
        obtain ⟨rfl, rfl⟩ := hk
        exact whole_out hP hw
    · cases hk
  unfold readS at h
  cases h3 : tryS P L 3 with
  | some r => rw [h3] at h; simp only [Option.some.injEq] at h; subst h; exact ht 3 h3
  | none =>
    rw [h3] at h
    simp only at h
    cases h2 : tryS P L 2 with
    | some r => rw [h2] at h; simp only [Option.some.injEq] at h; subst h; exact ht 2 h2
    | none => rw [h2] at h; exact ht 1 h
theorem nameB_pos {v : ByteArray} (h : nameB v = true) : v.size ≠ 0 := by
  unfold nameB at h
  rw [Bool.and_eq_true, decide_eq_true_eq] at h
  have hm := h.2
  unfold mayS at hm
  rw [if_neg (by decide), if_pos rfl, Bool.and_eq_true] at hm
  have hb := hm.2
  unfold isBlankB at hb
  simp only [Bool.and_eq_true, decide_eq_true_eq] at hb
  have := hb.1.1.1
  rw [bs_length] at this
  omega
theorem slot_out {K : Nat} {P : ByteArray → Option ByteArray} (hP : Pre K P) {L l : List Sym} {s : SlotD} (h : slotS P L = .yes s l) :
    ∃ u, sumV L = u + sumV l ∧ 2 * (slotL s).length + 24 ≤ (K + 20) * u + (K + 20) := by
  cases L with
  | nil => cases h
  | cons x r =>
    rw [slotS] at h
    split at h
    · split at h
      · rename_i hnm
        simp only [Tk.yes.injEq] at h
        obtain ⟨rfl, rfl⟩ := h
        refine ⟨wgS x, rfl, ?_⟩
        have h1 : (slotL (S x.text, zTe)).length ≤ x.text.length + 1 := by
          unfold slotL
          simp only
          split
          · rename_i h0
            exact absurd h0 (nameB_pos hnm)
          · rw [List.length_cons, bs_length, S_size]
            omega
        have hv : 1 ≤ wgS x ∧ x.text.length ≤ wgS x := by unfold wgS wS; omega
        rw [Nat.add_mul]
        omega
      · cases h
    · unfold termS at h
      cases hr : readS P (x :: r) with
      | none => rw [hr] at h; cases h
      | some q =>
        obtain ⟨t, n⟩ := q
        rw [hr] at h
        simp only [Tk.yes.injEq] at h
        obtain ⟨rfl, rfl⟩ := h
        refine ⟨_, sumV_split (x :: r) n, ?_⟩
        have := read_out hP hr
        rw [Nat.mul_add, Nat.mul_one] at this
        have e : slotL (noneB, t) = textL t.1 t.2.1 t.2.2 := by unfold slotL; exact if_pos rfl
        rw [e]
        exact this
theorem need_out {p : Sym → Bool} {L l : List Sym} {q : Unit} (h : needS p L = .yes q l) : ∃ v, sumV L = v + sumV l ∧ 1 ≤ v := by
  obtain ⟨x, rfl, _⟩ := needS_yes h
  exact ⟨wgS x, rfl, by unfold wgS; omega⟩
theorem takes_out {p : Sym → Bool} {L l : List Sym} (h : takesS p L = some l) : ∃ v, sumV L = v + sumV l ∧ 1 ≤ v := by
  obtain ⟨x, rfl, _⟩ := takesS_some h
  exact ⟨wgS x, rfl, by unfold wgS; omega⟩
theorem Tk.bind_yes {α β : Type} {r : Tk α} {f : α → List Sym → Tk β} {b : β} {l : List Sym} (h : r.bind f = .yes b l) : ∃ a m, r = .yes a m ∧ f a m = .yes b l := by
  cases r with
  | no l => cases h
  | yes a m => exact ⟨a, m, rfl, h⟩
theorem mul_up {U u v : Nat} (h : 1 ≤ v) : U * u + U ≤ U * (u + v) := by
  have : U * (u + 1) ≤ U * (u + v) := Nat.mul_le_mul_left U (by omega)
  rw [Nat.mul_add, Nat.mul_one] at this
  exact this
theorem pat_out {K : Nat} {P : ByteArray → Option ByteArray} (hP : Pre K P) {L l : List Sym} {p : PatD} (h : patS P L = .yes p l) :
    ∃ u, sumV L = u + sumV l ∧ 2 * (patL p).length + 64 ≤ (K + 20) * u + (K + 20) := by
  unfold patS at h
  obtain ⟨_, L1, h1, h⟩ := Tk.bind_yes h
  obtain ⟨q, L2, h2, h⟩ := Tk.bind_yes h
  obtain ⟨_, L3, h3, h⟩ := Tk.bind_yes h
  simp only [Tk.yes.injEq] at h
  obtain ⟨rfl, rfl⟩ := h
  unfold slots3 at h2
  obtain ⟨a, M1, g1, h2⟩ := Tk.bind_yes h2
  obtain ⟨b, M2, g2, h2⟩ := Tk.bind_yes h2
  obtain ⟨c, M3, g3, h2⟩ := Tk.bind_yes h2
  simp only [Tk.yes.injEq] at h2
  obtain ⟨rfl, rfl⟩ := h2
  obtain ⟨v1, e1, k1⟩ := need_out h1
  obtain ⟨v3, e3, k3⟩ := need_out h3
  obtain ⟨u1, f1, o1⟩ := slot_out hP g1
  obtain ⟨u2, f2, o2⟩ := slot_out hP g2
  obtain ⟨u3, f3, o3⟩ := slot_out hP g3
  refine ⟨v1 + (u1 + (u2 + (u3 + v3))), by omega, ?_⟩
  have el : (patL (a, b, c)).length = (slotL a).length + (slotL b).length + (slotL c).length + 4 := by
    unfold patL
    simp only [List.length_cons, List.length_append, List.length_nil]
    omega
  have hm : (K + 20) * (u1 + (u2 + (u3 + 2))) ≤ (K + 20) * (v1 + (u1 + (u2 + (u3 + v3)))) := Nat.mul_le_mul_left _ (by omega)
  rw [Nat.mul_add, Nat.mul_add, Nat.mul_add, Nat.mul_comm _ 2] at hm
  rw [el]
  omega
theorem part_out {K : Nat} {P : ByteArray → Option ByteArray} (hP : Pre K P) {L l : List Sym} {x : LitD} (h : partS P L = .yes x l) :
    ∃ u, sumV L = u + sumV l ∧ 2 * (litL x).length + 40 ≤ (K + 20) * u + (K + 20) := by
  unfold partS at h
  cases h1 : takesS (isWd notW) L with
  | some L1 =>
    rw [h1] at h
    simp only at h
    obtain ⟨p, L2, h2, h⟩ := Tk.bind_yes h
    simp only [Tk.yes.injEq] at h
    obtain ⟨rfl, rfl⟩ := h
    obtain ⟨v, e1, k1⟩ := takes_out h1
    obtain ⟨u, e2, o2⟩ := pat_out hP h2
    refine ⟨v + u, by omega, ?_⟩
    have e : (litL (2, p, zSl, zSl)).length = 4 + (patL p).length := by
      unfold litL
      rw [if_neg (show ¬ (2 : Int) = 1 by decide), if_pos rfl, List.length_append]
      rfl
    have hm : (K + 20) * u ≤ (K + 20) * (v + u) := Nat.mul_le_mul_left _ (by omega)
    rw [e]
    omega
  | none =>
    rw [h1] at h
    simp only at h
    cases h3 : takesS (isMk openM) L with
    | some L1 =>
      rw [h3] at h
      simp only at h
      obtain ⟨p, L2, h2, h⟩ := Tk.bind_yes h
      simp only [Tk.yes.injEq] at h
      obtain ⟨rfl, rfl⟩ := h
      obtain ⟨u, e2, o2⟩ := pat_out hP h2
      refine ⟨u, e2, ?_⟩
      have e : (litL (1, p, zSl, zSl)).length = (patL p).length := by
        unfold litL
        rw [if_pos rfl]
      rw [e]
      omega
    | none =>
      rw [h3] at h
      simp only at h
      unfold condS at h
      obtain ⟨a, L1, g1, h⟩ := Tk.bind_yes h
      have key : ∀ (k : Int) (b : SlotD) (L2 L3 : List Sym) (v : Nat), k = 3 ∨ k = 4 → sumV L1 = v + sumV L2 → 1 ≤ v → slotS P L2 = .yes b L3 → ∃ u, sumV L = u + sumV L3 ∧ 2 * (litL (k, zPa, a, b)).length + 40 ≤ (K + 20) * u + (K + 20) := by
        intro k b L2 L3 v hk e1 k1 g2
        obtain ⟨u1, f1, o1⟩ := slot_out hP g1
        obtain ⟨u2, f2, o2⟩ := slot_out hP g2
        refine ⟨u1 + (v + u2), by omega, ?_⟩
        have ec : (condL k).length ≤ 4 := by unfold condL; split <;> simp
        have e : (litL (k, zPa, a, b)).length = (slotL a).length + ((condL k).length + (slotL b).length) := by
          unfold litL
          rw [if_neg (by omega), if_neg (by omega), List.length_append, List.length_append]
        have hm : (K + 20) * (u1 + (u2 + 1)) ≤ (K + 20) * (u1 + (v + u2)) := Nat.mul_le_mul_left _ (by omega)
        rw [Nat.mul_add, Nat.mul_add, Nat.mul_one] at hm
        rw [e]
        omega
      cases h2 : takesS (isMk sameM) L1 with
      | some L2 =>
        rw [h2] at h
        simp only at h
        obtain ⟨b, L3, g2, h⟩ := Tk.bind_yes h
        simp only [Tk.yes.injEq] at h
        obtain ⟨rfl, rfl⟩ := h
        obtain ⟨v, e1, k1⟩ := takes_out h2
        exact key 3 b L2 L3 v (.inl rfl) e1 k1 g2
      | none =>
        rw [h2] at h
        simp only at h
        obtain ⟨_, L2, h4, h⟩ := Tk.bind_yes h
        obtain ⟨b, L3, g2, h⟩ := Tk.bind_yes h
        simp only [Tk.yes.injEq] at h
        obtain ⟨rfl, rfl⟩ := h
        obtain ⟨v, e1, k1⟩ := need_out h4
        exact key 4 b L2 L3 v (.inr rfl) e1 k1 g2
theorem more_out {K : Nat} {P : ByteArray → Option ByteArray} (hP : Pre K P) : ∀ (f : Nat) {L l : List Sym} {ls : List LitD}, moreF P f L = .yes ls l →
    ∃ u, sumV L = u + sumV l ∧ 2 * (tailL ls).length ≤ (K + 20) * u
  | 0, L, l, ls, h => by cases h
  | f + 1, L, l, ls, h => by
    rw [moreF] at h
    cases h1 : takesS (isMk commaM) L with
    | none =>
      rw [h1] at h
      simp only [Tk.yes.injEq] at h
      obtain ⟨rfl, rfl⟩ := h
      exact ⟨0, by omega, by simp [tailL]⟩
    | some L1 =>
      rw [h1] at h
      simp only at h
      obtain ⟨x, L2, h2, h⟩ := Tk.bind_yes h
      obtain ⟨xs, L3, h3, h⟩ := Tk.bind_yes h
      simp only [Tk.yes.injEq] at h
      obtain ⟨rfl, rfl⟩ := h
      obtain ⟨v, e1, k1⟩ := takes_out h1
      obtain ⟨u, e2, o2⟩ := part_out hP h2
      obtain ⟨u3, e3, o3⟩ := more_out hP f h3
      refine ⟨v + (u + u3), by omega, ?_⟩
      have hm : (K + 20) * (u + (u3 + 1)) ≤ (K + 20) * (v + (u + u3)) := Nat.mul_le_mul_left _ (by omega)
      rw [Nat.mul_add, Nat.mul_add, Nat.mul_one] at hm
      rw [tailL]
      simp only [List.length_cons, List.length_append]
      omega
theorem body_out {K : Nat} {P : ByteArray → Option ByteArray} (hP : Pre K P) {L l : List Sym} {ls : List LitD} (h : bodyS P L = .yes ls l) :
    ∃ u, sumV L = u + sumV l ∧ 2 * (bodyL ls).length + 40 ≤ (K + 20) * u + (K + 20) := by
  unfold bodyS at h
  obtain ⟨x, L2, h2, h⟩ := Tk.bind_yes h
  obtain ⟨xs, L3, h3, h⟩ := Tk.bind_yes h
  simp only [Tk.yes.injEq] at h
  obtain ⟨rfl, rfl⟩ := h
  obtain ⟨u, e2, o2⟩ := part_out hP h2
  obtain ⟨u3, e3, o3⟩ := more_out hP _ h3
  refine ⟨u + u3, by omega, ?_⟩
  rw [Nat.mul_add, bodyL, List.length_append]
  omega
theorem rule_out {K : Nat} {P : ByteArray → Option ByteArray} (hP : Pre K P) {L l : List Sym} {r : RuleD} (h : ruleS P L = .yes r l) :
    ∃ u, sumV L = u + sumV l ∧ 2 * ((ruleL r).length + 1) ≤ (K + 20) * u := by
  unfold ruleS at h
  obtain ⟨p, L1, h1, h⟩ := Tk.bind_yes h
  obtain ⟨ls, L2, h2, h⟩ := Tk.bind_yes h
  obtain ⟨_, L3, h3, h⟩ := Tk.bind_yes h
  split at h
  · simp only [Tk.yes.injEq] at h
    obtain ⟨rfl, rfl⟩ := h
    obtain ⟨u1, e1, o1⟩ := pat_out hP h1
    obtain ⟨v3, e3, k3⟩ := need_out h3
    have ho : ∃ u, sumV L1 = u + sumV L2 ∧ 2 * (if ls = [] then ([] : List Int) else [32, 58, 45, 32] ++ bodyL ls).length ≤ (K + 20) * u := by
      unfold optS at h2
      cases ht : takesS (isMk arrowM) L1 with
      | none =>
        rw [ht] at h2
        simp only [Tk.yes.injEq] at h2
        obtain ⟨rfl, rfl⟩ := h2
        exact ⟨0, by omega, by simp⟩
      | some L4 =>
        rw [ht] at h2
        simp only at h2
        obtain ⟨v, f1, k1⟩ := takes_out ht
        obtain ⟨u, f2, o2⟩ := body_out hP h2
        refine ⟨u + v, by omega, ?_⟩
        have hm := mul_up (U := K + 20) (u := u) k1
        split
        · simp
        · simp only [List.length_append, List.length_cons, List.length_nil]
          omega
    obtain ⟨u2, e2, o2⟩ := ho
    refine ⟨u1 + v3 + u2, by omega, ?_⟩
    have hm := mul_up (U := K + 20) (u := u1) k3
    rw [Nat.mul_add (K + 20) (u1 + v3)]
    unfold ruleL
    simp only [List.length_append, List.length_cons, List.length_nil] at *
    omega
  · cases h
theorem pref_out {N : Nat} {L l : List Sym} {w b : ByteArray} (hg : ∀ x ∈ L, GoodR N x) (h : prefS L = .yes (w, b) l) : ∃ u, sumV L = u + sumV l ∧ b.size ≤ u ∧ b.size ≤ 1000 := by
  cases L with
  | nil => cases h
  | cons x r =>
    rw [prefS] at h
    split at h
    · obtain ⟨c, m, h1, h⟩ := Tk.bind_yes h
      simp only [Tk.yes.injEq, Prod.mk.injEq] at h
      obtain ⟨⟨_, rfl⟩, rfl⟩ := h
      cases r with
      | nil => cases h1
      | cons y r =>
        rw [irS] at h1
        split at h1
        · rename_i hy
          obtain ⟨_, m2, h2, h1⟩ := Tk.bind_yes h1
          simp only [Tk.yes.injEq] at h1
          obtain ⟨rfl, rfl⟩ := h1
          obtain ⟨v, e, k⟩ := need_out h2
          have hi := ((hg y (by simp)).iri hy).2.2
          have hz : (S y.tt).size ≤ 1000 := by
            unfold mayS at hi
            rw [if_pos rfl, Bool.and_eq_true] at hi
            have := hi.2
            unfold isIRIB at this
            simp only [Bool.and_eq_true, decide_eq_true_eq] at this
            rw [← bs_length]
            exact this.1.2
          refine ⟨wgS x + (wgS y + v), by simp only [sumV]; omega, ?_, hz⟩
          rw [S_size]
          unfold wgS wS
          omega
        · cases h1
    · cases h
theorem prog_out {N : Nat} : ∀ (f : Nat) {K : Nat} {P : ByteArray → Option ByteArray} {L : List Sym} {rs : List RuleD}, L.length ≤ f → (∀ x ∈ L, GoodR N x) → Pre K P → K ≤ 1000 → progS P L = .yes rs →
    ∃ M W, K ≤ M ∧ M ≤ 1000 ∧ M + W ≤ sumV L + K ∧ 2 * (rulesL rs).length ≤ (M + 20) * W ∧ rs.all ruleB = true ∧ rs.length ≤ L.length
  | f, K, P, [], rs, _, _, hP, hK, h => by
    rw [progS_nil] at h
    cases h
    exact ⟨K, 0, Nat.le_refl _, hK, by omega, by simp [rulesL], rfl, by simp⟩
  | 0, K, P, a :: L, rs, hf, _, _, _, _ => by simp at hf
  | f + 1, K, P, a :: L, rs, hf, hg, hP, hK, h => by
    simp only [List.length_cons] at hf
    rw [progS_cons P _ (by simp)] at h
    cases ht : takesS (isWd prefixW) (a :: L) with
    | some L1 =>
      rw [ht] at h
      obtain ⟨y, e, _⟩ := takesS_some ht
      cases e
      simp only at h
      have hs := prefS_suf L
      cases hp : prefS L with
      | no l => rw [hp] at h; cases h
      | yes q l =>
        obtain ⟨w, b⟩ := q
        rw [hp] at h hs
        simp only at h
        obtain ⟨u, e1, k1, k2⟩ := pref_out (fun x hx => hg x (List.mem_cons_of_mem _ hx)) hp
        have hlen := hs.len
        simp only [Tk.left] at hlen
        have hmem : ∀ x ∈ l, x ∈ L := hs.mem
        obtain ⟨M, W, i1, i2, i3, i4, i5, i6⟩ := prog_out f (L := l) (by omega) (fun x hx => hg x (List.mem_cons_of_mem _ (hmem x hx))) (hP.upd w b) (by omega) h
        refine ⟨M, W, by omega, i2, ?_, i4, i5, by simp only [List.length_cons]; omega⟩
        simp only [sumV]
        omega
    | none =>
      rw [ht] at h
      simp only at h
      have hs := ruleS_suf P (a :: L)
      cases hr : ruleS P (a :: L) with
      | no l => rw [hr] at h; cases h
      | yes r l =>
        rw [hr] at h hs
        simp only at h
        obtain ⟨hlt, hrb⟩ := ruleS_yes hr
        obtain ⟨u, e1, o1⟩ := rule_out hP hr
        simp only [List.length_cons] at hlt
        have hmem : ∀ x ∈ l, x ∈ a :: L := hs.mem
        cases hq : progS P l with
        | no l' => rw [hq] at h; cases h
        | yes us =>
          rw [hq] at h
          simp only [ProgR.put, ProgR.yes.injEq] at h
          subst h
          obtain ⟨M, W, i1, i2, i3, i4, i5, i6⟩ := prog_out f (L := l) (by omega) (fun x hx => hg x (hmem x hx)) hP hK hq
          refine ⟨M, u + W, i1, i2, by omega, ?_, by show (r :: us).all ruleB = true; rw [List.all_cons, hrb, i5]; rfl, by simp only [List.singleton_append, List.length_cons]; omega⟩
          have el : (rulesL ([r] ++ us)).length = (ruleL r).length + 1 + (rulesL us).length := by
            show ((ruleL r ++ [10]) ++ rulesL us).length = _
            rw [List.length_append, List.length_append]
            rfl
          have hm : (K + 20) * u ≤ (M + 20) * u := Nat.mul_le_mul_right u (by omega)
          rw [el, Nat.mul_add (M + 20) u W]
          omega
/-- What a program of at most 3000 bytes is of. -/
theorem src_good {a : ByteArray} (ha : a.size ≤ 3000) {x : List RuleD} (h : srcS a = .good x) : x.all ruleB = true ∧ (rulesL x).length ≤ 1020000 ∧ x.length ≤ 3000 := by
  obtain ⟨_, _, _, hp⟩ := good_inv h
  have hw := toks_weightV _ (bs a) 0 (Nat.le_refl _) (bs_byte a)
  rw [bs_length] at hw
  have hw : sumV (allL (bs a)).1 ≤ a.size := hw
  have hf := syms_few a
  obtain ⟨M, W, _, i2, i3, i4, i5, i6⟩ := prog_out _ (Nat.le_refl _) (all_goodR a) (K := 0) (fun c b e => by cases e) (by omega) hp
  refine ⟨i5, ?_, by omega⟩
  obtain ⟨j, hj⟩ : ∃ j, j = 1000 - M := ⟨_, rfl⟩
  have h1 : (M + 20) * W ≤ (M + 20) * (3000 - M) := Nat.mul_le_mul_left _ (by omega)
  have h2 : M + 20 = 1020 - j := by omega
  have h3 : 3000 - M = 2000 + j := by omega
  rw [h3, Nat.mul_add] at h1
  have h4 : (M + 20) * j ≤ 1020 * j := Nat.mul_le_mul_right j (by omega)
  omega
end Go.Proofs.YtcikjgeanjnffaaGreatDoor

/-
  THE WALK OF RuleMeans. (Written by tools/genrumeans.py.)
-/

namespace Go.Proofs.YtcikjgeanjnffaaGreatDoor
open Go.RowKit
open Utf Term Lex
set_option linter.unusedVariables false
set_option linter.unusedSimpArgs false

theorem rules_all_vast {rs : List RuleD} (h : rs.all ruleB = true) : ∀ r ∈ rs, VastR r := fun r hr => rule_vast (List.all_eq_true.1 h r hr)
/-- Two rules that may be: their texts stand as one just if they are one. -/
theorem compare_same {a b : RuleD} (ha : ruleB a = true) (hb : ruleB b = true) : (cmpB (writtenT a) (writtenT b) == 0) = (decide (a.1 = b.1) && decide (a.2 = b.2)) := by
  have e1 : writtenT a = strOfNums (ruleL a) := by unfold writtenT; rw [if_pos ha]
  have e2 : writtenT b = strOfNums (ruleL b) := by unfold writtenT; rw [if_pos hb]
  rw [Bool.eq_iff_iff, beq_iff_eq, ord_text.zero, e1, e2, Bool.and_eq_true, decide_eq_true_eq, decide_eq_true_eq]
  constructor
  · intro h
    have h2 : bs (strOfNums (ruleL a)) = bs (strOfNums (ruleL b)) := by rw [h]
    rw [bs_strOfNums (ruleL_byte a), bs_strOfNums (ruleL_byte b)] at h2
    have := ruleL_inj ha hb h2
    rw [this]
    exact ⟨rfl, rfl⟩
  · rintro ⟨h1, h2⟩
    obtain ⟨p, ls⟩ := a
    obtain ⟨q, ms⟩ := b
    simp only at h1 h2
    subst h1 h2
    rfl

set_option maxRecDepth 100000 in
set_option maxHeartbeats 16000000 in
theorem ruleMeans_walk (v : Value) (rs : List RuleD) (hvr : ∀ r ∈ rs, VastR r) (a b : ByteArray) (w : World) (hv : SliceRu w v rs) (he : LexEnv w) (hrp : HrpR w.heap.size) :
    Calls Tryz.prog 7 #[v, .string a, .string b] w fun e w' => e = .returned (.bool true) ∧ Below w.heap.size w w' := by
  obtain ⟨mx, hmx⟩ := he.len
  have HK := Lib.hid (known6_any w he hrp)
  have HM := Lib.hid (fun W (h : Below w.heap.size w W) => refMuch_any v rs hvr 20 (by decide) W (hv.below h))
  have HP := Lib.hid (fun s (hs : s.size ≤ 1000000000) W (h : Below w.heap.size w W) => ruParse_any s hs W (he.below h) (hrp.le h.size))
  have HT := Lib.hid (fun u ts hn hf W (h : Below w.heap.size w W) hu => ruTexts_any u ts hn hf mx W (cell_below h hmx) hu)
  have HCm := Lib.hid (fun p q v u xs ys hx hy W (h : Below w.heap.size w W) hv hu => ruCompare_any p q v u xs ys hx hy mx W (cell_below h hmx) hv hu)
  have HV := Lib.hid hv
  have HVr := Lib.hid hvr
  have hsml := hv.small
  clear hv he hrp hmx hvr
  go_enter Tryz.func7, Tryz.ntmps7
  go_upto_region 3 with (go_at_call 13; refine HK.out.mono ?_; rintro e y0 ⟨rfl, hY0⟩)
  have HB0 := Lib.hid hY0
  have HM0 := Lib.hid (HM.out y0 hY0)
  clear hY0 HK HM
  by_cases ha : 3000 < a.size
  · have d1 : decide ((3000 : Int) < (a.size : Int)) = true := by simp; omega
    go_wp2_with (go_at_call 12; refine HM0.out.mono ?_; rintro e y ⟨r, rfl, hr, hY⟩)
    all_goals
      go_ret
      exact ⟨rfl, HB0.out.trans (hY.mono HB0.out.size)⟩
  by_cases hb : 3000 < b.size
  · have d1 : decide ((3000 : Int) < (a.size : Int)) = false := by simp; omega
    have d2 : decide ((3000 : Int) < (b.size : Int)) = true := by simp; omega
    go_wp2_with (go_at_call 12; refine HM0.out.mono ?_; rintro e y ⟨r, rfl, hr, hY⟩)
    all_goals
      go_ret
      exact ⟨rfl, HB0.out.trans (hY.mono HB0.out.size)⟩
  have d1 : decide ((3000 : Int) < (a.size : Int)) = false := by simp; omega
  have d2 : decide ((3000 : Int) < (b.size : Int)) = false := by simp; omega
  have ha' : a.size ≤ 3000 := by omega
  have hb' : b.size ≤ 3000 := by omega
  clear ha hb
  go_upto_if 40 with (go_at_call 12; refine HM0.out.mono ?_; rintro e y ⟨r, rfl, hr, hY⟩)
  · go_wp2_with fail
    go_ret
    exact ⟨rfl, HB0.out.trans (hY.mono HB0.out.size)⟩
  obtain ⟨h20, hmk⟩ := hr (by assumption)
  have HB1 := Lib.hid (HB0.out.trans (hY.mono HB0.out.size))
  have HTy := Lib.hid (HT.out v rs (by omega) HVr.out y HB1.out (HV.out.below HB1.out))
  have HTe : Hid ((rtextsR rs).2 = 0 → srcS (rtextsR rs).1 = .good rs ∧ (rtextsR rs).1.size ≤ 1000000000 ∧ rs.all ruleB = true) := Lib.hid (fun h => by
    unfold rtextsR at *
    by_cases h1 : rs.all ruleB = true
    · rw [if_pos h1] at h ⊢
      by_cases h2 : 1048576 < (rulesL rs).length
      · rw [if_pos h2] at h; cases h
      · rw [if_neg h2]
        exact ⟨src_text h1 (by omega), by show (strOfNums (rulesL rs)).size ≤ _; rw [strOfNums_size]; omega, h1⟩
    · rw [if_neg h1] at h; cases h)
  clear hY HM0 HB0 hr hmk
  obtain ⟨TR, hTR⟩ : ∃ TR, TR = rtextsR rs := ⟨_, rfl⟩
  rw [← hTR] at HTy HTe
  clear hTR
  obtain ⟨T, n⟩ := TR
  go_upto_if 48 with (first | (go_at_call 32; refine HTy.out.mono ?_; rintro e z ⟨rfl, hZ⟩) | (go_at_call 21; refine (num6_any _ _).mono ?_; rintro e x ⟨rfl, rfl⟩))
  have HB2 := Lib.hid (HB1.out.trans (hZ.mono HB1.out.size))
  clear hZ HB1 HTy
  go_cut [9, 10, 11, 12] (fun s9 s10 s11 s12 wx => Below w.heap.size w wx)
  case first => as_aux_lemma =>
    by_cases hn : n = 0
    · subst hn
      obtain ⟨hd, hsz, hall⟩ := HTe.out rfl
      have HPz := HP.out T hsz z HB2.out
      rw [show srcS T = .good rs from hd] at HPz
      have HPz := Lib.hid HPz
      have HAll := Lib.hid hall
      clear hd hsz HTe hall
      go_upto_region 8 with (go_at_call 24; refine HPz.out.mono ?_; rintro e z1 ⟨hZ, m, ps, rfl, ho, hps⟩)
      have HB3 := Lib.hid (HB2.out.trans (hZ.mono HB2.out.size))
      have hsl := ho.slice
      rw [hps] at hsl
      have HS := Lib.hid (same6_any v m rs z1 (HV.out.below HB3.out) hsl)
      clear hZ ho HPz hps hsl
      go_upto_region 10 with (first | (go_at_call 21; refine (num6_any _ _).mono ?_; rintro e x ⟨rfl, rfl⟩) | (go_at_call 27; refine HS.out.mono ?_; rintro e z2 ⟨rfl, hZ⟩))
      have HB4 := Lib.hid (HB3.out.trans (hZ.mono HB3.out.size))
      obtain ⟨ptr, cap, rfl, hcap, hp⟩ := HV.out.form
      have HPt : Hid (∀ W, Below w.heap.size w W → 0 < rs.length → ∃ g o, ptr = some ⟨g, o, none⟩ ∧ RowRu W g o rs) := Lib.hid (fun W k h => by
        obtain ⟨g, o, e, r⟩ := hp h
        exact ⟨g, o, e, r.below k⟩)
      obtain ⟨nn, hnn⟩ : ∃ nn, nn = rs.length := ⟨_, rfl⟩
      have HN := Lib.hid hnn
      rw [← hnn] at HPt hsml hcap h20 ⊢
      clear hZ hp hnn HS
      go_wp2_with fail
      go_loopg [12] nn (fun gk i wr => ∃ k : Nat, k ≤ nn ∧ nn - k ≤ gk ∧ i = .int .i64 k ∧ Below w.heap.size w wr)
      case atStart => exact ⟨0, Nat.zero_le _, by omega, rfl, HB4.out⟩
      case round =>
        obtain ⟨k, hk, hg, rfl, hB⟩ := hrel
        have HB := Lib.hid hB
        clear hB
        by_cases hlt : k < nn
        · obtain ⟨x, hx⟩ : ∃ x, rs[0]? = some x := ⟨_, List.getElem?_eq_getElem (by have := HN.out; omega)⟩
          obtain ⟨y', hy⟩ : ∃ y, rs[k]? = some y := ⟨_, List.getElem?_eq_getElem (by have := HN.out; omega)⟩
          have d3 : decide ((k : Int) < (nn : Int)) = true := by simpa using hlt
          have i0 : (0 : Int) ≤ (k : Int) := by omega
          have i1 : (k : Int) < (nn : Int) := by omega
          have i2 : (0 : Int) < (nn : Int) := by omega
          have i3 : 0 < nn := by omega
          obtain ⟨g, o, rfl, nx⟩ := HPt.out wr HB.out (by omega)
          obtain ⟨vx, rx, bx⟩ := nx 0 x hx
          obtain ⟨vy, ry, bY⟩ := nx k y' hy
          simp only [Nat.zero_mul, Nat.add_zero] at rx
          have hxb := List.all_eq_true.1 HAll.out x (List.mem_of_getElem? hx)
          have hyb := List.all_eq_true.1 HAll.out y' (List.mem_of_getElem? hy)
          have hCE := compare_same hxb hyb
          have hSame := fun W (h : Below wr.heap.size wr W) => refSame_any x.1 y'.1 vx vy x.2 y'.2 W (bx.below h) (bY.below h)
          have hComp := fun W (h : Below wr.heap.size wr W) => HCm.out x.1 y'.1 vx vy x.2 y'.2 (rule_vast hxb) (rule_vast hyb) W (HB.out.trans (h.mono HB.out.size)) (bx.below h) (bY.below h)
          have ex : (x.1, x.2) = x := rfl
          have ey : (y'.1, y'.2) = y' := rfl
          rw [ex, ey] at hComp
          obtain ⟨sb, hsb⟩ : ∃ sb, sb = (decide (x.1 = y'.1) && decide (x.2 = y'.2)) := ⟨_, rfl⟩
          obtain ⟨cc, hcc⟩ : ∃ cc, cc = cmpB (writtenT x) (writtenT y') := ⟨_, rfl⟩
          rw [← hsb] at hSame hCE
          rw [← hcc] at hComp hCE
          clear hsb hcc hxb hyb ex ey hx hy nx
          obtain ⟨⟨⟨a0, a1, a2, a3⟩, ⟨b0, b1, b2, b3⟩, ⟨c0, c1, c2, c3⟩⟩, ls⟩ := x
          obtain ⟨⟨⟨d0, d1, d2, d3⟩, ⟨e0, e1, e2, e3⟩, ⟨f0, f1, f2, f3⟩⟩, ms⟩ := y'
          obtain ⟨pv, cv, rfl, _, _⟩ := bx.form
          obtain ⟨pu, cu, rfl, _, _⟩ := bY.form
          obtain ⟨n1, hn1⟩ : ∃ n1, n1 = ls.length := ⟨_, rfl⟩
          obtain ⟨n2, hn2⟩ : ∃ n2, n2 = ms.length := ⟨_, rfl⟩
          rw [← hn1] at rx hSame hComp
          rw [← hn2] at ry hSame hComp
          have HS := Lib.hid (same6_start rx ry)
          have HSa : Hid (∀ W, Below wr.heap.size wr W → Calls Tryz.prog 28 #[.agg #[.string a0, .int .i64 a1, .string a2, .string a3, .string b0, .int .i64 b1, .string b2, .string b3, .string c0, .int .i64 c1, .string c2, .string c3, .slice pv n1 cv], .agg #[.string d0, .int .i64 d1, .string d2, .string d3, .string e0, .int .i64 e1, .string e2, .string e3, .string f0, .int .i64 f1, .string f2, .string f3, .slice pu n2 cu]] W fun e w' => e = .returned (.bool sb) ∧ Below W.heap.size W w') := Lib.hid hSame
          have HCo : Hid (∀ W, Below wr.heap.size wr W → Calls Tryz.prog 34 #[.agg #[.string a0, .int .i64 a1, .string a2, .string a3, .string b0, .int .i64 b1, .string b2, .string b3, .string c0, .int .i64 c1, .string c2, .string c3, .slice pv n1 cv], .agg #[.string d0, .int .i64 d1, .string d2, .string d3, .string e0, .int .i64 e1, .string e2, .string e3, .string f0, .int .i64 f1, .string f2, .string f3, .slice pu n2 cu]] W fun e w' => e = .returned (.int .i64 cc) ∧ Below W.heap.size W w') := Lib.hid hComp
          clear rx ry bx bY hSame hComp hn1 hn2
          cases sb with
          | true =>
            go_upto_region 13 with fail
            go_region_held3 (fun W' => W'.cell? ⟨g, o, none⟩ = some (.string a0) ∧ W'.cell? ⟨g, o + 1, none⟩ = some (.int .i64 a1) ∧ W'.cell? ⟨g, o + 2, none⟩ = some (.string a2) ∧ W'.cell? ⟨g, o + 3, none⟩ = some (.string a3) ∧ W'.cell? ⟨g, o + 4, none⟩ = some (.string b0) ∧ W'.cell? ⟨g, o + 5, none⟩ = some (.int .i64 b1) ∧ W'.cell? ⟨g, o + 6, none⟩ = some (.string b2) ∧ W'.cell? ⟨g, o + 7, none⟩ = some (.string b3) ∧ W'.cell? ⟨g, o + 8, none⟩ = some (.string c0) ∧ W'.cell? ⟨g, o + 9, none⟩ = some (.int .i64 c1) ∧ W'.cell? ⟨g, o + 10, none⟩ = some (.string c2) ∧ W'.cell? ⟨g, o + 11, none⟩ = some (.string c3) ∧ W'.cell? ⟨g, o + 12, none⟩ = some (.slice pv n1 cv) ∧ W'.cell? ⟨g, o + k * 13, none⟩ = some (.string d0) ∧ W'.cell? ⟨g, o + k * 13 + 1, none⟩ = some (.int .i64 d1) ∧ W'.cell? ⟨g, o + k * 13 + 2, none⟩ = some (.string d2) ∧ W'.cell? ⟨g, o + k * 13 + 3, none⟩ = some (.string d3) ∧ W'.cell? ⟨g, o + k * 13 + 4, none⟩ = some (.string e0) ∧ W'.cell? ⟨g, o + k * 13 + 5, none⟩ = some (.int .i64 e1) ∧ W'.cell? ⟨g, o + k * 13 + 6, none⟩ = some (.string e2) ∧ W'.cell? ⟨g, o + k * 13 + 7, none⟩ = some (.string e3) ∧ W'.cell? ⟨g, o + k * 13 + 8, none⟩ = some (.string f0) ∧ W'.cell? ⟨g, o + k * 13 + 9, none⟩ = some (.int .i64 f1) ∧ W'.cell? ⟨g, o + k * 13 + 10, none⟩ = some (.string f2) ∧ W'.cell? ⟨g, o + k * 13 + 11, none⟩ = some (.string f3) ∧ W'.cell? ⟨g, o + k * 13 + 12, none⟩ = some (.slice pu n2 cu) ∧ Below wr.heap.size wr W') ((first | assumption | exact HS.out | exact same6_step (by assumption) (by assumption))) (first
              | (go_at_call 34; (with_reducible refine (HCo.out _ (same6_low (by assumption))).mono ?_); rintro e w3 ⟨rfl, hB3⟩)
              | (go_at_call 28; (with_reducible refine (HSa.out _ (same6_low (by assumption))).mono ?_); rintro e w3 ⟨rfl, hB3⟩))
            all_goals
              rename_i hHeld
              have hbx := same6_low hHeld
              clear hHeld
              have HBx := Lib.hid (HB.out.trans (hbx.mono HB.out.size))
              clear hbx
              go_wp2_with fail
              go_roundg (nn - (k + 1))
              case measure => omega
              case rel => exact ⟨k + 1, by omega, Nat.le_refl _, by go_num, HBx.out⟩
          | false =>
            go_upto_region 13 with fail
            go_region_held3 (fun W' => W'.cell? ⟨g, o, none⟩ = some (.string a0) ∧ W'.cell? ⟨g, o + 1, none⟩ = some (.int .i64 a1) ∧ W'.cell? ⟨g, o + 2, none⟩ = some (.string a2) ∧ W'.cell? ⟨g, o + 3, none⟩ = some (.string a3) ∧ W'.cell? ⟨g, o + 4, none⟩ = some (.string b0) ∧ W'.cell? ⟨g, o + 5, none⟩ = some (.int .i64 b1) ∧ W'.cell? ⟨g, o + 6, none⟩ = some (.string b2) ∧ W'.cell? ⟨g, o + 7, none⟩ = some (.string b3) ∧ W'.cell? ⟨g, o + 8, none⟩ = some (.string c0) ∧ W'.cell? ⟨g, o + 9, none⟩ = some (.int .i64 c1) ∧ W'.cell? ⟨g, o + 10, none⟩ = some (.string c2) ∧ W'.cell? ⟨g, o + 11, none⟩ = some (.string c3) ∧ W'.cell? ⟨g, o + 12, none⟩ = some (.slice pv n1 cv) ∧ W'.cell? ⟨g, o + k * 13, none⟩ = some (.string d0) ∧ W'.cell? ⟨g, o + k * 13 + 1, none⟩ = some (.int .i64 d1) ∧ W'.cell? ⟨g, o + k * 13 + 2, none⟩ = some (.string d2) ∧ W'.cell? ⟨g, o + k * 13 + 3, none⟩ = some (.string d3) ∧ W'.cell? ⟨g, o + k * 13 + 4, none⟩ = some (.string e0) ∧ W'.cell? ⟨g, o + k * 13 + 5, none⟩ = some (.int .i64 e1) ∧ W'.cell? ⟨g, o + k * 13 + 6, none⟩ = some (.string e2) ∧ W'.cell? ⟨g, o + k * 13 + 7, none⟩ = some (.string e3) ∧ W'.cell? ⟨g, o + k * 13 + 8, none⟩ = some (.string f0) ∧ W'.cell? ⟨g, o + k * 13 + 9, none⟩ = some (.int .i64 f1) ∧ W'.cell? ⟨g, o + k * 13 + 10, none⟩ = some (.string f2) ∧ W'.cell? ⟨g, o + k * 13 + 11, none⟩ = some (.string f3) ∧ W'.cell? ⟨g, o + k * 13 + 12, none⟩ = some (.slice pu n2 cu) ∧ Below wr.heap.size wr W') ((first | assumption | exact HS.out | exact same6_step (by assumption) (by assumption))) (first
              | (go_at_call 34; (with_reducible refine (HCo.out _ (same6_low (by assumption))).mono ?_); rintro e w3 ⟨rfl, hB3⟩)
              | (go_at_call 28; (with_reducible refine (HSa.out _ (same6_low (by assumption))).mono ?_); rintro e w3 ⟨rfl, hB3⟩))
            all_goals
              rename_i hHeld
              have hbx := same6_low hHeld
              clear hHeld
              have HBx := Lib.hid (HB.out.trans (hbx.mono HB.out.size))
              clear hbx
              go_wp2_with fail
              go_roundg (nn - (k + 1))
              case measure => omega
              case rel => exact ⟨k + 1, by omega, Nat.le_refl _, by go_num, HBx.out⟩
        · obtain rfl : k = nn := by omega
          have d3 : decide ((k : Int) < (k : Int)) = false := by simp
          go_wp2_with fail
          obtain rfl := HN.out
          go_meet
          exact HB.out
    · have d3 : (n == 0) = false := by simpa using hn
      go_wp2_with fail
      go_meet
      exact HB2.out
  case rest =>
    have HBc := Lib.hid hcut
    clear hcut HB2 HTe
    have HPa := Lib.hid (HP.out a (by omega) wc HBc.out)
    cases hda : srcS a with
    | bad p c =>
      rw [hda] at HPa
      have hc := src_code hda
      have d3 : ((c : Int) != 0) = true := by rw [bne_iff_ne]; omega
      clear hda
      go_wp2_with (first | (go_at_call 24; refine HPa.out.mono ?_; rintro e z1 ⟨hZ, rfl⟩) | (go_at_call 21; refine (num6_any _ _).mono ?_; rintro e x ⟨rfl, rfl⟩))
      go_ret
      exact ⟨rfl, HBc.out.trans (hZ.mono HBc.out.size)⟩
    | good x =>
      rw [hda] at HPa
      obtain ⟨g1, g2, g3⟩ := src_good ha' hda
      have hdt := src_text g1 (by omega)
      have hts : rtextsR x = (strOfNums (rulesL x), 0) := by unfold rtextsR; rw [if_pos g1, if_neg (by omega)]
      have hsz : (strOfNums (rulesL x)).size ≤ 1020000 := by rw [strOfNums_size]; omega
      have hsz' : (strOfNums (rulesL x)).size ≤ 1000000000 := by omega
      have HTx := Lib.hid (fun u W h hu => HT.out u x (by omega) (rules_all_vast g1) W h hu)
      rw [hts] at HTx
      have HPt := Lib.hid (fun W h => HP.out (strOfNums (rulesL x)) hsz' W h)
      rw [hdt] at HPt
      have HJ := Lib.hid (fun wl (h : srcS b = .good wl) => src_joined g1 (b := b) (by rw [strOfNums_size] at hsz; omega) (by omega) h)
      have hx3 : x.length ≤ 3000 := g3
      clear hda g1 g2 g3 hdt hts hsz' HT
      generalize strOfNums (rulesL x) = TX at *
      have hz2 : ¬ 9223372036854775807 < TX.size + b.size := by omega
      have hz1 : (TX ++ b).size ≤ 1000000000 := by rw [ByteArray.size_append]; omega
      go_upto_region 18 with (first | (go_at_call 24; refine HPa.out.mono ?_; rintro e z1 ⟨hZ, vx, px, rfl, hox, hpx⟩) | (go_at_call 21; refine (num6_any _ _).mono ?_; rintro e x ⟨rfl, rfl⟩))
      have HB3 := Lib.hid (HBc.out.trans (hZ.mono HBc.out.size))
      have HSx := Lib.hid hox.slV
      have hslx := hox.slice
      rw [hpx] at hslx
      have hpl : px.length = x.length := by rw [← hpx, List.length_map]
      have HTz := Lib.hid (HTx.out vx z1 HB3.out hslx)
      have HPx := Lib.hid hpx
      clear hZ hox HPa HTx hslx hpx
      go_upto_region 19 with (go_at_call 32; refine HTz.out.mono ?_; rintro e z2 ⟨rfl, hZ⟩)
      have HB4 := Lib.hid (HB3.out.trans (hZ.mono HB3.out.size))
      have HSx4 := Lib.hid (HSx.out.below hZ)
      have HPy := Lib.hid (HPt.out z2 HB4.out)
      clear hZ HTz HSx HB3 HPt
      go_upto_region 20 with (go_at_call 24; refine HPy.out.mono ?_; rintro e z3 ⟨hZ, vy, py, rfl, hoy, hpy⟩)
      have HB5 := Lib.hid (HB4.out.trans (hZ.mono HB4.out.size))
      have HSx5 := Lib.hid (HSx4.out.below hZ)
      have hs1 := HSx5.out.slice
      rw [HPx.out] at hs1
      have hs2 := hoy.slice
      rw [hpy] at hs2
      have HSm := Lib.hid (same6_any vx vy x z3 hs1 hs2)
      clear hZ hoy HPy HSx4 HB4 hs1 hs2 hpy
      go_upto_region 22 with (first | (go_at_call 21; refine (num6_any _ _).mono ?_; rintro e x ⟨rfl, rfl⟩) | (go_at_call 27; refine HSm.out.mono ?_; rintro e z4 ⟨rfl, hZ⟩))
      have HB6 := Lib.hid (HB5.out.trans (hZ.mono HB5.out.size))
      have HSx6 := Lib.hid (HSx5.out.below hZ)
      have HPj := Lib.hid (fun W h => HP.out (TX ++ b) hz1 W h)
      have HPb := Lib.hid (HP.out b (by omega) z4 HB6.out)
      clear hZ HSm HSx5 HB5 HP hz1
      cases hdb : srcS b with
      | bad p c =>
        rw [hdb] at HPb
        have hc := src_code hdb
        have d3 : ((c : Int) != 0) = true := by rw [bne_iff_ne]; omega
        clear hdb
        go_wp2_with (first | (go_at_call 24; refine HPb.out.mono ?_; rintro e z6 ⟨hZ, rfl⟩) | (go_at_call 21; refine (num6_any _ _).mono ?_; rintro e x ⟨rfl, rfl⟩))
        go_ret
        exact ⟨rfl, HB6.out.trans (hZ.mono HB6.out.size)⟩
      | good wl =>
        rw [hdb] at HPb
        have hw3 : wl.length ≤ 3000 := (src_good hb' hdb).2.2
        have hJ := HJ.out wl hdb
        rw [hJ] at HPj
        clear hdb hJ HJ
        go_upto_region 25 with (first | (go_at_call 24; refine HPb.out.mono ?_; rintro e z5 ⟨hZ, vw, pw, rfl, how, hpw⟩) | (go_at_call 21; refine (num6_any _ _).mono ?_; rintro e x ⟨rfl, rfl⟩))
        have HB7 := Lib.hid (HB6.out.trans (hZ.mono HB6.out.size))
        have HSx7 := Lib.hid (HSx6.out.below hZ)
        have HSw := Lib.hid how.slV
        have hwl : pw.length = wl.length := by rw [← hpw, List.length_map]
        have HPw := Lib.hid hpw
        have HPq := Lib.hid (HPj.out z5 HB7.out)
        clear hZ HPb HPj HB6 HSx6 how hpw
        go_upto_region 26 with (go_at_call 24; refine HPq.out.mono ?_; rintro e z6 ⟨hZ, vz, pz, rfl, hoz, hpz⟩)
        have HB8 := Lib.hid (HB7.out.trans (hZ.mono HB7.out.size))
        have HSx8 := Lib.hid (HSx7.out.below hZ)
        have HSw8 := Lib.hid (HSw.out.below hZ)
        have hsz3 := hoz.slice
        rw [hpz] at hsz3
        have HSz := Lib.hid hsz3
        have HAp : Hid (∀ W v', Below z6.heap.size z6 W → W.ownsRow z6.heap.size 31 13 v' (px ++ pw).length (flatP (px ++ pw)) → SliceRu W v' (x ++ wl)) := Lib.hid (fun W v' hW ho => by
          have := (slV_of ho (fun p hp => by
            rcases List.mem_append.1 hp with hp | hp
            · exact (HSx8.out.2 p hp).below hW
            · exact (HSw8.out.2 p hp).below hW)).slice
          rw [List.map_append, HPx.out, HPw.out] at this
          exact this)
        clear hZ hoz HPq HSx7 HSw HB7 hsz3 hpz
        go_wp2_with (first
          | (go_at_call 21; refine (num6_any _ _).mono ?_; rintro e x ⟨rfl, rfl⟩)
          | (go_at_call 27; refine (same6_any _ _ _ _ (HSz.out.below (hB2.trans hB3)) (HAp.out _ _ (hB2.trans hB3) hown3)).mono ?_; rintro e z7 ⟨rfl, hB4⟩)
          | (at_builtin; refine wpList_append_ruG (by rfl) _ _ rfl z6.heap.size _ px rfl hown2 _ pw rfl (HSw8.out.below hB2) (by omega) (by omega) hB2.size ?_; intro vt w3 hown3 hB3)
          | (at_builtin; refine wpList_append_ruG (by rfl) _ _ rfl z6.heap.size _ [] rfl (World.ownsRow_nil _ _ _ _) vx px rfl HSx8.out (by simp) (by omega) (Nat.le_refl _) ?_; intro vo w2 hown2 hB2))
        go_ret
        have hB23 := hB2.trans hB3
        exact ⟨rfl, HB8.out.trans ((hB23.trans (hB4.mono hB23.size)).mono HB8.out.size)⟩
end Go.Proofs.YtcikjgeanjnffaaGreatDoor

