/-
  WHAT THE PROOF STANDS ON, a part of it: RuPure2, RuBoundsMath.
-/
import Derived.Test.YtbcoklbfebmpoaaGreatDoorU36
import Derived.Test.YtbcoklbfebmpoaaGreatDoorU28
/-
  PLAIN MATHEMATICS: the text of rules is a program of them.
-/

namespace Go.Proofs.YtbcoklbfebmpoaaGreatDoor
open Go.RowKit
open Utf Term Lex
set_option linter.unusedVariables false
set_option linter.unusedSimpArgs false

/-- What a slot begins with. -/
def FirstK (L : List Sym) : Prop := ∃ y r, L = y :: r ∧ (y.kind = 1 ∨ y.kind = 2 ∨ y.kind = 3 ∨ y.kind = 5)
theorem FirstK.app {L : List Sym} (h : FirstK L) (R : List Sym) : FirstK (L ++ R) := by
  obtain ⟨y, r, rfl, hk⟩ := h
  exact ⟨y, r ++ R, rfl, hk⟩
theorem FirstK.headOK {L : List Sym} (h : FirstK L) : HeadOK L := by
  obtain ⟨y, r, rfl, hk⟩ := h
  intro z q e
  cases e
  exact ⟨by omega, fun k => by have := k.1; omega⟩
theorem FirstK.notMk {L : List Sym} (h : FirstK L) (m : List Int) : takesS (isMk m) L = none := by
  obtain ⟨y, r, rfl, hk⟩ := h
  rw [takesS, if_neg]
  unfold isMk
  simp only [Bool.and_eq_true, decide_eq_true_eq]
  omega
theorem FirstK.notWd {L : List Sym} (h : FirstK L) (m : List Int) : takesS (isWd m) L = none := by
  obtain ⟨y, r, rfl, hk⟩ := h
  rw [takesS, if_neg]
  unfold isWd wordB
  simp only [Bool.and_eq_true, beq_iff_eq]
  omega
theorem symsOf_first (a : TermD) (p : Nat) : ∃ y r, (symsOf a.1 (bs a.2.1) (bs a.2.2)).map (shiftS p) = y :: r ∧ (y.kind = 1 ∨ y.kind = 2 ∨ y.kind = 3) := by
  unfold symsOf
  split
  · exact ⟨_, _, rfl, .inl rfl⟩
  · split
    · exact ⟨_, _, rfl, .inr (.inl rfl)⟩
    · split
      · exact ⟨_, _, rfl, .inr (.inr rfl)⟩
      · split
        · exact ⟨_, _, rfl, .inr (.inr rfl)⟩
        · exact ⟨_, _, rfl, .inr (.inr rfl)⟩
theorem headOK_mk (m : List Int) (q : Nat) (h : m ≠ typeMarkL) (R : List Sym) : HeadOK (mkS m q :: R) := by
  intro y r e
  cases e
  exact ⟨by show (8 : Nat) ≠ 4; decide, fun k => h k.2⟩
theorem takes_mk (m : List Int) (q : Nat) (R : List Sym) : takesS (isMk m) (mkS m q :: R) = some R := by
  unfold takesS isMk mkS symT
  simp
theorem takes_mk_ne {m k : List Int} (q : Nat) (h : m ≠ k) (R : List Sym) : takesS (isMk k) (mkS m q :: R) = none := by
  unfold takesS isMk mkS symT
  simp [h]
theorem takes_mk_wd (m k : List Int) (q : Nat) (R : List Sym) : takesS (isWd k) (mkS m q :: R) = none := by
  unfold takesS isWd mkS symT wordB
  simp
theorem need_mk (m : List Int) (q : Nat) (R : List Sym) : needS (isMk m) (mkS m q :: R) = .yes () R := by
  unfold needS
  rw [takes_mk]

/-- The name of a variable. -/
theorem name_word {v : ByteArray} (h : nameB v = true) (h0 : v.size ≠ 0) : isWordL (bs v) = true ∧ ∀ c ∈ bs v, letterDigit c = true := by
  unfold nameB at h
  rw [Bool.and_eq_true, decide_eq_true_eq] at h
  obtain ⟨h32, hm⟩ := h
  unfold mayS at hm
  rw [if_neg (by decide), if_pos rfl, Bool.and_eq_true] at hm
  have hb := hm.2
  have hl := blank_chars hb
  refine ⟨?_, hl⟩
  have hz := bs_length v
  unfold isBlankB at hb
  simp only [Bool.and_eq_true, decide_eq_true_eq] at hb
  obtain ⟨⟨⟨hb1, hb2⟩, hb3⟩, hb4⟩ := hb
  unfold isWordL
  have hd : digit ((bs v).headD 0) = false := by
    generalize (bs v).headD 0 = c at *
    unfold letter small at hb3
    unfold digit
    simp only [Bool.or_eq_true, Bool.and_eq_true, decide_eq_true_eq] at hb3
    rw [Bool.and_eq_false_iff]
    simp only [decide_eq_false_iff_not]
    omega
  rw [hd, decide_eq_true hb1, decide_eq_true (by omega)]
  rfl

def varS (l : List Int) (p : Nat) : Sym := { symT 5 l with place := p }
theorem slot_toks {s : SlotD} (h : slotB s = true) {c : Int} (hc : Stop c) (r : List Int) (p : Nat) :
    ∃ L, toks (slotL s ++ c :: r) p = (L ++ (toks (c :: r) (p + (slotL s).length)).1, (toks (c :: r) (p + (slotL s).length)).2) ∧ FirstK L ∧ ∀ P R, HeadOK R → slotS P (L ++ R) = .yes s R := by
  obtain ⟨v, a⟩ := s
  unfold slotB at h
  simp only at h
  by_cases h0 : v.size = 0
  · obtain rfl := empty_size h0
    rw [if_pos h0] at h
    have e : slotL (⟨#[]⟩, a) = textL a.1 a.2.1 a.2.2 := by unfold slotL; exact if_pos h0
    rw [e]
    obtain ⟨y, q, hy, hk⟩ := symsOf_first a p
    refine ⟨_, toks_term_s (k := a.1) (t := a.2.1) (x := a.2.2) h hc r p, ⟨y, q, hy, by omega⟩, fun P R hR => ?_⟩
    have hrd := read_term (P := P) h p hR
    have hlen : (symsOf a.1 (bs a.2.1) (bs a.2.2)).length = ((symsOf a.1 (bs a.2.1) (bs a.2.2)).map (shiftS p)).length := (List.length_map _).symm
    rw [hlen] at hrd
    rw [hy] at hrd ⊢
    rw [List.cons_append] at hrd ⊢
    rw [slotS, if_neg (by omega), termS, hrd]
    simp only
    rw [← List.cons_append, List.drop_left]
  · rw [if_neg h0, Bool.and_eq_true, decide_eq_true_eq] at h
    obtain ⟨hn, rfl⟩ := h
    obtain ⟨hw, hl⟩ := name_word hn h0
    have e : slotL (v, zTe) = 63 :: bs v := by unfold slotL; exact if_neg h0
    rw [e]
    have ho := one_var_s hw hl hc r
    refine ⟨[varS (bs v) p], ?_, ⟨_, _, rfl, .inr (.inr (.inr rfl))⟩, fun P R hR => ?_⟩
    · have ed : (63 :: (bs v ++ c :: r)).drop ((bs v).length + 1) = c :: r := by rw [List.drop_succ_cons, List.drop_left]
      rw [List.cons_append, toks_one (by rw [skF, if_neg (by decide), if_neg (by decide)]) (by simp) ho, ed, List.length_cons]
      rfl
    · rw [List.singleton_append, slotS, if_pos (show (varS (bs v) p).kind = 5 from rfl)]
      have es : S (varS (bs v) p).text = v := S_bsB v
      rw [es, if_pos hn]

theorem pat_toks {p : PatD} (h : patB p = true) (r : List Int) (q : Nat) :
    ∃ L q', toks (patL p ++ r) q = (mkS openM q' :: L ++ (toks r (q + (patL p).length)).1, (toks r (q + (patL p).length)).2) ∧ ∀ P R, patS P (mkS openM q' :: L ++ R) = .yes p R := by
  obtain ⟨a, b, c⟩ := p
  unfold patB at h
  simp only [Bool.and_eq_true] at h
  have e : patL (a, b, c) ++ r = 40 :: (slotL a ++ 32 :: (slotL b ++ 32 :: (slotL c ++ 41 :: r))) := by unfold patL; simp
  have el : (patL (a, b, c)).length = 1 + (slotL a).length + 1 + (slotL b).length + 1 + (slotL c).length + 1 := by
    unfold patL
    simp only [List.length_cons, List.length_append, List.length_nil]
    omega
  obtain ⟨LA, a1, a2, a3⟩ := slot_toks h.1.1 stop_32 (slotL b ++ 32 :: (slotL c ++ 41 :: r)) (q + 1)
  obtain ⟨LB, b1, b2, b3⟩ := slot_toks h.1.2 stop_32 (slotL c ++ 41 :: r) (q + 1 + (slotL a).length + 1)
  obtain ⟨LC, c1, c2, c3⟩ := slot_toks h.2 stop_41 r (q + 1 + (slotL a).length + 1 + (slotL b).length + 1)
  refine ⟨LA ++ (LB ++ (LC ++ [mkS closeM (q + 1 + (slotL a).length + 1 + (slotL b).length + 1 + (slotL c).length)])), q, ?_, fun P R => ?_⟩
  · rw [e, toks_open, a1, toks_ws (by decide), b1, toks_ws (by decide), c1, toks_close, el]
    have e9 : q + (1 + (slotL a).length + 1 + (slotL b).length + 1 + (slotL c).length + 1) = q + 1 + (slotL a).length + 1 + (slotL b).length + 1 + (slotL c).length + 1 := by omega
    rw [e9]
    simp
  · unfold patS
    rw [List.cons_append, need_mk]
    simp only [Tk.bind, List.append_assoc, List.singleton_append]
    unfold slots3
    rw [a3 P _ (b2.app _).headOK]
    simp only [Tk.bind]
    rw [b3 P _ (c2.app _).headOK]
    simp only
    rw [c3 P _ (headOK_mk closeM _ (by decide) _)]
    simp only
    rw [need_mk]

theorem lit_toks {l : LitD} (h : litB l = true) {c : Int} (hc : Stop c) (r : List Int) (q : Nat) :
    ∃ L, toks (litL l ++ c :: r) q = (L ++ (toks (c :: r) (q + (litL l).length)).1, (toks (c :: r) (q + (litL l).length)).2) ∧ ∀ P R, HeadOK R → partS P (L ++ R) = .yes l R := by
  obtain ⟨k, p, a, b⟩ := l
  unfold litB at h
  simp only at h
  by_cases h12 : k = 1 ∨ k = 2
  · rw [if_pos h12] at h
    simp only [Bool.and_eq_true, decide_eq_true_eq] at h
    obtain ⟨⟨hp, rfl⟩, rfl⟩ := h
    rcases h12 with rfl | rfl
    · have e : litL (1, p, zSl, zSl) = patL p := by unfold litL; exact if_pos rfl
      rw [e]
      obtain ⟨L, q', h1, h2⟩ := pat_toks hp (c :: r) q
      refine ⟨mkS openM q' :: L, h1, fun P R hR => ?_⟩
      unfold partS
      rw [List.cons_append, takes_mk_wd]
      simp only
      rw [takes_mk]
      simp only
      rw [← List.cons_append, h2]
      rfl
    · have e : litL (2, p, zSl, zSl) = notL ++ patL p := by unfold litL; rw [if_neg (show ¬ (2 : Int) = 1 by decide)]; exact if_pos rfl
      have e2 : notL ++ patL p ++ c :: r = 110 :: 111 :: 116 :: 32 :: (patL p ++ c :: r) := by unfold notL; simp
      obtain ⟨L, q', h1, h2⟩ := pat_toks hp (c :: r) (q + 4)
      refine ⟨{ symT 6 notW with place := q } :: (mkS openM q' :: L), ?_, fun P R hR => ?_⟩
      · rw [e, e2, toks_not, h1, List.length_append]
        show _ = (_, (toks (c :: r) (q + (4 + (patL p).length))).2)
        rw [Nat.add_assoc]
        rfl
      · unfold partS
        have ht : takesS (isWd notW) ({ symT 6 notW with place := q } :: (mkS openM q' :: L) ++ R) = some (mkS openM q' :: L ++ R) := rfl
        rw [ht]
        simp only
        rw [h2]
        rfl
  · rw [if_neg h12] at h
    by_cases h34 : k = 3 ∨ k = 4
    · rw [if_pos h34] at h
      simp only [Bool.and_eq_true, decide_eq_true_eq] at h
      obtain ⟨⟨ha, hb⟩, rfl⟩ := h
      have e : litL (k, zPa, a, b) = slotL a ++ (condL k ++ slotL b) := by unfold litL; rw [if_neg (by omega), if_neg (by omega)]
      rw [e]
      rcases h34 with rfl | rfl
      · have ec : condL 3 = [32, 61, 32] := rfl
        have e2 : slotL a ++ (condL 3 ++ slotL b) ++ c :: r = slotL a ++ 32 :: (61 :: 32 :: (slotL b ++ c :: r)) := by rw [ec]; simp
        obtain ⟨LA, a1, a2, a3⟩ := slot_toks ha stop_32 (61 :: 32 :: (slotL b ++ c :: r)) q
        obtain ⟨LB, b1, b2, b3⟩ := slot_toks hb hc r (q + (slotL a).length + 1 + 1 + 1)
        refine ⟨LA ++ (mkS sameM (q + (slotL a).length + 1) :: LB), ?_, fun P R hR => ?_⟩
        · rw [e2, a1, toks_ws (by decide), toks_same, toks_ws (by decide), b1, ec]
          have e9 : q + (slotL a ++ ([32, 61, 32] ++ slotL b)).length = q + (slotL a).length + 1 + 1 + 1 + (slotL b).length := by
            simp only [List.length_append, List.length_cons, List.length_nil]
            omega
          rw [e9]
          simp
        · unfold partS
          have hf := (a2.app (mkS sameM (q + (slotL a).length + 1) :: LB)).app R
          rw [hf.notWd, ]
          simp only
          rw [hf.notMk]
          simp only
          unfold condS
          rw [List.append_assoc, a3 P _ (by rw [List.cons_append]; exact headOK_mk sameM _ (by decide) _)]
          simp only [Tk.bind, List.cons_append]
          rw [takes_mk]
          simp only
          rw [b3 P R hR]
      · have ec : condL 4 = [32, 33, 61, 32] := rfl
        have e2 : slotL a ++ (condL 4 ++ slotL b) ++ c :: r = slotL a ++ 32 :: (33 :: 61 :: 32 :: (slotL b ++ c :: r)) := by rw [ec]; simp
        obtain ⟨LA, a1, a2, a3⟩ := slot_toks ha stop_32 (33 :: 61 :: 32 :: (slotL b ++ c :: r)) q
        obtain ⟨LB, b1, b2, b3⟩ := slot_toks hb hc r (q + (slotL a).length + 1 + 2 + 1)
        refine ⟨LA ++ (mkS unlikeM (q + (slotL a).length + 1) :: LB), ?_, fun P R hR => ?_⟩
        · rw [e2, a1, toks_ws (by decide), toks_unlike, toks_ws (by decide), b1, ec]
          have e9 : q + (slotL a ++ ([32, 33, 61, 32] ++ slotL b)).length = q + (slotL a).length + 1 + 2 + 1 + (slotL b).length := by
            simp only [List.length_append, List.length_cons, List.length_nil]
            omega
          rw [e9]
          simp
        · unfold partS
          have hf := (a2.app (mkS unlikeM (q + (slotL a).length + 1) :: LB)).app R
          rw [hf.notWd, ]
          simp only
          rw [hf.notMk]
          simp only
          unfold condS
          rw [List.append_assoc, a3 P _ (by rw [List.cons_append]; exact headOK_mk unlikeM _ (by decide) _)]
          simp only [Tk.bind, List.cons_append]
          rw [takes_mk_ne _ (by decide)]
          simp only
          rw [need_mk]
          simp only
          rw [b3 P R hR]
    · rw [if_neg h34] at h
      cases h

/-- What stands behind a part: no comma, nothing that goes with a string. -/
def Behind (R : List Sym) : Prop := HeadOK R ∧ takesS (isMk commaM) R = none
theorem more_toks : ∀ {ls : List LitD}, (∀ l ∈ ls, litB l = true) → ∀ {c : Int}, Stop c → ∀ (r : List Int) (q : Nat),
    ∃ L, toks (tailL ls ++ c :: r) q = (L ++ (toks (c :: r) (q + (tailL ls).length)).1, (toks (c :: r) (q + (tailL ls).length)).2) ∧ (∀ R, HeadOK R → HeadOK (L ++ R)) ∧ ∀ P R, Behind R → moreS P (L ++ R) = .yes ls R
  | [], _, c, hc, r, q => ⟨[], by simp [tailL], fun R h => h, fun P R hR => by rw [List.nil_append, moreS_eq, hR.2]⟩
  | l :: ls, h, c, hc, r, q => by
    have e : tailL (l :: ls) ++ c :: r = 44 :: 32 :: (litL l ++ (tailL ls ++ c :: r)) := by rw [tailL]; simp
    have el : (tailL (l :: ls)).length = 1 + 1 + (litL l).length + (tailL ls).length := by
      rw [tailL]
      simp only [List.length_cons, List.length_append]
      omega
    obtain ⟨LM, m1, m2, m3⟩ := more_toks (ls := ls) (fun x hx => h x (by simp [hx])) hc r (q + 1 + 1 + (litL l).length)
    have hst : ∃ c' r', tailL ls ++ c :: r = c' :: r' ∧ Stop c' := by
      cases ls with
      | nil => exact ⟨c, r, rfl, hc⟩
      | cons x xs => exact ⟨44, _, rfl, stop_44⟩
    obtain ⟨c', r', hst, hc'⟩ := hst
    rw [hst] at m1 e
    obtain ⟨LL, l1, l3⟩ := lit_toks (h l (by simp)) hc' r' (q + 1 + 1)
    refine ⟨mkS commaM q :: (LL ++ LM), ?_, fun R hR => by rw [List.cons_append]; exact headOK_mk commaM q (by decide) _, fun P R hR => ?_⟩
    · rw [e, toks_comma, toks_ws (by decide), l1, m1, el]
      have e9 : q + (1 + 1 + (litL l).length + (tailL ls).length) = q + 1 + 1 + (litL l).length + (tailL ls).length := by omega
      rw [e9]
      simp
    · rw [moreS_eq, List.cons_append, takes_mk]
      simp only
      rw [List.append_assoc, l3 P _ (m2 R hR.1)]
      simp only [Tk.bind]
      rw [m3 P R hR]
theorem body_toks {ls : List LitD} (hne : ls ≠ []) (h : ∀ l ∈ ls, litB l = true) {c : Int} (hc : Stop c) (r : List Int) (q : Nat) :
    ∃ L, toks (bodyL ls ++ c :: r) q = (L ++ (toks (c :: r) (q + (bodyL ls).length)).1, (toks (c :: r) (q + (bodyL ls).length)).2) ∧ ∀ P R, Behind R → bodyS P (L ++ R) = .yes ls R := by
  cases ls with
  | nil => exact absurd rfl hne
  | cons l ls =>
    have e : bodyL (l :: ls) ++ c :: r = litL l ++ (tailL ls ++ c :: r) := by rw [bodyL]; simp
    have el : (bodyL (l :: ls)).length = (litL l).length + (tailL ls).length := by
      rw [bodyL]
      simp only [List.length_append]
    obtain ⟨LM, m1, m2, m3⟩ := more_toks (ls := ls) (fun x hx => h x (by simp [hx])) hc r (q + (litL l).length)
    have hst : ∃ c' r', tailL ls ++ c :: r = c' :: r' ∧ Stop c' := by
      cases ls with
      | nil => exact ⟨c, r, rfl, hc⟩
      | cons x xs => exact ⟨44, _, rfl, stop_44⟩
    obtain ⟨c', r', hst, hc'⟩ := hst
    rw [hst] at m1 e
    obtain ⟨LL, l1, l3⟩ := lit_toks (h l (by simp)) hc' r' q
    refine ⟨LL ++ LM, ?_, fun P R hR => ?_⟩
    · rw [e, l1, m1, el]
      have e9 : q + ((litL l).length + (tailL ls).length) = q + (litL l).length + (tailL ls).length := by omega
      rw [e9]
      simp
    · rw [bodyS_eq, List.append_assoc, l3 P _ (m2 R hR.1)]
      simp only [Tk.bind]
      rw [m3 P R hR]
theorem behind_end (q : Nat) (R : List Sym) : Behind (mkS endM q :: R) := ⟨headOK_mk endM q (by decide) R, takes_mk_ne q (by decide) R⟩

/-- A rule's text, but for its byte 10: its symbols, and what comes behind. -/
theorem rule_toks_any {x : RuleD} (hls : ∀ l ∈ x.2, litB l = true) (hp : patB x.1 = true) (r : List Int) (q : Nat) :
    ∃ L q', toks (ruleL x ++ r) q = (mkS openM q' :: L ++ (toks r (q + (ruleL x).length)).1, (toks r (q + (ruleL x).length)).2) ∧ ∀ P R, ruleS P (mkS openM q' :: L ++ R) = if ruleB x = true then .yes x R else .no (mkS openM q' :: L ++ R) := by
  obtain ⟨p, ls⟩ := x
  simp only at hls hp
  by_cases hne : ls = []
  · subst hne
    have e : ruleL (p, []) ++ r = patL p ++ 32 :: (46 :: r) := by unfold ruleL; simp
    have el : (ruleL (p, [])).length = (patL p).length + 1 + 1 := by unfold ruleL; simp
    obtain ⟨L, q', h1, h2⟩ := pat_toks hp (32 :: (46 :: r)) q
    refine ⟨L ++ [mkS endM (q + (patL p).length + 1)], q', ?_, fun P R => ?_⟩
    · rw [e, h1, toks_ws (by decide), toks_dot, el]
      have e9 : q + ((patL p).length + 1 + 1) = q + (patL p).length + 1 + 1 := by omega
      rw [e9]
      simp
    · unfold ruleS
      have e9 : mkS openM q' :: (L ++ [mkS endM (q + (patL p).length + 1)]) ++ R = mkS openM q' :: L ++ (mkS endM (q + (patL p).length + 1) :: R) := by simp
      rw [e9, h2]
      simp only [Tk.bind]
      unfold optS
      rw [takes_mk_ne _ (by decide)]
      simp only
      rw [need_mk]
  · have e : ruleL (p, ls) ++ r = patL p ++ 32 :: (58 :: 45 :: 32 :: (bodyL ls ++ 32 :: (46 :: r))) := by
      unfold ruleL
      simp only
      rw [if_neg hne]
      simp
    have el : (ruleL (p, ls)).length = (patL p).length + 1 + 2 + 1 + (bodyL ls).length + 1 + 1 := by
      unfold ruleL
      simp only
      rw [if_neg hne]
      simp only [List.length_append, List.length_cons, List.length_nil]
      omega
    obtain ⟨L, q', h1, h2⟩ := pat_toks hp (32 :: (58 :: 45 :: 32 :: (bodyL ls ++ 32 :: (46 :: r)))) q
    obtain ⟨LB, b1, b2⟩ := body_toks hne hls stop_32 (46 :: r) (q + (patL p).length + 1 + 2 + 1)
    refine ⟨L ++ (mkS arrowM (q + (patL p).length + 1) :: (LB ++ [mkS endM (q + (patL p).length + 1 + 2 + 1 + (bodyL ls).length + 1)])), q', ?_, fun P R => ?_⟩
    · rw [e, h1, toks_ws (by decide), toks_arrow, toks_ws (by decide), b1, toks_ws (by decide), toks_dot, el]
      have e9 : q + ((patL p).length + 1 + 2 + 1 + (bodyL ls).length + 1 + 1) = q + (patL p).length + 1 + 2 + 1 + (bodyL ls).length + 1 + 1 := by omega
      rw [e9]
      simp
    · unfold ruleS
      have e9 : mkS openM q' :: (L ++ (mkS arrowM (q + (patL p).length + 1) :: (LB ++ [mkS endM (q + (patL p).length + 1 + 2 + 1 + (bodyL ls).length + 1)]))) ++ R = mkS openM q' :: L ++ (mkS arrowM (q + (patL p).length + 1) :: (LB ++ (mkS endM (q + (patL p).length + 1 + 2 + 1 + (bodyL ls).length + 1) :: R))) := by simp
      rw [e9, h2]
      simp only [Tk.bind]
      unfold optS
      rw [takes_mk]
      simp only
      rw [b2 P _ (behind_end _ _)]
      simp only
      rw [need_mk]

/-- Bytes that are runes'. -/
def EncL (l : List Int) : Prop := ∃ rs, AllMay rs ∧ l = encs rs
theorem EncL.app {a b : List Int} (ha : EncL a) (hb : EncL b) : EncL (a ++ b) := by
  obtain ⟨x, hx, rfl⟩ := ha
  obtain ⟨y, hy, rfl⟩ := hb
  exact ⟨x ++ y, hx.append hy, (encs_append x y).symm⟩
theorem EncL.of {a : List Int} (h : valid a = true) (hl : a.length ≤ 1000000000000) : EncL a := (valid_iff hl).1 h
theorem EncL.ascii {a : List Int} (h : ∀ c ∈ a, 0 ≤ c ∧ c ≤ 127) (hl : a.length ≤ 1000) : EncL a := .of (valid_ascii (by omega) h) (by omega)
theorem slot_enc {s : SlotD} (h : slotB s = true) : EncL (slotL s) := by
  obtain ⟨v, a⟩ := s
  unfold slotB at h
  unfold slotL
  simp only at h ⊢
  split at h
  · rw [if_pos (by assumption)]
    obtain ⟨v1, l1⟩ := text_valid (k := a.1) (t := a.2.1) (x := a.2.2) h
    exact .of v1 (by omega)
  · rename_i h0
    rw [if_neg h0]
    rw [Bool.and_eq_true, decide_eq_true_eq] at h
    obtain ⟨hn, rfl⟩ := h
    obtain ⟨hw, hl⟩ := name_word hn h0
    have hz : v.size ≤ 32 := by
      unfold nameB at hn
      rw [Bool.and_eq_true, decide_eq_true_eq] at hn
      exact hn.1
    refine .ascii (fun c hc => ?_) (by rw [List.length_cons, bs_length]; omega)
    rcases List.mem_cons.1 hc with rfl | hc
    · exact ⟨by decide, by decide⟩
    · have := hl c hc
      unfold letterDigit letter small digit at this
      simp only [Bool.or_eq_true, Bool.and_eq_true, decide_eq_true_eq] at this
      omega
theorem pat_enc {p : PatD} (h : patB p = true) : EncL (patL p) := by
  unfold patB at h
  simp only [Bool.and_eq_true] at h
  have e : patL p = [40] ++ (slotL p.1 ++ ([32] ++ (slotL p.2.1 ++ ([32] ++ (slotL p.2.2 ++ [41]))))) := by unfold patL; simp
  rw [e]
  have a1 : ∀ c : Int, 0 ≤ c ∧ c ≤ 127 → EncL [c] := fun c hc => .ascii (fun x hx => by rw [List.mem_singleton.1 hx]; exact hc) (by simp)
  exact (a1 40 (by decide)).app ((slot_enc h.1.1).app ((a1 32 (by decide)).app ((slot_enc h.1.2).app ((a1 32 (by decide)).app ((slot_enc h.2).app (a1 41 (by decide)))))))
theorem lit_enc {l : LitD} (h : litB l = true) : EncL (litL l) := by
  have a1 : ∀ m : List Int, (m.all fun c => decide (0 ≤ c) && decide (c ≤ 127)) = true → m.length ≤ 1000 → EncL m := fun m hm hl => .ascii (fun x hx => by
    have := List.all_eq_true.1 hm x hx
    simpa using this) hl
  unfold litB at h
  unfold litL
  split at h
  · simp only [Bool.and_eq_true] at h
    split
    · exact pat_enc h.1.1
    · split
      · exact (a1 notL (by decide) (by decide)).app (pat_enc h.1.1)
      · rename_i h1 h2 h3; omega
  · split at h
    · simp only [Bool.and_eq_true] at h
      split
      · rename_i a b; omega
      · split
        · rename_i a b; omega
        · refine (slot_enc h.1.1).app (.app ?_ (slot_enc h.1.2))
          unfold condL
          split
          · exact a1 _ (by decide) (by decide)
          · exact a1 _ (by decide) (by decide)
    · cases h
theorem tail_enc : ∀ {ls : List LitD}, (∀ l ∈ ls, litB l = true) → EncL (tailL ls)
  | [], _ => ⟨[], by simp [AllMay], by simp [tailL, encs]⟩
  | l :: ls, h => by
    have e : tailL (l :: ls) = [44, 32] ++ (litL l ++ tailL ls) := by rw [tailL]; rfl
    rw [e]
    exact (EncL.ascii (by decide) (by decide)).app ((lit_enc (h l (by simp))).app (tail_enc fun x hx => h x (by simp [hx])))
theorem rule_enc_any {x : RuleD} (hls : ∀ l ∈ x.2, litB l = true) (hp : patB x.1 = true) : EncL (ruleL x) := by
  obtain ⟨p, ls⟩ := x
  simp only at hls hp
  unfold ruleL
  refine (pat_enc hp).app (.app ?_ (EncL.ascii (by decide) (by decide)))
  split
  · exact ⟨[], by simp [AllMay], by simp [encs]⟩
  · refine (EncL.ascii (by decide) (by decide)).app ?_
    cases ls with
    | nil => exact ⟨[], by simp [AllMay], by simp [bodyL, encs]⟩
    | cons l ls => exact (lit_enc (hls l (by simp))).app (tail_enc fun x hx => hls x (by simp [hx]))
/-- The text of one rule, without a byte 10: a program of it, if it may be; else none's. -/
theorem src_rule {x : RuleD} (hls : ∀ l ∈ x.2, litB l = true) (hp : patB x.1 = true) (hl : (ruleL x).length ≤ 1048576) : ∃ p, srcS (strOfNums (ruleL x)) = if ruleB x = true then .good [x] else .bad p 4 := by
  have hb : bs (strOfNums (ruleL x)) = ruleL x := bs_strOfNums (ruleL_byte x)
  have hz : (strOfNums (ruleL x)).size = (ruleL x).length := strOfNums_size _
  obtain ⟨L, q', h1, h2⟩ := rule_toks_any hls hp [] 0
  rw [List.append_nil, toks_nil] at h1
  have ha : allL (ruleL x) = (mkS openM q' :: L, (ruleL x).length) := by
    unfold allL
    rw [h1]
    simp
  have hw := wf_of_valid ((valid_iff (by omega)).2 (rule_enc_any hls hp))
  have hr := h2 noPre []
  rw [List.append_nil] at hr
  refine ⟨placeR (ruleL x).length (mkS openM q' :: L), ?_⟩
  unfold srcS
  rw [hz, hb, if_neg (by omega), hw, if_neg (by omega), ha]
  simp only
  rw [if_neg (by omega), progS_cons _ _ (by simp), takes_mk_wd]
  simp only
  rw [hr]
  cases ruleB x with
  | true =>
    simp only [if_true]
    rw [progS_nil]
    rfl
  | false => rfl
end Go.Proofs.YtbcoklbfebmpoaaGreatDoor

/-
  PLAIN FACTS OF RuleBounds: bodies at the bound.
-/

namespace Go.Proofs.YtbcoklbfebmpoaaGreatDoor
open Go.RowKit
open Utf Term Lex
set_option linter.unusedVariables false

abbrev bdP : SlotD := (⟨#[]⟩, ((1 : Int), (⟨#[112]⟩ : ByteArray), (⟨#[]⟩ : ByteArray)))
def nmV : ByteArray := ⟨#[97, 98, 99, 100, 101, 102, 103, 104, 105, 106, 107, 108, 109, 110, 111, 112, 113, 114, 115, 116, 117, 118, 119, 120, 121, 122, 65, 66, 67, 68, 69, 70]⟩
def nmW : ByteArray := ⟨#[97, 98, 99, 100, 101, 102, 103, 104, 105, 106, 107, 108, 109, 110, 111, 112, 113, 114, 115, 116, 117, 118, 119, 120, 121, 122, 65, 66, 67, 68, 69, 70, 71]⟩
abbrev bdV (nv : ByteArray) : SlotD := (nv, zTe)
abbrev bdH (nv : ByteArray) : PatD := (bdV nv, bdP, bdP)
abbrev bdL (nv : ByteArray) : LitD := (1, bdH nv, zSl, zSl)
def bdR (nv : ByteArray) (k : Nat) : RuleD := (bdH nv, List.replicate k (bdL nv))
theorem bd_lit : litB (bdL nmV) = true := by kernel_rfl
theorem bd_pat : patB (bdH nmV) = true := by kernel_rfl
theorem bd_all (k : Nat) : ∀ l ∈ (bdR nmV k).2, litB l = true := fun l hl => by rw [List.eq_of_mem_replicate hl]; exact bd_lit
theorem bd_may (k : Nat) : ruleB (bdR nmV k) = decide (k ≤ 64) := by
  unfold ruleB
  have h1 : (bdR nmV k).2.all litB = true := List.all_eq_true.2 (bd_all k)
  rw [h1, show patB (bdR nmV k).1 = true from bd_pat, show (bdR nmV k).2.length = k from List.length_replicate]
  simp
theorem bd_slots : slotB (bdV nmV) = true ∧ slotB (bdV nmW) = false ∧ slotB zSl = false ∧ slotB (⟨#[97]⟩, bdP.2) = false := ⟨by kernel_rfl, by kernel_rfl, by kernel_rfl, by kernel_rfl⟩
theorem bd_litlen : (litL (bdL nmV)).length = 43 := by kernel_rfl
theorem tail_rep : ∀ (k : Nat) (l : LitD), (tailL (List.replicate k l)).length = k * ((litL l).length + 2)
  | 0, l => by simp [tailL]
  | k + 1, l => by
    rw [List.replicate_succ, tailL]
    simp only [List.length_cons, List.length_append]
    rw [tail_rep k l, Nat.succ_mul]
    omega
theorem tail_snoc : ∀ (ls : List LitD) (l : LitD), tailL (ls ++ [l]) = tailL ls ++ (44 :: 32 :: litL l)
  | [], l => by simp [tailL]
  | x :: ls, l => by rw [List.cons_append, tailL, tailL, tail_snoc ls l]; simp
theorem body_snoc (x : LitD) (ls : List LitD) (l : LitD) : bodyL (x :: ls ++ [l]) = bodyL (x :: ls) ++ (44 :: 32 :: litL l) := by
  rw [List.cons_append, bodyL, bodyL, tail_snoc]
  simp
/-- The text of one part more. -/
theorem bd_next (nv : ByteArray) (k : Nat) : ruleL (bdR nv (k + 2)) = (ruleL (bdR nv (k + 1))).take ((ruleL (bdR nv (k + 1))).length - 2) ++ (44 :: 32 :: (litL (bdL nv) ++ [32, 46])) := by
  have e1 : (bdR nv (k + 1)).2 = bdL nv :: List.replicate k (bdL nv) := by unfold bdR; rw [List.replicate_succ]
  have e2 : (bdR nv (k + 2)).2 = (bdL nv :: List.replicate k (bdL nv)) ++ [bdL nv] := by unfold bdR; rw [List.replicate_succ', List.replicate_succ]
  unfold ruleL
  rw [e1, e2, if_neg (by simp), if_neg (by simp), body_snoc]
  have h : ∀ A : List Int, (A ++ [32, 46]).take ((A ++ [32, 46]).length - 2) = A := fun A => by
    rw [List.length_append, show A.length + [32, (46 : Int)].length - 2 = A.length by simp, List.take_left]
  have e3 : patL (bdR nv (k + 1)).1 ++ ([32, 58, 45, 32] ++ bodyL (bdL nv :: List.replicate k (bdL nv)) ++ [32, 46]) = (patL (bdR nv (k + 1)).1 ++ ([32, 58, 45, 32] ++ bodyL (bdL nv :: List.replicate k (bdL nv)))) ++ [32, 46] := by simp
  rw [e3, h]
  show patL (bdH nv) ++ _ = (patL (bdH nv) ++ _) ++ _
  simp
theorem bd_len (k : Nat) (hk : k + 1 ≤ 70) : 2 ≤ (ruleL (bdR nmV (k + 1))).length ∧ (ruleL (bdR nmV (k + 1))).length ≤ 10000 := by
  have e1 : (bdR nmV (k + 1)).2 = bdL nmV :: List.replicate k (bdL nmV) := by unfold bdR; rw [List.replicate_succ]
  have hp : (patL (bdR nmV (k + 1)).1).length = 43 := by show (patL (bdH nmV)).length = 43; kernel_rfl
  unfold ruleL
  rw [e1, if_neg (by simp)]
  simp only [List.length_append, List.length_cons, List.length_nil]
  rw [hp, bodyL, List.length_append, tail_rep, bd_litlen]
  omega
theorem bd_src64 : srcS (strOfNums (ruleL (bdR nmV 64))) = .good [bdR nmV 64] := by
  obtain ⟨p, h⟩ := src_rule (x := bdR nmV 64) (bd_all 64) bd_pat (Nat.le_trans (bd_len 63 (by omega)).2 (by decide))
  rw [h, bd_may, if_pos (by decide)]
theorem bd_src65 : ∃ p, srcS (strOfNums (ruleL (bdR nmV 65))) = .bad p 4 := by
  obtain ⟨p, h⟩ := src_rule (x := bdR nmV 65) (bd_all 65) bd_pat (Nat.le_trans (bd_len 64 (by omega)).2 (by decide))
  exact ⟨p, by rw [h, bd_may, if_neg (by decide)]⟩
end Go.Proofs.YtbcoklbfebmpoaaGreatDoor

