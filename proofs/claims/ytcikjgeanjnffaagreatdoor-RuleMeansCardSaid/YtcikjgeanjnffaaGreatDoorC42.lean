/-
  WHAT THE PROOF STANDS ON, a part of it: RuPure2, RuPure3.
-/
import Derived.Test.YtcikjgeanjnffaaGreatDoorC40
import Derived.Test.YtcikjgeanjnffaaGreatDoorC31
/-
  PLAIN MATHEMATICS: the text of rules is a program of them.
-/

namespace Go.Proofs.YtcikjgeanjnffaaGreatDoor
open Go.RowKit
open Utf Term Lex
set_option linter.unusedVariables false
set_option linter.unusedSimpArgs false

/-- What a slot begins with. -/
def FirstK (L : List Sym) : Prop := ∃ y r, L = y :: r ∧ (y.kind = 1 ∨ y.kind = 2 ∨ y.kind = 3 ∨ y.kind = 5)
theorem FirstK.app {L : List Sym} (h : FirstK L) (R : List Sym) : FirstK (L ++ R) := by
  obtain ⟨y, r, rfl, hk⟩ := h
  exact ⟨y, r ++ R, rfl, hk⟩
theorem FirstK.headOK {L : List Sym} (h : FirstK L) : HeadOK L := by
  obtain ⟨y, r, rfl, hk⟩ := h
  intro z q e
  cases e
  exact ⟨by omega, fun k => by have := k.1; omega⟩
theorem FirstK.notMk {L : List Sym} (h : FirstK L) (m : List Int) : takesS (isMk m) L = none := by
  obtain ⟨y, r, rfl, hk⟩ := h
  rw [takesS, if_neg]
  unfold isMk
  simp only [Bool.and_eq_true, decide_eq_true_eq]
  omega
theorem FirstK.notWd {L : List Sym} (h : FirstK L) (m : List Int) : takesS (isWd m) L = none := by
  obtain ⟨y, r, rfl, hk⟩ := h
  rw [takesS, if_neg]
  unfold isWd wordB
  simp only [Bool.and_eq_true, beq_iff_eq]
  omega
theorem symsOf_first (a : TermD) (p : Nat) : ∃ y r, (symsOf a.1 (bs a.2.1) (bs a.2.2)).map (shiftS p) = y :: r ∧ (y.kind = 1 ∨ y.kind = 2 ∨ y.kind = 3) := by
  unfold symsOf
  split
  · exact ⟨_, _, rfl, .inl rfl⟩
  · split
    · exact ⟨_, _, rfl, .inr (.inl rfl)⟩
    · split
      · exact ⟨_, _, rfl, .inr (.inr rfl)⟩
      · split
        · exact ⟨_, _, rfl, .inr (.inr rfl)⟩
        · exact ⟨_, _, rfl, .inr (.inr rfl)⟩
theorem headOK_mk (m : List Int) (q : Nat) (h : m ≠ typeMarkL) (R : List Sym) : HeadOK (mkS m q :: R) := by
  intro y r e
  cases e
  exact ⟨by show (8 : Nat) ≠ 4; decide, fun k => h k.2⟩
theorem takes_mk (m : List Int) (q : Nat) (R : List Sym) : takesS (isMk m) (mkS m q :: R) = some R := by
  unfold takesS isMk mkS symT
  simp
theorem takes_mk_ne {m k : List Int} (q : Nat) (h : m ≠ k) (R : List Sym) : takesS (isMk k) (mkS m q :: R) = none := by
  unfold takesS isMk mkS symT
  simp [h]
theorem takes_mk_wd (m k : List Int) (q : Nat) (R : List Sym) : takesS (isWd k) (mkS m q :: R) = none := by
  unfold takesS isWd mkS symT wordB
  simp
theorem need_mk (m : List Int) (q : Nat) (R : List Sym) : needS (isMk m) (mkS m q :: R) = .yes () R := by
  unfold needS
  rw [takes_mk]

/-- The name of a variable. -/
theorem name_word {v : ByteArray} (h : nameB v = true) (h0 : v.size ≠ 0) : isWordL (bs v) = true ∧ ∀ c ∈ bs v, letterDigit c = true := by
  unfold nameB at h
  rw [Bool.and_eq_true, decide_eq_true_eq] at h
  obtain ⟨h32, hm⟩ := h
  unfold mayS at hm
  rw [if_neg (by decide), if_pos rfl, Bool.and_eq_true] at hm
  have hb := hm.2
  have hl := blank_chars hb
  refine ⟨?_, hl⟩
  have hz := bs_length v
  unfold isBlankB at hb
  simp only [Bool.and_eq_true, decide_eq_true_eq] at hb
  obtain ⟨⟨⟨hb1, hb2⟩, hb3⟩, hb4⟩ := hb
  unfold isWordL
  have hd : digit ((bs v).headD 0) = false := by
    generalize (bs v).headD 0 = c at *
    unfold letter small at hb3
    unfold digit
    simp only [Bool.or_eq_true, Bool.and_eq_true, decide_eq_true_eq] at hb3
    rw [Bool.and_eq_false_iff]
    simp only [decide_eq_false_iff_not]
    omega
  rw [hd, decide_eq_true hb1, decide_eq_true (by omega)]
  rfl

def varS (l : List Int) (p : Nat) : Sym := { symT 5 l with place := p }
theorem slot_toks {s : SlotD} (h : slotB s = true) {c : Int} (hc : Stop c) (r : List Int) (p : Nat) :
    ∃ L, toks (slotL s ++ c :: r) p = (L ++ (toks (c :: r) (p + (slotL s).length)).1, (toks (c :: r) (p + (slotL s).length)).2) ∧ FirstK L ∧ ∀ P R, HeadOK R → slotS P (L ++ R) = .yes s R := by
  obtain ⟨v, a⟩ := s
  unfold slotB at h
  simp only at h
  by_cases h0 : v.size = 0
  · obtain rfl := empty_size h0
    rw [if_pos h0] at h
    have e : slotL (⟨#[]⟩, a) = textL a.1 a.2.1 a.2.2 := by unfold slotL; exact if_pos h0
    rw [e]
    obtain ⟨y, q, hy, hk⟩ := symsOf_first a p
    refine ⟨_, toks_term_s (k := a.1) (t := a.2.1) (x := a.2.2) h hc r p, ⟨y, q, hy, by omega⟩, fun P R hR => ?_⟩
    have hrd := read_term (P := P) h p hR
    have hlen : (symsOf a.1 (bs a.2.1) (bs a.2.2)).length = ((symsOf a.1 (bs a.2.1) (bs a.2.2)).map (shiftS p)).length := (List.length_map _).symm
    rw [hlen] at hrd
    rw [hy] at hrd ⊢
    rw [List.cons_append] at hrd ⊢
    rw [slotS, if_neg (by omega), termS, hrd]
    simp only
    rw [← List.cons_append, List.drop_left]
  · rw [if_neg h0, Bool.and_eq_true, decide_eq_true_eq] at h
    obtain ⟨hn, rfl⟩ := h
    obtain ⟨hw, hl⟩ := name_word hn h0
    have e : slotL (v, zTe) = 63 :: bs v := by unfold slotL; exact if_neg h0
    rw [e]
    have ho := one_var_s hw hl hc r
    refine ⟨[varS (bs v) p], ?_, ⟨_, _, rfl, .inr (.inr (.inr rfl))⟩, fun P R hR => ?_⟩
    · have ed : (63 :: (bs v ++ c :: r)).drop ((bs v).length + 1) = c :: r := by rw [List.drop_succ_cons, List.drop_left]
      rw [List.cons_append, toks_one (by rw [skF, if_neg (by decide), if_neg (by decide)]) (by simp) ho, ed, List.length_cons]
      rfl
    · rw [List.singleton_append, slotS, if_pos (show (varS (bs v) p).kind = 5 from rfl)]
      have es : S (varS (bs v) p).text = v := S_bsB v
      rw [es, if_pos hn]

theorem pat_toks {p : PatD} (h : patB p = true) (r : List Int) (q : Nat) :
    ∃ L q', toks (patL p ++ r) q = (mkS openM q' :: L ++ (toks r (q + (patL p).length)).1, (toks r (q + (patL p).length)).2) ∧ ∀ P R, patS P (mkS openM q' :: L ++ R) = .yes p R := by
  obtain ⟨a, b, c⟩ := p
  unfold patB at h
  simp only [Bool.and_eq_true] at h
  have e : patL (a, b, c) ++ r = 40 :: (slotL a ++ 32 :: (slotL b ++ 32 :: (slotL c ++ 41 :: r))) := by unfold patL; simp
  have el : (patL (a, b, c)).length = 1 + (slotL a).length + 1 + (slotL b).length + 1 + (slotL c).length + 1 := by
    unfold patL
    simp only [List.length_cons, List.length_append, List.length_nil]
    omega
  obtain ⟨LA, a1, a2, a3⟩ := slot_toks h.1.1 stop_32 (slotL b ++ 32 :: (slotL c ++ 41 :: r)) (q + 1)
  obtain ⟨LB, b1, b2, b3⟩ := slot_toks h.1.2 stop_32 (slotL c ++ 41 :: r) (q + 1 + (slotL a).length + 1)
  obtain ⟨LC, c1, c2, c3⟩ := slot_toks h.2 stop_41 r (q + 1 + (slotL a).length + 1 + (slotL b).length + 1)
  refine ⟨LA ++ (LB ++ (LC ++ [mkS closeM (q + 1 + (slotL a).length + 1 + (slotL b).length + 1 + (slotL c).length)])), q, ?_, fun P R => ?_⟩
  · rw [e, toks_open, a1, toks_ws (by decide), b1, toks_ws (by decide), c1, toks_close, el]
    have e9 : q + (1 + (slotL a).length + 1 + (slotL b).length + 1 + (slotL c).length + 1) = q + 1 + (slotL a).length + 1 + (slotL b).length + 1 + (slotL c).length + 1 := by omega
    rw [e9]
    simp
  · unfold patS
    rw [List.cons_append, need_mk]
    simp only [Tk.bind, List.append_assoc, List.singleton_append]
    unfold slots3
    rw [a3 P _ (b2.app _).headOK]
    simp only [Tk.bind]
    rw [b3 P _ (c2.app _).headOK]
    simp only
    rw [c3 P _ (headOK_mk closeM _ (by decide) _)]
    simp only
    rw [need_mk]

theorem lit_toks {l : LitD} (h : litB l = true) {c : Int} (hc : Stop c) (r : List Int) (q : Nat) :
    ∃ L, toks (litL l ++ c :: r) q = (L ++ (toks (c :: r) (q + (litL l).length)).1, (toks (c :: r) (q + (litL l).length)).2) ∧ ∀ P R, HeadOK R → partS P (L ++ R) = .yes l R := by
  obtain ⟨k, p, a, b⟩ := l
  unfold litB at h
  simp only at h
  by_cases h12 : k = 1 ∨ k = 2
  · rw [if_pos h12] at h
    simp only [Bool.and_eq_true, decide_eq_true_eq] at h
    obtain ⟨⟨hp, rfl⟩, rfl⟩ := h
    rcases h12 with rfl | rfl
    · have e : litL (1, p, zSl, zSl) = patL p := by unfold litL; exact if_pos rfl
      rw [e]
      obtain ⟨L, q', h1, h2⟩ := pat_toks hp (c :: r) q
      refine ⟨mkS openM q' :: L, h1, fun P R hR => ?_⟩
      unfold partS
      rw [List.cons_append, takes_mk_wd]
      simp only
      rw [takes_mk]
      simp only
      rw [← List.cons_append, h2]
      rfl
    · have e : litL (2, p, zSl, zSl) = notL ++ patL p := by unfold litL; rw [if_neg (show ¬ (2 : Int) = 1 by decide)]; exact if_pos rfl
      have e2 : notL ++ patL p ++ c :: r = 110 :: 111 :: 116 :: 32 :: (patL p ++ c :: r) := by unfold notL; simp
      obtain ⟨L, q', h1, h2⟩ := pat_toks hp (c :: r) (q + 4)
      refine ⟨{ symT 6 notW with place := q } :: (mkS openM q' :: L), ?_, fun P R hR => ?_⟩
      · rw [e, e2, toks_not, h1, List.length_append]
        show _ = (_, (toks (c :: r) (q + (4 + (patL p).length))).2)
        rw [Nat.add_assoc]
        rfl
      · unfold partS
        have ht : takesS (isWd notW) ({ symT 6 notW with place := q } :: (mkS openM q' :: L) ++ R) = some (mkS openM q' :: L ++ R) := rfl
        rw [ht]
        simp only
        rw [h2]
        rfl
  · rw [if_neg h12] at h
    by_cases h34 : k = 3 ∨ k = 4
    · rw [if_pos h34] at h
      simp only [Bool.and_eq_true, decide_eq_true_eq] at h
      obtain ⟨⟨ha, hb⟩, rfl⟩ := h
      have e : litL (k, zPa, a, b) = slotL a ++ (condL k ++ slotL b) := by unfold litL; rw [if_neg (by omega), if_neg (by omega)]
      rw [e]
      rcases h34 with rfl | rfl
      · have ec : condL 3 = [32, 61, 32] := rfl
        have e2 : slotL a ++ (condL 3 ++ slotL b) ++ c :: r = slotL a ++ 32 :: (61 :: 32 :: (slotL b ++ c :: r)) := by rw [ec]; simp
        obtain ⟨LA, a1, a2, a3⟩ := slot_toks ha stop_32 (61 :: 32 :: (slotL b ++ c :: r)) q
        obtain ⟨LB, b1, b2, b3⟩ := slot_toks hb hc r (q + (slotL a).length + 1 + 1 + 1)
        refine ⟨LA ++ (mkS sameM (q + (slotL a).length + 1) :: LB), ?_, fun P R hR => ?_⟩
        · rw [e2, a1, toks_ws (by decide), toks_same, toks_ws (by decide), b1, ec]
          have e9 : q + (slotL a ++ ([32, 61, 32] ++ slotL b)).length = q + (slotL a).length + 1 + 1 + 1 + (slotL b).length := by
            simp only [List.length_append, List.length_cons, List.length_nil]
            omega
          rw [e9]
          simp
        · unfold partS
          have hf := (a2.app (mkS sameM (q + (slotL a).length + 1) :: LB)).app R
          rw [hf.notWd, ]
          simp only
          rw [hf.notMk]
          simp only
          unfold condS
          rw [List.append_assoc, a3 P _ (by rw [List.cons_append]; exact headOK_mk sameM _ (by decide) _)]
          simp only [Tk.bind, List.cons_append]
          rw [takes_mk]
          simp only
          rw [b3 P R hR]
      · have ec : condL 4 = [32, 33, 61, 32] := rfl
        have e2 : slotL a ++ (condL 4 ++ slotL b) ++ c :: r = slotL a ++ 32 :: (33 :: 61 :: 32 :: (slotL b ++ c :: r)) := by rw [ec]; simp
        obtain ⟨LA, a1, a2, a3⟩ := slot_toks ha stop_32 (33 :: 61 :: 32 :: (slotL b ++ c :: r)) q
        obtain ⟨LB, b1, b2, b3⟩ := slot_toks hb hc r (q + (slotL a).length + 1 + 2 + 1)
        refine ⟨LA ++ (mkS unlikeM (q + (slotL a).length + 1) :: LB), ?_, fun P R hR => ?_⟩
        · rw [e2, a1, toks_ws (by decide), toks_unlike, toks_ws (by decide), b1, ec]
          have e9 : q + (slotL a ++ ([32, 33, 61, 32] ++ slotL b)).length = q + (slotL a).length + 1 + 2 + 1 + (slotL b).length := by
            simp only [List.length_append, List.length_cons, List.length_nil]
            omega
          rw [e9]
          simp
        · unfold partS
          have hf := (a2.app (mkS unlikeM (q + (slotL a).length + 1) :: LB)).app R
          rw [hf.notWd, ]
          simp only
          rw [hf.notMk]
          simp only
          unfold condS
          rw [List.append_assoc, a3 P _ (by rw [List.cons_append]; exact headOK_mk unlikeM _ (by decide) _)]
          simp only [Tk.bind, List.cons_append]
          rw [takes_mk_ne _ (by decide)]
          simp only
          rw [need_mk]
          simp only
          rw [b3 P R hR]
    · rw [if_neg h34] at h
      cases h

/-- What stands behind a part: no comma, nothing that goes with a string. -/
def Behind (R : List Sym) : Prop := HeadOK R ∧ takesS (isMk commaM) R = none
theorem more_toks : ∀ {ls : List LitD}, (∀ l ∈ ls, litB l = true) → ∀ {c : Int}, Stop c → ∀ (r : List Int) (q : Nat),
    ∃ L, toks (tailL ls ++ c :: r) q = (L ++ (toks (c :: r) (q + (tailL ls).length)).1, (toks (c :: r) (q + (tailL ls).length)).2) ∧ (∀ R, HeadOK R → HeadOK (L ++ R)) ∧ ∀ P R, Behind R → moreS P (L ++ R) = .yes ls R
  | [], _, c, hc, r, q => ⟨[], by simp [tailL], fun R h => h, fun P R hR => by rw [List.nil_append, moreS_eq, hR.2]⟩
  | l :: ls, h, c, hc, r, q => by
    have e : tailL (l :: ls) ++ c :: r = 44 :: 32 :: (litL l ++ (tailL ls ++ c :: r)) := by rw [tailL]; simp
    have el : (tailL (l :: ls)).length = 1 + 1 + (litL l).length + (tailL ls).length := by
      rw [tailL]
      simp only [List.length_cons, List.length_append]
      omega
    obtain ⟨LM, m1, m2, m3⟩ := more_toks (ls := ls) (fun x hx => h x (by simp [hx])) hc r (q + 1 + 1 + (litL l).length)
    have hst : ∃ c' r', tailL ls ++ c :: r = c' :: r' ∧ Stop c' := by
      cases ls with
      | nil => exact ⟨c, r, rfl, hc⟩
      | cons x xs => exact ⟨44, _, rfl, stop_44⟩
    obtain ⟨c', r', hst, hc'⟩ := hst
    rw [hst] at m1 e
    obtain ⟨LL, l1, l3⟩ := lit_toks (h l (by simp)) hc' r' (q + 1 + 1)
    refine ⟨mkS commaM q :: (LL ++ LM), ?_, fun R hR => by rw [List.cons_append]; exact headOK_mk commaM q (by decide) _, fun P R hR => ?_⟩
    · rw [e, toks_comma, toks_ws (by decide), l1, m1, el]
      have e9 : q + (1 + 1 + (litL l).length + (tailL ls).length) = q + 1 + 1 + (litL l).length + (tailL ls).length := by omega
      rw [e9]
      simp
    · rw [moreS_eq, List.cons_append, takes_mk]
      simp only
      rw [List.append_assoc, l3 P _ (m2 R hR.1)]
      simp only [Tk.bind]
      rw [m3 P R hR]
theorem body_toks {ls : List LitD} (hne : ls ≠ []) (h : ∀ l ∈ ls, litB l = true) {c : Int} (hc : Stop c) (r : List Int) (q : Nat) :
    ∃ L, toks (bodyL ls ++ c :: r) q = (L ++ (toks (c :: r) (q + (bodyL ls).length)).1, (toks (c :: r) (q + (bodyL ls).length)).2) ∧ ∀ P R, Behind R → bodyS P (L ++ R) = .yes ls R := by
  cases ls with
  | nil => exact absurd rfl hne
  | cons l ls =>
    have e : bodyL (l :: ls) ++ c :: r = litL l ++ (tailL ls ++ c :: r) := by rw [bodyL]; simp
    have el : (bodyL (l :: ls)).length = (litL l).length + (tailL ls).length := by
      rw [bodyL]
      simp only [List.length_append]
    obtain ⟨LM, m1, m2, m3⟩ := more_toks (ls := ls) (fun x hx => h x (by simp [hx])) hc r (q + (litL l).length)
    have hst : ∃ c' r', tailL ls ++ c :: r = c' :: r' ∧ Stop c' := by
      cases ls with
      | nil => exact ⟨c, r, rfl, hc⟩
      | cons x xs => exact ⟨44, _, rfl, stop_44⟩
    obtain ⟨c', r', hst, hc'⟩ := hst
    rw [hst] at m1 e
    obtain ⟨LL, l1, l3⟩ := lit_toks (h l (by simp)) hc' r' q
    refine ⟨LL ++ LM, ?_, fun P R hR => ?_⟩
    · rw [e, l1, m1, el]
      have e9 : q + ((litL l).length + (tailL ls).length) = q + (litL l).length + (tailL ls).length := by omega
      rw [e9]
      simp
    · rw [bodyS_eq, List.append_assoc, l3 P _ (m2 R hR.1)]
      simp only [Tk.bind]
      rw [m3 P R hR]
theorem behind_end (q : Nat) (R : List Sym) : Behind (mkS endM q :: R) := ⟨headOK_mk endM q (by decide) R, takes_mk_ne q (by decide) R⟩

/-- A rule's text, but for its byte 10: its symbols, and what comes behind. -/
theorem rule_toks {x : RuleD} (h : ruleB x = true) (r : List Int) (q : Nat) :
    ∃ L q', toks (ruleL x ++ r) q = (mkS openM q' :: L ++ (toks r (q + (ruleL x).length)).1, (toks r (q + (ruleL x).length)).2) ∧ ∀ P R, ruleS P (mkS openM q' :: L ++ R) = .yes x R := by
  obtain ⟨p, ls⟩ := x
  obtain ⟨h64, hls, hp⟩ := rule_parts h
  by_cases hne : ls = []
  · subst hne
    have e : ruleL (p, []) ++ r = patL p ++ 32 :: (46 :: r) := by unfold ruleL; simp
    have el : (ruleL (p, [])).length = (patL p).length + 1 + 1 := by unfold ruleL; simp
    obtain ⟨L, q', h1, h2⟩ := pat_toks hp (32 :: (46 :: r)) q
    refine ⟨L ++ [mkS endM (q + (patL p).length + 1)], q', ?_, fun P R => ?_⟩
    · rw [e, h1, toks_ws (by decide), toks_dot, el]
      have e9 : q + ((patL p).length + 1 + 1) = q + (patL p).length + 1 + 1 := by omega
      rw [e9]
      simp
    · unfold ruleS
      have e9 : mkS openM q' :: (L ++ [mkS endM (q + (patL p).length + 1)]) ++ R = mkS openM q' :: L ++ (mkS endM (q + (patL p).length + 1) :: R) := by simp
      rw [e9, h2]
      simp only [Tk.bind]
      unfold optS
      rw [takes_mk_ne _ (by decide)]
      simp only
      rw [need_mk]
      simp only
      rw [if_pos h]
  · have e : ruleL (p, ls) ++ r = patL p ++ 32 :: (58 :: 45 :: 32 :: (bodyL ls ++ 32 :: (46 :: r))) := by
      unfold ruleL
      simp only
      rw [if_neg hne]
      simp
    have el : (ruleL (p, ls)).length = (patL p).length + 1 + 2 + 1 + (bodyL ls).length + 1 + 1 := by
      unfold ruleL
      simp only
      rw [if_neg hne]
      simp only [List.length_append, List.length_cons, List.length_nil]
      omega
    obtain ⟨L, q', h1, h2⟩ := pat_toks hp (32 :: (58 :: 45 :: 32 :: (bodyL ls ++ 32 :: (46 :: r)))) q
    obtain ⟨LB, b1, b2⟩ := body_toks hne hls stop_32 (46 :: r) (q + (patL p).length + 1 + 2 + 1)
    refine ⟨L ++ (mkS arrowM (q + (patL p).length + 1) :: (LB ++ [mkS endM (q + (patL p).length + 1 + 2 + 1 + (bodyL ls).length + 1)])), q', ?_, fun P R => ?_⟩
    · rw [e, h1, toks_ws (by decide), toks_arrow, toks_ws (by decide), b1, toks_ws (by decide), toks_dot, el]
      have e9 : q + ((patL p).length + 1 + 2 + 1 + (bodyL ls).length + 1 + 1) = q + (patL p).length + 1 + 2 + 1 + (bodyL ls).length + 1 + 1 := by omega
      rw [e9]
      simp
    · unfold ruleS
      have e9 : mkS openM q' :: (L ++ (mkS arrowM (q + (patL p).length + 1) :: (LB ++ [mkS endM (q + (patL p).length + 1 + 2 + 1 + (bodyL ls).length + 1)]))) ++ R = mkS openM q' :: L ++ (mkS arrowM (q + (patL p).length + 1) :: (LB ++ (mkS endM (q + (patL p).length + 1 + 2 + 1 + (bodyL ls).length + 1) :: R))) := by simp
      rw [e9, h2]
      simp only [Tk.bind]
      unfold optS
      rw [takes_mk]
      simp only
      rw [b2 P _ (behind_end _ _)]
      simp only
      rw [need_mk]
      simp only
      rw [if_pos h]

/-- All the rules' symbols. -/
theorem rules_toks : ∀ (rs : List RuleD) (q : Nat) (t : List Int), rs.all ruleB = true →
    ∃ L, toks (rulesL rs ++ t) q = (L ++ (toks t (q + (rulesL rs).length)).1, (toks t (q + (rulesL rs).length)).2) ∧ ∀ P R, progS P (L ++ R) = (progS P R).put rs
  | [], q, t, _ => ⟨[], by simp [rulesL], fun P R => by rw [List.nil_append, ProgR.put_nil]⟩
  | x :: rs, q, t, h => by
    rw [List.all_cons, Bool.and_eq_true] at h
    have e : rulesL (x :: rs) ++ t = ruleL x ++ 10 :: (rulesL rs ++ t) := by
      show ((ruleL x ++ [10]) ++ rulesL rs) ++ t = _
      simp
    have el : (rulesL (x :: rs)).length = (ruleL x).length + 1 + (rulesL rs).length := by
      show ((ruleL x ++ [10]) ++ rulesL rs).length = _
      rw [List.length_append, List.length_append]
      rfl
    obtain ⟨L, q', h1, h2⟩ := rule_toks h.1 (10 :: (rulesL rs ++ t)) q
    obtain ⟨M, m1, m2⟩ := rules_toks rs (q + (ruleL x).length + 1) t h.2
    refine ⟨mkS openM q' :: L ++ M, ?_, fun P R => ?_⟩
    · rw [e, h1, toks_ws (by decide), m1, el]
      have e9 : q + ((ruleL x).length + 1 + (rulesL rs).length) = q + (ruleL x).length + 1 + (rulesL rs).length := by omega
      rw [e9]
      simp
    · rw [List.append_assoc, progS_cons P _ (by simp)]
      rw [List.cons_append, takes_mk_wd]
      simp only
      rw [← List.cons_append, h2]
      simp only
      rw [m2, ProgR.put_put]
      rfl

/-- Bytes that are runes'. -/
def EncL (l : List Int) : Prop := ∃ rs, AllMay rs ∧ l = encs rs
theorem EncL.app {a b : List Int} (ha : EncL a) (hb : EncL b) : EncL (a ++ b) := by
  obtain ⟨x, hx, rfl⟩ := ha
  obtain ⟨y, hy, rfl⟩ := hb
  exact ⟨x ++ y, hx.append hy, (encs_append x y).symm⟩
theorem EncL.of {a : List Int} (h : valid a = true) (hl : a.length ≤ 1000000000000) : EncL a := (valid_iff hl).1 h
theorem EncL.ascii {a : List Int} (h : ∀ c ∈ a, 0 ≤ c ∧ c ≤ 127) (hl : a.length ≤ 1000) : EncL a := .of (valid_ascii (by omega) h) (by omega)
theorem slot_enc {s : SlotD} (h : slotB s = true) : EncL (slotL s) := by
  obtain ⟨v, a⟩ := s
  unfold slotB at h
  unfold slotL
  simp only at h ⊢
  split at h
  · rw [if_pos (by assumption)]
    obtain ⟨v1, l1⟩ := text_valid (k := a.1) (t := a.2.1) (x := a.2.2) h
    exact .of v1 (by omega)
  · rename_i h0
    rw [if_neg h0]
    rw [Bool.and_eq_true, decide_eq_true_eq] at h
    obtain ⟨hn, rfl⟩ := h
    obtain ⟨hw, hl⟩ := name_word hn h0
    have hz : v.size ≤ 32 := by
      unfold nameB at hn
      rw [Bool.and_eq_true, decide_eq_true_eq] at hn
      exact hn.1
    refine .ascii (fun c hc => ?_) (by rw [List.length_cons, bs_length]; omega)
    rcases List.mem_cons.1 hc with rfl | hc
    · exact ⟨by decide, by decide⟩
    · have := hl c hc
      unfold letterDigit letter small digit at this
      simp only [Bool.or_eq_true, Bool.and_eq_true, decide_eq_true_eq] at this
      omega
theorem pat_enc {p : PatD} (h : patB p = true) : EncL (patL p) := by
  unfold patB at h
  simp only [Bool.and_eq_true] at h
  have e : patL p = [40] ++ (slotL p.1 ++ ([32] ++ (slotL p.2.1 ++ ([32] ++ (slotL p.2.2 ++ [41]))))) := by unfold patL; simp
  rw [e]
  have a1 : ∀ c : Int, 0 ≤ c ∧ c ≤ 127 → EncL [c] := fun c hc => .ascii (fun x hx => by rw [List.mem_singleton.1 hx]; exact hc) (by simp)
  exact (a1 40 (by decide)).app ((slot_enc h.1.1).app ((a1 32 (by decide)).app ((slot_enc h.1.2).app ((a1 32 (by decide)).app ((slot_enc h.2).app (a1 41 (by decide)))))))
theorem lit_enc {l : LitD} (h : litB l = true) : EncL (litL l) := by
  have a1 : ∀ m : List Int, (m.all fun c => decide (0 ≤ c) && decide (c ≤ 127)) = true → m.length ≤ 1000 → EncL m := fun m hm hl => .ascii (fun x hx => by
    have := List.all_eq_true.1 hm x hx
    simpa using this) hl
  unfold litB at h
  unfold litL
  split at h
  · simp only [Bool.and_eq_true] at h
    split
    · exact pat_enc h.1.1
    · split
      · exact (a1 notL (by decide) (by decide)).app (pat_enc h.1.1)
      · rename_i h1 h2 h3; omega
  · split at h
    · simp only [Bool.and_eq_true] at h
      split
      · rename_i a b; omega
      · split
        · rename_i a b; omega
        · refine (slot_enc h.1.1).app (.app ?_ (slot_enc h.1.2))
          unfold condL
          split
          · exact a1 _ (by decide) (by decide)
          · exact a1 _ (by decide) (by decide)
    · cases h
theorem tail_enc : ∀ {ls : List LitD}, (∀ l ∈ ls, litB l = true) → EncL (tailL ls)
  | [], _ => ⟨[], by simp [AllMay], by simp [tailL, encs]⟩
  | l :: ls, h => by
    have e : tailL (l :: ls) = [44, 32] ++ (litL l ++ tailL ls) := by rw [tailL]; rfl
    rw [e]
    exact (EncL.ascii (by decide) (by decide)).app ((lit_enc (h l (by simp))).app (tail_enc fun x hx => h x (by simp [hx])))
theorem rule_enc {x : RuleD} (h : ruleB x = true) : EncL (ruleL x) := by
  obtain ⟨p, ls⟩ := x
  obtain ⟨h64, hls, hp⟩ := rule_parts h
  unfold ruleL
  refine (pat_enc hp).app (.app ?_ (EncL.ascii (by decide) (by decide)))
  split
  · exact ⟨[], by simp [AllMay], by simp [encs]⟩
  · refine (EncL.ascii (by decide) (by decide)).app ?_
    cases ls with
    | nil => exact ⟨[], by simp [AllMay], by simp [bodyL, encs]⟩
    | cons l ls => exact (lit_enc (hls l (by simp))).app (tail_enc fun x hx => hls x (by simp [hx]))
theorem rules_enc : ∀ {rs : List RuleD}, rs.all ruleB = true → EncL (rulesL rs)
  | [], _ => ⟨[], by simp [AllMay], by simp [rulesL, encs]⟩
  | x :: rs, h => by
    rw [List.all_cons, Bool.and_eq_true] at h
    have e : rulesL (x :: rs) = (ruleL x ++ [10]) ++ rulesL rs := rfl
    rw [e]
    exact ((rule_enc h.1).app (EncL.ascii (by decide) (by decide))).app (rules_enc h.2)
theorem rules_byte (rs : List RuleD) : AllB (rulesL rs) := by
  intro c hc
  obtain ⟨t, _, ht⟩ := List.mem_flatMap.1 hc
  rcases List.mem_append.1 ht with h | h
  · exact ruleL_byte _ c h
  · rw [List.mem_singleton.1 h]; exact ⟨by decide, by decide⟩

/-- The text of rules is a program of them. -/
theorem src_text {rs : List RuleD} (h : rs.all ruleB = true) (hl : (rulesL rs).length ≤ 1048576) : srcS (strOfNums (rulesL rs)) = .good rs := by
  have hb : bs (strOfNums (rulesL rs)) = rulesL rs := bs_strOfNums (rules_byte rs)
  have hz : (strOfNums (rulesL rs)).size = (rulesL rs).length := strOfNums_size _
  obtain ⟨L, h1, h2⟩ := rules_toks rs 0 [] h
  rw [List.append_nil, toks_nil] at h1
  have ha : allL (rulesL rs) = (L, (rulesL rs).length) := by
    unfold allL
    rw [h1]
    simp
  have hw := wf_of_valid ((valid_iff (by omega)).2 (rules_enc h))
  unfold srcS
  rw [hz, hb, if_neg (by omega), hw, if_neg (by omega), ha]
  simp only
  rw [if_neg (by omega)]
  have := h2 noPre []
  rw [List.append_nil, progS_nil] at this
  rw [this]
  simp [srcOf, ProgR.put]
/-- Unlike rules have unlike texts. -/
theorem ruleL_inj {a b : RuleD} (ha : ruleB a = true) (hb : ruleB b = true) (h : ruleL a = ruleL b) : a = b := by
  obtain ⟨L, q, h1, h2⟩ := rule_toks ha [] 0
  obtain ⟨M, q', m1, m2⟩ := rule_toks hb [] 0
  rw [h] at h1
  rw [h1, toks_nil] at m1
  simp only [List.append_nil, Prod.mk.injEq] at m1
  have e1 := h2 noPre []
  have e2 := m2 noPre []
  simp only [List.append_nil] at e1 e2
  rw [m1.1, e2] at e1
  simp only [Tk.yes.injEq, and_true] at e1
  exact e1.symm
end Go.Proofs.YtcikjgeanjnffaaGreatDoor

/-
  PLAIN MATHEMATICS: a program behind the text of rules.
-/

namespace Go.Proofs.YtcikjgeanjnffaaGreatDoor
open Go.RowKit
open Utf Term Lex
set_option linter.unusedVariables false
set_option linter.unusedSimpArgs false

theorem whole_shiftP (P : ByteArray → Option ByteArray) (d : Nat) (L : List Sym) : wholeS P (L.map (shiftS d)) = wholeS P L := by
  match L with
  | [] => rfl
  | [x] => rfl
  | [x, y] => rfl
  | [x, y, z] => rfl
  | _ :: _ :: _ :: _ :: _ => rfl
theorem try_shiftP (P : ByteArray → Option ByteArray) (d : Nat) (L : List Sym) (n : Nat) : tryS P (L.map (shiftS d)) n = tryS P L n := by
  unfold tryS
  rw [List.length_map, ← List.map_take, whole_shiftP]
theorem read_shiftP (P : ByteArray → Option ByteArray) (d : Nat) (L : List Sym) : readS P (L.map (shiftS d)) = readS P L := by
  unfold readS
  rw [try_shiftP, try_shiftP, try_shiftP]
def Tk.shift {α : Type} (d : Nat) : Tk α → Tk α
  | .no l => .no (l.map (shiftS d))
  | .yes a l => .yes a (l.map (shiftS d))
theorem Tk.bind_shift {α β : Type} {r : Tk α} {d : Nat} {f g : α → List Sym → Tk β} (h : ∀ a l, g a (l.map (shiftS d)) = (f a l).shift d) : (r.shift d).bind g = (r.bind f).shift d := by
  cases r with
  | no l => rfl
  | yes a l => exact h a l
theorem takes_shift {p : Sym → Bool} {d : Nat} (hp : ∀ x, p (shiftS d x) = p x) (L : List Sym) : takesS p (L.map (shiftS d)) = (takesS p L).map (·.map (shiftS d)) := by
  cases L with
  | nil => rfl
  | cons x r =>
    rw [List.map_cons, takesS, takesS, hp x]
    split <;> rfl
theorem need_shift {p : Sym → Bool} {d : Nat} (hp : ∀ x, p (shiftS d x) = p x) (L : List Sym) : needS p (L.map (shiftS d)) = (needS p L).shift d := by
  unfold needS
  rw [takes_shift hp]
  cases takesS p L <;> rfl
theorem term_shift (P : ByteArray → Option ByteArray) (d : Nat) (L : List Sym) : termS P (L.map (shiftS d)) = (termS P L).shift d := by
  unfold termS
  rw [read_shiftP]
  cases readS P L with
  | none => rfl
  | some q =>
    obtain ⟨t, n⟩ := q
    simp only [Tk.shift, List.map_drop]
theorem slot_shift (P : ByteArray → Option ByteArray) (d : Nat) (L : List Sym) : slotS P (L.map (shiftS d)) = (slotS P L).shift d := by
  cases L with
  | nil => rfl
  | cons x r =>
    have ht := term_shift P d (x :: r)
    rw [List.map_cons] at ht ⊢
    rw [slotS, slotS, ht]
    show (if x.kind = 5 then (if nameB (S x.text) = true then Tk.yes (S x.text, zTe) (r.map (shiftS d)) else Tk.no (shiftS d x :: r.map (shiftS d))) else _) = _
    split
    · split <;> rfl
    · rfl
theorem slots3_shift (P : ByteArray → Option ByteArray) (d : Nat) (L : List Sym) : slots3 P (L.map (shiftS d)) = (slots3 P L).shift d := by
  unfold slots3
  rw [slot_shift]
  refine Tk.bind_shift fun a l => ?_
  rw [slot_shift]
  refine Tk.bind_shift fun b m => ?_
  rw [slot_shift]
  exact Tk.bind_shift fun c k => rfl
theorem pat_shift (P : ByteArray → Option ByteArray) (d : Nat) (L : List Sym) : patS P (L.map (shiftS d)) = (patS P L).shift d := by
  unfold patS
  rw [need_shift (fun _ => rfl)]
  refine Tk.bind_shift fun a l => ?_
  rw [slots3_shift]
  refine Tk.bind_shift fun b m => ?_
  rw [need_shift (fun _ => rfl)]
  exact Tk.bind_shift fun c k => rfl
theorem cond_shift (P : ByteArray → Option ByteArray) (d : Nat) (L : List Sym) : condS P (L.map (shiftS d)) = (condS P L).shift d := by
  unfold condS
  rw [slot_shift]
  refine Tk.bind_shift fun a l => ?_
  rw [takes_shift (fun _ => rfl)]
  cases takesS (isMk sameM) l with
  | some m =>
    simp only [Option.map_some]
    rw [slot_shift]
    exact Tk.bind_shift fun c k => rfl
  | none =>
    simp only [Option.map_none]
    rw [need_shift (fun _ => rfl)]
    refine Tk.bind_shift fun b m => ?_
    rw [slot_shift]
    exact Tk.bind_shift fun c k => rfl
theorem part_shift (P : ByteArray → Option ByteArray) (d : Nat) (L : List Sym) : partS P (L.map (shiftS d)) = (partS P L).shift d := by
  unfold partS
  rw [takes_shift (fun _ => rfl)]
  cases takesS (isWd notW) L with
  | some m =>
    simp only [Option.map_some]
    rw [pat_shift]
    exact Tk.bind_shift fun c k => rfl
  | none =>
    simp only [Option.map_none]
    rw [takes_shift (fun _ => rfl)]
    cases takesS (isMk openM) L with
    | some m =>
      simp only [Option.map_some]
      rw [pat_shift]
      exact Tk.bind_shift fun c k => rfl
    | none =>
      simp only [Option.map_none]
      exact cond_shift P d L
theorem more_shift (P : ByteArray → Option ByteArray) (d : Nat) : ∀ (f : Nat) (L : List Sym), moreF P f (L.map (shiftS d)) = (moreF P f L).shift d
  | 0, L => rfl
  | f + 1, L => by
    rw [moreF, moreF, takes_shift (fun _ => rfl)]
    cases takesS (isMk commaM) L with
    | none => rfl
    | some m =>
      simp only [Option.map_some]
      rw [part_shift]
      refine Tk.bind_shift fun a l => ?_
      rw [more_shift P d f]
      exact Tk.bind_shift fun c k => rfl
theorem body_shift (P : ByteArray → Option ByteArray) (d : Nat) (L : List Sym) : bodyS P (L.map (shiftS d)) = (bodyS P L).shift d := by
  unfold bodyS
  rw [part_shift]
  refine Tk.bind_shift fun a l => ?_
  rw [List.length_map, more_shift]
  exact Tk.bind_shift fun c k => rfl
theorem opt_shift (P : ByteArray → Option ByteArray) (d : Nat) (L : List Sym) : optS P (L.map (shiftS d)) = (optS P L).shift d := by
  unfold optS
  rw [takes_shift (fun _ => rfl)]
  cases takesS (isMk arrowM) L with
  | none => rfl
  | some m =>
    simp only [Option.map_some]
    exact body_shift P d m
theorem rule_shift (P : ByteArray → Option ByteArray) (d : Nat) (L : List Sym) : ruleS P (L.map (shiftS d)) = (ruleS P L).shift d := by
  unfold ruleS
  rw [pat_shift]
  refine Tk.bind_shift fun a l => ?_
  rw [opt_shift]
  refine Tk.bind_shift fun b m => ?_
  rw [need_shift (fun _ => rfl)]
  refine Tk.bind_shift fun c k => ?_
  split <;> rfl
theorem ir_shift (d : Nat) (L : List Sym) : irS (L.map (shiftS d)) = (irS L).shift d := by
  cases L with
  | nil => rfl
  | cons y r =>
    rw [List.map_cons, irS, irS]
    show (if y.kind = 1 then (needS (isMk endM) (r.map (shiftS d))).bind fun _ L => Tk.yes (S y.tt) L else Tk.no (shiftS d y :: r.map (shiftS d))) = _
    split
    · rw [need_shift (fun _ => rfl)]
      exact Tk.bind_shift fun c k => rfl
    · rfl
theorem pref_shift (d : Nat) (L : List Sym) : prefS (L.map (shiftS d)) = (prefS L).shift d := by
  cases L with
  | nil => rfl
  | cons x r =>
    rw [List.map_cons, prefS, prefS]
    show (if x.kind = 7 ∧ endsC x.text = true then (irS (r.map (shiftS d))).bind fun b L => Tk.yes (S x.text.dropLast, b) L else Tk.no (shiftS d x :: r.map (shiftS d))) = _
    split
    · rw [ir_shift]
      exact Tk.bind_shift fun c k => rfl
    · rfl
def ProgR.shift (d : Nat) : ProgR → ProgR
  | .no l => .no (l.map (shiftS d))
  | .yes rs => .yes rs
theorem prog_shift (d : Nat) : ∀ (f : Nat) (P : ByteArray → Option ByteArray) (L : List Sym), progF f P (L.map (shiftS d)) = (progF f P L).shift d
  | f, P, [] => by cases f <;> rfl
  | 0, P, x :: L => rfl
  | f + 1, P, x :: L => by
    have h1 := takes_shift (p := isWd prefixW) (d := d) (fun _ => rfl) (x :: L)
    have h2 := rule_shift P d (x :: L)
    rw [List.map_cons] at h1 h2 ⊢
    rw [progF, progF, h1, h2]
    cases takesS (isWd prefixW) (x :: L) with
    | some m =>
      simp only [Option.map_some]
      rw [pref_shift]
      cases prefS m with
      | no l => rfl
      | yes q l =>
        obtain ⟨w, b⟩ := q
        exact prog_shift d f _ l
    | none =>
      simp only [Option.map_none]
      cases ruleS P (x :: L) with
      | no l => rfl
      | yes r l =>
        simp only [Tk.shift]
        rw [prog_shift d f P l]
        cases progF f P l <;> rfl
theorem progS_shift (d : Nat) (P : ByteArray → Option ByteArray) (L : List Sym) : progS P (L.map (shiftS d)) = (progS P L).shift d := by
  unfold progS
  rw [List.length_map, prog_shift]

theorem good_inv {s : ByteArray} {rs : List RuleD} (h : srcS s = .good rs) : s.size ≤ 1048576 ∧ ¬ wfL (bs s) < s.size ∧ ¬ (allL (bs s)).2 < s.size ∧ progS noPre (allL (bs s)).1 = .yes rs := by
  unfold srcS at h
  split at h
  · cases h
  · split at h
    · cases h
    · split at h
      · cases h
      · rename_i h1 h2 h3
        refine ⟨by omega, h2, h3, ?_⟩
        cases hp : progS noPre (allL (bs s)).1 with
        | no l => rw [hp] at h; cases h
        | yes us => rw [hp] at h; simp only [srcOf, SrcR.good.injEq] at h; rw [h]
/-- A program behind the text of rules: of both. -/
theorem src_joined {x w : List RuleD} {b : ByteArray} (hx : x.all ruleB = true) (hl : (rulesL x).length + b.size ≤ 1048576) (hb3 : b.size ≤ 100000) (h : srcS b = .good w) : srcS (strOfNums (rulesL x) ++ b) = .good (x ++ w) := by
  obtain ⟨_, hw, hA, hp⟩ := good_inv h
  have lb := bs_length b
  have hb : bs (strOfNums (rulesL x) ++ b) = rulesL x ++ bs b := by rw [bs_app, bs_strOfNums (rules_byte x)]
  have hz : (strOfNums (rulesL x) ++ b).size = (rulesL x).length + b.size := by rw [← bs_length, hb, List.length_append, lb]
  obtain ⟨L, h1, h2⟩ := rules_toks x 0 (bs b) hx
  have pa := (toks_place _ (bs b) 0 (Nat.le_refl _)).2.2
  have ea : (allL (bs b)).2 = b.size := by
    change ¬ (toks (bs b) 0).2 < _ at hA
    show (toks (bs b) 0).2 = _
    omega
  have hs := toks_shift (bs b).length (bs b) 0 (rulesL x).length (Nat.le_refl _)
  rw [hs] at h1
  have ha : allL (rulesL x ++ bs b) = (L ++ (allL (bs b)).1.map (shiftS (rulesL x).length), b.size + (rulesL x).length) := by
    unfold allL at ea ⊢
    rw [h1, ea]
  have hv : valid (bs b) = true := valid_of_wf (by omega) (by omega)
  have he : EncL (rulesL x ++ bs b) := (rules_enc hx).app (.of hv (by omega))
  have hwf := wf_of_valid ((valid_iff (by rw [List.length_append]; omega)).2 he)
  unfold srcS
  rw [hz, hb, if_neg (by omega), hwf, List.length_append, if_neg (by omega), ha]
  simp only
  rw [if_neg (by omega), h2, progS_shift, hp]
  rfl
end Go.Proofs.YtcikjgeanjnffaaGreatDoor

