/-
  WHAT THE PROOF STANDS ON, a part of it: CkMath.
-/
import Derived.Test.YtlkiigoblkfkpaaGreatDoorC22
import Derived.Test.YtlkiigoblkfkpaaGreatDoorC2
/-
  CHECK, in plain mathematics: how rules stand, their slots' places, which are safe, which programs may be.
-/

namespace Go.Proofs.YtlkiigoblkfkpaaGreatDoor
open Utf Term
set_option linter.unusedVariables false

/-- Lists by their elements, the shorter one first. -/
def cmpLs {α : Type} (f : α → α → Int) : List α → List α → Int
  | [], [] => 0
  | [], _ :: _ => -1
  | _ :: _, [] => 1
  | a :: az, b :: bz => if f a b = 0 then cmpLs f az bz else f a b
theorem ord_list {α : Type} {f : α → α → Int} (h : Term.Ord f) : Term.Ord (cmpLs f) where
  anti := by
    intro x
    induction x with
    | nil => intro y; cases y <;> rfl
    | cons a az ih =>
      intro y
      cases y with
      | nil => rfl
      | cons b bz =>
        rw [cmpLs, cmpLs, ih]
        have := h.anti a b
        by_cases e : f a b = 0
        · rw [if_pos e, if_pos (by omega)]
        · rw [if_neg e, if_neg (by omega), this]
  zero := by
    intro x
    induction x with
    | nil => intro y; cases y <;> simp [cmpLs]
    | cons a az ih =>
      intro y
      cases y with
      | nil => simp [cmpLs]
      | cons b bz =>
        rw [cmpLs]
        by_cases e : f a b = 0
        · rw [if_pos e, ih, h.of_eq e]
          simp
        · rw [if_neg e]
          constructor
          · intro h; exact absurd h e
          · intro h2
            have := (List.cons.inj h2).1
            rw [this, h.refl] at e
            exact absurd rfl e
  trans := by
    intro x
    induction x with
    | nil =>
      intro y z _ _
      cases z <;> simp [cmpLs]
    | cons a az ih =>
      intro y z h1 h2
      cases y with
      | nil => simp [cmpLs] at h1
      | cons b bz =>
        cases z with
        | nil => simp [cmpLs] at h2
        | cons c cz =>
          rw [cmpLs] at h1 h2 ⊢
          by_cases e1 : f a b = 0
          · rw [if_pos e1] at h1
            rw [← h.of_eq e1] at h2
            by_cases e2 : f a c = 0
            · rw [if_pos e2] at h2 ⊢
              exact ih bz cz h1 h2
            · rw [if_neg e2] at h2 ⊢
              exact h2
          · rw [if_neg e1] at h1
            have h3 : f b c ≤ 0 := by
              by_cases e2 : f b c = 0
              · omega
              · rw [if_neg e2] at h2; exact h2
            have h4 := h.lt_le (show f a b < 0 by omega) h3
            rw [if_neg (by omega)]
            omega
  range := by
    intro x
    induction x with
    | nil => intro y; cases y <;> simp [cmpLs]
    | cons a az ih =>
      intro y
      cases y with
      | nil => simp [cmpLs]
      | cons b bz =>
        rw [cmpLs]
        split
        · exact ih bz
        · exact h.range _ _
def cmpSl (a b : SlotD) : Int := Term.Ord.lex cmpB cmpD a b
theorem ord_slot : Term.Ord cmpSl := ord_text.of_lex ord_term
def cmpPa (a b : PatD) : Int := Term.Ord.lex cmpSl (Term.Ord.lex cmpSl cmpSl) a b
theorem ord_pat : Term.Ord cmpPa := ord_slot.of_lex (ord_slot.of_lex ord_slot)
def cmpLi (a b : LitD) : Int := Term.Ord.lex cmpI (Term.Ord.lex cmpPa (Term.Ord.lex cmpSl cmpSl)) a b
theorem ord_lit : Term.Ord cmpLi := ord_int.of_lex (ord_pat.of_lex (ord_slot.of_lex ord_slot))
def cmpRu (a b : RuleD) : Int := Term.Ord.lex cmpPa (cmpLs cmpLi) a b
theorem ord_rule : Term.Ord cmpRu := ord_pat.of_lex (ord_list ord_lit)
def patSl (p : PatD) : List SlotD := [p.1, p.2.1, p.2.2]
theorem cmpPa_list (p q : PatD) : cmpPa p q = cmpLs cmpSl (patSl p) (patSl q) := by
  unfold cmpPa Term.Ord.lex patSl
  simp only [cmpLs]
  split
  · split
    · split
      · assumption
      · rfl
    · rfl
  · rfl

/-- The slots that a part of its kind has. -/
def slotsD (l : LitD) : List SlotD := if l.1 = 1 ∨ l.1 = 2 then patSl l.2.1 else [l.2.2.1, l.2.2.2]
/-- A slot's place: in the head; its part's kind; its place there. -/
abbrev PosD := Bool × Int × Nat
def zipP (h : Bool) (k : Int) (l : List SlotD) : List (PosD × SlotD) := l.zipIdx.map fun x => ((h, k, x.2), x.1)
def posL (r : RuleD) : List (PosD × SlotD) := zipP true 0 (patSl r.1) ++ r.2.flatMap fun x => zipP false x.1 (slotsD x)
/-- The names in the parts that hold. -/
def heldN (L : List (PosD × SlotD)) : List ByteArray := (L.filter fun x => decide (x.1.2.1 = 1)).map fun x => x.2.1
def memB (s : ByteArray) (L : List ByteArray) : Bool := L.any fun y => decide (y = s)
theorem memB_iff {s : ByteArray} {L : List ByteArray} : memB s L = true ↔ s ∈ L := by
  unfold memB
  rw [List.any_eq_true]
  constructor
  · rintro ⟨y, hy, e⟩
    rw [← of_decide_eq_true e]
    exact hy
  · exact fun h => ⟨s, h, decide_eq_true rfl⟩
def isSafe (r : RuleD) : Bool := (posL r).all fun x => decide (x.2.1.size = 0) || memB x.2.1 (heldN (posL r))
/-- Why a rule is not safe. -/
def ruleE (r : RuleD) : Int := if ruleB r = true then (if isSafe r = true then 0 else 5) else 2
def negR (r : RuleD) : Bool := r.2.any fun x => decide (x.1 = 2)
def negP (rs : List RuleD) : Bool := rs.any negR
def firstE : List RuleD → Int
  | [] => 0
  | r :: rs => if ruleE r = 0 then firstE rs else ruleE r
/-- A predicate that is a variable, of a head or of a NOT. -/
def openR (r : RuleD) : Bool := decide (r.1.2.1.1.size ≠ 0) || r.2.any fun x => decide (x.1 = 2) && decide (x.2.1.2.1.1.size ≠ 0)
/-- Why a program may not be. -/
def progE (rs : List RuleD) : Int :=
  if firstE rs = 0 then
    if negP rs = true ∧ rs.any openR = true then 5
    else if ¬ rs.Nodup then 8
    else if 1000 < rs.length then 9 else 0
  else firstE rs
theorem firstE_zero {rs : List RuleD} : firstE rs = 0 ↔ ∀ r ∈ rs, ruleE r = 0 := by
  induction rs with
  | nil => simp [firstE]
  | cons r rs ih =>
    rw [firstE]
    by_cases h : ruleE r = 0
    · rw [if_pos h, ih]
      simp [h]
    · rw [if_neg h]
      constructor
      · intro h2; exact absurd h2 h
      · intro h2; exact h2 r (by simp)
theorem firstE_take {rs : List RuleD} {k : Nat} {r : RuleD} (h : rs[k]? = some r) (h0 : firstE (rs.take k) = 0) : firstE (rs.take (k + 1)) = ruleE r := by
  induction rs generalizing k with
  | nil => simp at h
  | cons x rs ih =>
    cases k with
    | zero =>
      simp only [List.getElem?_cons_zero, Option.some.injEq] at h
      subst h
      simp only [List.take_succ_cons, List.take_zero, firstE]
      split
      · rename_i h; exact h.symm
      · rfl
    | succ k =>
      simp only [List.getElem?_cons_succ] at h
      simp only [List.take_succ_cons, firstE] at h0 ⊢
      by_cases hx : ruleE x = 0
      · rw [if_pos hx] at h0 ⊢
        exact ih h h0
      · rw [if_neg hx] at h0
        exact absurd h0 hx
theorem firstE_of {rs : List RuleD} {k : Nat} (h : firstE (rs.take k) ≠ 0) : firstE rs = firstE (rs.take k) := by
  induction rs generalizing k with
  | nil => simp [firstE] at h
  | cons x rs ih =>
    cases k with
    | zero => simp [firstE] at h
    | succ k =>
      simp only [List.take_succ_cons, firstE] at h ⊢
      by_cases hx : ruleE x = 0
      · rw [if_pos hx] at h ⊢
        rw [if_pos hx]
        exact ih h
      · rw [if_neg hx, if_neg hx]
/-- Of a row in order: one that is there twice stands beside itself. -/
theorem twice_beside {α : Type} {f : α → α → Int} (hf : Term.Ord f) {l : List α} (hs : l.Pairwise fun x y => f x y ≤ 0) : l.Nodup ↔ ∀ (i : Nat) (x y : α), l[i]? = some x → l[i + 1]? = some y → x ≠ y := by
  induction l with
  | nil => simp
  | cons a l ih =>
    rw [List.pairwise_cons] at hs
    rw [List.nodup_cons, ih hs.2]
    constructor
    · rintro ⟨h1, h2⟩ i x y hx hy
      cases i with
      | zero =>
        simp only [List.getElem?_cons_zero, Option.some.injEq] at hx
        simp only [List.getElem?_cons_succ] at hy
        subst hx
        rintro rfl
        exact h1 (List.mem_of_getElem? hy)
      | succ i =>
        simp only [List.getElem?_cons_succ] at hx hy
        exact h2 i x y hx hy
    · intro h
      refine ⟨fun hm => ?_, fun i x y hx hy => h (i + 1) x y (by simpa using hx) (by simpa using hy)⟩
      cases l with
      | nil => cases hm
      | cons b l =>
        have hab := h 0 a b rfl rfl
        rcases List.mem_cons.1 hm with e | hm
        · exact hab e
        · rw [List.pairwise_cons] at hs
          have h1 := hs.1 b (by simp)
          have h2 := hs.2.1 a hm
          have h3 := hf.anti b a
          exact hab (hf.of_eq (by omega))
end Go.Proofs.YtlkiigoblkfkpaaGreatDoor

