/-
  WHAT THE PROOF STANDS ON, a part of it: OrderMath, SortMath.
-/
import Derived.Lib.Bytealg
import GoSem.Op.String
/-
  PLAIN MATHEMATICS: orders by a number (-1, 0, 1); of bytes, of texts, of terms, of triples.
-/

namespace Go.Proofs.YtfldpfomecjdkaaGreatDoor.Term
open Go

/-- A total order, by a number. -/
structure Ord {α : Type} (f : α → α → Int) : Prop where
  anti : ∀ x y, f y x = - f x y
  zero : ∀ x y, f x y = 0 ↔ x = y
  trans : ∀ x y z, f x y ≤ 0 → f y z ≤ 0 → f x z ≤ 0
  range : ∀ x y, f x y = -1 ∨ f x y = 0 ∨ f x y = 1

namespace Ord
variable {α β : Type} {f : α → α → Int} {g : β → β → Int}
theorem refl (h : Ord f) (x : α) : f x x = 0 := (h.zero x x).2 rfl
theorem le_lt (h : Ord f) {x y z : α} (h1 : f x y ≤ 0) (h2 : f y z < 0) : f x z < 0 := by
  have h3 := h.trans x y z h1 (by omega)
  by_cases e : f x z = 0
  · obtain rfl := (h.zero x z).1 e
    have := h.anti x y
    omega
  · omega
theorem lt_le (h : Ord f) {x y z : α} (h1 : f x y < 0) (h2 : f y z ≤ 0) : f x z < 0 := by
  have h3 := h.trans x y z (by omega) h2
  by_cases e : f x z = 0
  · obtain rfl := (h.zero x z).1 e
    have := h.anti x y
    omega
  · omega
theorem of_eq (h : Ord f) {x y : α} (e : f x y = 0) : x = y := (h.zero x y).1 e

/-- First by the one, then by the other. -/
def lex (f : α → α → Int) (g : β → β → Int) : α × β → α × β → Int := fun p q => if f p.1 q.1 = 0 then g p.2 q.2 else f p.1 q.1
theorem of_lex (hf : Ord f) (hg : Ord g) : Ord (lex f g) where
  anti p q := by
    have h1 := hf.anti p.1 q.1
    unfold lex
    by_cases e : f p.1 q.1 = 0
    · rw [if_pos e, if_pos (by omega), hg.anti]
    · rw [if_neg e, if_neg (by omega), h1]
  zero p q := by
    unfold lex
    by_cases e : f p.1 q.1 = 0
    · rw [if_pos e, hg.zero]
      have := hf.of_eq e
      constructor
      · intro h; exact Prod.ext this h
      · intro h; rw [h]
    · rw [if_neg e]
      constructor
      · intro h; exact absurd h e
      · intro h; rw [h, hf.refl] at e; exact absurd rfl e
  trans p q r h1 h2 := by
    unfold lex at *
    by_cases e1 : f p.1 q.1 = 0
    · rw [if_pos e1] at h1
      have e1' := hf.of_eq e1
      rw [← e1'] at h2
      by_cases e2 : f p.1 r.1 = 0
      · rw [if_pos e2] at h2 ⊢
        exact hg.trans _ _ _ h1 h2
      · rw [if_neg e2] at h2 ⊢
        exact h2
    · rw [if_neg e1] at h1
      have h1' : f p.1 q.1 < 0 := by omega
      have h3 : f q.1 r.1 ≤ 0 := by
        by_cases e2 : f q.1 r.1 = 0
        · omega
        · rw [if_neg e2] at h2; exact h2
      have h4 := hf.lt_le h1' h3
      rw [if_neg (by omega)]
      omega
  range p q := by
    unfold lex
    split
    · exact hg.range _ _
    · exact hf.range _ _
end Ord

def cmpI (a b : Int) : Int := if a < b then -1 else if b < a then 1 else 0
theorem ord_int : Ord cmpI where
  anti x y := by unfold cmpI; repeat' split <;> omega
  zero x y := by
    unfold cmpI
    constructor
    · intro h; repeat' split at h <;> omega
    · rintro rfl; simp
  trans x y z h1 h2 := by
    unfold cmpI at *
    repeat' split at *
    all_goals omega
  range x y := by
    unfold cmpI
    split
    · exact .inl rfl
    · split
      · exact .inr (.inr rfl)
      · exact .inr (.inl rfl)

theorem u8_lt (a b : UInt8) : a < b ↔ (a.toNat : Int) < (b.toNat : Int) := by
  rw [UInt8.lt_iff_toNat_lt]; omega
theorem cons_cmp (a b : UInt8) (az bs : List UInt8) : Lib.compareBytes (a :: az) (b :: bs) = if cmpI a.toNat b.toNat = 0 then Lib.compareBytes az bs else cmpI a.toNat b.toNat := by
  rw [Lib.compareBytes]
  unfold cmpI
  simp only [u8_lt]
  by_cases h1 : (a.toNat : Int) < b.toNat
  · simp [h1]
  · by_cases h2 : (b.toNat : Int) < a.toNat
    · simp [h1, h2]
    · simp [h1, h2]
theorem u8_eq {a b : UInt8} (h : cmpI a.toNat b.toNat = 0) : a = b := by
  have := ord_int.of_eq h
  exact UInt8.toNat_inj.1 (by omega)

theorem list_anti : ∀ a b : List UInt8, Lib.compareBytes b a = - Lib.compareBytes a b
  | [], [] => rfl
  | [], _ :: _ => rfl
  | _ :: _, [] => rfl
  | a :: az, b :: bs => by
    rw [cons_cmp, cons_cmp, list_anti az bs]
    have := ord_int.anti (a.toNat : Int) b.toNat
    by_cases e : cmpI (a.toNat : Int) b.toNat = 0
    · rw [if_pos e, if_pos (by omega)]
    · rw [if_neg e, if_neg (by omega), this]
theorem list_zero : ∀ a b : List UInt8, Lib.compareBytes a b = 0 ↔ a = b
  | [], [] => by simp [Lib.compareBytes]
  | [], _ :: _ => by simp [Lib.compareBytes]
  | _ :: _, [] => by simp [Lib.compareBytes]
  | a :: az, b :: bs => by
    rw [cons_cmp]
    by_cases e : cmpI (a.toNat : Int) b.toNat = 0
    · rw [if_pos e, list_zero az bs, u8_eq e]; simp
    · rw [if_neg e]
      constructor
      · intro h; exact absurd h e
      · intro h
        have := (List.cons.inj h).1
        rw [this, ord_int.refl] at e
        exact absurd rfl e
theorem list_range : ∀ a b : List UInt8, Lib.compareBytes a b = -1 ∨ Lib.compareBytes a b = 0 ∨ Lib.compareBytes a b = 1
  | [], [] => by simp [Lib.compareBytes]
  | [], _ :: _ => by simp [Lib.compareBytes]
  | _ :: _, [] => by simp [Lib.compareBytes]
  | a :: az, b :: bs => by
    rw [cons_cmp]
    split
    · exact list_range az bs
    · exact ord_int.range _ _
theorem list_trans : ∀ a b c : List UInt8, Lib.compareBytes a b ≤ 0 → Lib.compareBytes b c ≤ 0 → Lib.compareBytes a c ≤ 0
  | [], _, [], _, _ => by simp [Lib.compareBytes]
  | [], _, _ :: _, _, _ => by simp [Lib.compareBytes]
  | _ :: _, [], _, h, _ => by simp [Lib.compareBytes] at h
  | _ :: _, _ :: _, [], _, h => by simp [Lib.compareBytes] at h
  | a :: az, b :: bs, c :: cs, h1, h2 => by
    rw [cons_cmp] at h1 h2 ⊢
    by_cases e1 : cmpI (a.toNat : Int) b.toNat = 0
    · rw [if_pos e1] at h1
      rw [← u8_eq e1] at h2
      by_cases e2 : cmpI (a.toNat : Int) c.toNat = 0
      · rw [if_pos e2] at h2 ⊢
        exact list_trans az bs cs h1 h2
      · rw [if_neg e2] at h2 ⊢
        exact h2
    · rw [if_neg e1] at h1
      have h3 : cmpI (b.toNat : Int) c.toNat ≤ 0 := by
        by_cases e2 : cmpI (b.toNat : Int) c.toNat = 0
        · omega
        · rw [if_neg e2] at h2; exact h2
      have h4 := ord_int.lt_le (show cmpI (a.toNat : Int) b.toNat < 0 by omega) h3
      rw [if_neg (by omega)]
      omega

/-- How two texts stand. -/
def cmpB (a b : ByteArray) : Int := Lib.compareBytes a.data.toList b.data.toList
theorem ord_text : Ord cmpB where
  anti x y := list_anti _ _
  zero x y := by
    unfold cmpB
    rw [list_zero]
    constructor
    · intro h
      exact ByteArray.ext (Array.toList_inj.1 h)
    · rintro rfl; rfl
  trans x y z := list_trans _ _ _
  range x y := list_range _ _

/-- 'a < b' of two texts. -/
theorem less_cmp : ∀ a b : List UInt8, Op.bytesLess a b = decide (Lib.compareBytes a b < 0)
  | [], [] => rfl
  | [], _ :: _ => rfl
  | _ :: _, [] => rfl
  | a :: az, b :: bs => by
    rw [cons_cmp, Op.bytesLess, less_cmp az bs]
    by_cases h1 : a < b
    · have h2 := (u8_lt a b).1 h1
      have : cmpI (a.toNat : Int) b.toNat = -1 := by unfold cmpI; rw [if_pos h2]
      rw [this]
      simp [h1]
    · have h2 : ¬ (a.toNat : Int) < b.toNat := fun h => h1 ((u8_lt a b).2 h)
      by_cases h3 : a = b
      · subst h3
        rw [ord_int.refl]
        simp [h1]
      · have h4 : (a.toNat : Int) ≠ b.toNat := fun h => h3 (UInt8.toNat_inj.1 (by omega))
        have : cmpI (a.toNat : Int) b.toNat = 1 := by unfold cmpI; rw [if_neg h2, if_pos (by omega)]
        rw [this]
        simp [h1, h3]

/-- How two terms stand. -/
def cmpD (a b : Int × ByteArray × ByteArray) : Int := Ord.lex cmpI (Ord.lex cmpB cmpB) a b
theorem ord_term : Ord cmpD := ord_int.of_lex (ord_text.of_lex ord_text)
/-- How two triples stand. -/
def cmpT (a b : (Int × ByteArray × ByteArray) × (Int × ByteArray × ByteArray) × (Int × ByteArray × ByteArray)) : Int := Ord.lex cmpD (Ord.lex cmpD cmpD) a b
theorem ord_triple : Ord cmpT := ord_term.of_lex (ord_term.of_lex ord_term)
end Go.Proofs.YtfldpfomecjdkaaGreatDoor.Term
/-
  PLAIN MATHEMATICS: lists in order, each once: there is one of them for the same elements; by insertion; by leaving out neighbours alike.
-/

namespace Go.Proofs.YtfldpfomecjdkaaGreatDoor.Term
open Go

variable {α : Type} {f : α → α → Int}
/-- Each before the ones behind it. -/
def Strict (f : α → α → Int) (l : List α) : Prop := l.Pairwise fun a b => f a b < 0
/-- None behind the ones behind it. -/
def Weak (f : α → α → Int) (l : List α) : Prop := l.Pairwise fun a b => f a b ≤ 0

theorem strict_ext (h : Ord f) : ∀ {l k : List α}, Strict f l → Strict f k → (∀ x, x ∈ l ↔ x ∈ k) → l = k
  | [], [], _, _, _ => rfl
  | [], b :: k, _, _, e => by have := (e b).2 (by simp); cases this
  | a :: l, [], _, _, e => by have := (e a).1 (by simp); cases this
  | a :: l, b :: k, hl, hk, e => by
    unfold Strict at hl hk
    rw [List.pairwise_cons] at hl hk
    have hab : a = b := by
      rcases List.mem_cons.1 ((e a).1 (by simp)) with h1 | h1
      · exact h1
      · rcases List.mem_cons.1 ((e b).2 (by simp)) with h2 | h2
        · exact h2.symm
        · have h3 := hk.1 a h1
          have h4 := hl.1 b h2
          have h5 := h.anti a b
          omega
    subst hab
    rw [strict_ext h hl.2 hk.2 fun x => ?_]
    constructor
    · intro hx
      rcases List.mem_cons.1 ((e x).1 (by simp [hx])) with h1 | h1
      · subst h1
        have := hl.1 x hx
        rw [h.refl] at this
        omega
      · exact h1
    · intro hx
      rcases List.mem_cons.1 ((e x).2 (by simp [hx])) with h1 | h1
      · subst h1
        have := hk.1 x hx
        rw [h.refl] at this
        omega
      · exact h1

section
variable [DecidableEq α]
/-- What stands behind a, neighbours alike left out. -/
def compF : α → List α → List α
  | _, [] => []
  | a, b :: l => if a = b then compF a l else b :: compF b l
/-- Neighbours alike left out. -/
def compactL : List α → List α
  | [] => []
  | a :: l => a :: compF a l

theorem compF_mem (x : α) : ∀ (a : α) (l : List α), x ∈ a :: compF a l ↔ x ∈ a :: l
  | a, [] => by simp [compF]
  | a, b :: l => by
    unfold compF
    by_cases h : a = b
    · subst h
      rw [if_pos rfl, compF_mem x a l]
      simp
    · rw [if_neg h, List.mem_cons, compF_mem x b l]
      simp
theorem compactL_mem (x : α) (l : List α) : x ∈ compactL l ↔ x ∈ l := by
  cases l with
  | nil => rfl
  | cons a l => exact compF_mem x a l
theorem compF_strict (h : Ord f) : ∀ (a : α) (l : List α), Weak f (a :: l) → Strict f (a :: compF a l)
  | a, [], _ => by simp [compF, Strict]
  | a, b :: l, hw => by
    unfold Weak at hw
    rw [List.pairwise_cons] at hw
    unfold compF
    by_cases e : a = b
    · subst e
      rw [if_pos rfl]
      exact compF_strict h a l hw.2
    · rw [if_neg e]
      have ih := compF_strict h b l hw.2
      unfold Strict at *
      rw [List.pairwise_cons]
      refine ⟨fun x hx => ?_, ih⟩
      have hab : f a b < 0 := by
        have h1 := hw.1 b (by simp)
        have h2 : f a b ≠ 0 := fun h2 => e (h.of_eq h2)
        omega
      rcases List.mem_cons.1 hx with rfl | hx
      · exact hab
      · have h3 := (List.pairwise_cons.1 ih).1 x hx
        exact h.lt_le hab (by omega)
theorem compactL_strict (h : Ord f) (l : List α) (hw : Weak f l) : Strict f (compactL l) := by
  cases l with
  | nil => simp [compactL, Strict]
  | cons a l => exact compF_strict h a l hw

/-- Put in its place, if it is not there. -/
def insL (f : α → α → Int) (x : α) : List α → List α
  | [] => [x]
  | y :: l => if f y x < 0 then y :: insL f x l else if y = x then y :: l else x :: y :: l
theorem insL_mem (x z : α) : ∀ l : List α, z ∈ insL f x l ↔ z = x ∨ z ∈ l
  | [] => by simp [insL]
  | y :: l => by
    unfold insL
    by_cases h1 : f y x < 0
    · rw [if_pos h1, List.mem_cons, insL_mem x z l, List.mem_cons]
      constructor <;> (intro h; rcases h with h | h | h <;> simp [h])
    · rw [if_neg h1]
      by_cases h2 : y = x
      · subst h2
        rw [if_pos rfl]
        simp
      · rw [if_neg h2]
        simp
theorem insL_strict (h : Ord f) (x : α) : ∀ l : List α, Strict f l → Strict f (insL f x l)
  | [], _ => by simp [insL, Strict]
  | y :: l, hs => by
    have hs' := hs
    unfold Strict at hs
    rw [List.pairwise_cons] at hs
    unfold insL
    by_cases h1 : f y x < 0
    · rw [if_pos h1]
      unfold Strict
      rw [List.pairwise_cons]
      refine ⟨fun z hz => ?_, insL_strict h x l hs.2⟩
      rcases (insL_mem x z l).1 hz with rfl | hz
      · exact h1
      · exact hs.1 z hz
    · rw [if_neg h1]
      by_cases h2 : y = x
      · rw [if_pos h2]; exact hs'
      · rw [if_neg h2]
        have hxy : f x y < 0 := by
          have h3 := h.anti y x
          have h4 : f y x ≠ 0 := fun e => h2 (h.of_eq e)
          omega
        unfold Strict
        rw [List.pairwise_cons]
        refine ⟨fun z hz => ?_, hs'⟩
        rcases List.mem_cons.1 hz with rfl | hz
        · exact hxy
        · have := hs.1 z hz
          exact h.lt_le hxy (by omega)
/-- All of them, in order, each once. -/
def sortL (f : α → α → Int) (l : List α) : List α := l.foldl (fun out x => insL f x out) []
theorem foldl_ins (h : Ord f) : ∀ (l out : List α), Strict f out → Strict f (l.foldl (fun out x => insL f x out) out) ∧ ∀ z, z ∈ l.foldl (fun out x => insL f x out) out ↔ z ∈ out ∨ z ∈ l
  | [], out, ho => ⟨ho, by simp⟩
  | x :: l, out, ho => by
    obtain ⟨h1, h2⟩ := foldl_ins h l (insL f x out) (insL_strict h x out ho)
    refine ⟨h1, fun z => ?_⟩
    rw [List.foldl_cons, h2 z, insL_mem, List.mem_cons]
    constructor
    · rintro ((e | e) | e)
      · exact .inr (.inl e)
      · exact .inl e
      · exact .inr (.inr e)
    · rintro (e | e | e)
      · exact .inl (.inr e)
      · exact .inl (.inl e)
      · exact .inr e
theorem sortL_strict (h : Ord f) (l : List α) : Strict f (sortL f l) := (foldl_ins h l [] (by simp [Strict])).1
theorem sortL_mem (h : Ord f) (l : List α) (z : α) : z ∈ sortL f l ↔ z ∈ l := by
  unfold sortL
  rw [(foldl_ins h l [] (by simp [Strict])).2 z]
  simp
/-- In order, neighbours alike left out: the same. -/
theorem compact_sort (h : Ord f) {l k : List α} (hw : Weak f k) (hm : ∀ x, x ∈ k ↔ x ∈ l) : compactL k = sortL f l :=
  strict_ext h (compactL_strict h k hw) (sortL_strict h l) fun x => by rw [compactL_mem, sortL_mem h, hm]
theorem sortL_ext (h : Ord f) {l k : List α} (hm : ∀ x, x ∈ k ↔ x ∈ l) : sortL f k = sortL f l :=
  strict_ext h (sortL_strict h k) (sortL_strict h l) fun x => by rw [sortL_mem h, sortL_mem h, hm]
theorem sortL_self (h : Ord f) {l : List α} (hs : Strict f l) : sortL f l = l :=
  strict_ext h (sortL_strict h l) hs fun x => by rw [sortL_mem h]
end
end Go.Proofs.YtfldpfomecjdkaaGreatDoor.Term
