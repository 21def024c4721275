/-
  PLAIN MATHEMATICS: a language's tag, cut at its dashes, and gone through byte by byte.
-/
import Derived.Test.YtbheafpbamkphaaGreatDoorTermTag
namespace Go.Proofs.YtbheafpbamkphaaGreatDoor.Term
open Utf
set_option linter.unusedVariables false

/-- Cut at each 45. -/
def splitL : List Int → List (List Int)
  | [] => [[]]
  | c :: t => if c = 45 then [] :: splitL t else match splitL t with
    | [] => [[c]]
    | p :: ps => (c :: p) :: ps
def splitU : List UInt8 → List (List UInt8)
  | [] => [[]]
  | c :: t => if c = 45 then [] :: splitU t else match splitU t with
    | [] => [[c]]
    | p :: ps => (c :: p) :: ps

theorem splitU_ne (l : List UInt8) : splitU l ≠ [] := by
  cases l with
  | nil => simp [splitU]
  | cons c t =>
    unfold splitU
    split
    · simp
    · cases splitU t <;> simp
theorem splitL_ne (l : List Int) : splitL l ≠ [] := by
  cases l with
  | nil => simp [splitL]
  | cons c t =>
    unfold splitL
    split
    · simp
    · cases splitL t <;> simp

theorem u8_int (c : UInt8) : (c.toNat : Int) = 45 ↔ c = 45 := by
  constructor
  · intro h
    have : c.toNat = (45 : UInt8).toNat := by have e : (45 : UInt8).toNat = 45 := rfl; omega
    exact UInt8.toNat_inj.1 this
  · rintro rfl; rfl

theorem splitL_map : ∀ l : List UInt8, splitL (l.map fun c => (c.toNat : Int)) = (splitU l).map fun p => p.map fun c => (c.toNat : Int)
  | [] => rfl
  | c :: t => by
    rw [List.map_cons, splitL, splitU, splitL_map t]
    by_cases h : c = 45
    · rw [if_pos h, if_pos ((u8_int c).2 h)]; rfl
    · rw [if_neg h, if_neg (fun e => h ((u8_int c).1 e))]
      cases splitU t <;> rfl

theorem index_dash (b : UInt8) (l : List UInt8) : Lib.index (b :: l) [45] = if b = 45 then 0 else if Lib.index l [45] = -1 then -1 else Lib.index l [45] + 1 := by
  rw [Lib.index]
  by_cases h : b = 45
  · subst h; simp
  · have : ([45] : List UInt8).isPrefixOf (b :: l) = false := by
      simp [List.isPrefixOf]
      exact fun e => h e.symm
    rw [this, if_neg h]
    simp

/-- The library's cut at a dash, where it may cut often enough. -/
theorem splitK_dash : ∀ (l : List UInt8) (k : Nat), l.count 45 ≤ k → Lib.splitK [45] 0 k l = splitU l
  | [], k, _ => by
    cases k with
    | zero => rfl
    | succ k => rfl
  | b :: l, k, hk => by
    by_cases hb : b = 45
    · subst hb
      have hk' : l.count 45 + 1 ≤ k := by simpa using hk
      cases k with
      | zero => omega
      | succ k =>
        have hi : Lib.index ((45 : UInt8) :: l) [45] = 0 := by rw [index_dash, if_pos rfl]
        rw [Lib.splitK, hi, splitU, if_pos rfl]
        have : ((0 : Int) == -1) = false := by decide
        rw [this]
        simp [splitK_dash l k (by omega)]
    · have hk' : l.count 45 ≤ k := by
        rw [List.count_cons] at hk
        have : (b == (45 : UInt8)) = false := by simpa using hb
        rw [this] at hk
        simpa using hk
      have ih := splitK_dash l k hk'
      rw [splitU, if_neg hb, ← ih]
      cases k with
      | zero => rfl
      | succ k =>
        rw [Lib.splitK, Lib.splitK, index_dash, if_neg hb]
        have hge := Lib.index_ge l [45]
        by_cases hm : Lib.index l [45] = -1
        · rw [if_pos hm, hm]; rfl
        · rw [if_neg hm]
          obtain ⟨i, hi⟩ := Int.eq_ofNat_of_zero_le (show 0 ≤ Lib.index l [45] by omega)
          rw [hi]
          have h1 : (((i : Int) + 1) == -1) = false := by simp <;> omega
          have h2 : ((i : Int) == -1) = false := by simp <;> omega
          have h3 : ((i : Int) + 1).toNat = i + 1 := by omega
          have h4 : (i : Int).toNat = i := by omega
          rw [h1, h2, h3, h4]
          simp

theorem pieces_eq (s : ByteArray) : (pieces s).map bs = splitL (bs s) := by
  have h := Lib.splitB_data dash 0 (Lib.countB s dash) s
  have hc : Lib.countB s dash = s.data.toList.count 45 := Lib.count_one 45 s.data.toList
  have h2 : Lib.splitK dash.data.toList 0 (Lib.countB s dash) s.data.toList = splitU s.data.toList := splitK_dash _ _ (by rw [hc]; exact Nat.le_refl _)
  rw [h2] at h
  have h3 := splitL_map s.data.toList
  show (Lib.splitB dash 0 (Lib.countB s dash) s).map bs = splitL (s.data.toList.map fun c => (c.toNat : Int))
  rw [h3, ← h, List.map_map]
  rfl

/-- One byte of a tag: in its first part? behind a dash? -/
def stepOK (f p : Bool) (c : Int) : Bool := if c = 45 then !p else small c || (!f && digit c)
def scan : Bool → Bool → List Int → Bool
  | _, _, [] => true
  | f, p, c :: t => stepOK f p c && scan (f && !decide (c = 45)) (decide (c = 45)) t
def partsL : Bool → List (List Int) → Bool
  | _, [] => true
  | f, p :: ps => decide (0 < p.length) && p.all (partP f) && partsL false ps
theorem part_step {f : Bool} {c : Int} (h : c ≠ 45) (p : Bool) : stepOK f p c = partP f c := by
  unfold stepOK partP
  rw [if_neg h]
  cases f with
  | true => simp
  | false => simp [smallDigit]
/-- Does a text begin, end with a dash? -/
def begins45 : List Int → Bool
  | [] => false
  | c :: _ => decide (c = 45)
def ends45 : List Int → Bool
  | [] => false
  | [c] => decide (c = 45)
  | _ :: t => ends45 t
theorem ends45_cons (c d : Int) (t : List Int) : ends45 (c :: d :: t) = ends45 (d :: t) := rfl
theorem scan_behind (f : Bool) (l : List Int) : scan f true l = (!begins45 l && scan f false l) := by
  cases l with
  | nil => rfl
  | cons c t =>
    unfold scan begins45 stepOK
    by_cases h : c = 45
    · simp [h]
    · simp [h]

theorem parts_scan : ∀ (l : List Int) (f : Bool), (partsL f (splitL l) = (!l.isEmpty && !begins45 l && !ends45 l && scan f false l)) ∧
    ((match splitL l with | [] => true | p :: ps => p.all (partP f) && partsL false ps) = (!ends45 l && scan f false l))
  | [], f => ⟨rfl, rfl⟩
  | c :: t, f => by
    by_cases h : c = 45
    · subst h
      have e : splitL (45 :: t) = [] :: splitL t := by rw [splitL, if_pos rfl]
      rw [e]
      refine ⟨by simp [partsL, begins45], ?_⟩
      dsimp only
      rw [(parts_scan t false).1, scan]
      have h1 : stepOK f false 45 = true := rfl
      have h2 : decide ((45 : Int) = 45) = true := rfl
      rw [h1, h2, Bool.true_and, Bool.not_true, Bool.and_false, scan_behind]
      cases t with
      | nil => rfl
      | cons d t =>
        rw [ends45_cons]
        simp only [List.all_nil, Bool.true_and, List.isEmpty_cons, Bool.not_false]
        cases begins45 (d :: t) <;> cases ends45 (d :: t) <;> simp
    · obtain ⟨p, ps, hp⟩ : ∃ p ps, splitL t = p :: ps := by
        cases hs : splitL t with
        | nil => exact absurd hs (splitL_ne t)
        | cons p ps => exact ⟨p, ps, rfl⟩
      have e : splitL (c :: t) = (c :: p) :: ps := by rw [splitL, if_neg h, hp]
      have ih := (parts_scan t f).2
      rw [hp] at ih
      dsimp only at ih
      have hsc : scan f false (c :: t) = (partP f c && scan f false t) := by
        rw [scan, part_step h, decide_eq_false h, Bool.not_false, Bool.and_true]
      have he : ends45 (c :: t) = ends45 t := by
        cases t with
        | nil => simp [ends45, h]
        | cons d t => rfl
      rw [e, hsc, he]
      have key : (((c :: p).all (partP f) && partsL false ps)) = (!ends45 t && (partP f c && scan f false t)) := by
        rw [List.all_cons, Bool.and_assoc, ih]
        cases partP f c <;> cases ends45 t <;> simp
      refine ⟨?_, key⟩
      rw [partsL]
      have hl : decide (0 < (c :: p).length) = true := by simp
      rw [hl, Bool.true_and, key]
      simp [begins45, h]

theorem partP_high (f : Bool) : High (partP f) false := by
  cases f with
  | true => exact small_high
  | false => exact smallDigit_high
theorem partsOK_L : ∀ (ps : List (List Int)) (f : Bool), (∀ p ∈ ps, p.length ≤ 1000000 ∧ ∀ c ∈ p, IsByte c) → partsOK f ps = partsL f ps
  | [], _, _ => rfl
  | p :: ps, f, h => by
    rw [partsOK, partsL, partsOK_L ps false (fun q hq => h q (by simp [hq])), eachB_low (partP_high f) (by have := (h p (by simp)).1; omega) (h p (by simp)).2]

theorem splitL_mem : ∀ (l p : List Int), p ∈ splitL l → p.length ≤ l.length ∧ ∀ c ∈ p, c ∈ l
  | [], p, h => by simp [splitL] at h; subst h; simp
  | c :: t, p, h => by
    unfold splitL at h
    split at h
    · rcases List.mem_cons.1 h with rfl | h
      · simp
      · have := splitL_mem t p h
        exact ⟨by simp; omega, fun d hd => by simp [this.2 d hd]⟩
    · cases hs : splitL t with
      | nil => exact absurd hs (splitL_ne t)
      | cons q qs =>
        rw [hs] at h
        rcases List.mem_cons.1 h with rfl | h
        · have := splitL_mem t q (by rw [hs]; simp)
          exact ⟨by simp; omega, fun d hd => by
            rcases List.mem_cons.1 hd with rfl | hd
            · simp
            · simp [this.2 d hd]⟩
        · have := splitL_mem t p (by rw [hs]; simp [h])
          exact ⟨by simp; omega, fun d hd => by simp [this.2 d hd]⟩

/-- A tag, byte by byte. -/
def tagL (l : List Int) : Bool := decide (l.length ≤ 35) && (!l.isEmpty && !begins45 l && !ends45 l && scan true false l)
theorem isTagS_eq (s : ByteArray) (hs : s.size ≤ 100000) : isTagS s = tagL (bs s) := by
  unfold isTagS tagL
  rw [pieces_eq, partsOK_L, (parts_scan _ _).1, bs_length]
  intro p hp
  have := splitL_mem _ _ hp
  rw [bs_length] at this
  exact ⟨by omega, fun c hc => bs_byte s c (this.2 c hc)⟩

theorem scan_snoc : ∀ (a : List Int) (f p : Bool) (c : Int), scan f p (a ++ [c]) = (scan f p a && stepOK (f && !a.contains 45) (match a.getLast? with | none => p | some d => decide (d = 45)) c)
  | [], f, p, c => by simp [scan]
  | d :: a, f, p, c => by
    rw [List.cons_append, scan, scan_snoc a, scan, ← Bool.and_assoc]
    congr 1
    have h1 : (f && !decide (d = 45) && !a.contains 45) = (f && !(d :: a).contains 45) := by
      rw [List.contains_cons]
      have : decide (d = 45) = (45 == d) := by
        by_cases h : d = 45
        · subst h; rfl
        · rw [decide_eq_false h]; symm; simpa using fun e => h e.symm
      rw [this, Bool.not_or, Bool.and_assoc]
    rw [h1]
    cases a with
    | nil => rfl
    | cons e a => rw [List.getLast?_cons_cons, List.getLast?_eq_some_getLast (by simp)]
end Go.Proofs.YtbheafpbamkphaaGreatDoor.Term
