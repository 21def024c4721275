/-
  WHAT THE PROOF STANDS ON, a part of it: TermTag, TagMath, LexMath.
-/
import Derived.Test.YtbcoklbfebmpoaaGreatDoorU16
import Derived.LoopTactic
import Derived.Lib.SplitLaws
import Derived.Laws.Rows
/-
  THE CONTRACT OF isTag.
-/

namespace Go.Proofs.YtbcoklbfebmpoaaGreatDoor
open Go.RowKit
open Utf Term

namespace Term
/-- The parts between the dashes: the first one of small letters, the others of small letters and digits; none is empty. -/
def partP (first : Bool) : Int → Bool := if first then small else smallDigit
def partsOK : Bool → List (List Int) → Bool
  | _, [] => true
  | f, p :: ps => decide (0 < p.length) && eachB (partP f) p && partsOK false ps
theorem partsOK_snoc : ∀ (f : Bool) (a : List (List Int)) (p : List Int), partsOK f (a ++ [p]) = (partsOK f a && (decide (0 < p.length) && eachB (partP (f && a.isEmpty)) p))
  | f, [], p => by simp [partsOK]
  | f, q :: a, p => by
    rw [List.cons_append, partsOK, partsOK_snoc false a p, partsOK]
    simp [Bool.and_assoc]
theorem partsOK_prefix : ∀ (f : Bool) (a b : List (List Int)), partsOK f a = false → partsOK f (a ++ b) = false
  | f, [], b, h => by cases h
  | f, q :: a, b, h => by
    rw [List.cons_append, partsOK]
    rw [partsOK] at h
    cases e : (decide (0 < q.length) && eachB (partP f) q) with
    | false => rfl
    | true =>
      rw [e, Bool.true_and] at h
      rw [Bool.true_and]
      exact partsOK_prefix false a b h
abbrev dash : ByteArray := ⟨#[45]⟩
def pieces (s : ByteArray) : List ByteArray := Lib.splitB dash 0 (Lib.countB s dash) s
def isTagS (s : ByteArray) : Bool := decide (s.size ≤ 35) && partsOK true ((pieces s).map bs)
theorem pieces_length (s : ByteArray) : (pieces s).length = Lib.countB s dash + 1 := Lib.splitB_all dash (by decide) 0 _ s rfl
end Term

theorem splitB_size (sep : ByteArray) : ∀ (k : Nat) (s p : ByteArray), p ∈ Lib.splitB sep 0 k s → p.size ≤ s.size
  | 0, s, p, h => by
    simp [Lib.splitB] at h
    rw [h]
    exact Nat.le_refl _
  | k + 1, s, p, h => by
    unfold Lib.splitB at h
    split at h
    · simp at h; rw [h]; exact Nat.le_refl _
    · rcases List.mem_cons.1 h with rfl | h
      · simp; omega
      · have := splitB_size sep k _ p h
        simp at this
        omega
theorem take_step {α : Type} (l : List α) (k : Nat) (h : k < l.length) : l.take (k + 1) = l.take k ++ [l[k]] := List.take_succ_eq_append_getElem h

set_option maxRecDepth 100000 in
set_option maxHeartbeats 4000000 in
theorem isTag_short (s : ByteArray) (h35 : s.size ≤ 35) (m : Int) (w : World) (hm : w.cell? ⟨1, 0, none⟩ = some (.int .i64 m)) (hz : ∀ p ∈ pieces s, p.size ≤ 35) :
    Calls Tryz.prog 101 #[.string s] w fun e W' => e = .returned (.bool (partsOK true ((pieces s).map bs))) ∧ Below w.heap.size w W' := by
  have CS := Tryz.strings_Split s dash m w (by omega) hm (by decide)
  have hlen := pieces_length s
  have hcnt := Lib.countB_le dash (by decide) s.size s (Nat.le_refl _)
  rw [← hlen] at CS
  have hw0 : ∀ k (h : k < (pieces s).length), (w.alloc (.cells ((pieces s).map Value.string).toArray 9)).cell? ⟨w.heap.size, k, none⟩ = some (.string (pieces s)[k]) := by
    intro k h
    rw [World.cell?_alloc_at _ _ _ _ rfl]
    simp [h]
  have hB0 : Below w.heap.size w (w.alloc (.cells ((pieces s).map Value.string).toArray 9)) := (Below.refl _ w).alloc (Nat.le_refl _) _
  have hsz0 : (w.alloc (.cells ((pieces s).map Value.string).toArray 9)).heap.size = w.heap.size + 1 := by simp
  have CS' : Calls Tryz.prog 130 #[.string s, .string dash] w fun e w' => e = .returned (.slice (some ⟨w.heap.size, 0, none⟩) (pieces s).length (pieces s).length) ∧ w' = w.alloc (.cells ((pieces s).map Value.string).toArray 9) := CS
  have hL : (pieces s).length ≤ 36 := by omega
  generalize hps : pieces s = ps at *
  generalize hw1 : w.alloc (.cells (ps.map Value.string).toArray 9) = w1 at *
  have HH := Lib.hid hw0
  have HC := Lib.hid CS'
  have HZ := Lib.hid hz
  have HS := Lib.hid hsz0
  clear hm hps hw1 hlen CS CS' hw0 hz hsz0
  have hd35 : decide ((35 : Int) < s.size) = false := by simp; omega
  go_enter Tryz.func101, Tryz.ntmps101
  go_wp2_with (go_at_call 130; refine HC.out.mono ?_; rintro e w' ⟨rfl, rfl⟩)
  go_loopw [3, 12] (fun v i wr => ∃ (k K : Nat), k ≤ ps.length ∧ i = .int .i64 k ∧ v = .func (.func K) #[] #[] ∧ Tells K (partP (decide (k = 0))) ∧ partsOK true ((ps.take k).map bs) = true ∧ Below (w.heap.size + 1) w' wr)
    (fun _ i _ => ps.length - (intOf i).toNat)
  case atStart => exact ⟨0, _, Nat.zero_le _, rfl, rfl, tells_small, rfl, Below.refl _ _⟩
  case round =>
    obtain ⟨k, K, hk, rfl, rfl, hT, hok, hBw⟩ := hrel
    have HT := Lib.hid hT
    have HO := Lib.hid hok
    clear hT hok
    have hwr : w.heap.size + 1 ≤ wr.heap.size := by have := hBw.size; have := HS.out; omega
    have hBr : Below w.heap.size w wr := hB0.trans (hBw.mono (by omega))
    by_cases hlt : k < ps.length
    · have hcell : wr.cell? ⟨w.heap.size, k, none⟩ = some (.string ps[k]) := (hBw.cell (p := ⟨w.heap.size, k, none⟩) (by simp)).trans (HH.out k hlt)
      have hz := HZ.out ps[k] (List.getElem_mem hlt)
      have HP : Hid (partsOK true ((ps.take (k + 1)).map bs) = (decide (0 < ps[k].size) && eachB (partP (decide (k = 0))) (bs ps[k]))) := by
        refine Lib.hid ?_
        rw [take_step ps k hlt, List.map_append, List.map_cons, List.map_nil, partsOK_snoc, HO.out, Bool.true_and, bs_length]
        have : (true && ((ps.take k).map bs).isEmpty) = decide (k = 0) := by
          cases k with
          | zero => rfl
          | succ k =>
            cases ps with
            | nil => simp at hlt
            | cons _ _ => rfl
        rw [this]
      have HF : Hid (partsOK true ((ps.take (k + 1)).map bs) = false → partsOK true (ps.map bs) = false) := by
        intro h
        have e := partsOK_prefix true ((ps.take (k + 1)).map bs) ((ps.drop (k + 1)).map bs) h
        rwa [← List.map_append, List.take_append_drop] at e
      generalize hpk : ps[k] = p at *
      clear hpk
      have C := each_any K _ HT.out p (by omega) wr
      by_cases h0 : 0 < p.size
      · have hne : p.toList.isEmpty = false := nonempty h0
        cases hv : eachB (partP (decide (k = 0))) (bs p) with
        | true =>
          rw [hv] at C HP
          have HC2 := Lib.hid C
          clear C hv
          go_wp2_with (go_at_call 125; refine HC2.out.mono ?_; rintro e w2 ⟨rfl, hB2⟩)
          go_roundw
          case rel => exact ⟨k + 1, 131, by omega, by go_num, rfl, tells_smallDigit, by rw [HP.out]; simpa using h0, hBw.trans (hB2.mono hwr)⟩
          case measure => simp [intOf]; omega
        | false =>
          rw [hv] at C HP
          have HC2 := Lib.hid C
          clear C hv
          go_wp2_with (go_at_call 125; refine HC2.out.mono ?_; rintro e w2 ⟨rfl, hB2⟩)
          go_ret
          refine ⟨ret_bool (HF.out (by rw [HP.out]; simp)).symm, hBr.trans (hB2.mono hBr.size)⟩
      · obtain rfl := empty_of p (by omega)
        clear C
        have he : ByteArray.empty.toList.isEmpty = true := by rw [← decide_eq_emptyBytes]; simp
        go_wp2
        go_ret
        refine ⟨ret_bool (HF.out (by rw [HP.out]; rfl)).symm, hBr⟩
    · obtain rfl : k = ps.length := by omega
      go_wp2
      go_ret
      rw [List.take_length] at HO
      exact ⟨ret_bool HO.out.symm, hBr⟩

theorem isTag_any (s : ByteArray) (hs : s.size ≤ 9223372036854775807) (m : Int) (w : World) (hm : w.cell? ⟨1, 0, none⟩ = some (.int .i64 m)) :
    Calls Tryz.prog 101 #[.string s] w fun e W' => e = .returned (.bool (isTagS s)) ∧ Below w.heap.size w W' := by
  by_cases h : s.size ≤ 35
  · have e : isTagS s = partsOK true ((pieces s).map bs) := by unfold isTagS; simp [h]
    rw [e]
    exact isTag_short s h m w hm (fun p hp => Nat.le_trans (splitB_size dash _ s p hp) h)
  · have e : isTagS s = false := by unfold isTagS; simp [h]
    rw [e]
    have hd35 : decide ((35 : Int) < s.size) = true := by simp; omega
    clear hm
    go_enter Tryz.func101, Tryz.ntmps101
    go_wp2
    go_ret
    exact ⟨rfl, Below.refl _ _⟩
end Go.Proofs.YtbcoklbfebmpoaaGreatDoor

/-
  PLAIN MATHEMATICS: a language's tag, cut at its dashes, and gone through byte by byte.
-/

namespace Go.Proofs.YtbcoklbfebmpoaaGreatDoor.Term
open Utf
set_option linter.unusedVariables false

/-- Cut at each 45. -/
def splitL : List Int → List (List Int)
  | [] => [[]]
  | c :: t => if c = 45 then [] :: splitL t else match splitL t with
    | [] => [[c]]
    | p :: ps => (c :: p) :: ps
def splitU : List UInt8 → List (List UInt8)
  | [] => [[]]
  | c :: t => if c = 45 then [] :: splitU t else match splitU t with
    | [] => [[c]]
    | p :: ps => (c :: p) :: ps

theorem splitL_ne (l : List Int) : splitL l ≠ [] := by
  cases l with
  | nil => simp [splitL]
  | cons c t =>
    unfold splitL
    split
    · simp
    · cases splitL t <;> simp

theorem u8_int (c : UInt8) : (c.toNat : Int) = 45 ↔ c = 45 := by
  constructor
  · intro h
    have : c.toNat = (45 : UInt8).toNat := by have e : (45 : UInt8).toNat = 45 := rfl; omega
    exact UInt8.toNat_inj.1 this
  · rintro rfl; rfl

theorem splitL_map : ∀ l : List UInt8, splitL (l.map fun c => (c.toNat : Int)) = (splitU l).map fun p => p.map fun c => (c.toNat : Int)
  | [] => rfl
  | c :: t => by
    rw [List.map_cons, splitL, splitU, splitL_map t]
    by_cases h : c = 45
    · rw [if_pos h, if_pos ((u8_int c).2 h)]; rfl
    · rw [if_neg h, if_neg (fun e => h ((u8_int c).1 e))]
      cases splitU t <;> rfl

theorem index_dash (b : UInt8) (l : List UInt8) : Lib.index (b :: l) [45] = if b = 45 then 0 else if Lib.index l [45] = -1 then -1 else Lib.index l [45] + 1 := by
  rw [Lib.index]
  by_cases h : b = 45
  · subst h; simp
  · have : ([45] : List UInt8).isPrefixOf (b :: l) = false := by
      simp [List.isPrefixOf]
      exact fun e => h e.symm
    rw [this, if_neg h]
    simp

/-- The library's cut at a dash, where it may cut often enough. -/
theorem splitK_dash : ∀ (l : List UInt8) (k : Nat), l.count 45 ≤ k → Lib.splitK [45] 0 k l = splitU l
  | [], k, _ => by
    cases k with
    | zero => rfl
    | succ k => rfl
  | b :: l, k, hk => by
    by_cases hb : b = 45
    · subst hb
      have hk' : l.count 45 + 1 ≤ k := by simpa using hk
      cases k with
      | zero => omega
      | succ k =>
        have hi : Lib.index ((45 : UInt8) :: l) [45] = 0 := by rw [index_dash, if_pos rfl]
        rw [Lib.splitK, hi, splitU, if_pos rfl]
        have : ((0 : Int) == -1) = false := by decide
        rw [this]
        simp [splitK_dash l k (by omega)]
    · have hk' : l.count 45 ≤ k := by
        rw [List.count_cons] at hk
        have : (b == (45 : UInt8)) = false := by simpa using hb
        rw [this] at hk
        simpa using hk
      have ih := splitK_dash l k hk'
      rw [splitU, if_neg hb, ← ih]
      cases k with
      | zero => rfl
      | succ k =>
        rw [Lib.splitK, Lib.splitK, index_dash, if_neg hb]
        have hge := Lib.index_ge l [45]
        by_cases hm : Lib.index l [45] = -1
        · rw [if_pos hm, hm]; rfl
        · rw [if_neg hm]
          obtain ⟨i, hi⟩ := Int.eq_ofNat_of_zero_le (show 0 ≤ Lib.index l [45] by omega)
          rw [hi]
          have h1 : (((i : Int) + 1) == -1) = false := by simp <;> omega
          have h2 : ((i : Int) == -1) = false := by simp <;> omega
          have h3 : ((i : Int) + 1).toNat = i + 1 := by omega
          have h4 : (i : Int).toNat = i := by omega
          rw [h1, h2, h3, h4]
          simp

theorem pieces_eq (s : ByteArray) : (pieces s).map bs = splitL (bs s) := by
  have h := Lib.splitB_data dash 0 (Lib.countB s dash) s
  have hc : Lib.countB s dash = s.data.toList.count 45 := Lib.count_one 45 s.data.toList
  have h2 : Lib.splitK dash.data.toList 0 (Lib.countB s dash) s.data.toList = splitU s.data.toList := splitK_dash _ _ (by rw [hc]; exact Nat.le_refl _)
  rw [h2] at h
  have h3 := splitL_map s.data.toList
  show (Lib.splitB dash 0 (Lib.countB s dash) s).map bs = splitL (s.data.toList.map fun c => (c.toNat : Int))
  rw [h3, ← h, List.map_map]
  rfl

/-- One byte of a tag: in its first part? behind a dash? -/
def stepOK (f p : Bool) (c : Int) : Bool := if c = 45 then !p else small c || (!f && digit c)
def scan : Bool → Bool → List Int → Bool
  | _, _, [] => true
  | f, p, c :: t => stepOK f p c && scan (f && !decide (c = 45)) (decide (c = 45)) t
def partsL : Bool → List (List Int) → Bool
  | _, [] => true
  | f, p :: ps => decide (0 < p.length) && p.all (partP f) && partsL false ps
theorem part_step {f : Bool} {c : Int} (h : c ≠ 45) (p : Bool) : stepOK f p c = partP f c := by
  unfold stepOK partP
  rw [if_neg h]
  cases f with
  | true => simp
  | false => simp [smallDigit]
/-- Does a text begin, end with a dash? -/
def begins45 : List Int → Bool
  | [] => false
  | c :: _ => decide (c = 45)
def ends45 : List Int → Bool
  | [] => false
  | [c] => decide (c = 45)
  | _ :: t => ends45 t
theorem ends45_cons (c d : Int) (t : List Int) : ends45 (c :: d :: t) = ends45 (d :: t) := rfl
theorem scan_behind (f : Bool) (l : List Int) : scan f true l = (!begins45 l && scan f false l) := by
  cases l with
  | nil => rfl
  | cons c t =>
    unfold scan begins45 stepOK
    by_cases h : c = 45
    · simp [h]
    · simp [h]

theorem parts_scan : ∀ (l : List Int) (f : Bool), (partsL f (splitL l) = (!l.isEmpty && !begins45 l && !ends45 l && scan f false l)) ∧
    ((match splitL l with | [] => true | p :: ps => p.all (partP f) && partsL false ps) = (!ends45 l && scan f false l))
  | [], f => ⟨rfl, rfl⟩
  | c :: t, f => by
    by_cases h : c = 45
    · subst h
      have e : splitL (45 :: t) = [] :: splitL t := by rw [splitL, if_pos rfl]
      rw [e]
      refine ⟨by simp [partsL, begins45], ?_⟩
      dsimp only
      rw [(parts_scan t false).1, scan]
      have h1 : stepOK f false 45 = true := rfl
      have h2 : decide ((45 : Int) = 45) = true := rfl
      rw [h1, h2, Bool.true_and, Bool.not_true, Bool.and_false, scan_behind]
      cases t with
      | nil => rfl
      | cons d t =>
        rw [ends45_cons]
        simp only [List.all_nil, Bool.true_and, List.isEmpty_cons, Bool.not_false]
        cases begins45 (d :: t) <;> cases ends45 (d :: t) <;> simp
    · obtain ⟨p, ps, hp⟩ : ∃ p ps, splitL t = p :: ps := by
        cases hs : splitL t with
        | nil => exact absurd hs (splitL_ne t)
        | cons p ps => exact ⟨p, ps, rfl⟩
      have e : splitL (c :: t) = (c :: p) :: ps := by rw [splitL, if_neg h, hp]
      have ih := (parts_scan t f).2
      rw [hp] at ih
      dsimp only at ih
      have hsc : scan f false (c :: t) = (partP f c && scan f false t) := by
        rw [scan, part_step h, decide_eq_false h, Bool.not_false, Bool.and_true]
      have he : ends45 (c :: t) = ends45 t := by
        cases t with
        | nil => simp [ends45, h]
        | cons d t => rfl
      rw [e, hsc, he]
      have key : (((c :: p).all (partP f) && partsL false ps)) = (!ends45 t && (partP f c && scan f false t)) := by
        rw [List.all_cons, Bool.and_assoc, ih]
        cases partP f c <;> cases ends45 t <;> simp
      refine ⟨?_, key⟩
      rw [partsL]
      have hl : decide (0 < (c :: p).length) = true := by simp
      rw [hl, Bool.true_and, key]
      simp [begins45, h]

theorem partP_high (f : Bool) : High (partP f) false := by
  cases f with
  | true => exact small_high
  | false => exact smallDigit_high
theorem partsOK_L : ∀ (ps : List (List Int)) (f : Bool), (∀ p ∈ ps, p.length ≤ 1000000 ∧ ∀ c ∈ p, IsByte c) → partsOK f ps = partsL f ps
  | [], _, _ => rfl
  | p :: ps, f, h => by
    rw [partsOK, partsL, partsOK_L ps false (fun q hq => h q (by simp [hq])), eachB_low (partP_high f) (by have := (h p (by simp)).1; omega) (h p (by simp)).2]

theorem splitL_mem : ∀ (l p : List Int), p ∈ splitL l → p.length ≤ l.length ∧ ∀ c ∈ p, c ∈ l
  | [], p, h => by simp [splitL] at h; subst h; simp
  | c :: t, p, h => by
    unfold splitL at h
    split at h
    · rcases List.mem_cons.1 h with rfl | h
      · simp
      · have := splitL_mem t p h
        exact ⟨by simp; omega, fun d hd => by simp [this.2 d hd]⟩
    · cases hs : splitL t with
      | nil => exact absurd hs (splitL_ne t)
      | cons q qs =>
        rw [hs] at h
        rcases List.mem_cons.1 h with rfl | h
        · have := splitL_mem t q (by rw [hs]; simp)
          exact ⟨by simp; omega, fun d hd => by
            rcases List.mem_cons.1 hd with rfl | hd
            · simp
            · simp [this.2 d hd]⟩
        · have := splitL_mem t p (by rw [hs]; simp [h])
          exact ⟨by simp; omega, fun d hd => by simp [this.2 d hd]⟩

/-- A tag, byte by byte. -/
def tagL (l : List Int) : Bool := decide (l.length ≤ 35) && (!l.isEmpty && !begins45 l && !ends45 l && scan true false l)
theorem isTagS_eq (s : ByteArray) (hs : s.size ≤ 100000) : isTagS s = tagL (bs s) := by
  unfold isTagS tagL
  rw [pieces_eq, partsOK_L, (parts_scan _ _).1, bs_length]
  intro p hp
  have := splitL_mem _ _ hp
  rw [bs_length] at this
  exact ⟨by omega, fun c hc => bs_byte s c (this.2 c hc)⟩

end Go.Proofs.YtbcoklbfebmpoaaGreatDoor.Term

/-
  PLAIN MATHEMATICS OF LAYER 4: symbols of texts, over lists of numbers.
-/

namespace Go.Proofs.YtbcoklbfebmpoaaGreatDoor.Lex
open Utf Term

/-- What may be between symbols: how many bytes (true: within a comment). -/
def isWS (c : Int) : Bool := decide (c = 9) || decide (c = 10) || decide (c = 13) || decide (c = 32)
def sk : Bool → List Int → Nat
  | _, [] => 0
  | true, c :: l => if c = 10 then 1 + sk false l else 1 + sk true l
  | false, c :: l => if isWS c = true then 1 + sk false l else if c = 35 then 1 + sk true l else 0

def spanL (p : Int → Bool) (l : List Int) : Nat := (l.takeWhile p).length
def localC (c : Int) : Bool := letterDigit c || decide (c = 45) || decide (c = 95)
def langC (c : Int) : Bool := small c || digit c || decide (c = 45)
def isWordL (l : List Int) : Bool := decide (0 < l.length) && decide (l.length ≤ 32) && !digit (l.headD 0)

structure Sym where
  kind : Nat
  text : List Int
  tk : Nat
  tt : List Int
  te : List Int
  place : Nat
deriving DecidableEq

inductive Took where
  | no | bad
  | got (x : Sym) (n : Nat)
deriving DecidableEq

def symT (k : Nat) (t : List Int) : Sym := ⟨k, t, 0, [], [], 0⟩

def markL : List (List Int) := [[94, 94], [58, 45], [33, 61], [61], [46], [44], [40], [41], [123], [125]]
def markT (l : List Int) : Took := match markL.find? (fun m => m.isPrefixOf l) with | none => .no | some m => .got (symT 8 m) m.length
def colonB (l : List Int) : Bool := [58].isPrefixOf l && !([58, 45].isPrefixOf l)
def nameT (l : List Int) : Took :=
  if colonB (l.drop (spanL letterDigit l)) = true then
    if (0 < spanL letterDigit l ∧ isWordL (l.take (spanL letterDigit l)) = false) ∨ 64 < spanL localC (l.drop (spanL letterDigit l + 1)) then .bad
    else .got (symT 7 (l.take (spanL letterDigit l + 1 + spanL localC (l.drop (spanL letterDigit l + 1))))) (spanL letterDigit l + 1 + spanL localC (l.drop (spanL letterDigit l + 1)))
  else .no
def wordT (l : List Int) : Took :=
  if spanL letterDigit l = 0 then .no
  else if isWordL (l.take (spanL letterDigit l)) = true then .got (symT 6 (l.take (spanL letterDigit l))) (spanL letterDigit l) else .bad
def varT (l : List Int) : Took :=
  if [63].isPrefixOf l = true then
    if isWordL ((l.drop 1).take (spanL letterDigit (l.drop 1))) = true then .got (symT 5 ((l.drop 1).take (spanL letterDigit (l.drop 1)))) (1 + spanL letterDigit (l.drop 1)) else .bad
  else .no
def blankT (l : List Int) : Took :=
  if [95, 58].isPrefixOf l = true then
    if isBlankB ((l.drop 2).take (spanL letterDigit (l.drop 2))) = true then .got ⟨2, [], 2, (l.drop 2).take (spanL letterDigit (l.drop 2)), [], 0⟩ (2 + spanL letterDigit (l.drop 2)) else .bad
  else .no
def langT (l : List Int) : Took :=
  if [64].isPrefixOf l = true then
    if tagL ((l.drop 1).take (spanL langC (l.drop 1))) = true then .got (symT 4 ((l.drop 1).take (spanL langC (l.drop 1)))) (1 + spanL langC (l.drop 1)) else .bad
  else .no

/-- A digit's value; below 0: it is none. -/
def hexD (c : Int) : Int := if 48 ≤ c ∧ c ≤ 57 then c - 48 else if 65 ≤ c ∧ c ≤ 70 then c - 55 else if 97 ≤ c ∧ c ≤ 102 then c - 87 else -1
def hexV (l : List Int) : Int := l.foldl (fun r c => 16 * r + hexD c) 0
def hexOK (l : List Int) : Bool := l.all fun c => decide (0 ≤ hexD c)
def numL (k : Nat) (r : List Int) : Option (List Int × Nat) :=
  if k ≤ r.length ∧ hexOK (r.take k) = true ∧ May (hexV (r.take k)) then some (enc (hexV (r.take k)), 2 + k) else none
def shortE (c : Int) : Option Int := if c = 116 then some 9 else if c = 98 then some 8 else if c = 110 then some 10 else if c = 114 then some 13 else if c = 102 then some 12 else if c = 34 then some 34 else if c = 39 then some 39 else if c = 92 then some 92 else none
/-- What stands behind a backslash: the bytes, and how many it has with the backslash. -/
def escL (all : Bool) : List Int → Option (List Int × Nat)
  | [] => none
  | c :: r => if c = 117 then numL 4 r else if c = 85 then numL 8 r else if all = true then (shortE c).map (fun x => ([x], 2)) else none
theorem escL_pos {all : Bool} {l b : List Int} {k : Nat} (h : escL all l = some (b, k)) : 2 ≤ k ∧ k ≤ l.length + 1 := by
  cases l with
  | nil => cases h
  | cons c r =>
    rw [escL] at h
    split at h
    · unfold numL at h
      split at h
      · rename_i h1
        simp only [Option.some.injEq, Prod.mk.injEq] at h
        simp only [List.length_cons]; omega
      · cases h
    · split at h
      · unfold numL at h
        split at h
        · rename_i h1
          simp only [Option.some.injEq, Prod.mk.injEq] at h
          simp only [List.length_cons]; omega
        · cases h
      · split at h
        · cases hs : shortE c with
          | none => rw [hs] at h; cases h
          | some y =>
            rw [hs] at h
            simp only [Option.map_some, Option.some.injEq, Prod.mk.injEq] at h
            simp only [List.length_cons]; omega
        · cases h

/-- What is denoted up to a stop, and how many bytes that is, the stop counted. -/
def denF (nl all : Bool) (stop : Int) : Nat → List Int → Option (List Int × Nat)
  | 0, _ => none
  | _ + 1, [] => none
  | f + 1, c :: l =>
    if c = stop then some ([], 1)
    else if nl = true ∧ (c = 10 ∨ c = 13) then none
    else if c = 92 then
      match escL all l with
      | none => none
      | some (b, k) => (denF nl all stop f (l.drop (k - 1))).map fun x => (b ++ x.1, k + x.2)
    else (denF nl all stop f l).map fun x => (c :: x.1, 1 + x.2)
theorem denF_fuel (nl all : Bool) (stop : Int) : ∀ (f g : Nat) (l : List Int), l.length ≤ f → l.length ≤ g → denF nl all stop f l = denF nl all stop g l
  | 0, g, l, h, _ => by
    obtain rfl : l = [] := List.eq_nil_of_length_eq_zero (by omega)
    cases g <;> rfl
  | f + 1, 0, l, _, h => by
    obtain rfl : l = [] := List.eq_nil_of_length_eq_zero (by omega)
    rfl
  | f + 1, g + 1, [], _, _ => rfl
  | f + 1, g + 1, c :: l, h1, h2 => by
    simp only [List.length_cons] at h1 h2
    unfold denF
    rw [denF_fuel nl all stop f g l (by omega) (by omega)]
    cases he : escL all l with
    | none => rfl
    | some x =>
      obtain ⟨b, k⟩ := x
      have := escL_pos he
      simp only
      rw [denF_fuel nl all stop f g (l.drop (k - 1)) (by rw [List.length_drop]; omega) (by rw [List.length_drop]; omega)]
def den (nl all : Bool) (stop : Int) (l : List Int) : Option (List Int × Nat) := denF nl all stop l.length l
theorem den_cons (nl all : Bool) (stop c : Int) (l : List Int) : den nl all stop (c :: l) =
    if c = stop then some ([], 1)
    else if nl = true ∧ (c = 10 ∨ c = 13) then none
    else if c = 92 then
      match escL all l with
      | none => none
      | some (b, k) => (den nl all stop (l.drop (k - 1))).map fun x => (b ++ x.1, k + x.2)
    else (den nl all stop l).map fun x => (c :: x.1, 1 + x.2) := by
  unfold den
  rw [List.length_cons]
  conv => lhs; unfold denF
  cases he : escL all l with
  | none => rfl
  | some x =>
    obtain ⟨b, k⟩ := x
    have := escL_pos he
    simp only
    rw [denF_fuel nl all stop l.length (l.drop (k - 1)).length (l.drop (k - 1)) (by rw [List.length_drop]; omega) (Nat.le_refl _)]
theorem den_pos {nl all : Bool} {stop : Int} : ∀ {n : Nat} {l t : List Int} {k : Nat}, l.length ≤ n → den nl all stop l = some (t, k) → 1 ≤ k ∧ k ≤ l.length
  | n, [], t, k, _, h => by cases h
  | 0, c :: l, t, k, hn, h => by simp at hn
  | n + 1, c :: l, t, k, hn, h => by
    simp only [List.length_cons] at hn ⊢
    rw [den_cons] at h
    split at h
    · simp only [Option.some.injEq, Prod.mk.injEq] at h; omega
    · split at h
      · cases h
      · split at h
        · cases he : escL all l with
          | none => rw [he] at h; cases h
          | some x =>
            obtain ⟨b, k'⟩ := x
            rw [he] at h
            have hp := escL_pos he
            simp only at h
            cases hd : den nl all stop (l.drop (k' - 1)) with
            | none => rw [hd] at h; cases h
            | some y =>
              obtain ⟨t', k2⟩ := y
              rw [hd] at h
              simp only [Option.map_some, Option.some.injEq, Prod.mk.injEq] at h
              have := den_pos (n := n) (by rw [List.length_drop]; omega) hd
              rw [List.length_drop] at this
              omega
        · cases hd : den nl all stop l with
          | none => rw [hd] at h; cases h
          | some y =>
            obtain ⟨t', k2⟩ := y
            rw [hd] at h
            simp only [Option.map_some, Option.some.injEq, Prod.mk.injEq] at h
            have := den_pos (n := n) (by omega) hd
            omega

def quotedT (l : List Int) : Took :=
  if [34].isPrefixOf l = true then
    match den true true 34 (l.drop 1) with
    | none => .bad
    | some (t, n) => .got (symT 3 t) (1 + n)
  else .no
def iriT (l : List Int) : Took :=
  if [60].isPrefixOf l = true then
    match den true false 62 (l.drop 1) with
    | none => .bad
    | some (t, n) => if isIRIB t = true then .got ⟨1, [], 1, t, [], 0⟩ (1 + n) else .bad
  else .no

/-- The first that is not 'no'. -/
def Took.or : Took → Took → Took
  | .no, b => b
  | a, _ => a
def takers (l : List Int) : List Took := [markT l, nameT l, wordT l, varT l, quotedT l, iriT l, blankT l, langT l]
def firstT : List Took → Took
  | [] => .bad
  | .no :: r => firstT r
  | x :: _ => x
def one (l : List Int) : Took := firstT (takers l)

theorem runL_le (p : Int → Bool) (l : List Int) : spanL p l ≤ l.length := by
  unfold spanL
  exact List.Sublist.length_le (List.takeWhile_sublist p)
theorem prefix_len {a l : List Int} (h : a.isPrefixOf l = true) : a.length ≤ l.length := List.IsPrefix.length_le (List.isPrefixOf_iff_prefix.1 h)
theorem markT_pos {l : List Int} {x : Sym} {n : Nat} (h : markT l = .got x n) : 1 ≤ n ∧ n ≤ l.length := by
  unfold markT at h
  cases hf : markL.find? (fun m => m.isPrefixOf l) with
  | none => rw [hf] at h; cases h
  | some m =>
    rw [hf] at h
    simp only [Took.got.injEq] at h
    have h1 := List.find?_some hf
    have h2 := List.mem_of_find?_eq_some hf
    have h3 := prefix_len h1
    have h4 : ∀ m ∈ markL, 1 ≤ m.length := by decide
    have := h4 m h2
    omega
theorem takers_pos {l : List Int} {x : Sym} {n : Nat} : ∀ T ∈ takers l, T = .got x n → 1 ≤ n ∧ n ≤ l.length := by
  intro T hT h
  subst h
  unfold takers at hT
  simp only [List.mem_cons, List.not_mem_nil, or_false] at hT
  rcases hT with h | h | h | h | h | h | h | h
  · exact markT_pos h.symm
  · unfold nameT at h
    split at h
    · rename_i hc
      split at h
      · cases h
      · simp only [Took.got.injEq] at h
        have h1 := runL_le letterDigit l
        have h2 := runL_le localC (l.drop (spanL letterDigit l + 1))
        unfold colonB at hc
        rw [Bool.and_eq_true] at hc
        have h3 := prefix_len hc.1
        rw [List.length_drop] at h2 h3
        simp only [List.length_cons, List.length_nil] at h3
        omega
    · cases h
  · unfold wordT at h
    split at h
    · cases h
    · split at h
      · simp only [Took.got.injEq] at h
        have h1 := runL_le letterDigit l
        omega
      · cases h
  · unfold varT at h
    split at h
    · rename_i hc
      have h3 := prefix_len hc
      split at h
      · simp only [Took.got.injEq] at h
        have h1 := runL_le letterDigit (l.drop 1)
        rw [List.length_drop] at h1
        simp only [List.length_cons, List.length_nil] at h3
        omega
      · cases h
    · cases h
  · unfold quotedT at h
    split at h
    · rename_i hc
      have h3 := prefix_len hc
      simp only [List.length_cons, List.length_nil] at h3
      split at h
      · cases h
      · rename_i t k hd
        simp only [Took.got.injEq] at h
        have := den_pos (Nat.le_refl _) hd
        rw [List.length_drop] at this
        omega
    · cases h
  · unfold iriT at h
    split at h
    · rename_i hc
      have h3 := prefix_len hc
      simp only [List.length_cons, List.length_nil] at h3
      split at h
      · cases h
      · rename_i t k hd
        split at h
        · simp only [Took.got.injEq] at h
          have := den_pos (Nat.le_refl _) hd
          rw [List.length_drop] at this
          omega
        · cases h
    · cases h
  · unfold blankT at h
    split at h
    · rename_i hc
      have h3 := prefix_len hc
      split at h
      · simp only [Took.got.injEq] at h
        have h1 := runL_le letterDigit (l.drop 2)
        rw [List.length_drop] at h1
        simp only [List.length_cons, List.length_nil] at h3
        omega
      · cases h
    · cases h
  · unfold langT at h
    split at h
    · rename_i hc
      have h3 := prefix_len hc
      split at h
      · simp only [Took.got.injEq] at h
        have h1 := runL_le langC (l.drop 1)
        rw [List.length_drop] at h1
        simp only [List.length_cons, List.length_nil] at h3
        omega
      · cases h
    · cases h
theorem firstT_mem {x : Sym} {n : Nat} : ∀ {L : List Took}, firstT L = .got x n → .got x n ∈ L
  | [], h => by cases h
  | .no :: r, h => List.mem_cons_of_mem _ (firstT_mem (L := r) h)
  | .bad :: r, h => by cases h
  | .got y k :: r, h => by rw [firstT] at h; rw [h]; exact List.mem_cons_self; all_goals (intro h; cases h)
theorem one_pos {l : List Int} {x : Sym} {n : Nat} (h : one l = .got x n) : 1 ≤ n ∧ n ≤ l.length := takers_pos _ (firstT_mem h) rfl

theorem sk_le : ∀ (b : Bool) (l : List Int), sk b l ≤ l.length
  | b, [] => by cases b <;> exact Nat.le_refl _
  | true, c :: l => by
    have h1 := sk_le true l
    have h2 := sk_le false l
    unfold sk
    simp only [List.length_cons]
    split <;> omega
  | false, c :: l => by
    have h1 := sk_le true l
    have h2 := sk_le false l
    unfold sk
    simp only [List.length_cons]
    split
    · omega
    · split <;> omega

/-- All symbols up to the first place where none is, and that place. -/
def toksF : Nat → List Int → Nat → List Sym × Nat
  | 0, _, p => ([], p)
  | f + 1, l, p =>
    if l.drop (sk false l) = [] then ([], p + sk false l)
    else match one (l.drop (sk false l)) with
    | .got x n => ({ x with place := p + sk false l } :: (toksF f (l.drop (sk false l + n)) (p + sk false l + n)).1, (toksF f (l.drop (sk false l + n)) (p + sk false l + n)).2)
    | _ => ([], p + sk false l)
theorem toksF_fuel : ∀ (f g : Nat) (l : List Int) (p : Nat), l.length < f → l.length < g → toksF f l p = toksF g l p
  | 0, g, l, p, h, _ => by omega
  | f + 1, 0, l, p, _, h => by omega
  | f + 1, g + 1, l, p, h1, h2 => by
    unfold toksF
    split
    · rfl
    · cases ho : one (l.drop (sk false l)) with
      | no => rfl
      | bad => rfl
      | got x n =>
        have := one_pos ho
        simp only
        rw [List.length_drop] at this
        rw [toksF_fuel f g _ _ (by rw [List.length_drop]; omega) (by rw [List.length_drop]; omega)]
def toks (l : List Int) (p : Nat) : List Sym × Nat := toksF (l.length + 1) l p
theorem toks_eq (l : List Int) (p : Nat) : toks l p =
    if l.drop (sk false l) = [] then ([], p + sk false l)
    else match one (l.drop (sk false l)) with
    | .got x n => ({ x with place := p + sk false l } :: (toks (l.drop (sk false l + n)) (p + sk false l + n)).1, (toks (l.drop (sk false l + n)) (p + sk false l + n)).2)
    | _ => ([], p + sk false l) := by
  unfold toks
  conv => lhs; unfold toksF
  split
  · rfl
  · cases ho : one (l.drop (sk false l)) with
    | no => rfl
    | bad => rfl
    | got x n =>
      have := one_pos ho
      rw [List.length_drop] at this
      simp only
      rw [toksF_fuel l.length ((l.drop (sk false l + n)).length + 1) (l.drop (sk false l + n)) _ (by rw [List.length_drop]; omega) (by omega)]

/-- One step of it: the next symbol, and where it ends; or none, and where that is. -/
def nextL (l : List Int) : Option (Sym × Nat) :=
  if l.drop (sk false l) = [] then none
  else match one (l.drop (sk false l)) with
  | .got x n => some ({ x with place := sk false l }, sk false l + n)
  | _ => none
def Sym.move (x : Sym) (p : Nat) : Sym := { x with place := p + x.place }
theorem toks_next (l : List Int) (p : Nat) : toks l p = match nextL l with
    | none => ([], p + sk false l)
    | some (x, n) => (x.move p :: (toks (l.drop n) (p + n)).1, (toks (l.drop n) (p + n)).2) := by
  rw [toks_eq]
  unfold nextL
  split
  · rfl
  · cases ho : one (l.drop (sk false l)) with
    | no => rfl
    | bad => rfl
    | got x n =>
      simp only [Sym.move, Nat.add_assoc]
theorem nextL_pos {l : List Int} {x : Sym} {n : Nat} (h : nextL l = some (x, n)) : 1 ≤ n ∧ n ≤ l.length := by
  unfold nextL at h
  split at h
  · cases h
  · cases ho : one (l.drop (sk false l)) with
    | no => rw [ho] at h; cases h
    | bad => rw [ho] at h; cases h
    | got y k =>
      rw [ho] at h
      simp only [Option.some.injEq, Prod.mk.injEq] at h
      have h1 := one_pos ho
      have h2 := sk_le false l
      rw [List.length_drop] at h1
      omega
/-- What All answers of a well-formed text. -/
def allL (l : List Int) : List Sym × Nat := toks l 0
end Go.Proofs.YtbcoklbfebmpoaaGreatDoor.Lex

