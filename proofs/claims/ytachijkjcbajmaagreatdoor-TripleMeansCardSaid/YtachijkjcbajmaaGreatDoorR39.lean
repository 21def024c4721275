/-
  WHAT THE PROOF STANDS ON, a part of it: NtMath, NtTake.
-/
import Derived.Test.YtachijkjcbajmaaGreatDoorR38
import Derived.Test.YtachijkjcbajmaaGreatDoorR32
import Derived.Test.YtachijkjcbajmaaGreatDoorR10
/-
  PLAIN MATHEMATICS OF LAYER 5: triples as texts.
-/

namespace Go.Proofs.YtachijkjcbajmaaGreatDoor
open Go.RowKit
open Utf Term Lex

/-- No prefixes. -/
abbrev noP : ByteArray → Option ByteArray := fun _ => none
theorem noP_small : ∀ a b, noP a = some b → b.size ≤ 1000000000 := fun _ _ h => by cases h

/-- n terms, or the symbols from the one on that is none. -/
inductive Took3 where
  | no (l : List Sym) | yes (ts : List TermD) (l : List Sym)
def Took3.put (ts : List TermD) : Took3 → Took3
  | .no l => .no l
  | .yes us l => .yes (ts ++ us) l
def threeS : Nat → List Sym → Took3
  | 0, L => .yes [] L
  | n + 1, L => match readS noP L with
    | none => .no L
    | some (t, k) => (threeS n (L.drop k)).put [t]
theorem put_put (a b : List TermD) (r : Took3) : (r.put b).put a = r.put (a ++ b) := by
  cases r with
  | no l => rfl
  | yes us l => simp [Took3.put]
theorem put_nil (r : Took3) : r.put [] = r := by cases r <;> rfl
theorem threeS_sub : ∀ {n : Nat} {L ts : List _} {l : List Sym}, threeS n L = .yes ts l → ts.length = n ∧ ∃ k, l = L.drop k ∧ k ≤ L.length ∧ (0 < n → 0 < k)
  | 0, L, ts, l, h => by
    simp only [threeS, Took3.yes.injEq] at h
    obtain ⟨rfl, rfl⟩ := h
    exact ⟨rfl, 0, rfl, Nat.zero_le _, fun h => absurd h (by omega)⟩
  | n + 1, L, ts, l, h => by
    rw [threeS] at h
    cases hr : readS noP L with
    | none => rw [hr] at h; cases h
    | some x =>
      obtain ⟨t, k⟩ := x
      rw [hr] at h
      simp only at h
      have hp := readS_pos hr
      cases ht : threeS n (L.drop k) with
      | no l' => rw [ht] at h; cases h
      | yes us l' =>
        rw [ht] at h
        simp only [Took3.put, Took3.yes.injEq] at h
        obtain ⟨rfl, rfl⟩ := h
        obtain ⟨h1, j, h2, h3, _⟩ := threeS_sub ht
        rw [List.length_drop] at h3
        exact ⟨by simp [h1], k + j, by rw [h2, List.drop_drop], by omega, fun _ => by omega⟩
theorem threeS_no : ∀ {n : Nat} {L : List Sym} {l : List Sym}, threeS n L = .no l → ∃ k, l = L.drop k
  | 0, L, l, h => by cases h
  | n + 1, L, l, h => by
    rw [threeS] at h
    cases hr : readS noP L with
    | none => rw [hr] at h; cases h; exact ⟨0, rfl⟩
    | some x =>
      obtain ⟨t, k⟩ := x
      rw [hr] at h
      simp only at h
      cases ht : threeS n (L.drop k) with
      | no l' =>
        rw [ht] at h
        cases h
        obtain ⟨j, hj⟩ := threeS_no ht
        exact ⟨k + j, by rw [hj, List.drop_drop]⟩
      | yes us l' => rw [ht] at h; cases h

/-- A triple and its end. -/
inductive Stm where
  | no (l : List Sym) | yes (t : TripD) (l : List Sym)
def isEnd (x : Sym) : Bool := decide (x.kind = 8) && decide (x.text = [46])
def endS (t : TripD) : List Sym → Stm
  | [] => .no []
  | x :: r => if isEnd x = true then .yes t r else .no (x :: r)
def tripS (L : List Sym) : Took3 → Stm
  | .no l => .no l
  | .yes [a, b, c] l => if addD a b c = true then endS (a, b, c) l else .no L
  | .yes _ l => .no l
def stmS (L : List Sym) : Stm := tripS L (threeS 3 L)
theorem stmS_yes {L : List Sym} {t : TripD} {l : List Sym} (h : stmS L = .yes t l) : ∃ k, l = L.drop k ∧ 0 < k ∧ k ≤ L.length := by
  unfold stmS at h
  cases ht : threeS 3 L with
  | no l' => rw [ht] at h; cases h
  | yes ts l' =>
    rw [ht] at h
    obtain ⟨h1, k, rfl, h2, h3⟩ := threeS_sub ht
    match ts, h1 with
    | [a, b, c], _ =>
      simp only [tripS] at h
      split at h
      · cases hl : L.drop k with
        | nil => rw [hl] at h; cases h
        | cons x r =>
          rw [hl, endS] at h
          split at h
          · simp only [Stm.yes.injEq] at h
            have hlen : (L.drop k).length = r.length + 1 := by rw [hl]; rfl
            rw [List.length_drop] at hlen
            refine ⟨k + 1, ?_, by omega, by omega⟩
            rw [← h.2, ← List.drop_drop, hl]
            rfl
          · cases h
      · cases h
theorem stmS_no {L : List Sym} {l : List Sym} (h : stmS L = .no l) : ∃ k, l = L.drop k := by
  unfold stmS at h
  cases ht : threeS 3 L with
  | no l' =>
    rw [ht] at h
    cases h
    exact threeS_no ht
  | yes ts l' =>
    rw [ht] at h
    obtain ⟨h1, k, rfl, h2, h3⟩ := threeS_sub ht
    match ts, h1 with
    | [a, b, c], _ =>
      simp only [tripS] at h
      split at h
      · cases hl : L.drop k with
        | nil => rw [hl] at h; cases h; exact ⟨k, hl.symm⟩
        | cons x r =>
          rw [hl, endS] at h
          split at h
          · cases h
          · cases h; exact ⟨k, hl.symm⟩
      · cases h; exact ⟨0, rfl⟩

/-- The triples of symbols, or the symbols from the one on that is wrong. -/
inductive Par where
  | no (l : List Sym) | yes (ts : List TripD)
def Par.put (ts : List TripD) : Par → Par
  | .no l => .no l
  | .yes us => .yes (ts ++ us)
theorem Par.put_put (a b : List TripD) (r : Par) : (r.put b).put a = r.put (a ++ b) := by
  cases r with
  | no l => rfl
  | yes us => simp [Par.put]
theorem Par.put_nil (r : Par) : r.put [] = r := by cases r <;> rfl
def parseF : Nat → List Sym → Par
  | _, [] => .yes []
  | 0, x :: L => .no (x :: L)
  | f + 1, x :: L => match stmS (x :: L) with
    | .no l => .no l
    | .yes t l => (parseF f l).put [t]
def parseS (L : List Sym) : Par := parseF L.length L
theorem parseF_fuel : ∀ {f g : Nat} {L : List Sym}, L.length ≤ f → L.length ≤ g → parseF f L = parseF g L
  | f, g, [], _, _ => by cases f <;> cases g <;> rfl
  | 0, g, x :: L, h, _ => by simp at h
  | f + 1, 0, x :: L, _, h => by simp at h
  | f + 1, g + 1, x :: L, h1, h2 => by
    rw [parseF, parseF]
    cases hs : stmS (x :: L) with
    | no l => rfl
    | yes t l =>
      obtain ⟨k, rfl, hk, _⟩ := stmS_yes hs
      simp only [List.length_cons] at h1 h2
      simp only
      rw [parseF_fuel (f := f) (g := g) (by rw [List.length_drop, List.length_cons]; omega) (by rw [List.length_drop, List.length_cons]; omega)]
theorem parseS_nil : parseS [] = .yes [] := rfl
theorem parseS_cons (L : List Sym) (h : L ≠ []) : parseS L = match stmS L with
    | .no l => .no l
    | .yes t l => (parseS l).put [t] := by
  cases L with
  | nil => exact absurd rfl h
  | cons x L =>
    unfold parseS
    rw [List.length_cons, parseF]
    cases hs : stmS (x :: L) with
    | no l => rfl
    | yes t l =>
      obtain ⟨k, rfl, hk, _⟩ := stmS_yes hs
      simp only
      rw [parseF_fuel (f := L.length) (by rw [List.length_drop, List.length_cons]; omega) (Nat.le_refl _)]

/-- Where the first symbol begins; if there is none, the end. -/
def placeS (n : Nat) : List Sym → Nat
  | [] => n
  | x :: _ => x.place

/-- What a document is: its triples, or the position and the number of what is wrong. -/
inductive DocR where
  | bad (p c : Nat) | good (ts : List TripD)
def docOf (n : Nat) : Par → DocR
  | .no l => .bad (placeS n l) 4
  | .yes ts => .good ts
def docS (s : ByteArray) : DocR :=
  if 1048576 < s.size then .bad 0 3
  else if wfL (bs s) < s.size then .bad (wfL (bs s)) 4
  else if (allL (bs s)).2 < s.size then .bad (allL (bs s)).2 4
  else docOf s.size (parseS (allL (bs s)).1)
theorem docS_bad {s : ByteArray} {p c : Nat} (h : docS s = .bad p c) : c = 3 ∨ c = 4 := by
  unfold docS at h
  split at h
  · simp only [DocR.bad.injEq] at h; omega
  · split at h
    · simp only [DocR.bad.injEq] at h; omega
    · split at h
      · simp only [DocR.bad.injEq] at h; omega
      · cases hp : parseS (allL (bs s)).1 with
        | no l =>
          rw [hp] at h
          simp only [docOf, DocR.bad.injEq] at h
          omega
        | yes ts => rw [hp] at h; cases h
end Go.Proofs.YtachijkjcbajmaaGreatDoor
/-
  CONTRACTS OF ntriples.taking, the taker, place.
-/

namespace Go.Proofs.YtachijkjcbajmaaGreatDoor
open Go.RowKit
open Utf Term Lex
set_option linter.unusedVariables false
set_option linter.unusedSimpArgs false

abbrev takerV (tb : Nat) : Value := .func (.func 67) #[] #[.pointer (some ⟨tb, 0, none⟩)]
set_option maxRecDepth 100000 in
theorem ntTaking_any (p : Option Addr) (n cap : Nat) (w : World) : Calls Tryz.prog 36 #[.slice p n cap] w fun e w' => e = .returned (takerV w.heap.size) ∧ w' = w.alloc (.cells #[.slice p n cap] 25) := by
  have hmf : ∀ (fn : Fn) (first cap : Array Value) (w : World), (Instr.makeFunc fn first cap).run Tryz.prog w = .ok (.func fn first cap) w := fun _ _ _ _ => rfl
  go_enter Tryz.func36, Tryz.ntmps36
  go_wp2
  go_ret
  exact ⟨rfl, rfl⟩

/-- A taker's box, and what lies in it. -/
structure TkAt (W : World) (tb : Nat) (v : Value) (L : List Sym) : Prop where
  blk : BlockAt W tb #[v] 25
  sl : SlA W v L
theorem TkAt.below {W U : World} {tb : Nat} {v : Value} {L : List Sym} (h : TkAt W tb v L) (k : Below W.heap.size W U) : TkAt U tb v L := ⟨h.blk.kept k, h.sl.below k⟩
theorem RowS.apart {W : World} {tb g o : Nat} {v : Value} {L : List Sym} (hb : BlockAt W tb #[v] 25) (hr : RowS W g o L) (hl : 0 < L.length) : g ≠ tb := by
  rintro rfl
  have hx : (flatS L)[1]? = some ((flatS L)[1]'(by rw [flatS_length]; omega)) := List.getElem?_eq_getElem _
  have := hr 1 _ hx
  unfold World.cell? at this
  unfold BlockAt at hb
  rw [hb] at this
  simp at this
/-- The row is as it was when another block's cell is set. -/
theorem RowS.other {W : World} {tb g o : Nat} {v u : Value} {L : List Sym} (hb : BlockAt W tb #[v] 25) (hr : RowS W g o L) : RowS (W.setCell ⟨tb, 0, none⟩ u) g o L := by
  intro j x hx
  have hl : 0 < L.length := by
    have := (List.getElem?_eq_some_iff.1 hx).1
    rw [flatS_length] at this
    omega
  have hne := RowS.apart hb hr hl
  have h1 := hr j x hx
  unfold World.cell? at h1 ⊢
  rw [Below.heap_setCell W ⟨tb, 0, none⟩ u g hne]
  exact h1

/-- A slice that holds something lies in a block below B. -/
def LowV (B : Nat) (v : Value) : Prop := ∀ g o n c, v = .slice (some ⟨g, o, none⟩) n c → 0 < n → g < B
theorem SlA.low {W : World} {v : Value} {L : List Sym} (h : SlA W v L) : LowV W.heap.size v := by
  intro g o n c e hn
  rcases h with ⟨rfl, _⟩ | ⟨g', o', cap, rfl, h1, h2, h3⟩
  · cases e
  · cases e
    have hx : (flatS L)[0]? = some ((flatS L)[0]'(by rw [flatS_length]; omega)) := List.getElem?_eq_getElem _
    exact World.block_lt_of_cell? _ _ (h3 0 _ hx)
theorem SlA.under {W U : World} {B : Nat} {v : Value} {L : List Sym} (h : SlA W v L) (hl : LowV B v) (k : Below B W U) : SlA U v L := by
  rcases h with h | ⟨g, o, cap, rfl, h1, h2, h3⟩
  · exact .inl h
  · refine .inr ⟨g, o, cap, rfl, h1, h2, fun j u e => ?_⟩
    have hn : 0 < L.length := by
      have := (List.getElem?_eq_some_iff.1 e).1
      rw [flatS_length] at this
      omega
    exact (k.cell (p := ⟨g, o + j, none⟩) (hl g o _ _ rfl hn)).trans (h3 j u e)
theorem TkAt.under {W U : World} {B tb : Nat} {v : Value} {L : List Sym} (h : TkAt W tb v L) (hl : LowV B v) (ht : tb < B) (k : Below B W U) : TkAt U tb v L := ⟨h.blk.under k ht, h.sl.under hl k⟩

set_option maxRecDepth 100000 in
set_option maxHeartbeats 4000000 in
theorem ntTake_any (tb n : Nat) (v : Value) (L : List Sym) (hn : n ≤ L.length) (hN : L.length ≤ 1000000000) (w : World) (h : TkAt w tb v L) :
    Calls Tryz.prog 67 #[.int .i64 n, .pointer (some ⟨tb, 0, none⟩)] w fun e w' => ∃ v', e = .returned v' ∧ TkAt w' tb v' (L.drop n) ∧ Moves tb w w' ∧ ∀ B, LowV B v → LowV B v' := by
  obtain ⟨hb, hs⟩ := h
  have c0 := hb.cell (j := 0) rfl
  have cf : ∀ j, w.frozen? ⟨tb, j, none⟩ = false := fun j => hb.free j
  have n0 : (0 : Int) ≤ (n : Int) := by omega
  rcases hs with ⟨rfl, rfl⟩ | ⟨g, o, cap, rfl, h1, h2, h3⟩
  · obtain rfl : n = 0 := by simpa using hn
    have HB := Lib.hid hb
    clear hb
    go_enter Tryz.func67, Tryz.ntmps67
    go_wp2
    go_ret
    exact ⟨_, rfl, ⟨HB.out.set 0 _, .inl ⟨rfl, rfl⟩⟩, Moves.refl.set 0 _, fun B h => h⟩
  · have HB := Lib.hid hb
    have HR := Lib.hid h3
    have HN := Lib.hid hn
    obtain ⟨len, hlen⟩ : ∃ len, len = L.length := ⟨_, rfl⟩
    have HL := Lib.hid hlen
    rw [← hlen] at hn h1 hN c0 HB
    have n1 : (n : Int) ≤ (len : Int) := by omega
    have n2 : (len : Int) ≤ (cap : Int) := by omega
    have n3 : (n : Int) ≤ (cap : Int) := by omega
    clear hb h3 hlen
    go_enter Tryz.func67, Tryz.ntmps67
    go_wp2
    · go_ret
      have hl0 : len - n = 0 := by omega
      have hd : L.drop n = [] := List.drop_eq_nil_of_le (by have := HL.out; omega)
      refine ⟨_, rfl, ⟨HB.out.set 0 _, ?_⟩, Moves.refl.set 0 _, fun B h g' o' n' c' e hn => ?_⟩
      rotate_left
      · cases e
        omega
      rw [hd, hl0]
      exact SlA.nil _ g o 0 (Nat.zero_le _)
    · go_ret
      have hl0 : len - n = (L.drop n).length := by rw [List.length_drop, HL.out]
      refine ⟨_, rfl, ⟨HB.out.set 0 _, ?_⟩, Moves.refl.set 0 _, fun B h g' o' n' c' e hn => ?_⟩
      rotate_left
      · cases e
        exact h g o len cap (by rw [HL.out]) (by omega)
      exact .inr ⟨g, o + n * 6, cap - n, by rw [hl0]; rfl, by omega, by omega, (HR.out.drop HN.out).other HB.out⟩

set_option maxRecDepth 100000 in
set_option maxHeartbeats 4000000 in
theorem ntPlace_any (v : Value) (L : List Sym) (n : Nat) (w : World) (h : SlA w v L) :
    Calls Tryz.prog 38 #[v, .int .i64 n] w fun e w' => e = .returned (.int .i64 (placeS n L)) ∧ w = w' := by
  by_cases h0 : L = []
  · subst h0
    obtain ⟨p, cap, rfl⟩ : ∃ p cap, v = .slice p 0 cap := by
      rcases h with ⟨rfl, _⟩ | ⟨g, o, cap, rfl, _⟩
      · exact ⟨_, _, rfl⟩
      · exact ⟨_, _, rfl⟩
    clear h
    go_enter Tryz.func38, Tryz.ntmps38
    go_wp2
    go_ret
    exact ⟨rfl, rfl⟩
  · rcases h with ⟨_, h⟩ | ⟨g, o, cap, rfl, h1, h2, h3⟩
    · exact absurd h h0
    obtain ⟨x, r, rfl⟩ : ∃ x r, L = x :: r := by
      cases L with
      | nil => exact absurd rfl h0
      | cons x r => exact ⟨x, r, rfl⟩
    have s5 : w.cell? ⟨g, o + 5, none⟩ = some (.int .i64 x.place) := by
      have := h3.six (i := 0) (x := x) rfl 5 (by omega)
      rw [Nat.zero_mul, Nat.add_zero] at this
      exact this
    have d0 : ((List.length (x :: r) : Int) == 0) = false := by simp <;> omega
    have l0 : (0 : Int) < (List.length (x :: r) : Int) := by simp <;> omega
    generalize List.length (x :: r) = len at *
    clear h3 h0
    go_enter Tryz.func38, Tryz.ntmps38
    go_wp2
    go_ret
    exact ⟨rfl, rfl⟩
end Go.Proofs.YtachijkjcbajmaaGreatDoor
