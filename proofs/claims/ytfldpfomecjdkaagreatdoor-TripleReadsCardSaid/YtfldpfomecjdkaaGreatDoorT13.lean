/-
  WHAT THE PROOF STANDS ON, a part of it: NtMath, NtTake, NtStm.
-/
import Derived.Test.YtfldpfomecjdkaaGreatDoorS34
import Derived.Test.YtfldpfomecjdkaaGreatDoorT12
import Derived.Test.YtfldpfomecjdkaaGreatDoorT3
import Derived.Deep.DeepCutAuto
/-
  PLAIN MATHEMATICS OF LAYER 5: triples as texts.
-/

namespace Go.Proofs.YtfldpfomecjdkaaGreatDoor
open Go.RowKit
open Utf Term Lex

/-- No prefixes. -/
abbrev noP : ByteArray → Option ByteArray := fun _ => none
theorem noP_small : ∀ a b, noP a = some b → b.size ≤ 1000000000 := fun _ _ h => by cases h

/-- n terms, or the symbols from the one on that is none. -/
inductive Took3 where
  | no (l : List Sym) | yes (ts : List TermD) (l : List Sym)
def Took3.put (ts : List TermD) : Took3 → Took3
  | .no l => .no l
  | .yes us l => .yes (ts ++ us) l
def threeS : Nat → List Sym → Took3
  | 0, L => .yes [] L
  | n + 1, L => match readS noP L with
    | none => .no L
    | some (t, k) => (threeS n (L.drop k)).put [t]
theorem put_put (a b : List TermD) (r : Took3) : (r.put b).put a = r.put (a ++ b) := by
  cases r with
  | no l => rfl
  | yes us l => simp [Took3.put]
theorem put_nil (r : Took3) : r.put [] = r := by cases r <;> rfl
theorem threeS_sub : ∀ {n : Nat} {L ts : List _} {l : List Sym}, threeS n L = .yes ts l → ts.length = n ∧ ∃ k, l = L.drop k ∧ k ≤ L.length ∧ (0 < n → 0 < k)
  | 0, L, ts, l, h => by
    simp only [threeS, Took3.yes.injEq] at h
    obtain ⟨rfl, rfl⟩ := h
    exact ⟨rfl, 0, rfl, Nat.zero_le _, fun h => absurd h (by omega)⟩
  | n + 1, L, ts, l, h => by
    rw [threeS] at h
    cases hr : readS noP L with
    | none => rw [hr] at h; cases h
    | some x =>
      obtain ⟨t, k⟩ := x
      rw [hr] at h
      simp only at h
      have hp := readS_pos hr
      cases ht : threeS n (L.drop k) with
      | no l' => rw [ht] at h; cases h
      | yes us l' =>
        rw [ht] at h
        simp only [Took3.put, Took3.yes.injEq] at h
        obtain ⟨rfl, rfl⟩ := h
        obtain ⟨h1, j, h2, h3, _⟩ := threeS_sub ht
        rw [List.length_drop] at h3
        exact ⟨by simp [h1], k + j, by rw [h2, List.drop_drop], by omega, fun _ => by omega⟩
theorem threeS_no : ∀ {n : Nat} {L : List Sym} {l : List Sym}, threeS n L = .no l → ∃ k, l = L.drop k
  | 0, L, l, h => by cases h
  | n + 1, L, l, h => by
    rw [threeS] at h
    cases hr : readS noP L with
    | none => rw [hr] at h; cases h; exact ⟨0, rfl⟩
    | some x =>
      obtain ⟨t, k⟩ := x
      rw [hr] at h
      simp only at h
      cases ht : threeS n (L.drop k) with
      | no l' =>
        rw [ht] at h
        cases h
        obtain ⟨j, hj⟩ := threeS_no ht
        exact ⟨k + j, by rw [hj, List.drop_drop]⟩
      | yes us l' => rw [ht] at h; cases h

/-- A triple and its end. -/
inductive Stm where
  | no (l : List Sym) | yes (t : TripD) (l : List Sym)
def isEnd (x : Sym) : Bool := decide (x.kind = 8) && decide (x.text = [46])
def endS (t : TripD) : List Sym → Stm
  | [] => .no []
  | x :: r => if isEnd x = true then .yes t r else .no (x :: r)
def tripS (L : List Sym) : Took3 → Stm
  | .no l => .no l
  | .yes [a, b, c] l => if addD a b c = true then endS (a, b, c) l else .no L
  | .yes _ l => .no l
def stmS (L : List Sym) : Stm := tripS L (threeS 3 L)
theorem stmS_yes {L : List Sym} {t : TripD} {l : List Sym} (h : stmS L = .yes t l) : ∃ k, l = L.drop k ∧ 0 < k ∧ k ≤ L.length := by
  unfold stmS at h
  cases ht : threeS 3 L with
  | no l' => rw [ht] at h; cases h
  | yes ts l' =>
    rw [ht] at h
    obtain ⟨h1, k, rfl, h2, h3⟩ := threeS_sub ht
    match ts, h1 with
    | [a, b, c], _ =>
      simp only [tripS] at h
      split at h
      · cases hl : L.drop k with
        | nil => rw [hl] at h; cases h
        | cons x r =>
          rw [hl, endS] at h
          split at h
          · simp only [Stm.yes.injEq] at h
            have hlen : (L.drop k).length = r.length + 1 := by rw [hl]; rfl
            rw [List.length_drop] at hlen
            refine ⟨k + 1, ?_, by omega, by omega⟩
            rw [← h.2, ← List.drop_drop, hl]
            rfl
          · cases h
      · cases h
theorem stmS_no {L : List Sym} {l : List Sym} (h : stmS L = .no l) : ∃ k, l = L.drop k := by
  unfold stmS at h
  cases ht : threeS 3 L with
  | no l' =>
    rw [ht] at h
    cases h
    exact threeS_no ht
  | yes ts l' =>
    rw [ht] at h
    obtain ⟨h1, k, rfl, h2, h3⟩ := threeS_sub ht
    match ts, h1 with
    | [a, b, c], _ =>
      simp only [tripS] at h
      split at h
      · cases hl : L.drop k with
        | nil => rw [hl] at h; cases h; exact ⟨k, hl.symm⟩
        | cons x r =>
          rw [hl, endS] at h
          split at h
          · cases h
          · cases h; exact ⟨k, hl.symm⟩
      · cases h; exact ⟨0, rfl⟩

/-- The triples of symbols, or the symbols from the one on that is wrong. -/
inductive Par where
  | no (l : List Sym) | yes (ts : List TripD)
def Par.put (ts : List TripD) : Par → Par
  | .no l => .no l
  | .yes us => .yes (ts ++ us)
theorem Par.put_put (a b : List TripD) (r : Par) : (r.put b).put a = r.put (a ++ b) := by
  cases r with
  | no l => rfl
  | yes us => simp [Par.put]
theorem Par.put_nil (r : Par) : r.put [] = r := by cases r <;> rfl
def parseF : Nat → List Sym → Par
  | _, [] => .yes []
  | 0, x :: L => .no (x :: L)
  | f + 1, x :: L => match stmS (x :: L) with
    | .no l => .no l
    | .yes t l => (parseF f l).put [t]
def parseS (L : List Sym) : Par := parseF L.length L
theorem parseF_fuel : ∀ {f g : Nat} {L : List Sym}, L.length ≤ f → L.length ≤ g → parseF f L = parseF g L
  | f, g, [], _, _ => by cases f <;> cases g <;> rfl
  | 0, g, x :: L, h, _ => by simp at h
  | f + 1, 0, x :: L, _, h => by simp at h
  | f + 1, g + 1, x :: L, h1, h2 => by
    rw [parseF, parseF]
    cases hs : stmS (x :: L) with
    | no l => rfl
    | yes t l =>
      obtain ⟨k, rfl, hk, _⟩ := stmS_yes hs
      simp only [List.length_cons] at h1 h2
      simp only
      rw [parseF_fuel (f := f) (g := g) (by rw [List.length_drop, List.length_cons]; omega) (by rw [List.length_drop, List.length_cons]; omega)]
theorem parseS_nil : parseS [] = .yes [] := rfl
theorem parseS_cons (L : List Sym) (h : L ≠ []) : parseS L = match stmS L with
    | .no l => .no l
    | .yes t l => (parseS l).put [t] := by
  cases L with
  | nil => exact absurd rfl h
  | cons x L =>
    unfold parseS
    rw [List.length_cons, parseF]
    cases hs : stmS (x :: L) with
    | no l => rfl
    | yes t l =>
      obtain ⟨k, rfl, hk, _⟩ := stmS_yes hs
      simp only
      rw [parseF_fuel (f := L.length) (by rw [List.length_drop, List.length_cons]; omega) (Nat.le_refl _)]

/-- Where the first symbol begins; if there is none, the end. -/
def placeS (n : Nat) : List Sym → Nat
  | [] => n
  | x :: _ => x.place

/-- What a document is: its triples, or the position and the number of what is wrong. -/
inductive DocR where
  | bad (p c : Nat) | good (ts : List TripD)
def docOf (n : Nat) : Par → DocR
  | .no l => .bad (placeS n l) 4
  | .yes ts => .good ts
def docS (s : ByteArray) : DocR :=
  if 1048576 < s.size then .bad 0 3
  else if wfL (bs s) < s.size then .bad (wfL (bs s)) 4
  else if (allL (bs s)).2 < s.size then .bad (allL (bs s)).2 4
  else docOf s.size (parseS (allL (bs s)).1)
theorem docS_bad {s : ByteArray} {p c : Nat} (h : docS s = .bad p c) : c = 3 ∨ c = 4 := by
  unfold docS at h
  split at h
  · simp only [DocR.bad.injEq] at h; omega
  · split at h
    · simp only [DocR.bad.injEq] at h; omega
    · split at h
      · simp only [DocR.bad.injEq] at h; omega
      · cases hp : parseS (allL (bs s)).1 with
        | no l =>
          rw [hp] at h
          simp only [docOf, DocR.bad.injEq] at h
          omega
        | yes ts => rw [hp] at h; cases h
end Go.Proofs.YtfldpfomecjdkaaGreatDoor
/-
  CONTRACTS OF ntriples.taking, the taker, place.
-/

namespace Go.Proofs.YtfldpfomecjdkaaGreatDoor
open Go.RowKit
open Utf Term Lex
set_option linter.unusedVariables false
set_option linter.unusedSimpArgs false

abbrev takerV (tb : Nat) : Value := .func (.func 64) #[] #[.pointer (some ⟨tb, 0, none⟩)]
set_option maxRecDepth 100000 in
theorem ntTaking_any (p : Option Addr) (n cap : Nat) (w : World) : Calls Tryz.prog 33 #[.slice p n cap] w fun e w' => e = .returned (takerV w.heap.size) ∧ w' = w.alloc (.cells #[.slice p n cap] 25) := by
  have hmf : ∀ (fn : Fn) (first cap : Array Value) (w : World), (Instr.makeFunc fn first cap).run Tryz.prog w = .ok (.func fn first cap) w := fun _ _ _ _ => rfl
  go_enter Tryz.func33, Tryz.ntmps33
  go_wp2
  go_ret
  exact ⟨rfl, rfl⟩

/-- A taker's box, and what lies in it. -/
structure TkAt (W : World) (tb : Nat) (v : Value) (L : List Sym) : Prop where
  blk : BlockAt W tb #[v] 25
  sl : SlA W v L
theorem TkAt.below {W U : World} {tb : Nat} {v : Value} {L : List Sym} (h : TkAt W tb v L) (k : Below W.heap.size W U) : TkAt U tb v L := ⟨h.blk.kept k, h.sl.below k⟩
theorem RowS.apart {W : World} {tb g o : Nat} {v : Value} {L : List Sym} (hb : BlockAt W tb #[v] 25) (hr : RowS W g o L) (hl : 0 < L.length) : g ≠ tb := by
  rintro rfl
  have hx : (flatS L)[1]? = some ((flatS L)[1]'(by rw [flatS_length]; omega)) := List.getElem?_eq_getElem _
  have := hr 1 _ hx
  unfold World.cell? at this
  unfold BlockAt at hb
  rw [hb] at this
  simp at this
/-- The row is as it was when another block's cell is set. -/
theorem RowS.other {W : World} {tb g o : Nat} {v u : Value} {L : List Sym} (hb : BlockAt W tb #[v] 25) (hr : RowS W g o L) : RowS (W.setCell ⟨tb, 0, none⟩ u) g o L := by
  intro j x hx
  have hl : 0 < L.length := by
    have := (List.getElem?_eq_some_iff.1 hx).1
    rw [flatS_length] at this
    omega
  have hne := RowS.apart hb hr hl
  have h1 := hr j x hx
  unfold World.cell? at h1 ⊢
  rw [Below.heap_setCell W ⟨tb, 0, none⟩ u g hne]
  exact h1

/-- A slice that holds something lies in a block below B. -/
def LowV (B : Nat) (v : Value) : Prop := ∀ g o n c, v = .slice (some ⟨g, o, none⟩) n c → 0 < n → g < B
theorem SlA.low {W : World} {v : Value} {L : List Sym} (h : SlA W v L) : LowV W.heap.size v := by
  intro g o n c e hn
  rcases h with ⟨rfl, _⟩ | ⟨g', o', cap, rfl, h1, h2, h3⟩
  · cases e
  · cases e
    have hx : (flatS L)[0]? = some ((flatS L)[0]'(by rw [flatS_length]; omega)) := List.getElem?_eq_getElem _
    exact World.block_lt_of_cell? _ _ (h3 0 _ hx)
theorem SlA.under {W U : World} {B : Nat} {v : Value} {L : List Sym} (h : SlA W v L) (hl : LowV B v) (k : Below B W U) : SlA U v L := by
  rcases h with h | ⟨g, o, cap, rfl, h1, h2, h3⟩
  · exact .inl h
  · refine .inr ⟨g, o, cap, rfl, h1, h2, fun j u e => ?_⟩
    have hn : 0 < L.length := by
      have := (List.getElem?_eq_some_iff.1 e).1
      rw [flatS_length] at this
      omega
    exact (k.cell (p := ⟨g, o + j, none⟩) (hl g o _ _ rfl hn)).trans (h3 j u e)
theorem TkAt.under {W U : World} {B tb : Nat} {v : Value} {L : List Sym} (h : TkAt W tb v L) (hl : LowV B v) (ht : tb < B) (k : Below B W U) : TkAt U tb v L := ⟨h.blk.under k ht, h.sl.under hl k⟩

set_option maxRecDepth 100000 in
set_option maxHeartbeats 4000000 in
theorem ntTake_any (tb n : Nat) (v : Value) (L : List Sym) (hn : n ≤ L.length) (hN : L.length ≤ 1000000000) (w : World) (h : TkAt w tb v L) :
    Calls Tryz.prog 64 #[.int .i64 n, .pointer (some ⟨tb, 0, none⟩)] w fun e w' => ∃ v', e = .returned v' ∧ TkAt w' tb v' (L.drop n) ∧ Moves tb w w' ∧ ∀ B, LowV B v → LowV B v' := by
  obtain ⟨hb, hs⟩ := h
  have c0 := hb.cell (j := 0) rfl
  have cf : ∀ j, w.frozen? ⟨tb, j, none⟩ = false := fun j => hb.free j
  have n0 : (0 : Int) ≤ (n : Int) := by omega
  rcases hs with ⟨rfl, rfl⟩ | ⟨g, o, cap, rfl, h1, h2, h3⟩
  · obtain rfl : n = 0 := by simpa using hn
    have HB := Lib.hid hb
    clear hb
    go_enter Tryz.func64, Tryz.ntmps64
    go_wp2
    go_ret
    exact ⟨_, rfl, ⟨HB.out.set 0 _, .inl ⟨rfl, rfl⟩⟩, Moves.refl.set 0 _, fun B h => h⟩
  · have HB := Lib.hid hb
    have HR := Lib.hid h3
    have HN := Lib.hid hn
    obtain ⟨len, hlen⟩ : ∃ len, len = L.length := ⟨_, rfl⟩
    have HL := Lib.hid hlen
    rw [← hlen] at hn h1 hN c0 HB
    have n1 : (n : Int) ≤ (len : Int) := by omega
    have n2 : (len : Int) ≤ (cap : Int) := by omega
    have n3 : (n : Int) ≤ (cap : Int) := by omega
    clear hb h3 hlen
    go_enter Tryz.func64, Tryz.ntmps64
    go_wp2
    · go_ret
      have hl0 : len - n = 0 := by omega
      have hd : L.drop n = [] := List.drop_eq_nil_of_le (by have := HL.out; omega)
      refine ⟨_, rfl, ⟨HB.out.set 0 _, ?_⟩, Moves.refl.set 0 _, fun B h g' o' n' c' e hn => ?_⟩
      rotate_left
      · cases e
        omega
      rw [hd, hl0]
      exact SlA.nil _ g o 0 (Nat.zero_le _)
    · go_ret
      have hl0 : len - n = (L.drop n).length := by rw [List.length_drop, HL.out]
      refine ⟨_, rfl, ⟨HB.out.set 0 _, ?_⟩, Moves.refl.set 0 _, fun B h g' o' n' c' e hn => ?_⟩
      rotate_left
      · cases e
        exact h g o len cap (by rw [HL.out]) (by omega)
      exact .inr ⟨g, o + n * 6, cap - n, by rw [hl0]; rfl, by omega, by omega, (HR.out.drop HN.out).other HB.out⟩

set_option maxRecDepth 100000 in
set_option maxHeartbeats 4000000 in
theorem ntPlace_any (v : Value) (L : List Sym) (n : Nat) (w : World) (h : SlA w v L) :
    Calls Tryz.prog 35 #[v, .int .i64 n] w fun e w' => e = .returned (.int .i64 (placeS n L)) ∧ w = w' := by
  by_cases h0 : L = []
  · subst h0
    obtain ⟨p, cap, rfl⟩ : ∃ p cap, v = .slice p 0 cap := by
      rcases h with ⟨rfl, _⟩ | ⟨g, o, cap, rfl, _⟩
      · exact ⟨_, _, rfl⟩
      · exact ⟨_, _, rfl⟩
    clear h
    go_enter Tryz.func35, Tryz.ntmps35
    go_wp2
    go_ret
    exact ⟨rfl, rfl⟩
  · rcases h with ⟨_, h⟩ | ⟨g, o, cap, rfl, h1, h2, h3⟩
    · exact absurd h h0
    obtain ⟨x, r, rfl⟩ : ∃ x r, L = x :: r := by
      cases L with
      | nil => exact absurd rfl h0
      | cons x r => exact ⟨x, r, rfl⟩
    have s5 : w.cell? ⟨g, o + 5, none⟩ = some (.int .i64 x.place) := by
      have := h3.six (i := 0) (x := x) rfl 5 (by omega)
      rw [Nat.zero_mul, Nat.add_zero] at this
      exact this
    have d0 : ((List.length (x :: r) : Int) == 0) = false := by simp <;> omega
    have l0 : (0 : Int) < (List.length (x :: r) : Int) := by simp <;> omega
    generalize List.length (x :: r) = len at *
    clear h3 h0
    go_enter Tryz.func35, Tryz.ntmps35
    go_wp2
    go_ret
    exact ⟨rfl, rfl⟩
end Go.Proofs.YtfldpfomecjdkaaGreatDoor
/-
  THE CONTRACT OF ntriples.statement.
-/

namespace Go.Proofs.YtfldpfomecjdkaaGreatDoor
open Go.RowKit
open Utf Term Lex
set_option linter.unusedVariables false
set_option linter.unusedSimpArgs false

abbrev zT : TermD := (0, ⟨#[]⟩, ⟨#[]⟩)
abbrev nineC (a b c : TermD) : Array Value := #[.int .i64 a.1, .string a.2.1, .string a.2.2, .int .i64 b.1, .string b.2.1, .string b.2.2, .int .i64 c.1, .string c.2.1, .string c.2.2]

theorem SlA.moves {w u : World} {tb : Nat} {v v' : Value} {L : List Sym} (hb : BlockAt w tb #[v'] 25) (h : SlA w v L) (m : Moves tb w u) : SlA u v L := by
  rcases h with h | ⟨g, o, cap, h1, h2, h3, h4⟩
  · exact .inl h
  · refine .inr ⟨g, o, cap, h1, h2, h3, fun j x hx => ?_⟩
    have hl : 0 < L.length := by
      have := (List.getElem?_eq_some_iff.1 hx).1
      rw [flatS_length] at this
      omega
    have hne := RowS.apart hb h4 hl
    have h5 := h4 j x hx
    have hlt : g < w.heap.size := World.block_lt_of_cell? _ _ h5
    unfold World.cell? at h5 ⊢
    rw [m.block g hlt hne]
    exact h5
theorem Moves.env {w u : World} {tb : Nat} (m : Moves tb w u) (h : LexEnv w) (htb : tb < w.heap.size) (hrp : 0 < tb ∧ 1 < tb ∧ 2 < tb) : LexEnv u :=
  h.under (m.below (Nat.le_of_lt htb) (Nat.le_refl _)) hrp

theorem results_stm {fn : Func} {p u v : Tmp} (h : fn.results = #[.cell p 51, .tmp u, .tmp v]) (tmps : Array Value) (w : World) (g : Nat) (a b c : TermD)
    (hp : tmps.getD p undef = .pointer (some ⟨g, 0, none⟩)) (hx : BlockAt w g (nineC a b c) 51) :
    (results fn tmps).run Tryz.prog w = .ok (.tuple #[tripleV a b c, tmps.getD u undef, tmps.getD v undef]) w := by
  have h1 := run_loadVar_row (P := Tryz.prog) w g 51 51 (nineC a b c) (0, 0) _ hx Tryz.underlying51 rfl (by kernel_rfl)
  have hp' : tmps[p]?.getD undef = .pointer (some ⟨g, 0, none⟩) := by simpa using hp
  simp only [results, h]
  simp [Sem.run_bind, Result.andThen, hp', asAddr, h1]

theorem ntRead_any (N : Nat) (hN : N ≤ 1000000000) (v : Value) (L : List Sym) (hg : ∀ x ∈ L, GoodS N x) (w : World) (he : LexEnv w) (hv : SlA w v L) :
    Calls Tryz.prog 8 #[v, .map none] w (ReadOut (readS noP L) w) :=
  read_any noP (.map none) N hN noP_small v L hg w he (named_any noP (.map none) N hN w he (fun W _ => mapS_nil W) noP_small) hv

/-- What is read is short. -/
theorem namedS_fits {N : Nat} (hN : N ≤ 1000000000) {x : Sym} (hx : GoodS N x) {u : TermD} (h : namedS noP x = some u) : u.2.1.size ≤ N ∧ u.2.2.size ≤ N := by
  have ht : (S x.tt).size ≤ N := by show (strOfNums x.tt).size ≤ _; rw [strNums_size]; exact hx.ltt
  unfold namedS at h
  split at h
  · cases h; exact ⟨ht, Nat.zero_le _⟩
  · split at h
    · cases h; exact ⟨ht, Nat.zero_le _⟩
    · split at h <;> cases h
theorem okT_eq {t u : TermD} (h : okT t = some u) : t = u := by
  unfold okT at h
  split at h
  · exact Option.some.inj h
  · cases h
theorem wholeS_fits {N : Nat} (hN : N ≤ 1000000000) {L : List Sym} (hg : ∀ x ∈ L, GoodS N x) {u : TermD} (h : wholeS noP L = some u) : u.2.1.size ≤ N ∧ u.2.2.size ≤ N := by
  have ht : ∀ x ∈ L, (S x.text).size ≤ N := fun x hx => by show (strOfNums x.text).size ≤ _; rw [strNums_size]; exact (hg x hx).lt
  match L, h with
  | [x], h =>
    rw [wholeS] at h
    split at h
    · rw [← okT_eq h]; exact ⟨ht x (by simp), Nat.zero_le _⟩
    · exact namedS_fits hN (hg x (by simp)) h
  | [x, y], h =>
    rw [wholeS] at h
    split at h
    · rw [← okT_eq h]; exact ⟨ht x (by simp), ht y (by simp)⟩
    · cases h
  | [x, y, z], h =>
    rw [wholeS] at h
    split at h
    · unfold typedR at h
      cases hn : namedS noP z with
      | none => rw [hn] at h; cases h
      | some q =>
        rw [hn] at h
        have hq := namedS_fits hN (hg z (by simp)) hn
        simp only at h
        split at h
        · split at h
          · rw [← okT_eq h]; exact ⟨ht x (by simp), Nat.zero_le _⟩
          · rw [← okT_eq h]; exact ⟨ht x (by simp), hq.1⟩
        · cases h
    · cases h
theorem readS_fits {N : Nat} (hN : N ≤ 1000000000) {L : List Sym} (hg : ∀ x ∈ L, GoodS N x) {t : TermD} {n : Nat} (h : readS noP L = some (t, n)) : t.2.1.size ≤ N ∧ t.2.2.size ≤ N := by
  have ht : ∀ k, tryS noP L k = some (t, n) → t.2.1.size ≤ N ∧ t.2.2.size ≤ N := by
    intro k hk
    unfold tryS at hk
    split at hk
    · cases hw : wholeS noP (L.take k) with
      | none => rw [hw] at hk; cases hk
      | some u =>
        rw [hw] at hk
        simp only [Option.map_some, Option.some.injEq, Prod.mk.injEq] at hk
        rw [← hk.1]
        exact wholeS_fits hN (fun x hx => hg x (List.mem_of_mem_take hx)) hw
    · cases hk
  unfold readS at h
  cases h3 : tryS noP L 3 with
  | some r => rw [h3] at h; simp only [Option.some.injEq] at h; subst h; exact ht 3 h3
  | none =>
    rw [h3] at h
    simp only at h
    cases h2 : tryS noP L 2 with
    | some r => rw [h2] at h; simp only [Option.some.injEq] at h; subst h; exact ht 2 h2
    | none => rw [h2] at h; exact ht 1 h

abbrev set9 (W : World) (g : Nat) (a b c : TermD) : World :=
  (((((((((W.setCell ⟨g, 0, none⟩ (.int .i64 a.1)).setCell ⟨g, 1, none⟩ (.string a.2.1)).setCell ⟨g, 2, none⟩ (.string a.2.2)).setCell ⟨g, 3, none⟩ (.int .i64 b.1)).setCell ⟨g, 4, none⟩ (.string b.2.1)).setCell ⟨g, 5, none⟩ (.string b.2.2)).setCell ⟨g, 6, none⟩ (.int .i64 c.1)).setCell ⟨g, 7, none⟩ (.string c.2.1)).setCell ⟨g, 8, none⟩ (.string c.2.2))
theorem BlockAt.put0 {W : World} {g : Nat} {a b c : TermD} {t : TypeId} (h : BlockAt W g (nineC a b c) t) (x : TermD) : BlockAt (((W.setCell ⟨g, 0, none⟩ (.int .i64 x.1)).setCell ⟨g, 1, none⟩ (.string x.2.1)).setCell ⟨g, 2, none⟩ (.string x.2.2)) g (nineC x b c) t :=
  ((h.set 0 _).set 1 _).set 2 _
theorem BlockAt.put1 {W : World} {g : Nat} {a b c : TermD} {t : TypeId} (h : BlockAt W g (nineC a b c) t) (x : TermD) : BlockAt (((W.setCell ⟨g, 3, none⟩ (.int .i64 x.1)).setCell ⟨g, 4, none⟩ (.string x.2.1)).setCell ⟨g, 5, none⟩ (.string x.2.2)) g (nineC a x c) t :=
  ((h.set 3 _).set 4 _).set 5 _
theorem BlockAt.put2 {W : World} {g : Nat} {a b c : TermD} {t : TypeId} (h : BlockAt W g (nineC a b c) t) (x : TermD) : BlockAt (((W.setCell ⟨g, 6, none⟩ (.int .i64 x.1)).setCell ⟨g, 7, none⟩ (.string x.2.1)).setCell ⟨g, 8, none⟩ (.string x.2.2)) g (nineC a b x) t :=
  ((h.set 6 _).set 7 _).set 8 _
theorem block_set9 {W : World} {g : Nat} {x y z : TermD} {t : TypeId} (h : BlockAt W g (nineC x y z) t) (a b c : TermD) : BlockAt (set9 W g a b c) g (nineC a b c) t :=
  ((h.put0 a).put1 b).put2 c
theorem below_set9 {B : Nat} {w W : World} (h : Below B w W) {g : Nat} (hg : B ≤ g) (a b c : TermD) : Below B w (set9 W g a b c) :=
  ((((((((h.setCell hg _).setCell hg _).setCell hg _).setCell hg _).setCell hg _).setCell hg _).setCell hg _).setCell hg _).setCell hg _
theorem Moves.set9 {tb : Nat} {w W : World} (h : Moves tb w W) {g : Nat} (hg : w.heap.size ≤ g) (a b c : TermD) : Moves tb w (set9 W g a b c) :=
  ((((((((h.fresh hg 0 _).fresh hg 1 _).fresh hg 2 _).fresh hg 3 _).fresh hg 4 _).fresh hg 5 _).fresh hg 6 _).fresh hg 7 _).fresh hg 8 _
theorem Moves.go {tb : Nat} {w u v : World} (h : Moves tb w u) (k : Below u.heap.size u v) : Moves tb w v := h.then (k.mono h.size)

/-- What statement answers. -/
def StmOut (tb : Nat) (v0 : Value) (r : Stm) (w : World) (e : Ending) (w' : World) : Prop :=
  Moves tb w w' ∧ match r with
  | .no l => ∃ v v', e = .returned (.tuple #[tripleV zT zT zT, v, .bool false]) ∧ SlA w' v l ∧ BlockAt w' tb #[v'] 25
  | .yes t l => ∃ v', e = .returned (.tuple #[tripleV t.1 t.2.1 t.2.2, .slice none 0 0, .bool true]) ∧ TkAt w' tb v' l ∧ ∀ B, LowV B v0 → LowV B v'

/-- Round by round: what has been read, and what comes. -/
def StmRel (N tb : Nat) (v0 : Value) (L : List Sym) (w : World) (k : Nat) (wr : World) : Prop :=
  ∃ (a b c : TermD) (v : Value) (R : List Sym), threeS 3 L = (threeS (3 - k) R).put ([a, b, c].take k) ∧ TkAt wr tb v R ∧ (∀ B, LowV B v0 → LowV B v) ∧ (∀ x ∈ R, GoodS N x) ∧ R.length ≤ 1000000000 ∧
    Moves tb w wr ∧ w.heap.size + 2 ≤ wr.heap.size ∧ BlockAt wr w.heap.size (nineC zT zT zT) 51 ∧ BlockAt wr (w.heap.size + 1) (nineC a b c) 51 ∧ Fits a ∧ Fits b ∧ Fits c
theorem zT_fits : Fits zT := ⟨Nat.zero_le _, Nat.zero_le _⟩
theorem three_next {n : Nat} {R : List Sym} {t : TermD} {k : Nat} (h : readS noP R = some (t, k)) : threeS (n + 1) R = (threeS n (R.drop k)).put [t] := by rw [threeS, h]
theorem three_stop {n : Nat} {R : List Sym} (h : readS noP R = none) : threeS (n + 1) R = .no R := by rw [threeS, h]

theorem StmRel.put {N tb : Nat} {L : List Sym} {w wr u : World} {k n : Nat} {a b c t : TermD} {v : Value} {R : List Sym} (hk : k < 3) (h3 : threeS 3 L = (threeS (3 - k) R).put ([a, b, c].take k)) (hr : readS noP R = some (t, n)) :
    threeS 3 L = (threeS (3 - (k + 1)) (R.drop n)).put (([a, b, c].take k) ++ [t]) := by
  obtain ⟨j, hj⟩ : ∃ j, 3 - k = j + 1 := ⟨2 - k, by omega⟩
  rw [h3, hj, three_next hr, put_put, show 3 - (k + 1) = j by omega]

set_option maxRecDepth 100000 in
set_option maxHeartbeats 16000000 in
theorem ntStm_any (N : Nat) (hN : N ≤ 1000000000) (tb : Nat) (v0 : Value) (L : List Sym) (hg : ∀ x ∈ L, GoodS N x) (hL : L.length ≤ 1000000000) (w : World) (he : LexEnv w) (htb : tb < w.heap.size)
    (hrp : 0 < tb ∧ 1 < tb ∧ 2 < tb) (ht : TkAt w tb v0 L) :
    Calls Tryz.prog 34 #[takerV tb] w (StmOut tb v0 (stmS L) w) := by
  have hB : Below w.heap.size w ((w.alloc (.cells (nineC zT zT zT) 51)).alloc (.cells (nineC zT zT zT) 51)) := below_next (below_lex _ _) (below_lex _ _)
  have hR : BlockAt ((w.alloc (.cells (nineC zT zT zT) 51)).alloc (.cells (nineC zT zT zT) 51)) w.heap.size (nineC zT zT zT) 51 := (block_new w _ _).alloc _
  have hT : BlockAt ((w.alloc (.cells (nineC zT zT zT) 51)).alloc (.cells (nineC zT zT zT) 51)) (w.heap.size + 1) (nineC zT zT zT) 51 := by
    have := block_new (w.alloc (.cells (nineC zT zT zT) 51)) (nineC zT zT zT) 51
    rwa [World.size_alloc] at this
  have hsz : w.heap.size + 2 ≤ ((w.alloc (.cells (nineC zT zT zT) 51)).alloc (.cells (nineC zT zT zT) 51)).heap.size := by simp
  obtain ⟨W0, hW0⟩ : ∃ W0, W0 = ((w.alloc (.cells (nineC zT zT zT) 51)).alloc (.cells (nineC zT zT zT) 51)) := ⟨_, rfl⟩
  rw [← hW0] at hB hR hT hsz
  have HTk := Lib.hid (ntTake_any tb 0 v0 L (Nat.zero_le _) hL W0 (ht.below hB))
  obtain ⟨F, hF⟩ : ∃ F, F = StmOut tb v0 (stmS L) w := ⟨_, rfl⟩
  have HF := Lib.hid hF
  rw [← hF]
  have HLow := Lib.hid ht.sl.low
  have HG := Lib.hid hg
  have HE := Lib.hid he
  have HB := Lib.hid hB
  have HR := Lib.hid hR
  have HT := Lib.hid hT
  have HW0 := Lib.hid hW0
  have HSz := Lib.hid hsz
  clear hB hR hT hsz hW0 hF ht he hg
  go_enter Tryz.func34, Tryz.ntmps34
  go_upto_region 2 with fail
  rw [← HW0.out]
  go_upto_region 3 with (go_at_call 64; refine HTk.out.mono ?_; rintro e y0 ⟨vf, rfl, hT0, hM0, hl0⟩)
  rw [List.drop_zero] at hT0
  have HT0 := Lib.hid hT0
  have HL0 := Lib.hid hl0
  have HM0 : Hid (Moves tb w y0) := Lib.hid ((Moves.of_below HB.out).trans hM0)
  have HR0 := Lib.hid (hM0.at_ HR.out (by omega))
  have HTt0 := Lib.hid (hM0.at_ HT.out (by omega))
  have HS0 : Hid (w.heap.size + 2 ≤ y0.heap.size) := Lib.hid (by have := hM0.size; have := HSz.out; omega)
  clear hT0 hM0 HTk HR HT HSz HB HW0 hl0
  go_wp2_with fail
  go_loopg [14] 3 (fun gg i wr => ∃ k : Nat, k ≤ 3 ∧ 3 - k ≤ gg ∧ i = .int .i64 k ∧ StmRel N tb v0 L w k wr ∧ SlA wr vf L)
  case atStart =>
    refine ⟨0, by omega, by omega, rfl, ⟨zT, zT, zT, vf, L, ?_, HT0.out, HL0.out, HG.out, hL, HM0.out, HS0.out, HR0.out, HTt0.out, zT_fits, zT_fits, zT_fits⟩, HT0.out.sl⟩
    rw [List.take_zero, put_nil]
  case round =>
    obtain ⟨k, hk, hgg, rfl, ⟨a, b, c, v, R, h3, htk, hlw, hgR, hlR, hM, hsz, hbR, hbT, fa, fb, fc⟩, hsf⟩ := hrel
    have H3 := Lib.hid h3
    have HTk := Lib.hid htk
    have HLw := Lib.hid hlw
    have HGR := Lib.hid hgR
    have HM := Lib.hid hM
    have HBR := Lib.hid hbR
    have HBT := Lib.hid hbT
    have HSf := Lib.hid hsf
    have HFt := Lib.hid (show Fits a ∧ Fits b ∧ Fits c from ⟨fa, fb, fc⟩)
    have HEr := Lib.hid (hM.env HE.out htb hrp)
    have htr : tb < wr.heap.size := by omega
    clear h3 htk hgR hM hbR hbT hsf fa fb fc HM0 HR0 HTt0 HS0 HT0 hlw
    by_cases hk3 : k < 3
    · have d1 : decide ((k : Int) < 3) = true := by simp; omega
      have HTa := Lib.hid (ntTake_any tb 0 v R (Nat.zero_le _) hlR wr HTk.out)
      cases hr : readS noP R with
      | none =>
        have HRd : Hid (∀ v W, SlA W v R → LexEnv W → Calls Tryz.prog 8 #[v, .map none] W fun e w' => e = .returned (.tuple #[.agg #[.int .i64 0, .string ⟨#[]⟩, .string ⟨#[]⟩], .int .i64 0, .int .i64 4]) ∧ Below W.heap.size W w') := Lib.hid (fun v W hs hE => by
          have := ntRead_any N hN v R HGR.out W hE hs
          rw [hr] at this
          exact this)
        have HX : Hid (stmS L = .no R) := Lib.hid (by
          unfold stmS
          obtain ⟨j, hj⟩ : ∃ j, 3 - k = j + 1 := ⟨2 - k, by omega⟩
          rw [H3.out, hj, three_stop hr]
          rfl)
        clear hr
        go_upto_region 7 with (first | (go_at_call 64; refine HTa.out.mono ?_; rintro e y1 ⟨v1, rfl, hT1, hM1, hl1⟩; have hR1 := HRd.out v1 y1 (by have := hT1.sl; rwa [List.drop_zero] at this) (hM1.env HEr.out htr hrp)) | (go_at_call 8; refine hR1.mono ?_; rintro e y2 ⟨rfl, hY2⟩))
        have hM2 : Moves tb wr (y2.alloc (.cells #[.int .i64 0, .string ⟨#[]⟩, .string ⟨#[]⟩] 31)) := hM1.go (below_next hY2 (below_lex _ _))
        have hT2 := hT1.below (below_next hY2 (below_lex y2 (.cells #[.int .i64 0, .string ⟨#[]⟩, .string ⟨#[]⟩] 31)))
        rw [List.drop_zero] at hT2
        have HL1 := Lib.hid (fun B h => hl1 B (HLw.out B h))
        clear hT1 hM1 hY2 hR1 hl1
        generalize y2.alloc (.cells #[.int .i64 0, .string ⟨#[]⟩, .string ⟨#[]⟩] 31) = W2 at *
        have HM2 := Lib.hid hM2
        have HTb := Lib.hid (ntTake_any tb 0 v1 R (Nat.zero_le _) hlR W2 hT2)
        clear hM2 hT2
        go_wp2_with (go_at_call 64; refine HTb.out.mono ?_; rintro e y3 ⟨v3, rfl, hT3, hM3, hl3⟩; have hbR3 := (hM3.at_ (HM2.out.at_ HBR.out (by omega)) (by omega)); have k0 := hbR3.cell (j := 0) rfl; have k1 := hbR3.cell (j := 1) rfl; have k2 := hbR3.cell (j := 2) rfl; have k3 := hbR3.cell (j := 3) rfl; have k4 := hbR3.cell (j := 4) rfl; have k5 := hbR3.cell (j := 5) rfl; have k6 := hbR3.cell (j := 6) rfl; have k7 := hbR3.cell (j := 7) rfl; have k8 := hbR3.cell (j := 8) rfl; have kf : ∀ j, y3.frozen? ⟨w.heap.size, j, none⟩ = false := fun j => hbR3.free j)
        rw [List.drop_zero] at hT3
        refine bodyPost_ret (results_stm (p := 2) (u := 3) (v := 4) rfl _ _ w.heap.size zT zT zT rfl (block_set9 hbR3 zT zT zT)) rfl ?_
        rw [HF.out, HX.out]
        have hM4 : Moves tb w (set9 y3 w.heap.size zT zT zT) := ((HM.out.trans HM2.out).trans hM3).set9 (Nat.le_refl _) _ _ _
        have hB4 : Below w.heap.size y3 (set9 y3 w.heap.size zT zT zT) := below_set9 (Below.refl _ _) (Nat.le_refl _) zT zT zT
        exact ⟨hM4, v3, v3, rfl, hT3.sl.under (hl3 _ (HL1.out _ HLow.out)) hB4, hT3.blk.under hB4 htb⟩
      | some x =>
        obtain ⟨t, n⟩ := x
        have HRd : Hid (∀ v W, SlA W v R → LexEnv W → Calls Tryz.prog 8 #[v, .map none] W fun e w' => e = .returned (.tuple #[.agg #[.int .i64 t.1, .string t.2.1, .string t.2.2], .int .i64 n, .int .i64 0]) ∧ Below W.heap.size W w') := Lib.hid (fun v W hs hE => by
          have := ntRead_any N hN v R HGR.out W hE hs
          rw [hr] at this
          exact this)
        have hpos := readS_pos hr
        have hft : Fits t := by
          have := readS_fits hN HGR.out hr
          exact ⟨by omega, by omega⟩
        have HNx := Lib.hid (StmRel.put (N := N) (tb := tb) (w := w) (wr := wr) (u := wr) (v := v) hk3 H3.out hr)
        have HFx := Lib.hid hft
        clear hr hft
        go_upto_region 7 with (first | (go_at_call 64; refine HTa.out.mono ?_; rintro e y1 ⟨v1, rfl, hT1, hM1, hl1⟩; have hR1 := HRd.out v1 y1 (by have := hT1.sl; rwa [List.drop_zero] at this) (hM1.env HEr.out htr hrp)) | (go_at_call 8; refine hR1.mono ?_; rintro e y2 ⟨rfl, hY2⟩))
        have hM2 : Moves tb wr (y2.alloc (.cells #[.int .i64 t.1, .string t.2.1, .string t.2.2] 31)) := hM1.go (below_next hY2 (below_lex _ _))
        have hT2 := hT1.below (below_next hY2 (below_lex y2 (.cells #[.int .i64 t.1, .string t.2.1, .string t.2.2] 31)))
        have hX2 := block_new y2 #[.int .i64 t.1, .string t.2.1, .string t.2.2] 31
        have hy2 : w.heap.size + 2 ≤ y2.heap.size := by have := hM1.size; have := hY2.size; omega
        rw [List.drop_zero] at hT2
        have HL1 := Lib.hid (fun B h => hl1 B (HLw.out B h))
        clear hT1 hM1 hY2 hR1 hl1
        generalize y2.alloc (.cells #[.int .i64 t.1, .string t.2.1, .string t.2.2] 31) = W2 at *
        have HM2 := Lib.hid hM2
        have HT2 := Lib.hid hT2
        have hT9 := hM2.at_ HBT.out (by omega)
        have HT9 := Lib.hid hT9
        have z0 := hX2.cell (j := 0) rfl
        have z1 := hX2.cell (j := 1) rfl
        have z2 := hX2.cell (j := 2) rfl
        have tf : ∀ j, W2.frozen? ⟨w.heap.size + 1, j, none⟩ = false := fun j => hT9.free j
        clear hM2 hT2 hT9 hX2
        have hcase : k = 0 ∨ k = 1 ∨ k = 2 := by omega
        have n0 : (0 : Int) ≤ (n : Int) := by omega
        rcases hcase with rfl | rfl | rfl
        · have x0 := HT9.out.cell (j := 0) rfl
          have x1 := HT9.out.cell (j := 1) rfl
          have x2 := HT9.out.cell (j := 2) rfl
          have hTa := HT9.out.put0 t
          have hBa : Below w.heap.size W2 (((W2.setCell ⟨w.heap.size + 1, 0, none⟩ (.int .i64 t.1)).setCell ⟨w.heap.size + 1, 1, none⟩ (.string t.2.1)).setCell ⟨w.heap.size + 1, 2, none⟩ (.string t.2.2)) := (((Below.refl w.heap.size W2).setCell (Nat.le_succ _) _).setCell (Nat.le_succ _) _).setCell (Nat.le_succ _) _
          have hMa : Moves tb w (((W2.setCell ⟨w.heap.size + 1, 0, none⟩ (.int .i64 t.1)).setCell ⟨w.heap.size + 1, 1, none⟩ (.string t.2.1)).setCell ⟨w.heap.size + 1, 2, none⟩ (.string t.2.2)) := (((HM.out.trans HM2.out).fresh (Nat.le_succ _) _ _).fresh (Nat.le_succ _) _ _).fresh (Nat.le_succ _) _ _
          have hRa : BlockAt (((W2.setCell ⟨w.heap.size + 1, 0, none⟩ (.int .i64 t.1)).setCell ⟨w.heap.size + 1, 1, none⟩ (.string t.2.1)).setCell ⟨w.heap.size + 1, 2, none⟩ (.string t.2.2)) w.heap.size (nineC zT zT zT) 51 := (((HM2.out.at_ HBR.out (by omega)).other (by omega) _ _).other (by omega) _ _).other (by omega) _ _
          go_upto_region 10 with fail
          generalize (((W2.setCell ⟨w.heap.size + 1, 0, none⟩ (.int .i64 t.1)).setCell ⟨w.heap.size + 1, 1, none⟩ (.string t.2.1)).setCell ⟨w.heap.size + 1, 2, none⟩ (.string t.2.2)) = W3 at *
          have hT3 := HT2.out.under (HL1.out _ HLow.out) htb hBa
          have HTn := Lib.hid (ntTake_any tb n v1 R hpos.2.2 hlR W3 hT3)
          have HS3 := Lib.hid (((HSf.out.moves HTk.out.blk HM2.out)).under (HL0.out _ HLow.out) hBa)
          have HTa := Lib.hid hTa
          have HMa := Lib.hid hMa
          have HRa := Lib.hid hRa
          have HT3 := Lib.hid hT3
          have HZ3 : Hid (w.heap.size + 2 ≤ W3.heap.size) := Lib.hid (by have := hBa.size; have := HM2.out.size; omega)
          clear hTa hMa hRa hT3 hBa x0 x1 x2 z0 z1 z2 tf
          go_wp2_with (go_at_call 64; refine HTn.out.mono ?_; rintro e y5 ⟨v5, rfl, hT5, hM5, hl5⟩)
          go_roundg (3 - (0 + 1))
          case rel =>
            exact ⟨0 + 1, by omega, Nat.le_refl _, by go_num, ⟨t, b, c, v5, R.drop n, HNx.out, hT5, fun B h => hl5 B (HL1.out B h), fun x hx => HGR.out x (List.mem_of_mem_drop hx), by rw [List.length_drop]; omega, HMa.out.trans hM5, by have := hM5.size; have := HZ3.out; omega, hM5.at_ HRa.out (by omega), hM5.at_ HTa.out (by omega), HFx.out, HFt.out.2.1, HFt.out.2.2⟩, HS3.out.moves HT3.out.blk hM5⟩
          case measure => omega
        · have x0 := HT9.out.cell (j := 3) rfl
          have x1 := HT9.out.cell (j := 4) rfl
          have x2 := HT9.out.cell (j := 5) rfl
          have hTa := HT9.out.put1 t
          have hBa : Below w.heap.size W2 (((W2.setCell ⟨w.heap.size + 1, 3, none⟩ (.int .i64 t.1)).setCell ⟨w.heap.size + 1, 4, none⟩ (.string t.2.1)).setCell ⟨w.heap.size + 1, 5, none⟩ (.string t.2.2)) := (((Below.refl w.heap.size W2).setCell (Nat.le_succ _) _).setCell (Nat.le_succ _) _).setCell (Nat.le_succ _) _
          have hMa : Moves tb w (((W2.setCell ⟨w.heap.size + 1, 3, none⟩ (.int .i64 t.1)).setCell ⟨w.heap.size + 1, 4, none⟩ (.string t.2.1)).setCell ⟨w.heap.size + 1, 5, none⟩ (.string t.2.2)) := (((HM.out.trans HM2.out).fresh (Nat.le_succ _) _ _).fresh (Nat.le_succ _) _ _).fresh (Nat.le_succ _) _ _
          have hRa : BlockAt (((W2.setCell ⟨w.heap.size + 1, 3, none⟩ (.int .i64 t.1)).setCell ⟨w.heap.size + 1, 4, none⟩ (.string t.2.1)).setCell ⟨w.heap.size + 1, 5, none⟩ (.string t.2.2)) w.heap.size (nineC zT zT zT) 51 := (((HM2.out.at_ HBR.out (by omega)).other (by omega) _ _).other (by omega) _ _).other (by omega) _ _
          go_upto_region 10 with fail
          generalize (((W2.setCell ⟨w.heap.size + 1, 3, none⟩ (.int .i64 t.1)).setCell ⟨w.heap.size + 1, 4, none⟩ (.string t.2.1)).setCell ⟨w.heap.size + 1, 5, none⟩ (.string t.2.2)) = W3 at *
          have hT3 := HT2.out.under (HL1.out _ HLow.out) htb hBa
          have HTn := Lib.hid (ntTake_any tb n v1 R hpos.2.2 hlR W3 hT3)
          have HS3 := Lib.hid (((HSf.out.moves HTk.out.blk HM2.out)).under (HL0.out _ HLow.out) hBa)
          have HTa := Lib.hid hTa
          have HMa := Lib.hid hMa
          have HRa := Lib.hid hRa
          have HT3 := Lib.hid hT3
          have HZ3 : Hid (w.heap.size + 2 ≤ W3.heap.size) := Lib.hid (by have := hBa.size; have := HM2.out.size; omega)
          clear hTa hMa hRa hT3 hBa x0 x1 x2 z0 z1 z2 tf
          go_wp2_with (go_at_call 64; refine HTn.out.mono ?_; rintro e y5 ⟨v5, rfl, hT5, hM5, hl5⟩)
          go_roundg (3 - (1 + 1))
          case rel =>
            exact ⟨1 + 1, by omega, Nat.le_refl _, by go_num, ⟨a, t, c, v5, R.drop n, HNx.out, hT5, fun B h => hl5 B (HL1.out B h), fun x hx => HGR.out x (List.mem_of_mem_drop hx), by rw [List.length_drop]; omega, HMa.out.trans hM5, by have := hM5.size; have := HZ3.out; omega, hM5.at_ HRa.out (by omega), hM5.at_ HTa.out (by omega), HFt.out.1, HFx.out, HFt.out.2.2⟩, HS3.out.moves HT3.out.blk hM5⟩
          case measure => omega
        · have x0 := HT9.out.cell (j := 6) rfl
          have x1 := HT9.out.cell (j := 7) rfl
          have x2 := HT9.out.cell (j := 8) rfl
          have hTa := HT9.out.put2 t
          have hBa : Below w.heap.size W2 (((W2.setCell ⟨w.heap.size + 1, 6, none⟩ (.int .i64 t.1)).setCell ⟨w.heap.size + 1, 7, none⟩ (.string t.2.1)).setCell ⟨w.heap.size + 1, 8, none⟩ (.string t.2.2)) := (((Below.refl w.heap.size W2).setCell (Nat.le_succ _) _).setCell (Nat.le_succ _) _).setCell (Nat.le_succ _) _
          have hMa : Moves tb w (((W2.setCell ⟨w.heap.size + 1, 6, none⟩ (.int .i64 t.1)).setCell ⟨w.heap.size + 1, 7, none⟩ (.string t.2.1)).setCell ⟨w.heap.size + 1, 8, none⟩ (.string t.2.2)) := (((HM.out.trans HM2.out).fresh (Nat.le_succ _) _ _).fresh (Nat.le_succ _) _ _).fresh (Nat.le_succ _) _ _
          have hRa : BlockAt (((W2.setCell ⟨w.heap.size + 1, 6, none⟩ (.int .i64 t.1)).setCell ⟨w.heap.size + 1, 7, none⟩ (.string t.2.1)).setCell ⟨w.heap.size + 1, 8, none⟩ (.string t.2.2)) w.heap.size (nineC zT zT zT) 51 := (((HM2.out.at_ HBR.out (by omega)).other (by omega) _ _).other (by omega) _ _).other (by omega) _ _
          go_upto_region 10 with fail
          generalize (((W2.setCell ⟨w.heap.size + 1, 6, none⟩ (.int .i64 t.1)).setCell ⟨w.heap.size + 1, 7, none⟩ (.string t.2.1)).setCell ⟨w.heap.size + 1, 8, none⟩ (.string t.2.2)) = W3 at *
          have hT3 := HT2.out.under (HL1.out _ HLow.out) htb hBa
          have HTn := Lib.hid (ntTake_any tb n v1 R hpos.2.2 hlR W3 hT3)
          have HS3 := Lib.hid (((HSf.out.moves HTk.out.blk HM2.out)).under (HL0.out _ HLow.out) hBa)
          have HTa := Lib.hid hTa
          have HMa := Lib.hid hMa
          have HRa := Lib.hid hRa
          have HT3 := Lib.hid hT3
          have HZ3 : Hid (w.heap.size + 2 ≤ W3.heap.size) := Lib.hid (by have := hBa.size; have := HM2.out.size; omega)
          clear hTa hMa hRa hT3 hBa x0 x1 x2 z0 z1 z2 tf
          go_wp2_with (go_at_call 64; refine HTn.out.mono ?_; rintro e y5 ⟨v5, rfl, hT5, hM5, hl5⟩)
          go_roundg (3 - (2 + 1))
          case rel =>
            exact ⟨2 + 1, by omega, Nat.le_refl _, by go_num, ⟨a, b, t, v5, R.drop n, HNx.out, hT5, fun B h => hl5 B (HL1.out B h), fun x hx => HGR.out x (List.mem_of_mem_drop hx), by rw [List.length_drop]; omega, HMa.out.trans hM5, by have := hM5.size; have := HZ3.out; omega, hM5.at_ HRa.out (by omega), hM5.at_ HTa.out (by omega), HFt.out.1, HFt.out.2.1, HFx.out⟩, HS3.out.moves HT3.out.blk hM5⟩
          case measure => omega
    · obtain rfl : k = 3 := by omega
      have d1 : decide (((3 : Nat) : Int) < 3) = false := by decide
      have hY : Hid (threeS 3 L = .yes [a, b, c] R) := Lib.hid (by
        have := H3.out
        rw [show 3 - 3 = 0 from rfl] at this
        exact this)
      obtain ⟨m, hm⟩ := HEr.out.len
      have HMA := Lib.hid (mayAdd_any a b c HFt.out.1 HFt.out.2.1 HFt.out.2.2 m wr hm)
      clear hm H3
      have x0 := HBT.out.cell (j := 0) rfl
      have x1 := HBT.out.cell (j := 1) rfl
      have x2 := HBT.out.cell (j := 2) rfl
      have x3 := HBT.out.cell (j := 3) rfl
      have x4 := HBT.out.cell (j := 4) rfl
      have x5 := HBT.out.cell (j := 5) rfl
      have x6 := HBT.out.cell (j := 6) rfl
      have x7 := HBT.out.cell (j := 7) rfl
      have x8 := HBT.out.cell (j := 8) rfl
      cases had : addD a b c with
      | false =>
        rw [had] at HMA
        have HX : Hid (stmS L = .no L) := Lib.hid (by
          unfold stmS
          rw [hY.out]
          show (if addD a b c = true then _ else _) = _
          rw [had, if_neg (by decide)])
        clear had
        go_wp2_with (go_at_call 39; refine HMA.out.mono ?_; rintro e y1 ⟨rfl, hY1⟩; have hbR1 := HBR.out.kept hY1; have k0 := hbR1.cell (j := 0) rfl; have k1 := hbR1.cell (j := 1) rfl; have k2 := hbR1.cell (j := 2) rfl; have k3 := hbR1.cell (j := 3) rfl; have k4 := hbR1.cell (j := 4) rfl; have k5 := hbR1.cell (j := 5) rfl; have k6 := hbR1.cell (j := 6) rfl; have k7 := hbR1.cell (j := 7) rfl; have k8 := hbR1.cell (j := 8) rfl; have kf : ∀ j, y1.frozen? ⟨w.heap.size, j, none⟩ = false := fun j => hbR1.free j)
        refine bodyPost_ret (results_stm (p := 2) (u := 3) (v := 4) rfl _ _ w.heap.size zT zT zT rfl (block_set9 hbR1 zT zT zT)) rfl ?_
        rw [HF.out, HX.out]
        have hB4 : Below w.heap.size y1 (set9 y1 w.heap.size zT zT zT) := below_set9 (Below.refl _ _) (Nat.le_refl _) zT zT zT
        have hM4 : Moves tb w (set9 y1 w.heap.size zT zT zT) := (HM.out.go hY1).set9 (Nat.le_refl _) zT zT zT
        exact ⟨hM4, vf, v, rfl, (HSf.out.below hY1).under (HL0.out _ HLow.out) hB4, (HTk.out.blk.kept hY1).under hB4 htb⟩
      | true =>
        rw [had] at HMA
        have HX : Hid (stmS L = endS (a, b, c) R) := Lib.hid (by
          unfold stmS
          rw [hY.out]
          show (if addD a b c = true then _ else _) = _
          rw [had, if_pos rfl])
        clear had hY
        go_upto_region 14 with (go_at_call 39; refine HMA.out.mono ?_; rintro e y1 ⟨rfl, hY1⟩)
        have HTa := Lib.hid (ntTake_any tb 0 v R (Nat.zero_le _) hlR y1 (HTk.out.below hY1))
        have HM1 := Lib.hid (HM.out.go hY1)
        have HBR1 := Lib.hid (HBR.out.kept hY1)
        have HBT1 := Lib.hid (HBT.out.kept hY1)
        have hs1 := hY1.size
        clear HMA hY1 x0 x1 x2 x3 x4 x5 x6 x7 x8 HSf HBR HBT HM HTk
        go_upto_region 15 with (go_at_call 64; refine HTa.out.mono ?_; rintro e y2 ⟨v2, rfl, hT2, hM2, hl2⟩)
        rw [List.drop_zero] at hT2
        have HBR2 := Lib.hid (hM2.at_ HBR1.out (by omega))
        have HBT2 := Lib.hid (hM2.at_ HBT1.out (by omega))
        have HM2 := Lib.hid (HM1.out.trans hM2)
        have HL2 := Lib.hid (fun B h => hl2 B (HLw.out B h))
        have hs2 := hM2.size
        have HT2 := Lib.hid hT2
        clear HBR1 HBT1 HM1 hM2 hl2 HTa
        cases R with
        | nil =>
          have HXn : Hid (stmS L = .no []) := Lib.hid HX.out
          obtain ⟨p, cap, rfl⟩ : ∃ p cap, v2 = .slice p 0 cap := by
            rcases hT2.sl with ⟨rfl, _⟩ | ⟨g, o, cap, rfl, _⟩
            · exact ⟨_, _, rfl⟩
            · exact ⟨_, _, rfl⟩
          clear hT2 HX
          have k0 := HBR2.out.cell (j := 0) rfl
          have k1 := HBR2.out.cell (j := 1) rfl
          have k2 := HBR2.out.cell (j := 2) rfl
          have k3 := HBR2.out.cell (j := 3) rfl
          have k4 := HBR2.out.cell (j := 4) rfl
          have k5 := HBR2.out.cell (j := 5) rfl
          have k6 := HBR2.out.cell (j := 6) rfl
          have k7 := HBR2.out.cell (j := 7) rfl
          have k8 := HBR2.out.cell (j := 8) rfl
          have kf : ∀ j, y2.frozen? ⟨w.heap.size, j, none⟩ = false := fun j => HBR2.out.free j
          go_wp2_with fail
          refine bodyPost_ret (results_stm (p := 2) (u := 3) (v := 4) rfl _ _ w.heap.size zT zT zT rfl (block_set9 HBR2.out zT zT zT)) rfl ?_
          rw [HF.out, HXn.out]
          have hB4 : Below w.heap.size y2 (set9 y2 w.heap.size zT zT zT) := below_set9 (Below.refl _ _) (Nat.le_refl _) zT zT zT
          have hM4 : Moves tb w (set9 y2 w.heap.size zT zT zT) := HM2.out.set9 (Nat.le_refl _) zT zT zT
          exact ⟨hM4, _, _, rfl, HT2.out.sl.under (HL2.out _ HLow.out) hB4, HT2.out.blk.under hB4 htb⟩
        | cons x r =>
          obtain ⟨g, o, cap, rfl, hc1, hc2, hrow⟩ : ∃ g o cap, v2 = .slice (some ⟨g, o, none⟩) (List.length (x :: r)) cap ∧ List.length (x :: r) ≤ cap ∧ cap ≤ maxLen ∧ RowS y2 g o (x :: r) := by
            rcases hT2.sl with ⟨_, h⟩ | h
            · cases h
            · exact h
          have s0 := hrow.six (i := 0) (x := x) rfl
          rw [Nat.zero_mul, Nat.add_zero] at s0
          have q0 : y2.cell? ⟨g, o, none⟩ = some (.int .i64 x.kind) := s0 0 (by omega)
          have q1 : y2.cell? ⟨g, o + 1, none⟩ = some (.string (strOfNums x.text)) := s0 1 (by omega)
          have q2 : y2.cell? ⟨g, o + 2, none⟩ = some (.int .i64 x.tk) := s0 2 (by omega)
          have q3 : y2.cell? ⟨g, o + 3, none⟩ = some (.string (strOfNums x.tt)) := s0 3 (by omega)
          have q4 : y2.cell? ⟨g, o + 4, none⟩ = some (.string (strOfNums x.te)) := s0 4 (by omega)
          have q5 : y2.cell? ⟨g, o + 5, none⟩ = some (.int .i64 x.place) := s0 5 (by omega)
          have hmb : markB x.kind (bs (strOfNums x.text)) (bs ⟨#[46]⟩) = isEnd x := by
            unfold markB isEnd
            rw [bs_strOfNums (HGR.out x (by simp)).bt, show bs ⟨#[46]⟩ = [46] from rfl, Bool.eq_iff_iff]
            simp only [Bool.and_eq_true, beq_iff_eq, decide_eq_true_eq]
            constructor
            · rintro ⟨h1, h2⟩; exact ⟨by omega, h2⟩
            · rintro ⟨h1, h2⟩; exact ⟨by omega, h2⟩
          have HTb := Lib.hid (fun W (k : Below y2.heap.size y2 W) => ntTake_any tb 1 _ (x :: r) (by simp) hlR W (HT2.out.below k))
          have d0 : ((List.length (x :: r) : Int) == 0) = false := by simp <;> omega
          have l0 : (0 : Int) < (List.length (x :: r) : Int) := by simp <;> omega
          generalize hlen : List.length (x :: r) = len at *
          clear hlen hrow s0 hT2
          cases hme : isEnd x with
          | false =>
            rw [hme] at hmb
            have HMk := Lib.hid (markIs_at x.kind (strOfNums x.text) x.tk (strOfNums x.tt) (strOfNums x.te) x.place ⟨#[46]⟩ false hmb y2)
            have HXn : Hid (stmS L = .no (x :: r)) := Lib.hid (by rw [HX.out, endS, if_neg (by rw [hme]; decide)])
            clear HX hme hmb HTb
            go_wp2_with (go_at_call 12; refine HMk.out.mono ?_; rintro e y3 ⟨rfl, hY3⟩; have hbR3 := HBR2.out.kept hY3; have k0 := hbR3.cell (j := 0) rfl; have k1 := hbR3.cell (j := 1) rfl; have k2 := hbR3.cell (j := 2) rfl; have k3 := hbR3.cell (j := 3) rfl; have k4 := hbR3.cell (j := 4) rfl; have k5 := hbR3.cell (j := 5) rfl; have k6 := hbR3.cell (j := 6) rfl; have k7 := hbR3.cell (j := 7) rfl; have k8 := hbR3.cell (j := 8) rfl; have kf : ∀ j, y3.frozen? ⟨w.heap.size, j, none⟩ = false := fun j => hbR3.free j)
            refine bodyPost_ret (results_stm (p := 2) (u := 3) (v := 4) rfl _ _ w.heap.size zT zT zT rfl (block_set9 hbR3 zT zT zT)) rfl ?_
            rw [HF.out, HXn.out]
            have hB4 : Below w.heap.size y3 (set9 y3 w.heap.size zT zT zT) := below_set9 (Below.refl _ _) (Nat.le_refl _) zT zT zT
            have hM4 : Moves tb w (set9 y3 w.heap.size zT zT zT) := (HM2.out.go hY3).set9 (Nat.le_refl _) zT zT zT
            exact ⟨hM4, _, _, rfl, (HT2.out.sl.below hY3).under (HL2.out _ HLow.out) hB4, (HT2.out.blk.kept hY3).under hB4 htb⟩
          | true =>
            rw [hme] at hmb
            have HMk := Lib.hid (markIs_at x.kind (strOfNums x.text) x.tk (strOfNums x.tt) (strOfNums x.te) x.place ⟨#[46]⟩ true hmb y2)
            have HXn : Hid (stmS L = .yes (a, b, c) r) := Lib.hid (by rw [HX.out, endS, if_pos hme])
            clear HX hme hmb
            go_upto_region 17 with (go_at_call 12; refine HMk.out.mono ?_; rintro e y3 ⟨rfl, hY3⟩)
            have HTc := Lib.hid (HTb.out y3 hY3)
            have HM3 := Lib.hid (HM2.out.go hY3)
            have HBR3 := Lib.hid (HBR2.out.kept hY3)
            have HBT3 := Lib.hid (HBT2.out.kept hY3)
            have hs3 := hY3.size
            clear hY3 HMk HTb q0 q1 q2 q3 q4 q5
            go_wp2_with (go_at_call 64; refine HTc.out.mono ?_; rintro e y4 ⟨v4, rfl, hT4, hM4, hl4⟩; have hbT4 := (hM4.at_ HBT3.out (by omega)); have hbR4 := (hM4.at_ HBR3.out (by omega)); have x0 := hbT4.cell (j := 0) rfl; have x1 := hbT4.cell (j := 1) rfl; have x2 := hbT4.cell (j := 2) rfl; have x3 := hbT4.cell (j := 3) rfl; have x4 := hbT4.cell (j := 4) rfl; have x5 := hbT4.cell (j := 5) rfl; have x6 := hbT4.cell (j := 6) rfl; have x7 := hbT4.cell (j := 7) rfl; have x8 := hbT4.cell (j := 8) rfl; have k0 := hbR4.cell (j := 0) rfl; have k1 := hbR4.cell (j := 1) rfl; have k2 := hbR4.cell (j := 2) rfl; have k3 := hbR4.cell (j := 3) rfl; have k4 := hbR4.cell (j := 4) rfl; have k5 := hbR4.cell (j := 5) rfl; have k6 := hbR4.cell (j := 6) rfl; have k7 := hbR4.cell (j := 7) rfl; have k8 := hbR4.cell (j := 8) rfl; have kf : ∀ j, y4.frozen? ⟨w.heap.size, j, none⟩ = false := fun j => hbR4.free j)
            refine bodyPost_ret (results_stm (p := 2) (u := 3) (v := 4) rfl _ _ w.heap.size a b c rfl (block_set9 hbR4 a b c)) rfl ?_
            rw [HF.out, HXn.out]
            have hB4 : Below w.heap.size y4 (set9 y4 w.heap.size a b c) := below_set9 (Below.refl _ _) (Nat.le_refl _) a b c
            have hM5 : Moves tb w (set9 y4 w.heap.size a b c) := (HM3.out.trans hM4).set9 (Nat.le_refl _) a b c
            exact ⟨hM5, v4, rfl, hT4.under (hl4 _ (HL2.out _ HLow.out)) htb hB4, fun B h => hl4 B (HL2.out B h)⟩
end Go.Proofs.YtfldpfomecjdkaaGreatDoor
