/-
  WHAT THE PROOF STANDS ON, a part of it: RuReader, RuSlotP, RuPatP, RuPartP, RuBodyP, RuRuleP, RuPrefP, RuProgP, RuComplete, RuParse1, RuParse, RuKnown, RuOne, RuAppend, RuWrites.
-/
import Derived.Test.YtbcoklbfebmpoaaGreatDoorU36
import Derived.Test.YtbcoklbfebmpoaaGreatDoorU28
import Derived.Test.YtbcoklbfebmpoaaGreatDoorU38
import Derived.Test.YtbcoklbfebmpoaaGreatDoorU24
import Derived.Test.YtbcoklbfebmpoaaGreatDoorU29
import Derived.Defers
import Derived.Recover
import Derived.Laws.ResultCell
import Derived.Deep.Upon
import Derived.Test.YtbcoklbfebmpoaaGreatDoorU31
/-
  THE READER OF rules: its state; CONTRACTS OF need, skip, first, takes, mark, place.
-/

namespace Go.Proofs.YtbcoklbfebmpoaaGreatDoor
open Go.RowKit
open Utf Term Lex
set_option linter.unusedVariables false
set_option linter.unusedSimpArgs false

/-- Which program's rules are read, and from where on memory is the reader's own. -/
structure RdK where
  N : Nat
  B : Nat
  rb : Nat
  mv : Value
  hN : N ≤ 1000000000
  hB : 0 < B ∧ 1 < B ∧ 4 < B
  hrb : B ≤ rb
/-- What the prefixes' map tells, wherever it lies. -/
def MapOf (W : World) (mv : Value) (P : ByteArray → Option ByteArray) (rb : Nat) : Prop := ∃ mb, mv = .map (some mb) ∧ MapB W mb P ∧ mb ≠ rb
structure Rdr (K : RdK) (P : ByteArray → Option ByteArray) (W : World) (v : Value) (L : List Sym) : Prop where
  blk : BlockAt W K.rb #[v, K.mv] 73
  sl : SlA W v L
  low : LowV K.B v
  good : ∀ x ∈ L, GoodR K.N x
  few : L.length ≤ 1000000000
  mp : MapOf W K.mv P K.rb
  hP : ∀ a b, P a = some b → b.size ≤ 1000000000
  env : LexEnv W
theorem MapB.of_block {W U : World} {b : Nat} {P : ByteArray → Option ByteArray} (h : MapB W b P) (k : U.heap[b]? = W.heap[b]?) : MapB U b P := by
  obtain ⟨es, clock, h1, h2, h3⟩ := h
  exact ⟨es, clock, k.trans h1, h2, h3⟩
theorem MapB.lt {W : World} {b : Nat} {P : ByteArray → Option ByteArray} (h : MapB W b P) : b < W.heap.size := by
  obtain ⟨es, clock, h1, _⟩ := h
  exact (Array.getElem?_eq_some_iff.1 h1).1
theorem Rdr.lt {K : RdK} {P : ByteArray → Option ByteArray} {W : World} {v : Value} {L : List Sym} (h : Rdr K P W v L) : K.rb < W.heap.size := (Array.getElem?_eq_some_iff.1 h.blk).1
theorem Rdr.below {K : RdK} {P : ByteArray → Option ByteArray} {W U : World} {v : Value} {L : List Sym} (h : Rdr K P W v L) (k : Below W.heap.size W U) : Rdr K P U v L :=
  ⟨h.blk.kept k, h.sl.below k, h.low, h.good, h.few, let ⟨mb, e, hm, hne⟩ := h.mp; ⟨mb, e, hm.keep k, hne⟩, h.hP, h.env.below k⟩
/-- The reader goes on: its block alone is another one. -/
theorem Rdr.go {K : RdK} {P : ByteArray → Option ByteArray} {W U : World} {v v' : Value} {L L' : List Sym} (h : Rdr K P W v L) (m : Moves K.rb W U) (hb : BlockAt U K.rb #[v', K.mv] 73) (hs : SlA U v' L') (hl : LowV K.B v') (hsub : Suf L' L) : Rdr K P U v' L' := by
  have hB : Below K.B W U := m.below (by have := h.lt; have := K.hrb; omega) K.hrb
  exact ⟨hb, hs, hl, fun x hx => h.good x (hsub.mem x hx), by have := hsub.len; have := h.few; omega,
    let ⟨mb, e, hm, hne⟩ := h.mp; ⟨mb, e, hm.of_block (m.block mb hm.lt hne), hne⟩, h.hP, h.env.under hB K.hB⟩
theorem Rdr.under {K : RdK} {P : ByteArray → Option ByteArray} {W U : World} {v : Value} {L : List Sym} (h : Rdr K P W v L) (m : Moves K.rb W U) : SlA U v L :=
  h.sl.under h.low (m.below (by have := h.lt; have := K.hrb; omega) K.hrb)
abbrev rdP (K : RdK) : Value := .pointer (some ⟨K.rb, 0, none⟩)
abbrev unitE : Ending := .returned (.tuple #[])
/-- It ended so, and the reader has these symbols left. -/
def Went (K : RdK) (P : ByteArray → Option ByteArray) (E : Ending) (l : List Sym) (w : World) (e : Ending) (w' : World) : Prop := e = E ∧ (∃ v', Rdr K P w' v' l) ∧ Moves K.rb w w'
set_option maxRecDepth 100000 in
theorem ruNeed_any (r : Value) (b : Bool) (w : World) : Calls Tryz.prog 85 #[r, .bool b] w fun e w' => e = (if b = true then unitE else badE) ∧ w = w' := by
  cases b with
  | true =>
    go_enter Tryz.func85, Tryz.ntmps85
    go_wp2
    go_end0
    exact ⟨rfl, rfl⟩
  | false =>
    go_enter Tryz.func85, Tryz.ntmps85
    go_wp2
    exact ⟨rfl, rfl, rfl⟩

set_option maxRecDepth 100000 in
set_option maxHeartbeats 4000000 in
theorem ruSkip_any (K : RdK) (P : ByteArray → Option ByteArray) (n : Nat) (v : Value) (L : List Sym) (hn : n ≤ L.length) (hpos : 0 < L.length) (w : World) (h : Rdr K P w v L) :
    Calls Tryz.prog 83 #[rdP K, .int .i64 n] w (Went K P unitE (L.drop n) w) := by
  have c0 := h.blk.cell (j := 0) rfl
  have cf : ∀ j, w.frozen? ⟨K.rb, j, none⟩ = false := fun j => h.blk.free j
  have H := Lib.hid h
  have hsl := h.sl
  have hlow := h.low
  have hN := h.few
  clear h
  rcases hsl with ⟨rfl, rfl⟩ | ⟨g, o, cap, rfl, h1, h2, h3⟩
  · simp at hpos
  have HSuf : Hid (Suf (L.drop n) L) := Lib.hid ⟨n, hn, rfl⟩
  have HR := Lib.hid h3
  have HLw := Lib.hid hlow
  obtain ⟨len, hlen⟩ : ∃ len, len = L.length := ⟨_, rfl⟩
  have HL := Lib.hid hlen
  have HN := Lib.hid hn
  rw [← hlen] at hn h1 hN c0 hpos
  have n0 : (0 : Int) ≤ (n : Int) := by omega
  have n1 : (n : Int) ≤ (len : Int) := by omega
  have n2 : (len : Int) ≤ (cap : Int) := by omega
  have n3 : (n : Int) ≤ (cap : Int) := by omega
  have HG : Hid (g < K.B) := Lib.hid (hlow g o L.length cap rfl (by omega))
  have HHr := Lib.hid K.hrb
  have hset : ∀ v' : Value, BlockAt (w.setCell ⟨K.rb, 0, none⟩ v') K.rb #[v', K.mv] 73 := fun v' => H.out.blk.set 0 v'
  have hmv : ∀ v' : Value, Moves K.rb w (w.setCell ⟨K.rb, 0, none⟩ v') := fun v' => Moves.refl.set 0 v'
  have hrow : ∀ v' : Value, RowS (w.setCell ⟨K.rb, 0, none⟩ v') g (o + n * 6) (L.drop n) := fun v' => fun j u e => by
    have := (HR.out.drop HN.out) j u e
    rwa [World.cell?_setCell_other _ _ _ _ (fun e => by have h1 : K.rb = g := congrArg Addr.block e; have := HG.out; have := HHr.out; omega)]
  have HSe := Lib.hid hset
  have HMv := Lib.hid hmv
  have HRo := Lib.hid hrow
  clear h3 hlen hlow hset hmv hrow
  go_enter Tryz.func83, Tryz.ntmps83
  go_wp2
  · have hl0 : len - n = 0 := by omega
    have hd : L.drop n = [] := List.drop_eq_nil_of_le (by have := HL.out; omega)
    have hs : SlA (w.setCell ⟨K.rb, 0, none⟩ (.slice (some ⟨g, o, none⟩) (len - n) 0)) (.slice (some ⟨g, o, none⟩) (len - n) 0) (L.drop n) := by
      rw [hd, hl0]
      exact SlA.nil _ g o 0 (Nat.zero_le _)
    go_end0
    refine ⟨rfl, ⟨_, H.out.go (HMv.out _) (HSe.out _) hs ?_ HSuf.out⟩, HMv.out _⟩
    intro g' o' n' c' e hn'
    cases e
    omega
  · have hl0 : len - n = (L.drop n).length := by rw [List.length_drop, HL.out]
    have hs : SlA (w.setCell ⟨K.rb, 0, none⟩ (.slice (some ⟨g, o + n * 6, none⟩) (len - n) (cap - n))) (.slice (some ⟨g, o + n * 6, none⟩) (len - n) (cap - n)) (L.drop n) :=
      .inr ⟨g, o + n * 6, cap - n, by rw [hl0], by omega, by omega, HRo.out _⟩
    go_end0
    refine ⟨rfl, ⟨_, H.out.go (HMv.out _) (HSe.out _) hs ?_ HSuf.out⟩, HMv.out _⟩
    intro g' o' n' c' e hn'
    cases e
    exact HG.out

/-- The first symbol; where there is none, one of no kind. -/
def firstS : List Sym → Sym
  | [] => ⟨0, [], 0, [], [], 0⟩
  | x :: _ => x
abbrev symE (x : Sym) : Value := .agg #[.int .i64 x.kind, .string (strOfNums x.text), .int .i64 x.tk, .string (strOfNums x.tt), .string (strOfNums x.te), .int .i64 x.place]
theorem results_sym {fn : Func} {p : Tmp} (h : fn.results = #[.cell p 64]) (tmps : Array Value) (w : World) (g : Nat) (x0 x1 x2 x3 x4 x5 : Value)
    (hp : tmps.getD p undef = .pointer (some ⟨g, 0, none⟩)) (hx : BlockAt w g #[x0, x1, x2, x3, x4, x5] 64) :
    (results fn tmps).run Tryz.prog w = .ok (.agg #[x0, x1, x2, x3, x4, x5]) w :=
  results_cell_row h tmps w g 64 #[x0, x1, x2, x3, x4, x5] (0, 0) _ hp hx Tryz.underlying64 rfl (by kernel_rfl)
set_option maxRecDepth 100000 in
set_option maxHeartbeats 4000000 in
theorem ruFirst_any (K : RdK) (P : ByteArray → Option ByteArray) (v : Value) (L : List Sym) (w : World) (h : Rdr K P w v L) :
    Calls Tryz.prog 59 #[rdP K] w fun e w' => e = .returned (symE (firstS L)) ∧ Below w.heap.size w w' := by
  have c0 := h.blk.cell (j := 0) rfl
  have hrw := h.lt
  have HB := Lib.hid (below_lex w (.cells zeroC 64))
  have HZ := Lib.hid (block_new w zeroC 64)
  have hsl := h.sl
  have hfew := h.few
  clear h
  cases L with
  | nil =>
    obtain ⟨p, cap, rfl⟩ : ∃ p cap, v = .slice p 0 cap := by
      rcases hsl with ⟨rfl, _⟩ | ⟨g, o, cap, rfl, _⟩
      · exact ⟨_, _, rfl⟩
      · exact ⟨_, _, rfl⟩
    clear hsl
    go_enter Tryz.func59, Tryz.ntmps59
    go_wp2
    exact bodyPost_ret (results_sym rfl _ _ w.heap.size _ _ _ _ _ _ rfl HZ.out) rfl ⟨rfl, HB.out⟩
  | cons x r =>
    rcases hsl with ⟨_, h⟩ | ⟨g, o, cap, rfl, h1, h2, h3⟩
    · cases h
    have s0 := h3.six (i := 0) (x := x) rfl
    rw [Nat.zero_mul, Nat.add_zero] at s0
    have q0 : w.cell? ⟨g, o, none⟩ = some (.int .i64 x.kind) := s0 0 (by omega)
    have q1 : w.cell? ⟨g, o + 1, none⟩ = some (.string (strOfNums x.text)) := s0 1 (by omega)
    have q2 : w.cell? ⟨g, o + 2, none⟩ = some (.int .i64 x.tk) := s0 2 (by omega)
    have q3 : w.cell? ⟨g, o + 3, none⟩ = some (.string (strOfNums x.tt)) := s0 3 (by omega)
    have q4 : w.cell? ⟨g, o + 4, none⟩ = some (.string (strOfNums x.te)) := s0 4 (by omega)
    have q5 : w.cell? ⟨g, o + 5, none⟩ = some (.int .i64 x.place) := s0 5 (by omega)
    have hgw := World.block_lt_of_cell? _ _ q0
    have d0 : ((List.length (x :: r) : Int) == 0) = false := by simp <;> omega
    have l0 : (0 : Int) < (List.length (x :: r) : Int) := by simp <;> omega
    show Calls _ _ _ _ fun e w' => e = .returned (symE x) ∧ _
    generalize List.length (x :: r) = len at *
    clear h3 s0
    go_enter Tryz.func59, Tryz.ntmps59
    go_wp2
    exact bodyPost_ret (results_sym rfl _ _ w.heap.size _ _ _ _ _ _ rfl (block_new w _ _)) rfl ⟨rfl, below_lex _ _⟩

/-- A function tells whether a symbol is such a one. -/
structure TellsY (F : Nat) (ms : ByteArray) (p : Sym → Bool) : Prop where
  ent : ∀ args w, (callFunc F args).run Tryz.prog w = .ok (.enter F args) w
  zero : p (firstS []) = false
  call : ∀ (N : Nat) (x : Sym), N ≤ 1000000000 → GoodS N x ∨ x = firstS [] → ∀ W, Calls Tryz.prog F #[symE x, .string ms] W fun e w' => e = .returned (.bool (p x)) ∧ Below W.heap.size W w'
theorem bs_text {N : Nat} {x : Sym} (h : GoodS N x ∨ x = firstS []) : bs (strOfNums x.text) = x.text := by
  rcases h with h | rfl
  · exact bs_strOfNums h.bt
  · rfl
theorem tells_mk (m : List Int) (ms : ByteArray) (hm : bs ms = m) : TellsY 58 ms (isMk m) where
  ent := enters_of Tryz.func58 (by kernel_rfl) rfl
  zero := by simp [isMk, firstS]
  call := fun N x hN hx W => by
    refine markIs_at x.kind (strOfNums x.text) x.tk (strOfNums x.tt) (strOfNums x.te) x.place ms (isMk m x) ?_ W
    unfold markB isMk
    rw [bs_text hx, hm, Bool.eq_iff_iff]
    simp only [Bool.and_eq_true, beq_iff_eq, decide_eq_true_eq]
    constructor
    · rintro ⟨h1, h2⟩; exact ⟨by omega, h2⟩
    · rintro ⟨h1, h2⟩; exact ⟨by omega, h2⟩
theorem tells_wd (m : List Int) (ms : ByteArray) (hm : bs ms = m) : TellsY 56 ms (isWd m) where
  ent := enters_of Tryz.func56 (by kernel_rfl) rfl
  zero := by simp [isWd, firstS, wordB]
  call := fun N x hN hx W => by
    refine wordIs_at x.kind (strOfNums x.text) ?_ x.tk (strOfNums x.tt) (strOfNums x.te) x.place ms (isWd m x) ?_ W
    · rw [strNums_size]
      rcases hx with hx | rfl
      · have := hx.lt; omega
      · decide
    · unfold isWd
      rw [bs_text hx, hm]

def Took1 (K : RdK) (P : ByteArray → Option ByteArray) (p : Sym → Bool) (L : List Sym) (w : World) (e : Ending) (w' : World) : Prop :=
  match takesS p L with
  | some r => Went K P (.returned (.bool true)) r w e w'
  | none => Went K P (.returned (.bool false)) L w e w'
theorem Rdr.first_ok {K : RdK} {P : ByteArray → Option ByteArray} {W : World} {v : Value} {L : List Sym} (h : Rdr K P W v L) : GoodS K.N (firstS L) ∨ firstS L = firstS [] := by
  cases L with
  | nil => exact .inr rfl
  | cons x r => exact .inl (h.good x (by simp)).toGoodS
set_option maxRecDepth 100000 in
set_option maxHeartbeats 4000000 in
theorem ruTakes_any (K : RdK) (P : ByteArray → Option ByteArray) (F : Nat) (ms : ByteArray) (p : Sym → Bool) (hT : TellsY F ms p) (v : Value) (L : List Sym) (w : World) (h : Rdr K P w v L) :
    Calls Tryz.prog 55 #[rdP K, .func (.func F) #[] #[], .string ms] w (Took1 K P p L w) := by
  have hent := hT.ent
  have HF1 := Lib.hid (ruFirst_any K P v L w h)
  have HC := Lib.hid (fun W => hT.call K.N (firstS L) K.hN h.first_ok W)
  have H := Lib.hid h
  obtain ⟨Q, hQ⟩ : ∃ Q, Q = Took1 K P p L w := ⟨_, rfl⟩
  rw [← hQ]
  have HQ := Lib.hid hQ
  have HZ := Lib.hid hT.zero
  clear hQ hT h
  cases hp : p (firstS L) with
  | false =>
    rw [hp] at HC
    have HX : Hid (∀ W, Below w.heap.size w W → Q (.returned (.bool false)) W) := Lib.hid (fun W hW => by
      rw [HQ.out]
      unfold Took1
      have e : takesS p L = none := by
        cases L with
        | nil => rfl
        | cons x r => rw [takesS, if_neg (by rw [show p x = false from hp]; decide)]
      rw [e]
      exact ⟨rfl, ⟨_, H.out.below hW⟩, Moves.of_below hW⟩)
    clear hp HQ
    go_enter Tryz.func55, Tryz.ntmps55
    go_wp2_with (first
      | (go_at_call 59; refine HF1.out.mono ?_; rintro e w1 ⟨rfl, hB1⟩; have HB1 := Lib.hid hB1; clear hB1)
      | (go_at_fn F; refine (HC.out _).mono ?_; rintro e w2 ⟨rfl, hB2⟩))
    exact HX.out _ (below_next HB1.out hB2)
  | true =>
    rw [hp] at HC
    cases L with
    | nil =>
      rw [HZ.out] at hp
      cases hp
    | cons x r =>
      have HX : Hid (∀ W e, Went K P unitE ((x :: r).drop 1) w e W → Q (.returned (.bool true)) W) := Lib.hid (fun W e hW => by
        rw [HQ.out]
        unfold Took1
        have e : takesS p (x :: r) = some r := by rw [takesS, if_pos (show p x = true from hp)]
        rw [e]
        exact ⟨rfl, hW.2.1, hW.2.2⟩)
      have HSk := Lib.hid (fun W (hW : Below w.heap.size w W) => ruSkip_any K P 1 v (x :: r) (by simp) (by simp) W (H.out.below hW))
      clear hp HQ
      go_enter Tryz.func55, Tryz.ntmps55
      go_wp2_with (first
        | (go_at_call 59; refine HF1.out.mono ?_; rintro e w1 ⟨rfl, hB1⟩; have HB1 := Lib.hid hB1; clear hB1)
        | (go_at_fn F; refine (HC.out _).mono ?_; rintro e w2 ⟨rfl, hB2⟩; have HB2 := Lib.hid (below_next HB1.out hB2); clear hB2)
        | (go_at_call 83; refine (HSk.out _ HB2.out).mono ?_; rintro e w3 ⟨rfl, hR3, hM3⟩))
      exact HX.out _ unitE ⟨rfl, hR3, (Moves.of_below HB2.out).trans hM3⟩

/-- It went well, or ended by a panic where the wrong symbol is. -/
def RdOut {α : Type} (K : RdK) (P : ByteArray → Option ByteArray) (Rv : α → Ending → World → Prop) (T : Tk α) (w : World) (e : Ending) (w' : World) : Prop :=
  Moves K.rb w w' ∧ match T with
  | .no l => e = badE ∧ ∃ v', Rdr K P w' v' l
  | .yes a l => Rv a e w' ∧ ∃ v', Rdr K P w' v' l
abbrev isUnit : Unit → Ending → World → Prop := fun _ e _ => e = unitE
set_option maxRecDepth 100000 in
set_option maxHeartbeats 4000000 in
theorem ruMark_any (K : RdK) (P : ByteArray → Option ByteArray) (m : List Int) (ms : ByteArray) (hm : bs ms = m) (v : Value) (L : List Sym) (w : World) (h : Rdr K P w v L) :
    Calls Tryz.prog 61 #[rdP K, .string ms] w (RdOut K P isUnit (needS (isMk m) L) w) := by
  have hTk := ruTakes_any K P _ ms (isMk m) (tells_mk m ms hm) v L w h
  obtain ⟨Q, hQ⟩ : ∃ Q, Q = RdOut K P isUnit (needS (isMk m) L) w := ⟨_, rfl⟩
  rw [← hQ]
  have HQ := Lib.hid hQ
  clear hQ h
  cases ht : takesS (isMk m) L with
  | none =>
    have HTk : Hid (Calls Tryz.prog 55 #[rdP K, .func (.func 58) #[] #[], .string ms] w (Went K P (.returned (.bool false)) L w)) := Lib.hid (hTk.mono (fun e w' h => by unfold Took1 at h; rw [ht] at h; exact h))
    have HX : Hid (∀ W, (∃ v', Rdr K P W v' L) → Moves K.rb w W → Q badE W) := Lib.hid (fun W h1 h2 => by
      rw [HQ.out]
      unfold needS
      rw [ht]
      exact ⟨h2, rfl, h1⟩)
    have HN := Lib.hid (fun W => ruNeed_any (rdP K) false W)
    clear hTk ht HQ
    go_enter Tryz.func61, Tryz.ntmps61
    go_wp2_with (first
      | (go_at_call 55; refine HTk.out.mono ?_; rintro e w1 ⟨rfl, hR1, hM1⟩)
      | (go_at_call 85; refine (HN.out _).mono ?_; rintro e w2 ⟨rfl, rfl⟩))
    exact ⟨rfl, HX.out _ hR1 hM1⟩
  | some r =>
    have HTk : Hid (Calls Tryz.prog 55 #[rdP K, .func (.func 58) #[] #[], .string ms] w (Went K P (.returned (.bool true)) r w)) := Lib.hid (hTk.mono (fun e w' h => by unfold Took1 at h; rw [ht] at h; exact h))
    have HX : Hid (∀ W, (∃ v', Rdr K P W v' r) → Moves K.rb w W → Q unitE W) := Lib.hid (fun W h1 h2 => by
      rw [HQ.out]
      unfold needS
      rw [ht]
      exact ⟨h2, rfl, h1⟩)
    have HN := Lib.hid (fun W => ruNeed_any (rdP K) true W)
    clear hTk ht HQ
    go_enter Tryz.func61, Tryz.ntmps61
    go_wp2_with (first
      | (go_at_call 55; refine HTk.out.mono ?_; rintro e w1 ⟨rfl, hR1, hM1⟩)
      | (go_at_call 85; refine (HN.out _).mono ?_; rintro e w2 ⟨rfl, rfl⟩))
    go_end0
    exact HX.out _ hR1 hM1

set_option maxRecDepth 100000 in
set_option maxHeartbeats 4000000 in
theorem ruPlace_any (K : RdK) (P : ByteArray → Option ByteArray) (n : Nat) (v : Value) (L : List Sym) (w : World) (h : Rdr K P w v L) :
    Calls Tryz.prog 47 #[rdP K, .int .i64 n] w fun e w' => e = .returned (.int .i64 ((placeR n L : Nat) : Int)) ∧ w = w' := by
  have c0 := h.blk.cell (j := 0) rfl
  have hsl := h.sl
  clear h
  cases L with
  | nil =>
    obtain ⟨p, cap, rfl⟩ : ∃ p cap, v = .slice p 0 cap := by
      rcases hsl with ⟨rfl, _⟩ | ⟨g, o, cap, rfl, _⟩
      · exact ⟨_, _, rfl⟩
      · exact ⟨_, _, rfl⟩
    clear hsl
    go_enter Tryz.func47, Tryz.ntmps47
    go_wp2
    go_ret
    exact ⟨rfl, rfl⟩
  | cons x r =>
    rcases hsl with ⟨_, h⟩ | ⟨g, o, cap, rfl, h1, h2, h3⟩
    · cases h
    have s5 : w.cell? ⟨g, o + 5, none⟩ = some (.int .i64 x.place) := by
      have := h3.six (i := 0) (x := x) rfl 5 (by omega)
      rw [Nat.zero_mul, Nat.add_zero] at this
      exact this
    have d0 : ((List.length (x :: r) : Int) == 0) = false := by simp <;> omega
    have l0 : (0 : Int) < (List.length (x :: r) : Int) := by simp <;> omega
    generalize List.length (x :: r) = len at *
    clear h3
    go_enter Tryz.func47, Tryz.ntmps47
    go_wp2
    go_ret
    exact ⟨rfl, rfl⟩
end Go.Proofs.YtbcoklbfebmpoaaGreatDoor

/-
  THE READER OF rules: CONTRACT OF slot.
-/

namespace Go.Proofs.YtbcoklbfebmpoaaGreatDoor
open Go.RowKit
open Utf Term Lex
set_option linter.unusedVariables false
set_option linter.unusedSimpArgs false

/-- Another block than the reader's, not a map, is another one now. -/
theorem Rdr.other {K : RdK} {P : ByteArray → Option ByteArray} {W U : World} {v : Value} {L : List Sym} (h : Rdr K P W v L) {b : Nat} (hb : K.B ≤ b) (hne : b ≠ K.rb) {cs : Array Value} {t : TypeId} (hc : BlockAt W b cs t) (m : Moves b W U) : Rdr K P U v L := by
  have hB : Below K.B W U := m.below (by have := h.lt; have := K.hrb; omega) hb
  refine ⟨m.at_ h.blk (fun e => hne e.symm), h.sl.under h.low hB, h.low, h.good, h.few, ?_, h.hP, h.env.under hB K.hB⟩
  obtain ⟨mb, e, hm, hn⟩ := h.mp
  refine ⟨mb, e, hm.of_block (m.block mb hm.lt fun e' => ?_), hn⟩
  obtain ⟨es, clock, h1, _⟩ := hm
  unfold BlockAt at hc
  rw [e', hc] at h1
  cases h1
theorem Moves.of_other {g b : Nat} {w u v : World} (h : Moves g w u) (hb : w.heap.size ≤ b) (k : Moves b u v) : Moves g w v :=
  ⟨k.os.trans h.os, k.tape.trans h.tape, k.output.trans h.output, Nat.le_trans h.size k.size, fun i hi hn => (k.block i (Nat.lt_of_lt_of_le hi h.size) (by omega)).trans (h.block i hi hn)⟩

abbrev isSlot (s : SlotD) : Ending → World → Prop := fun e _ => e = .returned (.agg (slotC s))
theorem results_slot {fn : Func} {p : Tmp} (h : fn.results = #[.cell p 33]) (tmps : Array Value) (w : World) (g : Nat) (x0 x1 x2 x3 : Value)
    (hp : tmps.getD p undef = .pointer (some ⟨g, 0, none⟩)) (hx : BlockAt w g #[x0, x1, x2, x3] 33) :
    (results fn tmps).run Tryz.prog w = .ok (.agg #[x0, x1, x2, x3]) w :=
  results_cell_row h tmps w g 33 #[x0, x1, x2, x3] (0, 0) _ hp hx Tryz.underlying33 rfl (by kernel_rfl)
abbrev zSlC : Array Value := #[.string ⟨#[]⟩, .int .i64 0, .string ⟨#[]⟩, .string ⟨#[]⟩]
theorem BlockAt.set4 {W : World} {g : Nat} {x0 x1 x2 x3 : Value} {t : TypeId} (h : BlockAt W g #[x0, x1, x2, x3] t) (a b c d : Value) :
    BlockAt ((((W.setCell ⟨g, 0, none⟩ a).setCell ⟨g, 1, none⟩ b).setCell ⟨g, 2, none⟩ c).setCell ⟨g, 3, none⟩ d) g #[a, b, c, d] t := (((h.set 0 a).set 1 b).set 2 c).set 3 d
theorem moves_set4 {g : Nat} (W : World) (a b c d : Value) : Moves g W ((((W.setCell ⟨g, 0, none⟩ a).setCell ⟨g, 1, none⟩ b).setCell ⟨g, 2, none⟩ c).setCell ⟨g, 3, none⟩ d) := (((Moves.refl.set 0 a).set 1 b).set 2 c).set 3 d
theorem slotS_var {P : ByteArray → Option ByteArray} {x : Sym} {r : List Sym} (h : x.kind = 5) (hn : nameB (S x.text) = true) : slotS P (x :: r) = .yes (S x.text, zTe) r := by rw [slotS, if_pos h, if_pos hn]
theorem slotS_else {P : ByteArray → Option ByteArray} {L : List Sym} (h : (firstS L).kind ≠ 5) : slotS P L = termS P L := by
  cases L with
  | nil => unfold termS; rw [read_nil]; rfl
  | cons x r => rw [slotS, if_neg (show x.kind ≠ 5 from h)]
theorem below_put3 {B : Nat} {w W : World} (h : Below B w W) {g : Nat} (hg : B ≤ g) (a b c : Value) : Below B w (((W.setCell ⟨g, 0, none⟩ a).setCell ⟨g, 1, none⟩ b).setCell ⟨g, 2, none⟩ c) :=
  ((h.setCell hg a).setCell hg b).setCell hg c
/-- What Read has left. -/
def SlA1 (y : World) (tt : TermD) (kk : Nat) (ee : Int) (s4 s5 s6 : Value) (wx : World) : Prop :=
  ∃ g, s4 = .pointer (some ⟨g, 0, none⟩) ∧ s5 = .int .i64 kk ∧ s6 = .int .i64 ee ∧ BlockAt wx g (termC tt.1 tt.2.1 tt.2.2) 31 ∧ Below y.heap.size y wx ∧ y.heap.size ≤ g

set_option maxRecDepth 100000 in
set_option maxHeartbeats 8000000 in
theorem ruSlotP_any (K : RdK) (P : ByteArray → Option ByteArray) (v : Value) (L : List Sym) (w : World) (h : Rdr K P w v L) :
    Calls Tryz.prog 60 #[rdP K] w (RdOut K P isSlot (slotS P L) w) := by
  obtain ⟨Q, hQ⟩ : ∃ Q, Q = RdOut K P isSlot (slotS P L) w := ⟨_, rfl⟩
  rw [← hQ]
  have HQ := Lib.hid hQ
  have H := Lib.hid h
  have hB0 := below_lex w (.cells zSlC 33)
  have HB0 := Lib.hid hB0
  have HZ0 := Lib.hid (block_new w zSlC 33)
  have HF1 := Lib.hid (fun W (hW : Below w.heap.size w W) => ruFirst_any K P v L W (h.below hW))
  have HNe := Lib.hid (ruNeed_any (rdP K))
  have Hlt := Lib.hid h.lt
  clear hQ h hB0
  by_cases h5 : (firstS L).kind = 5
  · obtain ⟨x, r, rfl⟩ : ∃ x r, L = x :: r := by
      cases L with
      | nil => simp [firstS] at h5
      | cons x r => exact ⟨x, r, rfl⟩
    have h5' : x.kind = 5 := h5
    obtain ⟨hn, hne⟩ := (H.out.good x (by simp)).var h5'
    have HSl : Hid (slotS P (x :: r) = .yes (S x.text, zTe) r) := Lib.hid (slotS_var h5' hn)
    have HX : Hid (∀ W v', Moves K.rb w W → Rdr K P W v' r → Q (.returned (.agg (slotC (S x.text, zTe)))) W) := Lib.hid (fun W v' h1 h2 => by
      rw [HQ.out, HSl.out]
      exact ⟨h1, rfl, _, h2⟩)
    obtain ⟨m, hm⟩ := H.out.env.len
    have Hm := Lib.hid hm
    have HNm : Hid (∀ W, Below w.heap.size w W → Calls Tryz.prog 33 #[.string (strOfNums x.text)] W fun e w' => e = .returned (.bool true) ∧ Below W.heap.size W w') := Lib.hid (fun W hW => by
      have := ruName_any (S x.text) (by show (strOfNums x.text).size ≤ _; rw [strNums_size]; have := (H.out.good x (by simp)).lt; have := K.hN; omega) m W (cell_kept_b hW Hm.out)
      rw [hn] at this
      exact this)
    have HSk := Lib.hid (fun W (hW : Below w.heap.size w W) => ruSkip_any K P 1 v (x :: r) (by simp) (by simp) W (H.out.below hW))
    have HK : Hid (x.kind = 5) := Lib.hid h5'
    have k5 : ((x.kind : Nat) : Int) = 5 := by rw [h5']; rfl
    have HF2 : Hid (∀ W, Below w.heap.size w W → Calls Tryz.prog 59 #[rdP K] W fun e w' => e = .returned (symE x) ∧ Below W.heap.size W w') := HF1
    clear h5 h5' hn hne HQ hm HF1
    show Calls _ _ _ _ Q
    go_enter Tryz.func60, Tryz.ntmps60
    go_upto_region 2 with (go_at_call 59; refine (HF2.out _ HB0.out).mono ?_; rintro e y1 ⟨rfl, hY1⟩)
    have hB1 : Below w.heap.size w (y1.alloc (.cells #[.int .i64 5, .string (strOfNums x.text), .int .i64 x.tk, .string (strOfNums x.tt), .string (strOfNums x.te), .int .i64 x.place] 64)) := below_next (below_next HB0.out hY1) (below_lex _ _)
    have HB1 := Lib.hid hB1
    have HZ1 := Lib.hid (block_new y1 #[.int .i64 5, .string (strOfNums x.text), .int .i64 x.tk, .string (strOfNums x.tt), .string (strOfNums x.te), .int .i64 x.place] 64)
    have HZs := Lib.hid ((HZ0.out.kept hY1).alloc (.cells #[.int .i64 5, .string (strOfNums x.text), .int .i64 x.tk, .string (strOfNums x.tt), .string (strOfNums x.te), .int .i64 x.place] 64))
    have HGy : Hid (w.heap.size < y1.heap.size) := Lib.hid (by have := hY1.size; simp at this; omega)
    clear hB1 hY1
    generalize y1.alloc (.cells #[.int .i64 5, .string (strOfNums x.text), .int .i64 x.tk, .string (strOfNums x.tt), .string (strOfNums x.te), .int .i64 x.place] 64) = W1 at *
    generalize y1.heap.size = g1 at *
    have p0 := HZ1.out.cell (j := 0) rfl
    have p1 := HZ1.out.cell (j := 1) rfl
    go_wp2_with (first
      | (go_at_call 33; refine (HNm.out _ HB1.out).mono ?_; rintro e y2 ⟨rfl, hY2⟩; have HB2 := Lib.hid (below_next HB1.out hY2); have HZ2 := Lib.hid (HZ1.out.kept hY2); have HZt := Lib.hid (HZs.out.kept hY2); clear hY2)
      | (go_at_call 85; refine (HNe.out true _).mono ?_; rintro e y2 ⟨rfl, rfl⟩)
      | (go_at_call 83; refine (HSk.out _ HB2.out).mono ?_; rintro e y3 ⟨rfl, ⟨v3, hR3⟩, hM3⟩; have HR3 := Lib.hid hR3; have HM3 := Lib.hid ((Moves.of_below HB2.out).trans hM3); have HZ3 := Lib.hid (hM3.at_ HZ2.out (by have := Hlt.out; have := HGy.out; omega)); have HZu := Lib.hid (hM3.at_ HZt.out (by have := Hlt.out; omega)); clear hR3 hM3; have r1 := HZ3.out.cell (j := 1) rfl; have u0 := HZu.out.cell (j := 0) rfl; have u1 := HZu.out.cell (j := 1) rfl; have u2 := HZu.out.cell (j := 2) rfl; have u3 := HZu.out.cell (j := 3) rfl; have uf := HZu.out.free))
    have hge : K.B ≤ w.heap.size := by have := Hlt.out; have := K.hrb; omega
    have hne : w.heap.size ≠ K.rb := by have := Hlt.out; omega
    exact bodyPost_ret (results_slot rfl _ _ w.heap.size _ _ _ _ rfl (HZu.out.set4 _ _ _ _)) rfl (HX.out _ v3 (HM3.out.of_other (Nat.le_refl _) (moves_set4 _ _ _ _ _)) (HR3.out.other hge hne HZu.out (moves_set4 _ _ _ _ _)))
  · have HSl : Hid (slotS P L = termS P L) := Lib.hid (slotS_else h5)
    obtain ⟨x, hx⟩ : ∃ x, x = firstS L := ⟨_, rfl⟩
    rw [← hx] at h5 HF1
    have d5 : (((x.kind : Nat) : Int) == 5) = false := by simp <;> omega
    have hRd := fun W (hW : Below w.heap.size w W) => read_any P K.mv K.N K.hN H.out.hP v L (fun y hy => (H.out.good y hy).toGoodS) W (H.out.env.below hW) (named_any P K.mv K.N K.hN W (H.out.env.below hW) (fun U hU => by
      obtain ⟨mb, e, hm, _⟩ := H.out.mp
      rw [e]
      exact ((hm.keep hW).keep hU).tells) H.out.hP) (H.out.sl.below hW)
    have HRd := Lib.hid hRd
    clear hRd h5 hx
    have hrw := Hlt.out
    have c0 := H.out.blk.cell (j := 0) rfl
    have c1 := H.out.blk.cell (j := 1) rfl
    obtain ⟨tt, kk, ee, HRd2, hways⟩ : ∃ (tt : TermD) (kk : Nat) (ee : Int), Hid (∀ U, Below w.heap.size w U → Calls Tryz.prog 86 #[v, K.mv] U fun e w' => e = .returned (.tuple #[.agg (termC tt.1 tt.2.1 tt.2.2), .int .i64 kk, .int .i64 ee]) ∧ Below U.heap.size U w') ∧ ((kk ≤ L.length ∧ 0 < L.length ∧ ee = 0 ∧ slotS P L = .yes (noneB, tt) (L.drop kk)) ∨ (ee = 4 ∧ slotS P L = .no L)) := by
      rw [HSl.out]
      unfold termS
      cases hr : readS P L with
      | none =>
        rw [hr] at HRd
        exact ⟨(0, ⟨#[]⟩, ⟨#[]⟩), 0, 4, HRd, .inr ⟨rfl, rfl⟩⟩
      | some r =>
        obtain ⟨tt, kk⟩ := r
        rw [hr] at HRd
        have := readS_pos hr
        exact ⟨tt, kk, 0, HRd, .inl ⟨by omega, by omega, rfl, rfl⟩⟩
    have HWays := Lib.hid hways
    clear hways HRd HSl
    go_enter Tryz.func60, Tryz.ntmps60
    go_upto_region 6 with (go_at_call 59; refine (HF1.out _ HB0.out).mono ?_; rintro e y1 ⟨rfl, hY1⟩)
    have hB1 : Below w.heap.size w (y1.alloc (.cells #[.int .i64 x.kind, .string (strOfNums x.text), .int .i64 x.tk, .string (strOfNums x.tt), .string (strOfNums x.te), .int .i64 x.place] 64)) := below_next (below_next HB0.out hY1) (below_lex _ _)
    have HB1 := Lib.hid hB1
    have HZs := Lib.hid ((HZ0.out.kept hY1).alloc (.cells #[.int .i64 x.kind, .string (strOfNums x.text), .int .i64 x.tk, .string (strOfNums x.tt), .string (strOfNums x.te), .int .i64 x.place] 64))
    clear hB1 hY1 c0 c1
    generalize y1.alloc (.cells #[.int .i64 x.kind, .string (strOfNums x.text), .int .i64 x.tk, .string (strOfNums x.tt), .string (strOfNums x.te), .int .i64 x.place] 64) = W1 at *
    generalize y1.heap.size = g1 at *
    have HP : Hid (∀ W, Below W1.heap.size W1 W → Below w.heap.size w W) := Lib.hid (fun W h => below_next HB1.out h)
    have hrw1 : K.rb < W1.heap.size := Nat.lt_of_lt_of_le hrw HB1.out.size
    have c0 : W1.cell? ⟨K.rb, 0, none⟩ = some v := cell_kept_b HB1.out (H.out.blk.cell (j := 0) rfl)
    have c1 : W1.cell? ⟨K.rb, 1, none⟩ = some K.mv := cell_kept_b HB1.out (H.out.blk.cell (j := 1) rfl)
    clear hrw
    go_cut [4, 5, 6] (fun s4 s5 s6 wx => SlA1 W1 tt kk ee s4 s5 s6 wx)
    case first =>
      go_region_with (first
        | (go_at_call 86; refine (HRd2.out _ (HP.out _ ((Below.refl _ _).drew))).mono ?_; rintro e y3 ⟨rfl, hY3⟩)
        | (go_at_call 86; refine (HRd2.out _ (HP.out _ ((below_lex W1 _).drew))).mono ?_; rintro e y3 ⟨rfl, hY3⟩; have hk3 : BlockAt y3 W1.heap.size zeroTermC 31 := BlockAt.kept (w := (W1.alloc (.cells zeroTermC 31)).drew) (block_new W1 zeroTermC 31) hY3; have z0 := hk3.cell (j := 0) rfl; have z1 := hk3.cell (j := 1) rfl; have z2 := hk3.cell (j := 2) rfl; have zf := hk3.free))
      all_goals first
        | (have hb9 : BlockAt (y3.alloc (.cells (termC tt.1 tt.2.1 tt.2.2) 31)) y3.heap.size (termC tt.1 tt.2.1 tt.2.2) 31 := block_new _ _ _
           have hB9 : Below W1.heap.size W1 (y3.alloc (.cells (termC tt.1 tt.2.1 tt.2.2) 31)) := ((Below.refl _ _).drew.trans (hY3.mono (Nat.le_refl _))).alloc hY3.size _
           go_wp2_with fail
           go_meet
           exact ⟨_, rfl, rfl, rfl, hb9, hB9, by first | exact hY3.size | exact Nat.le_refl _⟩)
        | (have hb9 := ((hk3.set 0 (.int .i64 tt.1)).set 1 (.string tt.2.1)).set 2 (.string tt.2.2)
           have hB9 := below_put3 ((below_lex W1 (.cells zeroTermC 31)).drew.trans (hY3.mono (by simp))) (g := W1.heap.size) (Nat.le_refl _) (.int .i64 tt.1) (.string tt.2.1) (.string tt.2.2)
           go_wp2_with fail
           go_meet
           exact ⟨_, rfl, rfl, rfl, hb9, hB9, Nat.le_refl _⟩)
    case rest =>
      obtain ⟨g4, rfl, rfl, rfl, hb4, hY4, hg4⟩ := hcut
      have HNe4 : Hid (g4 ≠ K.rb) := Lib.hid (by omega)
      have HB4 := Lib.hid (HP.out _ hY4)
      have HZ4 := Lib.hid (HZs.out.kept hY4)
      have HT4 := Lib.hid hb4
      clear hb4 hY4 hg4 HB1 c0 c1 hrw1 HP
      rcases HWays.out with ⟨w1, w2, rfl, w4⟩ | ⟨rfl, w4⟩
      · have HX : Hid (∀ W v', Moves K.rb w W → Rdr K P W v' (L.drop kk) → Q (.returned (.agg (slotC (noneB, tt)))) W) := Lib.hid (fun W v' h1 h2 => by
          rw [HQ.out, w4]
          exact ⟨h1, rfl, _, h2⟩)
        have HSk := Lib.hid (fun W (hW : Below w.heap.size w W) => ruSkip_any K P kk v L w1 w2 W (H.out.below hW))
        clear w1 w2 w4
        go_wp2_with (first
          | (go_at_call 85; refine (HNe.out true _).mono ?_; rintro e y2 ⟨rfl, rfl⟩)
          | (go_at_call 83; refine (HSk.out _ HB4.out).mono ?_; rintro e y5 ⟨rfl, ⟨v5, hR5⟩, hM5⟩; have HR5 := Lib.hid hR5; have HM5 := Lib.hid ((Moves.of_below HB4.out).trans hM5); have HZ5 := Lib.hid (hM5.at_ HT4.out HNe4.out); have HZu := Lib.hid (hM5.at_ HZ4.out (by have := Hlt.out; omega)); clear hR5 hM5; have r0 := HZ5.out.cell (j := 0) rfl; have r1 := HZ5.out.cell (j := 1) rfl; have r2 := HZ5.out.cell (j := 2) rfl; have u0 := HZu.out.cell (j := 0) rfl; have u1 := HZu.out.cell (j := 1) rfl; have u2 := HZu.out.cell (j := 2) rfl; have u3 := HZu.out.cell (j := 3) rfl; have uf := HZu.out.free))
        have hge : K.B ≤ w.heap.size := by have := Hlt.out; have := K.hrb; omega
        have hne : w.heap.size ≠ K.rb := by have := Hlt.out; omega
        exact bodyPost_ret (results_slot rfl _ _ w.heap.size _ _ _ _ rfl (HZu.out.set4 _ _ _ _)) rfl (HX.out _ v5 (HM5.out.of_other (Nat.le_refl _) (moves_set4 _ _ _ _ _)) (HR5.out.other hge hne HZu.out (moves_set4 _ _ _ _ _)))
      · have HX : Hid (∀ W v', Moves K.rb w W → Rdr K P W v' L → Q badE W) := Lib.hid (fun W v' h1 h2 => by
          rw [HQ.out, w4]
          exact ⟨h1, rfl, _, h2⟩)
        have HRy := Lib.hid (H.out.below HB4.out)
        clear w4
        go_wp2_with (first
          | (go_at_call 85; refine (HNe.out false _).mono ?_; rintro e y2 ⟨rfl, rfl⟩))
        exact ⟨rfl, HX.out _ _ (Moves.of_below HB4.out) HRy.out⟩
end Go.Proofs.YtbcoklbfebmpoaaGreatDoor

/-
  THE READER OF rules: CONTRACT OF pattern.
-/

namespace Go.Proofs.YtbcoklbfebmpoaaGreatDoor
open Go.RowKit
open Utf Term Lex
set_option linter.unusedVariables false
set_option linter.unusedSimpArgs false

abbrev isPat (p : PatD) : Ending → World → Prop := fun e _ => e = .returned (.agg (patC p))
theorem results_pat {fn : Func} {p : Tmp} (h : fn.results = #[.cell p 35]) (tmps : Array Value) (w : World) (g : Nat) (q : PatD)
    (hp : tmps.getD p undef = .pointer (some ⟨g, 0, none⟩)) (hx : BlockAt w g (patC q) 35) :
    (results fn tmps).run Tryz.prog w = .ok (.agg (patC q)) w :=
  results_cell_row h tmps w g 35 (patC q) (0, 0) _ hp hx Tryz.underlying35 rfl (by kernel_rfl)
abbrev zPaC : Array Value := #[.string ⟨#[]⟩, .int .i64 0, .string ⟨#[]⟩, .string ⟨#[]⟩, .string ⟨#[]⟩, .int .i64 0, .string ⟨#[]⟩, .string ⟨#[]⟩, .string ⟨#[]⟩, .int .i64 0, .string ⟨#[]⟩, .string ⟨#[]⟩]
/-- A slot stored at a place of a block. -/
abbrev putS0 (W : World) (g : Nat) (s : SlotD) : World := (((W.setCell ⟨g, 0, none⟩ (.string s.1)).setCell ⟨g, 1, none⟩ (.int .i64 s.2.1)).setCell ⟨g, 2, none⟩ (.string s.2.2.1)).setCell ⟨g, 3, none⟩ (.string s.2.2.2)
theorem putS0_eq (W : World) (g : Nat) (s : SlotD) : (((W.setCell ⟨g, 0, none⟩ (.string s.1)).setCell ⟨g, 1, none⟩ (.int .i64 s.2.1)).setCell ⟨g, 2, none⟩ (.string s.2.2.1)).setCell ⟨g, 3, none⟩ (.string s.2.2.2) = putS0 W g s := rfl
theorem moves_putS0 {g : Nat} (W : World) (s : SlotD) : Moves g W (putS0 W g s) := (((Moves.refl.set 0 _).set 1 _).set 2 _).set 3 _
abbrev putS1 (W : World) (g : Nat) (s : SlotD) : World := (((W.setCell ⟨g, 4, none⟩ (.string s.1)).setCell ⟨g, 5, none⟩ (.int .i64 s.2.1)).setCell ⟨g, 6, none⟩ (.string s.2.2.1)).setCell ⟨g, 7, none⟩ (.string s.2.2.2)
theorem putS1_eq (W : World) (g : Nat) (s : SlotD) : (((W.setCell ⟨g, 4, none⟩ (.string s.1)).setCell ⟨g, 5, none⟩ (.int .i64 s.2.1)).setCell ⟨g, 6, none⟩ (.string s.2.2.1)).setCell ⟨g, 7, none⟩ (.string s.2.2.2) = putS1 W g s := rfl
theorem moves_putS1 {g : Nat} (W : World) (s : SlotD) : Moves g W (putS1 W g s) := (((Moves.refl.set 4 _).set 5 _).set 6 _).set 7 _
abbrev putS2 (W : World) (g : Nat) (s : SlotD) : World := (((W.setCell ⟨g, 8, none⟩ (.string s.1)).setCell ⟨g, 9, none⟩ (.int .i64 s.2.1)).setCell ⟨g, 10, none⟩ (.string s.2.2.1)).setCell ⟨g, 11, none⟩ (.string s.2.2.2)
theorem putS2_eq (W : World) (g : Nat) (s : SlotD) : (((W.setCell ⟨g, 8, none⟩ (.string s.1)).setCell ⟨g, 9, none⟩ (.int .i64 s.2.1)).setCell ⟨g, 10, none⟩ (.string s.2.2.1)).setCell ⟨g, 11, none⟩ (.string s.2.2.2) = putS2 W g s := rfl
theorem moves_putS2 {g : Nat} (W : World) (s : SlotD) : Moves g W (putS2 W g s) := (((Moves.refl.set 8 _).set 9 _).set 10 _).set 11 _
theorem BlockAt.slot0 {W : World} {g : Nat} {a b c : SlotD} {t : TypeId} (h : BlockAt W g (patC (a, b, c)) t) (s : SlotD) : BlockAt (putS0 W g s) g (patC (s, b, c)) t := (((h.set 0 _).set 1 _).set 2 _).set 3 _
theorem BlockAt.slot1 {W : World} {g : Nat} {a b c : SlotD} {t : TypeId} (h : BlockAt W g (patC (a, b, c)) t) (s : SlotD) : BlockAt (putS1 W g s) g (patC (a, s, c)) t := (((h.set 4 _).set 5 _).set 6 _).set 7 _
theorem BlockAt.slot2 {W : World} {g : Nat} {a b c : SlotD} {t : TypeId} (h : BlockAt W g (patC (a, b, c)) t) (s : SlotD) : BlockAt (putS2 W g s) g (patC (a, b, s)) t := (((h.set 8 _).set 9 _).set 10 _).set 11 _
abbrev putPa (W : World) (g : Nat) (p : PatD) : World := putS2 (putS1 (putS0 W g p.1) g p.2.1) g p.2.2
theorem moves_putPa {g : Nat} (W : World) (p : PatD) : Moves g W (putPa W g p) := ((moves_putS0 W p.1).trans (moves_putS1 _ p.2.1)).trans (moves_putS2 _ p.2.2)
theorem BlockAt.pat {W : World} {g : Nat} {q : PatD} {t : TypeId} (h : BlockAt W g (patC q) t) (p : PatD) : BlockAt (putPa W g p) g (patC p) t := ((h.slot0 p.1).slot1 p.2.1).slot2 p.2.2
/-- The outcome of a taking, by its two ways. -/
theorem RdOut.of_no {α : Type} {K : RdK} {P : ByteArray → Option ByteArray} {Rv : α → Ending → World → Prop} {l : List Sym} {w w' : World} {e : Ending} (h : RdOut K P Rv (.no l) w e w') : e = badE ∧ Moves K.rb w w' ∧ ∃ v', Rdr K P w' v' l := ⟨h.2.1, h.1, h.2.2⟩
theorem RdOut.of_yes {α : Type} {K : RdK} {P : ByteArray → Option ByteArray} {Rv : α → Ending → World → Prop} {a : α} {l : List Sym} {w w' : World} {e : Ending} (h : RdOut K P Rv (.yes a l) w e w') : Rv a e w' ∧ Moves K.rb w w' ∧ ∃ v', Rdr K P w' v' l := ⟨h.2.1, h.1, h.2.2⟩

set_option maxRecDepth 100000 in
set_option maxHeartbeats 8000000 in
theorem ruPatP_any (K : RdK) (P : ByteArray → Option ByteArray) (v : Value) (L : List Sym) (w : World) (h : Rdr K P w v L) :
    Calls Tryz.prog 57 #[rdP K] w (RdOut K P isPat (patS P L) w) := by
  obtain ⟨Q, hQ⟩ : ∃ Q, Q = RdOut K P isPat (patS P L) w := ⟨_, rfl⟩
  rw [← hQ]
  have HQ := Lib.hid hQ
  have hB0 : Below w.heap.size w ((w.alloc (.cells zPaC 35)).alloc (.cells zPaC 35)) := below_next (below_lex w _) (below_lex _ _)
  have hZ0 : BlockAt ((w.alloc (.cells zPaC 35)).alloc (.cells zPaC 35)) w.heap.size (patC zPa) 35 := (block_new w zPaC _).alloc _
  have hZ1 : BlockAt ((w.alloc (.cells zPaC 35)).alloc (.cells zPaC 35)) (w.heap.size + 1) (patC zPa) 35 := by
    have := block_new (w.alloc (.cells zPaC 35)) zPaC 35
    rwa [World.size_alloc] at this
  have HMk := Lib.hid (fun m ms hm v L W (hR : Rdr K P W v L) => ruMark_any K P m ms hm v L W hR)
  have HSl := Lib.hid (fun v L W (hR : Rdr K P W v L) => ruSlotP_any K P v L W hR)
  have Hlt := Lib.hid h.lt
  have H0 := Lib.hid (h.below hB0)
  have HB0 := Lib.hid (Moves.of_below (g := K.rb) hB0)
  have HZ0 := Lib.hid hZ0
  have HZ1 := Lib.hid hZ1
  have HE : Hid (patS P L = (needS (isMk openM) L).bind fun _ L1 => (slots3 P L1).bind fun p L2 => (needS (isMk closeM) L2).bind fun _ L3 => .yes p L3) := Lib.hid rfl
  clear hQ h hB0 hZ0 hZ1
  go_enter Tryz.func57, Tryz.ntmps57
  generalize hW0 : (w.alloc (.cells zPaC 35)).alloc (.cells zPaC 35) = W0 at *
  have HW0 := Lib.hid hW0
  clear hW0
  go_upto_region 2 with fail
  rw [HW0.out]
  cases h0 : needS (isMk openM) L with
  | no l =>
    have HC0 := Lib.hid ((HMk.out openM ⟨#[40]⟩ rfl v L _ H0.out).mono (fun e w' h => (by rw [h0] at h; exact h.of_no : e = badE ∧ Moves K.rb W0 w' ∧ ∃ v', Rdr K P w' v' l)))
    go_wp2_with (go_at_call 61; refine HC0.out.mono ?_; rintro e w1 ⟨rfl, hM, v', hR⟩)
    refine ⟨rfl, ?_⟩
    rw [HQ.out, HE.out, h0]
    exact ⟨HB0.out.trans hM, rfl, v', hR⟩
  | yes u L1 =>
    have HC0 := Lib.hid ((HMk.out openM ⟨#[40]⟩ rfl v L _ H0.out).mono (fun e w' h => (by rw [h0] at h; exact h.of_yes : e = unitE ∧ Moves K.rb W0 w' ∧ ∃ v', Rdr K P w' v' L1)))
    go_wp2_with (go_at_call 61; refine HC0.out.mono ?_; rintro e w1 ⟨rfl, hM1, v1, hR1⟩; have HM1 := Lib.hid (HB0.out.trans hM1); have HP1 := Lib.hid (hM1.at_ HZ0.out (by have := Hlt.out; omega)); have HX1 := Lib.hid (hM1.at_ HZ1.out (by have := Hlt.out; omega)); have HR1 := Lib.hid hR1; clear hM1 hR1)
    refine wp_loop_rounds 4 ?_
    rw [rounds_succ]
    generalize w1 = W1 at *
    cases h1 : slotS P L1 with
    | no l =>
      have HC := Lib.hid ((HSl.out v1 L1 _ HR1.out).mono (fun e w' h => (by rw [h1] at h; exact h.of_no : e = badE ∧ Moves K.rb W1 w' ∧ ∃ v', Rdr K P w' v' l)))
      go_wp2_with (go_at_call 60; refine HC.out.mono ?_; rintro e y ⟨rfl, hM, v', hR⟩)
      refine ⟨rfl, ?_⟩
      rw [HQ.out, HE.out, h0]
      simp only [Tk.bind, slots3, h1]
      exact ⟨HM1.out.trans hM, rfl, v', hR⟩
    | yes a L2 =>
      have HC := Lib.hid ((HSl.out v1 L1 _ HR1.out).mono (fun e w' h => (by rw [h1] at h; exact h.of_yes : isSlot a e w' ∧ Moves K.rb W1 w' ∧ ∃ v', Rdr K P w' v' L2)))
      go_wp2_with (go_at_call 60; refine HC.out.mono ?_; rintro e y2 ⟨rfl, hM, v2, hR⟩; have HMy := Lib.hid (HM1.out.trans hM); have HPy := Lib.hid (hM.at_ HP1.out (by have := Hlt.out; omega)); have HXy := Lib.hid (hM.at_ HX1.out (by have := Hlt.out; omega)); have HRy := Lib.hid hR; clear hM hR; have x0 := HXy.out.cell (j := 0) rfl; have x1 := HXy.out.cell (j := 1) rfl; have x2 := HXy.out.cell (j := 2) rfl; have x3 := HXy.out.cell (j := 3) rfl; have xf := HXy.out.free)
      have HM2 := Lib.hid (HMy.out.of_other (Nat.le_succ _) (moves_putS0 (g := w.heap.size + 1) y2 a))
      have HP2 := Lib.hid ((moves_putS0 (g := w.heap.size + 1) y2 a).at_ HPy.out (Nat.ne_of_lt (Nat.lt_succ_self _)))
      have HX2 := Lib.hid (HXy.out.slot0 a)
      have HR2 := Lib.hid (HRy.out.other (b := w.heap.size + 1) (by have := Hlt.out; have := K.hrb; omega) (by have := Hlt.out; omega) HXy.out (moves_putS0 y2 a))
      clear x0 x1 x2 x3 xf HMy HPy HXy HRy HC
      rw [putS0_eq y2 (w.heap.size + 1) a]
      generalize hW2 : putS0 y2 (w.heap.size + 1) a = W2 at *
      clear hW2
      rw [rounds_succ]
      cases h2 : slotS P L2 with
      | no l =>
        have HC := Lib.hid ((HSl.out v2 L2 _ HR2.out).mono (fun e w' h => (by rw [h2] at h; exact h.of_no : e = badE ∧ Moves K.rb W2 w' ∧ ∃ v', Rdr K P w' v' l)))
        go_wp2_with (go_at_call 60; refine HC.out.mono ?_; rintro e y ⟨rfl, hM, v', hR⟩)
        refine ⟨rfl, ?_⟩
        rw [HQ.out, HE.out, h0]
        simp only [Tk.bind, slots3, h1, h2]
        exact ⟨HM2.out.trans hM, rfl, v', hR⟩
      | yes b L3 =>
        have HC := Lib.hid ((HSl.out v2 L2 _ HR2.out).mono (fun e w' h => (by rw [h2] at h; exact h.of_yes : isSlot b e w' ∧ Moves K.rb W2 w' ∧ ∃ v', Rdr K P w' v' L3)))
        go_wp2_with (go_at_call 60; refine HC.out.mono ?_; rintro e y3 ⟨rfl, hM, v3, hR⟩; have HMy := Lib.hid (HM2.out.trans hM); have HPy := Lib.hid (hM.at_ HP2.out (by have := Hlt.out; omega)); have HXy := Lib.hid (hM.at_ HX2.out (by have := Hlt.out; omega)); have HRy := Lib.hid hR; clear hM hR; have x0 := HXy.out.cell (j := 4) rfl; have x1 := HXy.out.cell (j := 5) rfl; have x2 := HXy.out.cell (j := 6) rfl; have x3 := HXy.out.cell (j := 7) rfl; have xf := HXy.out.free)
        have HM3 := Lib.hid (HMy.out.of_other (Nat.le_succ _) (moves_putS1 (g := w.heap.size + 1) y3 b))
        have HP3 := Lib.hid ((moves_putS1 (g := w.heap.size + 1) y3 b).at_ HPy.out (Nat.ne_of_lt (Nat.lt_succ_self _)))
        have HX3 := Lib.hid (HXy.out.slot1 b)
        have HR3 := Lib.hid (HRy.out.other (b := w.heap.size + 1) (by have := Hlt.out; have := K.hrb; omega) (by have := Hlt.out; omega) HXy.out (moves_putS1 y3 b))
        clear x0 x1 x2 x3 xf HMy HPy HXy HRy HC
        rw [putS1_eq y3 (w.heap.size + 1) b]
        generalize hW3 : putS1 y3 (w.heap.size + 1) b = W3 at *
        clear hW3
        rw [rounds_succ]
        cases h3 : slotS P L3 with
        | no l =>
          have HC := Lib.hid ((HSl.out v3 L3 _ HR3.out).mono (fun e w' h => (by rw [h3] at h; exact h.of_no : e = badE ∧ Moves K.rb W3 w' ∧ ∃ v', Rdr K P w' v' l)))
          go_wp2_with (go_at_call 60; refine HC.out.mono ?_; rintro e y ⟨rfl, hM, v', hR⟩)
          refine ⟨rfl, ?_⟩
          rw [HQ.out, HE.out, h0]
          simp only [Tk.bind, slots3, h1, h2, h3]
          exact ⟨HM3.out.trans hM, rfl, v', hR⟩
        | yes c L4 =>
          have HC := Lib.hid ((HSl.out v3 L3 _ HR3.out).mono (fun e w' h => (by rw [h3] at h; exact h.of_yes : isSlot c e w' ∧ Moves K.rb W3 w' ∧ ∃ v', Rdr K P w' v' L4)))
          go_wp2_with (go_at_call 60; refine HC.out.mono ?_; rintro e y4 ⟨rfl, hM, v4, hR⟩; have HMy := Lib.hid (HM3.out.trans hM); have HPy := Lib.hid (hM.at_ HP3.out (by have := Hlt.out; omega)); have HXy := Lib.hid (hM.at_ HX3.out (by have := Hlt.out; omega)); have HRy := Lib.hid hR; clear hM hR; have x0 := HXy.out.cell (j := 8) rfl; have x1 := HXy.out.cell (j := 9) rfl; have x2 := HXy.out.cell (j := 10) rfl; have x3 := HXy.out.cell (j := 11) rfl; have xf := HXy.out.free)
          have HM4 := Lib.hid (HMy.out.of_other (Nat.le_succ _) (moves_putS2 (g := w.heap.size + 1) y4 c))
          have HP4 := Lib.hid ((moves_putS2 (g := w.heap.size + 1) y4 c).at_ HPy.out (Nat.ne_of_lt (Nat.lt_succ_self _)))
          have HX4 := Lib.hid (HXy.out.slot2 c)
          have HR4 := Lib.hid (HRy.out.other (b := w.heap.size + 1) (by have := Hlt.out; have := K.hrb; omega) (by have := Hlt.out; omega) HXy.out (moves_putS2 y4 c))
          clear x0 x1 x2 x3 xf HMy HPy HXy HRy HC
          rw [putS2_eq y4 (w.heap.size + 1) c]
          generalize hW4 : putS2 y4 (w.heap.size + 1) c = W4 at *
          clear hW4
          rw [rounds_succ]
          cases h4 : needS (isMk closeM) L4 with
          | no l =>
            have HC := Lib.hid ((HMk.out closeM ⟨#[41]⟩ rfl v4 L4 _ HR4.out).mono (fun e w' h => (by rw [h4] at h; exact h.of_no : e = badE ∧ Moves K.rb W4 w' ∧ ∃ v', Rdr K P w' v' l)))
            go_wp2_with (go_at_call 61; refine HC.out.mono ?_; rintro e y ⟨rfl, hM, v', hR⟩)
            refine ⟨rfl, ?_⟩
            rw [HQ.out, HE.out, h0]
            simp only [Tk.bind, slots3, h1, h2, h3, h4]
            exact ⟨HM4.out.trans hM, rfl, v', hR⟩
          | yes u5 L5 =>
            have HC := Lib.hid ((HMk.out closeM ⟨#[41]⟩ rfl v4 L4 _ HR4.out).mono (fun e w' h => (by rw [h4] at h; exact h.of_yes : e = unitE ∧ Moves K.rb W4 w' ∧ ∃ v', Rdr K P w' v' L5)))
            have HG : Hid (patS P L = .yes (a, b, c) L5) := Lib.hid (by rw [HE.out, h0]; simp only [Tk.bind, slots3, h1, h2, h3, h4])
            clear h0 h1 h2 h3 h4
            go_wp2_with (go_at_call 61; refine HC.out.mono ?_; rintro e y ⟨rfl, hM, v', hR⟩; have HMy := Lib.hid (HM4.out.trans hM); have HPy := Lib.hid (hM.at_ HP4.out (by have := Hlt.out; omega)); have HXy := Lib.hid (hM.at_ HX4.out (by have := Hlt.out; omega)); have HRy := Lib.hid hR; clear hM hR; have x0 := HXy.out.cell (j := 0) rfl; have x1 := HXy.out.cell (j := 1) rfl; have x2 := HXy.out.cell (j := 2) rfl; have x3 := HXy.out.cell (j := 3) rfl; have x4 := HXy.out.cell (j := 4) rfl; have x5 := HXy.out.cell (j := 5) rfl; have x6 := HXy.out.cell (j := 6) rfl; have x7 := HXy.out.cell (j := 7) rfl; have x8 := HXy.out.cell (j := 8) rfl; have x9 := HXy.out.cell (j := 9) rfl; have x10 := HXy.out.cell (j := 10) rfl; have x11 := HXy.out.cell (j := 11) rfl; have p0 := HPy.out.cell (j := 0) rfl; have p1 := HPy.out.cell (j := 1) rfl; have p2 := HPy.out.cell (j := 2) rfl; have p3 := HPy.out.cell (j := 3) rfl; have p4 := HPy.out.cell (j := 4) rfl; have p5 := HPy.out.cell (j := 5) rfl; have p6 := HPy.out.cell (j := 6) rfl; have p7 := HPy.out.cell (j := 7) rfl; have p8 := HPy.out.cell (j := 8) rfl; have p9 := HPy.out.cell (j := 9) rfl; have p10 := HPy.out.cell (j := 10) rfl; have p11 := HPy.out.cell (j := 11) rfl; have pf := HPy.out.free)
            have hge : K.B ≤ w.heap.size := by have := Hlt.out; have := K.hrb; omega
            have hne : w.heap.size ≠ K.rb := by have := Hlt.out; omega
            refine bodyPost_ret (results_pat rfl _ _ w.heap.size (a, b, c) rfl (HPy.out.pat (a, b, c))) rfl ?_
            rw [HQ.out, HG.out]
            exact ⟨HMy.out.of_other (Nat.le_refl _) (moves_putPa _ (a, b, c)), rfl, v', HRy.out.other hge hne HPy.out (moves_putPa _ (a, b, c))⟩
end Go.Proofs.YtbcoklbfebmpoaaGreatDoor

/-
  THE READER OF rules: CONTRACT OF part.
-/

namespace Go.Proofs.YtbcoklbfebmpoaaGreatDoor
open Go.RowKit
open Utf Term Lex
set_option linter.unusedVariables false
set_option linter.unusedSimpArgs false

theorem moves_setCells {g : Nat} : ∀ (C : List Value) (o : Nat) (W : World), Moves g W (W.setCells g o C)
  | [], _, _ => Moves.refl
  | v :: C, o, W => (Moves.refl.set o v).trans (moves_setCells C (o + 1) _)
theorem block_setCells {g : Nat} {t : TypeId} : ∀ (C : List Value) (o : Nat) (W : World) (cs : Array Value), BlockAt W g cs t → o + C.length ≤ cs.size →
    ∃ cs', BlockAt (W.setCells g o C) g cs' t ∧ cs'.size = cs.size ∧ ∀ j, cs'[j]? = if o ≤ j ∧ j < o + C.length then C[j - o]? else cs[j]?
  | [], o, W, cs, h, _ => ⟨cs, h, rfl, fun j => by rw [if_neg (by simp)]⟩
  | v :: C, o, W, cs, h, hn => by
    simp only [List.length_cons] at hn
    obtain ⟨cs', h1, h2, h3⟩ := block_setCells C (o + 1) _ _ (h.set o v) (by rw [Array.size_setIfInBounds]; omega)
    refine ⟨cs', h1, by rw [h2, Array.size_setIfInBounds], fun j => ?_⟩
    rw [h3 j, List.length_cons]
    by_cases e : j = o
    · subst e
      rw [if_neg (by omega), if_pos (by omega), Array.getElem?_setIfInBounds_self_of_lt (by omega), Nat.sub_self]
      rfl
    · by_cases hj : o + 1 ≤ j ∧ j < o + 1 + C.length
      · rw [if_pos hj, if_pos (by omega), show j - o = (j - (o + 1)) + 1 by omega]
        rfl
      · rw [if_neg hj, if_neg (by omega), Array.getElem?_setIfInBounds_ne (by omega)]
theorem BlockAt.putAll {W : World} {g : Nat} {cs : Array Value} {t : TypeId} (h : BlockAt W g cs t) (C : Array Value) (hC : C.size = cs.size) : BlockAt (W.setCells g 0 C.toList) g C t := by
  obtain ⟨cs', h1, h2, h3⟩ := block_setCells C.toList 0 W cs h (by rw [Array.length_toList]; omega)
  have e : cs' = C := by
    apply Array.ext_getElem?
    intro j
    rw [h3 j, Array.length_toList]
    by_cases hj : j < C.size
    · rw [if_pos (by omega), Nat.sub_zero, Array.getElem?_toList]
    · rw [if_neg (by omega), Array.getElem?_eq_none (by omega), Array.getElem?_eq_none (by omega)]
  rw [e] at h1
  exact h1
theorem BlockAt.range {W : World} {g : Nat} {cs : Array Value} {t : TypeId} (h : BlockAt W g cs t) : W.rangeAt g 0 cs.toList := fun j v hv => by
  rw [Nat.zero_add]
  exact h.cell (by rw [← Array.getElem?_toList]; exact hv)
theorem BlockAt.there {W : World} {g : Nat} {cs : Array Value} {t : TypeId} (h : BlockAt W g cs t) : W.there g 0 cs.size := fun j hj => by
  rw [Nat.zero_add]
  exact ⟨by rw [h.cell (Array.getElem?_eq_getElem hj)]; rfl, h.free j⟩
theorem litC_all (l : LitD) : (litC l).all (·.oneCell') = true := by simp [Value.oneCell']
abbrev isLit (x : LitD) : Ending → World → Prop := fun e _ => e = .returned (.agg (litC x))
theorem results_lit {fn : Func} {p : Tmp} (h : fn.results = #[.cell p 37]) (tmps : Array Value) (w : World) (g : Nat) (q : LitD)
    (hp : tmps.getD p undef = .pointer (some ⟨g, 0, none⟩)) (hx : BlockAt w g (litC q) 37) :
    (results fn tmps).run Tryz.prog w = .ok (.agg (litC q)) w :=
  results_cell_row h tmps w g 37 (litC q) (0, 0) _ hp hx Tryz.underlying37 rfl (by kernel_rfl)
abbrev zLiC : Array Value := #[.int .i64 0, .string ⟨#[]⟩, .int .i64 0, .string ⟨#[]⟩, .string ⟨#[]⟩, .string ⟨#[]⟩, .int .i64 0, .string ⟨#[]⟩, .string ⟨#[]⟩, .string ⟨#[]⟩, .int .i64 0, .string ⟨#[]⟩, .string ⟨#[]⟩, .string ⟨#[]⟩, .int .i64 0, .string ⟨#[]⟩, .string ⟨#[]⟩, .string ⟨#[]⟩, .int .i64 0, .string ⟨#[]⟩, .string ⟨#[]⟩]
theorem takes_isSome (p : Sym → Bool) (hz : p (firstS []) = false) (L : List Sym) : p (firstS L) = (takesS p L).isSome := by
  cases L with
  | nil => rw [hz]; rfl
  | cons x r =>
    rw [takesS]
    show p x = _
    cases hp : p x <;> rfl
theorem Took1.of_some {K : RdK} {P : ByteArray → Option ByteArray} {p : Sym → Bool} {L r : List Sym} {w w' : World} {e : Ending} (h : Took1 K P p L w e w') (ht : takesS p L = some r) : e = .returned (.bool true) ∧ Moves K.rb w w' ∧ ∃ v', Rdr K P w' v' r := by
  unfold Took1 at h; rw [ht] at h; exact ⟨h.1, h.2.2, h.2.1⟩
theorem Took1.of_none {K : RdK} {P : ByteArray → Option ByteArray} {p : Sym → Bool} {L : List Sym} {w w' : World} {e : Ending} (h : Took1 K P p L w e w') (ht : takesS p L = none) : e = .returned (.bool false) ∧ Moves K.rb w w' ∧ ∃ v', Rdr K P w' v' L := by
  unfold Took1 at h; rw [ht] at h; exact ⟨h.1, h.2.2, h.2.1⟩

set_option maxRecDepth 100000 in
set_option maxHeartbeats 8000000 in
theorem ruPartP_any (K : RdK) (P : ByteArray → Option ByteArray) (v : Value) (L : List Sym) (w : World) (h : Rdr K P w v L) :
    Calls Tryz.prog 23 #[rdP K] w (RdOut K P isLit (partS P L) w) := by
  obtain ⟨Q, hQ⟩ : ∃ Q, Q = RdOut K P isLit (partS P L) w := ⟨_, rfl⟩
  rw [← hQ]
  have HQ := Lib.hid hQ
  have hB0 := below_lex w (.cells zLiC 37)
  have hZ0 : BlockAt (w.alloc (.cells zLiC 37)) w.heap.size (litC zLi) 37 := block_new w zLiC _
  have HTk := Lib.hid (fun F ms p hT v L W (hR : Rdr K P W v L) => ruTakes_any K P F ms p hT v L W hR)
  have HMk := Lib.hid (fun m ms hm v L W (hR : Rdr K P W v L) => ruMark_any K P m ms hm v L W hR)
  have HSl := Lib.hid (fun v L W (hR : Rdr K P W v L) => ruSlotP_any K P v L W hR)
  have HPa := Lib.hid (fun v L W (hR : Rdr K P W v L) => ruPatP_any K P v L W hR)
  have HFi := Lib.hid (fun v L W (hR : Rdr K P W v L) => ruFirst_any K P v L W hR)
  have HMc := Lib.hid (fun v L W (hR : Rdr K P W v L) U => (tells_mk openM ⟨#[40]⟩ rfl).call K.N (firstS L) K.hN hR.first_ok U)
  have Hlt := Lib.hid h.lt
  have H0 := Lib.hid (h.below hB0)
  have HB0 := Lib.hid (Moves.of_below (g := K.rb) hB0)
  have HZ0 := Lib.hid hZ0
  have HS21 : Hid ((Tryz.prog.info? 37).map (·.size) = some 21) := Lib.hid (by kernel_rfl)
  have hne : w.heap.size ≠ K.rb := by have := h.lt; omega
  have hge : K.B ≤ w.heap.size := by have := h.lt; have := K.hrb; omega
  have HEnd : Hid (∀ (W : World) (x : LitD) (v' : Value) (l : List Sym), partS P L = .yes x l → Moves K.rb w W → BlockAt W w.heap.size (litC zLi) 37 → Rdr K P W v' l → BlockAt (W.setCells w.heap.size 0 (litC x).toList) w.heap.size (litC x) 37 ∧ Q (.returned (.agg (litC x))) (W.setCells w.heap.size 0 (litC x).toList)) := Lib.hid (fun W x v' l hx hM hZ hR => by
    refine ⟨hZ.putAll (litC x) rfl, ?_⟩
    rw [hQ, hx]
    exact ⟨hM.of_other (Nat.le_refl _) (moves_setCells _ _ _), rfl, v', hR.other hge hne hZ (moves_setCells _ _ _)⟩)
  have HNe := Lib.hid hne
  have HGe := Lib.hid hge
  clear hQ h hB0 hZ0 hne hge
  go_enter Tryz.func23, Tryz.ntmps23
  go_upto_region 1 with fail
  generalize hW0 : w.alloc (.cells zLiC 37) = W0 at *
  clear hW0
  cases t1 : takesS (isWd notW) L with
  | some L1 =>
    have HC := Lib.hid ((HTk.out _ ⟨#[110, 111, 116]⟩ _ (tells_wd notW _ rfl) v L _ H0.out).mono (fun e w' h => h.of_some t1))
    have HE : Hid (partS P L = (patS P L1).bind fun p L2 => .yes (2, p, zSl, zSl) L2) := Lib.hid (by unfold partS; rw [t1]; all_goals rfl)
    clear t1
    go_upto_region 2 with (go_at_call 55; refine HC.out.mono ?_; rintro e w1 ⟨rfl, hM1, v1, hR1⟩; have HM1 := Lib.hid (HB0.out.trans hM1); have HP1 := Lib.hid (hM1.at_ HZ0.out HNe.out); have HR1 := Lib.hid hR1; clear hM1 hR1)
    cases hp : patS P L1 with
    | no l =>
      have HC := Lib.hid ((HPa.out v1 L1 _ HR1.out).mono (fun e w' h => (by rw [hp] at h; exact h.of_no : e = badE ∧ Moves K.rb w1 w' ∧ ∃ v', Rdr K P w' v' l)))
      go_wp2_with (go_at_call 57; refine HC.out.mono ?_; rintro e y ⟨rfl, hM, v', hR⟩)
      refine ⟨rfl, ?_⟩
      rw [HQ.out, HE.out, hp]
      exact ⟨HM1.out.trans hM, rfl, v', hR⟩
    | yes p L2 =>
      have HC := Lib.hid ((HPa.out v1 L1 _ HR1.out).mono (fun e w' h => (by rw [hp] at h; exact h.of_yes : isPat p e w' ∧ Moves K.rb w1 w' ∧ ∃ v', Rdr K P w' v' L2)))
      have HE2 : Hid (partS P L = .yes (2, p, zSl, zSl) L2) := Lib.hid (by rw [HE.out, hp]; rfl)
      clear hp HE
      go_wp2_with (first
        | (go_at_call 57; refine HC.out.mono ?_; rintro e y ⟨rfl, hM, v', hR⟩; have HMy := Lib.hid (HM1.out.trans hM); have HPy := Lib.hid (hM.at_ HP1.out HNe.out); have HRy := Lib.hid hR; clear hM hR; have HTh := Lib.hid HPy.out.there)
        | (refine wpList_store_mid rfl 37 (.tmp 2) (.tmp 8) rfl w.heap.size 0 (litC (2, p, zSl, zSl)) rfl rfl HTh.out HS21.out (litC_all _) ?_))
      obtain ⟨hE1, hE2⟩ := HEnd.out _ _ _ _ HE2.out HMy.out HPy.out HRy.out
      exact bodyPost_ret (results_lit rfl _ _ w.heap.size _ rfl hE1) rfl hE2
  | none =>
    have HC := Lib.hid ((HTk.out _ ⟨#[110, 111, 116]⟩ _ (tells_wd notW _ rfl) v L _ H0.out).mono (fun e w' h => h.of_none t1))
    have HE : Hid (partS P L = match takesS (isMk openM) L with | some _ => (patS P L).bind fun p L2 => .yes (1, p, zSl, zSl) L2 | none => condS P L) := Lib.hid (by unfold partS; rw [t1]; all_goals rfl)
    have HIs := takes_isSome (isMk openM) (tells_mk openM ⟨#[40]⟩ rfl).zero L
    clear t1
    go_upto_region 3 with (go_at_call 55; refine HC.out.mono ?_; rintro e w1 ⟨rfl, hM1, v1, hR1⟩; have HM1 := Lib.hid (HB0.out.trans hM1); have HP1 := Lib.hid (hM1.at_ HZ0.out HNe.out); have HR1 := Lib.hid hR1; clear hM1 hR1)
    cases t2 : takesS (isMk openM) L with
    | some L1 =>
      rw [t2] at HIs
      have HMc1 := Lib.hid (fun U => (HMc.out v1 L _ HR1.out U).mono (fun e w' h => (by rw [HIs] at h; exact h : e = .returned (.bool true) ∧ Below U.heap.size U w')))
      have HE1 : Hid (partS P L = (patS P L).bind fun p L2 => .yes (1, p, zSl, zSl) L2) := Lib.hid (by rw [HE.out, t2]; all_goals rfl)
      clear t2 HIs HE
      go_upto_region 4 with (first
        | (go_at_call 59; refine (HFi.out v1 L _ HR1.out).mono ?_; rintro e w2 ⟨rfl, hB2⟩; have HB2 := Lib.hid hB2; clear hB2)
        | (go_at_call 58; refine (HMc1.out _).mono ?_; rintro e w3 ⟨rfl, hB3⟩; have HB3 := Lib.hid (below_next HB2.out hB3); clear hB3))
      have HM3 := Lib.hid (HM1.out.trans (Moves.of_below HB3.out))
      have HP3 := Lib.hid (HP1.out.kept HB3.out)
      have HR3 := Lib.hid (HR1.out.below HB3.out)
      cases hp : patS P L with
      | no l =>
        have HC := Lib.hid ((HPa.out v1 L _ HR3.out).mono (fun e w' h => (by rw [hp] at h; exact h.of_no : e = badE ∧ Moves K.rb w3 w' ∧ ∃ v', Rdr K P w' v' l)))
        go_wp2_with (go_at_call 57; refine HC.out.mono ?_; rintro e y ⟨rfl, hM, v', hR⟩)
        refine ⟨rfl, ?_⟩
        rw [HQ.out, HE1.out, hp]
        exact ⟨HM3.out.trans hM, rfl, v', hR⟩
      | yes p L2 =>
        have HC := Lib.hid ((HPa.out v1 L _ HR3.out).mono (fun e w' h => (by rw [hp] at h; exact h.of_yes : isPat p e w' ∧ Moves K.rb w3 w' ∧ ∃ v', Rdr K P w' v' L2)))
        have HE2 : Hid (partS P L = .yes (1, p, zSl, zSl) L2) := Lib.hid (by rw [HE1.out, hp]; rfl)
        clear hp HE1
        go_wp2_with (first
          | (go_at_call 57; refine HC.out.mono ?_; rintro e y ⟨rfl, hM, v', hR⟩; have HMy := Lib.hid (HM3.out.trans hM); have HPy := Lib.hid (hM.at_ HP3.out HNe.out); have HRy := Lib.hid hR; clear hM hR; have HTh := Lib.hid HPy.out.there)
          | (refine wpList_store_mid rfl 37 (.tmp 2) (.tmp 14) rfl w.heap.size 0 (litC (1, p, zSl, zSl)) rfl rfl HTh.out HS21.out (litC_all _) ?_))
        obtain ⟨hE1, hE2⟩ := HEnd.out _ _ _ _ HE2.out HMy.out HPy.out HRy.out
        exact bodyPost_ret (results_lit rfl _ _ w.heap.size _ rfl hE1) rfl hE2
    | none =>
      rw [t2] at HIs
      have HMc1 := Lib.hid (fun U => (HMc.out v1 L _ HR1.out U).mono (fun e w' h => (by rw [HIs] at h; exact h : e = .returned (.bool false) ∧ Below U.heap.size U w')))
      have HE1 : Hid (partS P L = condS P L) := Lib.hid (by rw [HE.out, t2]; all_goals rfl)
      clear t2 HIs HE
      go_upto_region 5 with (first
        | (go_at_call 59; refine (HFi.out v1 L _ HR1.out).mono ?_; rintro e w2 ⟨rfl, hB2⟩; have HB2 := Lib.hid hB2; clear hB2)
        | (go_at_call 58; refine (HMc1.out _).mono ?_; rintro e w3 ⟨rfl, hB3⟩; have HB3 := Lib.hid (below_next HB2.out hB3); clear hB3))
      have HM3 := Lib.hid (HM1.out.trans (Moves.of_below HB3.out))
      have HP3 := Lib.hid (HP1.out.kept HB3.out)
      have HR3 := Lib.hid (HR1.out.below HB3.out)
      cases hs : slotS P L with
      | no l =>
        have HC := Lib.hid ((HSl.out v1 L _ HR3.out).mono (fun e w' h => (by rw [hs] at h; exact h.of_no : e = badE ∧ Moves K.rb w3 w' ∧ ∃ v', Rdr K P w' v' l)))
        go_wp2_with (go_at_call 60; refine HC.out.mono ?_; rintro e y ⟨rfl, hM, v', hR⟩)
        refine ⟨rfl, ?_⟩
        rw [HQ.out, HE1.out, condS, hs]
        exact ⟨HM3.out.trans hM, rfl, v', hR⟩
      | yes a L2 =>
        have HC := Lib.hid ((HSl.out v1 L _ HR3.out).mono (fun e w' h => (by rw [hs] at h; exact h.of_yes : isSlot a e w' ∧ Moves K.rb w3 w' ∧ ∃ v', Rdr K P w' v' L2)))
        have HE2 : Hid (partS P L = match takesS (isMk sameM) L2 with | some L3 => (slotS P L3).bind fun b L4 => .yes (3, zPa, a, b) L4 | none => (needS (isMk unlikeM) L2).bind fun _ L3 => (slotS P L3).bind fun b L4 => .yes (4, zPa, a, b) L4) := Lib.hid (by rw [HE1.out, condS, hs]; rfl)
        clear hs HE1
        go_upto_region 6 with (first
          | (go_at_call 60; refine HC.out.mono ?_; rintro e y4 ⟨rfl, hM, v4, hR⟩; have HM4 := Lib.hid (HM3.out.trans hM); have HP4 := Lib.hid (hM.at_ HP3.out HNe.out); have HR4 := Lib.hid hR; clear hM hR; have HT4 := Lib.hid (block_new y4 (litC zLi) 37).there)
          | (refine wpList_store_mid rfl 37 (.tmp 3) (.tmp 17) rfl y4.heap.size 0 (litC (3, zPa, a, zSl)) rfl rfl HT4.out HS21.out (litC_all _) ?_))
        generalize hW5 : World.setCells _ _ _ _ = W5
        have hX5 : BlockAt W5 y4.heap.size (litC (3, zPa, a, zSl)) 37 := by rw [← hW5]; exact (block_new y4 (litC zLi) _).putAll _ rfl
        have hB5 : Below y4.heap.size y4 W5 := by rw [← hW5]; exact (stored_lit y4 (litC zLi) rfl (litC (3, zPa, a, zSl)).toList rfl _).2.low
        have hlt4 : w.heap.size < y4.heap.size := (Array.getElem?_eq_some_iff.1 HP4.out).1
        have HM5 := Lib.hid (HM4.out.trans (Moves.of_below hB5))
        have HP5 := Lib.hid (HP4.out.kept hB5)
        have HR5 := Lib.hid (HR4.out.below hB5)
        have HX5 := Lib.hid hX5
        have HG3 : Hid (K.B ≤ y4.heap.size ∧ w.heap.size ≤ y4.heap.size ∧ y4.heap.size ≠ K.rb ∧ w.heap.size ≠ y4.heap.size) := Lib.hid (by have := Hlt.out; have := HGe.out; omega)
        clear hX5 hB5 hlt4 hW5 HT4 HM4 HP4 HR4
        generalize y4.heap.size = g3 at *
        cases t3 : takesS (isMk sameM) L2 with
        | some L3 =>
          have HC := Lib.hid ((HTk.out _ ⟨#[61]⟩ _ (tells_mk sameM _ rfl) v4 L2 _ HR5.out).mono (fun e w' h => h.of_some t3))
          have HE3 : Hid (partS P L = (slotS P L3).bind fun b L4 => .yes (3, zPa, a, b) L4) := Lib.hid (by rw [HE2.out, t3]; all_goals rfl)
          clear t3 HE2
          go_upto_region 9 with (go_at_call 55; refine HC.out.mono ?_; rintro e y6 ⟨rfl, hM, v6, hR⟩; have HM6 := Lib.hid (HM5.out.trans hM); have HP6 := Lib.hid (hM.at_ HP5.out HNe.out); have HX6 := Lib.hid (hM.at_ HX5.out HG3.out.2.2.1); have HR6 := Lib.hid hR; clear hM hR)
          cases hb : slotS P L3 with
          | no l =>
            have HC := Lib.hid ((HSl.out v6 L3 _ HR6.out).mono (fun e w' h => (by rw [hb] at h; exact h.of_no : e = badE ∧ Moves K.rb y6 w' ∧ ∃ v', Rdr K P w' v' l)))
            go_wp2_with (go_at_call 60; refine HC.out.mono ?_; rintro e y ⟨rfl, hM, v', hR⟩)
            refine ⟨rfl, ?_⟩
            rw [HQ.out, HE3.out, hb]
            exact ⟨HM6.out.trans hM, rfl, v', hR⟩
          | yes b L7 =>
            have HC := Lib.hid ((HSl.out v6 L3 _ HR6.out).mono (fun e w' h => (by rw [hb] at h; exact h.of_yes : isSlot b e w' ∧ Moves K.rb y6 w' ∧ ∃ v', Rdr K P w' v' L7)))
            have HE7 : Hid (partS P L = .yes (3, zPa, a, b) L7) := Lib.hid (by rw [HE3.out, hb]; rfl)
            clear hb
            go_wp2_with (first
              | (go_at_call 60; refine HC.out.mono ?_; rintro e y7 ⟨rfl, hM, v7, hR⟩; have HM7 := Lib.hid ((HM6.out.trans hM).of_other (b := g3) HG3.out.2.1 ((((Moves.refl (w := y7)).set 17 (.string b.1)).set 18 (.int .i64 b.2.1)).set 19 (.string b.2.2.1) |>.set 20 (.string b.2.2.2))); have HXy := Lib.hid (hM.at_ HX6.out HG3.out.2.2.1); have HX7 : Hid (BlockAt _ g3 (litC (3, zPa, a, b)) 37) := Lib.hid ((((HXy.out.set 17 (.string b.1)).set 18 (.int .i64 b.2.1)).set 19 (.string b.2.2.1)).set 20 (.string b.2.2.2)); have HP7 := Lib.hid (((((Moves.refl (w := y7) (g := g3)).set 17 (.string b.1)).set 18 (.int .i64 b.2.1)).set 19 (.string b.2.2.1) |>.set 20 (.string b.2.2.2)).at_ (hM.at_ HP6.out HNe.out) HG3.out.2.2.2); have HR7 := Lib.hid (hR.other (b := g3) HG3.out.1 HG3.out.2.2.1 HXy.out ((((Moves.refl (w := y7)).set 17 (.string b.1)).set 18 (.int .i64 b.2.1)).set 19 (.string b.2.2.1) |>.set 20 (.string b.2.2.2))); clear hM hR; have x17 := HXy.out.cell (j := 17) rfl; have x18 := HXy.out.cell (j := 18) rfl; have x19 := HXy.out.cell (j := 19) rfl; have x20 := HXy.out.cell (j := 20) rfl; have xf := HXy.out.free; have HT7 := Lib.hid HP7.out.there)
              | (refine wpList_load_mid rfl 37 (.tmp 3) rfl g3 0 rfl (litC (3, zPa, a, b)).toList _ HX7.out.range Tryz.underlying37 rfl HS21.out ?_)
              | (refine wpList_store_mid rfl 37 (.tmp 2) (.tmp 27) rfl w.heap.size 0 (litC (3, zPa, a, b)) rfl rfl HT7.out HS21.out (litC_all _) ?_))
            obtain ⟨hE1, hE2⟩ := HEnd.out _ _ _ _ HE7.out HM7.out HP7.out HR7.out
            exact bodyPost_ret (results_lit rfl _ _ w.heap.size _ rfl hE1) rfl hE2
        | none =>
          have HC := Lib.hid ((HTk.out _ ⟨#[61]⟩ _ (tells_mk sameM _ rfl) v4 L2 _ HR5.out).mono (fun e w' h => h.of_none t3))
          have HE3 : Hid (partS P L = (needS (isMk unlikeM) L2).bind fun _ L3 => (slotS P L3).bind fun b L4 => .yes (4, zPa, a, b) L4) := Lib.hid (by rw [HE2.out, t3]; all_goals rfl)
          clear t3 HE2
          go_upto_region 7 with (go_at_call 55; refine HC.out.mono ?_; rintro e y6 ⟨rfl, hM, v6, hR⟩; have HM6 := Lib.hid (HM5.out.trans hM); have HP6 := Lib.hid (hM.at_ HP5.out HNe.out); have HX6 := Lib.hid (hM.at_ HX5.out HG3.out.2.2.1); have HR6 := Lib.hid hR; clear hM hR)
          cases t4 : needS (isMk unlikeM) L2 with
          | no l =>
            have HC := Lib.hid ((HMk.out unlikeM ⟨#[33, 61]⟩ rfl v6 L2 _ HR6.out).mono (fun e w' h => (by rw [t4] at h; exact h.of_no : e = badE ∧ Moves K.rb y6 w' ∧ ∃ v', Rdr K P w' v' l)))
            go_wp2_with (go_at_call 61; refine HC.out.mono ?_; rintro e y ⟨rfl, hM, v', hR⟩)
            refine ⟨rfl, ?_⟩
            rw [HQ.out, HE3.out, t4]
            exact ⟨HM6.out.trans hM, rfl, v', hR⟩
          | yes u L4 =>
            have HC := Lib.hid ((HMk.out unlikeM ⟨#[33, 61]⟩ rfl v6 L2 _ HR6.out).mono (fun e w' h => (by rw [t4] at h; exact h.of_yes : e = unitE ∧ Moves K.rb y6 w' ∧ ∃ v', Rdr K P w' v' L4)))
            have HE4 : Hid (partS P L = (slotS P L4).bind fun b L4 => .yes (4, zPa, a, b) L4) := Lib.hid (by rw [HE3.out, t4]; all_goals rfl)
            clear t4 HE3
            go_upto_region 9 with (go_at_call 61; refine HC.out.mono ?_; rintro e y8 ⟨rfl, hM, v8, hR⟩; have HM8 := Lib.hid ((HM6.out.trans hM).of_other (b := g3) HG3.out.2.1 ((Moves.refl (w := y8)).set 0 (.int .i64 4))); have HXy := Lib.hid (hM.at_ HX6.out HG3.out.2.2.1); have HX8 : Hid (BlockAt _ g3 (litC (4, zPa, a, zSl)) 37) := Lib.hid (HXy.out.set 0 (.int .i64 4)); have HP8 := Lib.hid (((Moves.refl (w := y8) (g := g3)).set 0 (.int .i64 4)).at_ (hM.at_ HP6.out HNe.out) HG3.out.2.2.2); have HR8 := Lib.hid (hR.other (b := g3) HG3.out.1 HG3.out.2.2.1 HXy.out ((Moves.refl (w := y8)).set 0 (.int .i64 4))); clear hM hR; have x0 := HXy.out.cell (j := 0) rfl; have xf := HXy.out.free)
            clear x0 xf
            generalize y8.setCell ⟨g3, 0, none⟩ (.int .i64 4) = W8 at *
            cases hb : slotS P L4 with
            | no l =>
              have HC := Lib.hid ((HSl.out v8 L4 _ HR8.out).mono (fun e w' h => (by rw [hb] at h; exact h.of_no : e = badE ∧ Moves K.rb W8 w' ∧ ∃ v', Rdr K P w' v' l)))
              go_wp2_with (go_at_call 60; refine HC.out.mono ?_; rintro e y ⟨rfl, hM, v', hR⟩)
              refine ⟨rfl, ?_⟩
              rw [HQ.out, HE4.out, hb]
              exact ⟨HM8.out.trans hM, rfl, v', hR⟩
            | yes b L7 =>
              have HC := Lib.hid ((HSl.out v8 L4 _ HR8.out).mono (fun e w' h => (by rw [hb] at h; exact h.of_yes : isSlot b e w' ∧ Moves K.rb W8 w' ∧ ∃ v', Rdr K P w' v' L7)))
              have HE7 : Hid (partS P L = .yes (4, zPa, a, b) L7) := Lib.hid (by rw [HE4.out, hb]; rfl)
              clear hb
              go_wp2_with (first
                | (go_at_call 60; refine HC.out.mono ?_; rintro e y7 ⟨rfl, hM, v7, hR⟩; have HM7 := Lib.hid ((HM8.out.trans hM).of_other (b := g3) HG3.out.2.1 ((((Moves.refl (w := y7)).set 17 (.string b.1)).set 18 (.int .i64 b.2.1)).set 19 (.string b.2.2.1) |>.set 20 (.string b.2.2.2))); have HXy := Lib.hid (hM.at_ HX8.out HG3.out.2.2.1); have HX7 : Hid (BlockAt _ g3 (litC (4, zPa, a, b)) 37) := Lib.hid ((((HXy.out.set 17 (.string b.1)).set 18 (.int .i64 b.2.1)).set 19 (.string b.2.2.1)).set 20 (.string b.2.2.2)); have HP7 := Lib.hid (((((Moves.refl (w := y7) (g := g3)).set 17 (.string b.1)).set 18 (.int .i64 b.2.1)).set 19 (.string b.2.2.1) |>.set 20 (.string b.2.2.2)).at_ (hM.at_ HP8.out HNe.out) HG3.out.2.2.2); have HR7 := Lib.hid (hR.other (b := g3) HG3.out.1 HG3.out.2.2.1 HXy.out ((((Moves.refl (w := y7)).set 17 (.string b.1)).set 18 (.int .i64 b.2.1)).set 19 (.string b.2.2.1) |>.set 20 (.string b.2.2.2))); clear hM hR; have x17 := HXy.out.cell (j := 17) rfl; have x18 := HXy.out.cell (j := 18) rfl; have x19 := HXy.out.cell (j := 19) rfl; have x20 := HXy.out.cell (j := 20) rfl; have xf := HXy.out.free; have HT7 := Lib.hid HP7.out.there)
                | (refine wpList_load_mid rfl 37 (.tmp 3) rfl g3 0 rfl (litC (4, zPa, a, b)).toList _ HX7.out.range Tryz.underlying37 rfl HS21.out ?_)
                | (refine wpList_store_mid rfl 37 (.tmp 2) (.tmp 27) rfl w.heap.size 0 (litC (4, zPa, a, b)) rfl rfl HT7.out HS21.out (litC_all _) ?_))
              obtain ⟨hE1, hE2⟩ := HEnd.out _ _ _ _ HE7.out HM7.out HP7.out HR7.out
              exact bodyPost_ret (results_lit rfl _ _ w.heap.size _ rfl hE1) rfl hE2
end Go.Proofs.YtbcoklbfebmpoaaGreatDoor

/-
  THE READER OF rules: CONTRACT OF body.
-/

namespace Go.Proofs.YtbcoklbfebmpoaaGreatDoor
open Go.RowKit
open Utf Term Lex
set_option linter.unusedVariables false
set_option linter.unusedSimpArgs false

theorem owns_moves {w u : World} {rb base : Nat} {e : TypeId} {k n : Nat} {v : Value} {xs : List Value} (h : w.ownsRow base e k v n xs) (m : Moves rb w u) (hlt : rb < base) : u.ownsRow base e k v n xs := by
  refine ⟨h.1, ?_⟩
  rcases h.2 with hn | ⟨g, cap, cur, hv, hb, hg, rest⟩
  · exact .inl hn
  · exact .inr ⟨g, cap, cur, hv, hb, by rw [m.block g (Array.getElem?_eq_some_iff.1 hg).1 (by omega)]; exact hg, rest⟩
theorem grown_moves {W W' : World} {g : Nat} (h : W.grownBy W' (some g)) : Moves g W W' := ⟨h.os, h.tape, h.output, h.size, fun k hk hn => h.block k hk (fun e => hn (Option.some.inj e))⟩
theorem grown_below {W W' : World} (h : W.grownBy W' none) : Below W.heap.size W W' := ⟨h.os, h.tape, h.output, h.size, fun k hk => h.block k hk (by simp)⟩
theorem Rdr.grown {K : RdK} {P : ByteArray → Option ByteArray} {W W' : World} {vr v : Value} {L : List Sym} {base n k : Nat} {e : TypeId} {xs : List Value} (h : Rdr K P W vr L) (ho : W.ownsRow base e k v n xs) (hb : K.rb < base) (hg : W.grownBy W' v.ownBlock) : Rdr K P W' vr L := by
  rcases ho.2 with ⟨rfl, _⟩ | ⟨g, cap, cur, rfl, hbg, hgc, _⟩
  · exact h.below (grown_below hg)
  · exact h.other (b := g) (by have := K.hrb; omega) (by omega) hgc (grown_moves hg)
theorem moves_grown {w W W' : World} {rb base n k : Nat} {v : Value} {e : TypeId} {xs : List Value} (h : Moves rb w W) (ho : W.ownsRow base e k v n xs) (hw : w.heap.size ≤ base) (hg : W.grownBy W' v.ownBlock) : Moves rb w W' := by
  rcases ho.2 with ⟨rfl, _⟩ | ⟨g, cap, cur, rfl, hbg, hgc, _⟩
  · exact h.trans (Moves.of_below (grown_below hg))
  · exact h.of_other (show w.heap.size ≤ g by omega) (grown_moves hg)
theorem moves_go {w u v : World} {rb : Nat} (h : Moves rb w u) (k : Below u.heap.size u v) : Moves rb w v := h.trans (Moves.of_below k)
abbrev ownL (w : World) (B : Nat) (v : Value) (ls : List LitD) : Prop := w.ownsRow B 37 21 v ls.length (flatL ls)
theorem ownL_body {w : World} {B : Nat} {v : Value} {ls : List LitD} (h : ownL w B v ls) : BodyS w v ls := by
  rcases h.2 with ⟨rfl, hn⟩ | ⟨g, cap, cur, rfl, hb, hg, h1, h2, h3, h4⟩
  · exact .inl ⟨⟨_, _, rfl⟩, List.eq_nil_of_length_eq_zero hn⟩
  · refine .inr ⟨g, 0, cap, rfl, h1, h2, fun j u hu => ?_⟩
    rw [Nat.zero_add]
    have hcur : cur[j]? = some u := by
      rw [← h4, List.getElem?_take] at hu
      split at hu
      · rw [← Array.getElem?_toList]; exact hu
      · cases hu
    unfold World.cell?
    rw [hg]
    simpa using hcur
theorem info_lit : ∃ i z, Tryz.prog.info? 37 = some i ∧ i.zero = some z ∧ i.size = 21 ∧ i.bytes = 288 ∧ z.cells.size = 21 := by
  have h : (Tryz.prog.info? 37).map (fun i => (i.zero, i.size, i.bytes)) = some (some (.agg zLiC), 21, 288) := by kernel_rfl
  cases hq : Tryz.prog.info? 37 with
  | none => rw [hq] at h; cases h
  | some i =>
    rw [hq] at h
    simp at h
    exact ⟨i, _, rfl, h.1, h.2.1, h.2.2, rfl⟩
theorem lit_ones (l : LitD) : ∀ u ∈ (litC l).toList, u.oneCell' = true := by
  intro u hu
  have := litC_all l
  rw [Array.all_eq_true_iff_forall_mem] at this
  exact this u (by simpa using hu)
theorem flatL_one (x : LitD) : flatL [x] = (litC x).toList := by simp [flatL]
abbrev isBody (B : Nat) (ls : List LitD) : Ending → World → Prop := fun e w' => ∃ v, e = .returned v ∧ ownL w' B v ls
/-- What has been read of a body. -/
def BodyRel (K : RdK) (P : ByteArray → Option ByteArray) (L : List Sym) (w : World) (g : Nat) (s : Value) (wr : World) : Prop :=
  ∃ acc vr Lr, ownL wr w.heap.size s acc ∧ Moves K.rb w wr ∧ Rdr K P wr vr Lr ∧ bodyS P L = (moreS P Lr).bind (fun ls l => .yes (acc ++ ls) l) ∧ acc.length + Lr.length ≤ L.length + 1 ∧ Lr.length ≤ g

set_option maxRecDepth 100000 in
set_option maxHeartbeats 8000000 in
theorem ruBodyP_any (K : RdK) (P : ByteArray → Option ByteArray) (v : Value) (L : List Sym) (w : World) (h : Rdr K P w v L) :
    Calls Tryz.prog 118 #[rdP K] w (RdOut K P (isBody w.heap.size) (bodyS P L) w) := by
  obtain ⟨Q, hQ⟩ : ∃ Q, Q = RdOut K P (isBody w.heap.size) (bodyS P L) w := ⟨_, rfl⟩
  rw [← hQ]
  have HQ := Lib.hid hQ
  have HTk := Lib.hid (fun F ms p hT v L W (hR : Rdr K P W v L) => ruTakes_any K P F ms p hT v L W hR)
  have HPt := Lib.hid (fun v L W (hR : Rdr K P W v L) => ruPartP_any K P v L W hR)
  have Hlt := Lib.hid h.lt
  have hfew := h.few
  have H0 := Lib.hid h
  obtain ⟨i0, z0, hi, hz0, hz1, hz2, hz3⟩ := info_lit
  have HI := Lib.hid hi
  have HZ0 := Lib.hid hz0
  have HZ1 := Lib.hid hz1
  have HZ2 := Lib.hid hz2
  have HZ3 := Lib.hid hz3
  have HSz : Hid ((Tryz.prog.info? 37).map (·.size) = some 21) := Lib.hid (by kernel_rfl)
  have HZi : Hid (((Tryz.prog.info? 37).bind (·.zero)).isSome = true) := Lib.hid (by kernel_rfl)
  clear hQ h hi hz0 hz1 hz2 hz3
  go_enter Tryz.func118, Tryz.ntmps118
  cases h0 : partS P L with
  | no l =>
    have HC := Lib.hid ((HPt.out v L _ H0.out).mono (fun e w' h => (by rw [h0] at h; exact h.of_no : e = badE ∧ Moves K.rb w w' ∧ ∃ v', Rdr K P w' v' l)))
    go_wp2_with (go_at_call 23; refine HC.out.mono ?_; rintro e y ⟨rfl, hM, v', hR⟩)
    refine ⟨rfl, ?_⟩
    rw [HQ.out, bodyS_eq, h0]
    exact ⟨hM, rfl, v', hR⟩
  | yes x L1 =>
    have HC := Lib.hid ((HPt.out v L _ H0.out).mono (fun e w' h => (by rw [h0] at h; exact h.of_yes : isLit x e w' ∧ Moves K.rb w w' ∧ ∃ v', Rdr K P w' v' L1)))
    have hs0 := partS_suf P L
    rw [h0] at hs0
    have hl0 : L1.length ≤ L.length := hs0.len
    have HS0 := Lib.hid hl0
    have HB0 : Hid (bodyS P L = (moreS P L1).bind (fun ls l => .yes ([x] ++ ls) l)) := Lib.hid (by rw [bodyS_eq, h0]; rfl)
    clear h0 hs0 hl0
    go_wp2_with (first
      | (go_at_call 23; refine HC.out.mono ?_; rintro e y1 ⟨rfl, hM1, v1, hR1⟩; have HM1 := Lib.hid hM1; have HR1 := Lib.hid hR1; clear hM1 hR1)
      | (refine wpList_buildOne rfl 48 37 (.tmp 5) rfl (litC x).toList rfl Tryz.underlying48 HSz.out HZi.out (by decide) (by decide) ?_))
    go_loopg [3] (L.length + 1) (fun g s wr => BodyRel K P L w g s wr)
    case atStart =>
      have hb := below_lex y1 (.cells (litC x).toList.toArray 37)
      have := HS0.out
      refine ⟨[x], v1, L1, ?_, moves_go HM1.out hb, HR1.out.below hb, HB0.out, by simp <;> omega, by omega⟩
      have := World.ownsRow_lit (base := w.heap.size) (e := 37) (size := 21) y1 (litC x).toList.toArray 1 HM1.out.size (by decide) rfl
      show World.ownsRow _ _ _ _ _ _ (flatL [x])
      rw [flatL_one]
      exact this
    case round =>
      obtain ⟨acc, vr, Lr, hown, hM, hR, hB, hlen, hmeas⟩ := hrel
      have HO := Lib.hid hown
      have HM := Lib.hid hM
      have HR := Lib.hid hR
      have HB := Lib.hid hB
      clear hown hM hR hB HM1 HR1 HB0 HS0 HC
      cases t : takesS (isMk commaM) Lr with
      | none =>
        have HC := Lib.hid ((HTk.out _ ⟨#[44]⟩ _ (tells_mk commaM _ rfl) vr Lr _ HR.out).mono (fun e w' h => h.of_none t))
        have HG : Hid (bodyS P L = .yes acc Lr) := Lib.hid (by rw [HB.out, moreS_eq, t]; simp only [Tk.bind, List.append_nil])
        clear t
        go_wp2_with (go_at_call 55; refine HC.out.mono ?_; rintro e y2 ⟨rfl, hM2, v2, hR2⟩)
        rw [HQ.out, HG.out]
        exact ⟨HM.out.trans hM2, ⟨_, rfl, owns_moves HO.out hM2 Hlt.out⟩, v2, hR2⟩
      | some L2 =>
        have HC := Lib.hid ((HTk.out _ ⟨#[44]⟩ _ (tells_mk commaM _ rfl) vr Lr _ HR.out).mono (fun e w' h => h.of_some t))
        have hl2 : Lr.length = L2.length + 1 := by
          obtain ⟨y, rfl, _⟩ := takesS_some t
          rfl
        have HG : Hid (bodyS P L = ((partS P L2).bind fun l L2 => (moreS P L2).bind fun ls L3 => .yes (l :: ls) L3).bind (fun ls l => .yes (acc ++ ls) l)) := Lib.hid (by rw [HB.out, moreS_eq, t])
        clear t
        cases hp : partS P L2 with
        | no l =>
          have HC2 := Lib.hid (fun v2 W (hR : Rdr K P W v2 L2) => (HPt.out v2 L2 W hR).mono (fun e w' h => (by rw [hp] at h; exact h.of_no : e = badE ∧ Moves K.rb W w' ∧ ∃ v', Rdr K P w' v' l)))
          go_wp2_with (first
            | (go_at_call 55; refine HC.out.mono ?_; rintro e y2 ⟨rfl, hM2, v2, hR2⟩; have HM2 := Lib.hid (HM.out.trans hM2); have HR2 := Lib.hid hR2; clear hM2 hR2)
            | (go_at_call 23; refine (HC2.out _ _ HR2.out).mono ?_; rintro e y3 ⟨rfl, hM3, v3, hR3⟩))
          refine ⟨rfl, ?_⟩
          rw [HQ.out, HG.out, hp]
          exact ⟨HM2.out.trans hM3, rfl, v3, hR3⟩
        | yes x2 L3 =>
          have HC2 := Lib.hid (fun v2 W (hR : Rdr K P W v2 L2) => (HPt.out v2 L2 W hR).mono (fun e w' h => (by rw [hp] at h; exact h.of_yes : isLit x2 e w' ∧ Moves K.rb W w' ∧ ∃ v', Rdr K P w' v' L3)))
          have hs3 := partS_suf P L2
          rw [hp] at hs3
          have hl3 : L3.length ≤ L2.length := hs3.len
          have HG2 : Hid (bodyS P L = (moreS P L3).bind (fun ls l => .yes (acc ++ [x2] ++ ls) l)) := Lib.hid (by
            rw [HG.out, hp]
            simp only [Tk.bind]
            cases moreS P L3 with
            | no l => rfl
            | yes ls l => simp)
          clear hp hs3
          go_wp2_with (first
            | (go_at_call 55; refine HC.out.mono ?_; rintro e y2 ⟨rfl, hM2, v2, hR2⟩; have HM2 := Lib.hid (HM.out.trans hM2); have HR2 := Lib.hid hR2; have HO2 := Lib.hid (owns_moves HO.out hM2 Hlt.out); clear hM2 hR2)
            | (go_at_call 23; refine (HC2.out _ _ HR2.out).mono ?_; rintro e y3 ⟨rfl, hM3, v3, hR3⟩; have HM3 := Lib.hid (HM2.out.trans hM3); have HR3 := Lib.hid hR3; have HO3 := Lib.hid (owns_moves HO2.out hM3 Hlt.out); have hsz3 := (HM2.out.trans hM3).size; clear hM3 hR3)
            | (refine wpList_buildOne rfl 48 37 (.tmp 11) rfl (litC x2).toList rfl Tryz.underlying48 HSz.out HZi.out (by decide) (by decide) ?_)
            | (at_builtin; refine wpList_append_own _ rfl _ _ 48 rfl w.heap.size 37 i0 z0 21 288 Tryz.underlying48 HI.out HZ0.out HZ1.out HZ2.out HZ3.out (by decide) _ _ _ rfl (HO3.out.alloc _) ⟨y3.heap.size, 0, none⟩ 1 1 (litC x2).toList rfl rfl (fun j u h => by rw [Addr.add_mid]; exact range_new _ _ _ j u h) (lit_ones x2) (by unfold maxLen; omega) (by omega) (by simp <;> omega) ?_; intro v' w4 hown' hgrow _))
          have hb := below_lex y3 (.cells (litC x2).toList.toArray 37)
          have HM4 := moves_grown (moves_go HM3.out hb) (HO3.out.alloc (.cells (litC x2).toList.toArray 37)) (Nat.le_refl _) hgrow
          have HR4 := (HR3.out.below hb).grown (HO3.out.alloc (.cells (litC x2).toList.toArray 37)) Hlt.out hgrow
          go_roundg L3.length
          case rel =>
            refine ⟨acc ++ [x2], v3, L3, ?_, HM4, HR4, HG2.out, by simp <;> omega, Nat.le_refl _⟩
            show World.ownsRow _ _ _ _ _ _ (flatL (acc ++ [x2]))
            rw [flatL_append, flatL_one, List.length_append]
            exact hown'
          case measure => omega
end Go.Proofs.YtbcoklbfebmpoaaGreatDoor

/-
  THE READER OF rules: CONTRACT OF rule.
-/

namespace Go.Proofs.YtbcoklbfebmpoaaGreatDoor
open Go.RowKit
open Utf Term Lex
set_option linter.unusedVariables false
set_option linter.unusedSimpArgs false

theorem slot_vast {s : SlotD} (h : slotB s = true) : VastSl s := by
  have := slot_small h
  exact ⟨by unfold VastS; omega, by unfold VastS; omega, by unfold VastS; omega⟩
theorem slot_vast0 : VastSl zSl := ⟨Nat.zero_le _, Nat.zero_le _, Nat.zero_le _⟩
theorem pat_vast {p : PatD} (h : patB p = true) : VastP p := by
  unfold patB at h
  simp only [Bool.and_eq_true] at h
  exact ⟨slot_vast h.1.1, slot_vast h.1.2, slot_vast h.2⟩
theorem lit_vast {l : LitD} (h : litB l = true) : VastL l := by
  unfold litB at h
  split at h
  · simp only [Bool.and_eq_true, decide_eq_true_eq] at h
    exact ⟨pat_vast h.1.1, by rw [h.1.2]; exact slot_vast0, by rw [h.2]; exact slot_vast0⟩
  · split at h
    · simp only [Bool.and_eq_true, decide_eq_true_eq] at h
      exact ⟨by rw [h.2]; exact ⟨slot_vast0, slot_vast0, slot_vast0⟩, slot_vast h.1.1, slot_vast h.1.2⟩
    · cases h
theorem more_ok {P : ByteArray → Option ByteArray} {N : Nat} : ∀ (f : Nat) {L l : List Sym} (hg : ∀ x ∈ L, GoodR N x) {ys : List LitD}, moreF P f L = .yes ys l → ∀ y ∈ ys, litB y = true
  | 0, _, _, _, _, h => by cases h
  | f + 1, L, l, hg, ys, h => by
    rw [moreF] at h
    cases h1 : takesS (isMk commaM) L with
    | none =>
      rw [h1] at h
      simp only [Tk.yes.injEq] at h
      rw [← h.1]
      intro y hy
      cases hy
    | some L1 =>
      rw [h1] at h
      simp only at h
      obtain ⟨z, rfl, _⟩ := takesS_some h1
      have hg1 : ∀ x ∈ L1, GoodR N x := fun x hx => hg x (List.mem_cons_of_mem _ hx)
      have s2 := partS_suf P L1
      cases h2 : partS P L1 with
      | no l => rw [h2] at h; cases h
      | yes a L2 =>
        rw [h2] at h s2
        simp only [Tk.bind] at h
        cases h3 : moreF P f L2 with
        | no l => rw [h3] at h; cases h
        | yes bs L3 =>
          rw [h3] at h
          simp only [Tk.yes.injEq] at h
          rw [← h.1]
          intro y hy
          rcases List.mem_cons.1 hy with rfl | hy
          · exact part_ok hg1 h2
          · exact more_ok f (fun x hx => hg1 x (s2.mem x hx)) h3 y hy
theorem body_ok {P : ByteArray → Option ByteArray} {N : Nat} {L l : List Sym} (hg : ∀ x ∈ L, GoodR N x) {ys : List LitD} (h : bodyS P L = .yes ys l) : ∀ y ∈ ys, litB y = true := by
  rw [bodyS_eq] at h
  have s2 := partS_suf P L
  cases h2 : partS P L with
  | no l => rw [h2] at h; cases h
  | yes a L2 =>
    rw [h2] at h s2
    simp only [Tk.bind] at h
    cases h3 : moreS P L2 with
    | no l => rw [h3] at h; cases h
    | yes bs L3 =>
      rw [h3] at h
      simp only [Tk.yes.injEq] at h
      rw [← h.1]
      intro y hy
      rcases List.mem_cons.1 hy with rfl | hy
      · exact part_ok hg h2
      · exact more_ok _ (fun x hx => hg x (s2.mem x hx)) h3 y hy
abbrev isRule (B : Nat) (r : RuleD) : Ending → World → Prop := fun e w' => ∃ bv, e = .returned (.agg (ruleC r.1 bv)) ∧ ownL w' B bv r.2
theorem results_rule {fn : Func} {p : Tmp} (h : fn.results = #[.cell p 50]) (tmps : Array Value) (w : World) (g : Nat) (q : PatD) (bv : Value)
    (hp : tmps.getD p undef = .pointer (some ⟨g, 0, none⟩)) (hx : BlockAt w g (ruleC q bv) 50) :
    (results fn tmps).run Tryz.prog w = .ok (.agg (ruleC q bv)) w :=
  results_cell_row h tmps w g 50 (ruleC q bv) (0, 0) _ hp hx Tryz.underlying50 rfl (by kernel_rfl)
abbrev nilS : Value := .slice none 0 0
abbrev zRuC : Array Value := #[.string ⟨#[]⟩, .int .i64 0, .string ⟨#[]⟩, .string ⟨#[]⟩, .string ⟨#[]⟩, .int .i64 0, .string ⟨#[]⟩, .string ⟨#[]⟩, .string ⟨#[]⟩, .int .i64 0, .string ⟨#[]⟩, .string ⟨#[]⟩, .slice none 0 0]
theorem own_form {w : World} {B : Nat} {v : Value} {ls : List LitD} (h : ownL w B v ls) : ∃ q n c, v = .slice q n c := by
  rcases h.2 with ⟨rfl, _⟩ | ⟨g, cap, cur, rfl, _⟩
  · exact ⟨_, _, _, rfl⟩
  · exact ⟨_, _, _, rfl⟩
theorem ruleC_all (p : PatD) (q : Option Addr) (n c : Nat) : (ruleC p (.slice q n c)).all (·.oneCell') = true := by simp [Value.oneCell']
theorem slA_form {w : World} {v : Value} {L : List Sym} (h : SlA w v L) : ∃ q n c, v = .slice q n c := by
  rcases h with ⟨rfl, _⟩ | ⟨g, o, cap, rfl, _⟩
  · exact ⟨_, _, _, rfl⟩
  · exact ⟨_, _, _, rfl⟩
/-- The reader is where it was. -/
theorem Rdr.back {K : RdK} {P : ByteArray → Option ByteArray} {w U : World} {v v' : Value} {L L' : List Sym} (h : Rdr K P w v L) (h' : Rdr K P U v' L') (m : Moves K.rb w U) : Rdr K P (U.setCell ⟨K.rb, 0, none⟩ v) v L :=
  h.go (m.set 0 v) (h'.blk.set 0 v) (h.under (m.set 0 v)) h.low (Suf.refl L)

set_option maxRecDepth 100000 in
set_option maxHeartbeats 8000000 in
theorem ruRuleP_any (K : RdK) (P : ByteArray → Option ByteArray) (v : Value) (L : List Sym) (w : World) (h : Rdr K P w v L) :
    Calls Tryz.prog 80 #[rdP K] w (RdOut K P (isRule w.heap.size) (ruleS P L) w) := by
  obtain ⟨vq, vn, vc, hv⟩ := slA_form h.sl
  subst hv
  obtain ⟨Q, hQ⟩ : ∃ Q, Q = RdOut K P (isRule w.heap.size) (ruleS P L) w := ⟨_, rfl⟩
  rw [← hQ]
  have HQ := Lib.hid hQ
  have hB0 := below_lex w (.cells zRuC 50)
  have hZ0 : BlockAt (w.alloc (.cells zRuC 50)) w.heap.size (ruleC zPa nilS) 50 := block_new w zRuC _
  have HTk := Lib.hid (fun F ms p hT v L W (hR : Rdr K P W v L) => ruTakes_any K P F ms p hT v L W hR)
  have HMk := Lib.hid (fun m ms hm v L W (hR : Rdr K P W v L) => ruMark_any K P m ms hm v L W hR)
  have HPa := Lib.hid (fun v L W (hR : Rdr K P W v L) => ruPatP_any K P v L W hR)
  have HBo := Lib.hid (fun v L W (hR : Rdr K P W v L) => ruBodyP_any K P v L W hR)
  have Hgood := Lib.hid h.good
  have Hlt := Lib.hid h.lt
  have HS := Lib.hid h
  have H0 := Lib.hid (h.below hB0)
  have HB0 := Lib.hid (Moves.of_below (g := K.rb) hB0)
  have HZ0 := Lib.hid hZ0
  have HS13 : Hid ((Tryz.prog.info? 50).map (·.size) = some 13) := Lib.hid (by kernel_rfl)
  have hne : w.heap.size ≠ K.rb := by have := h.lt; omega
  have hge : K.B ≤ w.heap.size := by have := h.lt; have := K.hrb; omega
  have HNe := Lib.hid hne
  have HGe := Lib.hid hge
  have hsz0 : (w.alloc (.cells zRuC 50)).heap.size = w.heap.size + 1 := World.size_alloc _ _
  have HSz0 := Lib.hid hsz0
  have c0 : (w.alloc (.cells zRuC 50)).cell? ⟨K.rb, 0, none⟩ = some (.slice vq vn vc) := H0.out.blk.cell (j := 0) rfl
  clear hQ h hB0 hZ0 hne hge hsz0
  go_enter Tryz.func80, Tryz.ntmps80
  go_upto_region 1 with fail
  generalize hW0 : w.alloc (.cells zRuC 50) = W0 at *
  clear hW0
  go_upto_region 2 with fail
  clear c0
  cases h1 : patS P L with
  | no l =>
    have HC := Lib.hid ((HPa.out _ L _ H0.out).mono (fun e w' h => (by rw [h1] at h; exact h.of_no : e = badE ∧ Moves K.rb W0 w' ∧ ∃ v', Rdr K P w' v' l)))
    go_wp2_with (go_at_call 57; refine HC.out.mono ?_; rintro e y ⟨rfl, hM, v', hR⟩)
    refine ⟨rfl, ?_⟩
    rw [HQ.out, ruleS, h1]
    exact ⟨HB0.out.trans hM, rfl, v', hR⟩
  | yes p L1 =>
    have HC := Lib.hid ((HPa.out _ L _ H0.out).mono (fun e w' h => (by rw [h1] at h; exact h.of_yes : isPat p e w' ∧ Moves K.rb W0 w' ∧ ∃ v', Rdr K P w' v' L1)))
    have HPv := Lib.hid (pat_ok Hgood.out h1)
    have HE1 : Hid (ruleS P L = (optS P L1).bind fun b L2 => (needS (isMk endM) L2).bind fun _ L3 => if ruleB (p, b) = true then .yes (p, b) L3 else .no L) := Lib.hid (by rw [ruleS, h1]; rfl)
    have HSf : Hid (Suf L1 L) := Lib.hid (by have := patS_suf P L; rw [h1] at this; exact this)
    clear h1
    go_upto_region 3 with (first
      | (go_at_call 57; refine HC.out.mono ?_; rintro e y1 ⟨rfl, hM, v1, hR⟩; have HM1 := Lib.hid (HB0.out.trans hM); have HP1 := Lib.hid (hM.at_ HZ0.out HNe.out); have HR1 := Lib.hid hR; have HY1 : Hid (w.heap.size < y1.heap.size) := Lib.hid (by have := hM.size; have := HSz0.out; omega); clear hM hR; have HT1 := Lib.hid (block_new y1 (ruleC zPa nilS) 50).there)
      | (refine wpList_store_mid rfl 50 (.tmp 4) (.tmp 11) rfl y1.heap.size 0 (ruleC p nilS) rfl rfl HT1.out HS13.out (ruleC_all _ _ _ _) ?_))
    generalize hW5 : World.setCells _ _ _ _ = W5
    have hX5 : BlockAt W5 y1.heap.size (ruleC p nilS) 50 := by rw [← hW5]; exact (block_new y1 (ruleC zPa nilS) _).putAll _ rfl
    have hB5 : Below y1.heap.size y1 W5 := by rw [← hW5]; exact (stored_cells y1 (ruleC zPa nilS) (ruleC p nilS).toList rfl _).2.low
    have hS5 : y1.heap.size < W5.heap.size := (Array.getElem?_eq_some_iff.1 hX5).1
    have HM5 := Lib.hid (HM1.out.trans (Moves.of_below hB5))
    have HP5 := Lib.hid (HP1.out.kept hB5)
    have HR5 := Lib.hid (HR1.out.below hB5)
    have HX5 := Lib.hid hX5
    have HS5 := Lib.hid hS5
    have HG3 : Hid (K.B ≤ y1.heap.size ∧ w.heap.size ≤ y1.heap.size ∧ y1.heap.size ≠ K.rb ∧ w.heap.size ≠ y1.heap.size ∧ K.rb < y1.heap.size + 1) := Lib.hid (by have := Hlt.out; have := HGe.out; have := HY1.out; omega)
    clear hX5 hB5 hS5 hW5 HT1 HM1 HP1 HR1 HY1
    generalize y1.heap.size = g3 at *
    cases t3 : takesS (isMk arrowM) L1 with
    | none =>
      have HC := Lib.hid ((HTk.out _ ⟨#[58, 45]⟩ _ (tells_mk arrowM _ rfl) v1 L1 _ HR5.out).mono (fun e w' h => h.of_none t3))
      have HE3 : Hid (ruleS P L = (needS (isMk endM) L1).bind fun _ L3 => if ruleB (p, []) = true then .yes (p, []) L3 else .no L) := Lib.hid (by rw [HE1.out, optS, t3]; all_goals rfl)
      clear t3 HE1
      go_upto_region 5 with (go_at_call 55; refine HC.out.mono ?_; rintro e y4 ⟨rfl, hM, v4, hR⟩; have HM4 := Lib.hid (HM5.out.trans hM); have HP4 := Lib.hid (hM.at_ HP5.out HNe.out); have HX4 := Lib.hid (hM.at_ HX5.out HG3.out.2.2.1); have HR4 := Lib.hid hR; clear hM hR)
      have HO4 : Hid (ownL y4 (g3 + 1) nilS []) := Lib.hid (World.ownsRow_nil _ _ _ _)
      cases hn : needS (isMk endM) L1 with
      | no l =>
        have HC := Lib.hid ((HMk.out endM ⟨#[46]⟩ rfl v4 L1 _ HR4.out).mono (fun e w' h => (by rw [hn] at h; exact h.of_no : e = badE ∧ Moves K.rb y4 w' ∧ ∃ v', Rdr K P w' v' l)))
        go_wp2_with (go_at_call 61; refine HC.out.mono ?_; rintro e y ⟨rfl, hM, v', hR⟩)
        refine ⟨rfl, ?_⟩
        rw [HQ.out, HE3.out, hn]
        exact ⟨HM4.out.trans hM, rfl, v', hR⟩
      | yes u L3 =>
        have HC := Lib.hid ((HMk.out endM ⟨#[46]⟩ rfl v4 L1 _ HR4.out).mono (fun e w' h => (by rw [hn] at h; exact h.of_yes : e = unitE ∧ Moves K.rb y4 w' ∧ ∃ v', Rdr K P w' v' L3)))
        have HE9 : Hid (ruleS P L = if ruleB (p, []) = true then .yes (p, []) L3 else .no L) := Lib.hid (by rw [HE3.out, hn]; rfl)
        clear hn
        have HMay := Lib.hid (fun m W (hmW : HasMax W m) (hv : BodyS W nilS []) => ruMay_any p nilS [] (pat_vast HPv.out) (fun l hl => lit_vast (absurd hl (by simp))) m W hmW hv)
        cases hb : ruleB (p, []) with
        | true =>
          rw [hb] at HMay HE9
          have HX9 : Hid (∀ W v', Moves K.rb w W → ownL W w.heap.size nilS [] → Rdr K P W v' L3 → Q (.returned (.agg (ruleC p nilS))) W) := Lib.hid (fun W v' h1 h2 h3 => by
            rw [HQ.out, HE9.out, if_pos rfl]
            exact ⟨h1, ⟨_, rfl, h2⟩, v', h3⟩)
          clear hb
          go_wp2_with (first
            | (go_at_call 61; refine HC.out.mono ?_; rintro e y6 ⟨rfl, hM, v6, hR⟩; have HM6 := Lib.hid (HM4.out.trans hM); have HP6 := Lib.hid (hM.at_ HP4.out HNe.out); have HX6 := Lib.hid (hM.at_ HX4.out HG3.out.2.2.1); have HO6 := Lib.hid (owns_moves HO4.out hM HG3.out.2.2.2.2); have HR6 := Lib.hid hR; clear hM hR; have HL6 := Lib.hid HX6.out.range; have Hm6 := Lib.hid HR6.out.env.len)
            | (refine wpList_load_mid rfl 50 (.tmp 4) rfl g3 0 rfl (ruleC p nilS).toList _ HL6.out Tryz.underlying50 rfl HS13.out ?_)
            | (go_at_call 48; refine (HMay.out Hm6.out.choose _ Hm6.out.choose_spec (ownL_body HO6.out)).mono ?_; rintro e y7 ⟨rfl, hB7⟩; have HM7 := Lib.hid (moves_go HM6.out hB7); have HP7 := Lib.hid (HP6.out.kept hB7); have HR7 := Lib.hid (HR6.out.below hB7); have HO7 := Lib.hid (owns_moves HO6.out (Moves.of_below (g := K.rb) hB7) HG3.out.2.2.2.2); have HL7 := Lib.hid (HX6.out.kept hB7).range; have HT7 := Lib.hid HP7.out.there; have c7 := HR7.out.blk.cell (j := 0) rfl; have f7 : ∀ j, y7.frozen? ⟨K.rb, j, none⟩ = false := fun j => HR7.out.blk.free j; clear hB7)
            | (refine wpList_load_mid rfl 50 (.tmp 4) rfl g3 0 rfl (ruleC p nilS).toList _ HL7.out Tryz.underlying50 rfl HS13.out ?_)
            | (refine wpList_store_mid rfl 50 (.tmp 2) (.tmp 21) rfl w.heap.size 0 (ruleC p nilS) rfl rfl HT7.out HS13.out (ruleC_all _ _ _ _) ?_))
          have hM9 := moves_setCells (g := w.heap.size) (ruleC p nilS).toList 0 y7
          exact bodyPost_ret (results_rule rfl _ _ w.heap.size p nilS rfl (HP7.out.putAll _ rfl)) rfl (HX9.out _ _ (HM7.out.of_other (Nat.le_refl _) hM9) ((owns_moves HO7.out hM9 (Nat.lt_succ_of_le HG3.out.2.1)).low (Nat.le_succ_of_le HG3.out.2.1)) (HR7.out.other HGe.out HNe.out HP7.out hM9))
        | false =>
          rw [hb] at HMay HE9
          have HX9 : Hid (∀ W, Moves K.rb w W → Rdr K P W (.slice vq vn vc) L → Q badE W) := Lib.hid (fun W h1 h3 => by
            rw [HQ.out, HE9.out, if_neg (by decide)]
            exact ⟨h1, rfl, _, h3⟩)
          clear hb
          go_wp2_with (first
            | (go_at_call 61; refine HC.out.mono ?_; rintro e y6 ⟨rfl, hM, v6, hR⟩; have HM6 := Lib.hid (HM4.out.trans hM); have HP6 := Lib.hid (hM.at_ HP4.out HNe.out); have HX6 := Lib.hid (hM.at_ HX4.out HG3.out.2.2.1); have HO6 := Lib.hid (owns_moves HO4.out hM HG3.out.2.2.2.2); have HR6 := Lib.hid hR; clear hM hR; have HL6 := Lib.hid HX6.out.range; have Hm6 := Lib.hid HR6.out.env.len)
            | (refine wpList_load_mid rfl 50 (.tmp 4) rfl g3 0 rfl (ruleC p nilS).toList _ HL6.out Tryz.underlying50 rfl HS13.out ?_)
            | (go_at_call 48; refine (HMay.out Hm6.out.choose _ Hm6.out.choose_spec (ownL_body HO6.out)).mono ?_; rintro e y7 ⟨rfl, hB7⟩; have HM7 := Lib.hid (moves_go HM6.out hB7); have HP7 := Lib.hid (HP6.out.kept hB7); have HR7 := Lib.hid (HR6.out.below hB7); have HO7 := Lib.hid (owns_moves HO6.out (Moves.of_below (g := K.rb) hB7) HG3.out.2.2.2.2); have HL7 := Lib.hid (HX6.out.kept hB7).range; have HT7 := Lib.hid HP7.out.there; have c7 := HR7.out.blk.cell (j := 0) rfl; have f7 : ∀ j, y7.frozen? ⟨K.rb, j, none⟩ = false := fun j => HR7.out.blk.free j; clear hB7)
            | (refine wpList_load_mid rfl 50 (.tmp 4) rfl g3 0 rfl (ruleC p nilS).toList _ HL7.out Tryz.underlying50 rfl HS13.out ?_)
            | (refine wpList_store_mid rfl 50 (.tmp 2) (.tmp 21) rfl w.heap.size 0 (ruleC p nilS) rfl rfl HT7.out HS13.out (ruleC_all _ _ _ _) ?_))
          exact ⟨rfl, HX9.out _ (HM7.out.set 0 _) (HS.out.back HR7.out HM7.out)⟩
    | some L2 =>
      have HC := Lib.hid ((HTk.out _ ⟨#[58, 45]⟩ _ (tells_mk arrowM _ rfl) v1 L1 _ HR5.out).mono (fun e w' h => h.of_some t3))
      have HE3 : Hid (ruleS P L = (bodyS P L2).bind fun b L2 => (needS (isMk endM) L2).bind fun _ L3 => if ruleB (p, b) = true then .yes (p, b) L3 else .no L) := Lib.hid (by rw [HE1.out, optS, t3]; all_goals rfl)
      have HG2 : Hid (∀ x ∈ L2, GoodR K.N x) := Lib.hid (by
        obtain ⟨z, e, _⟩ := takesS_some t3
        intro x hx
        exact Hgood.out x (HSf.out.mem x (by rw [e]; exact List.mem_cons_of_mem _ hx)))
      clear t3 HE1
      go_upto_region 4 with (go_at_call 55; refine HC.out.mono ?_; rintro e y4 ⟨rfl, hM, v4, hR⟩; have HM4 := Lib.hid (HM5.out.trans hM); have HP4 := Lib.hid (hM.at_ HP5.out HNe.out); have HX4 := Lib.hid (hM.at_ HX5.out HG3.out.2.2.1); have HR4 := Lib.hid hR; have HS4 : Hid (g3 < y4.heap.size) := Lib.hid (by have := hM.size; have := HS5.out; omega); clear hM hR)
      cases tb : bodyS P L2 with
      | no l =>
        have HC := Lib.hid ((HBo.out v4 L2 _ HR4.out).mono (fun e w' h => (by rw [tb] at h; exact h.of_no : e = badE ∧ Moves K.rb y4 w' ∧ ∃ v', Rdr K P w' v' l)))
        go_wp2_with (go_at_call 118; refine HC.out.mono ?_; rintro e y ⟨rfl, hM, v', hR⟩)
        refine ⟨rfl, ?_⟩
        rw [HQ.out, HE3.out, tb]
        exact ⟨HM4.out.trans hM, rfl, v', hR⟩
      | yes ls L4 =>
        have HC := Lib.hid ((HBo.out v4 L2 _ HR4.out).mono (fun e w' h => (by rw [tb] at h; exact h.of_yes : isBody y4.heap.size ls e w' ∧ Moves K.rb y4 w' ∧ ∃ v', Rdr K P w' v' L4)))
        have HLv := Lib.hid (body_ok HG2.out tb)
        have HE4 : Hid (ruleS P L = (needS (isMk endM) L4).bind fun _ L3 => if ruleB (p, ls) = true then .yes (p, ls) L3 else .no L) := Lib.hid (by rw [HE3.out, tb]; all_goals rfl)
        clear tb HE3
        go_upto_region 5 with (go_at_call 118; refine HC.out.mono ?_; rintro e y8 ⟨⟨bv, rfl, hO⟩, hM, v8, hR⟩; obtain ⟨q, nn, cc, rfl⟩ := own_form hO; have HXy := Lib.hid (hM.at_ HX4.out HG3.out.2.2.1); have hm3 : Moves g3 y8 (y8.setCell ⟨g3, 12, none⟩ (.slice q nn cc)) := Moves.refl.set 12 _; have HM8 := Lib.hid ((HM4.out.trans hM).of_other (b := g3) HG3.out.2.1 hm3); have HX8 : Hid (BlockAt _ g3 (ruleC p (.slice q nn cc)) 50) := Lib.hid (HXy.out.set 12 (.slice q nn cc)); have HP8 := Lib.hid (hm3.at_ (hM.at_ HP4.out HNe.out) HG3.out.2.2.2.1); have HR8 := Lib.hid (hR.other (b := g3) HG3.out.1 HG3.out.2.2.1 HXy.out hm3); have HO8 := Lib.hid (owns_moves (hO.low (B := g3 + 1) HS4.out) hm3 (Nat.lt_succ_self _)); clear hM hR hO; have x12 := HXy.out.cell (j := 12) rfl; have xf := HXy.out.free)
        clear x12 xf hm3 HXy
        generalize y8.setCell ⟨g3, 12, none⟩ (.slice q nn cc) = W8 at *
        cases hn : needS (isMk endM) L4 with
        | no l =>
          have HC := Lib.hid ((HMk.out endM ⟨#[46]⟩ rfl v8 L4 _ HR8.out).mono (fun e w' h => (by rw [hn] at h; exact h.of_no : e = badE ∧ Moves K.rb W8 w' ∧ ∃ v', Rdr K P w' v' l)))
          go_wp2_with (go_at_call 61; refine HC.out.mono ?_; rintro e y ⟨rfl, hM, v', hR⟩)
          refine ⟨rfl, ?_⟩
          rw [HQ.out, HE4.out, hn]
          exact ⟨HM8.out.trans hM, rfl, v', hR⟩
        | yes u L3 =>
          have HC := Lib.hid ((HMk.out endM ⟨#[46]⟩ rfl v8 L4 _ HR8.out).mono (fun e w' h => (by rw [hn] at h; exact h.of_yes : e = unitE ∧ Moves K.rb W8 w' ∧ ∃ v', Rdr K P w' v' L3)))
          have HE9 : Hid (ruleS P L = if ruleB (p, ls) = true then .yes (p, ls) L3 else .no L) := Lib.hid (by rw [HE4.out, hn]; rfl)
          clear hn
          have HMay := Lib.hid (fun m W (hmW : HasMax W m) (hv : BodyS W (.slice q nn cc) ls) => ruMay_any p (.slice q nn cc) ls (pat_vast HPv.out) (fun l hl => lit_vast (HLv.out l hl)) m W hmW hv)
          cases hb : ruleB (p, ls) with
          | true =>
            rw [hb] at HMay HE9
            have HX9 : Hid (∀ W v', Moves K.rb w W → ownL W w.heap.size (.slice q nn cc) ls → Rdr K P W v' L3 → Q (.returned (.agg (ruleC p (.slice q nn cc)))) W) := Lib.hid (fun W v' h1 h2 h3 => by
              rw [HQ.out, HE9.out, if_pos rfl]
              exact ⟨h1, ⟨_, rfl, h2⟩, v', h3⟩)
            clear hb
            go_wp2_with (first
              | (go_at_call 61; refine HC.out.mono ?_; rintro e y6 ⟨rfl, hM, v6, hR⟩; have HM6 := Lib.hid (HM8.out.trans hM); have HP6 := Lib.hid (hM.at_ HP8.out HNe.out); have HX6 := Lib.hid (hM.at_ HX8.out HG3.out.2.2.1); have HO6 := Lib.hid (owns_moves HO8.out hM HG3.out.2.2.2.2); have HR6 := Lib.hid hR; clear hM hR; have HL6 := Lib.hid HX6.out.range; have Hm6 := Lib.hid HR6.out.env.len)
              | (refine wpList_load_mid rfl 50 (.tmp 4) rfl g3 0 rfl (ruleC p (.slice q nn cc)).toList _ HL6.out Tryz.underlying50 rfl HS13.out ?_)
              | (go_at_call 48; refine (HMay.out Hm6.out.choose _ Hm6.out.choose_spec (ownL_body HO6.out)).mono ?_; rintro e y7 ⟨rfl, hB7⟩; have HM7 := Lib.hid (moves_go HM6.out hB7); have HP7 := Lib.hid (HP6.out.kept hB7); have HR7 := Lib.hid (HR6.out.below hB7); have HO7 := Lib.hid (owns_moves HO6.out (Moves.of_below (g := K.rb) hB7) HG3.out.2.2.2.2); have HL7 := Lib.hid (HX6.out.kept hB7).range; have HT7 := Lib.hid HP7.out.there; have c7 := HR7.out.blk.cell (j := 0) rfl; have f7 : ∀ j, y7.frozen? ⟨K.rb, j, none⟩ = false := fun j => HR7.out.blk.free j; clear hB7)
              | (refine wpList_load_mid rfl 50 (.tmp 4) rfl g3 0 rfl (ruleC p (.slice q nn cc)).toList _ HL7.out Tryz.underlying50 rfl HS13.out ?_)
              | (refine wpList_store_mid rfl 50 (.tmp 2) (.tmp 21) rfl w.heap.size 0 (ruleC p (.slice q nn cc)) rfl rfl HT7.out HS13.out (ruleC_all _ _ _ _) ?_))
            have hM9 := moves_setCells (g := w.heap.size) (ruleC p (.slice q nn cc)).toList 0 y7
            exact bodyPost_ret (results_rule rfl _ _ w.heap.size p (.slice q nn cc) rfl (HP7.out.putAll _ rfl)) rfl (HX9.out _ _ (HM7.out.of_other (Nat.le_refl _) hM9) ((owns_moves HO7.out hM9 (Nat.lt_succ_of_le HG3.out.2.1)).low (Nat.le_succ_of_le HG3.out.2.1)) (HR7.out.other HGe.out HNe.out HP7.out hM9))
          | false =>
            rw [hb] at HMay HE9
            have HX9 : Hid (∀ W, Moves K.rb w W → Rdr K P W (.slice vq vn vc) L → Q badE W) := Lib.hid (fun W h1 h3 => by
              rw [HQ.out, HE9.out, if_neg (by decide)]
              exact ⟨h1, rfl, _, h3⟩)
            clear hb
            go_wp2_with (first
              | (go_at_call 61; refine HC.out.mono ?_; rintro e y6 ⟨rfl, hM, v6, hR⟩; have HM6 := Lib.hid (HM8.out.trans hM); have HP6 := Lib.hid (hM.at_ HP8.out HNe.out); have HX6 := Lib.hid (hM.at_ HX8.out HG3.out.2.2.1); have HO6 := Lib.hid (owns_moves HO8.out hM HG3.out.2.2.2.2); have HR6 := Lib.hid hR; clear hM hR; have HL6 := Lib.hid HX6.out.range; have Hm6 := Lib.hid HR6.out.env.len)
              | (refine wpList_load_mid rfl 50 (.tmp 4) rfl g3 0 rfl (ruleC p (.slice q nn cc)).toList _ HL6.out Tryz.underlying50 rfl HS13.out ?_)
              | (go_at_call 48; refine (HMay.out Hm6.out.choose _ Hm6.out.choose_spec (ownL_body HO6.out)).mono ?_; rintro e y7 ⟨rfl, hB7⟩; have HM7 := Lib.hid (moves_go HM6.out hB7); have HP7 := Lib.hid (HP6.out.kept hB7); have HR7 := Lib.hid (HR6.out.below hB7); have HO7 := Lib.hid (owns_moves HO6.out (Moves.of_below (g := K.rb) hB7) HG3.out.2.2.2.2); have HL7 := Lib.hid (HX6.out.kept hB7).range; have HT7 := Lib.hid HP7.out.there; have c7 := HR7.out.blk.cell (j := 0) rfl; have f7 : ∀ j, y7.frozen? ⟨K.rb, j, none⟩ = false := fun j => HR7.out.blk.free j; clear hB7)
              | (refine wpList_load_mid rfl 50 (.tmp 4) rfl g3 0 rfl (ruleC p (.slice q nn cc)).toList _ HL7.out Tryz.underlying50 rfl HS13.out ?_)
              | (refine wpList_store_mid rfl 50 (.tmp 2) (.tmp 21) rfl w.heap.size 0 (ruleC p (.slice q nn cc)) rfl rfl HT7.out HS13.out (ruleC_all _ _ _ _) ?_))
            exact ⟨rfl, HX9.out _ (HM7.out.set 0 _) (HS.out.back HR7.out HM7.out)⟩
end Go.Proofs.YtbcoklbfebmpoaaGreatDoor

/-
  THE READER OF rules: CONTRACT OF prefix.
-/

namespace Go.Proofs.YtbcoklbfebmpoaaGreatDoor
open Go.RowKit
open Utf Term Lex
set_option linter.unusedVariables false
set_option linter.unusedSimpArgs false

/-- Two blocks alone are others. -/
structure Moves2 (a b : Nat) (w w' : World) : Prop where
  os : w'.os = w.os
  tape : w'.tape = w.tape
  output : w'.output = w.output
  size : w.heap.size ≤ w'.heap.size
  block : ∀ k, k < w.heap.size → k ≠ a → k ≠ b → w'.heap[k]? = w.heap[k]?
theorem Moves2.of_left {a b : Nat} {w u : World} (h : Moves a w u) : Moves2 a b w u := ⟨h.os, h.tape, h.output, h.size, fun k hk hn _ => h.block k hk hn⟩
theorem Moves2.of_right {a b : Nat} {w u : World} (h : Moves b w u) : Moves2 a b w u := ⟨h.os, h.tape, h.output, h.size, fun k hk _ hn => h.block k hk hn⟩
theorem Moves2.trans {a b : Nat} {u v w : World} (h : Moves2 a b u v) (k : Moves2 a b v w) : Moves2 a b u w :=
  ⟨k.os.trans h.os, k.tape.trans h.tape, k.output.trans h.output, Nat.le_trans h.size k.size, fun i hi h1 h2 => (k.block i (Nat.lt_of_lt_of_le hi h.size) h1 h2).trans (h.block i hi h1 h2)⟩
theorem Moves2.at_ {a b : Nat} {w u : World} (h : Moves2 a b w u) {g : Nat} {cs : Array Value} {t : TypeId} (k : BlockAt w g cs t) (h1 : g ≠ a) (h2 : g ≠ b) : BlockAt u g cs t := by
  unfold BlockAt at *
  rw [h.block g (Array.getElem?_eq_some_iff.1 k).1 h1 h2]
  exact k
theorem Moves2.below {a b B : Nat} {w u : World} (h : Moves2 a b w u) (hB : B ≤ w.heap.size) (h1 : B ≤ a) (h2 : B ≤ b) : Below B w u :=
  ⟨h.os, h.tape, h.output, h.size, fun k hk => h.block k (by omega) (by omega) (by omega)⟩
theorem moves_map (W : World) (b : Nat) (ob : Obj) : Moves b W { W.drew with heap := W.drew.heap.setIfInBounds b ob } := by
  have h : Moves b W W.drew := (Moves.refl (g := b) (w := W)).drew 1
  refine ⟨h.os, h.tape, h.output, ?_, fun k hk hn => ?_⟩
  · show W.heap.size ≤ (W.heap.setIfInBounds b ob).size
    simp
  · show (W.heap.setIfInBounds b ob)[k]? = _
    rw [Array.getElem?_setIfInBounds_ne (fun e => hn e.symm)]
/-- What prefix does. -/
def PrefOut (K : RdK) (mb : Nat) (P : ByteArray → Option ByteArray) (T : Tk (ByteArray × ByteArray)) (w : World) (e : Ending) (w' : World) : Prop :=
  Moves2 K.rb mb w w' ∧ match T with
  | .no l => e = badE ∧ ∃ v', Rdr K P w' v' l
  | .yes q l => e = unitE ∧ ∃ v', Rdr K (updP P q.1 q.2) w' v' l
theorem Rdr.update {K : RdK} {P : ByteArray → Option ByteArray} {W U : World} {v : Value} {L : List Sym} (h : Rdr K P W v L) {mb : Nat} (hmv : K.mv = .map (some mb)) (hB : K.B ≤ mb) (hne : mb ≠ K.rb) (m : Moves mb W U) {a b : ByteArray} (hm : MapB U mb (updP P a b)) (hb : b.size ≤ 1000000000) : Rdr K (updP P a b) U v L := by
  have hBl : Below K.B W U := m.below (by have := h.lt; have := K.hrb; omega) hB
  refine ⟨m.at_ h.blk (fun e => hne e.symm), h.sl.under h.low hBl, h.low, h.good, h.few, ⟨mb, hmv, hm, hne⟩, ?_, h.env.under hBl K.hB⟩
  intro c d hd
  unfold updP at hd
  split at hd
  · cases hd; exact hb
  · exact h.hP c d hd
theorem prefS_no {L : List Sym} (h : ¬ ((firstS L).kind = 7 ∧ endsC (firstS L).text = true)) : prefS L = .no L := by
  cases L with
  | nil => rfl
  | cons x r => rw [prefS, if_neg (show ¬ (x.kind = 7 ∧ endsC x.text = true) from h)]
theorem irS_no {L : List Sym} (h : (firstS L).kind ≠ 1) : irS L = .no L := by
  cases L with
  | nil => rfl
  | cons x r => rw [irS, if_neg (show x.kind ≠ 1 from h)]
theorem first_cons {L : List Sym} {k : Nat} (h : (firstS L).kind = k + 1) : ∃ r, L = firstS L :: r := by
  cases L with
  | nil => simp [firstS] at h
  | cons x r => exact ⟨r, rfl⟩
theorem first_sizes {N : Nat} {x : Sym} (h : GoodS N x ∨ x = firstS []) (hN : N ≤ 1000000000) : (strOfNums x.text).size ≤ 1000000000 ∧ (strOfNums x.tt).size ≤ 1000000000 ∧ bs (strOfNums x.text) = x.text := by
  rw [strNums_size, strNums_size]
  rcases h with h | rfl
  · have := h.lt
    have := h.ltt
    exact ⟨by omega, by omega, bs_strOfNums h.bt⟩
  · exact ⟨by decide, by decide, rfl⟩

set_option maxRecDepth 100000 in
set_option maxHeartbeats 8000000 in
theorem ruPrefP_any (K : RdK) (P : ByteArray → Option ByteArray) (mb : Nat) (hmv : K.mv = .map (some mb)) (hmB : K.B ≤ mb) (v : Value) (L : List Sym) (w : World) (h : Rdr K P w v L) :
    Calls Tryz.prog 79 #[rdP K] w (PrefOut K mb P (prefS L) w) := by
  obtain ⟨Q, hQ⟩ : ∃ Q, Q = PrefOut K mb P (prefS L) w := ⟨_, rfl⟩
  rw [← hQ]
  have HQ := Lib.hid hQ
  have hne : mb ≠ K.rb := by
    obtain ⟨mb', e, _, hn⟩ := h.mp
    rw [hmv] at e
    cases e
    exact hn
  have HNe := Lib.hid hne
  have HMv := Lib.hid hmv
  have HmB := Lib.hid hmB
  have HFi := Lib.hid (fun v L W (hR : Rdr K P W v L) => ruFirst_any K P v L W hR)
  have HMk := Lib.hid (fun m ms hm v L W (hR : Rdr K P W v L) => ruMark_any K P m ms hm v L W hR)
  have HSk := Lib.hid (fun v L W (hp : 0 < L.length) (hR : Rdr K P W v L) => ruSkip_any K P 1 v L hp hp W hR)
  have HNd := Lib.hid (ruNeed_any (rdP K))
  have H0 := Lib.hid h
  have HSf : Hid (∀ L', Suf L' L → GoodS K.N (firstS L') ∨ firstS L' = firstS []) := Lib.hid (fun L' hs => by
    cases L' with
    | nil => exact .inr rfl
    | cons x r => exact .inl (h.good x (hs.mem x (by simp))).toGoodS)
  obtain ⟨x, hx⟩ : ∃ x, x = firstS L := ⟨_, rfl⟩
  obtain ⟨hx1, hx2, hx3⟩ := first_sizes (HSf.out L (Suf.refl L)) K.hN
  rw [← hx] at hx1 hx2 hx3
  have HCut := cutSuffix_colon (strOfNums x.text) hx1
  unfold cutE at HCut
  rw [hx3] at HCut
  have HXe := Lib.hid hx
  clear hQ h hx1 hx2 hx3 hne hmv hmB
  have hF := HFi.out v L w H0.out
  rw [← hx] at hF
  have HF := Lib.hid hF
  clear hF hx
  have HBad : Hid (¬ (x.kind = 7 ∧ endsC x.text = true) → ∀ W, Below w.heap.size w W → Q badE W) := Lib.hid (fun hn W hW => by
    rw [HXe.out] at hn
    rw [HQ.out, prefS_no hn]
    exact ⟨Moves2.of_left (Moves.of_below hW), rfl, v, H0.out.below hW⟩)
  by_cases hk : x.kind = 7
  · have d7 : (((x.kind : Nat) : Int) == 7) = true := by simp <;> omega
    cases hc : endsC x.text with
    | false =>
      rw [if_neg (by rw [hc]; decide)] at HCut
      have HB2 := Lib.hid (HBad.out (by rw [hc]; simp))
      have HCut := Lib.hid HCut
      clear hc hk
      go_enter Tryz.func79, Tryz.ntmps79
      go_wp2_with (first
        | (go_at_call 59; refine HF.out.mono ?_; rintro e y1 ⟨rfl, hY1⟩)
        | (go_at_call 117; refine (HCut.out _).mono ?_; rintro e y2 ⟨rfl, rfl⟩)
        | (go_at_call 85; refine (HNd.out false _).mono ?_; rintro e y3 ⟨rfl, rfl⟩))
      exact ⟨rfl, HB2.out _ (below_next hY1 (below_lex _ _))⟩
    | true =>
      rw [if_pos (by rw [hc])] at HCut
      have HCut := Lib.hid HCut
      obtain ⟨r, hr⟩ : ∃ r, L = x :: r := by
        rw [HXe.out] at hk ⊢
        exact first_cons hk
      subst hr
      have HE : Hid (prefS (x :: r) = (irS r).bind fun b L => .yes (S x.text.dropLast, b) L) := Lib.hid (by rw [prefS, if_pos ⟨hk, hc⟩])
      obtain ⟨y, hy⟩ : ∃ y, y = firstS r := ⟨_, rfl⟩
      have hys := first_sizes (HSf.out r (Suf.tail x r)) K.hN
      have HF2 := Lib.hid (fun v W (hR : Rdr K P W v r) => HFi.out v r W hR)
      rw [← hy] at hys HF2
      have HY2 := Lib.hid hys.2.1
      have HYe := Lib.hid hy
      have HSk1 := Lib.hid (fun v W (hR : Rdr K P W v (x :: r)) => HSk.out v (x :: r) W (by simp) hR)
      clear hk hc hys hy HBad
      go_enter Tryz.func79, Tryz.ntmps79
      go_upto_region 5 with (first
        | (go_at_call 59; refine HF.out.mono ?_; rintro e y1 ⟨rfl, hY1⟩; have HB1 := Lib.hid (below_next hY1 (below_lex y1 (.cells #[.int .i64 x.kind, .string (strOfNums x.text), .int .i64 x.tk, .string (strOfNums x.tt), .string (strOfNums x.te), .int .i64 x.place] 64))); clear hY1)
        | (go_at_call 117; refine (HCut.out _).mono ?_; rintro e y2 ⟨rfl, rfl⟩)
        | (go_at_call 85; refine (HNd.out true _).mono ?_; rintro e y3 ⟨rfl, rfl⟩)
        | (go_at_call 83; refine (HSk1.out _ _ (H0.out.below HB1.out)).mono ?_; rintro e y4 ⟨rfl, ⟨v4, hR4⟩, hM4⟩; have HM4 := Lib.hid ((Moves.of_below HB1.out).trans hM4); have HR4 := Lib.hid hR4; clear hM4 hR4)
        | (go_at_call 59; refine (HF2.out _ _ HR4.out).mono ?_; rintro e y5 ⟨rfl, hY5⟩; have HB5 := Lib.hid (below_next hY5 (below_lex y5 (.cells #[.int .i64 y.kind, .string (strOfNums y.text), .int .i64 y.tk, .string (strOfNums y.tt), .string (strOfNums y.te), .int .i64 y.place] 64))); have HZ5 := Lib.hid (block_new y5 #[.int .i64 y.kind, .string (strOfNums y.text), .int .i64 y.tk, .string (strOfNums y.tt), .string (strOfNums y.te), .int .i64 y.place] 64); have HG5 : Hid (K.rb < y5.heap.size) := Lib.hid (by have := HR4.out.lt; have := hY5.size; omega); clear hY5))
      have HM5 := Lib.hid (moves_go HM4.out HB5.out)
      have HR5 := Lib.hid (HR4.out.below HB5.out)
      clear HB5 HM4 HR4 HB1
      generalize y5.alloc (.cells #[.int .i64 y.kind, .string (strOfNums y.text), .int .i64 y.tk, .string (strOfNums y.tt), .string (strOfNums y.te), .int .i64 y.place] 64) = W5 at *
      generalize y5.heap.size = g5 at *
      have p0 := HZ5.out.cell (j := 0) rfl
      by_cases k1 : y.kind = 1
      · have d1 : (((y.kind : Nat) : Int) == 1) = true := by simp <;> omega
        obtain ⟨r2, hr2⟩ : ∃ r2, r = y :: r2 := by
          rw [HYe.out] at k1 ⊢
          exact first_cons k1
        subst hr2
        have HE2 : Hid (prefS (x :: y :: r2) = (needS (isMk endM) r2).bind fun _ L => .yes (S x.text.dropLast, S y.tt) L) := Lib.hid (by
          rw [HE.out, irS, if_pos k1]
          cases needS (isMk endM) r2 <;> rfl)
        have HSk2 := Lib.hid (fun v W (hR : Rdr K P W v (y :: r2)) => HSk.out v (y :: r2) W (by simp) hR)
        clear k1 HE
        go_upto_region 7 with (first
          | (go_at_call 85; refine (HNd.out true _).mono ?_; rintro e y3 ⟨rfl, rfl⟩)
          | (go_at_call 83; refine (HSk2.out _ _ HR5.out).mono ?_; rintro e y6 ⟨rfl, ⟨v6, hR6⟩, hM6⟩; have HM6 := Lib.hid (HM5.out.trans hM6); have HZ6 := Lib.hid (hM6.at_ HZ5.out (by have := HG5.out; omega)); have HR6 := Lib.hid hR6; clear hM6 hR6))
        cases tn : needS (isMk endM) r2 with
        | no l =>
          have HC := Lib.hid ((HMk.out endM ⟨#[46]⟩ rfl v6 r2 _ HR6.out).mono (fun e w' h => (by rw [tn] at h; exact h.of_no : e = badE ∧ Moves K.rb y6 w' ∧ ∃ v', Rdr K P w' v' l)))
          go_wp2_with (go_at_call 61; refine HC.out.mono ?_; rintro e y7 ⟨rfl, hM, v', hR⟩)
          refine ⟨rfl, ?_⟩
          rw [HQ.out, HE2.out, tn]
          exact ⟨Moves2.of_left (HM6.out.trans hM), rfl, v', hR⟩
        | yes u L3 =>
          have HC := Lib.hid ((HMk.out endM ⟨#[46]⟩ rfl v6 r2 _ HR6.out).mono (fun e w' h => (by rw [tn] at h; exact h.of_yes : e = unitE ∧ Moves K.rb y6 w' ∧ ∃ v', Rdr K P w' v' L3)))
          have HE3 : Hid (prefS (x :: y :: r2) = .yes (S x.text.dropLast, S y.tt) L3) := Lib.hid (by rw [HE2.out, tn]; rfl)
          clear tn HE2
          go_upto_region 8 with (go_at_call 61; refine HC.out.mono ?_; rintro e y7 ⟨rfl, hM, v7, hR⟩; have HM7 := Lib.hid (HM6.out.trans hM); have HZ7 := Lib.hid (hM.at_ HZ6.out (by have := HG5.out; omega)); have HR7 := Lib.hid hR; clear hM hR)
          obtain ⟨mb', e', hm', _⟩ := HR7.out.mp
          have hmm : mb' = mb := by
            have := HMv.out
            rw [e'] at this
            cases this
            rfl
          subst hmm
          have c1 : y7.cell? ⟨K.rb, 1, none⟩ = some (.map (some mb')) := by
            have := HR7.out.blk.cell (j := 1) rfl
            rw [e'] at this
            exact this
          have c3 : y7.cell? ⟨g5, 3, none⟩ = some (.string (strOfNums y.tt)) := HZ7.out.cell (j := 3) rfl
          obtain ⟨ob, hup, hto, hlb⟩ := hm'.update (S x.text.dropLast) (strOfNums y.tt)
          have hu0 := hup y7 rfl
          obtain ⟨U1, hU1⟩ : ∃ U1, U1 = { y7.drew with heap := y7.drew.heap.setIfInBounds mb' ob } := ⟨_, rfl⟩
          have hu1 := hup y7.drew rfl
          rw [← hU1] at hu1
          have HU1 : Hid (Moves mb' y7 U1 ∧ MapB U1 mb' (updP P (S x.text.dropLast) (S y.tt))) := Lib.hid (by
            rw [hU1]
            refine ⟨moves_map y7 mb' ob, hto _ ?_⟩
            show (y7.heap.setIfInBounds mb' ob)[mb']? = some ob
            simp [hlb])
          clear hup hto hU1 hm' e' hlb d7 d1 HC
          go_region_with fail
          all_goals
            go_end0
            rw [HQ.out, HE3.out]
            exact ⟨(Moves2.of_left HM7.out).trans (Moves2.of_right HU1.out.1), rfl, _, HR7.out.update HMv.out HmB.out HNe.out HU1.out.1 HU1.out.2 HY2.out⟩
      · have d1 : (((y.kind : Nat) : Int) == 1) = false := by simp <;> omega
        have hi : irS r = .no r := irS_no (by rw [← HYe.out]; exact k1)
        have HE2 : Hid (prefS (x :: r) = .no r) := Lib.hid (by rw [HE.out, hi]; rfl)
        clear hi k1
        go_wp2_with (first
          | (go_at_call 85; refine (HNd.out false _).mono ?_; rintro e y3 ⟨rfl, rfl⟩))
        refine ⟨rfl, ?_⟩
        rw [HQ.out, HE2.out]
        exact ⟨Moves2.of_left HM5.out, rfl, _, HR5.out⟩
  · have d7 : (((x.kind : Nat) : Int) == 7) = false := by simp <;> omega
    have HB2 := Lib.hid (HBad.out (fun h => hk h.1))
    obtain ⟨X, b, hX⟩ : ∃ X b, (if endsC x.text = true then Ending.returned (.tuple #[.string (S x.text.dropLast), .bool true]) else .returned (.tuple #[.string (strOfNums x.text), .bool false])) = Ending.returned (.tuple #[.string X, .bool b]) := by
      split <;> exact ⟨_, _, rfl⟩
    rw [hX] at HCut
    have HCut := Lib.hid HCut
    clear hX hk
    go_enter Tryz.func79, Tryz.ntmps79
    go_wp2_with (first
      | (go_at_call 59; refine HF.out.mono ?_; rintro e y1 ⟨rfl, hY1⟩)
      | (go_at_call 117; refine (HCut.out _).mono ?_; rintro e y2 ⟨rfl, rfl⟩)
      | (go_at_call 85; refine (HNd.out false _).mono ?_; rintro e y3 ⟨rfl, rfl⟩))
    exact ⟨rfl, HB2.out _ (below_next hY1 (below_lex _ _))⟩
end Go.Proofs.YtbcoklbfebmpoaaGreatDoor

/-
  THE READER OF rules: CONTRACT OF program.
-/

namespace Go.Proofs.YtbcoklbfebmpoaaGreatDoor
open Go.RowKit
open Utf Term Lex
set_option linter.unusedVariables false
set_option linter.unusedSimpArgs false

theorem owns_moves2 {w u : World} {a b base : Nat} {e : TypeId} {k n : Nat} {v : Value} {xs : List Value} (h : w.ownsRow base e k v n xs) (m : Moves2 a b w u) (ha : a < base) (hb : b < base) : u.ownsRow base e k v n xs := by
  refine ⟨h.1, ?_⟩
  rcases h.2 with hn | ⟨g, cap, cur, hv, hbg, hg, rest⟩
  · exact .inl hn
  · exact .inr ⟨g, cap, cur, hv, hbg, by rw [m.block g (Array.getElem?_eq_some_iff.1 hg).1 (by omega) (by omega)]; exact hg, rest⟩
theorem owns_grown_ne {w w' : World} {base base' : Nat} {e e' : TypeId} {k n k' m : Nat} {v u : Value} {xs ys : List Value} (h : w.ownsRow base e k v n xs) (ho : w.ownsRow base' e' k' u m ys) (hne : e ≠ e') (hg : w.grownBy w' u.ownBlock) : w'.ownsRow base e k v n xs := by
  refine ⟨h.1, ?_⟩
  rcases h.2 with hn | ⟨g, cap, cur, hv, hbg, hgc, rest⟩
  · exact .inl hn
  · refine .inr ⟨g, cap, cur, hv, hbg, ?_, rest⟩
    rw [hg.block g (Array.getElem?_eq_some_iff.1 hgc).1 ?_]
    · exact hgc
    · rcases ho.2 with ⟨rfl, _⟩ | ⟨g', cap', cur', rfl, _, hg', _⟩
      · simp [Value.ownBlock]
      · intro e
        simp only [Value.ownBlock, Option.some.injEq] at e
        rw [e, hg'] at hgc
        simp only [Option.some.injEq, Obj.cells.injEq] at hgc
        exact hne hgc.2.1.symm
abbrev RuV := RuleD × Value
def flatP (ps : List RuV) : List Value := ps.flatMap fun p => (ruleC p.1.1 p.2).toList
theorem flatP_append (a b : List RuV) : flatP (a ++ b) = flatP a ++ flatP b := by simp [flatP]
theorem flatP_one (p : RuV) : flatP [p] = (ruleC p.1.1 p.2).toList := by simp [flatP]
theorem flatP_cons (p : RuV) (ps : List RuV) : flatP (p :: ps) = (ruleC p.1.1 p.2).toList ++ flatP ps := by simp [flatP]
theorem flatP_get : ∀ (L : List RuV) (i c : Nat) (x : RuV), L[i]? = some x → c < 13 → (flatP L)[i * 13 + c]? = (ruleC x.1.1 x.2).toList[c]?
  | [], i, c, x, h, _ => by simp at h
  | y :: L, 0, c, x, h, hc => by
    simp only [List.getElem?_cons_zero, Option.some.injEq] at h
    subst h
    rw [flatP_cons, Nat.zero_mul, Nat.zero_add, List.getElem?_append_left (by show c < 13; exact hc)]
  | y :: L, i + 1, c, x, h, hc => by
    have hl : (ruleC y.1.1 y.2).toList.length = 13 := rfl
    rw [flatP_cons, List.getElem?_append_right (by rw [hl]; omega), hl, show (i + 1) * 13 + c - 13 = i * 13 + c by omega]
    exact flatP_get L i c x h hc
/-- An own slice of rules, each with an own slice of parts. -/
def OwnP (w : World) (B : Nat) (v : Value) (ps : List RuV) : Prop := w.ownsRow B 50 13 v ps.length (flatP ps) ∧ ∀ p ∈ ps, ownL w B p.2 p.1.2
theorem OwnP.moves {w u : World} {rb B : Nat} {v : Value} {ps : List RuV} (h : OwnP w B v ps) (m : Moves rb w u) (hlt : rb < B) : OwnP u B v ps :=
  ⟨owns_moves h.1 m hlt, fun p hp => owns_moves (h.2 p hp) m hlt⟩
theorem OwnP.moves2 {w u : World} {a b B : Nat} {v : Value} {ps : List RuV} (h : OwnP w B v ps) (m : Moves2 a b w u) (ha : a < B) (hb : b < B) : OwnP u B v ps :=
  ⟨owns_moves2 h.1 m ha hb, fun p hp => owns_moves2 (h.2 p hp) m ha hb⟩
theorem own_range {w : World} {B : Nat} {e : TypeId} {k g cap n : Nat} {xs : List Value} (h : w.ownsRow B e k (.slice (some ⟨g, 0, none⟩) n cap) n xs) : w.rangeAt g 0 xs := by
  intro j u hu
  rw [Nat.zero_add]
  rcases h.2 with ⟨h', _⟩ | ⟨g', cap', cur, h', hb, hg, h1, h2, h3, h4⟩
  · cases h'
  · cases h'
    have hcur : cur[j]? = some u := by
      rw [← h4, List.getElem?_take] at hu
      split at hu
      · rw [← Array.getElem?_toList]; exact hu
      · cases hu
    unfold World.cell?
    rw [hg]
    simpa using hcur
theorem OwnP.slice {w : World} {B : Nat} {v : Value} {ps : List RuV} (h : OwnP w B v ps) : SliceRu w v (ps.map (·.1)) := by
  have h1 := h.1
  rcases h1.2 with ⟨rfl, hn⟩ | ⟨g, cap, cur, rfl, hb, hg, k1, k2, k3, k4⟩
  · refine .inl ⟨rfl, ?_⟩
    rw [List.eq_nil_of_length_eq_zero hn]; rfl
  · refine .inr ⟨g, 0, cap, by rw [List.length_map], by rw [List.length_map]; exact k1, k2, fun i r hr => ?_⟩
    rw [List.getElem?_map] at hr
    cases hp : ps[i]? with
    | none => rw [hp] at hr; cases hr
    | some p =>
      rw [hp] at hr
      simp only [Option.map_some, Option.some.injEq] at hr
      subst hr
      have hra := own_range h1
      have key : ∀ c, c < 13 → ∀ u, (ruleC p.1.1 p.2).toList[c]? = some u → w.cell? ⟨g, 0 + i * 13 + c, none⟩ = some u := fun c hc u hu => by
        rw [Nat.add_assoc]
        exact hra (i * 13 + c) u (by rw [flatP_get ps i c p hp hc]; exact hu)
      exact ⟨p.2, ⟨key 0 (by omega) _ rfl, key 1 (by omega) _ rfl, key 2 (by omega) _ rfl, key 3 (by omega) _ rfl, key 4 (by omega) _ rfl, key 5 (by omega) _ rfl, key 6 (by omega) _ rfl, key 7 (by omega) _ rfl, key 8 (by omega) _ rfl, key 9 (by omega) _ rfl, key 10 (by omega) _ rfl, key 11 (by omega) _ rfl, key 12 (by omega) _ rfl⟩, ownL_body (h.2 p (List.mem_of_getElem? hp))⟩
theorem info_rule : ∃ i z, Tryz.prog.info? 50 = some i ∧ i.zero = some z ∧ i.size = 13 ∧ i.bytes = 192 ∧ z.cells.size = 13 := by
  have h : (Tryz.prog.info? 50).map (fun i => (i.zero, i.size, i.bytes)) = some (some (.agg zRuC), 13, 192) := by kernel_rfl
  cases hq : Tryz.prog.info? 50 with
  | none => rw [hq] at h; cases h
  | some i =>
    rw [hq] at h
    simp at h
    exact ⟨i, _, rfl, h.1, h.2.1, h.2.2, rfl⟩
theorem slA_len {w : World} {v : Value} {L : List Sym} (h : SlA w v L) : ∃ q c, v = .slice q L.length c := by
  rcases h with ⟨rfl, rfl⟩ | ⟨g, o, cap, rfl, _⟩
  · exact ⟨_, _, rfl⟩
  · exact ⟨_, _, rfl⟩
theorem rule_ones (p : PatD) (q : Option Addr) (n c : Nat) : ∀ u ∈ (ruleC p (.slice q n c)).toList, u.oneCell' = true := by
  intro u hu
  have := ruleC_all p q n c
  rw [Array.all_eq_true_iff_forall_mem] at this
  exact this u (by simpa using hu)
theorem moves2_grown {w W W' : World} {a b base n k : Nat} {v : Value} {e : TypeId} {xs : List Value} (h : Moves2 a b w W) (ho : W.ownsRow base e k v n xs) (hw : w.heap.size ≤ base) (hg : W.grownBy W' v.ownBlock) : Moves2 a b w W' := by
  rcases ho.2 with ⟨rfl, _⟩ | ⟨g, cap, cur, rfl, hbg, hgc, _⟩
  · exact h.trans (Moves2.of_left (Moves.of_below (grown_below hg)))
  · have m := grown_moves hg
    exact ⟨m.os.trans h.os, m.tape.trans h.tape, m.output.trans h.output, Nat.le_trans h.size m.size, fun i hi h1 h2 => (m.block i (Nat.lt_of_lt_of_le hi h.size) (show i ≠ g by omega)).trans (h.block i hi h1 h2)⟩
/-- What program does. -/
def ProgOut (K : RdK) (mb : Nat) (T : ProgR) (w : World) (e : Ending) (w' : World) : Prop :=
  Moves2 K.rb mb w w' ∧ match T with
  | .no l => e = badE ∧ ∃ v' P', Rdr K P' w' v' l
  | .yes rs => ∃ v ps, e = .returned v ∧ OwnP w' w.heap.size v ps ∧ ps.map (·.1) = rs
/-- What has been read of a program. -/
def ProgRel (K : RdK) (mb : Nat) (P : ByteArray → Option ByteArray) (L : List Sym) (w : World) (g : Nat) (s : Value) (wr : World) : Prop :=
  ∃ ps P' vr Lr, OwnP wr w.heap.size s ps ∧ Moves2 K.rb mb w wr ∧ Rdr K P' wr vr Lr ∧ progS P L = (progS P' Lr).put (ps.map (·.1)) ∧ ps.length + Lr.length ≤ L.length ∧ Lr.length ≤ g

set_option maxRecDepth 100000 in
set_option maxHeartbeats 8000000 in
theorem ruProgP_any (K : RdK) (P : ByteArray → Option ByteArray) (mb : Nat) (hmv : K.mv = .map (some mb)) (hmB : K.B ≤ mb) (v : Value) (L : List Sym) (w : World) (h : Rdr K P w v L) :
    Calls Tryz.prog 46 #[rdP K] w (ProgOut K mb (progS P L) w) := by
  obtain ⟨Q, hQ⟩ : ∃ Q, Q = ProgOut K mb (progS P L) w := ⟨_, rfl⟩
  rw [← hQ]
  have HQ := Lib.hid hQ
  have hmlt : mb < w.heap.size := by
    obtain ⟨mb', e, hm, hn⟩ := h.mp
    rw [hmv] at e
    cases e
    exact hm.lt
  have HTk := Lib.hid (fun F ms p hT P v L W (hR : Rdr K P W v L) => ruTakes_any K P F ms p hT v L W hR)
  have HPf := Lib.hid (fun P v L W (hR : Rdr K P W v L) => ruPrefP_any K P mb hmv hmB v L W hR)
  have HRu := Lib.hid (fun P v L W (hR : Rdr K P W v L) => ruRuleP_any K P v L W hR)
  have Hlt := Lib.hid h.lt
  have HMlt := Lib.hid hmlt
  have hfew := h.few
  have H0 := Lib.hid h
  obtain ⟨i0, z0, hi, hz0, hz1, hz2, hz3⟩ := info_rule
  have HI := Lib.hid hi
  have HZ0 := Lib.hid hz0
  have HZ1 := Lib.hid hz1
  have HZ2 := Lib.hid hz2
  have HZ3 := Lib.hid hz3
  have HSz : Hid ((Tryz.prog.info? 50).map (·.size) = some 13) := Lib.hid (by kernel_rfl)
  have HZi : Hid (((Tryz.prog.info? 50).bind (·.zero)).isSome = true) := Lib.hid (by kernel_rfl)
  clear hQ h hi hz0 hz1 hz2 hz3 hmv hmB hmlt
  go_enter Tryz.func46, Tryz.ntmps46
  go_wp2_with fail
  go_loopg [3] L.length (fun g s wr => ProgRel K mb P L w g s wr)
  case atStart =>
    exact ⟨[], P, v, L, ⟨World.ownsRow_nil _ _ _ _, by simp⟩, Moves2.of_left Moves.refl, H0.out, by rw [List.map_nil, ProgR.put_nil], by simp, Nat.le_refl _⟩
  case round =>
    obtain ⟨ps, P', vr, Lr, hown, hM, hR, hB, hlen, hmeas⟩ := hrel
    obtain ⟨q, c, rfl⟩ := slA_len hR.sl
    have c0 := hR.blk.cell (j := 0) rfl
    have HO := Lib.hid hown
    have HM := Lib.hid hM
    have HR := Lib.hid hR
    have HB := Lib.hid hB
    clear hown hM hR hB
    by_cases hnil : Lr = []
    · subst hnil
      have HG : Hid (progS P L = .yes (ps.map (·.1))) := Lib.hid (by rw [HB.out, progS_nil]; simp [ProgR.put])
      go_wp2_with fail
      rw [HQ.out, HG.out]
      exact ⟨HM.out, _, ps, rfl, HO.out, rfl⟩
    · obtain ⟨n, hn⟩ : ∃ n, n = Lr.length := ⟨_, rfl⟩
      have hpos : 0 < n := by
        rw [hn]
        exact List.length_pos_iff.2 hnil
      have HN := Lib.hid hn
      rw [← hn] at c0 hlen hmeas
      have d0 : decide ((0 : Int) < (n : Int)) = true := by simp <;> omega
      cases t : takesS (isWd prefixW) Lr with
      | some L1 =>
        have HC := Lib.hid ((HTk.out _ ⟨#[112, 114, 101, 102, 105, 120]⟩ _ (tells_wd prefixW _ rfl) P' _ Lr _ HR.out).mono (fun e w' h => h.of_some t))
        have hl1 : n = L1.length + 1 := by
          obtain ⟨y, e, _⟩ := takesS_some t
          rw [HN.out, e]
          rfl
        have HG : Hid (progS P L = ProgR.put (ps.map (·.1)) (match prefS L1 with | .no l => .no l | .yes (w, b) l => progS (updP P' w b) l)) := Lib.hid (by rw [HB.out, progS_cons P' Lr hnil, t]; all_goals rfl)
        clear t hnil hn
        cases tp : prefS L1 with
        | no l =>
          have HC2 := Lib.hid (fun v2 W (hR : Rdr K P' W v2 L1) => (HPf.out P' v2 L1 W hR).mono (fun e w' h => (by unfold PrefOut at h; rw [tp] at h; exact h : Moves2 K.rb mb W w' ∧ e = badE ∧ ∃ v', Rdr K P' w' v' l)))
          go_wp2_with (first
            | (go_at_call 55; refine HC.out.mono ?_; rintro e y2 ⟨rfl, hM2, v2, hR2⟩; have HM2 := Lib.hid (HM.out.trans (Moves2.of_left hM2)); have HR2 := Lib.hid hR2; clear hM2 hR2)
            | (go_at_call 79; refine (HC2.out _ _ HR2.out).mono ?_; rintro e y3 ⟨hM3, rfl, v3, hR3⟩))
          refine ⟨rfl, ?_⟩
          rw [HQ.out, HG.out, tp]
          exact ⟨HM2.out.trans hM3, rfl, v3, P', hR3⟩
        | yes q2 l =>
          have HC2 := Lib.hid (fun v2 W (hR : Rdr K P' W v2 L1) => (HPf.out P' v2 L1 W hR).mono (fun e w' h => (by unfold PrefOut at h; rw [tp] at h; exact h : Moves2 K.rb mb W w' ∧ e = unitE ∧ ∃ v', Rdr K (updP P' q2.1 q2.2) w' v' l)))
          have hs2 := prefS_suf L1
          rw [tp] at hs2
          have hl2 : l.length ≤ L1.length := hs2.len
          have HG2 : Hid (progS P L = (progS (updP P' q2.1 q2.2) l).put (ps.map (·.1))) := Lib.hid (by rw [HG.out, tp])
          clear tp hs2
          go_wp2_with (first
            | (go_at_call 55; refine HC.out.mono ?_; rintro e y2 ⟨rfl, hM2, v2, hR2⟩; have HM2 := Lib.hid (HM.out.trans (Moves2.of_left hM2)); have HR2 := Lib.hid hR2; have HO2 := Lib.hid (HO.out.moves hM2 Hlt.out); clear hM2 hR2)
            | (go_at_call 79; refine (HC2.out _ _ HR2.out).mono ?_; rintro e y3 ⟨hM3, rfl, v3, hR3⟩))
          go_roundg l.length
          case rel => exact ⟨ps, _, v3, l, HO2.out.moves2 hM3 Hlt.out HMlt.out, HM2.out.trans hM3, hR3, HG2.out, by omega, Nat.le_refl _⟩
          case measure => omega
      | none =>
        have HC := Lib.hid ((HTk.out _ ⟨#[112, 114, 101, 102, 105, 120]⟩ _ (tells_wd prefixW _ rfl) P' _ Lr _ HR.out).mono (fun e w' h => h.of_none t))
        have HG : Hid (progS P L = ProgR.put (ps.map (·.1)) (match ruleS P' Lr with | .no l => .no l | .yes r l => (progS P' l).put [r])) := Lib.hid (by rw [HB.out, progS_cons P' Lr hnil, t]; all_goals rfl)
        clear t hnil hn
        cases tp : ruleS P' Lr with
        | no l =>
          have HC2 := Lib.hid (fun v2 W (hR : Rdr K P' W v2 Lr) => (HRu.out P' v2 Lr W hR).mono (fun e w' h => (by rw [tp] at h; exact h.of_no : e = badE ∧ Moves K.rb W w' ∧ ∃ v', Rdr K P' w' v' l)))
          go_wp2_with (first
            | (go_at_call 55; refine HC.out.mono ?_; rintro e y2 ⟨rfl, hM2, v2, hR2⟩; have HM2 := Lib.hid (HM.out.trans (Moves2.of_left hM2)); have HR2 := Lib.hid hR2; clear hM2 hR2)
            | (go_at_call 80; refine (HC2.out _ _ HR2.out).mono ?_; rintro e y3 ⟨rfl, hM3, v3, hR3⟩))
          refine ⟨rfl, ?_⟩
          rw [HQ.out, HG.out, tp]
          exact ⟨HM2.out.trans (Moves2.of_left hM3), rfl, v3, P', hR3⟩
        | yes r l =>
          have HC2 := Lib.hid (fun v2 W (hR : Rdr K P' W v2 Lr) => (HRu.out P' v2 Lr W hR).mono (fun e w' h => (by rw [tp] at h; exact h.of_yes : isRule W.heap.size r e w' ∧ Moves K.rb W w' ∧ ∃ v', Rdr K P' w' v' l)))
          have hl2 : l.length < n := by rw [HN.out]; exact (ruleS_yes tp).1
          have HG2 : Hid (progS P L = (progS P' l).put (ps.map (·.1) ++ [r])) := Lib.hid (by rw [HG.out, tp, ProgR.put_put])
          clear tp
          go_wp2_with (first
            | (go_at_call 55; refine HC.out.mono ?_; rintro e y2 ⟨rfl, hM2, v2, hR2⟩; have HM2 := Lib.hid (HM.out.trans (Moves2.of_left hM2)); have HR2 := Lib.hid hR2; have HO2 := Lib.hid (HO.out.moves hM2 Hlt.out); clear hM2 hR2)
            | (go_at_call 80; refine (HC2.out _ _ HR2.out).mono ?_; rintro e y3 ⟨⟨bv, rfl, hO3⟩, hM3, v3, hR3⟩; obtain ⟨bq, bn, bc, rfl⟩ := own_form hO3; have HM3 := Lib.hid (HM2.out.trans (Moves2.of_left hM3)); have HR3 := Lib.hid hR3; have HO3 := Lib.hid (HO2.out.moves hM3 Hlt.out); have HOb := Lib.hid (hO3.low (B := w.heap.size) HM2.out.size); have hsz3 := HM3.out.size; clear hM3 hR3 hO3)
            | (refine wpList_buildOne rfl 67 50 (.tmp 16) rfl (ruleC r.1 (.slice bq bn bc)).toList rfl Tryz.underlying67 HSz.out HZi.out (by decide) (by decide) ?_)
            | (at_builtin; refine wpList_append_own _ rfl _ _ 67 rfl w.heap.size 50 i0 z0 13 192 Tryz.underlying67 HI.out HZ0.out HZ1.out HZ2.out HZ3.out (by decide) _ _ _ rfl (HO3.out.1.alloc _) ⟨y3.heap.size, 0, none⟩ 1 1 (ruleC r.1 (.slice bq bn bc)).toList rfl rfl (fun j u h => by rw [Addr.add_mid]; exact range_new _ _ _ j u h) (rule_ones r.1 bq bn bc) (by unfold maxLen; omega) (by omega) (by simp <;> omega) ?_; intro v' w4 hown' hgrow _))
          have hb := below_lex y3 (.cells (ruleC r.1 (.slice bq bn bc)).toList.toArray 50)
          have hO4 := HO3.out.1.alloc (.cells (ruleC r.1 (.slice bq bn bc)).toList.toArray 50)
          have HM4 := moves2_grown (HM3.out.trans (Moves2.of_left (Moves.of_below hb))) hO4 (Nat.le_refl _) hgrow
          have HR4 := (HR3.out.below hb).grown hO4 Hlt.out hgrow
          go_roundg l.length
          case rel =>
            refine ⟨ps ++ [(r, .slice bq bn bc)], P', v3, l, ⟨?_, fun p hp => ?_⟩, HM4, HR4, by rw [HG2.out, List.map_append]; rfl, by simp <;> omega, Nat.le_refl _⟩
            · show World.ownsRow _ _ _ _ _ _ (flatP (ps ++ [(r, .slice bq bn bc)]))
              rw [flatP_append, flatP_one, List.length_append]
              exact hown'
            · have key : ∀ b ls, ownL y3 w.heap.size b ls → ownL w4 w.heap.size b ls := fun b ls ho => owns_grown_ne (ho.alloc _) hO4 (by decide) hgrow
              rcases List.mem_append.1 hp with hp | hp
              · exact key _ _ (HO3.out.2 p hp)
              · rw [List.mem_singleton] at hp
                subst hp
                exact key _ _ HOb.out
          case measure => omega
end Go.Proofs.YtbcoklbfebmpoaaGreatDoor

/-
  CONTRACT OF completes AND OF ITS DEFERRED FUNCTION.
-/

namespace Go.Proofs.YtbcoklbfebmpoaaGreatDoor
open Go.RowKit
open Utf Term Lex
set_option linter.unusedVariables false
set_option linter.unusedSimpArgs false

set_option maxRecDepth 100000 in
set_option maxHeartbeats 2000000 in
theorem catchR_panicking (g : Nat) (u : TypeId) (pv : Value) (older : List PanicEntry) (w : World) (h : BlockAt w g #[.bool false] 4) :
    CallsD Tryz.prog 54 #[.pointer (some ⟨g, 0, none⟩)] (.panicking ({ v := .iface u pv, recovered := false } :: older)) w fun e u' w' =>
      e = .returned (.tuple #[]) ∧ u' = .panicking ({ v := .iface u pv, recovered := true } :: older) ∧ BlockAt w' g #[.bool false] 4 ∧ Moves g w w' := by
  have o0 := h.cell (j := 0) rfl
  have of : w.frozen? ⟨g, 0, none⟩ = false := h.free 0
  refine callsD_of_wpS Tryz.func54 rfl fun c₀ cs hu => ?_
  apply wpS_seq
  apply wpS_region
  simp [wpOpsS, go_sem, recoverD, hu, Tryz.ntmps54, Exit.thenS]
  refine wpS_cond (t := true) (by simp [Act.eval, Array.replicate]) ?_
  simp only [if_true]
  apply wpS_region
  simp [wpOpsS, go_sem, o0, of, bodyPostS, results, Tryz.results54]
  exact ⟨h.set 0 _, Moves.refl.set 0 _⟩
theorem catchR_idle (p : Addr) (w : World) :
    CallsD Tryz.prog 54 #[.pointer (some p)] .returning w fun e u' w' => e = .returned (.tuple #[]) ∧ u' = .returning ∧ w' = w := by
  refine callsD_of_wpS Tryz.func54 rfl fun c₀ cs hu => ?_
  apply wpS_seq
  apply wpS_region
  simp [wpOpsS, go_sem, recoverD, hu, Tryz.ntmps54, Exit.thenS]
  refine wpS_cond (t := false) (by simp [Act.eval, Array.replicate]) ?_
  simp only [Bool.false_eq_true, if_false]
  refine wpS_of_wp (wp_skip ?_)
  cases c₀
  simp_all [bodyPostS, results, Tryz.results54]
theorem results_bool {fn : Func} {p : Tmp} (h : fn.results = #[.cell p 4]) (tmps : Array Value) (w : World) (g : Nat) (b : Bool)
    (hp : tmps.getD p undef = .pointer (some ⟨g, 0, none⟩)) (hx : BlockAt w g #[.bool b] 4) :
    (results fn tmps).run Tryz.prog w = .ok (.bool b) w := by
  have h1 := load_bool w g b hx
  have hp' : tmps[p]?.getD undef = .pointer (some ⟨g, 0, none⟩) := by simpa using hp
  simp only [results, h]
  simp [Sem.run_bind, Result.andThen, hp', asAddr, h1]

set_option maxRecDepth 100000 in
set_option maxHeartbeats 2000000 in
theorem completes_any (F : Nat) (p q : Value) (hent : ∀ args w, (callFunc F args).run Tryz.prog w = .ok (.enter F args) w) (w : World) (b : Bool) (R : World → Prop)
    (hc : ∀ W, Below w.heap.size w W → BlockAt W w.heap.size #[.bool false] 4 → Calls Tryz.prog F #[p, q] W fun e w' => e = (if b = true then unitE else badE) ∧ BlockAt w' w.heap.size #[.bool false] 4 ∧ R w') :
    Calls Tryz.prog 21 #[.func (.func F) #[] #[p, q]] w fun e w' => e = .returned (.bool b) ∧ ∃ w1, R w1 ∧ Moves w.heap.size w1 w' := by
  have HC := hc _ (below_lex w (.cells #[.bool false] 4)) (block_new w _ _)
  obtain ⟨Q, hQ⟩ : ∃ Q : Ending → World → Prop, Q = fun e w' => e = .returned (.bool b) ∧ ∃ w1, R w1 ∧ Moves w.heap.size w1 w' := ⟨_, rfl⟩
  rw [← hQ]
  have HX : Hid (∀ w1 w', R w1 → Moves w.heap.size w1 w' → Q (.returned (.bool b)) w') := Lib.hid (fun w1 w' h1 h2 => by rw [hQ]; exact ⟨rfl, w1, h1, h2⟩)
  clear hc hQ
  cases b with
  | true =>
    have HC := Lib.hid HC
    go_enter_defers Tryz.func21, Tryz.ntmps21
    go_wp2_with (go_at_fn F; refine HC.out.mono ?_; rintro e w1 ⟨rfl, hZ, hR⟩; have HZ := Lib.hid hZ; have HR := Lib.hid hR; have o0 := hZ.cell (j := 0) rfl; have of : w1.frozen? ⟨w.heap.size, 0, none⟩ = false := hZ.free 0; clear hZ hR)
    refine leaves_cons (f := 54) (args := #[.pointer (some ⟨w.heap.size, 0, none⟩)]) (by simp) (by simp [go_sem]) ?_
    refine (catchR_idle _ _).mono ?_
    rintro e u' w'' ⟨rfl, rfl, rfl⟩
    exact ⟨_, results_bool rfl _ _ w.heap.size true rfl (HZ.out.set 0 _), HX.out _ _ HR.out (Moves.refl.set 0 _)⟩
  | false =>
    have HC := Lib.hid HC
    go_enter_defers Tryz.func21, Tryz.ntmps21
    go_wp2_with (go_at_fn F; refine HC.out.mono ?_; rintro e w1 ⟨rfl, hZ, hR⟩; have HZ := Lib.hid hZ; have HR := Lib.hid hR; clear hZ hR)
    refine leaves_cons (f := 54) (args := #[.pointer (some ⟨w.heap.size, 0, none⟩)]) (by simp) (by simp [go_sem]) ?_
    refine (catchR_panicking _ _ _ _ _ HZ.out).mono ?_
    rintro e u' w'' ⟨rfl, rfl, hZ4, hM4⟩
    exact ⟨_, results_bool rfl _ _ w.heap.size false rfl hZ4, HX.out _ _ HR.out hM4⟩
end Go.Proofs.YtbcoklbfebmpoaaGreatDoor

/-
  THE CLOSURES OF Parse AND Part.
-/

namespace Go.Proofs.YtbcoklbfebmpoaaGreatDoor
open Go.RowKit
open Utf Term Lex
set_option linter.unusedVariables false
set_option linter.unusedSimpArgs false

theorem OwnP.low {w : World} {B B' : Nat} {v : Value} {ps : List RuV} (h : OwnP w B' v ps) (hB : B ≤ B') : OwnP w B v ps := ⟨h.1.low hB, fun p hp => (h.2 p hp).low hB⟩
theorem OwnP.form {w : World} {B : Nat} {v : Value} {ps : List RuV} (h : OwnP w B v ps) : ∃ q n c, v = .slice q n c := by
  rcases h.1.2 with ⟨rfl, _⟩ | ⟨g, cap, cur, rfl, _⟩
  · exact ⟨_, _, _, rfl⟩
  · exact ⟨_, _, _, rfl⟩
def ProgR.ok : ProgR → Bool
  | .no _ => false
  | .yes _ => true
/-- What the closure of Parse leaves. -/
def Left1 (K : RdK) (mb g8 : Nat) (T : ProgR) (w w' : World) : Prop :=
  ∃ w1, Moves2 K.rb mb w w1 ∧ match T with
  | .no l => w' = w1 ∧ ∃ v' P', Rdr K P' w1 v' l
  | .yes rs => ∃ v ps, OwnP w1 w.heap.size v ps ∧ ps.map (·.1) = rs ∧ w' = w1.setCell ⟨g8, 0, none⟩ v
set_option maxRecDepth 100000 in
set_option maxHeartbeats 2000000 in
theorem ruParse1_any (K : RdK) (P : ByteArray → Option ByteArray) (mb : Nat) (hmv : K.mv = .map (some mb)) (hmB : K.B ≤ mb) (v : Value) (L : List Sym) (g8 g9 : Nat) (w : World) (h : Rdr K P w v L)
    (h9 : BlockAt w g9 #[rdP K] 71) (h8 : BlockAt w g8 #[.slice none 0 0] 67) (n1 : g8 ≠ K.rb) (n2 : g8 ≠ mb) :
    Calls Tryz.prog 45 #[.pointer (some ⟨g9, 0, none⟩), .pointer (some ⟨g8, 0, none⟩)] w fun e w' => e = (if (progS P L).ok = true then unitE else badE) ∧ Left1 K mb g8 (progS P L) w w' := by
  have HC := ruProgP_any K P mb hmv hmB v L w h
  have c9 := h9.cell (j := 0) rfl
  obtain ⟨Q, hQ⟩ : ∃ Q : Ending → World → Prop, Q = fun e w' => e = (if (progS P L).ok = true then unitE else badE) ∧ Left1 K mb g8 (progS P L) w w' := ⟨_, rfl⟩
  rw [← hQ]
  have H8 := Lib.hid h8
  have HN1 := Lib.hid n1
  have HN2 := Lib.hid n2
  clear h h9 h8 hmv hmB n1 n2
  cases hp : progS P L with
  | no l =>
    rw [hp] at HC hQ
    have HX : Hid (∀ W, Moves2 K.rb mb w W → (∃ v' P', Rdr K P' W v' l) → Q badE W) := Lib.hid (fun W h1 h2 => by
      rw [hQ]
      exact ⟨rfl, W, h1, rfl, h2⟩)
    have HC := Lib.hid HC
    clear hp hQ
    go_enter Tryz.func45, Tryz.ntmps45
    go_wp2_with (go_at_call 46; refine HC.out.mono ?_; rintro e y ⟨hM, rfl, hR⟩)
    exact ⟨rfl, HX.out _ hM hR⟩
  | yes rs =>
    rw [hp] at HC hQ
    have HX : Hid (∀ W v ps, Moves2 K.rb mb w W → OwnP W w.heap.size v ps → ps.map (·.1) = rs → Q unitE (W.setCell ⟨g8, 0, none⟩ v)) := Lib.hid (fun W v ps h1 h2 h3 => by
      rw [hQ]
      exact ⟨rfl, W, h1, v, ps, h2, h3, rfl⟩)
    have HC := Lib.hid HC
    clear hp hQ
    go_enter Tryz.func45, Tryz.ntmps45
    go_wp2_with (go_at_call 46; refine HC.out.mono ?_; rintro e y ⟨hM, v', ps, rfl, hO, hps⟩; obtain ⟨q, n, c, rfl⟩ := hO.form; have k8 := hM.at_ H8.out HN1.out HN2.out; have x0 := k8.cell (j := 0) rfl; have xf := k8.free)
    go_end0
    exact HX.out _ _ _ hM hO hps
end Go.Proofs.YtbcoklbfebmpoaaGreatDoor

/-
  THE CONTRACT OF rules.Parse.
-/

namespace Go.Proofs.YtbcoklbfebmpoaaGreatDoor
open Go.RowKit
open Utf Term Lex
set_option linter.unusedVariables false
set_option linter.unusedSimpArgs false

abbrev HrpR (n : Nat) : Prop := 0 < n ∧ 1 < n ∧ 4 < n
/-- All, for one that reads a program. -/
theorem all_rules (s : ByteArray) (hs : s.size ≤ 1000000000) (w : World) (hv : LexEnv w) (hrp : HrpR w.heap.size) :
    (∃ p c : Nat, c ≠ 0 ∧ c ≤ 4 ∧ srcS s = .bad p c ∧ Calls Tryz.prog 44 #[.string s] w fun e w' => e = .returned (.tuple #[.slice none 0 0, .int .i64 p, .int .i64 c]) ∧ Below w.heap.size w w') ∨
    (srcS s = srcOf s.size (progS noPre (allL (bs s)).1) ∧ s.size ≤ 1048576 ∧ Calls Tryz.prog 44 #[.string s] w fun e w' => ∃ v, e = .returned (.tuple #[v, .int .i64 0, .int .i64 0]) ∧ w'.ownsRow w.heap.size 64 6 v (allL (bs s)).1.length (flatS (allL (bs s)).1) ∧ Below w.heap.size w w') := by
  have h := all_any lexEscape_any s hs w hv hrp
  unfold srcS
  by_cases h1 : 1048576 < s.size
  · refine .inl ⟨0, 3, by decide, by decide, by rw [if_pos h1], h.mono ?_⟩
    intro e w' h
    unfold AllOut at h
    rw [if_pos h1] at h
    exact ⟨h.2, h.1⟩
  rw [if_neg h1]
  by_cases h2 : wfL (bs s) < s.size
  · refine .inl ⟨wfL (bs s), 4, by decide, by decide, by rw [if_pos h2], h.mono ?_⟩
    intro e w' h
    unfold AllOut at h
    rw [if_neg h1, if_pos h2] at h
    exact ⟨h.2, h.1⟩
  rw [if_neg h2]
  by_cases h3 : (allL (bs s)).2 < s.size
  · refine .inl ⟨(allL (bs s)).2, 4, by decide, by decide, by rw [if_pos h3], h.mono ?_⟩
    intro e w' h
    unfold AllOut at h
    rw [if_neg h1, if_neg h2, if_pos h3] at h
    exact ⟨h.2, h.1⟩
  rw [if_neg h3]
  refine .inr ⟨rfl, by omega, h.mono ?_⟩
  intro e w' h
  unfold AllOut at h
  rw [if_neg h1, if_neg h2, if_neg h3] at h
  obtain ⟨hB, v, rfl, ho⟩ := h
  exact ⟨v, rfl, ho, hB⟩
/-- What Parse answers. -/
def ParseR (r : SrcR) (w : World) (e : Ending) (w' : World) : Prop :=
  Below w.heap.size w w' ∧ match r with
  | .bad p c => e = .returned (.tuple #[.slice none 0 0, .int .i64 p, .int .i64 c])
  | .good rs => ∃ v ps, e = .returned (.tuple #[v, .int .i64 0, .int .i64 0]) ∧ OwnP w' w.heap.size v ps ∧ ps.map (·.1) = rs

/-- A reader of one's own, just made. -/
theorem rdr_new (N : Nat) (hN : N ≤ 1000000000) (w1 : World) (hrp : HrpR w1.heap.size) (q : Option Addr) (c : Nat) (L : List Sym) (hs : SlA w1 (.slice q L.length c) L) (hg : ∀ x ∈ L, GoodR N x) (hf : L.length ≤ 1000000000) (he : LexEnv w1) :
    ∃ W9, W9 = (((w1.alloc (.cells #[.slice none 0 0] 67)).alloc (.map #[] 0)).alloc (.cells #[.slice q L.length c, .map (some (w1.heap.size + 1))] 73)).alloc (.cells #[.pointer (some ⟨w1.heap.size + 1 + 1, 0, none⟩)] 71) ∧
      Rdr ⟨N, w1.heap.size, w1.heap.size + 1 + 1, .map (some (w1.heap.size + 1)), hN, hrp, by omega⟩ noPre W9 (.slice q L.length c) L ∧
      BlockAt W9 w1.heap.size #[.slice none 0 0] 67 ∧ BlockAt W9 (w1.heap.size + 1 + 1 + 1) #[.pointer (some ⟨w1.heap.size + 1 + 1, 0, none⟩)] 71 ∧ Below w1.heap.size w1 W9 ∧ W9.heap.size = w1.heap.size + 1 + 1 + 1 + 1 := by
  refine ⟨_, rfl, ?_⟩
  obtain ⟨U1, h1⟩ : ∃ U1, U1 = w1.alloc (.cells #[.slice none 0 0] 67) := ⟨_, rfl⟩
  rw [← h1]
  have b1 : BlockAt U1 w1.heap.size #[.slice none 0 0] 67 := by rw [h1]; exact block_new _ _ _
  have s1 : U1.heap.size = w1.heap.size + 1 := by rw [h1]; exact World.size_alloc _ _
  have k1 : Below w1.heap.size w1 U1 := by rw [h1]; exact below_lex _ _
  clear h1
  obtain ⟨U2, h2⟩ : ∃ U2, U2 = U1.alloc (.map #[] 0) := ⟨_, rfl⟩
  rw [← h2]
  have m2 : MapB U2 (w1.heap.size + 1) noPre := by
    have := MapB.new U1 0
    rw [s1, ← h2] at this
    exact this
  have b2 : BlockAt U2 w1.heap.size #[.slice none 0 0] 67 := by rw [h2]; exact b1.alloc _
  have s2 : U2.heap.size = w1.heap.size + 1 + 1 := by rw [h2, World.size_alloc, s1]
  have k2 : Below w1.heap.size w1 U2 := by rw [h2]; exact k1.alloc (by omega) _
  clear h2 b1 s1 k1
  obtain ⟨U3, h3⟩ : ∃ U3, U3 = U2.alloc (.cells #[.slice q L.length c, .map (some (w1.heap.size + 1))] 73) := ⟨_, rfl⟩
  rw [← h3]
  have r3 : BlockAt U3 (w1.heap.size + 1 + 1) #[.slice q L.length c, .map (some (w1.heap.size + 1))] 73 := by
    have := block_new U2 #[.slice q L.length c, .map (some (w1.heap.size + 1))] 73
    rw [s2, ← h3] at this
    exact this
  have m3 : MapB U3 (w1.heap.size + 1) noPre := by rw [h3]; exact m2.keep (below_lex _ _)
  have b3 : BlockAt U3 w1.heap.size #[.slice none 0 0] 67 := by rw [h3]; exact b2.alloc _
  have s3 : U3.heap.size = w1.heap.size + 1 + 1 + 1 := by rw [h3, World.size_alloc, s2]
  have k3 : Below w1.heap.size w1 U3 := by rw [h3]; exact k2.alloc (by omega) _
  clear h3 m2 b2 s2 k2
  have p4 := block_new U3 #[.pointer (some ⟨w1.heap.size + 1 + 1, 0, none⟩)] 71
  rw [s3] at p4
  have k4 : Below w1.heap.size w1 (U3.alloc (.cells #[.pointer (some ⟨w1.heap.size + 1 + 1, 0, none⟩)] 71)) := k3.alloc (by omega) _
  refine ⟨⟨r3.alloc _, hs.below k4, hs.low, hg, hf, ⟨_, rfl, m3.keep (below_lex _ _), by show w1.heap.size + 1 ≠ w1.heap.size + 1 + 1; omega⟩, (by intro a b h; cases h), he.below k4⟩, b3.alloc _, p4, k4, by rw [World.size_alloc, s3]⟩

set_option maxRecDepth 100000 in
set_option maxHeartbeats 8000000 in
theorem ruParse_any (s : ByteArray) (hs : s.size ≤ 1000000000) (w : World) (hv : LexEnv w) (hrp : HrpR w.heap.size) :
    Calls Tryz.prog 19 #[.string s] w (ParseR (srcS s) w) := by
  obtain ⟨F, hF⟩ : ∃ F, F = ParseR (srcS s) w := ⟨_, rfl⟩
  rcases all_rules s hs w hv hrp with ⟨p, c, hc0, hc4, hd, hA⟩ | ⟨hd, hsz, hA⟩
  · have HF : Hid (∀ W, Below w.heap.size w W → F (.returned (.tuple #[.slice none 0 0, .int .i64 p, .int .i64 c])) W) := Lib.hid (fun W hW => by rw [hF, hd]; exact ⟨hW, rfl⟩)
    rw [← hF]
    have HA := Lib.hid hA
    have d1 : ((c : Int) != 0) = true := by rw [bne_iff_ne]; omega
    clear hF hd hA hv hrp
    go_enter Tryz.func19, Tryz.ntmps19
    go_wp2_with (go_at_call 44; refine HA.out.mono ?_; rintro e w1 ⟨rfl, hB1⟩)
    go_ret3
    exact HF.out _ hB1
  · have hgood := all_goodR s
    have hfew := syms_few s
    rw [← hF]
    have HD := Lib.hid hd
    have HF := Lib.hid hF
    have HA := Lib.hid hA
    have HV := Lib.hid hv
    have HRp := Lib.hid hrp
    clear hF hd hA hv hrp
    generalize (allL (bs s)).1 = L at *
    have HG := Lib.hid hgood
    clear hgood
    have hmm := @run_makeMap_plain Tryz.prog
    go_enter Tryz.func19, Tryz.ntmps19
    go_upto_region 6 with (go_at_call 44; refine HA.out.mono ?_; rintro e w1 ⟨v, rfl, ho, hB1⟩; obtain ⟨q, c, rfl⟩ := slA_len (SlA.of (slice_of_owns ho)); have HSl := Lib.hid (SlA.of (slice_of_owns ho)); have HB1 := Lib.hid hB1; clear ho hB1)
    clear HA hmm
    have hrp1 : HrpR w1.heap.size := ⟨Nat.lt_of_lt_of_le HRp.out.1 HB1.out.size, Nat.lt_of_lt_of_le HRp.out.2.1 HB1.out.size, Nat.lt_of_lt_of_le HRp.out.2.2 HB1.out.size⟩
    obtain ⟨W9, h9, hR9, b8, b9, hB9, hs9⟩ := rdr_new s.size hs w1 hrp1 q c L HSl.out HG.out (by omega) (HV.out.below HB1.out)
    rw [← h9]
    clear h9 HSl
    generalize hK : (⟨s.size, w1.heap.size, w1.heap.size + 1 + 1, .map (some (w1.heap.size + 1)), hs, hrp1, by omega⟩ : RdK) = K at hR9
    have hKB : K.B = w1.heap.size := by rw [← hK]
    have hKr : K.rb = w1.heap.size + 1 + 1 := by rw [← hK]
    have hKm : K.mv = .map (some (w1.heap.size + 1)) := by rw [← hK]
    have hw1 := HB1.out.size
    have HBw : Hid (Below w.heap.size w W9) := Lib.hid (HB1.out.trans (hB9.mono hw1))
    clear hK HB1 hB9 hrp1
    generalize w1.heap.size = g at *
    obtain ⟨T, hT⟩ : ∃ T, T = progS noPre L := ⟨_, rfl⟩
    rw [← hT] at HD
    have HCo := completes_any 45 (.pointer (some ⟨g + 1 + 1 + 1, 0, none⟩)) (.pointer (some ⟨g, 0, none⟩)) (enters_of Tryz.func45 (by kernel_rfl) rfl) W9 T.ok
      (fun w' => ∃ W, Below W9.heap.size W9 W ∧ W9.heap.size < W.heap.size ∧ BlockAt w' W9.heap.size #[.bool false] 4 ∧ Left1 K (g + 1) g T W w') (fun W hW hZ => by
        have hp : rdP K = .pointer (some ⟨g + 1 + 1, 0, none⟩) := by rw [← hKr]
        have := ruParse1_any K noPre (g + 1) hKm (by omega) _ L g (g + 1 + 1 + 1) W (hR9.below hW) (by rw [hp]; exact b9.kept hW) (b8.kept hW) (by omega) (by omega)
        rw [← hT] at this
        refine this.mono ?_
        rintro e w' ⟨he, hL⟩
        have hz : BlockAt w' W9.heap.size #[.bool false] 4 := by
          obtain ⟨u, hM, hrest⟩ := hL
          have hu := hM.at_ hZ (by omega) (by omega)
          cases T with
          | no l => rw [hrest.1]; exact hu
          | yes rs =>
            obtain ⟨v, ps, _, _, e⟩ := hrest
            rw [e]
            exact hu.other (by omega) _ _
        exact ⟨he, hz, W, hW, (Array.getElem?_eq_some_iff.1 hZ).1, hz, hL⟩)
    have HCo := Lib.hid HCo
    have hp : rdP K = .pointer (some ⟨g + 1 + 1, 0, none⟩) := by rw [← hKr]
    have HP := Lib.hid hp
    have B8 := Lib.hid b8
    have B9 := Lib.hid b9
    have HN := Lib.hid (show K.B = g ∧ K.rb = g + 1 + 1 ∧ W9.heap.size = g + 1 + 1 + 1 + 1 ∧ w.heap.size ≤ g from ⟨hKB, hKr, hs9, hw1⟩)
    clear hR9 b8 b9 hKB hKr hKm hs9 hw1 hT hp HG HV HRp
    cases T with
    | no l =>
      have HX : Hid (∀ W, Below w.heap.size w W → F (.returned (.tuple #[.slice none 0 0, .int .i64 (placeR s.size l : Nat), .int .i64 4])) W) := Lib.hid (fun W hW => by rw [HF.out, HD.out]; exact ⟨hW, rfl⟩)
      go_wp2_with (first
        | (go_at_call 21; refine HCo.out.mono ?_; rintro e w' ⟨rfl, wc, ⟨W, hW, hWs, hz, u, hM, rfl, v', P', hR⟩, hm⟩; have HR := Lib.hid (hR.other (b := W9.heap.size) (by have := HN.out; omega) (by have := HN.out; omega) hz hm); have b9 := hm.at_ (hM.at_ (B9.out.kept hW) (by have := HN.out; omega) (by have := HN.out; omega)) (by have := HN.out; omega); have k9 := b9.cell (j := 0) rfl; have hPl := ruPlace_any K P' s.size v' l w' HR.out; rw [HP.out] at hPl; have HPl := Lib.hid hPl; have HB := Lib.hid (((HBw.out.trans (hW.mono (by have := HN.out; omega))).trans (hM.below (by have := HN.out; have := hW.size; omega) (by have := HN.out; omega) (by have := HN.out; omega))).trans (hm.below (by have := HN.out; have := hW.size; have := hM.size; omega) (by have := HN.out; omega))); clear hPl b9 hz hm hM hW hWs hR)
        | (go_at_call 47; refine HPl.out.mono ?_; rintro e w2 ⟨rfl, rfl⟩))
      go_ret3
      exact HX.out _ HB.out
    | yes rs =>
      have HX : Hid (∀ v ps W, Below w.heap.size w W → OwnP W w.heap.size v ps → ps.map (·.1) = rs → F (.returned (.tuple #[v, .int .i64 0, .int .i64 0])) W) := Lib.hid (fun v ps W hW h1 h2 => by rw [HF.out, HD.out]; exact ⟨hW, v, ps, rfl, h1, h2⟩)
      go_wp2_with (first
        | (go_at_call 21; refine HCo.out.mono ?_; rintro e w' ⟨rfl, wc, ⟨W, hW, hWs, hz, u, hM, v, ps, hO, hps, rfl⟩, hm⟩; obtain ⟨vq, vn, vc, rfl⟩ := hO.form; have hms : Moves g u (u.setCell ⟨g, 0, none⟩ (.slice vq vn vc)) := Moves.refl.set 0 _; have b8 : BlockAt w' g #[.slice vq vn vc] 67 := hm.at_ ((hM.at_ (B8.out.kept hW) (by have := HN.out; omega) (by have := HN.out; omega)).set 0 _) (by have := HN.out; omega); have k8 := b8.cell (j := 0) rfl; have HOw := Lib.hid (((hO.moves hms (by have := HN.out; omega)).moves hm hWs).low (B := w.heap.size) (by have := HN.out; omega)); have HB := Lib.hid ((((HBw.out.trans (hW.mono (by have := HN.out; omega))).trans (hM.below (by have := HN.out; have := hW.size; omega) (by have := HN.out; omega) (by have := HN.out; omega))).trans (hms.below (by have := HN.out; have := hW.size; have := hM.size; omega) (by have := HN.out; omega))).trans (hm.below (by have := HN.out; have := hW.size; have := hM.size; have := hms.size; omega) (by have := HN.out; omega))); clear b8 hz hm hM hms hW hWs hO))
      go_ret3
      exact HX.out _ _ _ HB.out HOw.out hps
end Go.Proofs.YtbcoklbfebmpoaaGreatDoor

/-
  THE CONTRACTS OF the law's known AND num; OF rules.One.
-/

namespace Go.Proofs.YtbcoklbfebmpoaaGreatDoor
open Go.RowKit
open Utf Term Lex
set_option linter.unusedVariables false
set_option linter.unusedSimpArgs false

theorem rule_vast {r : RuleD} (h : ruleB r = true) : VastR r := by
  unfold ruleB at h
  simp only [Bool.and_eq_true, List.all_eq_true] at h
  exact ⟨pat_vast h.2.2, fun l hl => lit_vast (h.2.1 l hl)⟩
abbrev knownT : ByteArray := ⟨#[112, 114, 101, 102, 105, 120, 32, 97, 58, 32, 60, 120, 35, 62, 32, 46, 32, 40, 63, 115, 32, 97, 58, 112, 32, 63, 111, 41, 32, 58, 45, 32, 40, 63, 111, 32, 60, 113, 62, 32, 63, 115, 41, 44, 32, 110, 111, 116, 32, 40, 63, 115, 32, 60, 114, 62, 32, 34, 49, 34, 41, 44, 32, 63, 115, 32, 33, 61, 32, 63, 111, 32, 46]⟩
abbrev knownU : ByteArray := ⟨#[40, 63, 115, 32, 60, 120, 35, 112, 62, 32, 63, 111, 41, 32, 58, 45, 32, 40, 63, 111, 32, 60, 113, 62, 32, 63, 115, 41, 44, 32, 110, 111, 116, 32, 40, 63, 115, 32, 60, 114, 62, 32, 34, 49, 34, 41, 44, 32, 63, 115, 32, 33, 61, 32, 63, 111, 32, 46, 10]⟩
abbrev vS : SlotD := (⟨#[115]⟩, zTe)
abbrev vO : SlotD := (⟨#[111]⟩, zTe)
def knownR : RuleD := ((vS, (⟨#[]⟩, (1, ⟨#[120, 35, 112]⟩, ⟨#[]⟩)), vO), [(1, (vO, (⟨#[]⟩, (1, ⟨#[113]⟩, ⟨#[]⟩)), vS), zSl, zSl), (2, (vS, (⟨#[]⟩, (1, ⟨#[114]⟩, ⟨#[]⟩)), (⟨#[]⟩, (3, ⟨#[49]⟩, ⟨#[]⟩))), zSl, zSl), (4, zPa, vS, vO)])
theorem known_src : srcS knownT = .good [knownR] := by kernel_rfl
theorem known_may : ruleB knownR = true := by kernel_rfl
theorem known_text : rtextsR [knownR] = (knownU, 0) := by kernel_rfl
theorem num6_any (n : Int) (w : World) : Calls Tryz.prog 10 #[.int .i64 n] w fun e w' => e = .returned (.int .i64 n) ∧ w = w' := by
  go_enter Tryz.func10, Tryz.ntmps10
  go_wp2
  go_ret
  exact ⟨rfl, rfl⟩
set_option maxRecDepth 100000 in
set_option maxHeartbeats 8000000 in
theorem known6_any (w : World) (hv : LexEnv w) (hrp : HrpR w.heap.size) : Calls Tryz.prog 6 #[] w fun e w' => e = .returned (.bool true) ∧ Below w.heap.size w w' := by
  have HA := ruParse_any knownT (by decide) w hv hrp
  rw [known_src] at HA
  have HA := Lib.hid HA
  have HE := Lib.hid hv
  have HT : Hid (∀ v W m, HasMax W m → SliceRu W v [knownR] → Calls Tryz.prog 20 #[v] W fun e w' => e = .returned (.tuple #[.string knownU, .int .i64 0]) ∧ Below W.heap.size W w') := Lib.hid (fun v W m hm hs => by
    have := ruTexts_any v [knownR] (by decide) (fun r hr => by rw [List.mem_singleton.1 hr]; exact rule_vast known_may) m W hm hs
    rw [known_text] at this
    exact this)
  clear hv hrp
  go_enter Tryz.func6, Tryz.ntmps6
  go_wp2_with (first
    | (go_at_call 19; refine HA.out.mono ?_; rintro e y ⟨hY, v, ps, rfl, ho, hps⟩; have HS := ho.slice; rw [hps] at HS; have HS := Lib.hid HS; have HY := Lib.hid hY; obtain ⟨m, hm⟩ := (HE.out.below hY).len; have Hm := Lib.hid hm; clear ho hps hY hm)
    | (go_at_call 20; refine (HT.out _ _ _ Hm.out HS.out).mono ?_; rintro e y2 ⟨rfl, hY2⟩; have HY2 := Lib.hid (below_next HY.out hY2); clear hY2)
    | (go_at_call 10; refine (num6_any _ _).mono ?_; rintro e z ⟨rfl, rfl⟩))
  go_ret
  exact ⟨rfl, HY2.out⟩
end Go.Proofs.YtbcoklbfebmpoaaGreatDoor

/-
  THE CONTRACT OF rules.One.
-/

namespace Go.Proofs.YtbcoklbfebmpoaaGreatDoor
open Go.RowKit
open Utf Term Lex
set_option linter.unusedVariables false
set_option linter.unusedSimpArgs false

theorem src_code {s : ByteArray} {p c : Nat} (h : srcS s = .bad p c) : c ≠ 0 := by
  unfold srcS at h
  split at h
  · cases h; decide
  split at h
  · cases h; decide
  split at h
  · cases h; decide
  · cases hp : progS noPre (allL (bs s)).1 with
    | no l => rw [hp] at h; cases h; decide
    | yes rs => rw [hp] at h; cases h
theorem results_rule_tmp {fn : Func} {p u : Tmp} (h : fn.results = #[.cell p 50, .tmp u]) (tmps : Array Value) (w : World) (g : Nat) (q : PatD) (bv x : Value)
    (hp : tmps.getD p undef = .pointer (some ⟨g, 0, none⟩)) (hu : tmps.getD u undef = x) (hx : BlockAt w g (ruleC q bv) 50) :
    (results fn tmps).run Tryz.prog w = .ok (.tuple #[.agg (ruleC q bv), x]) w := by
  rw [results_cell_tmp h, hp, hu]
  simp [asAddr, run_loadVar_row (P := Tryz.prog) w g 50 50 (ruleC q bv) (0, 0) _ hx Tryz.underlying50 rfl (by kernel_rfl), Result.andThen]
/-- What One answers. -/
def OneR (r : SrcR) (w : World) (e : Ending) (w' : World) : Prop :=
  Below w.heap.size w w' ∧ match r with
  | .good [x] => ∃ bv, e = .returned (.tuple #[.agg (ruleC x.1 bv), .int .i64 0]) ∧ ownL w' w.heap.size bv x.2
  | _ => e = .returned (.tuple #[.agg (ruleC zPa nilS), .int .i64 4])

set_option maxRecDepth 100000 in
set_option maxHeartbeats 8000000 in
theorem ruOne_any (s : ByteArray) (hs : s.size ≤ 1000000000) (w : World) (hv : LexEnv w) (hrp : HrpR w.heap.size) :
    Calls Tryz.prog 12 #[.string s] w (OneR (srcS s) w) := by
  obtain ⟨Q, hQ⟩ : ∃ Q, Q = OneR (srcS s) w := ⟨_, rfl⟩
  rw [← hQ]
  have hB0 := below_lex w (.cells zRuC 50)
  have hZ0 : BlockAt (w.alloc (.cells zRuC 50)) w.heap.size (ruleC zPa nilS) 50 := block_new w zRuC _
  have hPa := ruParse_any s hs _ (hv.below hB0) (⟨Nat.lt_of_lt_of_le hrp.1 hB0.size, Nat.lt_of_lt_of_le hrp.2.1 hB0.size, Nat.lt_of_lt_of_le hrp.2.2 hB0.size⟩)
  have HS13 : Hid ((Tryz.prog.info? 50).map (·.size) = some 13) := Lib.hid (by kernel_rfl)
  have HB0 := Lib.hid hB0
  have HZ0 := Lib.hid hZ0
  have hsz : (w.alloc (.cells zRuC 50)).heap.size = w.heap.size + 1 := World.size_alloc _ _
  have HSz := Lib.hid hsz
  clear hB0 hZ0 hv hrp hsz
  have key : ∀ W, BlockAt W w.heap.size (ruleC zPa nilS) 50 → Below w.heap.size w W → ∀ q : PatD, ∀ b : Value, BlockAt (W.setCells w.heap.size 0 (ruleC q b).toList) w.heap.size (ruleC q b) 50 ∧ Below w.heap.size w (W.setCells w.heap.size 0 (ruleC q b).toList) := fun W hZ hB q b =>
    ⟨hZ.putAll _ rfl, hB.trans ((moves_setCells (g := w.heap.size) _ 0 W).below hB.size (Nat.le_refl _))⟩
  have HK := Lib.hid key
  clear key
  cases hd : srcS s with
  | bad p c =>
    have hc := src_code hd
    rw [hd] at hPa hQ
    have HX : Hid (∀ W, Below w.heap.size w W → Q (.returned (.tuple #[.agg (ruleC zPa nilS), .int .i64 4])) W) := Lib.hid (fun W hW => by rw [hQ]; exact ⟨hW, rfl⟩)
    have HPa := Lib.hid hPa
    have d1 : ((c : Int) != 0) = true := by rw [bne_iff_ne]; omega
    clear hPa hd hQ hc
    go_enter Tryz.func12, Tryz.ntmps12
    go_wp2_with (first
      | (go_at_call 19; refine HPa.out.mono ?_; rintro e y ⟨hY, rfl⟩; have HZy := Lib.hid (HZ0.out.kept hY); have HBy := Lib.hid (HB0.out.trans (hY.mono (by have := HSz.out; omega))); have HTy := Lib.hid HZy.out.there; clear hY)
      | (refine wpList_store_mid rfl 50 (.tmp 2) (.tmp 20) rfl w.heap.size 0 (ruleC zPa nilS) rfl rfl HTy.out HS13.out (ruleC_all _ _ _ _) ?_))
    obtain ⟨h1, h2⟩ := HK.out _ HZy.out HBy.out zPa nilS
    exact bodyPost_ret (results_rule_tmp rfl _ _ w.heap.size _ _ (.int .i64 4) rfl rfl h1) rfl (HX.out _ h2)
  | good rs =>
    rw [hd] at hPa hQ
    clear hd
    by_cases h1 : rs.length = 1
    · obtain ⟨x, rfl⟩ : ∃ x, rs = [x] := by
        match rs, h1 with
        | [x], _ => exact ⟨x, rfl⟩
      have HX : Hid (∀ bv W, Below w.heap.size w W → ownL W w.heap.size bv x.2 → Q (.returned (.tuple #[.agg (ruleC x.1 bv), .int .i64 0])) W) := Lib.hid (fun bv W hW ho => by rw [hQ]; exact ⟨hW, bv, rfl, ho⟩)
      have HPa : Hid (Calls Tryz.prog 19 #[.string s] (w.alloc (.cells zRuC 50)) fun e w' => ∃ g cap q n c, e = .returned (.tuple #[.slice (some ⟨g, 0, none⟩) 1 cap, .int .i64 0, .int .i64 0]) ∧ Below (w.alloc (.cells zRuC 50)).heap.size (w.alloc (.cells zRuC 50)) w' ∧ w'.rangeAt g 0 (ruleC x.1 (.slice q n c)).toList ∧ 1 ≤ cap ∧ ownL w' (w.heap.size + 1) (.slice q n c) x.2) := Lib.hid (hPa.mono (fun e w' h => by
        obtain ⟨hY, v, ps, rfl, ho, hps⟩ := h
        obtain ⟨p, rfl⟩ : ∃ p, ps = [p] := by
          match ps, hps with
          | [p], _ => exact ⟨p, rfl⟩
        simp only [List.map_cons, List.map_nil, List.cons.injEq, and_true] at hps
        subst hps
        have ho1 := ho.1
        rcases ho1.2 with ⟨_, h⟩ | ⟨g, cap, cur, rfl, hb, hg, k1, k2, k3, k4⟩
        · cases h
        · have hob := ho.2 p (by simp)
          obtain ⟨q, n, c, hf⟩ := own_form hob
          have hra := own_range ho1
          rw [flatP_one, hf] at hra
          rw [hf, HSz.out] at hob
          exact ⟨g, cap, q, n, c, rfl, hY, hra, k1, hob⟩))
      clear hPa hQ h1
      go_enter Tryz.func12, Tryz.ntmps12
      go_wp2_with (first
        | (go_at_call 19; refine HPa.out.mono ?_; rintro e y ⟨g, cap, q, n, c, rfl, hY, hra, hcap, ho⟩; have HZy := Lib.hid (HZ0.out.kept hY); have HBy := Lib.hid (HB0.out.trans (hY.mono (by have := HSz.out; omega))); have HTy := Lib.hid HZy.out.there; have HRa := Lib.hid hra; have HOw := Lib.hid ho; clear hY hra ho)
        | (refine wpList_load_mid rfl 50 (.tmp 22) rfl g 0 rfl (ruleC x.1 (.slice q n c)).toList _ HRa.out Tryz.underlying50 rfl HS13.out ?_)
        | (refine wpList_store_mid rfl 50 (.tmp 2) (.tmp 23) rfl w.heap.size 0 (ruleC x.1 (.slice q n c)) rfl rfl HTy.out HS13.out (ruleC_all _ _ _ _) ?_))
      obtain ⟨h1, h2⟩ := HK.out _ HZy.out HBy.out x.1 (.slice q n c)
      exact bodyPost_ret (results_rule_tmp rfl _ _ w.heap.size _ _ (.int .i64 0) rfl rfl h1) rfl (HX.out _ _ h2 ((owns_moves HOw.out (moves_setCells _ 0 y) (Nat.lt_succ_self _)).low (Nat.le_succ _)))
    · have HX : Hid (∀ W, Below w.heap.size w W → Q (.returned (.tuple #[.agg (ruleC zPa nilS), .int .i64 4])) W) := Lib.hid (fun W hW => by
        rw [hQ]
        refine ⟨hW, ?_⟩
        match rs, h1 with
        | [], _ => rfl
        | x :: y :: r, _ => rfl)
      have HPa : Hid (Calls Tryz.prog 19 #[.string s] (w.alloc (.cells zRuC 50)) fun e w' => ∃ (q : Option Addr) (n c : Nat), e = .returned (.tuple #[.slice q n c, .int .i64 0, .int .i64 0]) ∧ Below (w.alloc (.cells zRuC 50)).heap.size (w.alloc (.cells zRuC 50)) w' ∧ n ≠ 1) := Lib.hid (hPa.mono (fun e w' h => by
        obtain ⟨hY, v, ps, rfl, ho, hps⟩ := h
        have hl : ps.length ≠ 1 := by
          intro h
          apply h1
          rw [← hps, List.length_map, h]
        rcases ho.1.2 with ⟨rfl, _⟩ | ⟨g, cap, cur, rfl, _⟩
        · exact ⟨_, _, _, rfl, hY, by decide⟩
        · exact ⟨_, _, _, rfl, hY, hl⟩))
      clear hPa hQ h1
      go_enter Tryz.func12, Tryz.ntmps12
      go_wp2_with (first
        | (go_at_call 19; refine HPa.out.mono ?_; rintro e y ⟨q, n, c, rfl, hY, hn⟩; have HZy := Lib.hid (HZ0.out.kept hY); have HBy := Lib.hid (HB0.out.trans (hY.mono (by have := HSz.out; omega))); have HTy := Lib.hid HZy.out.there; have d1 : ((n : Int) != 1) = true := (by rw [bne_iff_ne]; omega); clear hY hn)
        | (refine wpList_store_mid rfl 50 (.tmp 2) (.tmp 20) rfl w.heap.size 0 (ruleC zPa nilS) rfl rfl HTy.out HS13.out (ruleC_all _ _ _ _) ?_))
      obtain ⟨h1, h2⟩ := HK.out _ HZy.out HBy.out zPa nilS
      exact bodyPost_ret (results_rule_tmp rfl _ _ w.heap.size _ _ (.int .i64 4) rfl rfl h1) rfl (HX.out _ h2)
end Go.Proofs.YtbcoklbfebmpoaaGreatDoor

/-
  append OF A SLICE OF RULES TO A ROW OF THE CALL's OWN.
-/

namespace Go.Proofs.YtbcoklbfebmpoaaGreatDoor
open Go.RowKit
open Utf Term Lex
set_option linter.unusedVariables false
set_option linter.unusedSimpArgs false

/-- A slice of rules, with the slices of their bodies. -/
def SlV (W : World) (v : Value) (qs : List RuV) : Prop :=
  ((v = .slice none 0 0 ∧ qs = []) ∨ ∃ g o cap, v = .slice (some ⟨g, o, none⟩) qs.length cap ∧ qs.length ≤ cap ∧ cap ≤ maxLen ∧ W.rangeAt g o (flatP qs)) ∧ ∀ q ∈ qs, BodyS W q.2 q.1.2
theorem SlV.below {W W' : World} {v : Value} {qs : List RuV} (h : SlV W v qs) (k : Below W.heap.size W W') : SlV W' v qs := by
  refine ⟨?_, fun q hq => (h.2 q hq).below k⟩
  rcases h.1 with h | ⟨g, o, cap, h1, h2, h3, h4⟩
  · exact .inl h
  · exact .inr ⟨g, o, cap, h1, h2, h3, range_below h4 k⟩
theorem SlV.slice {W : World} {v : Value} {qs : List RuV} (h : SlV W v qs) : SliceRu W v (qs.map (·.1)) := by
  rcases h.1 with ⟨h1, h2⟩ | ⟨g, o, cap, rfl, h2, h3, h4⟩
  · exact .inl ⟨h1, by rw [h2]; rfl⟩
  · refine .inr ⟨g, o, cap, by rw [List.length_map], by rw [List.length_map]; exact h2, h3, fun i r hr => ?_⟩
    rw [List.getElem?_map] at hr
    cases hp : qs[i]? with
    | none => rw [hp] at hr; cases hr
    | some p =>
      rw [hp] at hr
      simp only [Option.map_some, Option.some.injEq] at hr
      subst hr
      have key : ∀ c, c < 13 → ∀ u, (ruleC p.1.1 p.2).toList[c]? = some u → W.cell? ⟨g, o + i * 13 + c, none⟩ = some u := fun c hc u hu => by
        rw [Nat.add_assoc]
        exact h4 (i * 13 + c) u (by rw [flatP_get qs i c p hp hc]; exact hu)
      exact ⟨p.2, ⟨key 0 (by omega) _ rfl, key 1 (by omega) _ rfl, key 2 (by omega) _ rfl, key 3 (by omega) _ rfl, key 4 (by omega) _ rfl, key 5 (by omega) _ rfl, key 6 (by omega) _ rfl, key 7 (by omega) _ rfl, key 8 (by omega) _ rfl, key 9 (by omega) _ rfl, key 10 (by omega) _ rfl, key 11 (by omega) _ rfl, key 12 (by omega) _ rfl⟩, h.2 p (List.mem_of_getElem? hp)⟩
section
variable {w : World} {ops : Array Oper} {rest : List Oper} {o : Oper} {a : Act} {Q : Exit → Act → World → Prop}
end
end Go.Proofs.YtbcoklbfebmpoaaGreatDoor

/-
  THE WALK OF RuleWrites.
-/

namespace Go.Proofs.YtbcoklbfebmpoaaGreatDoor
open Go.RowKit
open Utf Term Lex
set_option linter.unusedVariables false
set_option linter.unusedSimpArgs false

theorem HrpR.le {m n : Nat} (h : HrpR m) (k : m ≤ n) : HrpR n := ⟨Nat.lt_of_lt_of_le h.1 k, Nat.lt_of_lt_of_le h.2.1 k, Nat.lt_of_lt_of_le h.2.2 k⟩
end Go.Proofs.YtbcoklbfebmpoaaGreatDoor

