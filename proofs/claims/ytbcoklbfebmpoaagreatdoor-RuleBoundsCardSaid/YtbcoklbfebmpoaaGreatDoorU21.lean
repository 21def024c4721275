/-
  WHAT THE PROOF STANDS ON, a part of it: TermText, RuT, TripleText, RuJoin, RefMay.
-/
import Derived.Test.YtbcoklbfebmpoaaGreatDoorU11
import Derived.Test.YtbcoklbfebmpoaaGreatDoorU10
import Derived.Test.YtbcoklbfebmpoaaGreatDoorU16
import Derived.Test.YtbcoklbfebmpoaaGreatDoorU20
import Derived.RangeFuncNested
import Derived.RangeFuncBound
import Derived.RangeFuncCalls
import Derived.WalkKit
import Derived.Lib.FrozenHead2
import Derived.Lib.OthersKept
import Derived.Deep.RegionWith
import Derived.Deep.LoopGhost
import Derived.Test.YtbcoklbfebmpoaaGreatDoorU12
import Derived.Test.YtbcoklbfebmpoaaGreatDoorU17
import Derived.LoopTactic


/-
  PLAIN MATHEMATICS: a text in quotes, rune by rune.
-/
namespace Go.Proofs.YtbcoklbfebmpoaaGreatDoor.Term
open Utf

theorem encs_nil : encs [] = [] := rfl
theorem encs_one (r : Int) : encs [r] = enc r := by rw [encs_cons, encs_nil, List.append_nil]

theorem esc_high {r : Int} (h : 128 ≤ r) : esc r = [] := by
  unfold esc
  rw [if_neg (by omega), if_neg (by omega), if_neg (by omega), if_neg (by omega), if_neg (by omega), if_neg (by omega), if_neg (by omega), if_neg (by omega)]
theorem esc_low {r : Int} (h : esc r ≠ []) : r ≤ 127 := by
  by_cases h1 : 128 ≤ r
  · exact absurd (esc_high h1) h
  · omega
theorem esc_length (r : Int) : (esc r).length ≤ 6 := by
  unfold esc; repeat' split
  all_goals simp
theorem shown_length (r : Int) : (shown r).length ≤ 6 := by
  unfold shown; split
  · simp
  · exact esc_length r
theorem shown_len (l : List Int) : (l.flatMap shown).length ≤ 6 * l.length := by
  induction l with
  | nil => simp
  | cons c t ih =>
    have := shown_length c
    simp only [List.flatMap_cons, List.length_append, List.length_cons]
    omega
theorem shown_self {r : Int} (h : May r) (he : esc r = []) : (enc r).flatMap shown = enc r := by
  by_cases h1 : r ≤ 127
  · rw [enc_low h1]; simp [shown, he]
  · have hh := enc_high h (by omega)
    have : ∀ l : List Int, (∀ c ∈ l, 128 ≤ c) → l.flatMap shown = l := by
      intro l hl
      induction l with
      | nil => rfl
      | cons c t ih =>
        rw [List.flatMap_cons, ih fun d hd => hl d (by simp [hd])]
        simp [shown, esc_high (hl c (by simp))]
    exact this _ hh

/-- How far a text in quotes has come: L is written, of B's bytes 'done' are dealt with, of the runes ra. -/
def Mid (B ra : List Int) (done : Nat) (L : List Int) : Prop :=
  done ≤ (encs ra).length ∧ L ++ (B.drop done).take ((encs ra).length - done) = 34 :: (encs ra).flatMap shown

theorem mid_start (B : List Int) : Mid B [] 0 [34] := ⟨Nat.zero_le _, by simp [encs_nil]⟩

theorem drop_enc {B ra rb : List Int} {r : Int} (hB : B = encs (ra ++ r :: rb)) {done : Nat} (hd : done ≤ (encs ra).length) :
    (B.drop done).take ((encs ra).length + (enc r).length - done) = (B.drop done).take ((encs ra).length - done) ++ enc r := by
  subst hB
  rw [encs_append, encs_cons, List.drop_append_of_le_length hd, List.take_append, List.take_append]
  have e1 : ((encs ra).drop done).take ((encs ra).length + (enc r).length - done) = (encs ra).drop done := List.take_of_length_le (by rw [List.length_drop]; omega)
  have e2 : ((encs ra).drop done).take ((encs ra).length - done) = (encs ra).drop done := List.take_of_length_le (by rw [List.length_drop]; omega)
  have e4 : (((encs ra).drop done) ++ (enc r ++ encs rb)).take ((encs ra).length - done) = (encs ra).drop done := by
    rw [List.take_append_of_le_length (by rw [List.length_drop]; omega), e2]
  have e3 : (encs ra).length + (enc r).length - done - ((encs ra).length - done) = (enc r).length := by omega
  rw [e1, e4, List.length_drop, e3, Nat.sub_self, List.take_zero, List.append_nil, List.take_of_length_le (Nat.le_refl _)]

theorem mid_keep {B ra rb : List Int} {r : Int} {done : Nat} {L : List Int} (hB : B = encs (ra ++ r :: rb)) (hm : May r) (he : esc r = []) (h : Mid B ra done L) : Mid B (ra ++ [r]) done L := by
  obtain ⟨h1, h2⟩ := h
  have e : encs (ra ++ [r]) = encs ra ++ enc r := by rw [encs_append, encs_one]
  refine ⟨by rw [e, List.length_append]; omega, ?_⟩
  rw [e, List.length_append, drop_enc hB h1, ← List.append_assoc, h2, List.flatMap_append, shown_self hm he]
  rfl

theorem mid_esc {B ra : List Int} {r : Int} {done : Nat} {L : List Int} (he : esc r ≠ []) (h : Mid B ra done L) :
    Mid B (ra ++ [r]) ((encs ra).length + 1) (L ++ (B.drop done).take ((encs ra).length - done) ++ esc r) := by
  obtain ⟨h1, h2⟩ := h
  have e : encs (ra ++ [r]) = encs ra ++ [r] := by rw [encs_append, encs_one, enc_low (esc_low he)]
  refine ⟨by rw [e]; simp, ?_⟩
  rw [e, List.length_append, List.length_singleton, Nat.sub_self, List.take_zero, List.append_nil, h2, List.flatMap_append]
  simp [shown, he]

theorem mid_end {B rs : List Int} {done : Nat} {L : List Int} (hB : B = encs rs) (h : Mid B rs done L) : L ++ B.drop done ++ [34] = quoteL B := by
  obtain ⟨h1, h2⟩ := h
  subst hB
  have e : ((encs rs).drop done).take ((encs rs).length - done) = (encs rs).drop done := List.take_of_length_le (by rw [List.length_drop]; omega)
  rw [e] at h2
  rw [h2]
  rfl

theorem mid_len {B ra : List Int} {done : Nat} {L : List Int} (h : Mid B ra done L) : L.length ≤ 1 + 6 * (encs ra).length := by
  have h1 := congrArg List.length h.2
  have h2 := shown_len (encs ra)
  simp only [List.length_append, List.length_cons] at h1
  omega

/-- What comes next. -/
theorem posR_next : ∀ (p : Nat) (ra rs : List Int) (y : Nat × Int), AllMay rs → posR p ra ++ [y] <+: posR p rs → ∃ rb, rs = ra ++ y.2 :: rb ∧ y.1 = p + (encs ra).length
  | p, [], [], y, _, h => by simp [posR] at h
  | p, [], r :: rs, y, _, h => by
    simp [posR] at h
    subst h
    exact ⟨rs, rfl, by simp [encs_nil]⟩
  | p, q :: ra, [], y, _, h => by simp [posR] at h
  | p, q :: ra, r :: rs, y, hm, h => by
    rw [posR, posR, List.cons_append, List.cons_prefix_cons] at h
    obtain ⟨h1, h2⟩ := h
    have hq : q = r := by injection h1
    subst hq
    obtain ⟨rb, h3, h4⟩ := posR_next _ ra rs y hm.tail h2
    exact ⟨rb, by rw [h3]; rfl, by rw [h4, encs_cons, List.length_append, rsize_enc hm.head, Nat.add_assoc]⟩
end Go.Proofs.YtbcoklbfebmpoaaGreatDoor.Term

/-
  A RANGE OVER A FUNCTION WHOSE BODY ALWAYS GOES ON, AND MAY LEAN ON WHAT COMES NEXT: the iterator's contract tells the body that the new element is the next one.
-/
namespace Go.Proofs.YtbcoklbfebmpoaaGreatDoor
open Go.RowKit

variable {F : Fence} {n : Nat} {P : Program}

/-- An iterator that gives each element at its turn ('Nx pre x': x comes behind pre) to a body that never leaves. -/
def SeqNext {α : Type} (F : Fence) (n : Nat) (P : Program) (gf : Nat) (lb : Array Value) (encs : α → Array Value) (Kp : World → World → Prop) (Nx : List α → α → Prop) (S : List α → Prop) (w : World) : Prop :=
  ∀ (l : Nat) (J : List α → World → Prop) (W : World), Below w.heap.size w W → AbidesFrom W.heap.size J →
    (∀ pre x W1, J pre W1 → Nx pre x → YieldAt F (n - 1) P l (encs x) W1 fun e W' => e = .returned (.bool true) ∧ J (pre ++ [x]) W' ∧ Kp W1 W') →
    J [] W → CallsIn F n P gf (#[.func (.yield l) #[] #[]] ++ lb) W fun e W' => (∃ v, e = .returned v) ∧ ∃ xs, S xs ∧ J xs W'

/-- The body goes on: what it keeps, and where it stands. -/
def GoesOn {α : Type} (B : Nat) (Kp : World → World → Prop) (I : List α → World → Prop) (xs : List α) (W : World) : Exit → Act → World → Prop
  | .normal, _, W' => KeepsFrom B W W' ∧ Kp W W' ∧ I xs W'
  | _, _, _ => False

theorem wpIn_range_next {α : Type} {g : Operand} {ps : Array Tmp} {assign body : Code} {Q : Exit → Act → World → Prop} {a : Act} {w : World}
    (hro : F.round = none) (h1 : 1 ≤ n) {gf : Nat} {lb : Array Value} (hg : a.eval g = .func (.func gf) #[] lb) (hFg : F.fn gf) (eg : ∀ args w, (callFunc gf args).run P w = .ok (.enter gf args) w)
    {encs : α → Array Value} {Kp : World → World → Prop} {Nx : List α → α → Prop} {S : List α → Prop} (hseq : SeqNext F (n - 1) P gf lb encs Kp Nx S w)
    (hKt : ∀ {A B C : World}, Kp A B → Kp B C → Kp A C) (hKb : ∀ (W : World) (l : Nat) (o o' : Obj), w.heap.size ≤ l → W.heap[l]? = some o → o.isCells = false → o.isWalk = false → Kp W (W.putObj l o')) (hps : ∀ x, (encs x).size = ps.size)
    (I : List α → World → Prop) (hI : OwnFrom w.heap.size I) (h0 : I [] w) (a₁ : α → Act)
    (hassign : ∀ (l : Nat) (x : α) (W : World) (K : Act → World → Prop), K (a₁ x) W →
      assign.wpIn (F.inRound l) (n - 1 - 1) P (Exit.then K (fun _ _ _ => False)) { tmps := (ps.zip (encs x)).foldl (fun t (p, v) => t.setIfInBounds p v) a.tmps, defers := [] } W)
    (hbody : ∀ (l : Nat) (pre : List α) (x : α) (W : World), I pre W → Nx pre x → body.wpIn (F.inRound l) (n - 1 - 1) P (GoesOn w.heap.size Kp I (pre ++ [x]) W) (a₁ x) W)
    (hdone : ∀ (D : Nat) (xs : List α) (W : World), w.heap.size ≤ D → S xs → I xs W → W.heap[D]? = some (.deferred (some [])) → Q .normal { a with defers := { target := .collected D, args := #[] } :: a.defers } W) :
    (Code.rangeFunc g ps assign body).wpIn F n P Q a w := by
  refine wpIn_rangeFunc fun fn hfn => ?_
  -- the loop's record, at its state
  let rec' : LoopState → Loop := fun st => { state := st, pending := none, fn := fn, tmps := a.tmps, params := ps, assign := assign, body := body, defers := w.heap.size }
  let L := w.heap.size + 1
  let W1 := (w.alloc (.deferred (some []))).alloc (.loop (rec' .ready))
  -- what the two blocks of book-keeping hold between two rounds
  let Kept : World → Prop := fun W => W.heap[L]? = some (.loop (rec' .ready)) ∧ W.heap[w.heap.size]? = some (.deferred (some []))
  have k1 : Kept W1 := ⟨by have := World.alloc_heap_new (w.alloc (.deferred (some []))) (.loop (rec' .ready)); rwa [World.size_alloc] at this,
    (Below.heap_alloc _ _ _ (by simp)).trans (World.alloc_heap_new w _)⟩
  have s1 : w.heap.size ≤ W1.heap.size := by show w.heap.size ≤ ((w.alloc _).alloc _).heap.size; simp; omega
  refine ⟨L, [{ target := .collected w.heap.size, args := #[] }], W1, { target := .fn (.func gf) lb, args := #[.func (.yield L) #[] #[]] }, W1, gf, #[.func (.yield L) #[] #[]] ++ lb, W1, ?_, ?_, ?_, ?_, fun _ => h1, ?_⟩
  · rw [hro]; exact run_enterLoop_outer _ _ _ _ _
  · simp only [resolve, hg]
    simp [go_sem]
  · intro f' e
    simp [Target.leads] at e
    subst e
    exact hFg
  · simp [invoke, go_sem, eg]
  refine (hseq L (fun pre W => I pre W ∧ Kept W) W1 (((Below.refl _ w).alloc (Nat.le_refl _) _).alloc (by simp) _) ?_ ?_ ⟨hI.alloc _ (hI.alloc _ h0), k1⟩).mono ?_
  · intro s A B row ⟨hi, hl, hd⟩ hgr hr
    refine ⟨hI s A B row hi hgr (fun r e => ?_), (grownBy_keeps hgr (fun r e => (hr r e).2) hl rfl).trans hl, (grownBy_keeps hgr (fun r e => (hr r e).2) hd rfl).trans hd⟩
    obtain ⟨hB, o, ho, hw⟩ := hr r e
    exact ⟨Nat.le_trans s1 hB, o, ho, Obj.not_cells_of_walk hw⟩
  · -- one round
    intro pre x W ⟨hi, hl, hd⟩ hn
    have hlt : L < W.heap.size := (Array.getElem?_eq_some_iff.1 hl).1
    refine ⟨fn, _, assign, body, run_yield (P := P) (args := encs x) hl (hps x), roundIn_of_wpIn hfn (hassign _ x W _ ⟨_, run_beginRound hl rfl, ?_⟩)⟩
    let Wb := W.putObj L (.loop (rec' .busy))
    have hlb : Wb.heap[L]? = some (.loop (rec' .busy)) := World.putObj_heap_same hlt
    have hdb : Wb.heap[w.heap.size]? = some (.deferred (some [])) := (World.putObj_heap_other (by show w.heap.size ≠ w.heap.size + 1; omega)).trans hd
    refine wpIn_mono (hbody L pre x Wb (hI.putObj _ hi (by show w.heap.size ≤ w.heap.size + 1; omega) hl rfl) hn) ?_
    intro e a3 W3 hp
    cases e with
    | normal =>
      obtain ⟨hk, hkp, hi3⟩ := hp
      have hl3 := hk.same L _ (by show w.heap.size ≤ w.heap.size + 1; omega) hlb rfl
      have hd3 := hk.same _ _ (Nat.le_refl _) hdb rfl
      refine ⟨_, _, run_endRound (P := P) none hl3, rfl, ⟨hI.putObj _ hi3 (by show w.heap.size ≤ w.heap.size + 1; omega) hl3 rfl, ?_, ?_⟩, ?_⟩
      · exact World.putObj_heap_same (Array.getElem?_eq_some_iff.1 hl3).1
      · exact (World.putObj_heap_other (by show w.heap.size ≠ w.heap.size + 1; omega)).trans hd3
      · exact hKt (hKt (hKb W L _ _ (by show w.heap.size ≤ w.heap.size + 1; omega) hl rfl rfl) hkp) (hKb W3 L _ _ (by show w.heap.size ≤ w.heap.size + 1; omega) hl3 rfl rfl)
    | ret => exact hp.elim
    | exit id => exact hp.elim
    | goto t => exact hp.elim
    | panic ch => exact hp.elim
    | outgrown => exact hp.elim
  · -- behind the iterator
    rintro e W2 ⟨⟨v, rfl⟩, xs, hS, hi, hl, hd⟩
    exact ⟨none, _, run_endLoop (P := P) hl (by intro h; cases h), hdone _ xs _ (Nat.le_refl _) hS (hI.putObj _ hi (by show w.heap.size ≤ w.heap.size + 1; omega) hl rfl) ((World.putObj_heap_other (by show w.heap.size ≠ w.heap.size + 1; omega)).trans hd)⟩
end Go.Proofs.YtbcoklbfebmpoaaGreatDoor

/-
  CONTRACTS OF strings.Builder's WRITERS, of a builder that the call itself made: copyCheck, WriteByte, WriteString.
-/
namespace Go.Proofs.YtbcoklbfebmpoaaGreatDoor
open Go.RowKit Go.Shelf

theorem info_byte : (Tryz.prog.info? 5).map (fun i => (i.zero, i.size, i.bytes)) = some (some (.int .u8 0), 1, 1) := by kernel_rfl
theorem info_builder : (Tryz.prog.info? 107).map (·.size) = some 2 := by kernel_rfl
theorem lies_builder : liesAt Tryz.prog Tryz.prog.depth 107 (2 / Tryz.prog.cellsOf 107) 0 107 1 = true := by kernel_rfl

set_option maxRecDepth 100000 in
theorem copyCheck_used (b : Nat) (w : World) (h0 : w.cell? ⟨b, 0, none⟩ = some (.pointer (some ⟨b, 0, none⟩))) :
    Calls Tryz.prog 81 #[.pointer (some ⟨b, 0, none⟩)] w fun e w' => e = .returned (.tuple #[]) ∧ w' = w := by
  obtain ⟨j, hj, _⟩ := Option.map_eq_some_iff.1 info_builder
  go_enter Tryz.func81, Tryz.ntmps81
  go_wp2
  rw [Lib.run_neq_ptr_same w _ Tryz.underlying104 hj]
  go_wp2
  go_end0
  exact ⟨rfl, rfl⟩

set_option maxRecDepth 100000 in
theorem copyCheck_fresh (b : Nat) (w : World) (h0 : w.cell? ⟨b, 0, none⟩ = some (.pointer none)) (hsh : w.shape? b = some (107, 2)) (hfz : w.frozen? ⟨b, 0, none⟩ = false) :
    Calls Tryz.prog 81 #[.pointer (some ⟨b, 0, none⟩)] w fun e w' => e = .returned (.tuple #[]) ∧ w' = w.setCell ⟨b, 0, none⟩ (.pointer (some ⟨b, 0, none⟩)) := by
  obtain ⟨j, hj, hjs⟩ := Option.map_eq_some_iff.1 info_builder
  go_enter Tryz.func81, Tryz.ntmps81
  go_wp2
  rw [Lib.run_to_unsafe w ⟨b, 0, none⟩ Tryz.underlying104 Tryz.underlying164 hj (by rw [hjs]; decide) hsh (Nat.zero_lt_succ 1)]
  simp only [Result.andThen]
  rw [Oper.upon_value]
  go_wp2
  rw [run_callFunc_extern Tryz.func119 (by kernel_rfl) (by kernel_rfl) (by kernel_rfl) (e := Extern.AbiNoEscape.same) (by kernel_rfl)]
  rw [Lib.run_noEscape]
  simp only [Result.andThen]
  rw [Oper.upon_value]
  go_wp2
  rw [Lib.run_from_unsafe w ⟨b, 0, none⟩ Tryz.underlying164 Tryz.underlying104 hj hsh lies_builder]
  simp only [Result.andThen]
  rw [Oper.upon_value]
  go_wp2
  go_end0
  exact ⟨rfl, rfl⟩

/-- A builder of the call's own. -/
abbrev Bld (B b : Nat) (bs : List Value) (w : World) : Prop := Lib.IsBuilderF 107 5 B b bs w
/-- .. that has been written. -/
abbrev BldU (B b : Nat) (bs : List Value) (w : World) : Prop := Lib.BuilderAtF 107 5 B b (.pointer (some ⟨b, 0, none⟩)) bs w
/-- What a writer leaves: what lay below, and whatever is neither the builder nor a row of bytes. -/
def Wrote (B b : Nat) (w w' : World) : Prop := Below B w w' ∧ Lib.OthersKept 5 (some b) w w'
theorem Wrote.trans {B b : Nat} {u v w : World} (h : Wrote B b u v) (k : Wrote B b v w) : Wrote B b u w := ⟨h.1.trans k.1, h.2.trans k.2⟩

theorem copyCheck_any (B b : Nat) (bs : List Value) (w : World) (h : Bld B b bs w) :
    Calls Tryz.prog 81 #[.pointer (some ⟨b, 0, none⟩)] w fun e w' => e = .returned (.tuple #[]) ∧ BldU B b bs w' ∧ Wrote B b w w' := by
  rcases h with h | h
  · refine (copyCheck_fresh b w h.cell0 h.shape h.frozen0).mono ?_
    rintro e w' ⟨rfl, rfl⟩
    exact ⟨rfl, h.used _, (Below.refl B w).setCell (p := ⟨b, 0, none⟩) h.1 _, (Lib.OthersKept.refl _ _ w).setCell ⟨b, 0, none⟩ rfl _⟩
  · refine (copyCheck_used b w h.cell0).mono ?_
    rintro e w' ⟨rfl, rfl⟩
    exact ⟨rfl, h, Below.refl B _, Lib.OthersKept.refl _ _ _⟩

set_option maxHeartbeats 2000000 in
set_option maxRecDepth 100000 in
theorem writeByte_any (B b : Nat) (bs : List Value) (c : Int) (w : World) (h : Bld B b bs w) (hlen : bs.length + 1 ≤ 140737488355328) (hBw : B ≤ w.heap.size) :
    Calls Tryz.prog 51 #[.pointer (some ⟨b, 0, none⟩), .int .u8 c] w fun e w' => e = .returned .nilIface ∧ BldU B b (bs ++ [.int .u8 c]) w' ∧ Wrote B b w w' := by
  obtain ⟨i0, hi, hz0, hz1, hz2⟩ := info_parts info_byte
  go_enter Tryz.func51, Tryz.ntmps51
  go_wp2_with (go_at_call 81; refine (copyCheck_any B b bs _ h).mono ?_)
  rintro e w1 ⟨rfl, h1, hb1, hk1⟩
  obtain ⟨hB, v, hbk, hown, hne⟩ := h1
  have c0 : w1.cell? ⟨b, 0, none⟩ = some (.pointer (some ⟨b, 0, none⟩)) := by rw [Lib.cell_of_heap hbk]; rfl
  have c1 : w1.cell? ⟨b, 1, none⟩ = some v := by rw [Lib.cell_of_heap hbk]; rfl
  go_wp2_with (at_builtin; refine wpList_append_ownF _ rfl _ _ 105 rfl B 5 i0 (.int .u8 0) 1 1 Tryz.underlying105 hi hz0 hz1 hz2 rfl (by decide) _ _ _ rfl (hown.alloc _) ⟨w1.heap.size, 0, none⟩ 1 1 [.int .u8 c] rfl rfl ?c1 ?c2 ?c3 ?c4 ?c5 ?_)
  case c1 =>
    intro j u hj
    match j, hj with
    | 0, hj => simp at hj; subst hj; simp [Addr.add]
  case c2 => intro u hu; simp at hu; subst hu; rfl
  case c3 => unfold maxLen; omega
  case c4 => omega
  case c5 => have := hb1.size; simp; omega
  intro v' w2 hown' hgrow _
  have hlt : b < w1.heap.size := by
    rcases Nat.lt_or_ge b w1.heap.size with h' | h'
    · exact h'
    · simp [Array.getElem?_eq_none h'] at hbk
  have hb2 : w2.heap[b]? = some (.cells #[.pointer (some ⟨b, 0, none⟩), v] 107 (0, 0)) := by
    rw [hgrow.block b (by simp <;> omega) (fun e => hne e.symm), Lib.alloc_old w1 _ b hlt]
    exact hbk
  have d0 : w2.cell? ⟨b, 0, none⟩ = some (.pointer (some ⟨b, 0, none⟩)) := by rw [Lib.cell_of_heap hb2]; rfl
  have d1 : w2.cell? ⟨b, 1, none⟩ = some v := by rw [Lib.cell_of_heap hb2]; rfl
  have f1 : w2.frozen? ⟨b, 1, none⟩ = false := Lib.frozen_of_heap hb2 1
  obtain ⟨g, cap, rfl⟩ : ∃ g cap, v' = .slice (some ⟨g, 0, none⟩) (bs.length + 1) cap := by
    rcases hown'.2 with ⟨_, h0⟩ | ⟨g, cap, cur, fz, hv, _⟩
    · omega
    · exact ⟨g, cap, hv⟩
  go_wp2
  go_ret
  refine ⟨rfl, ?_, ?_, ((hk1.alloc _).grown hgrow (Lib.ownsRowF_kind (hown.alloc _))).setCell ⟨b, 1, none⟩ rfl _⟩
  · exact Lib.BuilderAtF.put hB hb2 (bs' := bs ++ [.int .u8 c]) (by simpa using hown') (by decide)
  · exact ((hb1.alloc (by have := hb1.size; omega) _).grown hgrow (by have := hb1.size; simp; omega) (fun k hk => (hown.lt k hk).1)).setCell (p := ⟨b, 1, none⟩) hB _

set_option maxHeartbeats 2000000 in
set_option maxRecDepth 100000 in
theorem writeString_any (B b : Nat) (bs : List Value) (s : ByteArray) (w : World) (h : Bld B b bs w) (hlen : bs.length + s.size ≤ 140737488355328) (hBw : B ≤ w.heap.size) :
    Calls Tryz.prog 49 #[.pointer (some ⟨b, 0, none⟩), .string s] w fun e w' => e = .returned (.tuple #[.int .i64 s.size, .nilIface]) ∧ BldU B b (bs ++ Lib.strCells s) w' ∧ Wrote B b w w' := by
  obtain ⟨i0, hi, hz0, hz1, hz2⟩ := info_parts info_byte
  go_enter Tryz.func49, Tryz.ntmps49
  go_wp2_with (go_at_call 81; refine (copyCheck_any B b bs _ h).mono ?_)
  rintro e w1 ⟨rfl, h1, hb1, hk1⟩
  obtain ⟨hB, v, hbk, hown, hne⟩ := h1
  have c0 : w1.cell? ⟨b, 0, none⟩ = some (.pointer (some ⟨b, 0, none⟩)) := by rw [Lib.cell_of_heap hbk]; rfl
  have c1 : w1.cell? ⟨b, 1, none⟩ = some v := by rw [Lib.cell_of_heap hbk]; rfl
  go_wp2_with (at_builtin; refine Lib.wpList_append_own_stringF _ rfl _ _ 105 9 rfl B 5 i0 Tryz.underlying105 Tryz.underlying9 hi hz0 hz1 hz2 _ _ _ rfl hown s rfl ?c3 ?c4 ?c5 ?_)
  case c3 => unfold maxLen; omega
  case c4 => omega
  case c5 => have := hb1.size; omega
  intro v' w2 hown' hgrow _
  have hlt : b < w1.heap.size := by
    rcases Nat.lt_or_ge b w1.heap.size with h' | h'
    · exact h'
    · simp [Array.getElem?_eq_none h'] at hbk
  have hb2 : w2.heap[b]? = some (.cells #[.pointer (some ⟨b, 0, none⟩), v] 107 (0, 0)) := by
    rw [hgrow.block b hlt (fun e => hne e.symm)]
    exact hbk
  have d0 : w2.cell? ⟨b, 0, none⟩ = some (.pointer (some ⟨b, 0, none⟩)) := by rw [Lib.cell_of_heap hb2]; rfl
  have d1 : w2.cell? ⟨b, 1, none⟩ = some v := by rw [Lib.cell_of_heap hb2]; rfl
  have f1 : w2.frozen? ⟨b, 1, none⟩ = false := Lib.frozen_of_heap hb2 1
  obtain ⟨ao, n', cap, rfl⟩ : ∃ ao n' cap, v' = .slice ao n' cap := by
    rcases hown'.2 with ⟨hv, _⟩ | ⟨g, cap, cur, fz, hv, _⟩
    · exact ⟨_, _, _, hv⟩
    · exact ⟨_, _, _, hv⟩
  go_wp2
  go_ret2
  refine ⟨rfl, ?_, ?_, (hk1.grown hgrow (Lib.ownsRowF_kind hown)).setCell ⟨b, 1, none⟩ rfl _⟩
  · exact Lib.BuilderAtF.put hB hb2 (bs' := bs ++ Lib.strCells s) (by simpa [Lib.strCells_length] using hown') (by decide)
  · exact (hb1.grown hgrow (by have := hb1.size; omega) (fun k hk => (hown.lt k hk).1)).setCell (p := ⟨b, 1, none⟩) hB _
end Go.Proofs.YtbcoklbfebmpoaaGreatDoor

/-
  THE CONTRACT OF quoted, of a text that is well made.
-/
namespace Go.Proofs.YtbcoklbfebmpoaaGreatDoor
open Go.RowKit Go.Shelf
open Utf Term
set_option linter.unusedVariables false
attribute [local go_sem] Oper.semAt_some

theorem runes_next (n : Nat) (hn : 1 ≤ n) (Bs : Nat) (s : ByteArray) (hs : s.size ≤ 1000000000000) (w : World) (hBs : w.heap[Bs]? = some (.cells #[.string s] 9 (0, 0))) :
    SeqNext Fence.wide n Tryz.prog 160 #[.pointer (some ⟨Bs, 0, none⟩)] runeVals (KeepsBlock Bs) (fun pre x => pre ++ [x] <+: allR (bs s)) (fun ys => ys = allR (bs s)) w :=
  fun l J W hW _ hY h0 => (iter_in n hn l Bs s hs J (fun _ _ => False) (fun pre x W' hJ hp => (hY pre x W' hJ hp).mono fun e w' h => .inl h) W ((hW.block Bs (lt_of_block hBs)).trans hBs) h0).mono
    fun e W' ⟨hv, h⟩ => ⟨hv, h.elim (fun ⟨ys, h1, h2⟩ => ⟨ys, h1, h2⟩) (fun ⟨_, _, h⟩ => h.elim)⟩

theorem bld_kept {B b : Nat} {L : List Value} {W W' : World} {row : Option Nat} (h : Bld B b L W) (hg : W.grownBy W' row) (hr : ∀ r, row = some r → ∃ o : Obj, W.heap[r]? = some o ∧ o.isCells = false) : Bld B b L W' := by
  have one : ∀ p, Lib.BuilderAtF 107 5 B b p L W → Lib.BuilderAtF 107 5 B b p L W' := by
    intro p ⟨hB, v, hb, hown, hne⟩
    have hnb : b < W.heap.size := (Array.getElem?_eq_some_iff.1 hb).1
    refine ⟨hB, v, (hg.block b hnb fun e => ?_).trans hb, hown.kept hg ?_, hne⟩
    · obtain ⟨o, ho, hc⟩ := hr b e.symm
      rw [hb] at ho
      cases ho
      cases hc
    · rcases hown.2 with ⟨rfl, _⟩ | ⟨g, cap, cur, fz, rfl, _, hg2, _⟩
      · exact .inl rfl
      · right
        intro e
        obtain ⟨o, ho, hc⟩ := hr g e.symm
        rw [hg2] at ho
        cases ho
        cases hc
  exact h.imp (one _) (one _)

theorem bld_cells {B b : Nat} {L : List Value} {W : World} (h : Bld B b L W) : ∃ c f, W.heap[b]? = some (.cells c 107 f) := by
  rcases h with ⟨_, v, hb, _⟩ | ⟨_, v, hb, _⟩
  · exact ⟨_, _, hb⟩
  · exact ⟨_, _, hb⟩
theorem Wrote.keeps {B b : Nat} {L : List Value} {W W' : World} (h : Wrote B b W W') (hL : Bld B b L W) (X : Nat) : KeepsFrom X W W' :=
  ⟨h.1.size, fun k o _ hk ho => by
    by_cases hb : k = b
    · obtain ⟨c, f, hc⟩ := bld_cells hL
      rw [hb, hc] at hk
      cases hk
      cases ho
    · exact h.2 k o hk (by simpa using hb) (by rintro c fz rfl; cases ho)⟩
theorem Wrote.boxed {B b d t : Nat} {v : Value} {W W' : World} (h : Wrote B b W W') (hd : d ≠ b) (ht : t ≠ 5) (hb : Boxed W d t v) : Boxed W' d t v :=
  h.2 d _ hb (by simpa using hd) (by rintro c fz e; injection e with _ e2 _; exact ht e2)

/-- A list of bytes as numbers. -/
def nb (l : List UInt8) : List Int := l.map fun c => (c.toNat : Int)
theorem nb_append (a b : List UInt8) : nb (a ++ b) = nb a ++ nb b := by simp [nb]
theorem nb_length (a : List UInt8) : (nb a).length = a.length := by simp [nb]
theorem bs_data (s : ByteArray) : bs s = nb s.data.toList := rfl

theorem wrote_drewN {B b n : Nat} {W W' : World} (h : Wrote B b (W.drewN n) W') : Wrote B b W W' := ⟨(below_drewN B W n).trans h.1, h.2⟩
theorem bld_set {B b d t : Nat} {v : Value} {L : List Value} {W : World} (h : Bld B b L W) (hd : Boxed W d t v) (hne : d ≠ b) (ht : t ≠ 5) (u : Value) : Bld B b L (W.setCell ⟨d, 0, none⟩ u) := by
  have one : ∀ p, Lib.BuilderAtF 107 5 B b p L W → Lib.BuilderAtF 107 5 B b p L (W.setCell ⟨d, 0, none⟩ u) := by
    intro p ⟨hB, v', hb, hown, hnb⟩
    have hg := grownBy_setCell' W d u
    exact ⟨hB, v', (hg.block b (Array.getElem?_eq_some_iff.1 hb).1 (by simpa using fun e => hne e.symm)).trans hb, hown.kept hg (.inr (Lib.ownBlock_neF hown hd ht)), hnb⟩
  exact h.imp (one _) (one _)
theorem keeps_drewN (B : Nat) (W : World) (n : Nat) : KeepsFrom B W (W.drewN n) := ⟨Nat.le_refl _, fun _ _ _ h _ => h⟩
/-- Where the rounds stand. -/
def QI (s : ByteArray) (rs : List Int) (w0 : World) (b0 b d N : Nat) (pre : List RuneAt) (W : World) : Prop :=
  ∃ (ra rb : List Int) (done : Nat) (l : List UInt8), rs = ra ++ rb ∧ pre.map (·.1) = posR 0 ra ∧ Mid (bs s) ra done (nb l) ∧ Boxed W b0 9 (.string s) ∧ Boxed W d 3 (.int .i64 (done : Nat)) ∧ Bld b b (Lib.byteCells l) W ∧ Boxed W N 9 (.string s) ∧ Below w0.heap.size w0 W
theorem boxed_kept {W W' : World} {d t : Nat} {v : Value} {row : Option Nat} (h : Boxed W d t v) (hg : W.grownBy W' row) (hr : ∀ r, row = some r → ∃ o : Obj, W.heap[r]? = some o ∧ o.isCells = false) : Boxed W' d t v :=
  h.kept hg fun e => by
    obtain ⟨o, ho, hc⟩ := hr d e.symm
    rw [show W.heap[d]? = _ from h] at ho
    cases ho
    cases hc
theorem qi_own (s : ByteArray) (rs : List Int) (w0 : World) (b0 b d N X : Nat) (hX : w0.heap.size ≤ X) : OwnFrom X (QI s rs w0 b0 b d N) := by
  rintro pre W W' row ⟨ra, rb, done, l, h1, h2, h3, h4, h5, h6, h7, h8⟩ hg hr
  have hr' : ∀ r, row = some r → ∃ o : Obj, W.heap[r]? = some o ∧ o.isCells = false := fun r e => (hr r e).2
  exact ⟨ra, rb, done, l, h1, h2, h3, boxed_kept h4 hg hr', boxed_kept h5 hg hr', bld_kept h6 hg hr', boxed_kept h7 hg hr',
    h8.grown hg h8.size (fun k e => Nat.le_trans hX (hr k e).1)⟩

/-- The next rune. -/
theorem next_rune {s : ByteArray} {rs ra rb : List Int} {pre : List RuneAt} {x : RuneAt} (hrs : AllMay rs) (hv : bs s = encs rs) (hs : s.size ≤ 1000000000000) (h1 : rs = ra ++ rb) (h2 : pre.map (·.1) = posR 0 ra) (hn : pre ++ [x] <+: allR (bs s)) :
    ∃ rb', rs = ra ++ x.1.2 :: rb' ∧ x.1.1 = (encs ra).length := by
  have h3 : (pre ++ [x]).map (·.1) <+: (allR (bs s)).map (·.1) := hn.map _
  rw [hv, allR_encs hrs (by rw [← hv, bs_length]; exact hs), List.map_append, h2] at h3
  obtain ⟨rb', h4, h5⟩ := posR_next 0 ra rs x.1 hrs h3
  exact ⟨rb', h4, by omega⟩

set_option maxRecDepth 100000 in
set_option maxHeartbeats 4000000 in
theorem quoted_in (n : Nat) (hn : 5 ≤ n) (s : ByteArray) (hs : s.size ≤ 1000000000000) (rs : List Int) (hrs : AllMay rs) (hv : bs s = encs rs) (w : World) :
    CallsIn Fence.wide n Tryz.prog 146 #[.string s] w fun e W' => e = .returned (.string (strOfNums (quoteL (bs s)))) ∧ Below w.heap.size w W' := by
  have h1 : 1 ≤ n := by omega
  have HV := Lib.hid hv
  have HR := Lib.hid hrs
  clear hv hrs
  refine callsIn_of_wp_marks Tryz.func146 rfl trivial ?_ rfl
  simp only [Tryz.ntmps146, List.size_toArray, List.length_cons, List.length_nil, Nat.reduceAdd, Nat.reduceSub, Array.replicate_succ, Array.replicate_zero, List.push_toArray, List.append_toArray, List.nil_append, List.cons_append]
  have hB1 : Below w.heap.size w ((w.alloc (.cells #[.string s] 9)).alloc (.cells #[.pointer none, .slice none 0 0] 107)) := ((Below.refl _ w).alloc (Nat.le_refl _) _).alloc (by simp) _
  have q0 := (Boxed.new w 9 (.string s)).alloc (.cells #[.pointer none, .slice none 0 0] 107)
  have hb0 : Bld (w.heap.size + 1) (w.heap.size + 1) [] ((w.alloc (.cells #[.string s] 9)).alloc (.cells #[.pointer none, .slice none 0 0] 107)) :=
    .inl ⟨Nat.le_refl _, .slice none 0 0, by have := World.alloc_heap_new (w.alloc (.cells #[.string s] 9)) (.cells #[.pointer none, .slice none 0 0] 107); rwa [World.size_alloc] at this, World.ownsRowF_nil _ _ _ _, by simp [Value.ownBlock]⟩
  have C1 := Lib.hid (writeByte_any (w.heap.size + 1) (w.heap.size + 1) [] 34 _ hb0 (by simp) (by simp))
  gi_wp2_with (refine ⟨trivial, ?_⟩; gi_at_call 51; refine (callsIn_wide.2 C1.out).mono ?_; rintro e w1 ⟨rfl, hb1, hw1⟩; have q1 := hw1.boxed (by omega) (by decide) q0; have c1 := ((Boxed.alloc q1 (.cells #[.int .i64 0] 3))).cell)
  refine ⟨trivial, ?_⟩
  refine (runes_in Fence.wide (n - 1) trivial rfl _ _).mono ?_
  rintro e w' ⟨rfl, rfl⟩
  gi_wp2
  have hB2 : Below w.heap.size w w1 := hB1.trans (hw1.1.mono (by omega))
  have hs1 : w.heap.size + 1 < w1.heap.size := by have := hw1.1.size; simp at this; omega
  have bD := (Boxed.new w1 3 (.int .i64 0)).alloc (.cells #[.string s] 9)
  have bN := Boxed.new (w1.alloc (.cells #[.int .i64 0] 3)) 9 (.string s)
  rw [World.size_alloc] at bN
  refine wpIn_range_next rfl h1 (gf := 160) (lb := #[.pointer (some ⟨w1.heap.size + 1, 0, none⟩)]) rfl trivial (enters_of Tryz.func160 (by kernel_rfl) rfl)
    (runes_next (n - 1) (by omega) (w1.heap.size + 1) s hs _ bN) keeps_t (keeps_b (by simp)) (fun _ => rfl)
    (QI s rs w w.heap.size (w.heap.size + 1) w1.heap.size (w1.heap.size + 1)) (qi_own _ _ _ _ _ _ _ _ (by simp <;> omega))
    ⟨[], rs, 0, [34], rfl, rfl, mid_start _, (q1.alloc _).alloc _, bD, .inr ((hb1.alloc _).alloc _), bN, (hB2.alloc hB2.size _).alloc (by have := hB2.size; simp; omega) _⟩
    (fun x => { tmps := #[.string s, .pointer (some ⟨w.heap.size, 0, none⟩), .string ⟨#[]⟩, .pointer (some ⟨w.heap.size + 1, 0, none⟩), .pointer (some ⟨w1.heap.size, 0, none⟩), .int .i64 (x.1.1 : Int), .int .i64 x.1.2, undef, .nilIface, .string s, .func (.func 160) #[] #[.pointer (some ⟨w1.heap.size + 1, 0, none⟩)], .int .i64 (x.1.1 : Int), .int .i64 x.1.2, undef, undef, undef, undef, undef, undef, undef, undef, undef, undef, undef, undef, undef, undef, undef, undef, undef, undef, undef], defers := [] }) ?assign ?body ?done
  case assign =>
    intro l x W K hK
    gi_wp2
    exact hK
  case body =>
    rintro l pre x W ⟨ra, rb, done, bl, e1, e2, hmid, k0, kd, kb, hN, hB⟩ hnx
    have h2 : 1 ≤ n - 1 - 1 := by omega
    obtain ⟨rb', e3, e4⟩ := next_rune HR.out HV.out hs e1 e2 hnx
    have hx0 := x.2.1
    have hxm := x.2.2
    have CE := escape_any x.1.2 W hxm.1
    have hlen := mid_len hmid
    have hle : (encs ra).length + (enc x.1.2).length ≤ s.size := by
      have := congrArg List.length HV.out
      rw [bs_length, e3, encs_append, encs_cons, List.length_append, List.length_append] at this
      omega
    have hWs : w.heap.size + 1 < W.heap.size := by have := kd.lt; omega
    have c0 := k0.cell
    have cd := kd.cell
    have fd := kd.frozen
    have hpre2 : (pre ++ [x]).map (·.1) = posR 0 (ra ++ [x.1.2]) := by
      rw [List.map_append, e2]
      have : ∀ (p : Nat) (a : List Int) (r : Int), AllMay a → posR p (a ++ [r]) = posR p a ++ [(p + (encs a).length, r)] := by
        intro p a
        induction a generalizing p with
        | nil => intro r _; simp [posR, encs_nil]
        | cons q a ih =>
          intro r ha
          rw [List.cons_append, posR, posR, ih _ _ ha.tail, encs_cons, List.length_append, rsize_enc ha.head, Nat.add_assoc]
          rfl
      rw [this 0 ra x.1.2 (fun c hc => HR.out c (by rw [e3]; simp [hc]))]
      simp [← e4]
    have e5 : rs = (ra ++ [x.1.2]) ++ rb' := by rw [e3]; simp
    have H2 := Lib.hid e2
    have H3 := Lib.hid e3
    have H4 := Lib.hid e4
    have H5 := Lib.hid e5
    have HP := Lib.hid hpre2
    have HM := Lib.hid hmid
    have H1 := Lib.hid e1
    have HL := Lib.hid hlen
    clear e1 e2 e3 e4 e5 hpre2 hmid hlen
    have hL : bl.length ≤ 1 + 6 * s.size := by
      have h0 := HL.out
      rw [nb_length] at h0
      omega
    by_cases hesc : esc x.1.2 = []
    · rw [hesc] at CE
      have CE' : Calls Tryz.prog 159 #[.int .i64 x.1.2] W fun e w' => e = .returned (.string ⟨#[]⟩) ∧ ∃ n, w' = W.drewN n := CE
      have HE := Lib.hid hesc
      clear CE hesc
      gi_wp2_with (refine ⟨trivial, ?_⟩; gi_at_call 159; refine (CallsIn.inRound l (callsIn_wide.2 CE')).mono ?_; rintro e w2 ⟨rfl, nd, rfl⟩)
      exact ⟨keeps_drewN _ _ _, rfl, ra ++ [x.1.2], rb', done, bl, H5.out, HP.out, mid_keep (by rw [HV.out, H3.out]) hxm HE.out HM.out, k0, kd, kb, hN, hB.trans (below_drewN _ _ _)⟩
    · have hES : bs (strOfNums (esc x.1.2)) = esc x.1.2 := bs_strOfNums (by
        have hall : ∀ r : Fin 128, ∀ c ∈ esc (r.val : Nat), 0 ≤ c ∧ c ≤ 255 := by decide +kernel
        intro c hc
        obtain ⟨a, ha⟩ := Int.eq_ofNat_of_zero_le hxm.1
        have := esc_low hesc
        rw [ha] at hc
        exact hall ⟨a, by omega⟩ c hc)
      have hpos : 0 < (strOfNums (esc x.1.2)).size := by
        rw [← bs_length, hES]
        exact List.length_pos_iff.2 hesc
      have h6 := esc_length x.1.2
      have hsz6 : (strOfNums (esc x.1.2)).size ≤ 6 := by rw [← bs_length, hES]; exact h6
      have hne : (strOfNums (esc x.1.2)).toList.isEmpty = false := nonempty hpos
      generalize hEq : strOfNums (esc x.1.2) = ES at *
      have HE := Lib.hid hesc
      have HES := Lib.hid hES
      have hdi : done ≤ x.1.1 := by have := HM.out.1; have := H4.out; omega
      have hil : x.1.1 + 1 ≤ s.size := by
        have h7 := H4.out
        have h8 : 1 ≤ (enc x.1.2).length := List.length_pos_iff.2 (enc_ne _)
        omega
      have hsl : ∀ W, (Instr.slice 9 (.string s) (some (.int .i64 (done : Int))) (some (.int .i64 (x.1.1 : Int))) none).run Tryz.prog W = .ok (.string (s.extract done x.1.1)) W := by
        intro W
        rw [run_slice_string W 9 s .i64 .i64 (done : Int) (x.1.1 : Int) Tryz.underlying9 (by omega) (by omega) (by omega)]
        simp
      clear hesc hES hEq h6 hle
      gi_wp2_with (refine ⟨trivial, ?_⟩; gi_at_call 159; refine (CallsIn.inRound l (callsIn_wide.2 CE)).mono ?_; rintro e w2 ⟨rfl, nd, rfl⟩)
      refine ⟨trivial, ?_⟩
      have hbl : (Lib.byteCells bl).length = bl.length := Lib.byteCells_length _
      have hex : (s.extract done x.1.1).size ≤ s.size := by simp; omega
      refine (CallsIn.inRound l (callsIn_wide.2 (writeString_any (w.heap.size + 1) (w.heap.size + 1) (Lib.byteCells bl) (s.extract done x.1.1) (W.drewN nd) kb (by rw [hbl]; omega) (by show w.heap.size + 1 ≤ W.heap.size; omega)))).mono ?_
      rintro e w3 ⟨rfl, hb3, hw3⟩
      have j0 := hw3.boxed (by omega) (by decide) k0
      have jd := hw3.boxed (by omega) (by decide) kd
      have hw2 : Wrote (w.heap.size + 1) (w.heap.size + 1) W w3 := wrote_drewN hw3
      have cs2 : Lib.byteCells bl ++ Lib.strCells (s.extract done x.1.1) = Lib.byteCells (bl ++ (s.extract done x.1.1).data.toList) := (Lib.byteCells_append _ _).symm
      rw [cs2] at hb3
      clear c0 cd fd hw3 cs2
      have c0 := j0.cell
      have cd := jd.cell
      have fd := jd.frozen
      gi_wp2_with fail
      refine ⟨trivial, ?_⟩
      have hbl2 : (Lib.byteCells (bl ++ (s.extract done x.1.1).data.toList)).length ≤ 1 + 7 * s.size := by
        rw [Lib.byteCells_length, List.length_append]
        have : (s.extract done x.1.1).data.toList.length = (s.extract done x.1.1).size := rfl
        omega
      refine (CallsIn.inRound l (callsIn_wide.2 (writeString_any (w.heap.size + 1) (w.heap.size + 1) _ ES w3 (.inr hb3) (by omega) (by have := hw2.1.size; omega)))).mono ?_
      rintro e w4 ⟨rfl, hb4, hw4⟩
      have l0 := hw4.boxed (by omega) (by decide) j0
      have ld := hw4.boxed (by omega) (by decide) jd
      have hw5 := hw2.trans hw4
      have cs4 : Lib.byteCells (bl ++ (s.extract done x.1.1).data.toList) ++ Lib.strCells ES = Lib.byteCells (bl ++ (s.extract done x.1.1).data.toList ++ ES.data.toList) := (Lib.byteCells_append _ _).symm
      rw [cs4] at hb4
      clear c0 cd fd hw4 hw2 cs4
      have c0 := l0.cell
      have cd := ld.cell
      have fd := ld.frozen
      have jN := hw5.boxed (by omega) (by decide) hN
      gi_wp2
      refine ⟨(hw5.keeps kb _).trans ((KeepsOthers.setCell _ _ _).from _), ?_, ra ++ [x.1.2], rb', x.1.1 + 1, bl ++ (s.extract done x.1.1).data.toList ++ ES.data.toList, H5.out, HP.out, ?_, l0.other (by omega) _, ?_, bld_set (.inr hb4) ld (by omega) (by decide) _, jN.other (by omega) _, ?_⟩
      · show ((w4.setCell ⟨w1.heap.size, 0, none⟩ (.int .i64 (x.1.1 + 1))).heap[w1.heap.size + 1]?) = W.heap[w1.heap.size + 1]?
        rw [show W.heap[w1.heap.size + 1]? = _ from hN]
        exact jN.other (by omega) _
      · have hm := mid_esc HE.out HM.out
        rw [nb_append, nb_append, ← bs_data, ← bs_data, bs_extract, HES.out, H4.out]
        exact hm
      · exact ld.set _
      · exact (hB.trans (hw5.1.mono (by omega))).setCell (p := ⟨w1.heap.size, 0, none⟩) (by simp <;> omega) _
  case done =>
    rintro D ys W hD rfl ⟨ra, rb, done, bl, e1, e2, hmid, k0, kd, kb, hN, hB⟩ hK
    have hra : ra = rs := by
      have h := allR_encs HR.out (by rw [← HV.out, bs_length]; exact hs)
      rw [← HV.out, e2] at h
      rw [← posR_snd ra 0, ← posR_snd rs 0, h]
    subst hra
    have hle : done ≤ s.size := by
      have h0 := hmid.1
      rw [← HV.out, bs_length] at h0
      exact h0
    have hL : bl.length ≤ 1 + 6 * s.size := by
      have h0 := mid_len hmid
      rw [nb_length, ← HV.out, bs_length] at h0
      exact h0
    have HQ := Lib.hid (mid_end HV.out hmid)
    have hWs : w.heap.size + 1 < W.heap.size := by have := kd.lt; omega
    have c0 := k0.cell
    have cd := kd.cell
    have hsl : ∀ W, (Instr.slice 9 (.string s) (some (.int .i64 (done : Int))) none none).run Tryz.prog W = .ok (.string (s.extract done s.size)) W := by
      intro W
      rw [run_slice_string_from_if W 9 s .i64 (done : Int) Tryz.underlying9, if_pos ⟨by omega, by omega⟩]
      simp
    have HD := Lib.hid hK
    clear e1 e2 hmid hK
    have hex : (s.extract done s.size).size ≤ s.size := by simp
    gi_wp2_with fail
    refine ⟨trivial, ?_⟩
    refine (callsIn_wide.2 (writeString_any (w.heap.size + 1) (w.heap.size + 1) (Lib.byteCells bl) (s.extract done s.size) W kb (by rw [Lib.byteCells_length]; omega) (Nat.le_of_lt hWs))).mono ?_
    rintro e w3 ⟨rfl, hb3, hw3⟩
    have cs3 : Lib.byteCells bl ++ Lib.strCells (s.extract done s.size) = Lib.byteCells (bl ++ (s.extract done s.size).data.toList) := (Lib.byteCells_append _ _).symm
    rw [cs3] at hb3
    clear cs3 c0 cd
    gi_wp2_with fail
    refine ⟨trivial, ?_⟩
    refine (callsIn_wide.2 (writeByte_any (w.heap.size + 1) (w.heap.size + 1) _ 34 w3 (.inr hb3) (by rw [Lib.byteCells_length, List.length_append, show (s.extract done s.size).data.toList.length = (s.extract done s.size).size from rfl]; omega) (by have := hw3.1.size; omega))).mono ?_
    rintro e w4 ⟨rfl, hb4, hw4⟩
    have cs4 : Lib.byteCells (bl ++ (s.extract done s.size).data.toList) ++ [Value.int .u8 34] = Lib.byteCells (bl ++ (s.extract done s.size).data.toList ++ [34]) := (Lib.byteCells_append _ [34]).symm
    rw [cs4] at hb4
    have hw5 := hw3.trans hw4
    clear cs4 hw3 hw4
    gi_wp2_with fail
    refine ⟨trivial, ?_⟩
    refine (callsIn_wide.2 (Tryz.Builder_String_any_k (w.heap.size + 1) (w.heap.size + 1) _ w4 (.inr hb4) (by have := hw5.1.size; omega))).mono ?_
    rintro e w6 ⟨rfl, _, hB6, hO6⟩
    have hw7 : Wrote (w.heap.size + 1) (w.heap.size + 1) W w6 := hw5.trans ⟨hB6, hO6⟩
    have hK6 : w6.heap[D]? = some (.deferred (some [])) := (hw7.keeps kb 0).same D _ (Nat.zero_le _) HD.out rfl
    gi_wp2
    refine ⟨by simp, .inl ⟨_, _, rfl, run_takeDeferred hK6, ?_⟩⟩
    refine ⟨_, results_tmp rfl _ _ _, ?_, (hB.trans (hw7.1.mono (by omega))).trans (belowK_b (w := w) (Nat.le_refl _) w6 D _ _ (by simp at hD; omega) hK6 rfl rfl)⟩
    have hfin : (⟨(bl ++ (s.extract done s.size).data.toList ++ [34]).toArray⟩ : ByteArray) = strOfNums (quoteL (bs s)) := by
      apply bs_inj
      rw [bs_strOfNums, ← HQ.out]
      · show nb (bl ++ (s.extract done s.size).data.toList ++ [34]) = _
        rw [nb_append, nb_append, ← bs_data, bs_rest]
        rfl
      · rw [← HQ.out]
        intro c hc
        have hnb : ∀ (l : List UInt8), ∀ c ∈ nb l, IsByte c := by
          intro l c h
          obtain ⟨u, _, rfl⟩ := List.mem_map.1 h
          exact byte_bd u
        rcases List.mem_append.1 hc with hc | hc
        · rcases List.mem_append.1 hc with hc | hc
          · exact hnb bl c hc
          · exact bs_byte s c (List.mem_of_mem_drop hc)
        · simp at hc; subst hc; exact ⟨by decide, by decide⟩
    refine ret_str ?_
    rw [← List.append_assoc, ← Lib.extract_data]
    exact hfin

theorem quoted_any (s : ByteArray) (hs : s.size ≤ 1000000000000) (hv : valid (bs s) = true) (w : World) :
    Calls Tryz.prog 146 #[.string s] w fun e W' => e = .returned (.string (strOfNums (quoteL (bs s)))) ∧ Below w.heap.size w W' := by
  obtain ⟨rs, hrs, h⟩ := (valid_iff (by rw [bs_length]; exact hs)).1 hv
  exact callsIn_wide.1 (quoted_in 5 (Nat.le_refl _) s hs rs hrs h w)
end Go.Proofs.YtbcoklbfebmpoaaGreatDoor

/-
  A TERM's TEXT, as a list of bytes.
-/
namespace Go.Proofs.YtbcoklbfebmpoaaGreatDoor
open Go.RowKit
open Utf Term
set_option linter.unusedVariables false

theorem bs_app (a b : ByteArray) : bs (a ++ b) = bs a ++ bs b := by
  unfold bs
  simp

namespace Term
/-- A term's text. -/
def textL (k : Int) (t x : ByteArray) : List Int :=
  if k = 1 then 60 :: (bs t ++ [62]) else if k = 2 then 95 :: 58 :: bs t else if k = 4 then quoteL (bs t) ++ 64 :: bs x
  else if k = 5 then quoteL (bs t) ++ 94 :: 94 :: 60 :: (bs x ++ [62]) else quoteL (bs t)
theorem quoteL_byte {l : List Int} (h : ∀ c ∈ l, IsByte c) : ∀ c ∈ quoteL l, IsByte c := by
  have h34 : IsByte 34 := ⟨by decide, by decide⟩
  intro c hc
  unfold quoteL at hc
  rcases List.mem_cons.1 hc with rfl | hc
  · exact h34
  · rcases List.mem_append.1 hc with hc | hc
    · obtain ⟨d, hd, hc⟩ := List.mem_flatMap.1 hc
      unfold shown at hc
      split at hc
      · simp at hc; rw [hc]; exact h d hd
      · rename_i he
        have hl := esc_low he
        have hall : ∀ r : Fin 128, ∀ c ∈ esc (r.val : Nat), 0 ≤ c ∧ c ≤ 255 := by decide +kernel
        obtain ⟨a, ha⟩ := Int.eq_ofNat_of_zero_le (h d hd).1
        rw [ha] at hc
        exact hall ⟨a, by omega⟩ c hc
    · simp at hc; subst hc; exact h34
end Term

theorem bs_quote (s : ByteArray) : bs (strOfNums (quoteL (bs s))) = quoteL (bs s) := bs_strOfNums (quoteL_byte (bs_byte s))

theorem strOf_eq {S : ByteArray} {l : List Int} (h : bs S = l) : S = strOfNums l := by
  apply bs_inj
  rw [bs_strOfNums (by rw [← h]; exact bs_byte S), h]
end Go.Proofs.YtbcoklbfebmpoaaGreatDoor

/-
  THE CONTRACT OF Text.
-/
namespace Go.Proofs.YtbcoklbfebmpoaaGreatDoor
open Go.RowKit
open Utf Term
set_option linter.unusedVariables false

set_option maxRecDepth 100000 in
set_option maxHeartbeats 2000000 in
theorem text_no (k : Int) (t x : ByteArray) (ht : t.size ≤ 1000000000000) (hx : x.size ≤ 1000000000000) (m : Int) (w : World) (hm : w.cell? ⟨1, 0, none⟩ = some (.int .i64 m)) (hk : mayS k t x = false) :
    Calls Tryz.prog 122 #[termV k t x] w fun e w' => e = .returned (.tuple #[.string ⟨#[]⟩, .int .i64 2]) ∧ Below w.heap.size w w' := by
  have hB1 : Below w.heap.size w (w.alloc (.cells #[.int .i64 k, .string t, .string x] 31)) := (Below.refl _ w).alloc (Nat.le_refl _) _
  have C := may_term k t x ht hx m _ ((hB1.cell (p := ⟨1, 0, none⟩) (World.block_lt_of_cell? _ _ hm)).trans hm)
  rw [hk] at C
  clear hk hm
  go_enter Tryz.func122, Tryz.ntmps122
  go_wp2_with (go_at_call 34; refine C.mono ?_; rintro e w2 ⟨rfl, hB2⟩)
  go_ret2
  exact ⟨rfl, hB1.trans (hB2.mono hB1.size)⟩

theorem box_cells2 {w w2 : World} {k : Int} {t x : ByteArray} (hB : Below (w.alloc (.cells #[.int .i64 k, .string t, .string x] 31)).heap.size (w.alloc (.cells #[.int .i64 k, .string t, .string x] 31)) w2) :
    w2.cell? ⟨w.heap.size, 0, none⟩ = some (.int .i64 k) ∧ w2.cell? ⟨w.heap.size, 1, none⟩ = some (.string t) ∧ w2.cell? ⟨w.heap.size, 2, none⟩ = some (.string x) := box_cells ⟨hB.os, hB.tape, hB.output, hB.size, hB.block⟩

theorem ret_st {a b : ByteArray} {v : Value} (h : a = b) : Ending.returned (.tuple #[.string a, v]) = .returned (.tuple #[.string b, v]) := by rw [h]
theorem quote_size (t : ByteArray) (ht : t.size ≤ 1000000000000) : (strOfNums (quoteL (bs t))).size ≤ 6000000000002 := by
  rw [strOfNums_size]
  unfold quoteL
  have h1 := shown_len (bs t)
  rw [bs_length] at h1
  simp only [List.length_cons, List.length_append, List.length_nil]
  omega
theorem text_below {w w2 w3 : World} {o : Obj} (hB : Below (w.alloc o).heap.size (w.alloc o) w2) (hB3 : Below w2.heap.size w2 w3) : Below w.heap.size w w3 := by
  have h1 : Below w.heap.size w (w.alloc o) := (Below.refl _ w).alloc (Nat.le_refl _) _
  have h2 := h1.trans (hB.mono h1.size)
  exact h2.trans (hB3.mono h2.size)
theorem cell_kept2 {w2 w3 : World} {a : Addr} {v : Value} (hB : Below w2.heap.size w2 w3) (h : w2.cell? a = some v) : w3.cell? a = some v := (hB.cell (World.block_lt_of_cell? _ _ h)).trans h

set_option maxRecDepth 100000 in
set_option maxHeartbeats 2000000 in
theorem text_1 (t x : ByteArray) (ht : t.size ≤ 1000000000000) (hx : x.size ≤ 1000000000000) (m : Int) (w : World) (hm : w.cell? ⟨1, 0, none⟩ = some (.int .i64 m)) (hk : mayS 1 t x = true) :
    Calls Tryz.prog 122 #[termV 1 t x] w fun e w' => e = .returned (.tuple #[.string (strOfNums (textL 1 t x)), .int .i64 0]) ∧ Below w.heap.size w w' := by
  have hB1 : Below w.heap.size w (w.alloc (.cells #[.int .i64 1, .string t, .string x] 31)) := (Below.refl _ w).alloc (Nat.le_refl _) _
  have C := may_term 1 t x ht hx m _ ((hB1.cell (p := ⟨1, 0, none⟩) (World.block_lt_of_cell? _ _ hm)).trans hm)
  rw [hk] at C
  clear hk hm
  go_enter Tryz.func122, Tryz.ntmps122
  go_wp2_with (go_at_call 34; refine C.mono ?_; rintro e w2 ⟨rfl, hB2⟩; obtain ⟨d0, d1, d2⟩ := box_cells2 hB2)
  go_ret2
  refine ⟨ret_st (strOf_eq ?_), text_below hB2 (Below.refl _ _)⟩
  rw [bs_app, bs_app]
  rfl
set_option maxRecDepth 100000 in
set_option maxHeartbeats 2000000 in
theorem text_2 (t x : ByteArray) (ht : t.size ≤ 1000000000000) (hx : x.size ≤ 1000000000000) (m : Int) (w : World) (hm : w.cell? ⟨1, 0, none⟩ = some (.int .i64 m)) (hk : mayS 2 t x = true) :
    Calls Tryz.prog 122 #[termV 2 t x] w fun e w' => e = .returned (.tuple #[.string (strOfNums (textL 2 t x)), .int .i64 0]) ∧ Below w.heap.size w w' := by
  have hB1 : Below w.heap.size w (w.alloc (.cells #[.int .i64 2, .string t, .string x] 31)) := (Below.refl _ w).alloc (Nat.le_refl _) _
  have C := may_term 2 t x ht hx m _ ((hB1.cell (p := ⟨1, 0, none⟩) (World.block_lt_of_cell? _ _ hm)).trans hm)
  rw [hk] at C
  clear hk hm
  go_enter Tryz.func122, Tryz.ntmps122
  go_wp2_with (go_at_call 34; refine C.mono ?_; rintro e w2 ⟨rfl, hB2⟩; obtain ⟨d0, d1, d2⟩ := box_cells2 hB2)
  go_ret2
  refine ⟨ret_st (strOf_eq ?_), text_below hB2 (Below.refl _ _)⟩
  rw [bs_app]
  rfl
set_option maxRecDepth 100000 in
set_option maxHeartbeats 2000000 in
theorem text_3 (t x : ByteArray) (ht : t.size ≤ 1000000000000) (hx : x.size ≤ 1000000000000) (m : Int) (w : World) (hm : w.cell? ⟨1, 0, none⟩ = some (.int .i64 m)) (hk : mayS 3 t x = true) :
    Calls Tryz.prog 122 #[termV 3 t x] w fun e w' => e = .returned (.tuple #[.string (strOfNums (textL 3 t x)), .int .i64 0]) ∧ Below w.heap.size w w' := by
  have hB1 : Below w.heap.size w (w.alloc (.cells #[.int .i64 3, .string t, .string x] 31)) := (Below.refl _ w).alloc (Nat.le_refl _) _
  have C := may_term 3 t x ht hx m _ ((hB1.cell (p := ⟨1, 0, none⟩) (World.block_lt_of_cell? _ _ hm)).trans hm)
  have hv : valid (bs t) = true := by
    have h0 : (noExtra x && isValueB (bs t)) = true := hk
    unfold isValueB at h0
    simp only [Bool.and_eq_true] at h0
    exact h0.2.2
  have CQ := fun W => quoted_any t ht hv W
  clear hv
  rw [hk] at C
  clear hk hm
  go_enter Tryz.func122, Tryz.ntmps122
  go_wp2_with (go_at_call 34; refine C.mono ?_; rintro e w2 ⟨rfl, hB2⟩; obtain ⟨d0, d1, d2⟩ := box_cells2 hB2)
  refine (CQ _).mono ?_
  rintro e w3 ⟨rfl, hB3⟩
  go_wp2
  go_ret2
  exact ⟨rfl, text_below hB2 hB3⟩
theorem below_of_drew {w w' : World} (h : Below w.drew.heap.size w.drew w') : Below w.heap.size w w' := ⟨h.os, h.tape, h.output, h.size, h.block⟩
set_option maxRecDepth 100000 in
set_option maxHeartbeats 2000000 in
theorem text_4 (t x : ByteArray) (ht : t.size ≤ 1000000000000) (hx : x.size ≤ 1000000000000) (m : Int) (w : World) (hm : w.cell? ⟨1, 0, none⟩ = some (.int .i64 m)) (hk : mayS 4 t x = true) :
    Calls Tryz.prog 122 #[termV 4 t x] w fun e w' => e = .returned (.tuple #[.string (strOfNums (textL 4 t x)), .int .i64 0]) ∧ Below w.heap.size w w' := by
  have hB1 : Below w.heap.size w (w.alloc (.cells #[.int .i64 4, .string t, .string x] 31)) := (Below.refl _ w).alloc (Nat.le_refl _) _
  have C := may_term 4 t x ht hx m _ ((hB1.cell (p := ⟨1, 0, none⟩) (World.block_lt_of_cell? _ _ hm)).trans hm)
  have hv : valid (bs t) = true := by
    have h0 : (isTagS x && isValueB (bs t)) = true := hk
    unfold isValueB at h0
    simp only [Bool.and_eq_true] at h0
    exact h0.2.2
  have CQ := fun W => quoted_any t ht hv W
  clear hv
  rw [hk] at C
  clear hk hm
  have hq := quote_size t ht
  have HQ := Lib.hid (bs_quote t)
  generalize strOfNums (quoteL (bs t)) = Q at *
  go_enter Tryz.func122, Tryz.ntmps122
  go_wp2_with (go_at_call 34; refine C.mono ?_; rintro e w2 ⟨rfl, hB2⟩; obtain ⟨d0, d1, d2⟩ := box_cells2 hB2)
  go_region_with (go_at_call 146; refine (CQ _).mono ?_; rintro e w3 ⟨rfl, hB3⟩; have q0 := cell_kept2 hB3 d0; have q1 := cell_kept2 hB3 d1; have q2 := cell_kept2 hB3 d2)
  all_goals
    go_wp2
    go_ret2
    refine ⟨ret_st (strOf_eq ?_), text_below hB2 (below_of_drew hB3)⟩
    rw [bs_app, bs_app, HQ.out]
    show _ ++ [64] ++ _ = quoteL (bs t) ++ 64 :: bs x
    simp
set_option maxRecDepth 100000 in
set_option maxHeartbeats 2000000 in
theorem text_5 (t x : ByteArray) (ht : t.size ≤ 1000000000000) (hx : x.size ≤ 1000000000000) (m : Int) (w : World) (hm : w.cell? ⟨1, 0, none⟩ = some (.int .i64 m)) (hk : mayS 5 t x = true) :
    Calls Tryz.prog 122 #[termV 5 t x] w fun e w' => e = .returned (.tuple #[.string (strOfNums (textL 5 t x)), .int .i64 0]) ∧ Below w.heap.size w w' := by
  have hB1 : Below w.heap.size w (w.alloc (.cells #[.int .i64 5, .string t, .string x] 31)) := (Below.refl _ w).alloc (Nat.le_refl _) _
  have C := may_term 5 t x ht hx m _ ((hB1.cell (p := ⟨1, 0, none⟩) (World.block_lt_of_cell? _ _ hm)).trans hm)
  have hv : valid (bs t) = true := by
    have h0 : (isTypeB (bs x) && isValueB (bs t)) = true := hk
    unfold isValueB at h0
    simp only [Bool.and_eq_true] at h0
    exact h0.2.2
  have CQ := fun W => quoted_any t ht hv W
  clear hv
  rw [hk] at C
  clear hk hm
  have hq := quote_size t ht
  have HQ := Lib.hid (bs_quote t)
  generalize strOfNums (quoteL (bs t)) = Q at *
  go_enter Tryz.func122, Tryz.ntmps122
  go_wp2_with (go_at_call 34; refine C.mono ?_; rintro e w2 ⟨rfl, hB2⟩; obtain ⟨d0, d1, d2⟩ := box_cells2 hB2)
  go_region_with (go_at_call 146; refine (CQ _).mono ?_; rintro e w3 ⟨rfl, hB3⟩; have q0 := cell_kept2 hB3 d0; have q1 := cell_kept2 hB3 d1; have q2 := cell_kept2 hB3 d2)
  all_goals
    go_wp2
    go_ret2
    refine ⟨ret_st (strOf_eq ?_), text_below hB2 (below_of_drew hB3)⟩
    rw [bs_app, bs_app, bs_app, HQ.out]
    show _ ++ [94, 94, 60] ++ _ ++ [62] = quoteL (bs t) ++ 94 :: 94 :: 60 :: (bs x ++ [62])
    simp

/-- A term's text, or none. -/
def TextDone (k : Int) (t x : ByteArray) : Ending := if mayS k t x then .returned (.tuple #[.string (strOfNums (textL k t x)), .int .i64 0]) else .returned (.tuple #[.string ⟨#[]⟩, .int .i64 2])
theorem text_any (k : Int) (t x : ByteArray) (ht : t.size ≤ 1000000000000) (hx : x.size ≤ 1000000000000) (m : Int) (w : World) (hm : w.cell? ⟨1, 0, none⟩ = some (.int .i64 m)) :
    Calls Tryz.prog 122 #[termV k t x] w fun e w' => e = TextDone k t x ∧ Below w.heap.size w w' := by
  unfold TextDone
  cases hk : mayS k t x with
  | false => exact text_no k t x ht hx m w hm hk
  | true =>
    by_cases h1 : k = 1
    · subst h1; exact text_1 t x ht hx m w hm hk
    · by_cases h2 : k = 2
      · subst h2; exact text_2 t x ht hx m w hm hk
      · by_cases h3 : k = 3
        · subst h3; exact text_3 t x ht hx m w hm hk
        · by_cases h4 : k = 4
          · subst h4; exact text_4 t x ht hx m w hm hk
          · by_cases h5 : k = 5
            · subst h5; exact text_5 t x ht hx m w hm hk
            · unfold mayS at hk
              rw [if_neg h1, if_neg h2, if_neg h3, if_neg h4, if_neg h5] at hk
              cases hk
end Go.Proofs.YtbcoklbfebmpoaaGreatDoor

/-
  SLOTS, PATTERNS, PARTS, RULES: which may be, and their texts, in plain mathematics.
-/

namespace Go.Proofs.YtbcoklbfebmpoaaGreatDoor
open Go.RowKit
open Utf Term
set_option linter.unusedVariables false

abbrev SlotD := ByteArray × TermD
abbrev PatD := SlotD × SlotD × SlotD
abbrev LitD := Int × PatD × SlotD × SlotD
abbrev RuleD := PatD × List LitD
instance termDec : DecidableEq TermD := inferInstance
instance slotDec : DecidableEq SlotD := inferInstance
instance patDec : DecidableEq PatD := inferInstance
instance litDec : DecidableEq LitD := inferInstance
instance ruleDec : DecidableEq RuleD := inferInstance
abbrev zTe : TermD := (0, ⟨#[]⟩, ⟨#[]⟩)
abbrev zSl : SlotD := (⟨#[]⟩, zTe)
abbrev zPa : PatD := (zSl, zSl, zSl)
abbrev zLi : LitD := (0, zPa, zSl, zSl)
/-- What may be. -/
def nameB (v : ByteArray) : Bool := decide (v.size ≤ 32) && mayS 2 v ⟨#[]⟩
def slotB (s : SlotD) : Bool := if s.1.size = 0 then mayD s.2 else (nameB s.1 && decide (s.2 = zTe))
def patB (p : PatD) : Bool := slotB p.1 && slotB p.2.1 && slotB p.2.2
def litB (l : LitD) : Bool :=
  if l.1 = 1 ∨ l.1 = 2 then patB l.2.1 && decide (l.2.2.1 = zSl) && decide (l.2.2.2 = zSl)
  else if l.1 = 3 ∨ l.1 = 4 then slotB l.2.2.1 && slotB l.2.2.2 && decide (l.2.1 = zPa)
  else false
def ruleB (r : RuleD) : Bool := decide (r.2.length ≤ 64) && (r.2.all litB && patB r.1)

/-- Texts. -/
def slotL (s : SlotD) : List Int := if s.1.size = 0 then textL s.2.1 s.2.2.1 s.2.2.2 else 63 :: bs s.1
def patL (p : PatD) : List Int := 40 :: (slotL p.1 ++ 32 :: (slotL p.2.1 ++ 32 :: (slotL p.2.2 ++ [41])))
def notL : List Int := [110, 111, 116, 32]
def condL (k : Int) : List Int := if k = 3 then [32, 61, 32] else [32, 33, 61, 32]
def litL (l : LitD) : List Int :=
  if l.1 = 1 then patL l.2.1
  else if l.1 = 2 then notL ++ patL l.2.1
  else slotL l.2.2.1 ++ (condL l.1 ++ slotL l.2.2.2)
def tailL : List LitD → List Int
  | [] => []
  | l :: m => 44 :: 32 :: (litL l ++ tailL m)
def bodyL : List LitD → List Int
  | [] => []
  | l :: m => litL l ++ tailL m
def ruleL (r : RuleD) : List Int := patL r.1 ++ ((if r.2 = [] then [] else [32, 58, 45, 32] ++ bodyL r.2) ++ [32, 46])
def rulesL (rs : List RuleD) : List Int := rs.flatMap (fun r => ruleL r ++ [10])

end Go.Proofs.YtbcoklbfebmpoaaGreatDoor

/-
  THE CONTRACT OF TripleText.
-/

namespace Go.Proofs.YtbcoklbfebmpoaaGreatDoor
open Go.RowKit
open Utf Term
set_option linter.unusedVariables false

theorem quoteL_len (l : List Int) : (quoteL l).length ≤ 6 * l.length + 2 := by
  have h1 := shown_len l
  unfold quoteL
  simp only [List.length_cons, List.length_append, List.length_nil]
  omega
def AllB (l : List Int) : Prop := ∀ c ∈ l, IsByte c
theorem AllB.nil : AllB [] := by intro c hc; cases hc
theorem AllB.cons {a : Int} {l : List Int} (ha : 0 ≤ a ∧ a ≤ 255) (h : AllB l) : AllB (a :: l) := by
  intro c hc
  rcases List.mem_cons.1 hc with rfl | hc
  · exact ha
  · exact h c hc
theorem AllB.app {l k : List Int} (h : AllB l) (h' : AllB k) : AllB (l ++ k) := by
  intro c hc
  rcases List.mem_append.1 hc with hc | hc
  · exact h c hc
  · exact h' c hc
theorem textL_byte (k : Int) (t x : ByteArray) : AllB (textL k t x) := by
  have h1 : AllB (quoteL (bs t)) := quoteL_byte (bs_byte t)
  have h2 : AllB (bs t) := bs_byte t
  have h3 : AllB (bs x) := bs_byte x
  unfold textL
  by_cases e1 : k = 1
  · rw [if_pos e1]; exact .cons (by decide) (.app h2 (.cons (by decide) .nil))
  rw [if_neg e1]
  by_cases e2 : k = 2
  · rw [if_pos e2]; exact .cons (by decide) (.cons (by decide) h2)
  rw [if_neg e2]
  by_cases e4 : k = 4
  · rw [if_pos e4]; exact .app h1 (.cons (by decide) h3)
  rw [if_neg e4]
  by_cases e5 : k = 5
  · rw [if_pos e5]; exact .app h1 (.cons (by decide) (.cons (by decide) (.cons (by decide) (.app h3 (.cons (by decide) .nil)))))
  rw [if_neg e5]
  exact h1

theorem bld_below {B b : Nat} {L : List Value} {W W' : World} (h : Bld B b L W) (hB : Below W.heap.size W W') : Bld B b L W' := by
  have hg : W.grownBy W' none := ⟨hB.os, hB.tape, hB.output, hB.size, fun k hk _ => hB.block k hk⟩
  exact bld_kept h hg (fun r e => by cases e)

def u8s (l : List Int) : List UInt8 := l.map fun n => UInt8.ofNat n.toNat
theorem u8s_append (a b : List Int) : u8s (a ++ b) = u8s a ++ u8s b := by simp [u8s]
theorem cells_u8s (l : List Int) : Lib.strCells (strOfNums l) = Lib.byteCells (u8s l) := rfl

end Go.Proofs.YtbcoklbfebmpoaaGreatDoor

/-
  THE CONTRACT OF strings.Join, OF STRINGS OF ONE'S OWN.
-/

namespace Go.Proofs.YtbcoklbfebmpoaaGreatDoor
open Go.RowKit
open Utf Term
set_option linter.unusedVariables false
set_option linter.unusedSimpArgs false

/-- What Join has written of the elements behind the first one. -/
def accJ (sep : ByteArray) (x : ByteArray) (ys : List ByteArray) : ByteArray := ys.foldl (fun a y => a ++ sep ++ y) x
theorem accJ_snoc (sep x : ByteArray) (ys : List ByteArray) (y : ByteArray) : accJ sep x (ys ++ [y]) = accJ sep x ys ++ sep ++ y := by unfold accJ; rw [List.foldl_append]; rfl
/-- The elements' strings, one cell each. -/
def StrRow (W : World) (g : Nat) (xs : List ByteArray) : Prop := ∀ (j : Nat) (x : ByteArray), xs[j]? = some x → W.cell? ⟨g, j, none⟩ = some (.string x)
theorem StrRow.below {W U : World} {g : Nat} {xs : List ByteArray} (h : StrRow W g xs) (k : Below W.heap.size W U) : StrRow U g xs := fun j x e => (k.cell (World.block_lt_of_cell? _ _ (h j x e))).trans (h j x e)
theorem StrRow.under {W U : World} {B g : Nat} {xs : List ByteArray} (h : StrRow W g xs) (k : Below B W U) (hg : g < B) : StrRow U g xs := fun j x e => (k.cell (p := ⟨g, j, none⟩) hg).trans (h j x e)
def sumN : List ByteArray → Nat
  | [] => 0
  | x :: r => x.size + sumN r
theorem sumN_append (a b : List ByteArray) : sumN (a ++ b) = sumN a + sumN b := by
  induction a with
  | nil => simp [sumN]
  | cons x a ih => rw [List.cons_append, sumN, sumN, ih]; omega
theorem accJ_size (sep x : ByteArray) (ys : List ByteArray) : (accJ sep x ys).size = x.size + sep.size * ys.length + sumN ys := by
  unfold accJ
  induction ys generalizing x with
  | nil => simp [sumN]
  | cons y ys ih =>
    rw [List.foldl_cons, ih, ByteArray.size_append, ByteArray.size_append, sumN, List.length_cons, Nat.mul_succ]
    omega
theorem sumN_take (xs : List ByteArray) (k : Nat) : sumN (xs.take k) ≤ sumN xs := by
  conv => rhs; rw [← List.take_append_drop k xs]
  rw [sumN_append]; omega
theorem empty_app (x : ByteArray) : (⟨#[]⟩ : ByteArray) ++ x = x := ByteArray.ext (by rw [ByteArray.data_append]; simp)
theorem strCells_append (a b : ByteArray) : Lib.strCells a ++ Lib.strCells b = Lib.strCells (a ++ b) := by
  unfold Lib.strCells
  simp

set_option maxRecDepth 100000 in
set_option maxHeartbeats 4000000 in
theorem join_one (g cap : Nat) (x sep : ByteArray) (w : World) (h : StrRow w g [x]) :
    Calls Tryz.prog 67 #[.slice (some ⟨g, 0, none⟩) 1 cap, .string sep] w fun e w' => e = .returned (.string x) ∧ w = w' := by
  have c0 := h 0 x rfl
  clear h
  go_enter Tryz.func67, Tryz.ntmps67
  go_wp2
  go_ret
  exact ⟨rfl, rfl⟩

set_option maxRecDepth 100000 in
set_option maxHeartbeats 8000000 in
theorem join_many (g cap : Nat) (x : ByteArray) (ys : List ByteArray) (sep : ByteArray) (w : World) (h : StrRow w g (x :: ys)) (hy : 1 ≤ ys.length) (hn : ys.length ≤ 1000) (hcap : ys.length + 1 ≤ cap) (hcm : cap ≤ maxLen) (hs : sep.size ≤ 1000) (hs0 : 0 < sep.size) (hz : (accJ sep x ys).size ≤ 1000000000000) (hg : g < w.heap.size) :
    Calls Tryz.prog 67 #[.slice (some ⟨g, 0, none⟩) (ys.length + 1) cap, .string sep] w fun e w' => e = .returned (.string (accJ sep x ys)) ∧ Below w.heap.size w w' := by
  rw [accJ_size] at hz
  obtain ⟨n, hnn⟩ : ∃ n, n = ys.length := ⟨_, rfl⟩
  rw [← hnn] at hy hn hcap hz ⊢
  have HS := Lib.hid (fun k (hk : k ≤ n + 1) => show sumN ((x :: ys).take k) ≤ x.size + sumN ys from sumN_take (x :: ys) k)
  have HSt := Lib.hid (fun k (hk : k < n + 1) => show ∃ y, (x :: ys)[k]? = some y ∧ sumN ((x :: ys).take (k + 1)) = sumN ((x :: ys).take k) + y.size from ⟨(x :: ys)[k]'(by simp; omega), List.getElem?_eq_getElem _, by rw [List.take_add_one, List.getElem?_eq_getElem (by simp; omega), sumN_append]; simp [sumN]⟩)
  have HSn : Hid (sumN ((x :: ys).take (n + 1)) = x.size + sumN ys) := Lib.hid (by rw [List.take_of_length_le (by simp; omega)]; rfl)
  have hd0 : ((n : Int) + 1 == 0) = false := by simp; omega
  have hd1 : ((n : Int) + 1 == 1) = false := by simp; omega
  have HRw := Lib.hid h
  obtain ⟨M, hM⟩ : ∃ M, M = sep.size * n := ⟨_, rfl⟩
  have hmE : ((sep.size : Int)) * (n : Int) = (M : Int) := by rw [hM, Int.natCast_mul]
  rw [← hM] at hz
  have hq : decide ((9223372036854775807 : Int) / (n : Int) ≤ (sep.size : Int)) = false := by
    rw [decide_eq_false_iff_not]
    have h1 : (9223372036854775 : Int) ≤ 9223372036854775807 / (n : Int) := (Int.le_ediv_iff_mul_le (by omega)).2 (by omega)
    omega
  have hsp : decide ((0 : Int) < (sep.size : Int)) = true := by simp; omega
  have HNn := Lib.hid hnn
  obtain ⟨xs, hxs⟩ : ∃ xs, xs = x :: ys := ⟨_, rfl⟩
  have hT : x.size + sumN ys ≤ 1000000000000 := by omega
  obtain ⟨T, hTe⟩ : ∃ T, T = x.size + sumN ys := ⟨_, rfl⟩
  have hMT : M + T ≤ 1000000000000 := by omega
  rw [← hTe] at HS HSn hT
  rw [← hxs] at HS HSt HSn HRw
  have HXs := Lib.hid hxs
  have HAc := Lib.hid (accJ_size sep x ys)
  have HMn := Lib.hid hM
  have HTe := Lib.hid hTe
  clear h hM hnn hz hxs hTe
  go_enter Tryz.func67, Tryz.ntmps67
  go_wp2
  go_loopg [5, 41] (n + 1) (fun gg t i wr => ∃ k : Nat, k ≤ n + 1 ∧ n + 1 - k ≤ gg ∧ i = .int .i64 k ∧ t = .int .i64 ((M + sumN (xs.take k) : Nat) : Int) ∧ wr = w)
  case atStart => exact ⟨0, Nat.zero_le _, by omega, rfl, by simp [sumN], rfl⟩
  case round =>
    obtain ⟨k, hk, hgg, rfl, rfl, rfl⟩ := hrel
    have hs1 := HS.out k hk
    by_cases hlt : k < n + 1
    · obtain ⟨y, hy1, hy2⟩ := HSt.out k hlt
      have c0 := HRw.out k y hy1
      have hs2 := HS.out (k + 1) (by omega)
      rw [hy2] at hs2
      have HY2 := Lib.hid hy2
      generalize sumN (xs.take k) = Sk at *
      have f1 : decide ((9223372036854775807 : Int) - ((M : Int) + (Sk : Int)) < (y.size : Int)) = false := by simp; omega
      clear hy1 hy2
      go_wp2
      go_roundg (n + 1 - (k + 1))
      case rel => exact ⟨k + 1, by omega, Nat.le_refl _, by go_num, by rw [HY2.out]; go_num, rfl⟩
      case measure => omega
    · obtain rfl : k = n + 1 := by omega
      rw [HSn.out]
      obtain ⟨N, hN⟩ : ∃ N : Nat, M + T = N := ⟨_, rfl⟩
      rw [hN]
      have hNb : N ≤ 1000000000000 := by omega
      have hacz : ∀ j, (accJ sep x (ys.take j)).size ≤ 1000000000000 := fun j => by
        rw [accJ_size]
        have h1 := sumN_take ys j
        have h2 : (ys.take j).length ≤ n := by rw [List.length_take, ← HNn.out]; omega
        have h3 : sep.size * (ys.take j).length ≤ M := by rw [HMn.out]; exact Nat.mul_le_mul_left _ h2
        have := HTe.out
        omega
      have HZ := Lib.hid hacz
      have c0 := HRw.out 0 x (by rw [HXs.out]; rfl)
      have hgw := World.block_lt_of_cell? _ _ c0
      clear hN hacz hs1
      go_wp2_with (go_at_call 93; refine (Tryz.Builder_Grow_fresh wr.heap.size wr.heap.size N _ (Nat.le_refl _) (heap_alloc_new wr _) (by simp) (by omega)).mono ?_; rintro e w1 ⟨rfl, hb1, hB1⟩; have hB1' := ((Below.refl wr.heap.size wr).alloc (Nat.le_refl _) (.cells #[.pointer none, .slice none 0 0] 107)).trans hB1; have HR1 := Lib.hid (HRw.out.under hB1' hgw); have c1 := HR1.out 0 x (by rw [HXs.out]; rfl); have hBl := Lib.hid (show Bld wr.heap.size wr.heap.size (Lib.strCells ⟨#[]⟩) w1 from Lib.IsBuilderF.of (.inr hb1)); have hz1 := Lib.hid hB1'.size; have HB1 := Lib.hid hB1'; clear hb1 hB1 hB1')
      have hxz := HZ.out 0
      rw [List.take_zero] at hxz
      have hxz2 : x.size ≤ 1000000000000 := hxz
      clear hxz
      go_wp2_with (go_at_call 49; refine (writeString_any wr.heap.size wr.heap.size (Lib.strCells ⟨#[]⟩) x _ hBl.out (by rw [Lib.strCells_length]; show 0 + _ ≤ _; omega) hz1.out).mono ?_; rintro e w2 ⟨rfl, hb2, hW2⟩)
      have HBl := Lib.hid (show Bld wr.heap.size wr.heap.size (Lib.strCells (accJ sep x (ys.take 0))) w2 from .inr (by rw [strCells_append] at hb2; rw [List.take_zero]; rwa [empty_app] at hb2))
      have HB2 := Lib.hid (HB1.out.trans hW2.1)
      clear hb2 hW2 hBl c1
      have HZ2 := Lib.hid HB2.out.size
      have hg2 : g < w2.heap.size := by have := HZ2.out; omega
      have HG := Lib.hid hgw
      clear hg2 hgw c0 hz1
      obtain ⟨wo, rfl⟩ : ∃ wo : World, wo = wr := ⟨_, rfl⟩
      go_loopg [65] n (fun gg i wv => ∃ k : Nat, k ≤ n ∧ n - k ≤ gg ∧ i = .int .i64 k ∧ Bld wo.heap.size wo.heap.size (Lib.strCells (accJ sep x (ys.take k))) wv ∧ Below wo.heap.size wo wv)
      case atStart => exact ⟨0, Nat.zero_le _, by omega, rfl, HBl.out, HB2.out⟩
      case round =>
        obtain ⟨k, hk, hgg, rfl, hbl, hbe⟩ := hrel
        have HBk := Lib.hid hbl
        have HBe := Lib.hid hbe
        clear hbl hbe HBl HB2 HZ2
        by_cases hlt : k < n
        · obtain ⟨y, hy⟩ : ∃ y, ys[k]? = some y := ⟨_, List.getElem?_eq_getElem (by rw [← HNn.out]; exact hlt)⟩
          have c1 := (HRw.out.under HBe.out HG.out) (k + 1) y (by rw [HXs.out]; exact hy)
          rw [Nat.add_comm k 1] at c1
          have hacc : Hid (accJ sep x (ys.take (k + 1)) = accJ sep x (ys.take k) ++ sep ++ y) := Lib.hid (by rw [List.take_add_one, hy]; exact accJ_snoc _ _ _ _)
          have hzk := HZ.out k
          have hzk1 := HZ.out (k + 1)
          rw [hacc.out, ByteArray.size_append, ByteArray.size_append] at hzk1
          have HE := Lib.hid HBe.out.size
          clear hy
          generalize accJ sep x (ys.take k) = X at *
          have HW1 := Lib.hid (writeString_any wo.heap.size wo.heap.size (Lib.strCells X) sep _ HBk.out (by rw [Lib.strCells_length]; omega) HE.out)
          go_wp2_with (go_at_call 49; (with_reducible refine (HW1.out).mono ?_); rintro e w3 ⟨rfl, hb3, hW3⟩)
          have HB3 := Lib.hid (show Bld wo.heap.size wo.heap.size (Lib.strCells (X ++ sep)) w3 from .inr (by rwa [strCells_append] at hb3))
          have HE3 := Lib.hid (HBe.out.trans hW3.1)
          have HS3 := Lib.hid HE3.out.size
          clear hb3 hW3
          have hx2 : (X ++ sep).size ≤ 1000000000000 := by rw [ByteArray.size_append]; omega
          generalize X ++ sep = X2 at *
          have HW2 := Lib.hid (writeString_any wo.heap.size wo.heap.size (Lib.strCells X2) y _ HB3.out (by rw [Lib.strCells_length]; omega) HS3.out)
          go_wp2_with (go_at_call 49; (with_reducible refine (HW2.out).mono ?_); rintro e w4 ⟨rfl, hb4, hW4⟩)
          go_roundg (n - (k + 1))
          case rel => exact ⟨k + 1, by omega, Nat.le_refl _, by go_num, by rw [hacc.out]; exact .inr (by rwa [strCells_append] at hb4), HE3.out.trans hW4.1⟩
          case measure => omega
        · obtain rfl : k = n := by omega
          have HE := Lib.hid HBe.out.size
          have hfin : ys.take k = ys := List.take_of_length_le (by rw [← HNn.out]; exact Nat.le_refl _)
          rw [hfin] at HBk
          go_wp2_with (go_at_call 53; refine (Tryz.Builder_String_any_k wo.heap.size wo.heap.size (accJ sep x ys).data.toList _ HBk.out HE.out).mono ?_; rintro e w3 ⟨rfl, _, hB3, _⟩)
          go_ret
          exact ⟨ret_str (by simp), HBe.out.trans hB3⟩
end Go.Proofs.YtbcoklbfebmpoaaGreatDoor



/-
  CONTRACTS OF THE REFERENCE OF LAYER 2: Valid, in, Letter, Digit, IRI, Word.
-/
namespace Go.Proofs.YtbcoklbfebmpoaaGreatDoor
open Go.RowKit
open Utf Term
set_option linter.unusedVariables false

end Go.Proofs.YtbcoklbfebmpoaaGreatDoor

/-
  CONTRACTS OF THE REFERENCE's IRI AND Word.
-/
namespace Go.Proofs.YtbcoklbfebmpoaaGreatDoor
open Go.RowKit
open Utf Term
set_option linter.unusedVariables false

namespace Term
end Term

end Go.Proofs.YtbcoklbfebmpoaaGreatDoor

/-
  THE CONTRACT OF THE REFERENCE's tag.
-/
namespace Go.Proofs.YtbcoklbfebmpoaaGreatDoor
open Go.RowKit
open Utf Term
set_option linter.unusedVariables false

namespace Term
theorem ends_last : ∀ (l : List Int) (x : Int), ends45 (l ++ [x]) = decide (x = 45)
  | [], x => rfl
  | [c], x => rfl
  | c :: d :: l, x => by
    show ends45 (c :: d :: (l ++ [x])) = _
    rw [ends45_cons]
    exact ends_last (d :: l) x
end Term

end Go.Proofs.YtbcoklbfebmpoaaGreatDoor

/-
  THE CONTRACT OF THE REFERENCE's May.
-/
namespace Go.Proofs.YtbcoklbfebmpoaaGreatDoor
open Go.RowKit
open Utf Term
set_option linter.unusedVariables false

end Go.Proofs.YtbcoklbfebmpoaaGreatDoor

