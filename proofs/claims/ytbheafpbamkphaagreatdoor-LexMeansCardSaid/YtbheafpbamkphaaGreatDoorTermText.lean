import Derived.Test.YtbheafpbamkphaaGreatDoorTermMath
import Derived.RangeFuncNested
import Derived.RangeFuncBound
import Derived.RangeFuncCalls
import Derived.Test.YtbheafpbamkphaaGreatDoorShelf
import Derived.WalkKit
import Derived.Lib.FrozenHead2
import Derived.Lib.OthersKept
import Derived.Deep.RegionWith
import Derived.Test.YtbheafpbamkphaaGreatDoorTermParts
import Derived.Test.YtbheafpbamkphaaGreatDoorTermMay2

/-
  PLAIN MATHEMATICS: a text in quotes, rune by rune.
-/
namespace Go.Proofs.YtbheafpbamkphaaGreatDoor.Term
open Utf

theorem encs_nil : encs [] = [] := rfl
theorem encs_one (r : Int) : encs [r] = enc r := by rw [encs_cons, encs_nil, List.append_nil]

theorem esc_high {r : Int} (h : 128 ≤ r) : esc r = [] := by
  unfold esc
  rw [if_neg (by omega), if_neg (by omega), if_neg (by omega), if_neg (by omega), if_neg (by omega), if_neg (by omega), if_neg (by omega), if_neg (by omega)]
theorem esc_low {r : Int} (h : esc r ≠ []) : r ≤ 127 := by
  by_cases h1 : 128 ≤ r
  · exact absurd (esc_high h1) h
  · omega
theorem esc_length (r : Int) : (esc r).length ≤ 6 := by
  unfold esc; repeat' split
  all_goals simp
theorem shown_length (r : Int) : (shown r).length ≤ 6 := by
  unfold shown; split
  · simp
  · exact esc_length r
theorem shown_len (l : List Int) : (l.flatMap shown).length ≤ 6 * l.length := by
  induction l with
  | nil => simp
  | cons c t ih =>
    have := shown_length c
    simp only [List.flatMap_cons, List.length_append, List.length_cons]
    omega
theorem shown_self {r : Int} (h : May r) (he : esc r = []) : (enc r).flatMap shown = enc r := by
  by_cases h1 : r ≤ 127
  · rw [enc_low h1]; simp [shown, he]
  · have hh := enc_high h (by omega)
    have : ∀ l : List Int, (∀ c ∈ l, 128 ≤ c) → l.flatMap shown = l := by
      intro l hl
      induction l with
      | nil => rfl
      | cons c t ih =>
        rw [List.flatMap_cons, ih fun d hd => hl d (by simp [hd])]
        simp [shown, esc_high (hl c (by simp))]
    exact this _ hh

/-- How far a text in quotes has come: L is written, of B's bytes 'done' are dealt with, of the runes ra. -/
def Mid (B ra : List Int) (done : Nat) (L : List Int) : Prop :=
  done ≤ (encs ra).length ∧ L ++ (B.drop done).take ((encs ra).length - done) = 34 :: (encs ra).flatMap shown

theorem mid_start (B : List Int) : Mid B [] 0 [34] := ⟨Nat.zero_le _, by simp [encs_nil]⟩

theorem drop_enc {B ra rb : List Int} {r : Int} (hB : B = encs (ra ++ r :: rb)) {done : Nat} (hd : done ≤ (encs ra).length) :
    (B.drop done).take ((encs ra).length + (enc r).length - done) = (B.drop done).take ((encs ra).length - done) ++ enc r := by
  subst hB
  rw [encs_append, encs_cons, List.drop_append_of_le_length hd, List.take_append, List.take_append]
  have e1 : ((encs ra).drop done).take ((encs ra).length + (enc r).length - done) = (encs ra).drop done := List.take_of_length_le (by rw [List.length_drop]; omega)
  have e2 : ((encs ra).drop done).take ((encs ra).length - done) = (encs ra).drop done := List.take_of_length_le (by rw [List.length_drop]; omega)
  have e4 : (((encs ra).drop done) ++ (enc r ++ encs rb)).take ((encs ra).length - done) = (encs ra).drop done := by
    rw [List.take_append_of_le_length (by rw [List.length_drop]; omega), e2]
  have e3 : (encs ra).length + (enc r).length - done - ((encs ra).length - done) = (enc r).length := by omega
  rw [e1, e4, List.length_drop, e3, Nat.sub_self, List.take_zero, List.append_nil, List.take_of_length_le (Nat.le_refl _)]

theorem mid_keep {B ra rb : List Int} {r : Int} {done : Nat} {L : List Int} (hB : B = encs (ra ++ r :: rb)) (hm : May r) (he : esc r = []) (h : Mid B ra done L) : Mid B (ra ++ [r]) done L := by
  obtain ⟨h1, h2⟩ := h
  have e : encs (ra ++ [r]) = encs ra ++ enc r := by rw [encs_append, encs_one]
  refine ⟨by rw [e, List.length_append]; omega, ?_⟩
  rw [e, List.length_append, drop_enc hB h1, ← List.append_assoc, h2, List.flatMap_append, shown_self hm he]
  rfl

theorem mid_esc {B ra : List Int} {r : Int} {done : Nat} {L : List Int} (he : esc r ≠ []) (h : Mid B ra done L) :
    Mid B (ra ++ [r]) ((encs ra).length + 1) (L ++ (B.drop done).take ((encs ra).length - done) ++ esc r) := by
  obtain ⟨h1, h2⟩ := h
  have e : encs (ra ++ [r]) = encs ra ++ [r] := by rw [encs_append, encs_one, enc_low (esc_low he)]
  refine ⟨by rw [e]; simp, ?_⟩
  rw [e, List.length_append, List.length_singleton, Nat.sub_self, List.take_zero, List.append_nil, h2, List.flatMap_append]
  simp [shown, he]

theorem mid_end {B rs : List Int} {done : Nat} {L : List Int} (hB : B = encs rs) (h : Mid B rs done L) : L ++ B.drop done ++ [34] = quoteL B := by
  obtain ⟨h1, h2⟩ := h
  subst hB
  have e : ((encs rs).drop done).take ((encs rs).length - done) = (encs rs).drop done := List.take_of_length_le (by rw [List.length_drop]; omega)
  rw [e] at h2
  rw [h2]
  rfl

theorem mid_len {B ra : List Int} {done : Nat} {L : List Int} (h : Mid B ra done L) : L.length ≤ 1 + 6 * (encs ra).length := by
  have h1 := congrArg List.length h.2
  have h2 := shown_len (encs ra)
  simp only [List.length_append, List.length_cons] at h1
  omega

/-- What comes next. -/
theorem posR_next : ∀ (p : Nat) (ra rs : List Int) (y : Nat × Int), AllMay rs → posR p ra ++ [y] <+: posR p rs → ∃ rb, rs = ra ++ y.2 :: rb ∧ y.1 = p + (encs ra).length
  | p, [], [], y, _, h => by simp [posR] at h
  | p, [], r :: rs, y, _, h => by
    simp [posR] at h
    subst h
    exact ⟨rs, rfl, by simp [encs_nil]⟩
  | p, q :: ra, [], y, _, h => by simp [posR] at h
  | p, q :: ra, r :: rs, y, hm, h => by
    rw [posR, posR, List.cons_append, List.cons_prefix_cons] at h
    obtain ⟨h1, h2⟩ := h
    have hq : q = r := by injection h1
    subst hq
    obtain ⟨rb, h3, h4⟩ := posR_next _ ra rs y hm.tail h2
    exact ⟨rb, by rw [h3]; rfl, by rw [h4, encs_cons, List.length_append, rsize_enc hm.head, Nat.add_assoc]⟩
end Go.Proofs.YtbheafpbamkphaaGreatDoor.Term

/-
  A RANGE OVER A FUNCTION WHOSE BODY ALWAYS GOES ON, AND MAY LEAN ON WHAT COMES NEXT: the iterator's contract tells the body that the new element is the next one.
-/
namespace Go.Proofs.YtbheafpbamkphaaGreatDoor
open Go.RowKit

variable {F : Fence} {n : Nat} {P : Program}

/-- An iterator that gives each element at its turn ('Nx pre x': x comes behind pre) to a body that never leaves. -/
def SeqNext {α : Type} (F : Fence) (n : Nat) (P : Program) (gf : Nat) (lb : Array Value) (encs : α → Array Value) (Kp : World → World → Prop) (Nx : List α → α → Prop) (S : List α → Prop) (w : World) : Prop :=
  ∀ (l : Nat) (J : List α → World → Prop) (W : World), Below w.heap.size w W → AbidesFrom W.heap.size J →
    (∀ pre x W1, J pre W1 → Nx pre x → YieldAt F (n - 1) P l (encs x) W1 fun e W' => e = .returned (.bool true) ∧ J (pre ++ [x]) W' ∧ Kp W1 W') →
    J [] W → CallsIn F n P gf (#[.func (.yield l) #[] #[]] ++ lb) W fun e W' => (∃ v, e = .returned v) ∧ ∃ xs, S xs ∧ J xs W'

/-- The body goes on: what it keeps, and where it stands. -/
def GoesOn {α : Type} (B : Nat) (Kp : World → World → Prop) (I : List α → World → Prop) (xs : List α) (W : World) : Exit → Act → World → Prop
  | .normal, _, W' => KeepsFrom B W W' ∧ Kp W W' ∧ I xs W'
  | _, _, _ => False

theorem wpIn_range_next {α : Type} {g : Operand} {ps : Array Tmp} {assign body : Code} {Q : Exit → Act → World → Prop} {a : Act} {w : World}
    (hro : F.round = none) (h1 : 1 ≤ n) {gf : Nat} {lb : Array Value} (hg : a.eval g = .func (.func gf) #[] lb) (hFg : F.fn gf) (eg : ∀ args w, (callFunc gf args).run P w = .ok (.enter gf args) w)
    {encs : α → Array Value} {Kp : World → World → Prop} {Nx : List α → α → Prop} {S : List α → Prop} (hseq : SeqNext F (n - 1) P gf lb encs Kp Nx S w)
    (hKt : ∀ {A B C : World}, Kp A B → Kp B C → Kp A C) (hKb : ∀ (W : World) (l : Nat) (o o' : Obj), w.heap.size ≤ l → W.heap[l]? = some o → o.isCells = false → o.isWalk = false → Kp W (W.putObj l o')) (hps : ∀ x, (encs x).size = ps.size)
    (I : List α → World → Prop) (hI : OwnFrom w.heap.size I) (h0 : I [] w) (a₁ : α → Act)
    (hassign : ∀ (l : Nat) (x : α) (W : World) (K : Act → World → Prop), K (a₁ x) W →
      assign.wpIn (F.inRound l) (n - 1 - 1) P (Exit.then K (fun _ _ _ => False)) { tmps := (ps.zip (encs x)).foldl (fun t (p, v) => t.setIfInBounds p v) a.tmps, defers := [] } W)
    (hbody : ∀ (l : Nat) (pre : List α) (x : α) (W : World), I pre W → Nx pre x → body.wpIn (F.inRound l) (n - 1 - 1) P (GoesOn w.heap.size Kp I (pre ++ [x]) W) (a₁ x) W)
    (hdone : ∀ (D : Nat) (xs : List α) (W : World), w.heap.size ≤ D → S xs → I xs W → W.heap[D]? = some (.deferred (some [])) → Q .normal { a with defers := { target := .collected D, args := #[] } :: a.defers } W) :
    (Code.rangeFunc g ps assign body).wpIn F n P Q a w := by
  refine wpIn_rangeFunc fun fn hfn => ?_
  -- the loop's record, at its state
  let rec' : LoopState → Loop := fun st => { state := st, pending := none, fn := fn, tmps := a.tmps, params := ps, assign := assign, body := body, defers := w.heap.size }
  let L := w.heap.size + 1
  let W1 := (w.alloc (.deferred (some []))).alloc (.loop (rec' .ready))
  -- what the two blocks of book-keeping hold between two rounds
  let Kept : World → Prop := fun W => W.heap[L]? = some (.loop (rec' .ready)) ∧ W.heap[w.heap.size]? = some (.deferred (some []))
  have k1 : Kept W1 := ⟨by have := World.alloc_heap_new (w.alloc (.deferred (some []))) (.loop (rec' .ready)); rwa [World.size_alloc] at this,
    (Below.heap_alloc _ _ _ (by simp)).trans (World.alloc_heap_new w _)⟩
  have s1 : w.heap.size ≤ W1.heap.size := by show w.heap.size ≤ ((w.alloc _).alloc _).heap.size; simp; omega
  refine ⟨L, [{ target := .collected w.heap.size, args := #[] }], W1, { target := .fn (.func gf) lb, args := #[.func (.yield L) #[] #[]] }, W1, gf, #[.func (.yield L) #[] #[]] ++ lb, W1, ?_, ?_, ?_, ?_, fun _ => h1, ?_⟩
  · rw [hro]; exact run_enterLoop_outer _ _ _ _ _
  · simp only [resolve, hg]
    simp [go_sem]
  · intro f' e
    simp [Target.leads] at e
    subst e
    exact hFg
  · simp [invoke, go_sem, eg]
  refine (hseq L (fun pre W => I pre W ∧ Kept W) W1 (((Below.refl _ w).alloc (Nat.le_refl _) _).alloc (by simp) _) ?_ ?_ ⟨hI.alloc _ (hI.alloc _ h0), k1⟩).mono ?_
  · intro s A B row ⟨hi, hl, hd⟩ hgr hr
    refine ⟨hI s A B row hi hgr (fun r e => ?_), (grownBy_keeps hgr (fun r e => (hr r e).2) hl rfl).trans hl, (grownBy_keeps hgr (fun r e => (hr r e).2) hd rfl).trans hd⟩
    obtain ⟨hB, o, ho, hw⟩ := hr r e
    exact ⟨Nat.le_trans s1 hB, o, ho, Obj.not_cells_of_walk hw⟩
  · -- one round
    intro pre x W ⟨hi, hl, hd⟩ hn
    have hlt : L < W.heap.size := (Array.getElem?_eq_some_iff.1 hl).1
    refine ⟨fn, _, assign, body, run_yield (P := P) (args := encs x) hl (hps x), roundIn_of_wpIn hfn (hassign _ x W _ ⟨_, run_beginRound hl rfl, ?_⟩)⟩
    let Wb := W.putObj L (.loop (rec' .busy))
    have hlb : Wb.heap[L]? = some (.loop (rec' .busy)) := World.putObj_heap_same hlt
    have hdb : Wb.heap[w.heap.size]? = some (.deferred (some [])) := (World.putObj_heap_other (by show w.heap.size ≠ w.heap.size + 1; omega)).trans hd
    refine wpIn_mono (hbody L pre x Wb (hI.putObj _ hi (by show w.heap.size ≤ w.heap.size + 1; omega) hl rfl) hn) ?_
    intro e a3 W3 hp
    cases e with
    | normal =>
      obtain ⟨hk, hkp, hi3⟩ := hp
      have hl3 := hk.same L _ (by show w.heap.size ≤ w.heap.size + 1; omega) hlb rfl
      have hd3 := hk.same _ _ (Nat.le_refl _) hdb rfl
      refine ⟨_, _, run_endRound (P := P) none hl3, rfl, ⟨hI.putObj _ hi3 (by show w.heap.size ≤ w.heap.size + 1; omega) hl3 rfl, ?_, ?_⟩, ?_⟩
      · exact World.putObj_heap_same (Array.getElem?_eq_some_iff.1 hl3).1
      · exact (World.putObj_heap_other (by show w.heap.size ≠ w.heap.size + 1; omega)).trans hd3
      · exact hKt (hKt (hKb W L _ _ (by show w.heap.size ≤ w.heap.size + 1; omega) hl rfl rfl) hkp) (hKb W3 L _ _ (by show w.heap.size ≤ w.heap.size + 1; omega) hl3 rfl rfl)
    | ret => exact hp.elim
    | exit id => exact hp.elim
    | goto t => exact hp.elim
    | panic ch => exact hp.elim
    | outgrown => exact hp.elim
  · -- behind the iterator
    rintro e W2 ⟨⟨v, rfl⟩, xs, hS, hi, hl, hd⟩
    exact ⟨none, _, run_endLoop (P := P) hl (by intro h; cases h), hdone _ xs _ (Nat.le_refl _) hS (hI.putObj _ hi (by show w.heap.size ≤ w.heap.size + 1; omega) hl rfl) ((World.putObj_heap_other (by show w.heap.size ≠ w.heap.size + 1; omega)).trans hd)⟩
end Go.Proofs.YtbheafpbamkphaaGreatDoor

/-
  CONTRACTS OF strings.Builder's WRITERS, of a builder that the call itself made: copyCheck, WriteByte, WriteString.
-/
namespace Go.Proofs.YtbheafpbamkphaaGreatDoor
open Go.RowKit Go.Shelf

theorem info_byte : (Tryz.prog.info? 5).map (fun i => (i.zero, i.size, i.bytes)) = some (some (.int .u8 0), 1, 1) := by kernel_rfl
/-- What a writer leaves: what lay below, and whatever is neither the builder nor a row of bytes. -/
def Wrote (B b : Nat) (w w' : World) : Prop := Below B w w' ∧ Lib.OthersKept 5 (some b) w w'
theorem Wrote.trans {B b : Nat} {u v w : World} (h : Wrote B b u v) (k : Wrote B b v w) : Wrote B b u w := ⟨h.1.trans k.1, h.2.trans k.2⟩

end Go.Proofs.YtbheafpbamkphaaGreatDoor

/-
  THE CONTRACT OF quoted, of a text that is well made.
-/
namespace Go.Proofs.YtbheafpbamkphaaGreatDoor
open Go.RowKit Go.Shelf
open Utf Term
set_option linter.unusedVariables false
attribute [local go_sem] Oper.semAt_some

theorem runes_next (n : Nat) (hn : 1 ≤ n) (Bs : Nat) (s : ByteArray) (hs : s.size ≤ 1000000000000) (w : World) (hBs : w.heap[Bs]? = some (.cells #[.string s] 9 (0, 0))) :
    SeqNext Fence.wide n Tryz.prog 115 #[.pointer (some ⟨Bs, 0, none⟩)] runeVals (KeepsBlock Bs) (fun pre x => pre ++ [x] <+: allR (bs s)) (fun ys => ys = allR (bs s)) w :=
  fun l J W hW _ hY h0 => (iter_in n hn l Bs s hs J (fun _ _ => False) (fun pre x W' hJ hp => (hY pre x W' hJ hp).mono fun e w' h => .inl h) W ((hW.block Bs (lt_of_block hBs)).trans hBs) h0).mono
    fun e W' ⟨hv, h⟩ => ⟨hv, h.elim (fun ⟨ys, h1, h2⟩ => ⟨ys, h1, h2⟩) (fun ⟨_, _, h⟩ => h.elim)⟩

theorem Wrote.boxed {B b d t : Nat} {v : Value} {W W' : World} (h : Wrote B b W W') (hd : d ≠ b) (ht : t ≠ 5) (hb : Boxed W d t v) : Boxed W' d t v :=
  h.2 d _ hb (by simpa using hd) (by rintro c fz e; injection e with _ e2 _; exact ht e2)

/-- A list of bytes as numbers. -/
def nb (l : List UInt8) : List Int := l.map fun c => (c.toNat : Int)
theorem nb_append (a b : List UInt8) : nb (a ++ b) = nb a ++ nb b := by simp [nb]
theorem nb_length (a : List UInt8) : (nb a).length = a.length := by simp [nb]
theorem bs_data (s : ByteArray) : bs s = nb s.data.toList := rfl

theorem wrote_drewN {B b n : Nat} {W W' : World} (h : Wrote B b (W.drewN n) W') : Wrote B b W W' := ⟨(below_drewN B W n).trans h.1, h.2⟩
theorem keeps_drewN (B : Nat) (W : World) (n : Nat) : KeepsFrom B W (W.drewN n) := ⟨Nat.le_refl _, fun _ _ _ h _ => h⟩
theorem boxed_kept {W W' : World} {d t : Nat} {v : Value} {row : Option Nat} (h : Boxed W d t v) (hg : W.grownBy W' row) (hr : ∀ r, row = some r → ∃ o : Obj, W.heap[r]? = some o ∧ o.isCells = false) : Boxed W' d t v :=
  h.kept hg fun e => by
    obtain ⟨o, ho, hc⟩ := hr d e.symm
    rw [show W.heap[d]? = _ from h] at ho
    cases ho
    cases hc
/-- The next rune. -/
theorem next_rune {s : ByteArray} {rs ra rb : List Int} {pre : List RuneAt} {x : RuneAt} (hrs : AllMay rs) (hv : bs s = encs rs) (hs : s.size ≤ 1000000000000) (h1 : rs = ra ++ rb) (h2 : pre.map (·.1) = posR 0 ra) (hn : pre ++ [x] <+: allR (bs s)) :
    ∃ rb', rs = ra ++ x.1.2 :: rb' ∧ x.1.1 = (encs ra).length := by
  have h3 : (pre ++ [x]).map (·.1) <+: (allR (bs s)).map (·.1) := hn.map _
  rw [hv, allR_encs hrs (by rw [← hv, bs_length]; exact hs), List.map_append, h2] at h3
  obtain ⟨rb', h4, h5⟩ := posR_next 0 ra rs x.1 hrs h3
  exact ⟨rb', h4, by omega⟩

end Go.Proofs.YtbheafpbamkphaaGreatDoor

/-
  A TERM's TEXT, as a list of bytes.
-/
namespace Go.Proofs.YtbheafpbamkphaaGreatDoor
open Go.RowKit
open Utf Term
set_option linter.unusedVariables false

theorem bs_app (a b : ByteArray) : bs (a ++ b) = bs a ++ bs b := by
  unfold bs
  simp

namespace Term
/-- A term's text. -/
def textL (k : Int) (t x : ByteArray) : List Int :=
  if k = 1 then 60 :: (bs t ++ [62]) else if k = 2 then 95 :: 58 :: bs t else if k = 4 then quoteL (bs t) ++ 64 :: bs x
  else if k = 5 then quoteL (bs t) ++ 94 :: 94 :: 60 :: (bs x ++ [62]) else quoteL (bs t)
theorem quoteL_byte {l : List Int} (h : ∀ c ∈ l, IsByte c) : ∀ c ∈ quoteL l, IsByte c := by
  have h34 : IsByte 34 := ⟨by decide, by decide⟩
  intro c hc
  unfold quoteL at hc
  rcases List.mem_cons.1 hc with rfl | hc
  · exact h34
  · rcases List.mem_append.1 hc with hc | hc
    · obtain ⟨d, hd, hc⟩ := List.mem_flatMap.1 hc
      unfold shown at hc
      split at hc
      · simp at hc; rw [hc]; exact h d hd
      · rename_i he
        have hl := esc_low he
        have hall : ∀ r : Fin 128, ∀ c ∈ esc (r.val : Nat), 0 ≤ c ∧ c ≤ 255 := by decide +kernel
        obtain ⟨a, ha⟩ := Int.eq_ofNat_of_zero_le (h d hd).1
        rw [ha] at hc
        exact hall ⟨a, by omega⟩ c hc
    · simp at hc; subst hc; exact h34
end Term

theorem bs_quote (s : ByteArray) : bs (strOfNums (quoteL (bs s))) = quoteL (bs s) := bs_strOfNums (quoteL_byte (bs_byte s))

theorem strOf_eq {S : ByteArray} {l : List Int} (h : bs S = l) : S = strOfNums l := by
  apply bs_inj
  rw [bs_strOfNums (by rw [← h]; exact bs_byte S), h]
end Go.Proofs.YtbheafpbamkphaaGreatDoor

/-
  THE CONTRACT OF Text.
-/
namespace Go.Proofs.YtbheafpbamkphaaGreatDoor
open Go.RowKit
open Utf Term
set_option linter.unusedVariables false

theorem box_cells2 {w w2 : World} {k : Int} {t x : ByteArray} (hB : Below (w.alloc (.cells #[.int .i64 k, .string t, .string x] 31)).heap.size (w.alloc (.cells #[.int .i64 k, .string t, .string x] 31)) w2) :
    w2.cell? ⟨w.heap.size, 0, none⟩ = some (.int .i64 k) ∧ w2.cell? ⟨w.heap.size, 1, none⟩ = some (.string t) ∧ w2.cell? ⟨w.heap.size, 2, none⟩ = some (.string x) := box_cells ⟨hB.os, hB.tape, hB.output, hB.size, hB.block⟩

theorem ret_st {a b : ByteArray} {v : Value} (h : a = b) : Ending.returned (.tuple #[.string a, v]) = .returned (.tuple #[.string b, v]) := by rw [h]
theorem quote_size (t : ByteArray) (ht : t.size ≤ 1000000000000) : (strOfNums (quoteL (bs t))).size ≤ 6000000000002 := by
  rw [strOfNums_size]
  unfold quoteL
  have h1 := shown_len (bs t)
  rw [bs_length] at h1
  simp only [List.length_cons, List.length_append, List.length_nil]
  omega
theorem text_below {w w2 w3 : World} {o : Obj} (hB : Below (w.alloc o).heap.size (w.alloc o) w2) (hB3 : Below w2.heap.size w2 w3) : Below w.heap.size w w3 := by
  have h1 : Below w.heap.size w (w.alloc o) := (Below.refl _ w).alloc (Nat.le_refl _) _
  have h2 := h1.trans (hB.mono h1.size)
  exact h2.trans (hB3.mono h2.size)
theorem cell_kept2 {w2 w3 : World} {a : Addr} {v : Value} (hB : Below w2.heap.size w2 w3) (h : w2.cell? a = some v) : w3.cell? a = some v := (hB.cell (World.block_lt_of_cell? _ _ h)).trans h

theorem below_of_drew {w w' : World} (h : Below w.drew.heap.size w.drew w') : Below w.heap.size w w' := ⟨h.os, h.tape, h.output, h.size, h.block⟩
/-- A term's text, or none. -/
def TextDone (k : Int) (t x : ByteArray) : Ending := if mayS k t x then .returned (.tuple #[.string (strOfNums (textL k t x)), .int .i64 0]) else .returned (.tuple #[.string ⟨#[]⟩, .int .i64 2])
end Go.Proofs.YtbheafpbamkphaaGreatDoor
