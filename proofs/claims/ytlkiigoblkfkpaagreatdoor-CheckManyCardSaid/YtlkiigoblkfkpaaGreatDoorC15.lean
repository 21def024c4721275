/-
  WHAT THE PROOF STANDS ON, a part of it: UtfValid, UtfText, TermMath.
-/
import Derived.Test.YtlkiigoblkfkpaaGreatDoorC14
import Derived.RangeFuncBox
import Derived.Test.YtlkiigoblkfkpaaGreatDoorC1
/-
  CONTRACTS OF utf.Valid AND utf.Len.
-/

namespace Go.Proofs.YtlkiigoblkfkpaaGreatDoor
open Go.RowKit Go.Shelf
open Utf
attribute [local go_sem] Oper.semAt_some

theorem runes_stops (n : Nat) (hn : 1 ≤ n) (Bs : Nat) (s : ByteArray) (hs : s.size ≤ 1000000000000) (w : World) (hBs : w.heap[Bs]? = some (.cells #[.string s] 9 (0, 0))) :
    SeqStopsK Fence.wide n Tryz.prog 119 #[.pointer (some ⟨Bs, 0, none⟩)] runeVals (KeepsBlock Bs) (fun ys => ys = allR (bs s)) (fun pre => pre <+: allR (bs s)) s.size w :=
  fun l J Jx W hW _ _ hY h0 => iter_in n hn l Bs s hs J Jx (fun pre x W' hJ hp => hY pre x W' hJ (by
    have h1 := hp.length_le
    have h2 : (allR (bs s)).length ≤ (bs s).length := restR_length _ _ _
    rw [bs_length] at h2
    rw [List.length_append] at h1
    simp at h1
    omega)) W ((hW.block Bs (lt_of_block hBs)).trans hBs) h0

theorem keeps_t {B : Nat} {a b c : World} (h : KeepsBlock B a b) (k : KeepsBlock B b c) : KeepsBlock B a c := Eq.trans k h
theorem keeps_b {B : Nat} {w : World} (hB : B < w.heap.size) (W : World) (l : Nat) (o o' : Obj) (hl : w.heap.size ≤ l) (_ : W.heap[l]? = some o) (_ : o.isCells = false) (_ : o.isWalk = false) : KeepsBlock B W (W.putObj l o') :=
  World.putObj_heap_other (by omega)

namespace Utf
/-- Where the last rune ends. -/
def endR (l : List RuneAt) : Nat := match l.getLast? with | none => 0 | some x => x.1.1 + rsize x.1.2
theorem endR_snoc (l : List RuneAt) (x : RuneAt) : endR (l ++ [x]) = x.1.1 + rsize x.1.2 := by simp [endR]
/-- Well made? -/
def valid (l : List Int) : Bool := ((endR (allR l) : Int) == (l.length : Int))
end Utf

set_option maxRecDepth 100000 in
set_option maxHeartbeats 2000000 in
theorem valid_in (n : Nat) (hn : 3 ≤ n) (s : ByteArray) (hs : s.size ≤ 1000000000000) (w : World) :
    CallsIn Fence.wide n Tryz.prog 102 #[.string s] w fun e W' => e = .returned (.bool (valid (bs s))) ∧ Below w.heap.size w W' := by
  have h1 : 1 ≤ n := by omega
  refine callsIn_of_wp_marks Tryz.func102 rfl trivial ?_ rfl
  simp only [Tryz.ntmps102, List.size_toArray, List.length_cons, List.length_nil, Nat.reduceAdd, Nat.reduceSub, Array.replicate_succ, Array.replicate_zero, List.push_toArray, List.append_toArray, List.nil_append, List.cons_append]
  gi_wp2_with (refine ⟨trivial, ?_⟩; gi_at_call 112; refine (runes_in Fence.wide (n - 1) trivial rfl _ _).mono ?_; rintro e w' ⟨rfl, rfl⟩)
  have bS := Boxed.new w 3 (.int .i64 0)
  have bN := Boxed.new (w.alloc (.cells #[.int .i64 0] 3)) 9 (.string s)
  rw [World.size_alloc] at bN
  have hB0 : Below w.heap.size w ((w.alloc (.cells #[.int .i64 0] 3)).alloc (.cells #[.string s] 9)) := ((Below.refl _ w).alloc (Nat.le_refl _) _).alloc (by simp) _
  refine wpIn_rangeFunc_ownG rfl h1 (gf := 119) (lb := #[.pointer (some ⟨w.heap.size + 1, 0, none⟩)]) rfl trivial (enters_of Tryz.func119 (by kernel_rfl) rfl)
    (runes_stops (n - 1) (by omega) (w.heap.size + 1) s hs _ bN) keeps_t (keeps_b (by simp)) (Below.refl _ _) (fun _ => rfl)
    (fun pre W => (W.cell? ⟨w.heap.size, 0, none⟩ = some (.int .i64 (endR pre : Nat)) ∧ W.frozen? ⟨w.heap.size, 0, none⟩ = false) ∧ Below w.heap.size w W)
    (fun _ _ _ => False)
    (OwnFrom.and (Own.from (fun s A B row hs hg hr => ⟨cell_kept hs.1 hg hr, (frozen_kept hs.1 hg hr).trans hs.2⟩) _) (ownFrom_below (Nat.le_refl _) (by simp; omega)))
    (fun _ _ _ _ _ hs _ _ => hs)
    ⟨⟨(bS.alloc _).cell, (bS.alloc _).frozen⟩, hB0⟩
    (fun x => { tmps := #[.string s, undef, .bool false, .pointer (some ⟨w.heap.size, 0, none⟩), .int .i64 (x.1.1 : Int), .int .i64 x.1.2, .string s, .func (.func 119) #[] #[.pointer (some ⟨w.heap.size + 1, 0, none⟩)], .int .i64 (x.1.1 : Int), .int .i64 x.1.2, undef, undef, undef, undef, undef, undef, undef, undef], defers := [] }) ?assign ?body ?done ?stop
  case assign =>
    intro l x W K hK
    gi_wp2
    exact hK
  case body =>
    rintro l pre x W ⟨⟨hc, hf⟩, hB⟩ _
    have hp := x.2.1
    have hz := rsize_le x.1.2
    have h3 : 1 ≤ n - 1 - 1 := by omega
    gi_wp2_with (refine ⟨trivial, ?_⟩; gi_at_call 113; refine (CallsIn.inRound l (callsIn_wide.2 (size_any _ _))).mono ?_; rintro e w' ⟨rfl, rfl⟩)
    exact ⟨(KeepsOthers.setCell _ _ _).from _, Below.heap_setCell _ _ _ _ (by simp), ⟨by rw [endR_snoc]; exact World.cell?_setCell_same' _ _ _ (by rw [hc]; rfl), by rw [World.frozen?_setCell]; exact hf⟩, hB.setCell (p := ⟨w.heap.size, 0, none⟩) (Nat.le_refl _) _⟩
  case done =>
    rintro D ys W hD rfl ⟨⟨hc, hf⟩, hB⟩ hK
    gi_wp2
    refine ⟨by simp, .inl ⟨_, _, rfl, run_takeDeferred hK, ?_⟩⟩
    exact ⟨_, results_tmp rfl _ _ _, by unfold valid; rw [bs_length]; rfl, hB.trans (belowK_b (w := w) (Nat.le_refl _) W D _ _ (by simp at hD; omega) hK rfl rfl)⟩
  case stop =>
    rintro D c pre W _ _ h _
    exact h.elim

theorem valid_any (s : ByteArray) (w : World) (hs : s.size ≤ 1000000000000) :
    Calls Tryz.prog 102 #[.string s] w fun e W' => e = .returned (.bool (valid (bs s))) ∧ Below w.heap.size w W' := callsIn_wide.1 (valid_in 3 (Nat.le_refl _) s hs w)
end Go.Proofs.YtlkiigoblkfkpaaGreatDoor

/-
  PLAIN MATHEMATICS: a text that is well made is that of its runes; joined and cut.
-/

namespace Go.Proofs.YtlkiigoblkfkpaaGreatDoor.Utf

theorem AllMay.tail {r : Int} {rs : List Int} (h : AllMay (r :: rs)) : AllMay rs := fun x hx => h x (by simp [hx])
theorem AllMay.head {r : Int} {rs : List Int} (h : AllMay (r :: rs)) : May r := h r (by simp)
theorem AllMay.append {a b : List Int} (h : AllMay a) (k : AllMay b) : AllMay (a ++ b) := fun x hx => (List.mem_append.1 hx).elim (h x) (k x)

end Go.Proofs.YtlkiigoblkfkpaaGreatDoor.Utf

/-
  PLAIN MATHEMATICS: which runes may stand where; what stands for a rune in quotes.
-/

namespace Go.Proofs.YtlkiigoblkfkpaaGreatDoor.Term
open Utf

def small (c : Int) : Bool := decide (97 ≤ c) && decide (c ≤ 122)
def digit (c : Int) : Bool := decide (48 ≤ c) && decide (c ≤ 57)
def smallDigit (c : Int) : Bool := small c || digit c
def letter (c : Int) : Bool := small c || (decide (65 ≤ c) && decide (c ≤ 90))
def letterDigit (c : Int) : Bool := letter c || digit c
def notIRI : List Int := [60, 62, 34, 123, 125, 124, 94, 96, 92]
def iriC (c : Int) : Bool := decide (32 < c) && !notIRI.contains c

/-- Whether each rune may stand there, and the text is well made. -/
def eachB (P : Int → Bool) (l : List Int) : Bool := (allR l).all (fun x => P x.1.2) && valid l
end Go.Proofs.YtlkiigoblkfkpaaGreatDoor.Term

