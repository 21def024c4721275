/-
  WHAT THE PROOF STANDS ON, a part of it: TermEach.
-/
import Derived.Test.YtlkiigoblkfkpaaGreatDoorC17
import Derived.Test.YtlkiigoblkfkpaaGreatDoorC15
import Derived.Shelf.AbstractIn
/-
  THE CONTRACT OF each: whether each rune may stand there, and the text is well made.
-/

namespace Go.Proofs.YtlkiigoblkfkpaaGreatDoor
open Go.RowKit Go.Shelf
open Utf Term
attribute [local go_sem] Oper.semAt_some

theorem keepsFrom_below {B : Nat} {W W' : World} (h : Below W.heap.size W W') : KeepsFrom B W W' :=
  ⟨h.size, fun k _ _ hk _ => (h.block k (Array.getElem?_eq_some_iff.1 hk).1).trans hk⟩
theorem keepsBlock_below {B : Nat} {W W' : World} (hB : B < W.heap.size) (h : Below W.heap.size W W') : KeepsBlock B W W' := h.block B hB

/-- A function of the program that tells of each rune whether it may stand there. -/
def Tells (k : Nat) (P : Int → Bool) : Prop :=
  (∀ args w, (callFunc k args).run Tryz.prog w = .ok (.enter k args) w) ∧ ∀ r W, May r → Calls Tryz.prog k #[.int .i64 r] W fun e W' => e = .returned (.bool (P r)) ∧ Below W.heap.size W W'

set_option maxRecDepth 100000 in
set_option maxHeartbeats 4000000 in
theorem each_in (n : Nat) (hn : 5 ≤ n) (k : Nat) (P : Int → Bool) (hk : Tells k P) (s : ByteArray) (hs : s.size ≤ 1000000000000) (w : World) :
    CallsIn Fence.wide n Tryz.prog 103 #[.string s, .func (.func k) #[] #[]] w fun e W' => e = .returned (.bool (eachB P (bs s))) ∧ Below w.heap.size w W' := by
  have h1 : 1 ≤ n := by omega
  have HK := Lib.hid hk
  clear hk
  refine callsIn_of_wp_marks Tryz.func103 rfl trivial ?_ rfl
  simp only [Tryz.ntmps103, List.size_toArray, List.length_cons, List.length_nil, Nat.reduceAdd, Nat.reduceSub, Array.replicate_succ, Array.replicate_zero, List.push_toArray, List.append_toArray, List.nil_append, List.cons_append]
  gi_wp2_with (refine ⟨trivial, ?_⟩; gi_at_call 112; refine (runes_in Fence.wide (n - 1) trivial rfl _ _).mono ?_; rintro e w' ⟨rfl, rfl⟩)
  have b0 := ((Boxed.new w 47 (.func (.func k) #[] #[])).alloc (.cells #[.bool false] 4)).alloc (.cells #[.string s] 9)
  have b1 := (Boxed.new (w.alloc (.cells #[.func (.func k) #[] #[]] 47)) 4 (.bool false)).alloc (.cells #[.string s] 9)
  have bN := Boxed.new ((w.alloc (.cells #[.func (.func k) #[] #[]] 47)).alloc (.cells #[.bool false] 4)) 9 (.string s)
  simp only [World.size_alloc] at b1 bN
  have hB0 : Below w.heap.size w (((w.alloc (.cells #[.func (.func k) #[] #[]] 47)).alloc (.cells #[.bool false] 4)).alloc (.cells #[.string s] 9)) :=
    (((Below.refl _ w).alloc (Nat.le_refl _) _).alloc (by simp) _).alloc (by simp; omega) _
  refine wpIn_rangeFunc_ownG rfl h1 (gf := 119) (lb := #[.pointer (some ⟨w.heap.size + 1 + 1, 0, none⟩)]) rfl trivial (enters_of Tryz.func119 (by kernel_rfl) rfl)
    (runes_stops (n - 1) (by omega) (w.heap.size + 1 + 1) s hs _ bN) keeps_t (keeps_b (by simp)) (Below.refl _ _) (fun _ => rfl)
    (fun pre W => (pre.all (fun x => P x.1.2) = true ∧ W.cell? ⟨w.heap.size, 0, none⟩ = some (.func (.func k) #[] #[]) ∧ W.cell? ⟨w.heap.size + 1, 0, none⟩ = some (.bool false) ∧ W.frozen? ⟨w.heap.size + 1, 0, none⟩ = false ∧ w.heap.size + 1 + 1 < W.heap.size) ∧ Below w.heap.size w W)
    (fun c pre W => (c = .ret ∧ pre.all (fun x => P x.1.2) = false ∧ W.cell? ⟨w.heap.size + 1, 0, none⟩ = some (.bool false)) ∧ Below w.heap.size w W)
    (OwnFrom.and (Own.from (fun s A B row hs hg hr => ⟨hs.1, cell_kept hs.2.1 hg hr, cell_kept hs.2.2.1 hg hr, (frozen_kept hs.2.2.1 hg hr).trans hs.2.2.2.1, Nat.lt_of_lt_of_le hs.2.2.2.2 hg.size⟩) _) (ownFrom_below (Nat.le_refl _) (by simp; omega)))
    (fun c => OwnFrom.and (Own.from (fun s A B row hs hg hr => ⟨hs.1, hs.2.1, cell_kept hs.2.2 hg hr⟩) _) (ownFrom_below (Nat.le_refl _) (by simp; omega)))
    ⟨⟨rfl, b0.cell, b1.cell, b1.frozen, by simp⟩, hB0⟩
    (fun x => { tmps := #[.string s, .func (.func k) #[] #[], undef, .pointer (some ⟨w.heap.size, 0, none⟩), .pointer (some ⟨w.heap.size + 1, 0, none⟩), undef, .int .i64 x.1.2, .string s, .func (.func 119) #[] #[.pointer (some ⟨w.heap.size + 1 + 1, 0, none⟩)], .int .i64 (x.1.1 : Int), .int .i64 x.1.2, undef, undef, undef, undef, undef, undef], defers := [] }) ?assign ?body ?done ?stop
  case assign =>
    intro l x W K hK
    gi_wp2
    exact hK
  case body =>
    rintro l pre x W ⟨⟨hall, c0, c1, f1, hsz⟩, hB⟩ _
    have HA := Lib.hid hall
    clear hall
    have e := HK.out.1
    have hC := HK.out.2 x.1.2 W x.2.2
    have h2 : 1 ≤ n - 1 - 1 := by omega
    cases hp : P x.1.2 with
    | true =>
      rw [hp] at hC
      have HP := Lib.hid hp
      clear hp
      gi_wp2_with (refine ⟨trivial, ?_⟩; gi_at_fn k; refine (CallsIn.inRound l (callsIn_wide.2 hC)).mono ?_; rintro e w1 ⟨rfl, hB1⟩)
      refine ⟨keepsFrom_below hB1, keepsBlock_below hsz hB1, ⟨by rw [List.all_append, HA.out]; simpa using HP.out, ?_, ?_, ?_, Nat.lt_of_lt_of_le hsz hB1.size⟩, hB.trans (hB1.mono hB.size)⟩
      · exact (hB1.cell (p := ⟨w.heap.size, 0, none⟩) (by show w.heap.size < W.heap.size; omega)).trans c0
      · exact (hB1.cell (p := ⟨w.heap.size + 1, 0, none⟩) (by show w.heap.size + 1 < W.heap.size; omega)).trans c1
      · exact (hB1.frozen (p := ⟨w.heap.size + 1, 0, none⟩) (by show w.heap.size + 1 < W.heap.size; omega)).trans f1
    | false =>
      rw [hp] at hC
      have HP := Lib.hid hp
      clear hp
      gi_wp2_with (refine ⟨trivial, ?_⟩; gi_at_fn k; refine (CallsIn.inRound l (callsIn_wide.2 hC)).mono ?_; rintro e w1 ⟨rfl, hB1⟩; have d1 := (hB1.cell (p := ⟨w.heap.size + 1, 0, none⟩) (by show w.heap.size + 1 < W.heap.size; omega)).trans c1; have g1 := (hB1.frozen (p := ⟨w.heap.size + 1, 0, none⟩) (by show w.heap.size + 1 < W.heap.size; omega)).trans f1)
      exact ⟨(keepsFrom_below hB1).trans ((KeepsOthers.setCell _ _ _).from _), ⟨rfl, by rw [List.all_append, HA.out]; simpa using HP.out, World.cell?_setCell_same' _ _ _ (by rw [d1]; rfl)⟩, (hB.trans (hB1.mono hB.size)).setCell (p := ⟨w.heap.size + 1, 0, none⟩) (by simp) _⟩
  case done =>
    rintro D ys W hD rfl ⟨⟨hall, c0, c1, f1, hsz⟩, hB⟩ hK
    have HA := Lib.hid hall
    clear hall
    gi_wp2_with (refine ⟨trivial, ?_⟩; gi_at_call 102; refine (valid_in (n - 1) (by omega) s hs _).mono ?_; rintro e w1 ⟨rfl, hB1⟩; have d1 := (hB1.cell (p := ⟨w.heap.size + 1, 0, none⟩) (by show w.heap.size + 1 < W.heap.size; omega)).trans c1; have g1 := (hB1.frozen (p := ⟨w.heap.size + 1, 0, none⟩) (by show w.heap.size + 1 < W.heap.size; omega)).trans f1)
    have hK1 : w1.heap[D]? = some (.deferred (some [])) := (hB1.block D (Array.getElem?_eq_some_iff.1 hK).1).trans hK
    have hK' := (KeepsOthers.setCell w1 ⟨w.heap.size + 1, 0, none⟩ (.bool (valid (bs s)))).same D _ hK1 rfl
    refine ⟨by simp, .inl ⟨_, _, rfl, run_takeDeferred hK', ?_⟩⟩
    have hc5 := cell_kept (World.cell?_setCell_same' w1 ⟨w.heap.size + 1, 0, none⟩ (.bool (valid (bs s))) (by rw [d1]; rfl)) (grownBy_putObj' _ D (.deferred none)) (fun r e => by cases e; exact ⟨_, hK', rfl⟩)
    refine ⟨.bool (valid (bs s)), ?_, ?_, ((hB.trans (hB1.mono hB.size)).setCell (p := ⟨w.heap.size + 1, 0, none⟩) (by simp) _).trans (belowK_b (w := w) (Nat.le_refl _) _ D _ _ (by simp at hD; omega) hK' rfl rfl)⟩
    · simp [results, Tryz.f103, go_sem, hc5]
    · unfold eachB
      rw [HA.out]
      rfl
  case stop =>
    rintro D c pre W hD hpre ⟨⟨rfl, hall, c1⟩, hB⟩ hK
    have HA := Lib.hid hall
    clear hall
    gi_wp2
    refine ⟨by simp, .inl ⟨_, _, rfl, run_takeDeferred hK, ?_⟩⟩
    have hc5 := cell_kept c1 (grownBy_putObj' _ D (.deferred none)) (fun r e => by cases e; exact ⟨_, hK, rfl⟩)
    refine ⟨.bool false, ?_, ?_, hB.trans (belowK_b (w := w) (Nat.le_refl _) W D _ _ (by simp at hD; omega) hK rfl rfl)⟩
    · simp [results, Tryz.f103, go_sem, hc5]
    · have : (allR (bs s)).all (fun x => P x.1.2) = false := by
        obtain ⟨t, ht⟩ := hpre
        rw [← ht, List.all_append, HA.out]; rfl
      unfold eachB
      rw [this]
      rfl
end Go.Proofs.YtlkiigoblkfkpaaGreatDoor

