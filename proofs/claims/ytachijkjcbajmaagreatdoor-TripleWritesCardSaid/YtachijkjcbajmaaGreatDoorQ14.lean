/-
  WHAT THE PROOF STANDS ON, a part of it: LexWord.
-/
import Derived.Test.YtachijkjcbajmaaGreatDoorQ13
/-
  CONTRACTS OF THE TAKERS word, name, variable.
-/

namespace Go.Proofs.YtachijkjcbajmaaGreatDoor
open Go.RowKit
open Utf Term Lex
set_option linter.unusedVariables false
set_option linter.unusedSimpArgs false

abbrev zeroC : Array Value := symC 0 ⟨#[]⟩ 0 ⟨#[]⟩ ⟨#[]⟩ 0
theorem below_lex (w : World) (o : Obj) : Below w.heap.size w (w.alloc o) := (Below.refl _ _).alloc (Nat.le_refl _) _
theorem below_next {w u v : World} (h : Below w.heap.size w u) (k : Below u.heap.size u v) : Below w.heap.size w v := h.trans (k.mono h.size)
theorem cell_kept_b {w u : World} {a : Addr} {v : Value} (h : Below w.heap.size w u) (hm : w.cell? a = some v) : u.cell? a = some v := (h.cell (World.block_lt_of_cell? _ _ hm)).trans hm
/-- A block of one's own, whole. -/
def BlockAt (W : World) (g : Nat) (cs : Array Value) (t : TypeId) : Prop := W.heap[g]? = some (.cells cs t (0, 0))
theorem block_new (w : World) (cs : Array Value) (t : TypeId) : BlockAt (w.alloc (.cells cs t)) w.heap.size cs t := heap_alloc_new w _
theorem BlockAt.kept {w u : World} {g : Nat} {cs : Array Value} {t : TypeId} (h : BlockAt w g cs t) (k : Below w.heap.size w u) : BlockAt u g cs t := by
  unfold BlockAt at *
  rw [k.block g (Array.getElem?_eq_some_iff.1 h).1]
  exact h
theorem BlockAt.cell {W : World} {g : Nat} {cs : Array Value} {t : TypeId} (h : BlockAt W g cs t) {j : Nat} {v : Value} (hv : cs[j]? = some v) : W.cell? ⟨g, j, none⟩ = some v := by
  unfold BlockAt at h
  unfold World.cell?
  rw [h]
  simpa using hv
theorem BlockAt.free {W : World} {g : Nat} {cs : Array Value} {t : TypeId} (h : BlockAt W g cs t) (i : Nat) : W.frozen? ⟨g, i, none⟩ = false := by
  unfold BlockAt at h
  unfold World.frozen?
  rw [h]
  simp
theorem BlockAt.set {W : World} {g : Nat} {cs : Array Value} {t : TypeId} (h : BlockAt W g cs t) (i : Nat) (v : Value) : BlockAt (W.setCell ⟨g, i, none⟩ v) g (cs.setIfInBounds i v) t := heap_setCell_same W g i cs t v h
theorem BlockAt.set6 {W : World} {g : Nat} {x0 x1 x2 x3 x4 x5 : Value} {t : TypeId} (h : BlockAt W g #[x0, x1, x2, x3, x4, x5] t) (a b c d e f : Value) :
    BlockAt ((((((W.setCell ⟨g, 0, none⟩ a).setCell ⟨g, 1, none⟩ b).setCell ⟨g, 2, none⟩ c).setCell ⟨g, 3, none⟩ d).setCell ⟨g, 4, none⟩ e).setCell ⟨g, 5, none⟩ f) g #[a, b, c, d, e, f] t :=
  (((((h.set 0 a).set 1 b).set 2 c).set 3 d).set 4 e).set 5 f
theorem below_set6 {B : Nat} {w W : World} (h : Below B w W) {g : Nat} (hg : B ≤ g) (a b c d e f : Value) :
    Below B w ((((((W.setCell ⟨g, 0, none⟩ a).setCell ⟨g, 1, none⟩ b).setCell ⟨g, 2, none⟩ c).setCell ⟨g, 3, none⟩ d).setCell ⟨g, 4, none⟩ e).setCell ⟨g, 5, none⟩ f) :=
  (((((h.setCell hg _).setCell hg _).setCell hg _).setCell hg _).setCell hg _).setCell hg _

theorem results_lex {fn : Func} {p u : Tmp} {ty : TypeId} (h : fn.results = #[.cell p ty, .tmp u]) (tmps : Array Value) (P : Program) (w : World) (g : Nat) (t : TypeId) (cs : Array Value) (fr : Nat × Nat) (fs : Array Field)
    (hp : tmps.getD p undef = .pointer (some ⟨g, 0, none⟩)) (hg : w.heap[g]? = some (.cells cs t fr))
    (hu : P.underlying ty = some (.struct fs)) (hi : (P.info? ty).map (·.size) = some cs.size) :
    (results fn tmps).run P w = .ok (.tuple #[.agg cs, tmps.getD u undef]) w := by
  rw [results_cell_tmp h, hp]
  simp [asAddr, run_loadVar_row w g t ty cs fr (.struct fs) hg hu rfl hi, Result.andThen]

/-- What stands in a reader. -/
structure RdAt (W : World) (rp : Nat) (s : ByteArray) (a : Nat) : Prop where
  c0 : W.cell? ⟨rp, 0, none⟩ = some (.string s)
  c1 : W.cell? ⟨rp, 1, none⟩ = some (.int .i64 a)
  le : a ≤ s.size
  sz : s.size ≤ 1000000000
theorem RdAt.below {w u : World} {rp : Nat} {s : ByteArray} {a : Nat} (h : RdAt w rp s a) (k : Below w.heap.size w u) : RdAt u rp s a := ⟨cell_kept_b k h.c0, cell_kept_b k h.c1, h.le, h.sz⟩
theorem RdAt.rest {w : World} {rp : Nat} {s : ByteArray} {a : Nat} (h : RdAt w rp s a) : Calls Tryz.prog 98 #[.pointer (some ⟨rp, 0, none⟩)] w fun e w' => e = .returned (.string (s.extract a s.size)) ∧ Below w.heap.size w w' :=
  lexRest_any rp s a h.le (by have := h.sz; omega) w h.c0 h.c1
theorem rest_size (s : ByteArray) (a : Nat) : (s.extract a s.size).size = s.size - a := by simp

theorem run_at (K : Nat) (P : Int → Bool) (hT : TellsB K P) (r : ByteArray) (a : Nat) (i : Int) (hi : i = a) (ha : a ≤ r.size) (hs : r.size ≤ 1000000000000) (w : World) :
    Calls Tryz.prog 99 #[.string r, .int .i64 i, .func (.func K) #[] #[]] w fun e w' => e = .returned (.int .i64 ((a + spanL P ((bs r).drop a) : Nat) : Int)) ∧ w = w' := by
  subst hi
  exact lexRun_any K P hT r a ha hs w
theorem run_zero (K : Nat) (P : Int → Bool) (hT : TellsB K P) (r : ByteArray) (hs : r.size ≤ 1000000000000) (w : World) :
    Calls Tryz.prog 99 #[.string r, .int .i64 0, .func (.func K) #[] #[]] w fun e w' => e = .returned (.int .i64 ((spanL P (bs r) : Nat) : Int)) ∧ w = w' := by
  have := run_at K P hT r 0 0 rfl (Nat.zero_le _) hs w
  rwa [List.drop_zero, Nat.zero_add] at this
theorem bs_first (r : ByteArray) (n : Nat) : bs (r.extract 0 n) = (bs r).take n := by
  rw [bs_extract, List.drop_zero, Nat.sub_zero]
theorem bs_mid (r : ByteArray) (a n : Nat) : bs (r.extract a (a + n)) = ((bs r).drop a).take n := by
  rw [bs_extract, Nat.add_sub_cancel_left]
theorem str_of {s : ByteArray} {l : List Int} (h : bs s = l) : strOfNums l = s := by
  subst h
  refine bs_inj (bs_strOfNums (bs_byte s))
theorem runL_size (P : Int → Bool) (r : ByteArray) : spanL P (bs r) ≤ r.size := by have := runL_le P (bs r); rwa [bs_length] at this
theorem isWord_at (s : ByteArray) (l : List Int) (h : bs s = l) (hs : s.size ≤ 1000000000000) (v : Bool) (hv : isWordL l = v) (w : World) : Calls Tryz.prog 102 #[.string s] w fun e w' => e = .returned (.bool v) ∧ w = w' := by
  subst h
  subst hv
  exact isWord_any s hs w

set_option maxRecDepth 100000 in
set_option maxHeartbeats 2000000 in
theorem word_any (rp : Nat) (s : ByteArray) (a : Nat) (w : World) (h : RdAt w rp s a) :
    Calls Tryz.prog 80 #[.pointer (some ⟨rp, 0, none⟩)] w fun e w' => e = tookE (wordT ((bs s).drop a)) ∧ Below w.heap.size w w' := by
  have HB := Lib.hid (below_lex w (.cells zeroC 43))
  have HZ := Lib.hid (block_new w zeroC 43)
  have HR := Lib.hid (h.below HB.out).rest
  have hr := rest_size s a
  have hs := h.sz
  have HL := Lib.hid (bs_from s a)
  generalize (s.extract a s.size) = r at *
  have HT : Hid (bs r = (bs s).drop a) := HL
  rw [← HT.out]
  clear HT HL h
  have hn := runL_size letterDigit r
  have HC := Lib.hid (fun W => run_zero 100 letterDigit tells_LD r (by omega) W)
  have HE : Hid (bs (r.extract 0 (spanL letterDigit (bs r))) = (bs r).take (spanL letterDigit (bs r))) := Lib.hid (bs_first _ _)
  by_cases h0 : spanL letterDigit (bs r) = 0
  · have HV : Hid (wordT (bs r) = .no) := Lib.hid (by unfold wordT; rw [if_pos h0])
    rw [h0] at HC
    rw [HV.out]
    clear HV h0 HE hn
    go_enter Tryz.func80, Tryz.ntmps80
    go_wp2_with (go_at_call 98; refine HR.out.mono ?_; rintro e w1 ⟨rfl, hB1⟩)
    have HB1 := Lib.hid (below_next HB.out hB1)
    have HZ1 := Lib.hid (HZ.out.kept hB1)
    clear hB1
    have k0 := HZ1.out.cell (j := 0) rfl
    have k1 := HZ1.out.cell (j := 1) rfl
    have k2 := HZ1.out.cell (j := 2) rfl
    have k3 := HZ1.out.cell (j := 3) rfl
    have k4 := HZ1.out.cell (j := 4) rfl
    have k5 := HZ1.out.cell (j := 5) rfl
    have kf : ∀ j, w1.frozen? ⟨w.heap.size, j, none⟩ = false := fun j => HZ1.out.free j
    go_wp2_with (go_at_call 99; refine (HC.out _).mono ?_; rintro e w' ⟨rfl, rfl⟩)
    refine bodyPost_ret (results_lex rfl _ _ _ w.heap.size 43 _ (0, 0) _ rfl (HZ1.out.set6 _ _ _ _ _ _) Tryz.underlying43 (by kernel_rfl)) rfl ⟨rfl, below_set6 HB1.out (Nat.le_refl _) _ _ _ _ _ _⟩
  · have h0' : ((spanL letterDigit (bs r) : Int) == 0) = false := by simp; omega
    cases hw : isWordL ((bs r).take (spanL letterDigit (bs r))) with
    | true =>
      have HV : Hid (wordT (bs r) = .got (symT 6 ((bs r).take (spanL letterDigit (bs r)))) (spanL letterDigit (bs r))) := Lib.hid (by unfold wordT; rw [if_neg h0, if_pos hw])
      rw [HV.out]
      have HI := Lib.hid (fun W => isWord_at _ _ HE.out (by simp; omega) _ hw W)
      have HX : Hid (tookE (.got (symT 6 ((bs r).take (spanL letterDigit (bs r)))) (spanL letterDigit (bs r))) = .returned (.tuple #[.agg (symC 6 (r.extract 0 (spanL letterDigit (bs r))) 0 ⟨#[]⟩ ⟨#[]⟩ 0), .int .i64 (spanL letterDigit (bs r) : Nat)])) := Lib.hid (by
        unfold tookE symV symA symT
        simp only [str_of HE.out]
        rfl)
      rw [HX.out]
      clear HV HE HX hw
      generalize spanL letterDigit (bs r) = n at *
      have b0 : 0 ≤ (n : Int) := by omega
      have b1 : (n : Int) ≤ (r.size : Int) := by omega
      go_enter Tryz.func80, Tryz.ntmps80
      go_wp2_with (go_at_call 98; refine HR.out.mono ?_; rintro e w1 ⟨rfl, hB1⟩)
      have HB1 := Lib.hid (below_next HB.out hB1)
      have HZ1 := Lib.hid (HZ.out.kept hB1)
      clear hB1
      have k0 := HZ1.out.cell (j := 0) rfl
      have k1 := HZ1.out.cell (j := 1) rfl
      have k2 := HZ1.out.cell (j := 2) rfl
      have k3 := HZ1.out.cell (j := 3) rfl
      have k4 := HZ1.out.cell (j := 4) rfl
      have k5 := HZ1.out.cell (j := 5) rfl
      have kf : ∀ j, w1.frozen? ⟨w.heap.size, j, none⟩ = false := fun j => HZ1.out.free j
      go_wp2_with (first | (go_at_call 99; refine (HC.out _).mono ?_; rintro e w' ⟨rfl, rfl⟩) | (go_at_call 102; refine (HI.out _).mono ?_; rintro e w' ⟨rfl, rfl⟩))
      refine bodyPost_ret (results_lex rfl _ _ _ w.heap.size 43 _ (0, 0) _ rfl (HZ1.out.set6 _ _ _ _ _ _) Tryz.underlying43 (by kernel_rfl)) rfl ⟨rfl, below_set6 HB1.out (Nat.le_refl _) _ _ _ _ _ _⟩
    | false =>
      have HV : Hid (wordT (bs r) = .bad) := Lib.hid (by unfold wordT; rw [if_neg h0, if_neg (by rw [hw]; decide)])
      rw [HV.out]
      have HI := Lib.hid (fun W => isWord_at _ _ HE.out (by simp; omega) _ hw W)
      clear HV HE hw
      generalize spanL letterDigit (bs r) = n at *
      have b0 : 0 ≤ (n : Int) := by omega
      have b1 : (n : Int) ≤ (r.size : Int) := by omega
      go_enter Tryz.func80, Tryz.ntmps80
      go_wp2_with (first | (go_at_call 98; refine HR.out.mono ?_; rintro e w1 ⟨rfl, hB1⟩) | (go_at_call 99; refine (HC.out _).mono ?_; rintro e w' ⟨rfl, rfl⟩) | (go_at_call 102; refine (HI.out _).mono ?_; rintro e w' ⟨rfl, rfl⟩))
      exact ⟨rfl, rfl, below_next HB.out hB1⟩
end Go.Proofs.YtachijkjcbajmaaGreatDoor
