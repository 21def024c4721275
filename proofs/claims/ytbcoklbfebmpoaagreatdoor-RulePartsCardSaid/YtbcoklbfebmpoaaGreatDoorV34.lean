/-
  WHAT THE PROOF STANDS ON, a part of it: LexRefRun.
-/
import Derived.Test.YtbcoklbfebmpoaaGreatDoorV32
import Derived.Test.YtbcoklbfebmpoaaGreatDoorV31
/-
  CONTRACTS OF THE REFERENCE's Run, All: exact.
-/

namespace Go.Proofs.YtbcoklbfebmpoaaGreatDoor
open Go.RowKit
open Utf Term Lex
set_option linter.unusedVariables false
set_option linter.unusedSimpArgs false

/-- The symbols from a place on where one should begin. -/
def atSym (l : List Int) (a : Nat) : List Sym × Nat :=
  if l.drop a = [] then ([], a)
  else match one (l.drop a) with
  | .got x n => ({ x with place := a } :: (toks (l.drop (a + n)) (a + n)).1, (toks (l.drop (a + n)) (a + n)).2)
  | _ => ([], a)
theorem toks_at (l : List Int) (b : Nat) : toks (l.drop b) b = atSym l (b + sk false (l.drop b)) := by
  rw [toks_eq]
  unfold atSym
  rw [List.drop_drop]
  split
  · rfl
  · cases one (l.drop (b + sk false (l.drop b))) with
    | no => rfl
    | bad => rfl
    | got x n => simp only [List.drop_drop, Nat.add_assoc]
/-- What has been taken, and what comes, make up T. -/
def GotA (l : List Int) (acc : List Sym) (a : Nat) (T : List Sym × Nat) : Prop := T = (acc ++ (atSym l a).1, (atSym l a).2)
theorem GotA.next {l : List Int} {acc : List Sym} {a n : Nat} {T : List Sym × Nat} {x : Sym} (h : GotA l acc a T) (ha : a < l.length) (ho : one (l.drop a) = .got x n) : GotA l (acc ++ [{ x with place := a }]) (a + n + sk false (l.drop (a + n))) T := by
  unfold GotA at *
  rw [h, ← toks_at]
  unfold atSym
  rw [if_neg (by intro e; have := List.drop_eq_nil_iff.1 e; omega), ho]
  simp
theorem GotA.bad {l : List Int} {acc : List Sym} {a : Nat} {T : List Sym × Nat} (h : GotA l acc a T) (ho : ∀ x n, one (l.drop a) ≠ .got x n) : T = (acc, a) := by
  unfold GotA at *
  rw [h]
  unfold atSym
  split
  · simp
  · cases hh : one (l.drop a) with
    | no => simp
    | bad => simp
    | got x n => exact absurd hh (ho x n)
theorem GotA.over {l : List Int} {acc : List Sym} {a : Nat} {T : List Sym × Nat} (h : GotA l acc a T) (ha : l.length ≤ a) : T = (acc, a) := by
  unfold GotA at *
  rw [h]
  unfold atSym
  rw [if_pos (List.drop_eq_nil_of_le ha)]
  simp
theorem slice_first (s : ByteArray) (c : Nat) (h : c ≤ s.size) (w : World) : (Instr.slice 9 (.string s) none (some (.int .i64 (c : Int))) none).run Tryz.prog w = .ok (.string (s.extract 0 c)) w := by
  rw [run_slice_string_h w 9 s Tryz.underlying9 .i64 (c : Int) (by omega) (by omega)]
  rw [show (c : Int).toNat = c by omega]

/-- What Run answers. -/
def RunX (s : ByteArray) (w : World) (e : Ending) (w' : World) : Prop :=
  Below w.heap.size w w' ∧ ∃ v, e = .returned (.tuple #[v, .int .i64 ((allL ((bs s).take (wfL (bs s)))).2 : Nat)]) ∧ w'.ownsRow w.heap.size 64 6 v (allL ((bs s).take (wfL (bs s)))).1.length (flatS (allL ((bs s).take (wfL (bs s)))).1)
theorem wfL_le (s : ByteArray) (hs : s.size ≤ 40000) : wfL (bs s) ≤ s.size := by
  obtain ⟨rs, b, hm, hl, hb⟩ := split_text _ (bs s) (Nat.le_refl _)
  have hlen : (encs rs).length + b.length = s.size := by rw [← bs_length, hl, List.length_append]
  rw [hl, wfL_split hm hb (by rw [List.length_append]; omega)]
  omega
theorem OneX.none {T : Took} {a : Nat} {w : World} {e : Ending} {w' : World} (h : OneX T a w e w') (hT : ∀ x n, T ≠ .got x n) : Below w.heap.size w w' ∧ ∃ k t tk tt te p, e = .returned (.tuple #[.agg (symC k t tk tt te p), .int .i64 (-1)]) := by
  obtain ⟨h1, h2⟩ := h
  cases T with
  | got x n => exact absurd rfl (hT x n)
  | no => exact ⟨h1, h2⟩
  | bad => exact ⟨h1, h2⟩

set_option maxRecDepth 100000 in
set_option maxHeartbeats 16000000 in
theorem refRun_is (s : ByteArray) (hs : s.size ≤ 40000) (w : World) :
    Calls Tryz.prog 5 #[.string s] w (RunX s w) := by
  have hwf := wfL_le s hs
  have HR := Lib.hid (refrunes_any s w hs)
  have hsl := slice_first s (wfL (bs s)) hwf
  obtain ⟨F, hF⟩ : ∃ F, F = RunX s w := ⟨_, rfl⟩
  obtain ⟨T, hT⟩ : ∃ T, T = allL ((bs s).take (wfL (bs s))) := ⟨_, rfl⟩
  have HOut : Hid (∀ v W, Below w.heap.size w W → W.ownsRow w.heap.size 64 6 v T.1.length (flatS T.1) → F (.returned (.tuple #[v, .int .i64 (T.2 : Nat)])) W) := Lib.hid (fun v W hB ho => by rw [hF]; unfold RunX; rw [← hT]; exact ⟨hB, v, rfl, ho⟩)
  have hbt : bs (s.extract 0 (wfL (bs s))) = (bs s).take (wfL (bs s)) := bs_first s _
  have hts : (s.extract 0 (wfL (bs s))).size ≤ 40000 := by simp; omega
  rw [← hbt] at hT
  rw [← hF]
  clear hF hbt
  have hwe : endR (allR (bs s)) = wfL (bs s) := rfl
  rw [hwe] at HR
  generalize s.extract 0 (wfL (bs s)) = t at *
  generalize wfL (bs s) = wf at *
  have hts9 : t.size ≤ 1000000000 := by omega
  have HSk : Hid (∀ (W : World) (a : Nat) (i : Int), i = a → a ≤ t.size → Calls Tryz.prog 17 #[.string t, .int .i64 i] W fun e w' => e = .returned (.int .i64 ((a + sk false ((bs t).drop a) : Nat) : Int)) ∧ W = w') := Lib.hid (fun W a i hi ha => by rw [hi]; exact refSkip_is t a hts9 ha W)
  have HG0 : Hid (GotA (bs t) [] (0 + sk false ((bs t).drop 0)) T) := Lib.hid (by
    unfold GotA
    rw [← toks_at, List.drop_zero, List.nil_append, hT]
    rfl)
  have hq0 : 0 + sk false ((bs t).drop 0) ≤ t.size := by
    have := sk_le false ((bs t).drop 0)
    rw [List.length_drop, bs_length] at this
    omega
  have HT := Lib.hid hT
  clear hT hwe
  go_enter Tryz.func5, Tryz.ntmps5
  go_upto_region 3 with (go_at_call 16; refine HR.out.mono ?_; rintro e w1 ⟨v0, rfl, hown0, hB1⟩)
  have HB1 := Lib.hid hB1
  clear hown0 hB1 hsl hwf HR
  have HSk0 := Lib.hid (HSk.out w1 0 0 rfl (Nat.zero_le _))
  generalize 0 + sk false ((bs t).drop 0) = q0 at *
  go_upto_region 5 with (go_at_call 17; refine HSk0.out.mono ?_; rintro e y ⟨rfl, rfl⟩)
  go_loopg [7, 8, 9, 10] t.size (fun g v i xp nx wr => ∃ (acc : List Sym) (a : Nat), i = .int .i64 a ∧ a ≤ t.size ∧ t.size - a ≤ g ∧ acc.length ≤ a ∧ GotA (bs t) acc a T ∧ wr.ownsRow w.heap.size 64 6 v acc.length (flatS acc) ∧ Below w.heap.size w wr)
  case atStart => exact ⟨[], q0, rfl, hq0, by omega, Nat.zero_le _, HG0.out, World.ownsRow_nil _ _ _ _, HB1.out⟩
  case round =>
    obtain ⟨acc, a, rfl, hat, hg, hal, hgot, hown, hB⟩ := hrel
    have HGo := Lib.hid hgot
    have HO := Lib.hid hown
    have HB := Lib.hid hB
    have hwr := hB.size
    clear hgot hown hB HG0 HB1 HSk0 hq0
    by_cases hlt : a < t.size
    · have d1 : decide ((a : Int) < (t.size : Int)) = true := by simpa using hlt
      have a0 : (0 : Int) ≤ (a : Int) := by omega
      have a1 : (a : Int) ≤ 40000 := by omega
      have hOne := refOne_is t a hts hlt wr
      by_cases hgx : ∃ x n, one ((bs t).drop a) = .got x n
      · obtain ⟨x, n, ho⟩ := hgx
        have hpos := one_pos ho
        rw [List.length_drop, bs_length] at hpos
        have HG2 := Lib.hid (HGo.out.next (by rw [bs_length]; exact hlt) ho)
        have HC : Hid (Calls Tryz.prog 18 #[.string t, .int .i64 a] wr fun e w' => e = .returned (.tuple #[.agg (symC x.kind (strOfNums x.text) x.tk (strOfNums x.tt) (strOfNums x.te) a), .int .i64 ((a : Int) + (n : Int))]) ∧ Below wr.heap.size wr w') := Lib.hid (by
          rw [ho] at hOne
          exact hOne.mono fun e w' h => ⟨h.2, h.1⟩)
        have hle := sk_le false ((bs t).drop (a + n))
        rw [List.length_drop, bs_length] at hle
        have HFl : Hid (flatS (acc ++ [{ x with place := a }]) = flatS acc ++ [.int .i64 x.kind, .string (strOfNums x.text), .int .i64 x.tk, .string (strOfNums x.tt), .string (strOfNums x.te), .int .i64 a]) := Lib.hid (flatS_snoc acc _)
        have dn : decide ((a : Int) + (n : Int) < 0) = false := by simp; omega
        obtain ⟨q, hq⟩ : ∃ q, q = a + n + sk false ((bs t).drop (a + n)) := ⟨_, rfl⟩
        have HSk1 : Hid (∀ W, Calls Tryz.prog 17 #[.string t, .int .i64 ((a : Int) + (n : Int))] W fun e w' => e = .returned (.int .i64 (q : Int)) ∧ W = w') := Lib.hid (fun W => by rw [hq]; exact HSk.out W (a + n) _ (by omega) (by omega))
        rw [← hq] at HG2
        have hq1 : a + 1 ≤ q := by omega
        have hq2 : q ≤ t.size := by omega
        clear ho hOne hq hle HGo HSk
        generalize strOfNums x.text = xt at *
        generalize strOfNums x.tt = xtt at *
        generalize strOfNums x.te = xte at *
        generalize (x.kind : Int) = xk at *
        generalize (x.tk : Int) = xtk at *
        obtain ⟨i0, hi, hz0, hz1, hz2⟩ := info_parts info_sym
        go_upto_region 9 with (go_at_call 18; refine HC.out.mono ?_; rintro e y ⟨rfl, hB2⟩)
        have hB3 : Below w.heap.size w (y.alloc (.cells (symC xk xt xtk xtt xte a) 64)) := (HB.out.trans (hB2.mono hwr)).trans ((below_lex y _).mono (Nat.le_trans hwr hB2.size))
        have hO3 := (own_kept HO.out hB2).alloc (.cells (symC xk xt xtk xtt xte a) 64)
        have hX3 := block_new y (symC xk xt xtk xtt xte a) 64
        generalize y.alloc (.cells (symC xk xt xtk xtt xte a) 64) = W1 at *
        have HB3 := Lib.hid hB3
        have HO3 := Lib.hid hO3
        have HX3 := Lib.hid hX3
        have hw1 := hB3.size
        clear hB2 hB3 hO3 hX3 HO HB HC
        have x0 := HX3.out.cell (j := 0) rfl
        have x1 := HX3.out.cell (j := 1) rfl
        have x2 := HX3.out.cell (j := 2) rfl
        have x3 := HX3.out.cell (j := 3) rfl
        have x4 := HX3.out.cell (j := 4) rfl
        have x5 := HX3.out.cell (j := 5) rfl
        go_wp2_with (first | (at_builtin; refine wpList_append_own _ rfl _ _ 24 rfl w.heap.size 64 i0 (.agg zeroC) 6 72 Tryz.underlying24 hi hz0 hz1 hz2 rfl (by decide) _ _ _ rfl (HO3.out.alloc _) ⟨W1.heap.size, 0, none⟩ 1 1 [.int .i64 xk, .string xt, .int .i64 xtk, .string xtt, .string xte, .int .i64 a] rfl rfl (cells_new _ _ _ _ (fun j u h => by simpa using h)) (by intro u hu; simp at hu; rcases hu with rfl | rfl | rfl | rfl | rfl | rfl <;> rfl) (by unfold maxLen; omega) (by omega) (by simp; omega) ?_; intro v' w3 hown' hgrow _; clear x0 x1 x2 x3 x4 x5) | (go_at_call 17; refine (HSk1.out _).mono ?_; rintro e y2 ⟨rfl, rfl⟩))
        have HB4 := Lib.hid ((HB3.out.alloc hw1 _).grown hgrow (by simp; omega) (fun k e => (HO3.out.lt k e).1))
        have HO4 := Lib.hid hown'
        clear hgrow hown'
        go_roundg (t.size - q)
        case measure => omega
        case rel => exact ⟨acc ++ [{ x with place := a }], q, rfl, hq2, Nat.le_refl _, by rw [List.length_append, List.length_singleton]; omega, HG2.out, by rw [List.length_append, List.length_singleton, HFl.out]; exact HO4.out, HB4.out⟩
      · have hgx2 : ∀ x n, one ((bs t).drop a) ≠ .got x n := fun x n h => hgx ⟨x, n, h⟩
        have HC : Hid (Calls Tryz.prog 18 #[.string t, .int .i64 a] wr fun e w' => Below wr.heap.size wr w' ∧ ∃ k t tk tt te p, e = .returned (.tuple #[.agg (symC k t tk tt te p), .int .i64 (-1)])) := Lib.hid (hOne.mono fun e w' h => h.none hgx2)
        have hTe := HGo.out.bad hgx2
        have HF : Hid (∀ v W, Below w.heap.size w W → W.ownsRow w.heap.size 64 6 v acc.length (flatS acc) → F (.returned (.tuple #[v, .int .i64 a])) W) := Lib.hid (fun v W hW ho => by
          have := HOut.out v W hW (by rw [hTe]; exact ho)
          rw [hTe] at this
          exact this)
        clear hTe HGo HOut hgx hgx2 hOne HSk
        go_upto_region 7 with (go_at_call 18; refine HC.out.mono ?_; rintro e y ⟨hB2, k', t', tk', tt', te', p', rfl⟩)
        have hB3 : Below w.heap.size w (y.alloc (.cells (symC k' t' tk' tt' te' p') 64)) := (HB.out.trans (hB2.mono hwr)).trans ((below_lex y _).mono (Nat.le_trans hwr hB2.size))
        have hO3 := (own_kept HO.out hB2).alloc (.cells (symC k' t' tk' tt' te' p') 64)
        generalize y.alloc (.cells (symC k' t' tk' tt' te' p') 64) = W1 at *
        have HB3 := Lib.hid hB3
        have HO3 := Lib.hid hO3
        clear hB2 hB3 hO3 HO HB HC
        go_wp2_with fail
        exact HF.out _ _ HB3.out HO3.out
    · have d1 : decide ((a : Int) < (t.size : Int)) = false := by simp; omega
      have hTe := HGo.out.over (by rw [bs_length]; omega)
      have HF : Hid (∀ v W, Below w.heap.size w W → W.ownsRow w.heap.size 64 6 v acc.length (flatS acc) → F (.returned (.tuple #[v, .int .i64 a])) W) := Lib.hid (fun v W hW ho => by
        have := HOut.out v W hW (by rw [hTe]; exact ho)
        rw [hTe] at this
        exact this)
      clear hTe HGo HOut
      go_wp2_with fail
      exact HF.out _ _ HB.out HO.out

end Go.Proofs.YtbcoklbfebmpoaaGreatDoor

