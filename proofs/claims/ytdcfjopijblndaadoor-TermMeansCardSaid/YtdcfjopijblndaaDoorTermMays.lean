/-
  THE WALK OF TermMays. Written by tools/gentermmays.py.
-/
import Derived.Test.YtdcfjopijblndaaDoorRefTriple
import Derived.Test.YtdcfjopijblndaaDoorTermKnown
import Derived.Deep.DeepCutAuto
namespace Go.Proofs.YtdcfjopijblndaaDoor
open Go.RowKit
open Utf Term
set_option linter.unusedVariables false
set_option linter.unusedSimpArgs false

theorem boxm_start (m : Int) (w : World) (a b c : TermD) (hm : w.cell? ⟨0, 0, none⟩ = some (.int .i64 m)) : (fun W' => W'.cell? ⟨0, 0, none⟩ = some (.int .i64 m) ∧ W'.cell? ⟨w.heap.size, 0, none⟩ = some (.int .i64 a.1) ∧ W'.cell? ⟨w.heap.size, 1, none⟩ = some (.string a.2.1) ∧ W'.cell? ⟨w.heap.size, 2, none⟩ = some (.string a.2.2) ∧ W'.cell? ⟨w.heap.size, 3, none⟩ = some (.int .i64 b.1) ∧ W'.cell? ⟨w.heap.size, 4, none⟩ = some (.string b.2.1) ∧ W'.cell? ⟨w.heap.size, 5, none⟩ = some (.string b.2.2) ∧ W'.cell? ⟨w.heap.size, 6, none⟩ = some (.int .i64 c.1) ∧ W'.cell? ⟨w.heap.size, 7, none⟩ = some (.string c.2.1) ∧ W'.cell? ⟨w.heap.size, 8, none⟩ = some (.string c.2.2) ∧ Below w.heap.size w W') (w.alloc (.cells #[.int .i64 a.1, .string a.2.1, .string a.2.2, .int .i64 b.1, .string b.2.1, .string b.2.2, .int .i64 c.1, .string c.2.1, .string c.2.2] 26)) := by
  have hB : Below w.heap.size w (w.alloc (.cells #[.int .i64 a.1, .string a.2.1, .string a.2.2, .int .i64 b.1, .string b.2.1, .string b.2.2, .int .i64 c.1, .string c.2.1, .string c.2.2] 26)) := below_new _ _
  refine ⟨cell_below hB hm, ?_, ?_, ?_, ?_, ?_, ?_, ?_, ?_, ?_, hB⟩
  all_goals
    rw [World.cell?_alloc_at _ _ _ _ rfl]
    rfl
theorem boxm_step {m : Int} {w u v : World} {a b c : TermD} (h : (fun W' => W'.cell? ⟨0, 0, none⟩ = some (.int .i64 m) ∧ W'.cell? ⟨w.heap.size, 0, none⟩ = some (.int .i64 a.1) ∧ W'.cell? ⟨w.heap.size, 1, none⟩ = some (.string a.2.1) ∧ W'.cell? ⟨w.heap.size, 2, none⟩ = some (.string a.2.2) ∧ W'.cell? ⟨w.heap.size, 3, none⟩ = some (.int .i64 b.1) ∧ W'.cell? ⟨w.heap.size, 4, none⟩ = some (.string b.2.1) ∧ W'.cell? ⟨w.heap.size, 5, none⟩ = some (.string b.2.2) ∧ W'.cell? ⟨w.heap.size, 6, none⟩ = some (.int .i64 c.1) ∧ W'.cell? ⟨w.heap.size, 7, none⟩ = some (.string c.2.1) ∧ W'.cell? ⟨w.heap.size, 8, none⟩ = some (.string c.2.2) ∧ Below w.heap.size w W') u) (k : Below u.heap.size u v) : (fun W' => W'.cell? ⟨0, 0, none⟩ = some (.int .i64 m) ∧ W'.cell? ⟨w.heap.size, 0, none⟩ = some (.int .i64 a.1) ∧ W'.cell? ⟨w.heap.size, 1, none⟩ = some (.string a.2.1) ∧ W'.cell? ⟨w.heap.size, 2, none⟩ = some (.string a.2.2) ∧ W'.cell? ⟨w.heap.size, 3, none⟩ = some (.int .i64 b.1) ∧ W'.cell? ⟨w.heap.size, 4, none⟩ = some (.string b.2.1) ∧ W'.cell? ⟨w.heap.size, 5, none⟩ = some (.string b.2.2) ∧ W'.cell? ⟨w.heap.size, 6, none⟩ = some (.int .i64 c.1) ∧ W'.cell? ⟨w.heap.size, 7, none⟩ = some (.string c.2.1) ∧ W'.cell? ⟨w.heap.size, 8, none⟩ = some (.string c.2.2) ∧ Below w.heap.size w W') v := by
  obtain ⟨hm, h0, h1, h2, h3, h4, h5, h6, h7, h8, hB⟩ := h
  exact ⟨cell_below k hm, cell_below k h0, cell_below k h1, cell_below k h2, cell_below k h3, cell_below k h4, cell_below k h5, cell_below k h6, cell_below k h7, cell_below k h8, below_step hB k⟩
theorem boxm_drew {m : Int} {w u : World} {a b c : TermD} (h : (fun W' => W'.cell? ⟨0, 0, none⟩ = some (.int .i64 m) ∧ W'.cell? ⟨w.heap.size, 0, none⟩ = some (.int .i64 a.1) ∧ W'.cell? ⟨w.heap.size, 1, none⟩ = some (.string a.2.1) ∧ W'.cell? ⟨w.heap.size, 2, none⟩ = some (.string a.2.2) ∧ W'.cell? ⟨w.heap.size, 3, none⟩ = some (.int .i64 b.1) ∧ W'.cell? ⟨w.heap.size, 4, none⟩ = some (.string b.2.1) ∧ W'.cell? ⟨w.heap.size, 5, none⟩ = some (.string b.2.2) ∧ W'.cell? ⟨w.heap.size, 6, none⟩ = some (.int .i64 c.1) ∧ W'.cell? ⟨w.heap.size, 7, none⟩ = some (.string c.2.1) ∧ W'.cell? ⟨w.heap.size, 8, none⟩ = some (.string c.2.2) ∧ Below w.heap.size w W') u) : (fun W' => W'.cell? ⟨0, 0, none⟩ = some (.int .i64 m) ∧ W'.cell? ⟨w.heap.size, 0, none⟩ = some (.int .i64 a.1) ∧ W'.cell? ⟨w.heap.size, 1, none⟩ = some (.string a.2.1) ∧ W'.cell? ⟨w.heap.size, 2, none⟩ = some (.string a.2.2) ∧ W'.cell? ⟨w.heap.size, 3, none⟩ = some (.int .i64 b.1) ∧ W'.cell? ⟨w.heap.size, 4, none⟩ = some (.string b.2.1) ∧ W'.cell? ⟨w.heap.size, 5, none⟩ = some (.string b.2.2) ∧ W'.cell? ⟨w.heap.size, 6, none⟩ = some (.int .i64 c.1) ∧ W'.cell? ⟨w.heap.size, 7, none⟩ = some (.string c.2.1) ∧ W'.cell? ⟨w.heap.size, 8, none⟩ = some (.string c.2.2) ∧ Below w.heap.size w W') u.drew := by
  obtain ⟨hm, h0, h1, h2, h3, h4, h5, h6, h7, h8, hB⟩ := h
  exact ⟨hm, h0, h1, h2, h3, h4, h5, h6, h7, h8, hB.drew⟩

theorem cellm {m : Int} {w u : World} {a b c : TermD} (h : (fun W' => W'.cell? ⟨0, 0, none⟩ = some (.int .i64 m) ∧ W'.cell? ⟨w.heap.size, 0, none⟩ = some (.int .i64 a.1) ∧ W'.cell? ⟨w.heap.size, 1, none⟩ = some (.string a.2.1) ∧ W'.cell? ⟨w.heap.size, 2, none⟩ = some (.string a.2.2) ∧ W'.cell? ⟨w.heap.size, 3, none⟩ = some (.int .i64 b.1) ∧ W'.cell? ⟨w.heap.size, 4, none⟩ = some (.string b.2.1) ∧ W'.cell? ⟨w.heap.size, 5, none⟩ = some (.string b.2.2) ∧ W'.cell? ⟨w.heap.size, 6, none⟩ = some (.int .i64 c.1) ∧ W'.cell? ⟨w.heap.size, 7, none⟩ = some (.string c.2.1) ∧ W'.cell? ⟨w.heap.size, 8, none⟩ = some (.string c.2.2) ∧ Below w.heap.size w W') u) : u.cell? ⟨0, 0, none⟩ = some (.int .i64 m) := h.1
theorem longD_any {a : TermD} {v : Bool} (h : longD a = v) (W : World) :
    Calls Tryd.prog 8 #[termD a] W fun e w' => e = .returned (.bool v) ∧ Below W.heap.size W w' := by
  rw [← h]; exact long_any a W

/-- Is one of them long? Then what stands in the chapter alone is asked. -/
theorem termMays_long (a b c : TermD) (h : longD a = true ∨ longD b = true ∨ longD c = true) (m : Int) (w : World) (hm : w.cell? ⟨0, 0, none⟩ = some (.int .i64 m)) :
    Calls Tryd.prog 3 #[tripleV a b c] w fun e w' => e = .returned (.bool true) ∧ Below w.heap.size w w' := by
  have LA := fun v h => longD_any (a := a) (v := v) h
  have LB := fun v h => longD_any (a := b) (v := v) h
  have LC := fun v h => longD_any (a := c) (v := v) h
  have HK := known2_any m
  have H0 := Lib.hid (boxm_start m w a b c hm)
  have hh : Hid (longD a = true ∨ longD b = true ∨ longD c = true) := Lib.hid h
  clear h hm
  generalize longD a = la at *
  generalize longD b = lb at *
  generalize longD c = lc at *
  go_enter Tryd.func3, Tryd.ntmps3
  go_wp2_with fail
  refine (LA la rfl _).mono ?_
  rintro e w1 ⟨rfl, hB1⟩
  have H1 := Lib.hid (boxm_step H0.out hB1)
  clear H0 hB1
  cases la with
  | true =>
    go_wp2_with fail
    refine (HK _ H1.out.1).mono ?_
    rintro e w2 ⟨rfl, hB2⟩
    go_wp2_with fail
    go_ret
    exact ⟨rfl, below_step H1.out.2.2.2.2.2.2.2.2.2.2 hB2⟩
  | false =>
    obtain ⟨_, _, _, _, q3, q4, q5, _, _, _, _⟩ := H1.out
    go_wp2_with fail
    refine (LB lb rfl _).mono ?_
    rintro e w2 ⟨rfl, hB2⟩
    have H2 := Lib.hid (boxm_step H1.out hB2)
    clear H1 hB2 q3 q4 q5
    cases lb with
    | true =>
      go_wp2_with fail
      refine (HK _ H2.out.1).mono ?_
      rintro e w3 ⟨rfl, hB3⟩
      go_wp2_with fail
      go_ret
      exact ⟨rfl, below_step H2.out.2.2.2.2.2.2.2.2.2.2 hB3⟩
    | false =>
      obtain ⟨_, _, _, _, _, _, _, q6, q7, q8, _⟩ := H2.out
      go_wp2_with fail
      refine (LC lc rfl _).mono ?_
      rintro e w3 ⟨rfl, hB3⟩
      have H3 := Lib.hid (boxm_step H2.out hB3)
      clear H2 hB3 q6 q7 q8
      obtain rfl : lc = true := by
        rcases hh.out with h | h | h
        · cases h
        · cases h
        · exact h
      go_wp2_with fail
      refine (HK _ H3.out.1).mono ?_
      rintro e w4 ⟨rfl, hB4⟩
      go_wp2_with fail
      go_ret
      exact ⟨rfl, below_step H3.out.2.2.2.2.2.2.2.2.2.2 hB4⟩

set_option maxRecDepth 100000 in
set_option maxHeartbeats 4000000 in
theorem termMays_short (a b c : TermD) (ha : longD a = false) (hb : longD b = false) (hc : longD c = false) (m : Int) (w : World) (hm : w.cell? ⟨0, 0, none⟩ = some (.int .i64 m)) :
    Calls Tryd.prog 3 #[tripleV a b c] w fun e w' => e = .returned (.bool true) ∧ Below w.heap.size w w' := by
  have LA := fun W => longD_any ha W
  have LB := fun W => longD_any hb W
  have LC := fun W => longD_any hc W
  have sa := short_of_long ha
  have sb := short_of_long hb
  have sc := short_of_long hc
  have HK := known2_any m
  have H0 := Lib.hid (boxm_start m w a b c hm)
  have M1 := fun W hW => mayD_any (v := mayD c) sc.fits rfl m W hW
  have M2 := fun W => refmayD_any (v := mayD c) sc rfl W
  have M3 := fun W hW => mayAdd_any a b c sa.fits sb.fits sc.fits m W hW
  have M4 := fun W => refAdd_any a b c sa sb sc W
  have M5 : ∀ W, W.cell? ⟨0, 0, none⟩ = some (.int .i64 m) → Calls Tryd.prog 16 #[tripleV a b c] W fun e w' => e = .returned (.bool (followD a b c)) ∧ Below W.heap.size W w' := fun W hW => mayFollow_any a b c sa.fits sb.fits sc.fits m W hW
  have M6 := fun W => refFollow_any a b c sa sb sc W
  have R1 : mayD c = true → ∀ W, Calls Tryd.prog 19 #[termD c] W fun e w' => e = .returned (.string (strOfNums (textD c))) ∧ Below W.heap.size W w' := fun h W => refText_any h sc W
  have R2 : followD a b c = true → ∀ W, Calls Tryd.prog 20 #[tripleV a b c] W fun e w' => e = .returned (.string (strOfNums (tripleL a b c))) ∧ Below W.heap.size W w' := fun h W => by
    unfold followD at h
    simp only [Bool.and_eq_true] at h
    exact refTripleText_any a b c sa sb sc h.1.1 h.1.2 h.2 W
  have MC : ∃ X n, (∀ W, W.cell? ⟨0, 0, none⟩ = some (.int .i64 m) → Calls Tryd.prog 10 #[termD c] W fun e w' => e = .returned (.tuple #[.string X, .int .i64 n]) ∧ Below W.heap.size W w') ∧ (mayD c = true → X = strOfNums (textD c) ∧ n = 0) ∧ (mayD c = false → X = ⟨#[]⟩ ∧ n = 2) := by
    cases h : mayD c with
    | true => exact ⟨_, _, fun W hW => by have := textD_any (v := true) sc.fits h m W hW; rw [if_pos rfl] at this; exact this, fun _ => ⟨rfl, rfl⟩, (fun h => by cases h)⟩
    | false => exact ⟨_, _, fun W hW => by have := textD_any (v := false) sc.fits h m W hW; rw [if_neg (by decide)] at this; exact this, (fun h => by cases h), fun _ => ⟨rfl, rfl⟩⟩
  have MT : ∃ Y n, (∀ W, W.cell? ⟨0, 0, none⟩ = some (.int .i64 m) → Calls Tryd.prog 11 #[tripleV a b c] W fun e w' => e = .returned (.tuple #[.string Y, .int .i64 n]) ∧ Below W.heap.size W w') ∧ (followD a b c = true → Y = strOfNums (tripleL a b c) ∧ n = 0) ∧ (followD a b c = false → Y = ⟨#[]⟩ ∧ n = 2) := by
    have hT := fun (W : World) (hW : W.cell? ⟨0, 0, none⟩ = some (.int .i64 m)) => tripleText_any a b c sa.fits sb.fits sc.fits m W hW
    have hF : (mayD a && mayD b && mayD c) = followD a b c := rfl
    rw [hF] at hT
    cases h : followD a b c with
    | true => rw [h] at hT; exact ⟨_, _, fun W hW => by have := hT W hW; rw [if_pos rfl] at this; exact this, fun _ => ⟨rfl, rfl⟩, (fun h => by cases h)⟩
    | false => rw [h] at hT; exact ⟨_, _, fun W hW => by have := hT W hW; rw [if_neg (by decide)] at this; exact this, (fun h => by cases h), fun _ => ⟨rfl, rfl⟩⟩
  obtain ⟨X0, n0, MC, x1, x2⟩ := MC
  obtain ⟨Y0, n1, MT, y1, y2⟩ := MT
  have hcf : Hid (mayD c = false → followD a b c = false) := Lib.hid (fun h => by unfold followD; rw [h, Bool.and_false])
  have X1 := Lib.hid x1
  have X2 := Lib.hid x2
  have Y1 := Lib.hid y1
  have Y2 := Lib.hid y2
  have RR1 := Lib.hid R1
  have RR2 := Lib.hid R2
  clear x1 x2 y1 y2 R1 R2 ha hb hc sa sb sc hm
  generalize followD a b c = FD at *
  generalize addD a b c = AD at *
  generalize mayD c = vc at *
  generalize strOfNums (textD c) = X at *
  generalize strOfNums (tripleL a b c) = Y at *
  go_enter Tryd.func3, Tryd.ntmps3
  go_wp2_with fail
  refine (LA _).mono ?_
  rintro e w1 ⟨rfl, hB1⟩
  have H1 := Lib.hid (boxm_step H0.out hB1)
  obtain ⟨_, _, _, _, q3, q4, q5, _, _, _, _⟩ := H1.out
  clear H0 hB1
  go_wp2_with fail
  refine (LB _).mono ?_
  rintro e w2 ⟨rfl, hB2⟩
  have H2 := Lib.hid (boxm_step H1.out hB2)
  clear H1 hB2 q3 q4 q5
  obtain ⟨_, _, _, _, _, _, _, q6, q7, q8, _⟩ := H2.out
  go_wp2_with fail
  refine (LC _).mono ?_
  rintro e w3 ⟨rfl, hB3⟩
  have H3 := Lib.hid (boxm_step H2.out hB3)
  clear H2 hB3 q6 q7 q8
  obtain ⟨_, _, _, _, _, _, _, q6, q7, q8, _⟩ := H3.out
  go_wp2_with fail
  refine (MC _ H3.out.1).mono ?_
  rintro e w4 ⟨rfl, hB4⟩
  have H4 := Lib.hid (boxm_step H3.out hB4)
  clear H3 hB4 q6 q7 q8
  obtain ⟨_, q0, q1, q2, q3, q4, q5, q6, q7, q8, _⟩ := H4.out
  go_wp2_with fail
  refine (MT _ H4.out.1).mono ?_
  rintro e w5 ⟨rfl, hB5⟩
  have H5 := Lib.hid (boxm_step H4.out hB5)
  clear H4 hB5 q0 q1 q2 q3 q4 q5 q6 q7 q8
  go_upto_region 5 with fail
  go_cut [52] (fun s52 wx => s52 = .bool false ∧ wx.cell? ⟨0, 0, none⟩ = some (.int .i64 m) ∧ wx.cell? ⟨w.heap.size, 0, none⟩ = some (.int .i64 a.1) ∧ wx.cell? ⟨w.heap.size, 1, none⟩ = some (.string a.2.1) ∧ wx.cell? ⟨w.heap.size, 2, none⟩ = some (.string a.2.2) ∧ wx.cell? ⟨w.heap.size, 3, none⟩ = some (.int .i64 b.1) ∧ wx.cell? ⟨w.heap.size, 4, none⟩ = some (.string b.2.1) ∧ wx.cell? ⟨w.heap.size, 5, none⟩ = some (.string b.2.2) ∧ wx.cell? ⟨w.heap.size, 6, none⟩ = some (.int .i64 c.1) ∧ wx.cell? ⟨w.heap.size, 7, none⟩ = some (.string c.2.1) ∧ wx.cell? ⟨w.heap.size, 8, none⟩ = some (.string c.2.2) ∧ Below w.heap.size w wx)
  case first =>
    have H6 := Lib.hid (boxm_drew H5.out)
    go_region_held3 (fun W' => W'.cell? ⟨0, 0, none⟩ = some (.int .i64 m) ∧ W'.cell? ⟨w.heap.size, 0, none⟩ = some (.int .i64 a.1) ∧ W'.cell? ⟨w.heap.size, 1, none⟩ = some (.string a.2.1) ∧ W'.cell? ⟨w.heap.size, 2, none⟩ = some (.string a.2.2) ∧ W'.cell? ⟨w.heap.size, 3, none⟩ = some (.int .i64 b.1) ∧ W'.cell? ⟨w.heap.size, 4, none⟩ = some (.string b.2.1) ∧ W'.cell? ⟨w.heap.size, 5, none⟩ = some (.string b.2.2) ∧ W'.cell? ⟨w.heap.size, 6, none⟩ = some (.int .i64 c.1) ∧ W'.cell? ⟨w.heap.size, 7, none⟩ = some (.string c.2.1) ∧ W'.cell? ⟨w.heap.size, 8, none⟩ = some (.string c.2.2) ∧ Below w.heap.size w W') ((first | assumption | exact H6.out | exact boxm_step (by assumption) (by assumption))) ((first
      | (go_at_call 12; refine (M1 _ (cellm (by assumption))).mono ?_; rintro e w6 ⟨rfl, hB6⟩)
      | (go_at_call 13; refine (M2 _).mono ?_; rintro e w6 ⟨rfl, hB6⟩)
      | (go_at_call 14; refine (M3 _ (cellm (by assumption))).mono ?_; rintro e w6 ⟨rfl, hB6⟩)
      | (go_at_call 15; refine (M4 _).mono ?_; rintro e w6 ⟨rfl, hB6⟩)
      | (go_at_call 16; refine (M5 _ (cellm (by assumption))).mono ?_; rintro e w6 ⟨rfl, hB6⟩)
      | (go_at_call 17; refine (M6 _).mono ?_; rintro e w6 ⟨rfl, hB6⟩)))
    all_goals
      rename_i hHeld
      go_wp2_with fail
      go_meet
      exact ⟨rfl, hHeld⟩
  case rest =>
    rename_i w6
    obtain ⟨rfl, hS⟩ := hcut
    have H6 := Lib.hid hS
    obtain ⟨_, _, _, _, _, _, _, q6, q7, q8, _⟩ := H6.out
    clear H5 hS
    go_wp2_with fail
    refine (M2 _).mono ?_
    rintro e w7 ⟨rfl, hB7⟩
    have H7 := Lib.hid (boxm_step H6.out hB7)
    clear H6 hB7 q6 q7 q8
    have K : ∀ u, (fun W' => W'.cell? ⟨0, 0, none⟩ = some (.int .i64 m) ∧ W'.cell? ⟨w.heap.size, 0, none⟩ = some (.int .i64 a.1) ∧ W'.cell? ⟨w.heap.size, 1, none⟩ = some (.string a.2.1) ∧ W'.cell? ⟨w.heap.size, 2, none⟩ = some (.string a.2.2) ∧ W'.cell? ⟨w.heap.size, 3, none⟩ = some (.int .i64 b.1) ∧ W'.cell? ⟨w.heap.size, 4, none⟩ = some (.string b.2.1) ∧ W'.cell? ⟨w.heap.size, 5, none⟩ = some (.string b.2.2) ∧ W'.cell? ⟨w.heap.size, 6, none⟩ = some (.int .i64 c.1) ∧ W'.cell? ⟨w.heap.size, 7, none⟩ = some (.string c.2.1) ∧ W'.cell? ⟨w.heap.size, 8, none⟩ = some (.string c.2.2) ∧ Below w.heap.size w W') u → Hid (Below w.heap.size w u) := fun u h => Lib.hid h.2.2.2.2.2.2.2.2.2.2
    cases vc with
    | false =>
      obtain ⟨rfl, rfl⟩ := X2.out rfl
      obtain rfl := hcf.out rfl
      obtain ⟨rfl, rfl⟩ := Y2.out rfl
      obtain ⟨_, q0, q1, q2, q3, q4, q5, q6, q7, q8, _⟩ := H7.out
      go_wp2_with (go_at_call 18; refine (num2_any _ _).mono ?_; rintro e w' ⟨rfl, rfl⟩)
      refine (M6 _).mono ?_
      rintro e w8 ⟨rfl, hB8⟩
      have H8 := Lib.hid (boxm_step H7.out hB8)
      clear H7 hB8 q0 q1 q2 q3 q4 q5 q6 q7 q8
      go_wp2_with (go_at_call 18; refine (num2_any _ _).mono ?_; rintro e w' ⟨rfl, rfl⟩)
      refine (HK _ H8.out.1).mono ?_
      rintro e w9 ⟨rfl, hB9⟩
      have H9 := Lib.hid (boxm_step H8.out hB9)
      go_wp2_with fail
      go_ret
      exact ⟨rfl, (K _ H9.out).out⟩
    | true =>
      obtain ⟨rfl, rfl⟩ := X1.out rfl
      have RX := RR1.out rfl
      obtain ⟨_, _, _, _, _, _, _, q6, q7, q8, _⟩ := H7.out
      go_wp2_with fail
      refine (RX _).mono ?_
      rintro e w8 ⟨rfl, hB8⟩
      have H8 := Lib.hid (boxm_step H7.out hB8)
      clear H7 hB8 q6 q7 q8
      obtain ⟨_, q0, q1, q2, q3, q4, q5, q6, q7, q8, _⟩ := H8.out
      go_wp2_with (go_at_call 18; refine (num2_any _ _).mono ?_; rintro e w' ⟨rfl, rfl⟩)
      refine (M6 _).mono ?_
      rintro e w9 ⟨rfl, hB9⟩
      have H9 := Lib.hid (boxm_step H8.out hB9)
      clear H8 hB9 q0 q1 q2 q3 q4 q5 q6 q7 q8
      cases FD with
      | false =>
        obtain ⟨rfl, rfl⟩ := Y2.out rfl
        go_wp2_with (go_at_call 18; refine (num2_any _ _).mono ?_; rintro e w' ⟨rfl, rfl⟩)
        refine (HK _ H9.out.1).mono ?_
        rintro e w10 ⟨rfl, hB10⟩
        have H10 := Lib.hid (boxm_step H9.out hB10)
        go_wp2_with fail
        go_ret
        exact ⟨rfl, (K _ H10.out).out⟩
      | true =>
        obtain ⟨rfl, rfl⟩ := Y1.out rfl
        have RY := RR2.out rfl
        obtain ⟨_, q0, q1, q2, q3, q4, q5, q6, q7, q8, _⟩ := H9.out
        go_wp2_with fail
        refine (RY _).mono ?_
        rintro e w10 ⟨rfl, hB10⟩
        have H10 := Lib.hid (boxm_step H9.out hB10)
        clear H9 hB10 q0 q1 q2 q3 q4 q5 q6 q7 q8
        go_wp2_with (go_at_call 18; refine (num2_any _ _).mono ?_; rintro e w' ⟨rfl, rfl⟩)
        refine (HK _ H10.out.1).mono ?_
        rintro e w11 ⟨rfl, hB11⟩
        have H11 := Lib.hid (boxm_step H10.out hB11)
        go_wp2_with fail
        go_ret
        exact ⟨rfl, (K _ H11.out).out⟩

theorem termMays_walk (a b c : TermD) (m : Int) (w : World) (hm : w.cell? ⟨0, 0, none⟩ = some (.int .i64 m)) :
    Calls Tryd.prog 3 #[tripleV a b c] w fun e w' => e = .returned (.bool true) ∧ Below w.heap.size w w' := by
  by_cases h : longD a = true ∨ longD b = true ∨ longD c = true
  · exact termMays_long a b c h m w hm
  · have f : ∀ x : TermD, ¬ longD x = true → longD x = false := fun x h => by simpa using h
    exact termMays_short a b c (f _ fun e => h (.inl e)) (f _ fun e => h (.inr (.inl e))) (f _ fun e => h (.inr (.inr e))) m w hm
end Go.Proofs.YtdcfjopijblndaaDoor
