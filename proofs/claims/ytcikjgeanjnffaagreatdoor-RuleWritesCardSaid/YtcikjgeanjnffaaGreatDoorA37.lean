/-
  WHAT THE PROOF STANDS ON, a part of it: RuRefPt.
-/
import Derived.Test.YtcikjgeanjnffaaGreatDoorA35
import Derived.Test.YtcikjgeanjnffaaGreatDoorA36
/-
  CONTRACT OF THE REFERENCE's PartText. (Written by tools/genrurefpt.py.)
-/

namespace Go.Proofs.YtcikjgeanjnffaaGreatDoor
open Go.RowKit
open Utf Term
set_option linter.unusedVariables false
set_option linter.unusedSimpArgs false

theorem heldC_start (w : World) (m : Int) (hm : HasMax w m) (k : Int) (p : PatD) (x0 : ByteArray) (x1 : Int) (x2 x3 : ByteArray) (y0 : ByteArray) (y1 : Int) (y2 y3 : ByteArray) : (fun W' => W'.cell? ⟨w.heap.size, 13, none⟩ = some (.string x0) ∧ W'.cell? ⟨w.heap.size, 14, none⟩ = some (.int .i64 x1) ∧ W'.cell? ⟨w.heap.size, 15, none⟩ = some (.string x2) ∧ W'.cell? ⟨w.heap.size, 16, none⟩ = some (.string x3) ∧ W'.cell? ⟨w.heap.size, 17, none⟩ = some (.string y0) ∧ W'.cell? ⟨w.heap.size, 18, none⟩ = some (.int .i64 y1) ∧ W'.cell? ⟨w.heap.size, 19, none⟩ = some (.string y2) ∧ W'.cell? ⟨w.heap.size, 20, none⟩ = some (.string y3) ∧ W'.cell? ⟨0, 0, none⟩ = some (.int .i64 m) ∧ Below w.heap.size w W') (w.alloc (.cells (litC (k, p, (x0, x1, x2, x3), (y0, y1, y2, y3))) 34)).drew := by
  have hB : Below w.heap.size w (w.alloc (.cells (litC (k, p, (x0, x1, x2, x3), (y0, y1, y2, y3))) 34)) := below_new _ _
  have h : ∀ o v, (w.alloc (.cells (litC (k, p, (x0, x1, x2, x3), (y0, y1, y2, y3))) 34)).cell? ⟨w.heap.size, o, none⟩ = v → (w.alloc (.cells (litC (k, p, (x0, x1, x2, x3), (y0, y1, y2, y3))) 34)).drew.cell? ⟨w.heap.size, o, none⟩ = v := fun o v e => e
  refine ⟨h 13 _ ?_, h 14 _ ?_, h 15 _ ?_, h 16 _ ?_, h 17 _ ?_, h 18 _ ?_, h 19 _ ?_, h 20 _ ?_, cell_below hB.drew hm, hB.drew⟩
  all_goals
    rw [World.cell?_alloc_at _ _ _ _ rfl]
    rfl
theorem heldC_step {w u v : World} {m : Int} {x0 : ByteArray} {x1 : Int} {x2 x3 : ByteArray} {y0 : ByteArray} {y1 : Int} {y2 y3 : ByteArray} (h : (fun W' => W'.cell? ⟨w.heap.size, 13, none⟩ = some (.string x0) ∧ W'.cell? ⟨w.heap.size, 14, none⟩ = some (.int .i64 x1) ∧ W'.cell? ⟨w.heap.size, 15, none⟩ = some (.string x2) ∧ W'.cell? ⟨w.heap.size, 16, none⟩ = some (.string x3) ∧ W'.cell? ⟨w.heap.size, 17, none⟩ = some (.string y0) ∧ W'.cell? ⟨w.heap.size, 18, none⟩ = some (.int .i64 y1) ∧ W'.cell? ⟨w.heap.size, 19, none⟩ = some (.string y2) ∧ W'.cell? ⟨w.heap.size, 20, none⟩ = some (.string y3) ∧ W'.cell? ⟨0, 0, none⟩ = some (.int .i64 m) ∧ Below w.heap.size w W') u) (k : Below u.heap.size u v) : (fun W' => W'.cell? ⟨w.heap.size, 13, none⟩ = some (.string x0) ∧ W'.cell? ⟨w.heap.size, 14, none⟩ = some (.int .i64 x1) ∧ W'.cell? ⟨w.heap.size, 15, none⟩ = some (.string x2) ∧ W'.cell? ⟨w.heap.size, 16, none⟩ = some (.string x3) ∧ W'.cell? ⟨w.heap.size, 17, none⟩ = some (.string y0) ∧ W'.cell? ⟨w.heap.size, 18, none⟩ = some (.int .i64 y1) ∧ W'.cell? ⟨w.heap.size, 19, none⟩ = some (.string y2) ∧ W'.cell? ⟨w.heap.size, 20, none⟩ = some (.string y3) ∧ W'.cell? ⟨0, 0, none⟩ = some (.int .i64 m) ∧ Below w.heap.size w W') v := by
  obtain ⟨h0, h1, h2, h3, h4, h5, h6, h7, h8, hB⟩ := h
  exact ⟨cell_below k h0, cell_below k h1, cell_below k h2, cell_below k h3, cell_below k h4, cell_below k h5, cell_below k h6, cell_below k h7, cell_below k h8, below_step hB k⟩
theorem heldC_max {w u : World} {m : Int} {x0 : ByteArray} {x1 : Int} {x2 x3 : ByteArray} {y0 : ByteArray} {y1 : Int} {y2 y3 : ByteArray} (h : (fun W' => W'.cell? ⟨w.heap.size, 13, none⟩ = some (.string x0) ∧ W'.cell? ⟨w.heap.size, 14, none⟩ = some (.int .i64 x1) ∧ W'.cell? ⟨w.heap.size, 15, none⟩ = some (.string x2) ∧ W'.cell? ⟨w.heap.size, 16, none⟩ = some (.string x3) ∧ W'.cell? ⟨w.heap.size, 17, none⟩ = some (.string y0) ∧ W'.cell? ⟨w.heap.size, 18, none⟩ = some (.int .i64 y1) ∧ W'.cell? ⟨w.heap.size, 19, none⟩ = some (.string y2) ∧ W'.cell? ⟨w.heap.size, 20, none⟩ = some (.string y3) ∧ W'.cell? ⟨0, 0, none⟩ = some (.int .i64 m) ∧ Below w.heap.size w W') u) : HasMax u m := h.2.2.2.2.2.2.2.2.1
theorem heldC_below {w u : World} {m : Int} {x0 : ByteArray} {x1 : Int} {x2 x3 : ByteArray} {y0 : ByteArray} {y1 : Int} {y2 y3 : ByteArray} (h : (fun W' => W'.cell? ⟨w.heap.size, 13, none⟩ = some (.string x0) ∧ W'.cell? ⟨w.heap.size, 14, none⟩ = some (.int .i64 x1) ∧ W'.cell? ⟨w.heap.size, 15, none⟩ = some (.string x2) ∧ W'.cell? ⟨w.heap.size, 16, none⟩ = some (.string x3) ∧ W'.cell? ⟨w.heap.size, 17, none⟩ = some (.string y0) ∧ W'.cell? ⟨w.heap.size, 18, none⟩ = some (.int .i64 y1) ∧ W'.cell? ⟨w.heap.size, 19, none⟩ = some (.string y2) ∧ W'.cell? ⟨w.heap.size, 20, none⟩ = some (.string y3) ∧ W'.cell? ⟨0, 0, none⟩ = some (.int .i64 m) ∧ Below w.heap.size w W') u) : Below w.heap.size w u := h.2.2.2.2.2.2.2.2.2
theorem litT_cond (k : Int) (hk : k = 3 ∨ k = 4) (p : PatD) (x0 : ByteArray) (x1 : Int) (x2 x3 : ByteArray) (y0 : ByteArray) (y1 : Int) (y2 y3 : ByteArray) : litT (k, p, (x0, x1, x2, x3), (y0, y1, y2, y3)) = slotT x0 x1 x2 x3 ++ (if k = 3 then ⟨#[32, 61, 32]⟩ else ⟨#[32, 33, 61, 32]⟩) ++ slotT y0 y1 y2 y3 := by
  unfold litT slotT litL
  rw [if_neg (by show ¬ k = 1; omega), if_neg (by show ¬ k = 2; omega)]
  refine (strOf_eq ?_).symm
  rw [bs_app, bs_app, bs_strOfNums (slotL_byte _), bs_strOfNums (slotL_byte _)]
  rcases hk with rfl | rfl
  · show _ ++ [32, 61, 32] ++ _ = _ ++ ([32, 61, 32] ++ _)
    simp
  · show _ ++ [32, 33, 61, 32] ++ _ = _ ++ ([32, 33, 61, 32] ++ _)
    simp
set_option maxRecDepth 100000 in
set_option maxHeartbeats 4000000 in
theorem refPartText_cond (k : Int) (hk : k = 3 ∨ k = 4) (p : PatD) (x0 : ByteArray) (x1 : Int) (x2 x3 : ByteArray) (y0 : ByteArray) (y1 : Int) (y2 y3 : ByteArray) (GA : GoodSl x0 x1 x2 x3) (GB : GoodSl y0 y1 y2 y3) (m : Int) (w : World) (hm : HasMax w m) :
    Calls Tryz.prog 22 #[.agg (litC (k, p, (x0, x1, x2, x3), (y0, y1, y2, y3)))] w fun e w' => e = .returned (.string (litT (k, p, (x0, x1, x2, x3), (y0, y1, y2, y3)))) ∧ Below w.heap.size w w' := by
  have MT := fun v k t x (h : GoodSl v k t x) W (hW : HasMax W m) => refSlotText_any v k t x h m W hW
  have ZA := slotT_len GA
  have ZB := slotT_len GB
  have HT := Lib.hid (litT_cond k hk p x0 x1 x2 x3 y0 y1 y2 y3)
  have HS := Lib.hid (heldC_start w m hm k p x0 x1 x2 x3 y0 y1 y2 y3)
  clear hm
  generalize slotT = T at *
  generalize litT (k, p, (x0, x1, x2, x3), (y0, y1, y2, y3)) = R at *
  have f0 : ¬ 9223372036854775807 < (T x0 x1 x2 x3).size + 3 := by omega
  have f1 : ¬ 9223372036854775807 < (T x0 x1 x2 x3).size + 3 + (T y0 y1 y2 y3).size := by omega
  have f2 : ¬ 9223372036854775807 < (T x0 x1 x2 x3).size + 4 := by omega
  have f3 : ¬ 9223372036854775807 < (T x0 x1 x2 x3).size + 4 + (T y0 y1 y2 y3).size := by omega
  clear ZA ZB
  generalize GoodSl = G at *
  obtain ⟨⟨a0, a1, a2, a3⟩, ⟨b0, b1, b2, b3⟩, ⟨c0, c1, c2, c3⟩⟩ := p
  rcases hk with rfl | rfl
  all_goals
    go_enter Tryz.func22, Tryz.ntmps22
    go_wp2
    go_region_held3 (fun W' => W'.cell? ⟨w.heap.size, 13, none⟩ = some (.string x0) ∧ W'.cell? ⟨w.heap.size, 14, none⟩ = some (.int .i64 x1) ∧ W'.cell? ⟨w.heap.size, 15, none⟩ = some (.string x2) ∧ W'.cell? ⟨w.heap.size, 16, none⟩ = some (.string x3) ∧ W'.cell? ⟨w.heap.size, 17, none⟩ = some (.string y0) ∧ W'.cell? ⟨w.heap.size, 18, none⟩ = some (.int .i64 y1) ∧ W'.cell? ⟨w.heap.size, 19, none⟩ = some (.string y2) ∧ W'.cell? ⟨w.heap.size, 20, none⟩ = some (.string y3) ∧ W'.cell? ⟨0, 0, none⟩ = some (.int .i64 m) ∧ Below w.heap.size w W') ((first | assumption | exact HS.out | exact heldC_step (by assumption) (by assumption))) ((go_at_call 57; refine (MT _ _ _ _ (by assumption) _ (heldC_max (by assumption))).mono ?_; rintro e w3 ⟨rfl, hB3⟩))
    all_goals
      rename_i hHeld
      have hb := heldC_below hHeld
      go_wp2
      go_ret
      exact ⟨ret_str HT.out.symm, hb⟩
theorem litT_holds (p : PatD) (a b : SlotD) : litT (1, p, a, b) = strOfNums (patL p) := by unfold litT litL; rw [if_pos rfl]
theorem litT_not (p : PatD) (a b : SlotD) : litT (2, p, a, b) = ⟨#[110, 111, 116, 32]⟩ ++ strOfNums (patL p) := by
  unfold litT litL
  rw [if_neg (show ¬ (2 : Int) = 1 by decide), if_pos rfl]
  refine (strOf_eq ?_).symm
  rw [bs_app, bs_strOfNums (patL_byte _)]
  rfl
theorem patLs_len {p : PatD} (h : patB p = true) : (strOfNums (patL p)).size ≤ 80000 := by
  obtain ⟨⟨a0, a1, a2, a3⟩, ⟨b0, b1, b2, b3⟩, ⟨c0, c1, c2, c3⟩⟩ := p
  unfold patB at h
  simp only [Bool.and_eq_true] at h
  have h1 := (slot_small h.1.1).2.2.2
  have h2 := (slot_small h.1.2).2.2.2
  have h3 := (slot_small h.2).2.2.2
  rw [strOfNums_size]
  unfold patL
  simp only [List.length_cons, List.length_append, List.length_nil]
  omega
set_option maxRecDepth 100000 in
set_option maxHeartbeats 4000000 in
theorem refPartText_pat (k : Int) (hk : k = 1 ∨ k = 2) (p : PatD) (a b : SlotD) (hp : patB p = true) (m : Int) (w : World) (hm : HasMax w m) :
    Calls Tryz.prog 22 #[.agg (litC (k, p, a, b))] w fun e w' => e = .returned (.string (litT (k, p, a, b))) ∧ Below w.heap.size w w' := by
  have hg := hp
  unfold patB at hg
  simp only [Bool.and_eq_true] at hg
  have HM : Hid (∀ W, HasMax W m → Calls Tryz.prog 56 #[.agg (patC p)] W fun e w' => e = .returned (.string (strOfNums (patL p))) ∧ Below W.heap.size W w') := Lib.hid (fun W hW => refPatText_any p.1.1 p.1.2.1 p.1.2.2.1 p.1.2.2.2 p.2.1.1 p.2.1.2.1 p.2.1.2.2.1 p.2.1.2.2.2 p.2.2.1 p.2.2.2.1 p.2.2.2.2.1 p.2.2.2.2.2 hg.1.1 hg.1.2 hg.2 m W hW)
  have hz := patLs_len hp
  have f0 : ¬ 9223372036854775807 < 4 + (strOfNums (patL p)).size := by omega
  have hR : Hid (litT (k, p, a, b) = if k = 1 then strOfNums (patL p) else ⟨#[110, 111, 116, 32]⟩ ++ strOfNums (patL p)) := Lib.hid (by
    rcases hk with rfl | rfl
    · rw [if_pos rfl]; exact litT_holds p a b
    · rw [if_neg (by decide)]; exact litT_not p a b)
  have HB := Lib.hid (below_new w (.cells (litC (k, p, a, b)) 34))
  have Hm := Lib.hid (cell_below HB.out hm)
  have HRg : Hid ((w.alloc (.cells (litC (k, p, a, b)) 34)).rangeAt w.heap.size 1 (patC p).toList) := Lib.hid (fun j u hu => by
    rw [World.cell?_alloc_at _ _ _ _ rfl]
    have hj : j < 12 := (List.getElem?_eq_some_iff.1 hu).1
    match j, hj with
    | 0, _ | 1, _ | 2, _ | 3, _ | 4, _ | 5, _ | 6, _ | 7, _ | 8, _ | 9, _ | 10, _ | 11, _ => simpa using hu)
  have HS12 := Lib.hid (show (Tryz.prog.info? 28).map (·.size) = some (patC p).toList.length by kernel_rfl)
  generalize litT _ = R at *
  generalize strOfNums (patL p) = T at *
  have harr : patC p = (patC p).toList.toArray := rfl
  rw [harr] at HM
  clear hm hp hg hz harr
  generalize hC : (patC p).toList = C at HM HRg HS12
  clear hC
  obtain ⟨⟨a0, a1, a2, a3⟩, ⟨b0, b1, b2, b3⟩, ⟨c0, c1, c2, c3⟩⟩ := p
  obtain ⟨x0, x1, x2, x3⟩ := a
  obtain ⟨y0, y1, y2, y3⟩ := b
  rcases hk with rfl | rfl
  all_goals
    go_enter Tryz.func22, Tryz.ntmps22
    go_wp2_with (first
      | (refine wpList_load_mid rfl 28 (.tmp 7) rfl w.heap.size 1 rfl C _ HRg.out Tryz.underlying28 rfl HS12.out ?_)
      | (refine wpList_load_mid rfl 28 (.tmp 12) rfl w.heap.size 1 rfl C _ HRg.out Tryz.underlying28 rfl HS12.out ?_)
      | (go_at_call 56; refine (HM.out _ Hm.out).mono ?_; rintro e w' ⟨rfl, hB⟩))
    go_ret
    exact ⟨ret_str hR.out.symm, below_step HB.out hB⟩
theorem refPartText_any (l : LitD) (h : litB l = true) (m : Int) (w : World) (hm : HasMax w m) :
    Calls Tryz.prog 22 #[.agg (litC l)] w fun e w' => e = .returned (.string (litT l)) ∧ Below w.heap.size w w' := by
  obtain ⟨k, p, a, b⟩ := l
  unfold litB at h
  by_cases h12 : k = 1 ∨ k = 2
  · rw [if_pos h12] at h
    simp only [Bool.and_eq_true] at h
    exact refPartText_pat k h12 p a b h.1.1 m w hm
  · rw [if_neg h12] at h
    by_cases h34 : k = 3 ∨ k = 4
    · rw [if_pos h34] at h
      simp only [Bool.and_eq_true] at h
      obtain ⟨x0, x1, x2, x3⟩ := a
      obtain ⟨y0, y1, y2, y3⟩ := b
      exact refPartText_cond k h34 p x0 x1 x2 x3 y0 y1 y2 y3 h.1.1 h.1.2 m w hm
    · rw [if_neg h34] at h
      cases h
end Go.Proofs.YtcikjgeanjnffaaGreatDoor

