/-
  CONTRACT OF (Dict).Find.
-/
import Derived.Test.YtlamdhklfibjmaaDoorDictNew
import Derived.Test.YtlamdhklfibjmaaDoorDictPack
import Derived.Test.YtlamdhklfibjmaaDoorTripleD
namespace Go.Proofs.YtlamdhklfibjmaaDoor
open Go.RowKit
open Utf Term
set_option linter.unusedVariables false
set_option linter.unusedSimpArgs false

theorem boxt_step {w u v : World} {b dp tg sz : Nat} {tb : List Nat} {x0 x1 x2 c3 : Value} (h : u.cell? ⟨b, 0, none⟩ = some x0 ∧ u.cell? ⟨b, 1, none⟩ = some x1 ∧ u.cell? ⟨b, 2, none⟩ = some x2 ∧ u.cell? ⟨dp, 3, none⟩ = some c3 ∧ (∀ i' : Nat, i' < sz → u.cell? ⟨tg, i', none⟩ = some (.int .u32 (tb.getD i' 0 : Nat))) ∧ Below w.heap.size w u) (k : Below u.heap.size u v) :
    v.cell? ⟨b, 0, none⟩ = some x0 ∧ v.cell? ⟨b, 1, none⟩ = some x1 ∧ v.cell? ⟨b, 2, none⟩ = some x2 ∧ v.cell? ⟨dp, 3, none⟩ = some c3 ∧ (∀ i' : Nat, i' < sz → v.cell? ⟨tg, i', none⟩ = some (.int .u32 (tb.getD i' 0 : Nat))) ∧ Below w.heap.size w v :=
  ⟨cell_below k h.1, cell_below k h.2.1, cell_below k h.2.2.1, cell_below k h.2.2.2.1, fun i' hi => cell_below k (h.2.2.2.2.1 i' hi), below_step h.2.2.2.2.2 k⟩
theorem boxt_below {w u : World} {b dp tg sz : Nat} {tb : List Nat} {x0 x1 x2 c3 : Value} (h : u.cell? ⟨b, 0, none⟩ = some x0 ∧ u.cell? ⟨b, 1, none⟩ = some x1 ∧ u.cell? ⟨b, 2, none⟩ = some x2 ∧ u.cell? ⟨dp, 3, none⟩ = some c3 ∧ (∀ i' : Nat, i' < sz → u.cell? ⟨tg, i', none⟩ = some (.int .u32 (tb.getD i' 0 : Nat))) ∧ Below w.heap.size w u) : Below w.heap.size w u := h.2.2.2.2.2

set_option maxRecDepth 100000 in
set_option maxHeartbeats 4000000 in
theorem find_may (dp : Nat) (lim : Int) (ps : List (List Int)) (tb : List Nat) (ta ba : Option Addr) (tc bc tg : Nat) (sm : Nat) (hsm : sm ≤ 40) (hsz : tb.length = 2 ^ sm) (I : Dict.Inv hashN tb ps) (a : TermD) (ht : a.2.1.size ≤ 1000000000) (hx : a.2.2.size ≤ 1000000000) (hk : IsByte a.1) (hmay : mayD a = true)
    (m : Int) (w : World) (hm : w.cell? ⟨0, 0, none⟩ = some (.int .i64 m)) (D : DictAt w dp lim ps tb ta ba tc bc tg) :
    Calls Tryd.prog 11 #[.pointer (some ⟨dp, 0, none⟩), termD a] w fun e w' => e = .returned (.tuple #[.int .u32 (Dict.number ps (packL a) : Nat), .bool (decide (Dict.number ps (packL a) ≠ 0))]) ∧ Below w.heap.size w w' := by
  have TBL : Hid (∀ i' : Nat, i' < tb.length → w.cell? ⟨tg, i', none⟩ = some (.int .u32 (tb.getD i' 0 : Nat))) := Lib.hid (fun i' hi => D.slot_at (by rw [List.getD_eq_getElem?_getD, List.getElem?_eq_getElem hi]; rfl))
  have HB := Lib.hid (below_new w (.cells #[.int .i64 a.1, .string a.2.1, .string a.2.2] 34))
  have c3 := cell_below HB.out D.c3
  have M0 := Lib.hid (fun W h => isNone_some dp tg tb.length tb.length W h)
  have M1 := Lib.hid (fun W h => mayD_any (a := a) (v := true) ⟨by omega, by omega⟩ hmay m W h)
  have M2 := Lib.hid (fun W => pack_any a hk ht hx W)
  have HKB := Lib.hid (packL_bytes hk)
  have HPL : Hid ((packL a).length ≤ 1000000000000) := Lib.hid (by rw [packL_length]; omega)
  have HD := Lib.hid D
  have HI := Lib.hid I
  have HM := Lib.hid hm
  have M3 : Hid (∀ (g c : Nat) (W : World), Below w.heap.size w W → RowC W g 0 ((packL a).map (Value.int .u8)) → Calls Tryd.prog 24 #[.pointer (some ⟨dp, 0, none⟩), .slice (some ⟨g, 0, none⟩) (packL a).length c] W (fun e w' => ∃ j : Nat, e = .returned (.int .i64 j) ∧ j < tb.length ∧ (0 : Int) ≤ (j : Int) ∧ (j : Int) < (tb.length : Int) ∧ tb.getD j 0 = Dict.number ps (packL a) ∧ Below W.heap.size W w')) := Lib.hid (fun g c W hW hr => by
    have h := slot_any dp lim ps tb ta ba tc bc tg ps.length (Nat.le_refl _) sm hsm hsz (by rw [List.take_length]; exact I) (packL a) HKB.out HPL.out g 0 c W (D.below hW) hr
    refine h.mono ?_
    rintro e w' ⟨d, v, he, hE, hB⟩
    rw [List.take_length] at hE
    exact ⟨_, he, Dict.place_lt hashN I.pos _ _, by omega, by have := Dict.place_lt hashN I.pos (packL a) d; omega, by rw [List.getD_eq_getElem?_getD, hE.at_]; exact hE.number I, hB⟩)
  have hpw : (2 : Nat) ^ sm ≤ 2 ^ 40 := Nat.pow_le_pow_right (by omega) hsm
  have h40 : (2 : Nat) ^ 40 = 1099511627776 := by decide
  have hszb : tb.length ≤ 1099511627776 := by omega
  have C0 : Hid ((w.alloc (.cells #[.int .i64 a.1, .string a.2.1, .string a.2.2] 34)).cell? ⟨w.heap.size, 0, none⟩ = some (.int .i64 a.1) ∧ (w.alloc (.cells #[.int .i64 a.1, .string a.2.1, .string a.2.2] 34)).cell? ⟨w.heap.size, 1, none⟩ = some (.string a.2.1) ∧ (w.alloc (.cells #[.int .i64 a.1, .string a.2.1, .string a.2.2] 34)).cell? ⟨w.heap.size, 2, none⟩ = some (.string a.2.2)) :=
    Lib.hid ⟨by rw [World.cell?_alloc_at _ _ _ _ rfl]; rfl, by rw [World.cell?_alloc_at _ _ _ _ rfl]; rfl, by rw [World.cell?_alloc_at _ _ _ _ rfl]; rfl⟩
  clear I D hpw h40 hsz hm hmay
  obtain ⟨sz, hz⟩ : ∃ sz, sz = tb.length := ⟨_, rfl⟩
  rw [← hz] at c3 M0 M3 hszb TBL
  clear hz
  generalize (packL a).length = pl at M2 M3
  generalize Dict.number ps (packL a) = R at M3 ⊢
  go_enter Tryd.func11, Tryd.ntmps11
  go_wp2_with (first | (go_at_call 20; refine (M0.out _ c3).mono ?_; rintro e w' ⟨rfl, rfl⟩) | (go_at_call 22; refine (M1.out _ (cell_below HB.out HM.out)).mono ?_; rintro e w1 ⟨rfl, hB1⟩))
  have ST := Lib.hid (boxt_step (w := w) (u := w.alloc (.cells #[.int .i64 a.1, .string a.2.1, .string a.2.2] 34)) ⟨C0.out.1, C0.out.2.1, C0.out.2.2, c3, fun i' hi => cell_below HB.out (TBL.out i' hi), HB.out⟩ hB1)
  have STd := Lib.hid (boxt_step ST.out (show Below w1.heap.size w1 w1.drew from ⟨rfl, rfl, rfl, Nat.le_refl _, fun _ _ => rfl⟩))
  clear hB1 c3 M0 M1
  go_region_held3 (fun W' => W'.cell? ⟨w.heap.size, 0, none⟩ = some (.int .i64 a.1) ∧ W'.cell? ⟨w.heap.size, 1, none⟩ = some (.string a.2.1) ∧ W'.cell? ⟨w.heap.size, 2, none⟩ = some (.string a.2.2) ∧ W'.cell? ⟨dp, 3, none⟩ = some (.slice (some ⟨tg, 0, none⟩) sz sz) ∧ (∀ i' : Nat, i' < sz → W'.cell? ⟨tg, i', none⟩ = some (.int .u32 (tb.getD i' 0 : Nat))) ∧ Below w.heap.size w W') ((first | assumption | exact ST.out | exact STd.out | exact boxt_step (by assumption) (by assumption))) ((first | (go_at_call 23; refine (M2.out _).mono ?_; rintro e y0 ⟨g, c, rfl, hrow, hg, hY0⟩) | (go_at_call 24; refine (M3.out _ _ _ (boxt_below (by assumption)) (by assumption)).mono ?_; rintro e y1 ⟨j, rfl, hj, hj0, hj1, hvR, hY1⟩)))
  all_goals
    rename_i hHeld
    have HF := Lib.hid (boxt_below hHeld)
    clear hHeld
    go_wp2_with fail
    go_ret2
    refine ⟨?_, HF.out⟩
    have e : tb[j]?.getD 0 = R := by rw [← List.getD_eq_getElem?_getD]; exact hvR
    rw [← e]
    show Ending.returned (.tuple #[.int .u32 ((tb[j]?.getD 0 : Nat) : Int), .bool (((tb[j]?.getD 0 : Nat) : Int) != 0)]) = _
    by_cases h : tb[j]?.getD 0 = 0
    · simp [h]
    · have h' : ¬ ((tb[j]?.getD 0 : Nat) : Int) = 0 := by omega
      simp [h, h']
end Go.Proofs.YtlamdhklfibjmaaDoor
