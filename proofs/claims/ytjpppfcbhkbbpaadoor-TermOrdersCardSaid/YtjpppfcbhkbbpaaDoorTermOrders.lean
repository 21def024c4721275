/-
  THE LAW TermOrders. Written by tools/gentermorders.py.
-/
import Derived.Test.YtjpppfcbhkbbpaaDoorTermSort
import Derived.Test.YtjpppfcbhkbbpaaDoorRefSort
import Derived.Test.YtjpppfcbhkbbpaaDoorSliceAppend
import Derived.Test.YtjpppfcbhkbbpaaDoorTermKnown
namespace Go.Proofs.YtjpppfcbhkbbpaaDoor
open Go.RowKit
open Utf Term
set_option linter.unusedVariables false
set_option linter.unusedSimpArgs false

theorem boxs_start {w w4 u : World} {a0 a1 a2 b0 b1 b2 : TermD} (h : u.cell? ⟨w.heap.size, 0, none⟩ = some (.int .i64 a0.1) ∧ u.cell? ⟨w.heap.size, 1, none⟩ = some (.string a0.2.1) ∧ u.cell? ⟨w.heap.size, 2, none⟩ = some (.string a0.2.2) ∧ u.cell? ⟨w.heap.size, 3, none⟩ = some (.int .i64 a1.1) ∧ u.cell? ⟨w.heap.size, 4, none⟩ = some (.string a1.2.1) ∧ u.cell? ⟨w.heap.size, 5, none⟩ = some (.string a1.2.2) ∧ u.cell? ⟨w.heap.size, 6, none⟩ = some (.int .i64 a2.1) ∧ u.cell? ⟨w.heap.size, 7, none⟩ = some (.string a2.2.1) ∧ u.cell? ⟨w.heap.size, 8, none⟩ = some (.string a2.2.2) ∧ u.cell? ⟨w.heap.size + 1, 0, none⟩ = some (.int .i64 b0.1) ∧ u.cell? ⟨w.heap.size + 1, 1, none⟩ = some (.string b0.2.1) ∧ u.cell? ⟨w.heap.size + 1, 2, none⟩ = some (.string b0.2.2) ∧ u.cell? ⟨w.heap.size + 1, 3, none⟩ = some (.int .i64 b1.1) ∧ u.cell? ⟨w.heap.size + 1, 4, none⟩ = some (.string b1.2.1) ∧ u.cell? ⟨w.heap.size + 1, 5, none⟩ = some (.string b1.2.2) ∧ u.cell? ⟨w.heap.size + 1, 6, none⟩ = some (.int .i64 b2.1) ∧ u.cell? ⟨w.heap.size + 1, 7, none⟩ = some (.string b2.2.1) ∧ u.cell? ⟨w.heap.size + 1, 8, none⟩ = some (.string b2.2.2) ∧ Below w.heap.size w u) (k : Below w4.heap.size w4 u) : u.cell? ⟨w.heap.size, 0, none⟩ = some (.int .i64 a0.1) ∧ u.cell? ⟨w.heap.size, 1, none⟩ = some (.string a0.2.1) ∧ u.cell? ⟨w.heap.size, 2, none⟩ = some (.string a0.2.2) ∧ u.cell? ⟨w.heap.size, 3, none⟩ = some (.int .i64 a1.1) ∧ u.cell? ⟨w.heap.size, 4, none⟩ = some (.string a1.2.1) ∧ u.cell? ⟨w.heap.size, 5, none⟩ = some (.string a1.2.2) ∧ u.cell? ⟨w.heap.size, 6, none⟩ = some (.int .i64 a2.1) ∧ u.cell? ⟨w.heap.size, 7, none⟩ = some (.string a2.2.1) ∧ u.cell? ⟨w.heap.size, 8, none⟩ = some (.string a2.2.2) ∧ u.cell? ⟨w.heap.size + 1, 0, none⟩ = some (.int .i64 b0.1) ∧ u.cell? ⟨w.heap.size + 1, 1, none⟩ = some (.string b0.2.1) ∧ u.cell? ⟨w.heap.size + 1, 2, none⟩ = some (.string b0.2.2) ∧ u.cell? ⟨w.heap.size + 1, 3, none⟩ = some (.int .i64 b1.1) ∧ u.cell? ⟨w.heap.size + 1, 4, none⟩ = some (.string b1.2.1) ∧ u.cell? ⟨w.heap.size + 1, 5, none⟩ = some (.string b1.2.2) ∧ u.cell? ⟨w.heap.size + 1, 6, none⟩ = some (.int .i64 b2.1) ∧ u.cell? ⟨w.heap.size + 1, 7, none⟩ = some (.string b2.2.1) ∧ u.cell? ⟨w.heap.size + 1, 8, none⟩ = some (.string b2.2.2) ∧ Below w.heap.size w u ∧ Below w4.heap.size w4 u := by
  obtain ⟨h0, h1, h2, h3, h4, h5, h6, h7, h8, h9, h10, h11, h12, h13, h14, h15, h16, h17, hB⟩ := h
  exact ⟨h0, h1, h2, h3, h4, h5, h6, h7, h8, h9, h10, h11, h12, h13, h14, h15, h16, h17, hB, k⟩
theorem boxs_step {w w4 u v : World} {a0 a1 a2 b0 b1 b2 : TermD} (h : u.cell? ⟨w.heap.size, 0, none⟩ = some (.int .i64 a0.1) ∧ u.cell? ⟨w.heap.size, 1, none⟩ = some (.string a0.2.1) ∧ u.cell? ⟨w.heap.size, 2, none⟩ = some (.string a0.2.2) ∧ u.cell? ⟨w.heap.size, 3, none⟩ = some (.int .i64 a1.1) ∧ u.cell? ⟨w.heap.size, 4, none⟩ = some (.string a1.2.1) ∧ u.cell? ⟨w.heap.size, 5, none⟩ = some (.string a1.2.2) ∧ u.cell? ⟨w.heap.size, 6, none⟩ = some (.int .i64 a2.1) ∧ u.cell? ⟨w.heap.size, 7, none⟩ = some (.string a2.2.1) ∧ u.cell? ⟨w.heap.size, 8, none⟩ = some (.string a2.2.2) ∧ u.cell? ⟨w.heap.size + 1, 0, none⟩ = some (.int .i64 b0.1) ∧ u.cell? ⟨w.heap.size + 1, 1, none⟩ = some (.string b0.2.1) ∧ u.cell? ⟨w.heap.size + 1, 2, none⟩ = some (.string b0.2.2) ∧ u.cell? ⟨w.heap.size + 1, 3, none⟩ = some (.int .i64 b1.1) ∧ u.cell? ⟨w.heap.size + 1, 4, none⟩ = some (.string b1.2.1) ∧ u.cell? ⟨w.heap.size + 1, 5, none⟩ = some (.string b1.2.2) ∧ u.cell? ⟨w.heap.size + 1, 6, none⟩ = some (.int .i64 b2.1) ∧ u.cell? ⟨w.heap.size + 1, 7, none⟩ = some (.string b2.2.1) ∧ u.cell? ⟨w.heap.size + 1, 8, none⟩ = some (.string b2.2.2) ∧ Below w.heap.size w u ∧ Below w4.heap.size w4 u) (k : Below u.heap.size u v) : v.cell? ⟨w.heap.size, 0, none⟩ = some (.int .i64 a0.1) ∧ v.cell? ⟨w.heap.size, 1, none⟩ = some (.string a0.2.1) ∧ v.cell? ⟨w.heap.size, 2, none⟩ = some (.string a0.2.2) ∧ v.cell? ⟨w.heap.size, 3, none⟩ = some (.int .i64 a1.1) ∧ v.cell? ⟨w.heap.size, 4, none⟩ = some (.string a1.2.1) ∧ v.cell? ⟨w.heap.size, 5, none⟩ = some (.string a1.2.2) ∧ v.cell? ⟨w.heap.size, 6, none⟩ = some (.int .i64 a2.1) ∧ v.cell? ⟨w.heap.size, 7, none⟩ = some (.string a2.2.1) ∧ v.cell? ⟨w.heap.size, 8, none⟩ = some (.string a2.2.2) ∧ v.cell? ⟨w.heap.size + 1, 0, none⟩ = some (.int .i64 b0.1) ∧ v.cell? ⟨w.heap.size + 1, 1, none⟩ = some (.string b0.2.1) ∧ v.cell? ⟨w.heap.size + 1, 2, none⟩ = some (.string b0.2.2) ∧ v.cell? ⟨w.heap.size + 1, 3, none⟩ = some (.int .i64 b1.1) ∧ v.cell? ⟨w.heap.size + 1, 4, none⟩ = some (.string b1.2.1) ∧ v.cell? ⟨w.heap.size + 1, 5, none⟩ = some (.string b1.2.2) ∧ v.cell? ⟨w.heap.size + 1, 6, none⟩ = some (.int .i64 b2.1) ∧ v.cell? ⟨w.heap.size + 1, 7, none⟩ = some (.string b2.2.1) ∧ v.cell? ⟨w.heap.size + 1, 8, none⟩ = some (.string b2.2.2) ∧ Below w.heap.size w v ∧ Below w4.heap.size w4 v := by
  obtain ⟨h0, h1, h2, h3, h4, h5, h6, h7, h8, h9, h10, h11, h12, h13, h14, h15, h16, h17, hB, hC⟩ := h
  exact ⟨cell_below k h0, cell_below k h1, cell_below k h2, cell_below k h3, cell_below k h4, cell_below k h5, cell_below k h6, cell_below k h7, cell_below k h8, cell_below k h9, cell_below k h10, cell_below k h11, cell_below k h12, cell_below k h13, cell_below k h14, cell_below k h15, cell_below k h16, cell_below k h17, below_step hB k, below_step hC k⟩
theorem boxs_below {w w4 u : World} {a0 a1 a2 b0 b1 b2 : TermD} (h : u.cell? ⟨w.heap.size, 0, none⟩ = some (.int .i64 a0.1) ∧ u.cell? ⟨w.heap.size, 1, none⟩ = some (.string a0.2.1) ∧ u.cell? ⟨w.heap.size, 2, none⟩ = some (.string a0.2.2) ∧ u.cell? ⟨w.heap.size, 3, none⟩ = some (.int .i64 a1.1) ∧ u.cell? ⟨w.heap.size, 4, none⟩ = some (.string a1.2.1) ∧ u.cell? ⟨w.heap.size, 5, none⟩ = some (.string a1.2.2) ∧ u.cell? ⟨w.heap.size, 6, none⟩ = some (.int .i64 a2.1) ∧ u.cell? ⟨w.heap.size, 7, none⟩ = some (.string a2.2.1) ∧ u.cell? ⟨w.heap.size, 8, none⟩ = some (.string a2.2.2) ∧ u.cell? ⟨w.heap.size + 1, 0, none⟩ = some (.int .i64 b0.1) ∧ u.cell? ⟨w.heap.size + 1, 1, none⟩ = some (.string b0.2.1) ∧ u.cell? ⟨w.heap.size + 1, 2, none⟩ = some (.string b0.2.2) ∧ u.cell? ⟨w.heap.size + 1, 3, none⟩ = some (.int .i64 b1.1) ∧ u.cell? ⟨w.heap.size + 1, 4, none⟩ = some (.string b1.2.1) ∧ u.cell? ⟨w.heap.size + 1, 5, none⟩ = some (.string b1.2.2) ∧ u.cell? ⟨w.heap.size + 1, 6, none⟩ = some (.int .i64 b2.1) ∧ u.cell? ⟨w.heap.size + 1, 7, none⟩ = some (.string b2.2.1) ∧ u.cell? ⟨w.heap.size + 1, 8, none⟩ = some (.string b2.2.2) ∧ Below w.heap.size w u ∧ Below w4.heap.size w4 u) : Below w.heap.size w u ∧ Below w4.heap.size w4 u := h.2.2.2.2.2.2.2.2.2.2.2.2.2.2.2.2.2.2

set_option maxRecDepth 100000 in
set_option maxHeartbeats 8000000 in
theorem termOrders_walk (a0 a1 a2 b0 b1 b2 : TermD) (v : Value) (ds : List TripD) (m : Int) (w : World) (hm : w.cell? ⟨0, 0, none⟩ = some (.int .i64 m)) (hv : SliceT w v ds) :
    Calls Tryd.prog 3 #[tripleV a0 a1 a2, tripleV b0 b1 b2, v] w fun e w' => e = .returned (.bool true) ∧ Below w.heap.size w w' := by
  have HM := Lib.hid hm
  have HV := Lib.hid hv
  have ST := Lib.hid (box2_start w a0 a1 a2 b0 b1 b2)
  have MU := Lib.hid (fun W h => much_slice v ds 200 (by omega) W h)
  have KN := Lib.hid (fun W h => known2_any m W h)
  clear hm hv
  go_enter Tryd.func3, Tryd.ntmps3
  go_wp2_with fail
  have HB0 := Lib.hid (box2_below ST.out)
  generalize ((w.alloc (.cells #[.int .i64 a0.1, .string a0.2.1, .string a0.2.2, .int .i64 a1.1, .string a1.2.1, .string a1.2.2, .int .i64 a2.1, .string a2.2.1, .string a2.2.2] 26)).alloc (.cells #[.int .i64 b0.1, .string b0.2.1, .string b0.2.2, .int .i64 b1.1, .string b1.2.1, .string b1.2.2, .int .i64 b2.1, .string b2.2.1, .string b2.2.2] 26)) = w0 at ST HB0 ⊢
  refine (MU.out _ (HV.out.below HB0.out)).mono ?_
  rintro e w1 ⟨r, rfl, hle, hB1⟩
  have HL := Lib.hid hle
  have ST1 := Lib.hid (box2_step ST.out hB1)
  have HB1 := Lib.hid (box2_below ST1.out)
  clear hle hB1 ST HB0 MU
  cases r with
  | true =>
    go_wp2_with fail
    refine (KN.out _ (cell_below HB1.out HM.out)).mono ?_
    rintro e w2 ⟨rfl, hB2⟩
    have HF := Lib.hid (below_step HB1.out hB2)
    clear hB2
    go_wp2_with fail
    go_ret
    exact ⟨rfl, HF.out⟩
  | false =>
    have hd : ds.length ≤ 200 := HL.out rfl
    clear HL
    go_wp2_with (at_builtin; refine wpList_append_slice rfl _ _ rfl w1.heap.size _ [] rfl (World.ownsRow_nil _ _ _ _) v ds rfl (HV.out.below HB1.out) (by simp) (by omega) (Nat.le_refl _) ?_; intro vo w2 hown hB2)
    have HO := Lib.hid (show w2.ownsRow w1.heap.size 26 9 vo ds.length (cellsT ds) from hown)
    have ST2 := Lib.hid (box2_step ST1.out hB2)
    have HB2 := Lib.hid (box2_below ST2.out)
    clear hown hB2 ST1 HB1
    refine (termSort_any vo ds _ (owns_slice HO.out) (by omega)).mono ?_
    rintro e w3 ⟨rs, rfl, hso, hB3⟩
    have HSO := Lib.hid hso
    have ST3 := Lib.hid (box2_step ST2.out hB3)
    have HB3 := Lib.hid (box2_below ST3.out)
    have HO3 := Lib.hid (own_slice_below HO.out hB3)
    clear hso hB3 ST2 HB2 HO
    go_wp2_with fail
    refine (refSort_any v ds _ (HV.out.below HB3.out) (by omega)).mono ?_
    rintro e w4 ⟨rr, rfl, hro, hB4⟩
    obtain ⟨so, sc, rfl, hsc, hsm, hsg⟩ := owns_form HSO.out
    obtain ⟨ro, rc, rfl, hrc, hrm, hrg⟩ := owns_form hro
    obtain ⟨oo, oc, rfl, hoc, hom, hog⟩ := owns_form HO3.out
    have ST4 := Lib.hid (box2_step ST3.out hB4)
    have HB4 := Lib.hid (box2_below ST4.out)
    have ROWS : Hid (∀ g : Nat, so = some ⟨g, 0, none⟩ → RowC w4 g 0 (cellsT (sortL cmpT ds))) := Lib.hid (fun g e => by subst e; exact owns_row (own_slice_below HSO.out hB4))
    have ROWR : Hid (∀ g : Nat, ro = some ⟨g, 0, none⟩ → RowC w4 g 0 (cellsT (sortL cmpT ds))) := Lib.hid (fun g e => by subst e; exact owns_row hro)
    have ROWO : Hid (∀ g : Nat, oo = some ⟨g, 0, none⟩ → RowC w4 g 0 (cellsT ds)) := Lib.hid (fun g e => by subst e; exact owns_row (own_slice_below HO3.out hB4))
    have HV4 : Hid (SliceT w4 v ds) := Lib.hid (HV.out.below HB4.out)
    have HSG := Lib.hid hsg
    have HRG := Lib.hid hrg
    have HOG := Lib.hid hog
    have HSM : Hid ((sortL cmpT ds).length ≤ maxLen) := Lib.hid (by omega)
    clear hro hB4 HSO HO3 ST3 HB3 hsg hrg hog hsm hrm hom
    obtain ⟨L, hLe⟩ : ∃ L, L = sortL cmpT ds := ⟨_, rfl⟩
    rw [← hLe] at ROWS ROWR HSG HRG HSM hsc hrc ⊢
    clear hLe
    obtain ⟨k, hk⟩ : ∃ k, k = L.length := ⟨_, rfl⟩
    have HK := Lib.hid hk
    rw [← hk] at HSG HRG HSM hsc hrc ⊢
    clear hk
    obtain ⟨n, hn⟩ : ∃ n, n = ds.length := ⟨_, rfl⟩
    have HN := Lib.hid hn
    rw [← hn] at HOG hoc hd ⊢
    clear hn
    have MC := fun W => compare_any a0 b0 W
    have MR := fun W => refCompare_any a0 b0 W
    have ML := fun W => less_any a1 b1 W
    have MS := fun W => refLess_any a1 b1 W
    have MT := fun W => compareTriples_any a0 a1 a2 b0 b1 b2 W
    have MU := fun W => refCompareTriples_any a0 a1 a2 b0 b1 b2 W
    generalize cmpT (a0, a1, a2) (b0, b1, b2) = n2 at MT MU
    generalize cmpD a0 b0 = n0 at MC MR
    generalize decide (cmpD a1 b1 < 0) = n1 at ML MS
    go_wp2_with fail
    have ST6 := Lib.hid (boxs_start ST4.out (Below.refl _ _))
    have ST5 := Lib.hid (boxs_start (box2_drew ST4.out) (show Below w4.heap.size w4 w4.drew from ⟨rfl, rfl, rfl, Nat.le_refl _, fun _ _ => rfl⟩))
    go_region_held3 (fun W' => W'.cell? ⟨w.heap.size, 0, none⟩ = some (.int .i64 a0.1) ∧ W'.cell? ⟨w.heap.size, 1, none⟩ = some (.string a0.2.1) ∧ W'.cell? ⟨w.heap.size, 2, none⟩ = some (.string a0.2.2) ∧ W'.cell? ⟨w.heap.size, 3, none⟩ = some (.int .i64 a1.1) ∧ W'.cell? ⟨w.heap.size, 4, none⟩ = some (.string a1.2.1) ∧ W'.cell? ⟨w.heap.size, 5, none⟩ = some (.string a1.2.2) ∧ W'.cell? ⟨w.heap.size, 6, none⟩ = some (.int .i64 a2.1) ∧ W'.cell? ⟨w.heap.size, 7, none⟩ = some (.string a2.2.1) ∧ W'.cell? ⟨w.heap.size, 8, none⟩ = some (.string a2.2.2) ∧ W'.cell? ⟨w.heap.size + 1, 0, none⟩ = some (.int .i64 b0.1) ∧ W'.cell? ⟨w.heap.size + 1, 1, none⟩ = some (.string b0.2.1) ∧ W'.cell? ⟨w.heap.size + 1, 2, none⟩ = some (.string b0.2.2) ∧ W'.cell? ⟨w.heap.size + 1, 3, none⟩ = some (.int .i64 b1.1) ∧ W'.cell? ⟨w.heap.size + 1, 4, none⟩ = some (.string b1.2.1) ∧ W'.cell? ⟨w.heap.size + 1, 5, none⟩ = some (.string b1.2.2) ∧ W'.cell? ⟨w.heap.size + 1, 6, none⟩ = some (.int .i64 b2.1) ∧ W'.cell? ⟨w.heap.size + 1, 7, none⟩ = some (.string b2.2.1) ∧ W'.cell? ⟨w.heap.size + 1, 8, none⟩ = some (.string b2.2.2) ∧ Below w.heap.size w W' ∧ Below w4.heap.size w4 W') ((first | assumption | exact ST6.out | exact ST5.out | exact boxs_step (by assumption) (by assumption))) ((first | (go_at_call 11; refine (MC _).mono ?_; rintro e y0 ⟨rfl, hY0⟩) | (go_at_call 12; refine (MR _).mono ?_; rintro e y0 ⟨rfl, hY0⟩) | (go_at_call 13; refine (ML _).mono ?_; rintro e y0 ⟨rfl, hY0⟩) | (go_at_call 14; refine (MS _).mono ?_; rintro e y0 ⟨rfl, hY0⟩) | (go_at_call 15; refine (MT _).mono ?_; rintro e y0 ⟨rfl, hY0⟩) | (go_at_call 16; refine (MU _).mono ?_; rintro e y0 ⟨rfl, hY0⟩)))
    rename_i hHeld
    rename World => w5
    have HB5 := Lib.hid (boxs_below hHeld).1
    have HK5 := Lib.hid (boxs_below hHeld).2
    clear hHeld ST4 ST5 ST6 MC MR ML MS MT MU HB4
    have hkm : k ≤ 9223372036854775807 := by have := HSM.out; unfold maxLen at this; omega
    have hnm : n ≤ 9223372036854775807 := by omega
    go_wp2_with fail
    go_loopg [10] k (fun gk i wr => ∃ j q : Nat, j ≤ k ∧ k - j ≤ gk ∧ i = .int .i64 j ∧ wr = w5.drewN q)
    case atStart => exact ⟨0, 0, Nat.zero_le _, by omega, rfl, rfl⟩
    case round =>
      obtain ⟨j, q, hj, hg, rfl, rfl⟩ := hrel
      by_cases hlt : j < k
      · obtain ⟨x, hx⟩ : ∃ x, L[j]? = some x := ⟨_, List.getElem?_eq_getElem (by have := HK.out; omega)⟩
        have d1 : decide ((j : Int) < (k : Int)) = true := by simpa using hlt
        have i0 : (0 : Int) ≤ (j : Int) := by omega
        have i1 : (j : Int) < (k : Int) := by omega
        obtain ⟨g, rfl⟩ := HSG.out (by omega)
        obtain ⟨g', rfl⟩ := HRG.out (by omega)
        have nx := ((ROWS.out g rfl).below HK5.out).nine hx
        have ny := ((ROWR.out g' rfl).below HK5.out).nine hx
        rw [Nat.zero_add] at nx ny
        obtain ⟨c0, c1, c2, c3, c4, c5, c6, c7, c8⟩ := nx
        obtain ⟨e0, e1, e2, e3, e4, e5, e6, e7, e8⟩ := ny
        have nn := trip_neq x x
        rw [decide_eq_true rfl] at nn
        clear hx
        go_wp2_with fail
        go_quiet (fail)
        go_wp2_with fail
        go_roundg (k - (j + 1))
        case measure => omega
        case rel => exact ⟨j + 1, _, by omega, Nat.le_refl _, by go_num, rfl⟩
      · have d1 : decide ((j : Int) < (k : Int)) = false := by simpa using hlt
        have HB6 : Hid (Below w.heap.size w (w5.drewN q)) := Lib.hid (HB5.out.trans ⟨rfl, rfl, rfl, Nat.le_refl _, fun _ _ => rfl⟩)
        have HK6 : Hid (Below w4.heap.size w4 (w5.drewN q)) := Lib.hid (HK5.out.trans ⟨rfl, rfl, rfl, Nat.le_refl _, fun _ _ => rfl⟩)
        generalize w5.drewN q = w6 at HB6 HK6 ⊢
        clear HB5 HK5 hg hj
        obtain ⟨bo, hbo⟩ : ∃ bo cap, v = .slice bo n cap ∧ (0 < n → ∃ b off, bo = some ⟨b, off, none⟩ ∧ RowC w4 b off (cellsT ds)) := by
          rcases HV4.out with ⟨rfl, h⟩ | ⟨b, off, cap, rfl, _, _, hr⟩
          · exact ⟨none, 0, by rw [HN.out, h]; rfl, fun h' => absurd h' (by rw [HN.out, h]; simp)⟩
          · exact ⟨some ⟨b, off, none⟩, cap, by rw [HN.out], fun _ => ⟨b, off, rfl, hr⟩⟩
        obtain ⟨bc, rfl, hbr⟩ := hbo
        have HBR := Lib.hid hbr
        clear hbr
        go_wp2_with fail
        go_loopg [11] n (fun gk i wr => ∃ j q : Nat, j ≤ n ∧ n - j ≤ gk ∧ i = .int .i64 j ∧ wr = w6.drewN q)
        case atStart => exact ⟨0, 0, Nat.zero_le _, by omega, rfl, rfl⟩
        case round =>
          obtain ⟨i, q, hj, hg, rfl, rfl⟩ := hrel
          by_cases hlt : i < n
          · obtain ⟨x, hx⟩ : ∃ x, ds[i]? = some x := ⟨_, List.getElem?_eq_getElem (by have := HN.out; omega)⟩
            have d2 : decide ((i : Int) < (n : Int)) = true := by simpa using hlt
            have i0 : (0 : Int) ≤ (i : Int) := by omega
            have i1 : (i : Int) < (n : Int) := by omega
            obtain ⟨g, rfl⟩ := HOG.out (by omega)
            obtain ⟨b, off, rfl, hr⟩ := HBR.out (by omega)
            have nx := ((ROWO.out g rfl).below HK6.out).nine hx
            have ny := (hr.below HK6.out).nine hx
            rw [Nat.zero_add] at nx
            obtain ⟨c0, c1, c2, c3, c4, c5, c6, c7, c8⟩ := nx
            obtain ⟨e0, e1, e2, e3, e4, e5, e6, e7, e8⟩ := ny
            have nn := trip_neq x x
            rw [decide_eq_true rfl] at nn
            clear hx hr
            go_wp2_with fail
            go_quiet (fail)
            go_wp2_with fail
            go_roundg (n - (i + 1))
            case measure => omega
            case rel => exact ⟨i + 1, _, by omega, Nat.le_refl _, by go_num, rfl⟩
          · have d2 : decide ((i : Int) < (n : Int)) = false := by simpa using hlt
            have HB7 : Hid (Below w.heap.size w (w6.drewN q)) := Lib.hid (HB6.out.trans ⟨rfl, rfl, rfl, Nat.le_refl _, fun _ _ => rfl⟩)
            generalize w6.drewN q = w7 at HB7 ⊢
            go_wp2_with fail
            refine (KN.out _ (cell_below HB7.out HM.out)).mono ?_
            rintro e w8 ⟨rfl, hB8⟩
            have HF := Lib.hid (below_step HB7.out hB8)
            clear hB8
            go_wp2_with fail
            go_ret
            exact ⟨rfl, HF.out⟩
end Go.Proofs.YtjpppfcbhkbbpaaDoor

