/-
  CONTRACTS OF slices.Contains, Size.
-/
import Derived.Test.YtfnjemhmipngdaaCoFloat
import Derived.Test.YtfnjemhmipngdaaSliceK
import Derived.Test.YtfnjemhmipngdaaOn
import Derived.Deep.DeepCutAuto
namespace Go.Proofs.Ytfnjemhmipngdaa
open Go.RowKit
set_option linter.unusedVariables false
set_option linter.unusedSimpArgs false

/-- Is v among the first n? -/
def amongB (f : Nat → Int) (n : Nat) (v : Int) : Bool := (List.range n).any fun j => f j == v
theorem amongB_succ (f : Nat → Int) (n : Nat) (v : Int) : amongB f (n + 1) v = (amongB f n v || f n == v) := by
  unfold amongB
  rw [List.range_succ, List.any_append]
  simp
set_option maxRecDepth 100000 in
theorem index_any (f : Nat → Int) (g o n cap : Nat) (v : Int) (w : World) (hn : n ≤ 1000000) (hc : ∀ j, j < n → w.cell? ⟨g, o + j, none⟩ = some (.int .i64 (f j))) :
    Calls Try.prog 16 #[.slice (some ⟨g, o, none⟩) n cap, .int .i64 v] w fun e w' => (∃ r : Int, e = .returned (.int .i64 r) ∧ -1 ≤ r ∧ r < n ∧ decide (0 ≤ r) = amongB f n v) ∧ w' = w := by
  have HC := Lib.hid hc
  clear hc
  go_enter Try.func16, Try.ntmps16
  go_wp2
  go_loopg [8] n (fun gg i wr => ∃ k : Nat, k ≤ n ∧ n - k ≤ gg ∧ i = .int .i64 (k : Int) ∧ amongB f k v = false ∧ wr = w)
  case atStart => exact ⟨0, by omega, by omega, rfl, rfl, rfl⟩
  case round =>
    obtain ⟨k, hk, hg, rfl, ha, rfl⟩ := hrel
    obtain rfl | hkn : k = n ∨ k < n := by omega
    · replace ha := Lib.hid ha
      go_wp2
      go_ret
      exact ⟨⟨-1, rfl, by omega, by omega, by rw [ha.out]; rfl⟩, rfl⟩
    · have h0 := HC.out k hkn
      have h1 : decide ((k : Int) < (n : Int)) = true := by simp; omega
      cases he : (v == f k) with
      | true =>
        have HS : Hid (amongB f n v = true) := Lib.hid (by
          unfold amongB
          rw [List.any_eq_true]
          exact ⟨k, by simpa using hkn, by rw [beq_iff_eq] at he ⊢; exact he.symm⟩)
        replace ha := Lib.hid ha
        go_wp2
        go_ret
        exact ⟨⟨k, rfl, by omega, by omega, by rw [HS.out]; simp⟩, rfl⟩
      | false =>
        have HS : Hid (amongB f (k + 1) v = false) := Lib.hid (by
          rw [amongB_succ, ha, Bool.false_or, beq_eq_false_iff_ne]
          rw [beq_eq_false_iff_ne] at he
          exact fun h => he h.symm)
        replace ha := Lib.hid ha
        go_wp2
        go_roundg (n - (k + 1))
        case measure => omega
        case rel => exact ⟨k + 1, by omega, by omega, by go_num, HS.out, rfl⟩
theorem contains_any (f : Nat → Int) (g o n cap : Nat) (v : Int) (w : World) (hn : n ≤ 1000000) (hc : ∀ j, j < n → w.cell? ⟨g, o + j, none⟩ = some (.int .i64 (f j))) :
    Calls Try.prog 14 #[.slice (some ⟨g, o, none⟩) n cap, .int .i64 v] w fun e w' => e = .returned (.bool (amongB f n v)) ∧ w' = w := by
  have HI := Lib.hid (index_any f g o n cap v w hn hc)
  clear hc
  generalize amongB f n v = b at *
  go_enter Try.func14, Try.ntmps14
  go_wp2_with (go_at_call 16; refine HI.out.mono ?_; rintro e w' ⟨⟨r, rfl, h1, h2, h3⟩, rfl⟩)
  go_ret
  exact ⟨rfl, rfl⟩
structure LookD where
  c : Nat
  v0 : Int
  v1 : Int
  v2 : Int
  d0 : Nat
  d1 : Nat
  d2 : Nat
def LookD.v (l : LookD) (k : Nat) : Int := if k = 0 then l.v0 else if k = 1 then l.v1 else l.v2
def LookD.d (l : LookD) (k : Nat) : Nat := if k = 0 then l.d0 else if k = 1 then l.d1 else l.d2
abbrev lookC (l : LookD) : Array Value := #[fV l.c, .int .i64 l.v0, .int .i64 l.v1, .int .i64 l.v2, fV l.d0, fV l.d1, fV l.d2]
abbrev lookV (l : LookD) : Value := .agg (lookC l)
abbrev lookO (l : LookD) : Obj := .cells (lookC l) 26
/-- A slice's cells: those of the list. -/
def ElR {α : Type} (enc : α → Value) (W : World) (ao : Option Addr) (xs : List α) : Prop := 0 < xs.length → ∃ g o, ao = some ⟨g, o, none⟩ ∧ ∀ j x, xs[j]? = some x → W.cell? ⟨g, o + j, none⟩ = some (enc x)
theorem ElR.below {α : Type} {enc : α → Value} {W U : World} {ao : Option Addr} {xs : List α} (h : ElR enc W ao xs) (hB : Below W.heap.size W U) : ElR enc U ao xs := fun hl => by
  obtain ⟨g, o, e, hc⟩ := h hl
  exact ⟨g, o, e, fun j k hj => (hB.cell (p := ⟨g, o + j, none⟩) (World.block_lt_of_cell? W _ (hc j k hj))).trans (hc j k hj)⟩
/-- Is a variable known? -/
def knB (kb : List Bool) (v : Int) : Bool := decide (v < kb.length) && kb.getD v.toNat false
/-- Is the look-up divided at a place? -/
def dvB (K : Int → Bool) (l : LookD) (k : Nat) : Bool := decide (0 ≤ l.v k) && (K (l.v k) || amongB l.v k (l.v k))
def ChR (K : Int → Bool) (l : LookD) : Nat → Nat → Prop
  | 0, x => x = l.c
  | k + 1, x => ∃ y, ChR K l k y ∧ ((dvB K l k = true ∧ DivR y (l.d k) x) ∨ (dvB K l k = false ∧ x = y))
def SizeR (K : Int → Bool) (l : LookD) (r : Nat) : Prop := ∃ x, ChR K l 3 x ∧ r = numF x
theorem amongB_eq {f g : Nat → Int} {n : Nat} (h : ∀ j, j < n → f j = g j) (v : Int) : amongB f n v = amongB g n v := by
  induction n with
  | zero => rfl
  | succ n ih => rw [amongB_succ, amongB_succ, ih (fun j hj => h j (by omega)), h n (by omega)]
theorem kn_some {kb : List Bool} {m : Nat} (hl : m < kb.length) (h : knB kb (m : Int) = true) : kb[m]? = some true := by
  simp only [knB, Bool.and_eq_true, Int.toNat_natCast] at h
  have h2 := h.2
  rw [List.getD_eq_getElem?_getD, List.getElem?_eq_getElem hl] at h2
  rw [List.getElem?_eq_getElem hl]
  exact congrArg some h2
theorem kn_none {kb : List Bool} {m : Nat} (hl : m < kb.length) (h : knB kb (m : Int) = false) : kb[m]? = some false := by
  simp only [knB, Bool.and_eq_false_iff, Int.toNat_natCast, decide_eq_false_iff_not] at h
  rcases h with h | h
  · omega
  · rw [List.getD_eq_getElem?_getD, List.getElem?_eq_getElem hl] at h
    rw [List.getElem?_eq_getElem hl]
    exact congrArg some h
theorem idx_int0 (a b c : Value) (W : World) : (Instr.index 23 (.agg #[a, b, c]) (.int .i64 0)).run Try.prog W = .ok a W := by
  have hz : ∀ U, (sizeOf 3).run Try.prog U = .ok 1 U := fun U => by kernel_rfl
  have hg : ∀ U, (isAgg 3).run Try.prog U = .ok false U := fun U => by kernel_rfl
  simp [Instr.index, run_underlying Try.underlying23, asIntOf, hz, hg, part, Result.andThen, go_sem]
theorem idx_int1 (a b c : Value) (W : World) : (Instr.index 23 (.agg #[a, b, c]) (.int .i64 1)).run Try.prog W = .ok b W := by
  have hz : ∀ U, (sizeOf 3).run Try.prog U = .ok 1 U := fun U => by kernel_rfl
  have hg : ∀ U, (isAgg 3).run Try.prog U = .ok false U := fun U => by kernel_rfl
  simp [Instr.index, run_underlying Try.underlying23, asIntOf, hz, hg, part, Result.andThen, go_sem]
theorem idx_int2 (a b c : Value) (W : World) : (Instr.index 23 (.agg #[a, b, c]) (.int .i64 2)).run Try.prog W = .ok c W := by
  have hz : ∀ U, (sizeOf 3).run Try.prog U = .ok 1 U := fun U => by kernel_rfl
  have hg : ∀ U, (isAgg 3).run Try.prog U = .ok false U := fun U => by kernel_rfl
  simp [Instr.index, run_underlying Try.underlying23, asIntOf, hz, hg, part, Result.andThen, go_sem]
set_option maxRecDepth 100000 in
set_option maxHeartbeats 16000000 in
theorem size_any (l : LookD) (ao : Option Addr) (cap : Nat) (kb : List Bool) (w : World) (hkb : ElR Value.bool w ao kb) : Calls Try.prog 8 #[lookV l, .slice ao kb.length cap] w fun e w' => (∃ r, e = .returned (fV r) ∧ SizeR (knB kb) l r) ∧ Below w.heap.size w w' := by
  have HB1 := Lib.hid ((Below.refl w.heap.size w).alloc (Nat.le_refl _) (lookO l))
  have hkb1 := hkb.below HB1.out
  have hc0 := heap_alloc_new w (lookO l)
  obtain ⟨W, hW⟩ : ∃ W, W = w.alloc (lookO l) := ⟨_, rfl⟩
  rw [← hW] at HB1 hc0 hkb1
  obtain ⟨n0, hn0⟩ : ∃ n0, n0 = w.heap.size := ⟨_, rfl⟩
  rw [← hn0] at hc0
  have HW := Lib.hid hW
  have HN0 := Lib.hid hn0
  have c0 : W.cell? ⟨n0, 0, none⟩ = some (fV l.c) := cell_in hc0 rfl
  have C1 : Hid (∀ U, Even W U → U.cell? ⟨n0, 1, none⟩ = some (.int .i64 l.v0)) := Lib.hid fun U h => h.cell (cell_in hc0 rfl)
  have C2 : Hid (∀ U, Even W U → U.cell? ⟨n0, 2, none⟩ = some (.int .i64 l.v1)) := Lib.hid fun U h => h.cell (cell_in hc0 rfl)
  have C3 : Hid (∀ U, Even W U → U.cell? ⟨n0, 3, none⟩ = some (.int .i64 l.v2)) := Lib.hid fun U h => h.cell (cell_in hc0 rfl)
  have C4 : Hid (∀ U, Even W U → U.cell? ⟨n0, 4, none⟩ = some (fV l.d0)) := Lib.hid fun U h => h.cell (cell_in hc0 rfl)
  have C5 : Hid (∀ U, Even W U → U.cell? ⟨n0, 5, none⟩ = some (fV l.d1)) := Lib.hid fun U h => h.cell (cell_in hc0 rfl)
  have C6 : Hid (∀ U, Even W U → U.cell? ⟨n0, 6, none⟩ = some (fV l.d2)) := Lib.hid fun U h => h.cell (cell_in hc0 rfl)
  have c1 := C1.out W (Even.refl W)
  have c2 := C2.out W (Even.refl W)
  have c3 := C3.out W (Even.refl W)
  have HK := Lib.hid hkb1
  have HNum := Lib.hid number_any
  clear hW hn0 hkb hkb1 hc0
  go_enter Try.func8, Try.ntmps8
  go_upto_region 1 with fail
  rw [← HW.out, ← HN0.out]
  go_wp2
  clear c0 c1 c2 c3
  obtain ⟨va, hva⟩ : ∃ va : Value, va = .agg #[.int .i64 l.v0, .int .i64 l.v1, .int .i64 l.v2] := ⟨_, rfl⟩
  rw [← hva]
  have HX0 : Hid (∀ U, (Instr.index 23 va (.int .i64 0)).run Try.prog U = .ok (.int .i64 l.v0) U) := Lib.hid fun U => by rw [hva]; exact idx_int0 _ _ _ U
  have HX1 : Hid (∀ U, (Instr.index 23 va (.int .i64 1)).run Try.prog U = .ok (.int .i64 l.v1) U) := Lib.hid fun U => by rw [hva]; exact idx_int1 _ _ _ U
  have HX2 : Hid (∀ U, (Instr.index 23 va (.int .i64 2)).run Try.prog U = .ok (.int .i64 l.v2) U) := Lib.hid fun U => by rw [hva]; exact idx_int2 _ _ _ U
  clear hva
  go_loopg [5, 12] 3 (fun gg x i wr => ∃ k r : Nat, k ≤ 3 ∧ 3 - k ≤ gg ∧ i = .int .i64 (k : Int) ∧ x = fV r ∧ ChR (knB kb) l k r ∧ Even W wr)
  case atStart => exact ⟨0, _, by omega, by omega, rfl, rfl, rfl, Even.refl _⟩
  case round =>
    obtain ⟨k, r, hk, hg, rfl, rfl, hch, hev⟩ := hrel
    have c1 := C1.out wr hev
    have c2 := C2.out wr hev
    have c3 := C3.out wr hev
    have c4 := C4.out wr hev
    have c5 := C5.out wr hev
    have c6 := C6.out wr hev
    have HEv := Lib.hid hev
    have HCh := Lib.hid hch
    clear hev hch
    obtain rfl | rfl | rfl | rfl : k = 0 ∨ k = 1 ∨ k = 2 ∨ k = 3 := by omega
    -- ROUNDS
    · have HV : Hid (l.v 0 = l.v0) := Lib.hid rfl
      have hx0 := HX0.out
      by_cases hv : l.v0 < 0
      · have e0 : decide (l.v0 < 0) = true := decide_eq_true hv
        have hDv : Hid (dvB (knB kb) l 0 = false) := Lib.hid (by unfold dvB; rw [HV.out, decide_eq_false (by omega)]; rfl)
        have HE2 := HEv
        obtain ⟨r2, hr2⟩ : ∃ r2, r2 = r := ⟨_, rfl⟩
        have HC2 : Hid (ChR (knB kb) l (0 + 1) r2) := Lib.hid ⟨r, HCh.out, .inr ⟨hDv.out, hr2⟩⟩
        subst hr2
        clear hv
        go_wp2
        go_roundg 2
        case measure => omega
        case rel => exact ⟨1, _, by omega, by omega, by go_num, rfl, HC2.out, HE2.out⟩
      · have e0 : decide (l.v0 < 0) = false := decide_eq_false hv
        have HGe : Hid (decide (0 ≤ l.v0) = true) := Lib.hid (decide_eq_true (by omega))
        have hcc : ∀ j, j < 0 → wr.cell? ⟨n0, 1 + j, none⟩ = some (.int .i64 (l.v j)) := by
          intro j hj
          omega
        have hCont := contains_any l.v n0 1 0 3 l.v0 wr (by omega) hcc
        obtain ⟨m, hm⟩ : ∃ m : Nat, l.v0 = (m : Int) := ⟨(l.v0).toNat, by omega⟩
        clear hcc hv
        cases hK : knB kb l.v0 with
        | true =>
          have hlt : m < kb.length := by simp only [knB, Bool.and_eq_true, decide_eq_true_eq] at hK; omega
          obtain ⟨g, o, rfl, hcell⟩ := HK.out (by omega)
          have hb := kn_some hlt (by rw [← hm]; exact hK)
          have hcb := HEv.out.cell (hcell m _ hb)
          have e1 : decide (l.v0 < (kb.length : Int)) = true := decide_eq_true (by omega)
          have hDv : Hid (dvB (knB kb) l 0 = true) := Lib.hid (by unfold dvB; rw [HV.out, HGe.out, hK]; rfl)
          obtain ⟨r2, w1, hq, hd, he⟩ := div_run 22 r l.d0 Try.prog wr
          have HE2 := Lib.hid (HEv.out.trans he)
          have HC2 : Hid (ChR (knB kb) l (0 + 1) r2) := Lib.hid ⟨r, HCh.out, .inl ⟨hDv.out, hd⟩⟩
          clear hd he
          clear hK hb hcell hCont
          rw [hm] at e0 e1
          go_wp2
          go_roundg 2
          case measure => omega
          case rel => exact ⟨1, _, by omega, by omega, by go_num, rfl, HC2.out, HE2.out⟩
        | false =>
          by_cases hlt : m < kb.length
          · obtain ⟨g, o, rfl, hcell⟩ := HK.out (by omega)
            have hb := kn_none hlt (by rw [← hm]; exact hK)
            have hcb := HEv.out.cell (hcell m _ hb)
            have e1 : decide (l.v0 < (kb.length : Int)) = true := decide_eq_true (by omega)
            clear hb hcell
            cases hA : amongB l.v 0 l.v0 with
            | true =>
              have hDv : Hid (dvB (knB kb) l 0 = true) := Lib.hid (by unfold dvB; rw [HV.out, HGe.out, hK, hA]; rfl)
              obtain ⟨r2, w1, hq, hd, he⟩ := div_run 22 r l.d0 Try.prog wr
              have HE2 := Lib.hid (HEv.out.trans he)
              have HC2 : Hid (ChR (knB kb) l (0 + 1) r2) := Lib.hid ⟨r, HCh.out, .inl ⟨hDv.out, hd⟩⟩
              clear hd he
              rw [hA] at hCont
              rw [hm] at hCont e0 e1
              have HCont := Lib.hid hCont
              clear hK hA hCont
            
              go_wp2_with (go_at_call 14; refine HCont.out.mono ?_; rintro e w' ⟨rfl, rfl⟩)
              go_roundg 2
              case measure => omega
              case rel => exact ⟨1, _, by omega, by omega, by go_num, rfl, HC2.out, HE2.out⟩
            | false =>
              have hDv : Hid (dvB (knB kb) l 0 = false) := Lib.hid (by unfold dvB; rw [HV.out, HGe.out, hK, hA]; rfl)
              have HE2 := HEv
              obtain ⟨r2, hr2⟩ : ∃ r2, r2 = r := ⟨_, rfl⟩
              have HC2 : Hid (ChR (knB kb) l (0 + 1) r2) := Lib.hid ⟨r, HCh.out, .inr ⟨hDv.out, hr2⟩⟩
              subst hr2
              rw [hA] at hCont
              rw [hm] at hCont e0 e1
              have HCont := Lib.hid hCont
              clear hK hA hCont
            
              go_wp2_with (go_at_call 14; refine HCont.out.mono ?_; rintro e w' ⟨rfl, rfl⟩)
              go_roundg 2
              case measure => omega
              case rel => exact ⟨1, _, by omega, by omega, by go_num, rfl, HC2.out, HE2.out⟩
          · have e1 : decide (l.v0 < (kb.length : Int)) = false := decide_eq_false (by omega)
            cases hA : amongB l.v 0 l.v0 with
            | true =>
              have hDv : Hid (dvB (knB kb) l 0 = true) := Lib.hid (by unfold dvB; rw [HV.out, HGe.out, hK, hA]; rfl)
              obtain ⟨r2, w1, hq, hd, he⟩ := div_run 22 r l.d0 Try.prog wr
              have HE2 := Lib.hid (HEv.out.trans he)
              have HC2 : Hid (ChR (knB kb) l (0 + 1) r2) := Lib.hid ⟨r, HCh.out, .inl ⟨hDv.out, hd⟩⟩
              clear hd he
              rw [hA] at hCont
              rw [hm] at hCont e0 e1
              have HCont := Lib.hid hCont
              clear hK hA hCont
            
              go_wp2_with (go_at_call 14; refine HCont.out.mono ?_; rintro e w' ⟨rfl, rfl⟩)
              go_roundg 2
              case measure => omega
              case rel => exact ⟨1, _, by omega, by omega, by go_num, rfl, HC2.out, HE2.out⟩
            | false =>
              have hDv : Hid (dvB (knB kb) l 0 = false) := Lib.hid (by unfold dvB; rw [HV.out, HGe.out, hK, hA]; rfl)
              have HE2 := HEv
              obtain ⟨r2, hr2⟩ : ∃ r2, r2 = r := ⟨_, rfl⟩
              have HC2 : Hid (ChR (knB kb) l (0 + 1) r2) := Lib.hid ⟨r, HCh.out, .inr ⟨hDv.out, hr2⟩⟩
              subst hr2
              rw [hA] at hCont
              rw [hm] at hCont e0 e1
              have HCont := Lib.hid hCont
              clear hK hA hCont
            
              go_wp2_with (go_at_call 14; refine HCont.out.mono ?_; rintro e w' ⟨rfl, rfl⟩)
              go_roundg 2
              case measure => omega
              case rel => exact ⟨1, _, by omega, by omega, by go_num, rfl, HC2.out, HE2.out⟩
    · have HV : Hid (l.v 1 = l.v1) := Lib.hid rfl
      have hx1 := HX1.out
      by_cases hv : l.v1 < 0
      · have e0 : decide (l.v1 < 0) = true := decide_eq_true hv
        have hDv : Hid (dvB (knB kb) l 1 = false) := Lib.hid (by unfold dvB; rw [HV.out, decide_eq_false (by omega)]; rfl)
        have HE2 := HEv
        obtain ⟨r2, hr2⟩ : ∃ r2, r2 = r := ⟨_, rfl⟩
        have HC2 : Hid (ChR (knB kb) l (1 + 1) r2) := Lib.hid ⟨r, HCh.out, .inr ⟨hDv.out, hr2⟩⟩
        subst hr2
        clear hv
        go_wp2
        go_roundg 1
        case measure => omega
        case rel => exact ⟨2, _, by omega, by omega, by go_num, rfl, HC2.out, HE2.out⟩
      · have e0 : decide (l.v1 < 0) = false := decide_eq_false hv
        have HGe : Hid (decide (0 ≤ l.v1) = true) := Lib.hid (decide_eq_true (by omega))
        have hcc : ∀ j, j < 1 → wr.cell? ⟨n0, 1 + j, none⟩ = some (.int .i64 (l.v j)) := by
          intro j hj
          obtain rfl : j = 0 := by omega
          exact c1
        have hCont := contains_any l.v n0 1 1 3 l.v1 wr (by omega) hcc
        obtain ⟨m, hm⟩ : ∃ m : Nat, l.v1 = (m : Int) := ⟨(l.v1).toNat, by omega⟩
        clear hcc hv
        cases hK : knB kb l.v1 with
        | true =>
          have hlt : m < kb.length := by simp only [knB, Bool.and_eq_true, decide_eq_true_eq] at hK; omega
          obtain ⟨g, o, rfl, hcell⟩ := HK.out (by omega)
          have hb := kn_some hlt (by rw [← hm]; exact hK)
          have hcb := HEv.out.cell (hcell m _ hb)
          have e1 : decide (l.v1 < (kb.length : Int)) = true := decide_eq_true (by omega)
          have hDv : Hid (dvB (knB kb) l 1 = true) := Lib.hid (by unfold dvB; rw [HV.out, HGe.out, hK]; rfl)
          obtain ⟨r2, w1, hq, hd, he⟩ := div_run 22 r l.d1 Try.prog wr
          have HE2 := Lib.hid (HEv.out.trans he)
          have HC2 : Hid (ChR (knB kb) l (1 + 1) r2) := Lib.hid ⟨r, HCh.out, .inl ⟨hDv.out, hd⟩⟩
          clear hd he
          clear hK hb hcell hCont
          rw [hm] at e0 e1
          go_wp2
          go_roundg 1
          case measure => omega
          case rel => exact ⟨2, _, by omega, by omega, by go_num, rfl, HC2.out, HE2.out⟩
        | false =>
          by_cases hlt : m < kb.length
          · obtain ⟨g, o, rfl, hcell⟩ := HK.out (by omega)
            have hb := kn_none hlt (by rw [← hm]; exact hK)
            have hcb := HEv.out.cell (hcell m _ hb)
            have e1 : decide (l.v1 < (kb.length : Int)) = true := decide_eq_true (by omega)
            clear hb hcell
            cases hA : amongB l.v 1 l.v1 with
            | true =>
              have hDv : Hid (dvB (knB kb) l 1 = true) := Lib.hid (by unfold dvB; rw [HV.out, HGe.out, hK, hA]; rfl)
              obtain ⟨r2, w1, hq, hd, he⟩ := div_run 22 r l.d1 Try.prog wr
              have HE2 := Lib.hid (HEv.out.trans he)
              have HC2 : Hid (ChR (knB kb) l (1 + 1) r2) := Lib.hid ⟨r, HCh.out, .inl ⟨hDv.out, hd⟩⟩
              clear hd he
              rw [hA] at hCont
              rw [hm] at hCont e0 e1
              have HCont := Lib.hid hCont
              clear hK hA hCont
            
              go_wp2_with (go_at_call 14; refine HCont.out.mono ?_; rintro e w' ⟨rfl, rfl⟩)
              go_roundg 1
              case measure => omega
              case rel => exact ⟨2, _, by omega, by omega, by go_num, rfl, HC2.out, HE2.out⟩
            | false =>
              have hDv : Hid (dvB (knB kb) l 1 = false) := Lib.hid (by unfold dvB; rw [HV.out, HGe.out, hK, hA]; rfl)
              have HE2 := HEv
              obtain ⟨r2, hr2⟩ : ∃ r2, r2 = r := ⟨_, rfl⟩
              have HC2 : Hid (ChR (knB kb) l (1 + 1) r2) := Lib.hid ⟨r, HCh.out, .inr ⟨hDv.out, hr2⟩⟩
              subst hr2
              rw [hA] at hCont
              rw [hm] at hCont e0 e1
              have HCont := Lib.hid hCont
              clear hK hA hCont
            
              go_wp2_with (go_at_call 14; refine HCont.out.mono ?_; rintro e w' ⟨rfl, rfl⟩)
              go_roundg 1
              case measure => omega
              case rel => exact ⟨2, _, by omega, by omega, by go_num, rfl, HC2.out, HE2.out⟩
          · have e1 : decide (l.v1 < (kb.length : Int)) = false := decide_eq_false (by omega)
            cases hA : amongB l.v 1 l.v1 with
            | true =>
              have hDv : Hid (dvB (knB kb) l 1 = true) := Lib.hid (by unfold dvB; rw [HV.out, HGe.out, hK, hA]; rfl)
              obtain ⟨r2, w1, hq, hd, he⟩ := div_run 22 r l.d1 Try.prog wr
              have HE2 := Lib.hid (HEv.out.trans he)
              have HC2 : Hid (ChR (knB kb) l (1 + 1) r2) := Lib.hid ⟨r, HCh.out, .inl ⟨hDv.out, hd⟩⟩
              clear hd he
              rw [hA] at hCont
              rw [hm] at hCont e0 e1
              have HCont := Lib.hid hCont
              clear hK hA hCont
            
              go_wp2_with (go_at_call 14; refine HCont.out.mono ?_; rintro e w' ⟨rfl, rfl⟩)
              go_roundg 1
              case measure => omega
              case rel => exact ⟨2, _, by omega, by omega, by go_num, rfl, HC2.out, HE2.out⟩
            | false =>
              have hDv : Hid (dvB (knB kb) l 1 = false) := Lib.hid (by unfold dvB; rw [HV.out, HGe.out, hK, hA]; rfl)
              have HE2 := HEv
              obtain ⟨r2, hr2⟩ : ∃ r2, r2 = r := ⟨_, rfl⟩
              have HC2 : Hid (ChR (knB kb) l (1 + 1) r2) := Lib.hid ⟨r, HCh.out, .inr ⟨hDv.out, hr2⟩⟩
              subst hr2
              rw [hA] at hCont
              rw [hm] at hCont e0 e1
              have HCont := Lib.hid hCont
              clear hK hA hCont
            
              go_wp2_with (go_at_call 14; refine HCont.out.mono ?_; rintro e w' ⟨rfl, rfl⟩)
              go_roundg 1
              case measure => omega
              case rel => exact ⟨2, _, by omega, by omega, by go_num, rfl, HC2.out, HE2.out⟩
    · have HV : Hid (l.v 2 = l.v2) := Lib.hid rfl
      have hx2 := HX2.out
      by_cases hv : l.v2 < 0
      · have e0 : decide (l.v2 < 0) = true := decide_eq_true hv
        have hDv : Hid (dvB (knB kb) l 2 = false) := Lib.hid (by unfold dvB; rw [HV.out, decide_eq_false (by omega)]; rfl)
        have HE2 := HEv
        obtain ⟨r2, hr2⟩ : ∃ r2, r2 = r := ⟨_, rfl⟩
        have HC2 : Hid (ChR (knB kb) l (2 + 1) r2) := Lib.hid ⟨r, HCh.out, .inr ⟨hDv.out, hr2⟩⟩
        subst hr2
        clear hv
        go_wp2
        go_roundg 0
        case measure => omega
        case rel => exact ⟨3, _, by omega, by omega, by go_num, rfl, HC2.out, HE2.out⟩
      · have e0 : decide (l.v2 < 0) = false := decide_eq_false hv
        have HGe : Hid (decide (0 ≤ l.v2) = true) := Lib.hid (decide_eq_true (by omega))
        have hcc : ∀ j, j < 2 → wr.cell? ⟨n0, 1 + j, none⟩ = some (.int .i64 (l.v j)) := by
          intro j hj
          rcases (by omega : j = 0 ∨ j = 1) with h | h
          · subst h
            exact c1
          · subst h
            exact c2
        have hCont := contains_any l.v n0 1 2 3 l.v2 wr (by omega) hcc
        obtain ⟨m, hm⟩ : ∃ m : Nat, l.v2 = (m : Int) := ⟨(l.v2).toNat, by omega⟩
        clear hcc hv
        cases hK : knB kb l.v2 with
        | true =>
          have hlt : m < kb.length := by simp only [knB, Bool.and_eq_true, decide_eq_true_eq] at hK; omega
          obtain ⟨g, o, rfl, hcell⟩ := HK.out (by omega)
          have hb := kn_some hlt (by rw [← hm]; exact hK)
          have hcb := HEv.out.cell (hcell m _ hb)
          have e1 : decide (l.v2 < (kb.length : Int)) = true := decide_eq_true (by omega)
          have hDv : Hid (dvB (knB kb) l 2 = true) := Lib.hid (by unfold dvB; rw [HV.out, HGe.out, hK]; rfl)
          obtain ⟨r2, w1, hq, hd, he⟩ := div_run 22 r l.d2 Try.prog wr
          have HE2 := Lib.hid (HEv.out.trans he)
          have HC2 : Hid (ChR (knB kb) l (2 + 1) r2) := Lib.hid ⟨r, HCh.out, .inl ⟨hDv.out, hd⟩⟩
          clear hd he
          clear hK hb hcell hCont
          rw [hm] at e0 e1
          go_wp2
          go_roundg 0
          case measure => omega
          case rel => exact ⟨3, _, by omega, by omega, by go_num, rfl, HC2.out, HE2.out⟩
        | false =>
          by_cases hlt : m < kb.length
          · obtain ⟨g, o, rfl, hcell⟩ := HK.out (by omega)
            have hb := kn_none hlt (by rw [← hm]; exact hK)
            have hcb := HEv.out.cell (hcell m _ hb)
            have e1 : decide (l.v2 < (kb.length : Int)) = true := decide_eq_true (by omega)
            clear hb hcell
            cases hA : amongB l.v 2 l.v2 with
            | true =>
              have hDv : Hid (dvB (knB kb) l 2 = true) := Lib.hid (by unfold dvB; rw [HV.out, HGe.out, hK, hA]; rfl)
              obtain ⟨r2, w1, hq, hd, he⟩ := div_run 22 r l.d2 Try.prog wr
              have HE2 := Lib.hid (HEv.out.trans he)
              have HC2 : Hid (ChR (knB kb) l (2 + 1) r2) := Lib.hid ⟨r, HCh.out, .inl ⟨hDv.out, hd⟩⟩
              clear hd he
              rw [hA] at hCont
              rw [hm] at hCont e0 e1
              have HCont := Lib.hid hCont
              clear hK hA hCont
            
              go_wp2_with (go_at_call 14; refine HCont.out.mono ?_; rintro e w' ⟨rfl, rfl⟩)
              go_roundg 0
              case measure => omega
              case rel => exact ⟨3, _, by omega, by omega, by go_num, rfl, HC2.out, HE2.out⟩
            | false =>
              have hDv : Hid (dvB (knB kb) l 2 = false) := Lib.hid (by unfold dvB; rw [HV.out, HGe.out, hK, hA]; rfl)
              have HE2 := HEv
              obtain ⟨r2, hr2⟩ : ∃ r2, r2 = r := ⟨_, rfl⟩
              have HC2 : Hid (ChR (knB kb) l (2 + 1) r2) := Lib.hid ⟨r, HCh.out, .inr ⟨hDv.out, hr2⟩⟩
              subst hr2
              rw [hA] at hCont
              rw [hm] at hCont e0 e1
              have HCont := Lib.hid hCont
              clear hK hA hCont
            
              go_wp2_with (go_at_call 14; refine HCont.out.mono ?_; rintro e w' ⟨rfl, rfl⟩)
              go_roundg 0
              case measure => omega
              case rel => exact ⟨3, _, by omega, by omega, by go_num, rfl, HC2.out, HE2.out⟩
          · have e1 : decide (l.v2 < (kb.length : Int)) = false := decide_eq_false (by omega)
            cases hA : amongB l.v 2 l.v2 with
            | true =>
              have hDv : Hid (dvB (knB kb) l 2 = true) := Lib.hid (by unfold dvB; rw [HV.out, HGe.out, hK, hA]; rfl)
              obtain ⟨r2, w1, hq, hd, he⟩ := div_run 22 r l.d2 Try.prog wr
              have HE2 := Lib.hid (HEv.out.trans he)
              have HC2 : Hid (ChR (knB kb) l (2 + 1) r2) := Lib.hid ⟨r, HCh.out, .inl ⟨hDv.out, hd⟩⟩
              clear hd he
              rw [hA] at hCont
              rw [hm] at hCont e0 e1
              have HCont := Lib.hid hCont
              clear hK hA hCont
            
              go_wp2_with (go_at_call 14; refine HCont.out.mono ?_; rintro e w' ⟨rfl, rfl⟩)
              go_roundg 0
              case measure => omega
              case rel => exact ⟨3, _, by omega, by omega, by go_num, rfl, HC2.out, HE2.out⟩
            | false =>
              have hDv : Hid (dvB (knB kb) l 2 = false) := Lib.hid (by unfold dvB; rw [HV.out, HGe.out, hK, hA]; rfl)
              have HE2 := HEv
              obtain ⟨r2, hr2⟩ : ∃ r2, r2 = r := ⟨_, rfl⟩
              have HC2 : Hid (ChR (knB kb) l (2 + 1) r2) := Lib.hid ⟨r, HCh.out, .inr ⟨hDv.out, hr2⟩⟩
              subst hr2
              rw [hA] at hCont
              rw [hm] at hCont e0 e1
              have HCont := Lib.hid hCont
              clear hK hA hCont
            
              go_wp2_with (go_at_call 14; refine HCont.out.mono ?_; rintro e w' ⟨rfl, rfl⟩)
              go_roundg 0
              case measure => omega
              case rel => exact ⟨3, _, by omega, by omega, by go_num, rfl, HC2.out, HE2.out⟩
    -- LAST
    · go_wp2_with (go_at_call 15; refine (HNum.out _ _).mono ?_; rintro e w' ⟨rfl, rfl⟩)
      go_ret
      exact ⟨⟨_, rfl, _, HCh.out, rfl⟩, HB1.out.trans (HEv.out.below _)⟩
end Go.Proofs.Ytfnjemhmipngdaa
