/-
  CONTRACT OF table's Copy.
-/
import Derived.Test.YtjakojpcbapdhaaTbCopy
import Derived.Test.YtjakojpcbapdhaaTbRef3
import Derived.Deep.RegionHeld3
namespace Go.Proofs.Ytjakojpcbapdhaa
open Go.RowKit Go.Shelf
set_option linter.unusedVariables false
set_option linter.unusedSimpArgs false

theorem belT {U V X : World} (h : Below U.heap.size U V) (k : Below V.heap.size V X) : Below U.heap.size U X := h.trans (k.mono h.size)
abbrev CopyP (w : World) (tb : Nat) (ra : Option Addr) (rn rc nb pb : Nat) (la : Option Addr) (ln lc : Nat) (live d0 d1 d2 : Int) (U : World) : Prop :=
  U.cell? ⟨tb, 0, none⟩ = some (.slice ra rn rc) ∧ U.cell? ⟨tb, 1, none⟩ = some (.map (some nb)) ∧ U.cell? ⟨tb, 2, none⟩ = some (.map (some pb)) ∧ U.cell? ⟨tb, 3, none⟩ = some (.slice la ln lc) ∧ U.cell? ⟨tb, 4, none⟩ = some (.int .i64 live) ∧
    U.cell? ⟨tb, 5, none⟩ = some (.int .i64 d0) ∧ U.cell? ⟨tb, 6, none⟩ = some (.int .i64 d1) ∧ U.cell? ⟨tb, 7, none⟩ = some (.int .i64 d2) ∧ Below w.heap.size w U
section
variable {B : Nat} {w : World} {S : Nat → Prop} {tb : Nat} {R : List EntN}
set_option maxRecDepth 100000 in
set_option maxHeartbeats 4000000 in
theorem TabI.copy (h : TabI B gz0 w S tb R) (hR : R.length ≤ 1000000) : Calls Try.prog 19 #[tabP tb] w fun e w' => ∃ tb', e = .returned (tabP tb') ∧ Below w.heap.size w w' ∧ w.heap.size ≤ tb' ∧ TabI w'.heap.size gz0 w' (fun j => w.heap.size ≤ j ∧ j < w'.heap.size) tb' R := by
  obtain ⟨pats, Ls, live, d0, d1, d2, ra, rc, nb, pb, la, lc, hM, hi, hB⟩ := h
  have HNo := Lib.hid (tbNone_any hM)
  have hsum := sumL_few hi hR
  have hblk := hM.blk
  have HP0 : Hid (CopyP w tb ra R.length rc nb pb la Ls.length lc live d0 d1 d2 w.drew) := Lib.hid (by
    have hk : w.drew.heap[tb]? = some (.cells (tabC ra R.length rc nb pb la Ls.length lc live d0 d1 d2) 61 (0, 0)) := hblk
    exact ⟨cell_in hk rfl, cell_in hk rfl, cell_in hk rfl, cell_in hk rfl, cell_in hk rfl, cell_in hk rfl, cell_in hk rfl, cell_in hk rfl, (Below.refl _ _).drew⟩)
  have HSt : ∀ U V, CopyP w tb ra R.length rc nb pb la Ls.length lc live d0 d1 d2 U → Below U.heap.size U V → CopyP w tb ra R.length rc nb pb la Ls.length lc live d0 d1 d2 V := fun U V hU k =>
    ⟨cellB k hU.1, cellB k hU.2.1, cellB k hU.2.2.1, cellB k hU.2.2.2.1, cellB k hU.2.2.2.2.1, cellB k hU.2.2.2.2.2.1, cellB k hU.2.2.2.2.2.2.1, cellB k hU.2.2.2.2.2.2.2.1, hU.2.2.2.2.2.2.2.2.trans (k.mono hU.2.2.2.2.2.2.2.2.size)⟩
  have HC1 : Hid (∀ U, CopyP w tb ra R.length rc nb pb la Ls.length lc live d0 d1 d2 U → Calls Try.prog 37 #[.slice ra R.length rc] U fun e w' => ∃ ra' rc', e = .returned (.slice ra' R.length rc') ∧ (RowK w' 68 4 ra' R.length rc' (flatE R) ∧ ∀ a, ra' = some a → w.heap.size ≤ a.block) ∧ U.heap.size ≤ w'.heap.size ∧ Below U.heap.size U w' ∧ CopyP w tb ra R.length rc nb pb la Ls.length lc live d0 d1 d2 w') := Lib.hid (fun U hU => by
    have hb := hU.2.2.2.2.2.2.2.2
    refine (cloneRows_any (hM.rows.below hb) (by omega) (by unfold maxLen; omega)).mono ?_
    rintro e w' ⟨ra', rc', rfl, h1, h2, h3⟩
    exact ⟨ra', rc', rfl, ⟨h1, fun a ha => Nat.le_trans hb.size (h3 a ha)⟩, h2.size, h2, HSt U w' hU h2⟩)
  have HC2 : Hid (∀ U, CopyP w tb ra R.length rc nb pb la Ls.length lc live d0 d1 d2 U → Calls Try.prog 38 #[.map (some nb)] U fun e w' => ∃ nb', e = .returned (.map (some nb')) ∧ (MapRow w' nb' (numF R) ∧ w.heap.size ≤ nb' ∧ U.heap.size ≤ nb' ∧ nb' < w'.heap.size) ∧ U.heap.size ≤ w'.heap.size ∧ Below U.heap.size U w' ∧ CopyP w tb ra R.length rc nb pb la Ls.length lc live d0 d1 d2 w') := Lib.hid (fun U hU => by
    have hb := hU.2.2.2.2.2.2.2.2
    refine (cloneMap_any (hM.nums.below' hb)).mono ?_
    rintro e w' ⟨rfl, h1, h2, h3⟩
    exact ⟨_, rfl, ⟨h3, hb.size, Nat.le_refl _, by omega⟩, h1.size, h1, HSt U w' hU h1⟩)
  have HC3 : Hid (∀ U, CopyP w tb ra R.length rc nb pb la Ls.length lc live d0 d1 d2 U → Calls Try.prog 38 #[.map (some pb)] U fun e w' => ∃ pb', e = .returned (.map (some pb')) ∧ (MapRow w' pb' (patF pats) ∧ w.heap.size ≤ pb' ∧ U.heap.size ≤ pb' ∧ pb' < w'.heap.size) ∧ U.heap.size ≤ w'.heap.size ∧ Below U.heap.size U w' ∧ CopyP w tb ra R.length rc nb pb la Ls.length lc live d0 d1 d2 w') := Lib.hid (fun U hU => by
    have hb := hU.2.2.2.2.2.2.2.2
    refine (cloneMap_any (hM.pts.below' hb)).mono ?_
    rintro e w' ⟨rfl, h1, h2, h3⟩
    exact ⟨_, rfl, ⟨h3, hb.size, Nat.le_refl _, by omega⟩, h1.size, h1, HSt U w' hU h1⟩)
  have HC4 : Hid (∀ U, CopyP w tb ra R.length rc nb pb la Ls.length lc live d0 d1 d2 U → Calls Try.prog 39 #[.slice la Ls.length lc] U fun e w' => ∃ la' lc' A, e = .returned (.slice la' Ls.length lc') ∧ (CopyR A Ls la' lc' Ls.length w' ∧ (∀ a, la' = some a → w.heap.size ≤ a.block) ∧ w.heap.size ≤ A) ∧ U.heap.size ≤ w'.heap.size ∧ Below U.heap.size U w' ∧ CopyP w tb ra R.length rc nb pb la Ls.length lc live d0 d1 d2 w') := Lib.hid (fun U hU => by
    have hb := hU.2.2.2.2.2.2.2.2
    refine (copied_any (hM.lsts.below hb) (fun k x hx => (hM.each k x hx).below hb) hsum hM.fewL).mono ?_
    rintro e w' ⟨la', lc', A, rfl, h1, h2, h3, h4⟩
    exact ⟨la', lc', A, rfl, ⟨h2, fun a ha => Nat.le_trans hb.size (h3 a ha), Nat.le_trans hb.size h4⟩, h1.size, h1, HSt U w' hU h1⟩)
  have HFin : Hid (∀ (V : World) (ra' : Option Addr) (rc' nb' pb' : Nat) (la' : Option Addr) (lc' A : Nat), CopyP w tb ra R.length rc nb pb la Ls.length lc live d0 d1 d2 V → RowK V 68 4 ra' R.length rc' (flatE R) → (∀ a, ra' = some a → w.heap.size ≤ a.block) → MapRow V nb' (numF R) → w.heap.size ≤ nb' → MapRow V pb' (patF pats) → w.heap.size ≤ pb' → nb' ≠ pb' → CopyR A Ls la' lc' Ls.length V → (∀ a, la' = some a → w.heap.size ≤ a.block) → w.heap.size ≤ A →
      Below w.heap.size w (V.alloc (.cells (tabC ra' R.length rc' nb' pb' la' Ls.length lc' live d0 d1 d2) 61)) ∧ w.heap.size ≤ V.heap.size ∧ TabI (V.alloc (.cells (tabC ra' R.length rc' nb' pb' la' Ls.length lc' live d0 d1 d2) 61)).heap.size gz0 (V.alloc (.cells (tabC ra' R.length rc' nb' pb' la' Ls.length lc' live d0 d1 d2) 61)) (fun j => w.heap.size ≤ j ∧ j < (V.alloc (.cells (tabC ra' R.length rc' nb' pb' la' Ls.length lc' live d0 d1 d2) 61)).heap.size) V.heap.size R) := Lib.hid (fun V ra' rc' nb' pb' la' lc' A hV h1 q1 h2 q2 h3 q3 hne h4 q4 q5 => by
    have hb := hV.2.2.2.2.2.2.2.2
    refine ⟨hb.alloc hb.size _, hb.size, ?_⟩
    rw [World.size_alloc]
    exact copy_end hM hi hb.size h1 q1 h2 q2 h3 q3 hne h4 q4 q5)
  have hP0 := HP0.out
  have HAl : Hid (∀ U o, CopyP w tb ra R.length rc nb pb la Ls.length lc live d0 d1 d2 U → CopyP w tb ra R.length rc nb pb la Ls.length lc live d0 d1 d2 (U.alloc o)) := Lib.hid (fun U o hU => HSt U _ hU ((Below.refl _ U).alloc (Nat.le_refl _) o))
  clear hM hi hsum hblk HSt hB
  go_enter Try.func19, Try.ntmps19
  go_upto_region 3 with (go_at_call 29; refine HNo.out.mono ?_; rintro e w1 ⟨rfl, rfl⟩)
  go_region_held3 (fun U => U.cell? ⟨tb, 0, none⟩ = some (.slice ra R.length rc) ∧ U.cell? ⟨tb, 1, none⟩ = some (.map (some nb)) ∧ U.cell? ⟨tb, 2, none⟩ = some (.map (some pb)) ∧ U.cell? ⟨tb, 3, none⟩ = some (.slice la Ls.length lc) ∧ U.cell? ⟨tb, 4, none⟩ = some (.int .i64 live) ∧ U.cell? ⟨tb, 5, none⟩ = some (.int .i64 d0) ∧ U.cell? ⟨tb, 6, none⟩ = some (.int .i64 d1) ∧ U.cell? ⟨tb, 7, none⟩ = some (.int .i64 d2) ∧ Below w.heap.size w U) ((first | assumption | exact HP0.out | exact HAl.out _ _ (by assumption))) ((first
    | (go_at_call 37; refine (HC1.out _ (by assumption)).mono ?_; rintro e y1 ⟨ra', rc', rfl, ⟨h1, q1⟩, z1, k1, p1⟩)
    | (go_at_call 39; refine (HC4.out _ (by assumption)).mono ?_; rintro e y4 ⟨la', lc', A, rfl, ⟨h4, q4, q5⟩, z4, k4, p4⟩)
    | (go_at_call 38; with_reducible (show Calls _ _ #[.map (some nb)] _ _); refine (HC2.out _ (by assumption)).mono ?_; rintro e y2 ⟨nb', rfl, ⟨h2, q2, q2', q2''⟩, z2, k2, p2⟩)
    | (go_at_call 38; with_reducible (show Calls _ _ #[.map (some pb)] _ _); refine (HC3.out _ (by assumption)).mono ?_; rintro e y3 ⟨pb', rfl, ⟨h3, q3, q3', q3''⟩, z3, k3, p3⟩)))
  have HE := Lib.hid (HFin.out y4 ra' rc' nb' pb' la' lc' A p4 (h1.below (belT k2 (belT k3 k4))) q1 (h2.below' (belT k3 k4)) q2 (h3.below' k4) q3 (by omega) h4 q4 q5)
  rename_i hS9
  clear hS9 p1 p2 p3 p4 k1 k2 k3 k4 h1 h2 h3 h4 q1 q4
  go_wp2
  go_ret
  exact ⟨_, by simp, HE.out⟩
end
end Go.Proofs.Ytjakojpcbapdhaa
