/-
  CONTRACT OF the law's do.
-/
import Derived.Test.YtnmimagcmmdolaaTbMatches
import Derived.Test.YtnmimagcmmdolaaTbRef6
namespace Go.Proofs.Ytnmimagcmmdolaa
open Go.RowKit Go.Shelf
set_option linter.unusedVariables false
set_option linter.unusedSimpArgs false

structure ActN where
  kind : Int
  row : RowN
  bits : Nat
  lo : Int
  hi : Int
abbrev actC (a : ActN) : Array Value := #[.int .i64 a.kind, .int .u32 (a.row.1 : Int), .int .u32 (a.row.2.1 : Int), .int .u32 (a.row.2.2 : Int), .int .u8 (a.bits : Int), .int .i64 a.lo, .int .i64 a.hi]
def okA (a : ActN) : Prop := okN a.row ∧ a.bits < 256
def actR (R : List EntN) (a : ActN) : List EntN :=
  if a.kind = 1 then addR R a.row a.bits else if a.kind = 2 then modR R a.lo (fun x => orB x a.bits) else if a.kind = 3 then modR R a.lo (fun x => andNotB x a.bits) else R
theorem addV_two (R : List EntN) (r : RowN) (b : Nat) : ∃ v1 v2, addV R r b = #[.int .i64 v1, .bool v2] := by
  unfold addV
  split
  · exact ⟨_, _, rfl⟩
  · split <;> exact ⟨_, _, rfl⟩
/-- Both, beside each other. -/
structure Both (B : Nat) (W : World) (S Q : Nat → Prop) (tb wb : Nat) (R : List EntN) : Prop where
  tab : TabI B gz0 W S tb R
  ref : RefI W Q wb R
  dis : ∀ j, S j → ¬ Q j
/-- Behind an act. -/
def DoEnd (B : Nat) (w : World) (S Q : Nat → Prop) (tb wb : Nat) (R : List EntN) (e : Ending) (w' : World) : Prop :=
  e = .returned (.bool true) ∧ Turned (bothS S Q) w w' ∧ ∃ S' Q', Both B w' S' Q' tb wb R ∧ (∀ j, S' j → S j ∨ w.heap.size ≤ j) ∧ ∀ j, Q' j → Q j ∨ w.heap.size ≤ j
section
variable {B : Nat} {w : World} {S Q : Nat → Prop} {tb wb : Nat} {R : List EntN}
theorem Both.below {U : World} (h : Both B w S Q tb wb R) (k : Below w.heap.size w U) : Both B U S Q tb wb R := ⟨h.tab.below k, h.ref.below k, h.dis⟩
theorem doEnd_same {w' : World} (h : Both B w S Q tb wb R) (k : Below w.heap.size w w') : DoEnd B w S Q tb wb R (.returned (.bool true)) w' :=
  ⟨rfl, Turned.of_below k, S, Q, h.below k, fun j hj => .inl hj, fun j hj => .inl hj⟩
set_option maxRecDepth 100000 in
set_option maxHeartbeats 4000000 in
theorem do_any (h : Both B w S Q tb wb R) (hBw : B ≤ w.heap.size) (a : ActN) (ha : okA a) (hR : R.length ≤ 1000000) :
    Calls Try.prog 9 #[tabP tb, refP wb, .agg (actC a)] w (DoEnd B w S Q tb wb (actR R a)) := by
  obtain ⟨n0, hn0⟩ : ∃ n0, n0 = w.heap.size := ⟨_, rfl⟩
  have hc0 := heap_alloc_new w (.cells (actC a) 37)
  have hb0 := (Below.refl w.heap.size w).alloc (Nat.le_refl _) (.cells (actC a) 37)
  have hs0 : (w.alloc (.cells (actC a) 37)).heap.size = w.heap.size + 1 := World.size_alloc _ _
  obtain ⟨W0, hW0⟩ : ∃ W0, W0 = w.alloc (.cells (actC a) 37) := ⟨_, rfl⟩
  rw [← hW0] at hc0 hb0 hs0
  rw [← hn0] at hc0
  have h0 := h.below hb0
  have hSl := h.tab.lt
  have hQl := h.ref.lt
  have hN : ∀ (T : Nat → Prop) (U : World), Turned T W0 U → ¬ T n0 → U.cell? ⟨n0, 1, none⟩ = some (.int .u32 (a.row.1 : Int)) ∧ U.cell? ⟨n0, 2, none⟩ = some (.int .u32 (a.row.2.1 : Int)) ∧ U.cell? ⟨n0, 3, none⟩ = some (.int .u32 (a.row.2.2 : Int)) ∧ U.cell? ⟨n0, 4, none⟩ = some (.int .u8 (a.bits : Int)) ∧ U.cell? ⟨n0, 5, none⟩ = some (.int .i64 a.lo) ∧ U.cell? ⟨n0, 6, none⟩ = some (.int .i64 a.hi) := fun T U hU hT => by
    have hc := (hU.block n0 (by omega) hT).trans hc0
    exact ⟨cell_in hc rfl, cell_in hc rfl, cell_in hc rfl, cell_in hc rfl, cell_in hc rfl, cell_in hc rfl⟩
  have c0 : W0.cell? ⟨n0, 0, none⟩ = some (.int .i64 a.kind) := cell_in hc0 rfl
  obtain ⟨c1, c2, c3, c4, c5, c6⟩ := hN (fun _ => False) W0 Turned.refl id
  have HW0 := Lib.hid hW0
  have HN0 := Lib.hid hn0
  have HNn := Lib.hid hN
  obtain ⟨kind, row, bts, an, ato⟩ := a
  dsimp only at *
  obtain ⟨hok, hbt⟩ := ha
  dsimp only at hok hbt
  by_cases k1 : kind = 1
  · subst k1
    have hA : actR R ⟨1, row, bts, an, ato⟩ = addR R row bts := rfl
    rw [hA]
    obtain ⟨v1, v2, hv⟩ := addV_two R row bts
    have HAd : Hid (Calls Try.prog 14 #[tabP tb, .agg #[.int .u32 (row.1 : Int), .int .u32 (row.2.1 : Int), .int .u32 (row.2.2 : Int)], .int .u8 (bts : Int)] W0 fun e w1 => e = .returned (.tuple #[.int .i64 v1, .bool v2]) ∧ (w1.cell? ⟨n0, 1, none⟩ = some (.int .u32 (row.1 : Int)) ∧ w1.cell? ⟨n0, 2, none⟩ = some (.int .u32 (row.2.1 : Int)) ∧ w1.cell? ⟨n0, 3, none⟩ = some (.int .u32 (row.2.2 : Int)) ∧ w1.cell? ⟨n0, 4, none⟩ = some (.int .u8 (bts : Int))) ∧
        Calls Try.prog 20 #[refP wb, .agg #[.int .u32 (row.1 : Int), .int .u32 (row.2.1 : Int), .int .u32 (row.2.2 : Int)], .int .u8 (bts : Int)] w1 fun e w2 => e = .returned (.tuple #[.int .i64 v1, .bool v2]) ∧ DoEnd B w S Q tb wb (addR R row bts) (.returned (.bool true)) w2) := Lib.hid (by
      have hadd := h0.tab.add row hok bts hbt hR
      rw [hv] at hadd
      refine hadd.mono ?_
      rintro e w1 ⟨rfl, hT1, hI1⟩
      obtain ⟨d1, d2, d3, d4, _⟩ := hN S w1 hT1 (fun hj => by have := hSl n0 hj; omega)
      have hRf1 := h0.ref.beside hT1 (fun j hj hs => h.dis j hs hj)
      refine ⟨rfl, ⟨d1, d2, d3, d4⟩, (hRf1.add row hok bts hbt hR).mono ?_⟩
      rintro e w2 ⟨rfl, hT2, hI2⟩
      rw [hv]
      have hs1 := hT1.size
      have hs2 := hT2.size
      have hT12 : Turned (bothS S Q) w w2 := ((Turned.of_below hb0).trans (hT1.mono (fun j hj => .inl hj))).trans (hT2.mono (fun j hj => .inr hj))
      refine ⟨rfl, rfl, hT12, growS S W0 w1, growS Q w1 w2, ⟨hI1.beside hT2 (fun j hj hq => ?_), hI2, fun j hj hq => ?_⟩, fun j hj => ?_, fun j hj => ?_⟩
      · have := hQl j hq
        rcases hj with hj | hj
        · exact h.dis j hj hq
        · omega
      · rcases hj with hj | hj
        · have := hSl j hj
          rcases hq with hq | hq
          · exact h.dis j hj hq
          · omega
        · rcases hq with hq | hq
          · have := hQl j hq; omega
          · omega
      · rcases hj with hj | hj
        · exact .inl hj
        · exact .inr (by omega)
      · rcases hj with hj | hj
        · exact .inl hj
        · exact .inr (by omega))
    have ev : (v2 == v2) = true := by simp
    clear h h0 hc0 hb0 hs0 hW0 hn0 hSl hQl hN hA hv
    go_enter Try.func9, Try.ntmps9
    go_upto_region 1 with fail
    rw [← HW0.out, ← HN0.out]
    go_wp2_with (first
      | (go_at_call 14; refine HAd.out.mono ?_; rintro e w1 ⟨rfl, ⟨d1, d2, d3, d4⟩, HRa⟩; replace HRa := Lib.hid HRa)
      | (go_at_call 20; refine HRa.out.mono ?_; rintro e w2 ⟨rfl, hE⟩; replace hE := Lib.hid hE))
    go_ret
    exact hE.out
  -- CASES
  by_cases k2 : kind = 2
  · subst k2
    have hA : actR R ⟨2, row, bts, an, ato⟩ = modR R an (fun x => orB x bts) := rfl
    rw [hA]
    have hset := h0.tab.set an bts hbt
    by_cases hv : 0 ≤ an ∧ an < (R.length : Int)
    · obtain ⟨k, rfl⟩ : ∃ k : Nat, an = (k : Int) := ⟨an.toNat, by omega⟩
      obtain ⟨x, hx⟩ : ∃ x, R[k]? = some x := ⟨_, List.getElem?_eq_getElem (by omega)⟩
      have hx2 := (h.tab.okR x (List.mem_of_getElem? hx)).2
      obtain ⟨ho, hob⟩ := orB_of hx2 hbt
      rw [modR_in hx] at hset
      rw [modR_in hx]
      have HSe : Hid (Calls Try.prog 21 #[tabP tb, .int .i64 (k : Int), .int .u8 (bts : Int)] W0 fun e w1 => e = .returned (.tuple #[]) ∧ (w1.cell? ⟨n0, 4, none⟩ = some (.int .u8 (bts : Int)) ∧ w1.cell? ⟨n0, 5, none⟩ = some (.int .i64 (k : Int))) ∧
          Calls Try.prog 22 #[refP wb, .int .i64 (k : Int)] w1 (fun e w2 => e = .returned (.bool true) ∧ w1 = w2) ∧ ∃ g o bc, w1.cell? ⟨wb, 1, none⟩ = some (.slice (some ⟨g, o, none⟩) R.length bc) ∧ w1.cell? ⟨g, o + k, none⟩ = some (.int .u8 (x.2 : Int)) ∧ (∀ i, w1.frozen? ⟨g, i, none⟩ = false) ∧ wb ≠ g ∧ n0 ≠ g ∧
          DoEnd B w S Q tb wb (R.set k (x.1, orB x.2 bts)) (.returned (.bool true)) (w1.drew.setCell ⟨g, o + k, none⟩ (.int .u8 (orB x.2 bts : Int)))) := Lib.hid (by
        refine hset.mono ?_
        rintro e w1 ⟨rfl, hT1, hI1⟩
        obtain ⟨_, _, _, d4, d5, _⟩ := hN S w1 hT1 (fun hj => by have := hSl n0 hj; omega)
        have hRf1 := h0.ref.beside hT1 (fun j hj hs => h.dis j hs hj)
        have hin := hRf1.in_ (k : Int)
        rw [decide_eq_true hv] at hin
        obtain ⟨ra, rc, ba, bc, hm⟩ := hRf1
        obtain ⟨g, o, g2, o2, _, hba, hcs, _, hfz⟩ := hm.at_ (by omega)
        refine ⟨rfl, ⟨d4, d5⟩, hin, g2, o2, bc, by rw [← hba]; exact cell_in hm.blk rfl, (hcs k x hx).2.2.2, hfz, fun e => by obtain ⟨c, hc⟩ := hm.bits.type hba; exact types_ne hc hm.blk (by decide) e.symm, fun e => by have := hQl _ (hm.qB _ hba); simp only at this; omega, rfl, ?_, S, Q, ⟨?_, ?_, h.dis⟩, fun j hj => .inl hj, fun j hj => .inl hj⟩
        · exact (((Turned.of_below hb0).trans (hT1.mono (fun j hj => .inl hj))).drew).trans (Turned.set (a := ⟨g2, o2 + k, none⟩) (.inr (show Q g2 from hm.qB _ hba)) _)
        · exact (hI1.below (Below.refl _ _).drew).beside (Turned.set (S := Q) (a := ⟨g2, o2 + k, none⟩) (show Q g2 from hm.qB _ hba) _) (fun j hj => h.dis j hj)
        · exact ⟨ra, rc, ba, bc, (hm.below (Below.refl _ _).drew).setB hba hx _ hob⟩)
      have i0 : (0 : Int) ≤ (k : Int) := by omega
      have i1 : (k : Int) < (R.length : Int) := hv.2
      clear h h0 hc0 hb0 hs0 hW0 hn0 hSl hQl hN hA hset hx hx2 hob hv
      go_enter Try.func9, Try.ntmps9
      go_upto_region 1 with fail
      rw [← HW0.out, ← HN0.out]
      go_upto_region 9 with (first
        | (go_at_call 21; refine HSe.out.mono ?_; rintro e w1 ⟨rfl, ⟨d4, d5⟩, hin, g, o, bc, z1, z2, fz, n1, n2, hE⟩; replace hin := Lib.hid hin; replace hE := Lib.hid hE)
        | (go_at_call 22; refine hin.out.mono ?_; rintro e w2 ⟨rfl, rfl⟩))
      have hsd : w1.drew.cell? ⟨wb, 1, none⟩ = some (.slice (some ⟨g, o, none⟩) R.length bc) ∧ w1.drew.cell? ⟨n0, 4, none⟩ = some (.int .u8 (bts : Int)) ∧ w1.drew.cell? ⟨n0, 5, none⟩ = some (.int .i64 (k : Int)) := ⟨z1, d4, d5⟩
      have hsu : (w1.setCell ⟨g, o + k, none⟩ (.int .u8 (orB x.2 bts : Int))).drew.cell? ⟨wb, 1, none⟩ = some (.slice (some ⟨g, o, none⟩) R.length bc) ∧ (w1.setCell ⟨g, o + k, none⟩ (.int .u8 (orB x.2 bts : Int))).drew.cell? ⟨n0, 4, none⟩ = some (.int .u8 (bts : Int)) ∧ (w1.setCell ⟨g, o + k, none⟩ (.int .u8 (orB x.2 bts : Int))).drew.cell? ⟨n0, 5, none⟩ = some (.int .i64 (k : Int)) := ⟨(World.cell?_of_block (a := ⟨wb, 1, none⟩) (Below.heap_setCell _ _ _ _ n1)).trans z1, (World.cell?_of_block (a := ⟨n0, 4, none⟩) (Below.heap_setCell _ _ _ _ n2)).trans d4, (World.cell?_of_block (a := ⟨n0, 5, none⟩) (Below.heap_setCell _ _ _ _ n2)).trans d5⟩
      refine wp_region_held_drew (S := (fun W' : World => W'.cell? ⟨wb, 1, none⟩ = some (.slice (some ⟨g, o, none⟩) R.length bc) ∧ W'.cell? ⟨n0, 4, none⟩ = some (.int .u8 (bts : Int)) ∧ W'.cell? ⟨n0, 5, none⟩ = some (.int .i64 (k : Int)))) (by kernel_rfl) hsd (fun hHeld => ?_)
      refine wpAnyH_take (i := 0) (v := refP wb) rfl (by kernel_rfl) (by kernel_rfl) (by kernel_rfl) (fun _ _ _ h => h) (Or.inl ⟨by rfl, fun w hSw => by (try dsimp only at hSw); obtain ⟨hSw1, hSw2, hSw3⟩ := hSw; go_simp⟩) hHeld ?_
      simp only [Act.put, List.setIfInBounds_toArray, List.set_cons_zero, List.set_cons_succ]
      refine wpAnyH_take (i := 1) (v := .pointer (some ⟨wb, 0, none⟩)) rfl (by kernel_rfl) (by kernel_rfl) (by kernel_rfl) (fun _ _ _ h => h) (Or.inl ⟨by rfl, fun w hSw => by (try dsimp only at hSw); obtain ⟨hSw1, hSw2, hSw3⟩ := hSw; go_simp⟩) hHeld ?_
      simp only [Act.put, List.setIfInBounds_toArray, List.set_cons_zero, List.set_cons_succ]
      refine wpAnyH_take (i := 2) (v := .pointer (some ⟨wb, 1, none⟩)) rfl (by kernel_rfl) (by kernel_rfl) (by kernel_rfl) (fun _ _ _ h => h) (Or.inl ⟨by rfl, fun w hSw => by (try dsimp only at hSw); obtain ⟨hSw1, hSw2, hSw3⟩ := hSw; go_simp⟩) hHeld ?_
      simp only [Act.put, List.setIfInBounds_toArray, List.set_cons_zero, List.set_cons_succ]
      refine wpAnyH_take (i := 3) (v := .slice (some ⟨g, o, none⟩) R.length bc) rfl (by kernel_rfl) (by kernel_rfl) (by kernel_rfl) (fun _ _ _ h => h) (Or.inl ⟨by rfl, fun w hSw => by (try dsimp only at hSw); obtain ⟨hSw1, hSw2, hSw3⟩ := hSw; go_simp⟩) hHeld ?_
      simp only [Act.put, List.setIfInBounds_toArray, List.set_cons_zero, List.set_cons_succ]
      refine wpAnyH_take (i := 4) (v := .pointer (some ⟨n0, 5, none⟩)) rfl (by kernel_rfl) (by kernel_rfl) (by kernel_rfl) (fun _ _ _ h => h) (Or.inl ⟨by rfl, fun w hSw => by (try dsimp only at hSw); obtain ⟨hSw1, hSw2, hSw3⟩ := hSw; go_simp⟩) hHeld ?_
      simp only [Act.put, List.setIfInBounds_toArray, List.set_cons_zero, List.set_cons_succ]
      refine wpAnyH_take (i := 5) (v := .int .i64 (k : Int)) rfl (by kernel_rfl) (by kernel_rfl) (by kernel_rfl) (fun _ _ _ h => h) (Or.inl ⟨by rfl, fun w hSw => by (try dsimp only at hSw); obtain ⟨hSw1, hSw2, hSw3⟩ := hSw; go_simp⟩) hHeld ?_
      simp only [Act.put, List.setIfInBounds_toArray, List.set_cons_zero, List.set_cons_succ]
      refine wpAnyH_take (i := 6) (v := refP wb) rfl (by kernel_rfl) (by kernel_rfl) (by kernel_rfl) (fun _ _ _ h => h) (Or.inl ⟨by rfl, fun w hSw => by (try dsimp only at hSw); obtain ⟨hSw1, hSw2, hSw3⟩ := hSw; go_simp⟩) hHeld ?_
      simp only [Act.put, List.setIfInBounds_toArray, List.set_cons_zero, List.set_cons_succ]
      refine wpAnyH_take (i := 7) (v := .pointer (some ⟨wb, 0, none⟩)) rfl (by kernel_rfl) (by kernel_rfl) (by kernel_rfl) (fun _ _ _ h => h) (Or.inl ⟨by rfl, fun w hSw => by (try dsimp only at hSw); obtain ⟨hSw1, hSw2, hSw3⟩ := hSw; go_simp⟩) hHeld ?_
      simp only [Act.put, List.setIfInBounds_toArray, List.set_cons_zero, List.set_cons_succ]
      refine wpAnyH_take (i := 8) (v := .pointer (some ⟨wb, 1, none⟩)) rfl (by kernel_rfl) (by kernel_rfl) (by kernel_rfl) (fun _ _ _ h => h) (Or.inl ⟨by rfl, fun w hSw => by (try dsimp only at hSw); obtain ⟨hSw1, hSw2, hSw3⟩ := hSw; go_simp⟩) hHeld ?_
      simp only [Act.put, List.setIfInBounds_toArray, List.set_cons_zero, List.set_cons_succ]
      refine wpAnyH_take (i := 9) (v := .slice (some ⟨g, o, none⟩) R.length bc) rfl (by kernel_rfl) (by kernel_rfl) (by kernel_rfl) (fun _ _ _ h => h) (Or.inl ⟨by rfl, fun w hSw => by (try dsimp only at hSw); obtain ⟨hSw1, hSw2, hSw3⟩ := hSw; go_simp⟩) hHeld ?_
      simp only [Act.put, List.setIfInBounds_toArray, List.set_cons_zero, List.set_cons_succ]
      refine wpAnyH_take (i := 10) (v := .pointer (some ⟨n0, 5, none⟩)) rfl (by kernel_rfl) (by kernel_rfl) (by kernel_rfl) (fun _ _ _ h => h) (Or.inl ⟨by rfl, fun w hSw => by (try dsimp only at hSw); obtain ⟨hSw1, hSw2, hSw3⟩ := hSw; go_simp⟩) hHeld ?_
      simp only [Act.put, List.setIfInBounds_toArray, List.set_cons_zero, List.set_cons_succ]
      refine wpAnyH_take (i := 11) (v := .int .i64 (k : Int)) rfl (by kernel_rfl) (by kernel_rfl) (by kernel_rfl) (fun _ _ _ h => h) (Or.inl ⟨by rfl, fun w hSw => by (try dsimp only at hSw); obtain ⟨hSw1, hSw2, hSw3⟩ := hSw; go_simp⟩) hHeld ?_
      simp only [Act.put, List.setIfInBounds_toArray, List.set_cons_zero, List.set_cons_succ]
      refine wpAnyH_take (i := 12) (v := .pointer (some ⟨g, o + k, none⟩)) rfl (by kernel_rfl) (by kernel_rfl) (by kernel_rfl) (fun _ _ _ h => h) (Or.inl ⟨by rfl, fun w hSw => by (try dsimp only at hSw); obtain ⟨hSw1, hSw2, hSw3⟩ := hSw; go_simp⟩) hHeld ?_
      simp only [Act.put, List.setIfInBounds_toArray, List.set_cons_zero, List.set_cons_succ]
      refine wpAnyH_take (i := 14) (v := .pointer (some ⟨n0, 4, none⟩)) rfl (by kernel_rfl) (by kernel_rfl) (by kernel_rfl) (fun _ _ _ h => h) (Or.inl ⟨by rfl, fun w hSw => by (try dsimp only at hSw); obtain ⟨hSw1, hSw2, hSw3⟩ := hSw; go_simp⟩) hHeld ?_
      simp only [Act.put, List.setIfInBounds_toArray, List.set_cons_zero, List.set_cons_succ]
      refine wpAnyH_take (i := 15) (v := .int .u8 (bts : Int)) rfl (by kernel_rfl) (by kernel_rfl) (by kernel_rfl) (fun _ _ _ h => h) (Or.inl ⟨by rfl, fun w hSw => by (try dsimp only at hSw); obtain ⟨hSw1, hSw2, hSw3⟩ := hSw; go_simp⟩) hHeld ?_
      simp only [Act.put, List.setIfInBounds_toArray, List.set_cons_zero, List.set_cons_succ]
      refine wpAnyH_ready (rs := [13]) (by kernel_rfl) (by simp) ?_
      refine AllReadyH.cons rfl (fun K hK => ?_) AllReadyH.nil
      go_simp
      refine hK.out _ _ hsd (fun hHeld => ?_)
      clear hK K
      refine wpAnyH_take (i := 16) (v := .int .u8 (orB x.2 bts : Int)) rfl (by kernel_rfl) (by kernel_rfl) (by kernel_rfl) (fun _ _ _ h => h) (Or.inl ⟨by rfl, fun w hSw => by (try dsimp only at hSw); obtain ⟨hSw1, hSw2, hSw3⟩ := hSw; go_simp⟩) hHeld ?_
      simp only [Act.put, List.setIfInBounds_toArray, List.set_cons_zero, List.set_cons_succ]
      refine wpAnyH_take (i := 17) (v := .pointer (some ⟨g, o + k, none⟩)) rfl (by kernel_rfl) (by kernel_rfl) (by kernel_rfl) (fun _ _ _ h => h) (Or.inl ⟨by rfl, fun w hSw => by (try dsimp only at hSw); obtain ⟨hSw1, hSw2, hSw3⟩ := hSw; go_simp⟩) hHeld ?_
      simp only [Act.put, List.setIfInBounds_toArray, List.set_cons_zero, List.set_cons_succ]
      refine wpAnyH_ready (rs := [18]) (by kernel_rfl) (by simp) ?_
      refine AllReadyH.cons rfl (fun K hK => ?_) AllReadyH.nil
      go_simp
      refine hK.out _ _ hsu (fun hHeld => ?_)
      clear hK K
      refine wpAnyH_done (by kernel_rfl) ?_ _
      all_goals
        go_wp2
        go_ret
        exact hE.out
    · rw [modR_out hv] at hset
      rw [modR_out hv]
      have HSe : Hid (Calls Try.prog 21 #[tabP tb, .int .i64 an, .int .u8 (bts : Int)] W0 fun e w1 => e = .returned (.tuple #[]) ∧ (w1.cell? ⟨n0, 4, none⟩ = some (.int .u8 (bts : Int)) ∧ w1.cell? ⟨n0, 5, none⟩ = some (.int .i64 an)) ∧
          Calls Try.prog 22 #[refP wb, .int .i64 an] w1 (fun e w2 => e = .returned (.bool false) ∧ w1 = w2) ∧ DoEnd B w S Q tb wb R (.returned (.bool true)) w1) := Lib.hid (by
        refine hset.mono ?_
        rintro e w1 ⟨rfl, hT1, hI1⟩
        obtain ⟨_, _, _, d4, d5, _⟩ := hN S w1 hT1 (fun hj => by have := hSl n0 hj; omega)
        have hRf1 := h0.ref.beside hT1 (fun j hj hs => h.dis j hs hj)
        have hin := hRf1.in_ an
        rw [decide_eq_false hv] at hin
        exact ⟨rfl, ⟨d4, d5⟩, hin, rfl, (Turned.of_below hb0).trans (hT1.mono (fun j hj => .inl hj)), S, Q, ⟨hI1, hRf1, h.dis⟩, fun j hj => .inl hj, fun j hj => .inl hj⟩)
      clear h h0 hc0 hb0 hs0 hW0 hn0 hSl hQl hN hA hset hv
      go_enter Try.func9, Try.ntmps9
      go_upto_region 1 with fail
      rw [← HW0.out, ← HN0.out]
      go_wp2_with (first
        | (go_at_call 21; refine HSe.out.mono ?_; rintro e w1 ⟨rfl, ⟨d4, d5⟩, hin, hE⟩; replace hin := Lib.hid hin; replace hE := Lib.hid hE)
        | (go_at_call 22; refine hin.out.mono ?_; rintro e w2 ⟨rfl, rfl⟩))
      go_ret
      exact hE.out
  by_cases k3 : kind = 3
  · subst k3
    have hA : actR R ⟨3, row, bts, an, ato⟩ = modR R an (fun x => andNotB x bts) := rfl
    rw [hA]
    have hset := h0.tab.clear an bts hbt
    by_cases hv : 0 ≤ an ∧ an < (R.length : Int)
    · obtain ⟨k, rfl⟩ : ∃ k : Nat, an = (k : Int) := ⟨an.toNat, by omega⟩
      obtain ⟨x, hx⟩ : ∃ x, R[k]? = some x := ⟨_, List.getElem?_eq_getElem (by omega)⟩
      have hx2 := (h.tab.okR x (List.mem_of_getElem? hx)).2
      obtain ⟨ho, hob⟩ := andNotB_of hx2 hbt
      rw [modR_in hx] at hset
      rw [modR_in hx]
      have HSe : Hid (Calls Try.prog 18 #[tabP tb, .int .i64 (k : Int), .int .u8 (bts : Int)] W0 fun e w1 => e = .returned (.tuple #[]) ∧ (w1.cell? ⟨n0, 4, none⟩ = some (.int .u8 (bts : Int)) ∧ w1.cell? ⟨n0, 5, none⟩ = some (.int .i64 (k : Int))) ∧
          Calls Try.prog 22 #[refP wb, .int .i64 (k : Int)] w1 (fun e w2 => e = .returned (.bool true) ∧ w1 = w2) ∧ ∃ g o bc, w1.cell? ⟨wb, 1, none⟩ = some (.slice (some ⟨g, o, none⟩) R.length bc) ∧ w1.cell? ⟨g, o + k, none⟩ = some (.int .u8 (x.2 : Int)) ∧ (∀ i, w1.frozen? ⟨g, i, none⟩ = false) ∧ wb ≠ g ∧ n0 ≠ g ∧
          DoEnd B w S Q tb wb (R.set k (x.1, andNotB x.2 bts)) (.returned (.bool true)) (w1.drew.setCell ⟨g, o + k, none⟩ (.int .u8 (andNotB x.2 bts : Int)))) := Lib.hid (by
        refine hset.mono ?_
        rintro e w1 ⟨rfl, hT1, hI1⟩
        obtain ⟨_, _, _, d4, d5, _⟩ := hN S w1 hT1 (fun hj => by have := hSl n0 hj; omega)
        have hRf1 := h0.ref.beside hT1 (fun j hj hs => h.dis j hs hj)
        have hin := hRf1.in_ (k : Int)
        rw [decide_eq_true hv] at hin
        obtain ⟨ra, rc, ba, bc, hm⟩ := hRf1
        obtain ⟨g, o, g2, o2, _, hba, hcs, _, hfz⟩ := hm.at_ (by omega)
        refine ⟨rfl, ⟨d4, d5⟩, hin, g2, o2, bc, by rw [← hba]; exact cell_in hm.blk rfl, (hcs k x hx).2.2.2, hfz, fun e => by obtain ⟨c, hc⟩ := hm.bits.type hba; exact types_ne hc hm.blk (by decide) e.symm, fun e => by have := hQl _ (hm.qB _ hba); simp only at this; omega, rfl, ?_, S, Q, ⟨?_, ?_, h.dis⟩, fun j hj => .inl hj, fun j hj => .inl hj⟩
        · exact (((Turned.of_below hb0).trans (hT1.mono (fun j hj => .inl hj))).drew).trans (Turned.set (a := ⟨g2, o2 + k, none⟩) (.inr (show Q g2 from hm.qB _ hba)) _)
        · exact (hI1.below (Below.refl _ _).drew).beside (Turned.set (S := Q) (a := ⟨g2, o2 + k, none⟩) (show Q g2 from hm.qB _ hba) _) (fun j hj => h.dis j hj)
        · exact ⟨ra, rc, ba, bc, (hm.below (Below.refl _ _).drew).setB hba hx _ hob⟩)
      have i0 : (0 : Int) ≤ (k : Int) := by omega
      have i1 : (k : Int) < (R.length : Int) := hv.2
      clear h h0 hc0 hb0 hs0 hW0 hn0 hSl hQl hN hA hset hx hx2 hob hv
      go_enter Try.func9, Try.ntmps9
      go_upto_region 1 with fail
      rw [← HW0.out, ← HN0.out]
      go_upto_region 13 with (first
        | (go_at_call 18; refine HSe.out.mono ?_; rintro e w1 ⟨rfl, ⟨d4, d5⟩, hin, g, o, bc, z1, z2, fz, n1, n2, hE⟩; replace hin := Lib.hid hin; replace hE := Lib.hid hE)
        | (go_at_call 22; refine hin.out.mono ?_; rintro e w2 ⟨rfl, rfl⟩))
      have hsd : w1.drew.cell? ⟨wb, 1, none⟩ = some (.slice (some ⟨g, o, none⟩) R.length bc) ∧ w1.drew.cell? ⟨n0, 4, none⟩ = some (.int .u8 (bts : Int)) ∧ w1.drew.cell? ⟨n0, 5, none⟩ = some (.int .i64 (k : Int)) := ⟨z1, d4, d5⟩
      have hsu : (w1.setCell ⟨g, o + k, none⟩ (.int .u8 (andNotB x.2 bts : Int))).drew.cell? ⟨wb, 1, none⟩ = some (.slice (some ⟨g, o, none⟩) R.length bc) ∧ (w1.setCell ⟨g, o + k, none⟩ (.int .u8 (andNotB x.2 bts : Int))).drew.cell? ⟨n0, 4, none⟩ = some (.int .u8 (bts : Int)) ∧ (w1.setCell ⟨g, o + k, none⟩ (.int .u8 (andNotB x.2 bts : Int))).drew.cell? ⟨n0, 5, none⟩ = some (.int .i64 (k : Int)) := ⟨(World.cell?_of_block (a := ⟨wb, 1, none⟩) (Below.heap_setCell _ _ _ _ n1)).trans z1, (World.cell?_of_block (a := ⟨n0, 4, none⟩) (Below.heap_setCell _ _ _ _ n2)).trans d4, (World.cell?_of_block (a := ⟨n0, 5, none⟩) (Below.heap_setCell _ _ _ _ n2)).trans d5⟩
      refine wp_region_held_drew (S := (fun W' : World => W'.cell? ⟨wb, 1, none⟩ = some (.slice (some ⟨g, o, none⟩) R.length bc) ∧ W'.cell? ⟨n0, 4, none⟩ = some (.int .u8 (bts : Int)) ∧ W'.cell? ⟨n0, 5, none⟩ = some (.int .i64 (k : Int)))) (by kernel_rfl) hsd (fun hHeld => ?_)
      refine wpAnyH_take (i := 0) (v := refP wb) rfl (by kernel_rfl) (by kernel_rfl) (by kernel_rfl) (fun _ _ _ h => h) (Or.inl ⟨by rfl, fun w hSw => by (try dsimp only at hSw); obtain ⟨hSw1, hSw2, hSw3⟩ := hSw; go_simp⟩) hHeld ?_
      simp only [Act.put, List.setIfInBounds_toArray, List.set_cons_zero, List.set_cons_succ]
      refine wpAnyH_take (i := 1) (v := .pointer (some ⟨wb, 0, none⟩)) rfl (by kernel_rfl) (by kernel_rfl) (by kernel_rfl) (fun _ _ _ h => h) (Or.inl ⟨by rfl, fun w hSw => by (try dsimp only at hSw); obtain ⟨hSw1, hSw2, hSw3⟩ := hSw; go_simp⟩) hHeld ?_
      simp only [Act.put, List.setIfInBounds_toArray, List.set_cons_zero, List.set_cons_succ]
      refine wpAnyH_take (i := 2) (v := .pointer (some ⟨wb, 1, none⟩)) rfl (by kernel_rfl) (by kernel_rfl) (by kernel_rfl) (fun _ _ _ h => h) (Or.inl ⟨by rfl, fun w hSw => by (try dsimp only at hSw); obtain ⟨hSw1, hSw2, hSw3⟩ := hSw; go_simp⟩) hHeld ?_
      simp only [Act.put, List.setIfInBounds_toArray, List.set_cons_zero, List.set_cons_succ]
      refine wpAnyH_take (i := 3) (v := .slice (some ⟨g, o, none⟩) R.length bc) rfl (by kernel_rfl) (by kernel_rfl) (by kernel_rfl) (fun _ _ _ h => h) (Or.inl ⟨by rfl, fun w hSw => by (try dsimp only at hSw); obtain ⟨hSw1, hSw2, hSw3⟩ := hSw; go_simp⟩) hHeld ?_
      simp only [Act.put, List.setIfInBounds_toArray, List.set_cons_zero, List.set_cons_succ]
      refine wpAnyH_take (i := 4) (v := .pointer (some ⟨n0, 5, none⟩)) rfl (by kernel_rfl) (by kernel_rfl) (by kernel_rfl) (fun _ _ _ h => h) (Or.inl ⟨by rfl, fun w hSw => by (try dsimp only at hSw); obtain ⟨hSw1, hSw2, hSw3⟩ := hSw; go_simp⟩) hHeld ?_
      simp only [Act.put, List.setIfInBounds_toArray, List.set_cons_zero, List.set_cons_succ]
      refine wpAnyH_take (i := 5) (v := .int .i64 (k : Int)) rfl (by kernel_rfl) (by kernel_rfl) (by kernel_rfl) (fun _ _ _ h => h) (Or.inl ⟨by rfl, fun w hSw => by (try dsimp only at hSw); obtain ⟨hSw1, hSw2, hSw3⟩ := hSw; go_simp⟩) hHeld ?_
      simp only [Act.put, List.setIfInBounds_toArray, List.set_cons_zero, List.set_cons_succ]
      refine wpAnyH_take (i := 6) (v := refP wb) rfl (by kernel_rfl) (by kernel_rfl) (by kernel_rfl) (fun _ _ _ h => h) (Or.inl ⟨by rfl, fun w hSw => by (try dsimp only at hSw); obtain ⟨hSw1, hSw2, hSw3⟩ := hSw; go_simp⟩) hHeld ?_
      simp only [Act.put, List.setIfInBounds_toArray, List.set_cons_zero, List.set_cons_succ]
      refine wpAnyH_take (i := 7) (v := .pointer (some ⟨wb, 0, none⟩)) rfl (by kernel_rfl) (by kernel_rfl) (by kernel_rfl) (fun _ _ _ h => h) (Or.inl ⟨by rfl, fun w hSw => by (try dsimp only at hSw); obtain ⟨hSw1, hSw2, hSw3⟩ := hSw; go_simp⟩) hHeld ?_
      simp only [Act.put, List.setIfInBounds_toArray, List.set_cons_zero, List.set_cons_succ]
      refine wpAnyH_take (i := 8) (v := .pointer (some ⟨wb, 1, none⟩)) rfl (by kernel_rfl) (by kernel_rfl) (by kernel_rfl) (fun _ _ _ h => h) (Or.inl ⟨by rfl, fun w hSw => by (try dsimp only at hSw); obtain ⟨hSw1, hSw2, hSw3⟩ := hSw; go_simp⟩) hHeld ?_
      simp only [Act.put, List.setIfInBounds_toArray, List.set_cons_zero, List.set_cons_succ]
      refine wpAnyH_take (i := 9) (v := .slice (some ⟨g, o, none⟩) R.length bc) rfl (by kernel_rfl) (by kernel_rfl) (by kernel_rfl) (fun _ _ _ h => h) (Or.inl ⟨by rfl, fun w hSw => by (try dsimp only at hSw); obtain ⟨hSw1, hSw2, hSw3⟩ := hSw; go_simp⟩) hHeld ?_
      simp only [Act.put, List.setIfInBounds_toArray, List.set_cons_zero, List.set_cons_succ]
      refine wpAnyH_take (i := 10) (v := .pointer (some ⟨n0, 5, none⟩)) rfl (by kernel_rfl) (by kernel_rfl) (by kernel_rfl) (fun _ _ _ h => h) (Or.inl ⟨by rfl, fun w hSw => by (try dsimp only at hSw); obtain ⟨hSw1, hSw2, hSw3⟩ := hSw; go_simp⟩) hHeld ?_
      simp only [Act.put, List.setIfInBounds_toArray, List.set_cons_zero, List.set_cons_succ]
      refine wpAnyH_take (i := 11) (v := .int .i64 (k : Int)) rfl (by kernel_rfl) (by kernel_rfl) (by kernel_rfl) (fun _ _ _ h => h) (Or.inl ⟨by rfl, fun w hSw => by (try dsimp only at hSw); obtain ⟨hSw1, hSw2, hSw3⟩ := hSw; go_simp⟩) hHeld ?_
      simp only [Act.put, List.setIfInBounds_toArray, List.set_cons_zero, List.set_cons_succ]
      refine wpAnyH_take (i := 12) (v := .pointer (some ⟨g, o + k, none⟩)) rfl (by kernel_rfl) (by kernel_rfl) (by kernel_rfl) (fun _ _ _ h => h) (Or.inl ⟨by rfl, fun w hSw => by (try dsimp only at hSw); obtain ⟨hSw1, hSw2, hSw3⟩ := hSw; go_simp⟩) hHeld ?_
      simp only [Act.put, List.setIfInBounds_toArray, List.set_cons_zero, List.set_cons_succ]
      refine wpAnyH_take (i := 14) (v := .pointer (some ⟨n0, 4, none⟩)) rfl (by kernel_rfl) (by kernel_rfl) (by kernel_rfl) (fun _ _ _ h => h) (Or.inl ⟨by rfl, fun w hSw => by (try dsimp only at hSw); obtain ⟨hSw1, hSw2, hSw3⟩ := hSw; go_simp⟩) hHeld ?_
      simp only [Act.put, List.setIfInBounds_toArray, List.set_cons_zero, List.set_cons_succ]
      refine wpAnyH_take (i := 15) (v := .int .u8 (bts : Int)) rfl (by kernel_rfl) (by kernel_rfl) (by kernel_rfl) (fun _ _ _ h => h) (Or.inl ⟨by rfl, fun w hSw => by (try dsimp only at hSw); obtain ⟨hSw1, hSw2, hSw3⟩ := hSw; go_simp⟩) hHeld ?_
      simp only [Act.put, List.setIfInBounds_toArray, List.set_cons_zero, List.set_cons_succ]
      refine wpAnyH_ready (rs := [13]) (by kernel_rfl) (by simp) ?_
      refine AllReadyH.cons rfl (fun K hK => ?_) AllReadyH.nil
      go_simp
      refine hK.out _ _ hsd (fun hHeld => ?_)
      clear hK K
      refine wpAnyH_take (i := 16) (v := .int .u8 (andNotB x.2 bts : Int)) rfl (by kernel_rfl) (by kernel_rfl) (by kernel_rfl) (fun _ _ _ h => h) (Or.inl ⟨by rfl, fun w hSw => by (try dsimp only at hSw); obtain ⟨hSw1, hSw2, hSw3⟩ := hSw; go_simp⟩) hHeld ?_
      simp only [Act.put, List.setIfInBounds_toArray, List.set_cons_zero, List.set_cons_succ]
      refine wpAnyH_take (i := 17) (v := .pointer (some ⟨g, o + k, none⟩)) rfl (by kernel_rfl) (by kernel_rfl) (by kernel_rfl) (fun _ _ _ h => h) (Or.inl ⟨by rfl, fun w hSw => by (try dsimp only at hSw); obtain ⟨hSw1, hSw2, hSw3⟩ := hSw; go_simp⟩) hHeld ?_
      simp only [Act.put, List.setIfInBounds_toArray, List.set_cons_zero, List.set_cons_succ]
      refine wpAnyH_ready (rs := [18]) (by kernel_rfl) (by simp) ?_
      refine AllReadyH.cons rfl (fun K hK => ?_) AllReadyH.nil
      go_simp
      refine hK.out _ _ hsu (fun hHeld => ?_)
      clear hK K
      refine wpAnyH_done (by kernel_rfl) ?_ _
      all_goals
        go_wp2
        go_ret
        exact hE.out
    · rw [modR_out hv] at hset
      rw [modR_out hv]
      have HSe : Hid (Calls Try.prog 18 #[tabP tb, .int .i64 an, .int .u8 (bts : Int)] W0 fun e w1 => e = .returned (.tuple #[]) ∧ (w1.cell? ⟨n0, 4, none⟩ = some (.int .u8 (bts : Int)) ∧ w1.cell? ⟨n0, 5, none⟩ = some (.int .i64 an)) ∧
          Calls Try.prog 22 #[refP wb, .int .i64 an] w1 (fun e w2 => e = .returned (.bool false) ∧ w1 = w2) ∧ DoEnd B w S Q tb wb R (.returned (.bool true)) w1) := Lib.hid (by
        refine hset.mono ?_
        rintro e w1 ⟨rfl, hT1, hI1⟩
        obtain ⟨_, _, _, d4, d5, _⟩ := hN S w1 hT1 (fun hj => by have := hSl n0 hj; omega)
        have hRf1 := h0.ref.beside hT1 (fun j hj hs => h.dis j hs hj)
        have hin := hRf1.in_ an
        rw [decide_eq_false hv] at hin
        exact ⟨rfl, ⟨d4, d5⟩, hin, rfl, (Turned.of_below hb0).trans (hT1.mono (fun j hj => .inl hj)), S, Q, ⟨hI1, hRf1, h.dis⟩, fun j hj => .inl hj, fun j hj => .inl hj⟩)
      clear h h0 hc0 hb0 hs0 hW0 hn0 hSl hQl hN hA hset hv
      go_enter Try.func9, Try.ntmps9
      go_upto_region 1 with fail
      rw [← HW0.out, ← HN0.out]
      go_wp2_with (first
        | (go_at_call 18; refine HSe.out.mono ?_; rintro e w1 ⟨rfl, ⟨d4, d5⟩, hin, hE⟩; replace hin := Lib.hid hin; replace hE := Lib.hid hE)
        | (go_at_call 22; refine hin.out.mono ?_; rintro e w2 ⟨rfl, rfl⟩))
      go_ret
      exact hE.out
  by_cases k4 : kind = 4
  · subst k4
    have hA : actR R ⟨4, row, bts, an, ato⟩ = R := rfl
    rw [hA]
    have HMt : Hid (Calls Try.prog 13 #[tabP tb, refP wb, .agg #[.int .u32 (row.1 : Int), .int .u32 (row.2.1 : Int), .int .u32 (row.2.2 : Int)], .int .i64 an, .int .i64 ato, .int .u8 (bts : Int)] W0 fun e w1 => e = .returned (.bool true) ∧ DoEnd B w S Q tb wb R (.returned (.bool true)) w1) := Lib.hid (by
      refine (matches_any h0.tab h0.ref (by omega) row hok an ato bts hbt hR).mono ?_
      rintro e w1 ⟨rfl, hb1⟩
      exact ⟨rfl, doEnd_same h (hb0.trans (hb1.mono (by omega)))⟩)
    clear h h0 hc0 hb0 hs0 hW0 hn0 hSl hQl hN hA
    go_enter Try.func9, Try.ntmps9
    go_upto_region 1 with fail
    rw [← HW0.out, ← HN0.out]
    go_wp2_with (go_at_call 13; refine HMt.out.mono ?_; rintro e w1 ⟨rfl, hE⟩; replace hE := Lib.hid hE)
    go_ret
    exact hE.out
  have hE0 := doEnd_same h hb0
  have hA : actR R ⟨kind, row, bts, an, ato⟩ = R := by
    unfold actR
    rw [if_neg k1, if_neg k2, if_neg k3]
  rw [hA]
  by_cases k5 : kind = 5
  · subst k5
    have HF : Hid (Calls Try.prog 23 #[tabP tb, .agg #[.int .u32 (row.1 : Int), .int .u32 (row.2.1 : Int), .int .u32 (row.2.2 : Int)]] W0 fun e w1 => e = .returned (.tuple (findV (numF R row))) ∧ (w1.cell? ⟨n0, 1, none⟩ = some (.int .u32 (row.1 : Int)) ∧ w1.cell? ⟨n0, 2, none⟩ = some (.int .u32 (row.2.1 : Int)) ∧ w1.cell? ⟨n0, 3, none⟩ = some (.int .u32 (row.2.2 : Int))) ∧
        Calls Try.prog 24 #[refP wb, .agg #[.int .u32 (row.1 : Int), .int .u32 (row.2.1 : Int), .int .u32 (row.2.2 : Int)]] w1 fun e w2 => e = .returned (.int .i64 (findI' R row)) ∧ DoEnd B w S Q tb wb R (.returned (.bool true)) w2) := Lib.hid (by
      refine (h0.tab.find row hok).mono ?_
      rintro e w1 ⟨rfl, hb1⟩
      obtain ⟨d1, d2, d3, _⟩ := hN (fun _ => False) w1 (Turned.of_below hb1) id
      refine ⟨rfl, ⟨d1, d2, d3⟩, ((h0.ref.below hb1).find row (by omega)).mono ?_⟩
      rintro e w2 ⟨rfl, hb2⟩
      have hs1 := hb1.size
      exact ⟨rfl, doEnd_same h ((hb0.trans (hb1.mono (by omega))).trans (hb2.mono (by omega)))⟩)
    unfold findI' at HF
    clear h h0 hc0 hb0 hs0 hW0 hn0 hSl hQl hN hA hE0 k1 k2 k3 k4
    cases hn : numF R row with
    | none =>
      rw [hn] at HF
      replace HF : Hid (Calls Try.prog 23 #[tabP tb, .agg #[.int .u32 (row.1 : Int), .int .u32 (row.2.1 : Int), .int .u32 (row.2.2 : Int)]] W0 fun e w1 => e = .returned (.tuple #[.int .i64 (-1), .bool false]) ∧ (w1.cell? ⟨n0, 1, none⟩ = some (.int .u32 (row.1 : Int)) ∧ w1.cell? ⟨n0, 2, none⟩ = some (.int .u32 (row.2.1 : Int)) ∧ w1.cell? ⟨n0, 3, none⟩ = some (.int .u32 (row.2.2 : Int))) ∧
        Calls Try.prog 24 #[refP wb, .agg #[.int .u32 (row.1 : Int), .int .u32 (row.2.1 : Int), .int .u32 (row.2.2 : Int)]] w1 fun e w2 => e = .returned (.int .i64 (-1)) ∧ DoEnd B w S Q tb wb R (.returned (.bool true)) w2) := HF
      clear hn
      go_enter Try.func9, Try.ntmps9
      go_upto_region 1 with fail
      rw [← HW0.out, ← HN0.out]
      go_wp2_with (first
        | (go_at_call 23; refine HF.out.mono ?_; rintro e w1 ⟨rfl, ⟨d1, d2, d3⟩, hF2⟩; replace hF2 := Lib.hid hF2)
        | (go_at_call 24; refine hF2.out.mono ?_; rintro e w2 ⟨rfl, hE⟩; replace hE := Lib.hid hE))
      go_ret
      exact hE.out
    | some m =>
      rw [hn] at HF
      replace HF : Hid (Calls Try.prog 23 #[tabP tb, .agg #[.int .u32 (row.1 : Int), .int .u32 (row.2.1 : Int), .int .u32 (row.2.2 : Int)]] W0 fun e w1 => e = .returned (.tuple #[.int .i64 (m : Int), .bool true]) ∧ (w1.cell? ⟨n0, 1, none⟩ = some (.int .u32 (row.1 : Int)) ∧ w1.cell? ⟨n0, 2, none⟩ = some (.int .u32 (row.2.1 : Int)) ∧ w1.cell? ⟨n0, 3, none⟩ = some (.int .u32 (row.2.2 : Int))) ∧
        Calls Try.prog 24 #[refP wb, .agg #[.int .u32 (row.1 : Int), .int .u32 (row.2.1 : Int), .int .u32 (row.2.2 : Int)]] w1 fun e w2 => e = .returned (.int .i64 (m : Int)) ∧ DoEnd B w S Q tb wb R (.returned (.bool true)) w2) := HF
      clear hn
      have i0 : (0 : Int) ≤ (m : Int) := by omega
      go_enter Try.func9, Try.ntmps9
      go_upto_region 1 with fail
      rw [← HW0.out, ← HN0.out]
      go_wp2_with (first
        | (go_at_call 23; refine HF.out.mono ?_; rintro e w1 ⟨rfl, ⟨d1, d2, d3⟩, hF2⟩; replace hF2 := Lib.hid hF2)
        | (go_at_call 24; refine hF2.out.mono ?_; rintro e w2 ⟨rfl, hE⟩; replace hE := Lib.hid hE))
      go_ret
      exact hE.out
  · have e1 : (kind == 1) = false := by rw [beq_eq_false_iff_ne]; exact k1
    have e2 : (kind == 2) = false := by rw [beq_eq_false_iff_ne]; exact k2
    have e3 : (kind == 3) = false := by rw [beq_eq_false_iff_ne]; exact k3
    have e4 : (kind == 4) = false := by rw [beq_eq_false_iff_ne]; exact k4
    have e5 : (kind == 5) = false := by rw [beq_eq_false_iff_ne]; exact k5
    have HE := Lib.hid hE0
    clear h h0 hc0 hb0 hs0 hW0 hn0 hSl hQl hN hA hE0 k1 k2 k3 k4 k5
    go_enter Try.func9, Try.ntmps9
    go_upto_region 1 with fail
    rw [← HW0.out, ← HN0.out]
    go_wp2
    go_ret
    exact HE.out
end
end Go.Proofs.Ytnmimagcmmdolaa
