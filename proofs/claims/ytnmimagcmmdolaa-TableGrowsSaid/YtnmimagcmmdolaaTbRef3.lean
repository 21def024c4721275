/-
  CONTRACT OF the reference's Match.
-/
import Derived.Test.YtnmimagcmmdolaaTbRef2
import Derived.Test.YtnmimagcmmdolaaTbMatched
namespace Go.Proofs.Ytnmimagcmmdolaa
open Go.RowKit
set_option linter.unusedVariables false
set_option linter.unusedSimpArgs false

theorem cellB {u v : World} (k : Below u.heap.size u v) {a : Addr} {x : Value} (h : u.cell? a = some x) : v.cell? a = some x := (k.cell (World.block_lt_of_cell? _ _ h)).trans h
theorem belowStep {B : Nat} {w u v : World} (h : Below B w u) (hs : B ≤ u.heap.size) (k : Below u.heap.size u v) : Below B w v := h.trans (k.mono hs)
/-- Is it one of those that a look tells? -/
def mtB (R : List EntN) (q : RowN) (lo hi : Int) (b n : Nat) : Bool := (decide (lo ≤ (n : Int)) && decide ((n : Int) < hi)) && (match R[n]? with
  | some x => andB x.2 b != 0 && fitB q x.1
  | none => false)
def mtK (R : List EntN) (q : RowN) (lo hi : Int) (b k : Nat) : List Nat := (List.range k).filter (mtB R q lo hi b)
def matR (R : List EntN) (q : RowN) (lo hi : Int) (b : Nat) : List Nat := mtK R q lo hi b R.length
theorem mtK_succ (R : List EntN) (q : RowN) (lo hi : Int) (b k : Nat) : mtK R q lo hi b (k + 1) = if mtB R q lo hi b k = true then mtK R q lo hi b k ++ [k] else mtK R q lo hi b k := by
  unfold mtK
  rw [List.range_succ, List.filter_append]
  by_cases h : mtB R q lo hi b k = true
  · rw [if_pos h, List.filter_cons, if_pos h]
    rfl
  · rw [if_neg h, List.filter_cons, if_neg h]
    simp
theorem mtK_len (R : List EntN) (q : RowN) (lo hi : Int) (b k : Nat) : (mtK R q lo hi b k).length ≤ k := by
  unfold mtK
  have := List.length_filter_le (mtB R q lo hi b) (List.range k)
  rw [List.length_range] at this
  exact this
theorem rs_step {w u v : World} {n0 wb g g2 j0 j1 j2 j3 : Nat} {x0 x1 x2 p0 p1 a0 a1 a2 a3 : Value} (hs : w.heap.size ≤ u.heap.size)
    (h : u.cell? ⟨n0, 0, none⟩ = some x0 ∧ u.cell? ⟨n0, 1, none⟩ = some x1 ∧ u.cell? ⟨n0, 2, none⟩ = some x2 ∧ u.cell? ⟨wb, 0, none⟩ = some p0 ∧ u.cell? ⟨wb, 1, none⟩ = some p1 ∧ u.cell? ⟨g, j0, none⟩ = some a0 ∧ u.cell? ⟨g, j1, none⟩ = some a1 ∧ u.cell? ⟨g, j2, none⟩ = some a2 ∧ u.cell? ⟨g2, j3, none⟩ = some a3 ∧ Below w.heap.size w u) (k : Below u.heap.size u v) :
    v.cell? ⟨n0, 0, none⟩ = some x0 ∧ v.cell? ⟨n0, 1, none⟩ = some x1 ∧ v.cell? ⟨n0, 2, none⟩ = some x2 ∧ v.cell? ⟨wb, 0, none⟩ = some p0 ∧ v.cell? ⟨wb, 1, none⟩ = some p1 ∧ v.cell? ⟨g, j0, none⟩ = some a0 ∧ v.cell? ⟨g, j1, none⟩ = some a1 ∧ v.cell? ⟨g, j2, none⟩ = some a2 ∧ v.cell? ⟨g2, j3, none⟩ = some a3 ∧ Below w.heap.size w v :=
  ⟨cellB k h.1, cellB k h.2.1, cellB k h.2.2.1, cellB k h.2.2.2.1, cellB k h.2.2.2.2.1, cellB k h.2.2.2.2.2.1, cellB k h.2.2.2.2.2.2.1, cellB k h.2.2.2.2.2.2.2.1, cellB k h.2.2.2.2.2.2.2.2.1, belowStep h.2.2.2.2.2.2.2.2.2 hs k⟩
theorem rs_step' {w u v : World} {n0 wb g g2 j0 j1 j2 j3 : Nat} {x0 x1 x2 p0 p1 a0 a1 a2 a3 : Value}
    (h : u.cell? ⟨n0, 0, none⟩ = some x0 ∧ u.cell? ⟨n0, 1, none⟩ = some x1 ∧ u.cell? ⟨n0, 2, none⟩ = some x2 ∧ u.cell? ⟨wb, 0, none⟩ = some p0 ∧ u.cell? ⟨wb, 1, none⟩ = some p1 ∧ u.cell? ⟨g, j0, none⟩ = some a0 ∧ u.cell? ⟨g, j1, none⟩ = some a1 ∧ u.cell? ⟨g, j2, none⟩ = some a2 ∧ u.cell? ⟨g2, j3, none⟩ = some a3 ∧ Below w.heap.size w u) (k : Below u.heap.size u v) :
    v.cell? ⟨n0, 0, none⟩ = some x0 ∧ v.cell? ⟨n0, 1, none⟩ = some x1 ∧ v.cell? ⟨n0, 2, none⟩ = some x2 ∧ v.cell? ⟨wb, 0, none⟩ = some p0 ∧ v.cell? ⟨wb, 1, none⟩ = some p1 ∧ v.cell? ⟨g, j0, none⟩ = some a0 ∧ v.cell? ⟨g, j1, none⟩ = some a1 ∧ v.cell? ⟨g, j2, none⟩ = some a2 ∧ v.cell? ⟨g2, j3, none⟩ = some a3 ∧ Below w.heap.size w v :=
  rs_step h.2.2.2.2.2.2.2.2.2.size h k
theorem rs_below {w u : World} {n0 wb g g2 j0 j1 j2 j3 : Nat} {x0 x1 x2 p0 p1 a0 a1 a2 a3 : Value}
    (h : u.cell? ⟨n0, 0, none⟩ = some x0 ∧ u.cell? ⟨n0, 1, none⟩ = some x1 ∧ u.cell? ⟨n0, 2, none⟩ = some x2 ∧ u.cell? ⟨wb, 0, none⟩ = some p0 ∧ u.cell? ⟨wb, 1, none⟩ = some p1 ∧ u.cell? ⟨g, j0, none⟩ = some a0 ∧ u.cell? ⟨g, j1, none⟩ = some a1 ∧ u.cell? ⟨g, j2, none⟩ = some a2 ∧ u.cell? ⟨g2, j3, none⟩ = some a3 ∧ Below w.heap.size w u) : Below w.heap.size w u := h.2.2.2.2.2.2.2.2.2
theorem grown_below {B : Nat} {W w1 : World} {g : Nat} (h : W.grownBy w1 (some g)) (hB : B ≤ W.heap.size) (hg : B ≤ g) : Below B W w1 :=
  ⟨h.os, h.tape, h.output, h.size, fun k hk => h.block k (by omega) (fun e => by injection e with e; omega)⟩
section
variable {W U w : World} {Q : Nat → Prop} {wb : Nat} {R : List EntN} {ra ba : Option Addr} {rc bc : Nat}
/-- A slice of numbers that the call made. -/
def NumsW (B : Nat) (W : World) (v : Value) (l : List Nat) : Prop := ∃ ao cap, v = .slice ao l.length cap ∧ RowK W 3 1 ao l.length cap (intsC l) ∧ ∀ a, ao = some a → B ≤ a.block
theorem NumsW.below {B : Nat} {W U : World} {v : Value} {l : List Nat} (h : NumsW B W v l) (k : Below W.heap.size W U) : NumsW B U v l := by
  obtain ⟨ao, cap, e, hr, ha⟩ := h
  exact ⟨ao, cap, e, hr.below k, ha⟩
set_option maxRecDepth 100000 in
set_option maxHeartbeats 4000000 in
theorem RefI.match_ (h : RefI w Q wb R) (q : RowN) (lo hi : Int) (b : Nat) (hb : b < 256) (hR : R.length ≤ 1000000) : Calls Try.prog 11 #[refP wb, rowV q, .int .i64 lo, .int .i64 hi, .int .u8 (b : Int)] w fun e w' =>
    ∃ v, e = .returned v ∧ NumsW w.heap.size w' v (matR R q lo hi b) ∧ Below w.heap.size w w' := by
  obtain ⟨ra, rc, ba, bc, h⟩ := h
  obtain ⟨iN, zN, hiN, hzN, hsN, hbN, hcN⟩ := info_num
  obtain ⟨n0, hn0⟩ : ∃ n0, n0 = w.heap.size := ⟨_, rfl⟩
  have hc0 := heap_alloc_new w (.cells (rowC q) 34)
  have hb0 := (Below.refl w.heap.size w).alloc (Nat.le_refl _) (.cells (rowC q) 34)
  have hs0 : (w.alloc (.cells (rowC q) 34)).heap.size = w.heap.size + 1 := World.size_alloc _ _
  obtain ⟨W0, hW0⟩ : ∃ W0, W0 = w.alloc (.cells (rowC q) 34) := ⟨_, rfl⟩
  rw [← hW0] at hc0 hb0 hs0
  rw [← hn0] at hc0
  have h0 := h.below hb0
  have HC : Hid (∀ U, Below W0.heap.size W0 U → U.cell? ⟨n0, 0, none⟩ = some (.int .u32 (q.1 : Int)) ∧ U.cell? ⟨n0, 1, none⟩ = some (.int .u32 (q.2.1 : Int)) ∧ U.cell? ⟨n0, 2, none⟩ = some (.int .u32 (q.2.2 : Int)) ∧ U.cell? ⟨wb, 0, none⟩ = some (.slice ra R.length rc) ∧ U.cell? ⟨wb, 1, none⟩ = some (.slice ba R.length bc) ∧ Below w.heap.size w U) :=
    Lib.hid (fun U hU => ⟨(hU.cell (p := ⟨n0, 0, none⟩) (by show n0 < _; rw [hs0]; omega)).trans (cell_in hc0 rfl), (hU.cell (p := ⟨n0, 1, none⟩) (by show n0 < _; rw [hs0]; omega)).trans (cell_in hc0 rfl), (hU.cell (p := ⟨n0, 2, none⟩) (by show n0 < _; rw [hs0]; omega)).trans (cell_in hc0 rfl), cell_in (h0.below hU).blk rfl, cell_in (h0.below hU).blk rfl, hb0.trans (hU.mono (by rw [hs0]; omega))⟩)
  have HRow : Hid (∀ U, Below W0.heap.size W0 U → ∀ (k : Nat) (x : EntN), R[k]? = some x → ∃ g o g2 o2, ra = some ⟨g, o, none⟩ ∧ ba = some ⟨g2, o2, none⟩ ∧ U.cell? ⟨g, o + k * 3, none⟩ = some (.int .u32 (x.1.1 : Int)) ∧ U.cell? ⟨g, o + k * 3 + 1, none⟩ = some (.int .u32 (x.1.2.1 : Int)) ∧ U.cell? ⟨g, o + k * 3 + 2, none⟩ = some (.int .u32 (x.1.2.2 : Int)) ∧ U.cell? ⟨g2, o2 + k, none⟩ = some (.int .u8 (x.2 : Int))) :=
    Lib.hid (fun U hU k x hx => by
      obtain ⟨g, o, g2, o2, e1, e2, hc, _⟩ := (h0.below hU).at_ (by have := (List.getElem?_eq_some_iff.1 hx).1; omega)
      obtain ⟨a, b, c, d⟩ := hc k x hx
      exact ⟨g, o, g2, o2, e1, e2, a, b, c, d⟩)
  have HOk := Lib.hid h.ok
  have HW0 := Lib.hid hW0
  have HN0 := Lib.hid hn0
  have HS0 := Lib.hid hs0
  have HIN := Lib.hid hiN
  have HZN := Lib.hid hzN
  have HSN := Lib.hid hsN
  have HBN := Lib.hid hbN
  have HCN := Lib.hid hcN
  clear h h0 hc0 hb0 hs0 hW0 hn0 hiN hzN hsN hbN hcN
  go_enter Try.func11, Try.ntmps11
  go_upto_region 1 with fail
  rw [← HW0.out, ← HN0.out]
  go_wp2
  go_loopg [11, 12] R.length (fun g l i wr => ∃ k : Nat, k ≤ R.length ∧ R.length - k ≤ g ∧ i = .int .i64 (k : Int) ∧ Below W0.heap.size W0 wr ∧ NumsW W0.heap.size wr l (mtK R q lo hi b k))
  case atStart => exact ⟨0, Nat.zero_le _, by omega, rfl, Below.refl _ _, none, 0, rfl, ⟨rfl, .inl ⟨rfl, rfl, rfl⟩⟩, fun a ha => by cases ha⟩
  case round =>
    obtain ⟨k, hk, hg, rfl, hbr, hnu⟩ := hrel
    obtain ⟨y0, y1, y2, p0, p1, hbw⟩ := HC.out _ hbr
    by_cases hlt : k < R.length
    · obtain ⟨x, hx⟩ : ∃ x, R[k]? = some x := ⟨_, List.getElem?_eq_getElem hlt⟩
      obtain ⟨g1, o, g2, o2, hra, hba, a0, a1, a2, a3⟩ := HRow.out _ hbr k x hx
      rw [hra] at p0
      rw [hba] at p1
      have hx2 := (HOk.out x (List.mem_of_getElem? hx)).2
      obtain ⟨hand, _⟩ := andB_of hx2 hb
      have e1 : decide ((k : Int) < (R.length : Int)) = true := by simp; omega
      have i0 : (0 : Int) ≤ (k : Int) := by omega
      have i1 : (k : Int) < (R.length : Int) := by omega
      have HBr := Lib.hid hbr
      have HNu := Lib.hid hnu
      have hmt : mtB R q lo hi b k = ((decide (lo ≤ (k : Int)) && decide ((k : Int) < hi)) && (andB x.2 b != 0 && fitB q x.1)) := by unfold mtB; rw [hx]
      have HMt := Lib.hid hmt
      have HSu := Lib.hid (mtK_succ R q lo hi b k)
      have HLe := Lib.hid (mtK_len R q lo hi b k)
      have hdr : Below wr.heap.size wr wr.drew := (Below.refl _ _).drew
      have HSt := Lib.hid (rs_step (w := wr) (g := g1) (j0 := o + k * 3) (j1 := o + k * 3 + 1) (j2 := o + k * 3 + 2) (g2 := g2) (j3 := o2 + k) (Nat.le_refl _) ⟨y0, y1, y2, p0, p1, a0, a1, a2, a3, Below.refl _ _⟩ hdr)
      have HNo : Hid (mtB R q lo hi b k = false → ∀ nq, ∃ k' : Nat, k' ≤ R.length ∧ R.length - k' ≤ R.length - (k + 1) ∧ Value.int .i64 ((k : Int) + 1) = .int .i64 (k' : Int) ∧ Below W0.heap.size W0 (wr.drewN nq) ∧ True) := Lib.hid (fun _ nq => ⟨k + 1, by omega, Nat.le_refl _, by simp, below_drewN HBr.out nq, trivial⟩)
      clear hx hra hba hbr hnu hmt hx2 hdr HNo
      by_cases c1 : lo ≤ (k : Int)
      · have d1 : decide ((k : Int) ≥ lo) = true := by simpa using c1
        have d1' : decide (lo ≤ (k : Int)) = true := by simpa using c1
        by_cases c2 : (k : Int) < hi
        · have d2 : decide ((k : Int) < hi) = true := by simpa using c2
          by_cases c3 : andB x.2 b = 0
          · have d3 : (bits .and .u8 (x.2 : Int) (b : Int) != 0) = false := by rw [hand, c3]; rfl
            have d3' : bits .and .u8 (x.2 : Int) (b : Int) = 0 := by rw [hand, c3]; rfl
            have HF : Hid (mtB R q lo hi b k = false) := Lib.hid (by rw [HMt.out, c3]; simp)
            clear hand c1 c2 c3
            go_upto_region 5 with fail
            go_quiet (fail)
            go_wp2
            go_roundg (R.length - (k + 1))
            case measure => omega
            case rel => exact ⟨k + 1, by omega, Nat.le_refl _, by go_num, below_drewN HBr.out _, by rw [HSu.out, if_neg (by rw [HF.out]; decide)]; exact HNu.out.below (below_drewN (Below.refl _ _) _)⟩
          · have d3 : (bits .and .u8 (x.2 : Int) (b : Int) != 0) = true := by rw [hand, bne_iff_ne]; omega
            cases c4 : fitB q x.1 with
            | false =>
              have HF : Hid (mtB R q lo hi b k = false) := Lib.hid (by rw [HMt.out, c4]; simp)
              have HFit : Hid (∀ U, Calls Try.prog 15 #[.agg #[.int .u32 (q.1 : Int), .int .u32 (q.2.1 : Int), .int .u32 (q.2.2 : Int)], .agg #[.int .u32 (x.1.1 : Int), .int .u32 (x.1.2.1 : Int), .int .u32 (x.1.2.2 : Int)]] U fun e w' => e = .returned (.bool false) ∧ Below U.heap.size U w') := Lib.hid (fun U => by have := fits_any q x.1 U; rw [c4] at this; exact this)
              clear hand c1 c2 c3 c4
              go_upto_region 5 with fail
              go_region_held3 (fun W' => W'.cell? ⟨n0, 0, none⟩ = some (.int .u32 (q.1 : Int)) ∧ W'.cell? ⟨n0, 1, none⟩ = some (.int .u32 (q.2.1 : Int)) ∧ W'.cell? ⟨n0, 2, none⟩ = some (.int .u32 (q.2.2 : Int)) ∧ W'.cell? ⟨wb, 0, none⟩ = some (.slice (some ⟨g1, o, none⟩) R.length rc) ∧ W'.cell? ⟨wb, 1, none⟩ = some (.slice (some ⟨g2, o2, none⟩) R.length bc) ∧ W'.cell? ⟨g1, o + k * 3, none⟩ = some (.int .u32 (x.1.1 : Int)) ∧ W'.cell? ⟨g1, o + k * 3 + 1, none⟩ = some (.int .u32 (x.1.2.1 : Int)) ∧ W'.cell? ⟨g1, o + k * 3 + 2, none⟩ = some (.int .u32 (x.1.2.2 : Int)) ∧ W'.cell? ⟨g2, o2 + k, none⟩ = some (.int .u8 (x.2 : Int)) ∧ Below wr.heap.size wr W') ((first | assumption | exact HSt.out | exact rs_step' (by assumption) (by assumption))) (first | (go_at_call 15; refine (HFit.out _).mono ?_; rintro e y1 ⟨rfl, hY1⟩))
              rename_i hHeld
              rename World => wq
              have hbq := rs_below hHeld
              clear hHeld
              have HB2 : Hid (Below W0.heap.size W0 wq) := Lib.hid (belowStep HBr.out HBr.out.size hbq)
              have HN2 := Lib.hid (HNu.out.below hbq)
              clear hbq
              go_wp2
              go_roundg (R.length - (k + 1))
              case measure => omega
              case rel => exact ⟨k + 1, by omega, Nat.le_refl _, by go_num, HB2.out, by rw [HSu.out, if_neg (by rw [HF.out]; decide)]; exact HN2.out⟩
            | true =>
              have HT : Hid (mtB R q lo hi b k = true) := Lib.hid (by rw [HMt.out, c4, d1', d2]; simp [c3])
              have HFit : Hid (∀ U, Calls Try.prog 15 #[.agg #[.int .u32 (q.1 : Int), .int .u32 (q.2.1 : Int), .int .u32 (q.2.2 : Int)], .agg #[.int .u32 (x.1.1 : Int), .int .u32 (x.1.2.1 : Int), .int .u32 (x.1.2.2 : Int)]] U fun e w' => e = .returned (.bool true) ∧ Below U.heap.size U w') := Lib.hid (fun U => by have := fits_any q x.1 U; rw [c4] at this; exact this)
              clear hand c1 c2 c3 c4
              go_upto_region 5 with fail
              go_region_held3 (fun W' => W'.cell? ⟨n0, 0, none⟩ = some (.int .u32 (q.1 : Int)) ∧ W'.cell? ⟨n0, 1, none⟩ = some (.int .u32 (q.2.1 : Int)) ∧ W'.cell? ⟨n0, 2, none⟩ = some (.int .u32 (q.2.2 : Int)) ∧ W'.cell? ⟨wb, 0, none⟩ = some (.slice (some ⟨g1, o, none⟩) R.length rc) ∧ W'.cell? ⟨wb, 1, none⟩ = some (.slice (some ⟨g2, o2, none⟩) R.length bc) ∧ W'.cell? ⟨g1, o + k * 3, none⟩ = some (.int .u32 (x.1.1 : Int)) ∧ W'.cell? ⟨g1, o + k * 3 + 1, none⟩ = some (.int .u32 (x.1.2.1 : Int)) ∧ W'.cell? ⟨g1, o + k * 3 + 2, none⟩ = some (.int .u32 (x.1.2.2 : Int)) ∧ W'.cell? ⟨g2, o2 + k, none⟩ = some (.int .u8 (x.2 : Int)) ∧ Below wr.heap.size wr W') ((first | assumption | exact HSt.out | exact rs_step' (by assumption) (by assumption))) (first | (go_at_call 15; refine (HFit.out _).mono ?_; rintro e y1 ⟨rfl, hY1⟩))
              rename_i hHeld
              rename World => wq
              have hbq := rs_below hHeld
              clear hHeld
              have HB2 : Hid (Below W0.heap.size W0 wq) := Lib.hid (belowStep HBr.out HBr.out.size hbq)
              obtain ⟨ao, cap, rfl, hR2, hA2⟩ := HNu.out.below hbq
              clear hbq
              have hba := (Below.refl wq.heap.size wq).alloc (Nat.le_refl _) (.cells #[.int .i64 (k : Int)] 3)
              have hsa : (wq.alloc (.cells #[.int .i64 (k : Int)] 3)).heap.size = wq.heap.size + 1 := World.size_alloc _ _
              have HVl := Lib.hid (hR2.below hba)
              have HNw : Hid (∀ j u, ([.int .i64 (k : Int)] : List Value)[j]? = some u → (wq.alloc (.cells #[.int .i64 (k : Int)] 3)).cell? ((⟨wq.heap.size, 0, none⟩ : Addr).add j) = some u) := Lib.hid (fun j u hu => by
                rw [Addr.add_mid, Nat.zero_add]
                exact cell_in (heap_alloc_new wq _) (by simpa using hu))
              have HEnd : Hid (∀ (g o' cap' : Nat) (w9 : World), RowK w9 3 1 (some ⟨g, o', none⟩) ((mtK R q lo hi b k).length + 1) cap' (intsC (mtK R q lo hi b k) ++ [.int .i64 (k : Int)]) → (wq.alloc (.cells #[.int .i64 (k : Int)] 3)).grownBy w9 (some g) → ((ao = some ⟨g, o', none⟩ ∧ (mtK R q lo hi b k).length < cap) ∨ (wq.alloc (.cells #[.int .i64 (k : Int)] 3)).heap.size ≤ g) →
                  Below W0.heap.size W0 w9 ∧ NumsW W0.heap.size w9 (.slice (some ⟨g, o', none⟩) ((mtK R q lo hi b k).length + 1) cap') (mtK R q lo hi b (k + 1))) := Lib.hid (fun g o' cap' w9 h1 h2 h3 => by
                have hgB : W0.heap.size ≤ g := by
                  rcases h3 with ⟨h4, _⟩ | h4
                  · exact hA2 _ h4
                  · have := HB2.out.size
                    omega
                have hl : (mtK R q lo hi b (k + 1)).length = (mtK R q lo hi b k).length + 1 := by rw [HSu.out, if_pos HT.out, List.length_append]; rfl
                refine ⟨(HB2.out.trans (hba.mono HB2.out.size)).trans (grown_below h2 (by have := HB2.out.size; omega) hgB), some ⟨g, o', none⟩, cap', by rw [hl], ?_, fun a ha => by injection ha with ha; subst ha; exact hgB⟩
                rw [hl]
                have e : intsC (mtK R q lo hi b (k + 1)) = intsC (mtK R q lo hi b k) ++ [.int .i64 (k : Int)] := by rw [HSu.out, if_pos HT.out]; unfold intsC; simp
                rw [e]
                exact h1)
              have hle := HLe.out
              clear hR2 hA2 hba hsa
              generalize mtK R q lo hi b k = l0 at *
              go_wp2_with (refine wpList_append_rowk (by rfl) (.tmp 53) (.tmp 55) 41 rfl 3 iN zN 1 8 Try.underlying41 HIN.out HZN.out HSN.out HBN.out HCN.out (by decide) ao l0.length cap (intsC l0) rfl HVl.out ⟨wq.heap.size, 0, none⟩ 1 [.int .i64 (k : Int)] rfl rfl HNw.out (by simp [Value.oneCell']) (by unfold maxLen; omega) (by omega) ?_; intro g9 o9 cap9 w9 hR9 hG9 hor9; have HE9 := Lib.hid (HEnd.out _ _ _ _ hR9 hG9 hor9); clear hR9 hG9 hor9)
              go_roundg (R.length - (k + 1))
              case measure => omega
              case rel => exact ⟨k + 1, by omega, Nat.le_refl _, by go_num, HE9.out.1, HE9.out.2⟩
        · have d2 : decide ((k : Int) < hi) = false := by simpa using c2
          have HF : Hid (mtB R q lo hi b k = false) := Lib.hid (by rw [HMt.out, d2]; simp)
          clear hand c1 c2
          go_upto_region 5 with fail
          go_quiet (fail)
          go_wp2
          go_roundg (R.length - (k + 1))
          case measure => omega
          case rel => exact ⟨k + 1, by omega, Nat.le_refl _, by go_num, below_drewN HBr.out _, by rw [HSu.out, if_neg (by rw [HF.out]; decide)]; exact HNu.out.below (below_drewN (Below.refl _ _) _)⟩
      · have d1 : decide ((k : Int) ≥ lo) = false := by simpa using c1
        have d1' : decide (lo ≤ (k : Int)) = false := by simpa using c1
        have HF : Hid (mtB R q lo hi b k = false) := Lib.hid (by rw [HMt.out, d1']; simp)
        clear hand c1
        go_upto_region 5 with fail
        go_quiet (fail)
        go_wp2
        go_roundg (R.length - (k + 1))
        case measure => omega
        case rel => exact ⟨k + 1, by omega, Nat.le_refl _, by go_num, below_drewN HBr.out _, by rw [HSu.out, if_neg (by rw [HF.out]; decide)]; exact HNu.out.below (below_drewN (Below.refl _ _) _)⟩
    · have e1 : decide ((k : Int) < (R.length : Int)) = false := by simp; omega
      obtain rfl : k = R.length := by omega
      have HNu := Lib.hid hnu
      have HBw := Lib.hid hbw
      have HS1 := Lib.hid hbr.size
      clear hnu hbw hbr
      go_wp2
      go_ret
      obtain ⟨ao, cap, e, hr, ha⟩ := HNu.out
      exact ⟨_, rfl, ⟨ao, cap, e, hr, fun a h => by have := ha a h; have := HS0.out; omega⟩, HBw.out⟩
end
end Go.Proofs.Ytnmimagcmmdolaa
