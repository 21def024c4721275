/-
  CONTRACT OF the reference's Add: the walk.
-/
import Derived.Test.YtnmimagcmmdolaaTbRef3
import Derived.Test.YtnmimagcmmdolaaTbRef5
import Derived.Deep.RegionLaw
import Derived.Deep.RegionWith
namespace Go.Proofs.Ytnmimagcmmdolaa
open Go.RowKit
set_option linter.unusedVariables false
set_option linter.unusedSimpArgs false

theorem newsB {u0 w1 : World} (cs : List Value) (t : TypeId) (h : Below (u0.alloc (.cells cs.toArray t)).drew.heap.size (u0.alloc (.cells cs.toArray t)).drew w1) : ∀ j v, cs[j]? = some v → w1.cell? ((⟨u0.heap.size, 0, none⟩ : Addr).add j) = some v := fun j v hv => by
  have h1 := news_new u0 cs t j v hv
  rw [Addr.add_mid] at h1 ⊢
  exact (h.cell (p := ⟨u0.heap.size, 0 + j, none⟩) (by show u0.heap.size < (u0.alloc _).heap.size; rw [World.size_alloc]; omega)).trans h1
section
variable {W U w : World} {Q : Nat → Prop} {wb : Nat} {R : List EntN} {ra ba : Option Addr} {rc bc : Nat}
/-- Behind the last store. -/
def AddEnd (w : World) (Q : Nat → Prop) (wb : Nat) (R : List EntN) (r : RowN) (b : Nat) (e : Ending) (w' : World) : Prop :=
  e = .returned (.tuple (addV R r b)) ∧ Turned Q w w' ∧ RefI w' (growS Q w w') wb (addR R r b)
/-- Behind the rows' copy. -/
def CutX (u : World) (wb : Nat) (R : List EntN) (r : RowN) (s : Value) (wx : World) : Prop :=
  ∃ g o cap U1, Below u.heap.size u U1 ∧ RowK U1 34 3 (some ⟨g, o, none⟩) (R.length + 1) cap (flatR R ++ rowL r) ∧ u.heap.size ≤ g ∧ wx = U1.setCell ⟨wb, 0, none⟩ (.slice (some ⟨g, o, none⟩) (R.length + 1) cap)
/-- Behind the bits' copy. -/
def CutY (w : World) (Q : Nat → Prop) (wb : Nat) (R : List EntN) (r : RowN) (s : Value) (wx : World) : Prop :=
  ∃ ra rc ba bc, RefM wx (growS Q w wx) wb (R ++ [(r, 0)]) ra rc ba bc ∧ Turned Q w wx
set_option maxRecDepth 100000 in
set_option maxHeartbeats 4000000 in
theorem RefI.add (h : RefI w Q wb R) (r : RowN) (hr : okN r) (b : Nat) (hb : b < 256) (hR : R.length ≤ 1000000) : Calls Try.prog 20 #[refP wb, rowV r, .int .u8 (b : Int)] w (AddEnd w Q wb R r b) := by
  obtain ⟨n0, hn0⟩ : ∃ n0, n0 = w.heap.size := ⟨_, rfl⟩
  have hc0 := heap_alloc_new w (.cells (rowC r) 34)
  have hb0 := (Below.refl w.heap.size w).alloc (Nat.le_refl _) (.cells (rowC r) 34)
  have hs0 : (w.alloc (.cells (rowC r) 34)).heap.size = w.heap.size + 1 := World.size_alloc _ _
  obtain ⟨W0, hW0⟩ : ∃ W0, W0 = w.alloc (.cells (rowC r) 34) := ⟨_, rfl⟩
  rw [← hW0] at hc0 hb0 hs0
  rw [← hn0] at hc0
  have h0 := h.below hb0
  have hlt := h.lt
  have c0 : W0.cell? ⟨n0, 0, none⟩ = some (.int .u32 (r.1 : Int)) := cell_in hc0 rfl
  have c1 : W0.cell? ⟨n0, 1, none⟩ = some (.int .u32 (r.2.1 : Int)) := cell_in hc0 rfl
  have c2 : W0.cell? ⟨n0, 2, none⟩ = some (.int .u32 (r.2.2 : Int)) := cell_in hc0 rfl
  have HW0 := Lib.hid hW0
  have HN0 := Lib.hid hn0
  have HB := Lib.hid hb0
  have HSame : Hid (Turned Q w W0 ∧ RefI W0 (growS Q w W0) wb R) := Lib.hid ⟨Turned.of_below hb0, h0.wide (fun j hj => .inl hj) (growS_lt hlt hb0.size)⟩
  -- what is refused
  by_cases hb0' : b = 0
  · have e1 : ((b : Int) == 0) = true := by simp [hb0']
    have hA : addR R r b = R := if_pos (.inl hb0')
    have hV : addV R r b = #[.int .i64 (-1), .bool false] := if_pos (.inl hb0')
    have HEnd : Hid (AddEnd w Q wb R r b (.returned (.tuple #[.int .i64 (-1), .bool false])) W0) := Lib.hid ⟨by rw [hV], HSame.out.1, by rw [hA]; exact HSame.out.2⟩
    clear h h0 hc0 hb0 hW0 hn0 hs0 hlt hb0' hA hV
    go_enter Try.func20, Try.ntmps20
    go_upto_region 1 with fail
    rw [← HW0.out, ← HN0.out]
    go_wp2
    go_ret2
    exact HEnd.out
  have e1 : ((b : Int) == 0) = false := by rw [beq_eq_false_iff_ne]; omega
  by_cases hok : okLook r
  · obtain ⟨k1, k2, k3⟩ := hok
    have f1 : ((r.1 : Int) == 0) = false := by rw [beq_eq_false_iff_ne]; omega
    have f2 : ((r.2.1 : Int) == 0) = false := by rw [beq_eq_false_iff_ne]; omega
    have f3 : ((r.2.2 : Int) == 0) = false := by rw [beq_eq_false_iff_ne]; omega
    have hFi := h0.find r (by omega)
    cases hnum : numF R r with
    | some n =>
      obtain ⟨u, hbn⟩ := numF_some hnum
      have hgd : R.getD n (r, 0) = (r, u) := by rw [List.getD_eq_getElem?_getD, hbn]; rfl
      have hA : addR R r b = R.set n (r, orB u b) := by
        unfold addR
        rw [if_neg (by simp [hb0', okLook, k1, k2, k3]), hnum]
        dsimp only
        rw [hgd]
      have hV : addV R r b = #[.int .i64 (n : Int), .bool (decide (u = 0))] := by
        unfold addV
        rw [if_neg (by simp [hb0', okLook, k1, k2, k3]), hnum]
        dsimp only
        rw [hgd]
      obtain ⟨ra, rc, ba, bc, hm⟩ := h0
      have hnl := (List.getElem?_eq_some_iff.1 hbn).1
      have hu := (hm.ok _ (List.mem_of_getElem? hbn)).2
      obtain ⟨ho, hob⟩ := orB_of hu hb
      obtain ⟨g, o, g2, o2, hra, hba, hcs, _, hfz⟩ := hm.at_ (by omega)
      have HL : Hid (∀ U, Below W0.heap.size W0 U → U.cell? ⟨wb, 1, none⟩ = some (.slice (some ⟨g2, o2, none⟩) R.length bc) ∧ U.cell? ⟨g2, o2 + n, none⟩ = some (.int .u8 (u : Int)) ∧ (∀ i, U.frozen? ⟨g2, i, none⟩ = false) ∧
          AddEnd w Q wb R r b (.returned (.tuple #[.int .i64 (n : Int), .bool (decide (u = 0))])) (U.drew.setCell ⟨g2, o2 + n, none⟩ (.int .u8 (orB u b : Int)))) := Lib.hid (fun U hU => by
        have hU1 := hm.below hU
        obtain ⟨g', o', g2', o2', _, hba', hcs', _, hfz'⟩ := hU1.at_ (by omega)
        rw [hba] at hba'
        injection hba' with hba'
        injection hba' with e1 e2
        subst e1 e2
        refine ⟨by rw [← hba]; exact cell_in hU1.blk rfl, (hcs' n _ hbn).2.2.2, hfz', by rw [hV], ?_, ?_⟩
        · have t1 : Turned Q w U := Turned.of_below (hb0.trans (hU.mono (by rw [hs0]; omega)))
          exact t1.drew.trans (Turned.set (a := ⟨g2, o2 + n, none⟩) (show Q g2 from hm.qB _ hba) _)
        · rw [hA]
          have hset := (hU1.below (Below.refl _ _).drew).setB hba hbn (orB u b) hob
          have hRI : RefI _ Q wb _ := ⟨ra, rc, ba, bc, hset⟩
          exact hRI.wide (fun j hj => .inl hj) (growS_lt hlt (by have := hU.size; simp [World.setCell]; omega)))
      have HFi : Hid (Calls Try.prog 24 #[refP wb, rowV r] W0 fun e w' => e = .returned (.int .i64 (n : Int)) ∧ Below W0.heap.size W0 w') := Lib.hid (by
        unfold findI' at hFi
        rw [hnum] at hFi
        exact hFi)
      have i0 : (0 : Int) ≤ (n : Int) := by omega
      have i1 : (n : Int) < (R.length : Int) := by omega
      have hbz : ((u : Int) == 0) = decide (u = 0) := by rw [Bool.eq_iff_iff]; simp
      clear h hm hc0 hb0 hW0 hn0 hs0 hlt hb0' hA hV hnum hbn hgd k1 k2 k3 hnl hob hu hra hba hcs hfz hFi
      go_enter Try.func20, Try.ntmps20
      go_upto_region 1 with fail
      rw [← HW0.out, ← HN0.out]
      go_upto_region 9 with (go_at_call 24; refine HFi.out.mono ?_; rintro e w' ⟨rfl, hbk⟩; obtain ⟨p1, a3, fz, hE⟩ := HL.out _ hbk; replace hE := Lib.hid hE; clear hbk)
      go_region_with (fail)
      all_goals
        go_wp2
        go_ret2
        exact hE.out
    | none =>
      have hA : addR R r b = R ++ [(r, orB 0 b)] := by
        unfold addR
        rw [if_neg (by simp [hb0', okLook, k1, k2, k3]), hnum]
      have hV : addV R r b = #[.int .i64 (R.length : Int), .bool true] := by
        unfold addV
        rw [if_neg (by simp [hb0', okLook, k1, k2, k3]), hnum]
      obtain ⟨ra, rc, ba, bc, hm⟩ := h
      obtain ⟨iR, zR, hiR, hzR, hsR, hbR, hcR⟩ := info_rowS
      obtain ⟨iB, zB, hiB, hzB, hsB, hbB, hcB⟩ := info_bitS
      obtain ⟨ho, hob⟩ := orB_of (show 0 < 256 by omega) hb
      have HFi : Hid (Calls Try.prog 24 #[refP wb, rowV r] W0 fun e w' => e = .returned (.int .i64 (-1)) ∧ Below W0.heap.size W0 w') := Lib.hid (by
        unfold findI' at hFi
        rw [hnum] at hFi
        exact hFi)
      have HM := Lib.hid hm
      have HBw : Hid (∀ U, Below W0.heap.size W0 U → Below w.heap.size w U ∧ U.cell? ⟨wb, 0, none⟩ = some (.slice ra R.length rc) ∧ U.cell? ⟨n0, 0, none⟩ = some (.int .u32 (r.1 : Int)) ∧ U.cell? ⟨n0, 1, none⟩ = some (.int .u32 (r.2.1 : Int)) ∧ U.cell? ⟨n0, 2, none⟩ = some (.int .u32 (r.2.2 : Int))) := Lib.hid (fun U hU => by
        have hB := hb0.trans (hU.mono (by rw [hs0]; omega))
        exact ⟨hB, cell_in (hm.below hB).blk rfl, (hU.cell (p := ⟨n0, 0, none⟩) (by show n0 < _; rw [hs0]; omega)).trans c0, (hU.cell (p := ⟨n0, 1, none⟩) (by show n0 < _; rw [hs0]; omega)).trans c1, (hU.cell (p := ⟨n0, 2, none⟩) (by show n0 < _; rw [hs0]; omega)).trans c2⟩)
      have HNr : Hid (R.length = 0 → ra = none) := Lib.hid (fun h0 => (hm.nr h0).1)
      have HNb : Hid (R.length = 0 → ba = none) := Lib.hid (fun h0 => (hm.nr h0).2)
      have HIR := Lib.hid hiR
      have HZR := Lib.hid hzR
      have HSR := Lib.hid hsR
      have HBR := Lib.hid hbR
      have HCR := Lib.hid hcR
      have HIB := Lib.hid hiB
      have HZB := Lib.hid hzB
      have HSB := Lib.hid hsB
      have HBB := Lib.hid hbB
      have HCB := Lib.hid hcB
      have HAV : Hid (addV R r b = #[.int .i64 (R.length : Int), .bool true] ∧ addR R r b = R ++ [(r, orB 0 b)]) := Lib.hid ⟨hV, hA⟩
      have HLt := Lib.hid hlt
      have HOb := Lib.hid hob
      have HWs := Lib.hid hs0
      clear hm h0 hc0 hb0 hW0 hn0 hs0 hlt hb0' hA hV hnum k1 k2 k3 hob hFi hiR hzR hsR hbR hcR hiB hzB hsB hbB hcB
      go_enter Try.func20, Try.ntmps20
      go_upto_region 1 with fail
      rw [← HW0.out, ← HN0.out]
      go_upto_region 5 with (go_at_call 24; refine HFi.out.mono ?_; rintro e w5 ⟨rfl, hbk⟩; obtain ⟨hB5, p0, y0, y1, y2⟩ := HBw.out _ hbk; clear hbk)
      have hM5 := HM.out.below hB5
      have HB5 := Lib.hid hB5
      have HRd := Lib.hid (hM5.rows.below (Below.refl _ _).drew)
      have HRa := Lib.hid (hM5.rows.below ((Below.refl _ _).alloc (Nat.le_refl _) (.cells #[.int .u32 (r.1 : Int), .int .u32 (r.2.1 : Int), .int .u32 (r.2.2 : Int)] 34)).drew)
      have p0a : (w5.alloc (.cells #[.int .u32 (r.1 : Int), .int .u32 (r.2.1 : Int), .int .u32 (r.2.2 : Int)] 34)).cell? ⟨wb, 0, none⟩ = some (.slice ra R.length rc) := cellB ((Below.refl _ _).alloc (Nat.le_refl _) _) p0
      have HBlk : Hid (∀ U, Below w5.heap.size w5 U → U.cell? ⟨wb, 0, none⟩ = some (.slice ra R.length rc) ∧ ∀ i, U.frozen? ⟨wb, i, none⟩ = false) := Lib.hid (fun U hU => ⟨cell_in (hM5.below hU).blk rfl, fun i => free_in (hM5.below hU).blk i⟩)
      have FA : Hid (∀ (ao1 : Option Addr) (cap1 : Nat) (w1 : World), Below w5.drew.heap.size w5.drew w1 → (∀ a, ao1 = some a → w5.drew.heap.size ≤ a.block) → ∀ (g o' cap' : Nat) (w3 : World), (w1.alloc (.cells #[.int .u32 (r.1 : Int), .int .u32 (r.2.1 : Int), .int .u32 (r.2.2 : Int)] 34)).grownBy w3 (some g) → ((ao1 = some ⟨g, o', none⟩ ∧ R.length < cap1) ∨ (w1.alloc (.cells #[.int .u32 (r.1 : Int), .int .u32 (r.2.1 : Int), .int .u32 (r.2.2 : Int)] 34)).heap.size ≤ g) → Below w5.heap.size w5 w3 ∧ w5.heap.size ≤ g) := Lib.hid (fun ao1 cap1 w1 h1 h2 g o' cap' w3 h3 h4 => by
        have hs1 : w5.heap.size ≤ w1.heap.size := h1.size
        have hb1 : Below w5.heap.size w5 w1 := (Below.refl _ w5).drew.trans h1
        have hg : w5.heap.size ≤ g := by
          rcases h4 with ⟨h5, _⟩ | h5
          · exact h2 _ h5
          · rw [World.size_alloc] at h5; omega
        exact ⟨(hb1.alloc hs1 _).trans (grown_below h3 (by rw [World.size_alloc]; omega) hg), hg⟩)
      have FB : Hid (∀ (ao1 : Option Addr) (cap1 : Nat) (w1 : World), Below (w5.alloc (.cells #[.int .u32 (r.1 : Int), .int .u32 (r.2.1 : Int), .int .u32 (r.2.2 : Int)] 34)).drew.heap.size (w5.alloc (.cells #[.int .u32 (r.1 : Int), .int .u32 (r.2.1 : Int), .int .u32 (r.2.2 : Int)] 34)).drew w1 → (∀ a, ao1 = some a → (w5.alloc (.cells #[.int .u32 (r.1 : Int), .int .u32 (r.2.1 : Int), .int .u32 (r.2.2 : Int)] 34)).drew.heap.size ≤ a.block) → ∀ (g o' cap' : Nat) (w3 : World), w1.grownBy w3 (some g) → ((ao1 = some ⟨g, o', none⟩ ∧ R.length < cap1) ∨ w1.heap.size ≤ g) → Below w5.heap.size w5 w3 ∧ w5.heap.size ≤ g) := Lib.hid (fun ao1 cap1 w1 h1 h2 g o' cap' w3 h3 h4 => by
        have ha : Below w5.heap.size w5 (w5.alloc (.cells #[.int .u32 (r.1 : Int), .int .u32 (r.2.1 : Int), .int .u32 (r.2.2 : Int)] 34)).drew := ((Below.refl _ w5).alloc (Nat.le_refl _) _).drew
        have hs1 := h1.size
        have hs2 := ha.size
        have hb1 : Below w5.heap.size w5 w1 := ha.trans (h1.mono hs2)
        have hg : w5.heap.size ≤ g := by
          rcases h4 with ⟨h5, _⟩ | h5
          · exact Nat.le_trans hs2 (h2 _ h5)
          · omega
        exact ⟨hb1.trans (grown_below h3 (by omega) hg), hg⟩)
      have BA : Hid (∀ w1 : World, Below w5.drew.heap.size w5.drew w1 → Below w5.heap.size w5 w1) := Lib.hid (fun w1 h1 => (Below.refl _ w5).drew.trans h1)
      have BB : Hid (∀ w1 : World, Below (w5.alloc (.cells #[.int .u32 (r.1 : Int), .int .u32 (r.2.1 : Int), .int .u32 (r.2.2 : Int)] 34)).drew.heap.size (w5.alloc (.cells #[.int .u32 (r.1 : Int), .int .u32 (r.2.1 : Int), .int .u32 (r.2.2 : Int)] 34)).drew w1 → Below w5.heap.size w5 w1) := Lib.hid (fun w1 h1 => by
        have ha : Below w5.heap.size w5 (w5.alloc (.cells #[.int .u32 (r.1 : Int), .int .u32 (r.2.1 : Int), .int .u32 (r.2.2 : Int)] 34)).drew := ((Below.refl _ w5).alloc (Nat.le_refl _) _).drew
        exact ha.trans (h1.mono ha.size))
      have HYc : Hid (∀ U, Below w5.heap.size w5 U → U.cell? ⟨n0, 0, none⟩ = some (.int .u32 (r.1 : Int)) ∧ U.cell? ⟨n0, 1, none⟩ = some (.int .u32 (r.2.1 : Int)) ∧ U.cell? ⟨n0, 2, none⟩ = some (.int .u32 (r.2.2 : Int))) := Lib.hid (fun U hU => ⟨cellB hU y0, cellB hU y1, cellB hU y2⟩)
      clear hB5 hM5
      go_cut [40] (fun s40 wx => CutX w5 wb R r s40 wx)
      case first =>
        go_region_law (first
          | (refine step_append_copy rfl (.tmp 36) 27 rfl 34 iR zR 3 12 Try.underlying27 HIR.out HZR.out HSR.out HBR.out HCR.out ra R.length rc (flatR R) (by simp [Act.eval, Act.put]) (by first | exact HRd.out | exact HRa.out) HNr.out (by unfold maxLen; omega) (by omega) ?_; intro ao1 cap1 w1 hr1 hb1 hn1; have hA1 := hr1.below ((Below.refl _ w1).alloc (Nat.le_refl _) (.cells #[.int .u32 (r.1 : Int), .int .u32 (r.2.1 : Int), .int .u32 (r.2.2 : Int)] 34)); have hNA := news_new w1 (rowL r) 34; (try have hNB := newsB (rowL r) 34 hb1); obtain ⟨q0, q1, q2⟩ := HYc.out w1 (by first | exact BA.out w1 hb1 | exact BB.out w1 hb1); (try have hFA := FA.out ao1 cap1 w1 hb1 hn1); (try have hFB := FB.out ao1 cap1 w1 hb1 hn1))
          | (refine step_append_rowk rfl (.tmp 37) (.tmp 39) 27 rfl 34 iR zR 3 12 Try.underlying27 HIR.out HZR.out HSR.out HBR.out HCR.out (by decide) ao1 R.length cap1 (flatR R) (by simp [Act.eval, Act.put]) (by first | exact hA1 | exact hr1) ⟨_, 0, none⟩ 1 (rowL r) (by simp [Act.eval, Act.put]; rfl) rfl (by first | exact hNA | exact hNB) (by simp [Value.oneCell']) (by unfold maxLen; omega) (by omega) ?_; intro g9 o9 cap9 w9 hR9 hG9 hor9; obtain ⟨hB9, hg9⟩ := (by first | exact hFA g9 o9 cap9 w9 hG9 hor9 | exact hFB g9 o9 cap9 w9 hG9 hor9); obtain ⟨x9, f9⟩ := HBlk.out _ hB9))
        all_goals
          go_wp2
          go_meet
          exact ⟨g9, o9, cap9, w9, hB9, hR9, hg9, rfl⟩
      case rest =>
        obtain ⟨g, o, cap, U1, hB1, hR1, hg, hwc⟩ := hcut
        have hbw : Below w.heap.size w U1 := HB5.out.trans (hB1.mono HB5.out.size)
        have hM1 := HM.out.below hbw
        have hgw : w.heap.size ≤ g := Nat.le_trans HB5.out.size hg
        have hblk : wc.heap[wb]? = some (.cells #[.slice (some ⟨g, o, none⟩) (R.length + 1) cap, .slice ba R.length bc] 30 (0, 0)) := by
          rw [hwc]
          exact heap_setCell_same U1 wb 0 _ _ _ hM1.blk
        have hbits : RowK wc 35 1 ba R.length bc (bitsC R) := by
          rw [hwc]
          exact hM1.bits.kept fun a ha => Below.heap_setCell _ _ _ _ (by obtain ⟨c, hc⟩ := hM1.bits.type ha; exact types_ne hc hM1.blk (by decide))
        have q1 : wc.cell? ⟨wb, 1, none⟩ = some (.slice ba R.length bc) := cell_in hblk rfl
        have HBits := Lib.hid hbits
        have HBlk2 : Hid (∀ U, Below wc.heap.size wc U → U.cell? ⟨wb, 1, none⟩ = some (.slice ba R.length bc) ∧ ∀ i, U.frozen? ⟨wb, i, none⟩ = false) := Lib.hid (fun U hU => by
          have := (hU.block wb (Array.getElem?_eq_some_iff.1 hblk).1).trans hblk
          exact ⟨cell_in this rfl, fun i => free_in this i⟩)
        have HEndY : Hid (∀ (g2 o2 cap2 : Nat) (U3 : World), Below wc.heap.size wc U3 → RowK U3 35 1 (some ⟨g2, o2, none⟩) (R.length + 1) cap2 (bitsC R ++ [.int .u8 0]) → wc.heap.size ≤ g2 → CutY w Q wb R r undef (U3.setCell ⟨wb, 1, none⟩ (.slice (some ⟨g2, o2, none⟩) (R.length + 1) cap2))) := Lib.hid (fun g2 o2 cap2 U3 h1 h2 h3 => by
          obtain ⟨a1, a2⟩ := HM.out.more r hr hbw hR1 hgw hwc h1 h2 h3
          exact ⟨_, _, _, _, a1, a2⟩)
        clear hB1 hR1 hg hwc hbw hM1 hgw hblk hbits p0 p0a y0 y1 y2 HBlk FA FB BA BB HYc HRd HRa
        go_upto_region 6 with fail
        go_cut [50] (fun s50 wx => CutY w Q wb R r undef wx)
        case first =>
          go_wp2_with (first
            | (refine wpList_append_copy rfl (.tmp 47) 28 rfl 35 iB zB 1 1 Try.underlying28 HIB.out HZB.out HSB.out HBB.out HCB.out ba R.length bc (bitsC R) rfl HBits.out HNb.out (by unfold maxLen; omega) (by omega) ?_; intro ao2 cap2 w6 hr6 hb6 hn6; have hA6 := Lib.hid (hr6.below ((Below.refl _ w6).alloc (Nat.le_refl _) (.cells #[.int .u8 0] 35))); have hN6 := Lib.hid (news_new w6 [.int .u8 0] 35); have hb6' := Lib.hid hb6; have hn6' := Lib.hid hn6; clear hr6 hb6 hn6)
            | (refine wpList_append_rowk (by rfl) (.tmp 48) (.tmp 49) 28 rfl 35 iB zB 1 1 Try.underlying28 HIB.out HZB.out HSB.out HBB.out HCB.out (by decide) ao2 R.length cap2 (bitsC R) rfl hA6.out ⟨w6.heap.size, 0, none⟩ 1 [.int .u8 0] rfl rfl hN6.out (by simp [Value.oneCell']) (by unfold maxLen; omega) (by omega) ?_; intro g7 o7 cap7 w7 hR7 hG7 hor7
               have hg7 : wc.heap.size ≤ g7 := by
                 rcases hor7 with ⟨h5, _⟩ | h5
                 · exact hn6'.out _ h5
                 · rw [World.size_alloc] at h5; have := hb6'.out.size; omega
               have hB7 : Below wc.heap.size wc w7 := (hb6'.out.alloc hb6'.out.size (.cells #[.int .u8 0] 35)).trans (grown_below hG7 (by rw [World.size_alloc]; have := hb6'.out.size; omega) hg7)
               obtain ⟨x7, f7⟩ := HBlk2.out _ hB7
               have hE7 := Lib.hid (HEndY.out _ _ _ _ hB7 hR7 hg7)
               clear hR7 hG7 hor7 hg7 hB7))
          go_meet
          exact hE7.out
        case rest =>
          obtain ⟨ra4, rc4, ba4, bc4, hM4, hT4⟩ := hcut
          have hlen : (R ++ [(r, 0)]).length = R.length + 1 := by rw [List.length_append]; rfl
          have hat : (R ++ [(r, 0)])[R.length]? = some (r, 0) := by rw [List.getElem?_append_right (Nat.le_refl _)]; simp
          have hst : (R ++ [(r, 0)]).set R.length (r, orB 0 b) = R ++ [(r, orB 0 b)] := by rw [List.set_append_right _ _ (Nat.le_refl _)]; simp
          obtain ⟨g, o, g2, o2, hra, hba, hcs, _, hfz⟩ := hM4.at_ (by omega)
          have a3 := (hcs _ _ hat).2.2.2
          have z0 : wc.cell? ⟨wb, 0, none⟩ = some (.slice ra4 (R.length + 1) rc4) := by rw [← hlen]; exact cell_in hM4.blk rfl
          have z1 : wc.cell? ⟨wb, 1, none⟩ = some (.slice (some ⟨g2, o2, none⟩) (R.length + 1) bc4) := by rw [← hlen, ← hba]; exact cell_in hM4.blk rfl
          have HEnd : Hid (AddEnd w Q wb R r b (.returned (.tuple #[.int .i64 (R.length : Int), .bool true])) (wc.drew.setCell ⟨g2, o2 + R.length, none⟩ (.int .u8 (orB 0 b : Int)))) := Lib.hid (by
            have hset := (hM4.below (Below.refl _ _).drew).setB hba hat (orB 0 b) HOb.out
            rw [hst] at hset
            have hT : Turned Q w (wc.drew.setCell ⟨g2, o2 + R.length, none⟩ (.int .u8 (orB 0 b : Int))) := hT4.drew.then (Turned.set (S := growS Q w wc.drew) (a := ⟨g2, o2 + R.length, none⟩) (show growS Q w wc.drew g2 from hM4.qB _ hba) _)
            refine ⟨by rw [HAV.out.1], hT, ?_⟩
            rw [HAV.out.2]
            have hRI : RefI _ (growS Q w wc) wb _ := ⟨ra4, rc4, ba4, bc4, hset⟩
            exact hRI.wide (fun j hj => by rcases hj with hj | hj; exact .inl hj; exact .inr ⟨hj.1, by have := hj.2; simpa [World.setCell] using this⟩) (growS_lt HLt.out hT.size))
          have i0 : (0 : Int) ≤ (R.length : Int) := by omega
          have i1 : (R.length : Int) < (R.length : Int) + 1 := by omega
          have i2 : (R.length : Int) < ((R.length + 1 : Nat) : Int) := by omega
          clear hM4 hT4 hlen hat hst hra hba hcs
          generalize R.length = m at *
          go_upto_region 9 with fail
          go_region_with (fail)
          all_goals
            go_wp2
            go_ret2
            exact HEnd.out
  · have hA : addR R r b = R := if_pos (.inr hok)
    have hV : addV R r b = #[.int .i64 (-1), .bool false] := if_pos (.inr hok)
    have HEnd : Hid (AddEnd w Q wb R r b (.returned (.tuple #[.int .i64 (-1), .bool false])) W0) := Lib.hid ⟨by rw [hV], HSame.out.1, by rw [hA]; exact HSame.out.2⟩
    have hz : r.1 = 0 ∨ (r.1 ≠ 0 ∧ r.2.1 = 0) ∨ (r.1 ≠ 0 ∧ r.2.1 ≠ 0 ∧ r.2.2 = 0) := by
      unfold okLook at hok
      omega
    clear h h0 hc0 hb0 hW0 hn0 hs0 hlt hb0' hA hV hok
    rcases hz with z1 | ⟨z1, z2⟩ | ⟨z1, z2, z3⟩
    · have f1 : ((r.1 : Int) == 0) = true := by simp [z1]
      clear z1
      go_enter Try.func20, Try.ntmps20
      go_upto_region 1 with fail
      rw [← HW0.out, ← HN0.out]
      go_wp2
      go_ret2
      exact HEnd.out
    · have f1 : ((r.1 : Int) == 0) = false := by rw [beq_eq_false_iff_ne]; omega
      have f2 : ((r.2.1 : Int) == 0) = true := by simp [z2]
      clear z1 z2
      go_enter Try.func20, Try.ntmps20
      go_upto_region 1 with fail
      rw [← HW0.out, ← HN0.out]
      go_wp2
      go_ret2
      exact HEnd.out
    · have f1 : ((r.1 : Int) == 0) = false := by rw [beq_eq_false_iff_ne]; omega
      have f2 : ((r.2.1 : Int) == 0) = false := by rw [beq_eq_false_iff_ne]; omega
      have f3 : ((r.2.2 : Int) == 0) = true := by simp [z3]
      clear z1 z2 z3
      go_enter Try.func20, Try.ntmps20
      go_upto_region 1 with fail
      rw [← HW0.out, ← HN0.out]
      go_wp2
      go_ret2
      exact HEnd.out
end
end Go.Proofs.Ytnmimagcmmdolaa
