/-
  THE WALK OF CostMore.
-/
import Derived.Test.YtfnjemhmipngdaaCoMoreM
import Derived.Test.YtfnjemhmipngdaaRowApp
namespace Go.Proofs.Ytfnjemhmipngdaa
open Go.RowKit
set_option linter.unusedVariables false
set_option linter.unusedSimpArgs false

theorem info_bool : ∃ (i : TypeInfo) (z : Value), Try.prog.info? 4 = some i ∧ i.zero = some z ∧ i.size = 1 ∧ i.bytes = 1 ∧ z.cells.size = 1 := by
  obtain ⟨i, hi⟩ : ∃ i, Try.prog.info? 4 = some i := Option.isSome_iff_exists.1 (by kernel_rfl)
  refine ⟨i, .bool false, hi, ?_⟩
  have h : (Try.prog.info? 4).map (fun i => (i.zero, i.size, i.bytes)) = some (some (.bool false), 1, 1) := by kernel_rfl
  rw [hi] at h
  simp only [Option.map_some, Option.some.injEq, Prod.mk.injEq] at h
  exact ⟨h.1, h.2.1, h.2.2, rfl⟩
theorem el_news {W : World} {so : Option Addr} {l : List Bool} (h : ElR Value.bool W so l) : 0 < l.length → ∃ a, so = some a ∧ ∀ j u, (l.map Value.bool)[j]? = some u → W.cell? (a.add j) = some u := fun hl => by
  obtain ⟨g, o, rfl, hc⟩ := h hl
  refine ⟨_, rfl, fun j u hu => ?_⟩
  rw [List.getElem?_map] at hu
  cases hx : l[j]? with
  | none => rw [hx] at hu; cases hu
  | some b =>
    rw [hx] at hu
    rw [Addr.add_mid, hc j b hx]
    exact hu
/-- An element of one's own slice, written. -/
theorem OwnR.put {α : Type} {enc : α → Value} {e : TypeId} {B : Nat} {W : World} {g o cap : Nat} {l : List α} (h : OwnR enc e B W (some ⟨g, o, none⟩) cap l) (j : Nat) (x : α) (v : Value) (hv : v = enc x) : OwnR enc e B (W.setCell ⟨g, o + j, none⟩ v) (some ⟨g, o, none⟩) cap (l.set j x) ∧ (B ≤ W.heap.size → Below B W (W.setCell ⟨g, o + j, none⟩ v)) := by
  have h1 := h.1.set rfl j v
  refine ⟨⟨?_, h.2⟩, fun hB => ?_⟩
  · rw [List.length_set, List.map_set, ← hv]
    exact h1
  · have hg := h.2 _ rfl
    exact (Turned.set (S := fun k => k = g) (w := W) (a := ⟨g, o + j, none⟩) rfl v).below hB (fun k hk => by
      subst hk
      exact hg)
set_option maxRecDepth 100000 in
set_option maxHeartbeats 32000000 in
theorem costMore_walk (l : LookD) (ao : Option Addr) (cap : Nat) (ka : List Bool) (bo : Option Addr) (cbp : Nat) (kb : List Bool) (w : World) (hka : ElR Value.bool w ao ka) (hkb : ElR Value.bool w bo kb) :
    Calls Try.prog 5 #[lookV l, .slice ao ka.length cap, .slice bo kb.length cbp] w fun e w' => e = .returned (.bool true) ∧ Below w.heap.size w w' := by
  have HB1 := Lib.hid ((Below.refl w.heap.size w).alloc (Nat.le_refl _) (lookO l))
  have hka1 := hka.below HB1.out
  have hkb1 := hkb.below HB1.out
  have hc0 := heap_alloc_new w (lookO l)
  obtain ⟨W, hW⟩ : ∃ W, W = w.alloc (lookO l) := ⟨_, rfl⟩
  rw [← hW] at HB1 hc0 hka1 hkb1
  obtain ⟨n0, hn0⟩ : ∃ n0, n0 = w.heap.size := ⟨_, rfl⟩
  rw [← hn0] at hc0
  have HW := Lib.hid hW
  have HN0 := Lib.hid hn0
  have HKa := Lib.hid hka1
  have HKb := Lib.hid hkb1
  have HC0 := Lib.hid hc0
  have HKn := Lib.hid known_any
  have c0 : W.cell? ⟨n0, 0, none⟩ = some (fV l.c) := cell_in hc0 rfl
  have CD : Hid (∀ j, j < 3 → W.cell? ⟨n0, 4 + j, none⟩ = some (fV (l.d j))) := Lib.hid fun j hj => by
    rcases (by omega : j = 0 ∨ j = 1 ∨ j = 2) with e | e | e <;> subst e <;> exact cell_in hc0 rfl
  have HEnd : Hid (∀ w', Below W.heap.size W w' → Below w.heap.size w w') := Lib.hid fun w' h => HB1.out.trans (h.mono HB1.out.size)
  clear hW hn0 hka hkb hka1 hkb1 hc0
  by_cases ha : 100 < ka.length
  · have e0 : decide ((ka.length : Int) > 100) = true := decide_eq_true (by omega)
    have e0' : decide ((100 : Int) < ka.length) = true := decide_eq_true (by omega)
    go_enter Try.func5, Try.ntmps5
    go_upto_region 1 with fail
    rw [← HW.out, ← HN0.out]
    go_wp2_with (go_at_call 6; refine (HKn.out _).mono ?_; rintro e w' ⟨rfl, hY⟩; replace hY := Lib.hid hY)
    go_ret
    exact ⟨rfl, HEnd.out _ hY.out⟩
  have e0 : decide ((ka.length : Int) > 100) = false := decide_eq_false (by omega)
  have e0' : decide ((100 : Int) < ka.length) = false := decide_eq_false (by omega)
  by_cases hb : 100 < kb.length
  · have e1 : decide ((kb.length : Int) > 100) = true := decide_eq_true (by omega)
    have e1' : decide ((100 : Int) < kb.length) = true := decide_eq_true (by omega)
    go_enter Try.func5, Try.ntmps5
    go_upto_region 1 with fail
    rw [← HW.out, ← HN0.out]
    go_wp2_with (go_at_call 6; refine (HKn.out _).mono ?_; rintro e w' ⟨rfl, hY⟩; replace hY := Lib.hid hY)
    go_ret
    exact ⟨rfl, HEnd.out _ hY.out⟩
  have e1 : decide ((kb.length : Int) > 100) = false := decide_eq_false (by omega)
  have e1' : decide ((100 : Int) < kb.length) = false := decide_eq_false (by omega)
  cases hp1 : geF l.c 0 with
  | false =>
    have hp1' : (FloatKind.f64.format.order l.c 0 == some Ordering.gt || FloatKind.f64.format.order l.c 0 == some Ordering.eq) = false := hp1
    go_enter Try.func5, Try.ntmps5
    go_upto_region 1 with fail
    rw [← HW.out, ← HN0.out]
    go_wp2_with (go_at_call 6; refine (HKn.out _).mono ?_; rintro e w' ⟨rfl, hY⟩; replace hY := Lib.hid hY)
    go_ret
    exact ⟨rfl, HEnd.out _ hY.out⟩
  | true =>
  have hp1' : (FloatKind.f64.format.order l.c 0 == some Ordering.gt || FloatKind.f64.format.order l.c 0 == some Ordering.eq) = true := hp1
  cases hp2 : leF l.c topF with
  | false =>
    have hp2' : (FloatKind.f64.format.order l.c 4832362400168542208 == some Ordering.lt || FloatKind.f64.format.order l.c 4832362400168542208 == some Ordering.eq) = false := hp2
    go_enter Try.func5, Try.ntmps5
    go_upto_region 1 with fail
    rw [← HW.out, ← HN0.out]
    go_wp2_with (go_at_call 6; refine (HKn.out _).mono ?_; rintro e w' ⟨rfl, hY⟩; replace hY := Lib.hid hY)
    go_ret
    exact ⟨rfl, HEnd.out _ hY.out⟩
  | true =>
  have hp2' : (FloatKind.f64.format.order l.c 4832362400168542208 == some Ordering.lt || FloatKind.f64.format.order l.c 4832362400168542208 == some Ordering.eq) = true := hp2
  have HGood := Lib.hid (good_of hp1 hp2)
  clear hp1 hp2
  go_enter Try.func5, Try.ntmps5
  go_upto_region 1 with fail
  rw [← HW.out, ← HN0.out]
  go_wp2
  go_loopg [7] 3 (fun gg i wr => ∃ k : Nat, k ≤ 3 ∧ 3 - k ≤ gg ∧ i = .int .i64 (k : Int) ∧ (∀ j, j < k → BigF (l.d j)) ∧ W = wr)
  case atStart => exact ⟨0, by omega, by omega, rfl, fun j hj => absurd hj (by omega), rfl⟩
  case round =>
    obtain ⟨k, hk, hg, rfl, hbig, rfl⟩ := hrel
    have HBig := Lib.hid hbig
    clear hbig
    obtain rfl | hk3 : k = 3 ∨ k < 3 := by omega
    rotate_left
    · have cd := CD.out k hk3
      have e3 : decide ((k : Int) < 3) = true := decide_eq_true (by omega)
      have HS : Hid (BigF (l.d k) → ∀ j, j < k + 1 → BigF (l.d j)) := Lib.hid fun h j hj => by
        by_cases e : j = k
        · subst e; exact h
        · exact HBig.out j (by omega)
      obtain ⟨d, hd⟩ : ∃ d, d = l.d k := ⟨_, rfl⟩
      rw [← hd] at cd HS
      clear hd
      cases hq1 : geF d oneF with
      | false =>
        have hq1' : (FloatKind.f64.format.order d 4607182418800017408 == some Ordering.gt || FloatKind.f64.format.order d 4607182418800017408 == some Ordering.eq) = false := hq1
        clear hp1' hp2' hq1
        go_wp2_with (go_at_call 6; refine (HKn.out _).mono ?_; rintro e w' ⟨rfl, hY⟩; replace hY := Lib.hid hY)
        go_ret
        exact ⟨rfl, HEnd.out _ hY.out⟩
      | true =>
        have hq1' : (FloatKind.f64.format.order d 4607182418800017408 == some Ordering.gt || FloatKind.f64.format.order d 4607182418800017408 == some Ordering.eq) = true := hq1
        cases hq2 : leF d topF with
        | false =>
          have hq2' : (FloatKind.f64.format.order d 4832362400168542208 == some Ordering.lt || FloatKind.f64.format.order d 4832362400168542208 == some Ordering.eq) = false := hq2
          clear hp1' hp2' hq1 hq2
          go_wp2_with (go_at_call 6; refine (HKn.out _).mono ?_; rintro e w' ⟨rfl, hY⟩; replace hY := Lib.hid hY)
          go_ret
          exact ⟨rfl, HEnd.out _ hY.out⟩
        | true =>
          have hq2' : (FloatKind.f64.format.order d 4832362400168542208 == some Ordering.lt || FloatKind.f64.format.order d 4832362400168542208 == some Ordering.eq) = true := hq2
          have HS2 := Lib.hid (HS.out (big_of hq1 hq2))
          clear hp1' hp2' hq1 hq2
          go_wp2
          go_roundg (3 - (k + 1))
          case measure => omega
          case rel => exact ⟨k + 1, by omega, by omega, by go_num, HS2.out, rfl⟩
    · obtain ⟨iB, zB, hiB, hzB, hsB, hbB, hcB⟩ := info_bool
      have HIB := Lib.hid hiB
      have HZB := Lib.hid hzB
      have HSB := Lib.hid hsB
      have HBB := Lib.hid hbB
      have HCB := Lib.hid hcB
      have HNil := Lib.hid (OwnR.nil (enc := Value.bool) (e := 4) (B := W.heap.size) (W := W)).1
      have HNw := Lib.hid (el_news HKa.out)
      have HO1 : Hid (∀ u ∈ ka.map Value.bool, u.oneCell' = true) := Lib.hid (by
        intro u hu
        obtain ⟨b, _, rfl⟩ := List.mem_map.1 hu
        rfl)
      clear hiB hzB hsB hbB hcB c0 hp1' hp2'
      go_upto_region 9 with (refine wpList_append_rows (by rfl) (.const (.slice none 0 0)) (.tmp 48) 27 rfl 4 iB zB 1 1 Try.underlying27 HIB.out HZB.out HSB.out HBB.out HCB.out none 0 0 [] rfl HNil.out ao ka.length cap (ka.map Value.bool) rfl (by simp) HNw.out HO1.out (by unfold maxLen; omega) (by omega) ?_; intro ao1 cap1 w1 hR1 hT1 hor1; replace hR1 := Lib.hid hR1; replace hT1 := Lib.hid hT1; replace hor1 := Lib.hid hor1)
      rw [Nat.zero_add] at hR1
      have HStart : Hid (OwnR Value.bool 4 W.heap.size w1 ao1 cap1 (bothK ka kb 0) ∧ Below W.heap.size W w1 ∧ (bothK ka kb 0).length = ka.length) := Lib.hid ⟨⟨by rw [bothK_zero]; exact hR1.out, fun a ha => by
        rcases hor1.out with h | h
        · rw [h] at ha; cases ha
        · exact h a ha⟩, hT1.out.below (Nat.le_refl _) (fun j ⟨a, ha, _⟩ => by cases ha), by rw [bothK_zero]⟩
      clear hR1 hT1 hor1 HNil HNw HO1
      go_wp2
      go_loopg [8, 9] kb.length (fun gg s i wr => ∃ k ao2 cap2, k ≤ kb.length ∧ kb.length - k ≤ gg ∧ i = .int .i64 (k : Int) ∧ s = .slice ao2 (bothK ka kb k).length cap2 ∧ OwnR Value.bool 4 W.heap.size wr ao2 cap2 (bothK ka kb k) ∧ Below W.heap.size W wr)
      case atStart => exact ⟨0, ao1, cap1, by omega, by omega, rfl, by rw [HStart.out.2.2], HStart.out.1, HStart.out.2.1⟩
      case round =>
        obtain ⟨k, ao2, cap2, hk, hg, rfl, rfl, how, hbe⟩ := hrel
        have HO := Lib.hid how
        have HB := Lib.hid hbe
        clear how hbe
        obtain rfl | hkl : k = kb.length ∨ k < kb.length := by omega
        · have hcr : wr.heap[n0]? = some (lookO l) := (HB.out.block n0 (Array.getElem?_eq_some_iff.1 HC0.out).1).trans HC0.out
          have HCr := Lib.hid hcr
          obtain ⟨q1, hs1, hn1, hq1⟩ := sizeR_one (knB ka) l
          obtain ⟨q2, hs2, hn2, hq2⟩ := sizeR_one (knB (bothK ka kb kb.length)) l
          have hless : lessF q1 q2 = false := more_less HGood.out HBig.out (kn_more ka kb l) hs1 hs2
          have HS1 : Hid (∀ U, Below wr.heap.size wr U → Calls Try.prog 8 #[lookV l, .slice ao ka.length cap] U fun e w' => e = .returned (fV q1) ∧ Below U.heap.size U w') := Lib.hid fun U hU => (size_any l ao cap ka U ((HKa.out.below HB.out).below hU)).mono (by
            rintro e w' ⟨⟨r, rfl, hr⟩, hB⟩
            exact ⟨by rw [hq1 r hr], hB⟩)
          have HS2 : Hid (∀ U, Below wr.heap.size wr U → Calls Try.prog 8 #[lookV l, .slice ao2 (bothK ka kb kb.length).length cap2] U fun e w' => e = .returned (fV q2) ∧ Below U.heap.size U w') := Lib.hid fun U hU => (size_any l ao2 cap2 (bothK ka kb kb.length) U (HO.out.elR.below hU)).mono (by
            rintro e w' ⟨⟨r, rfl, hr⟩, hB⟩
            exact ⟨by rw [hq2 r hr], hB⟩)
          have HLs : Hid (∀ U, Calls Try.prog 12 #[fV q1, fV q2] U fun e w' => e = .returned (.bool false) ∧ w' = U) := Lib.hid fun U => (less_any q1 q2 U).mono (by
            rintro e w' ⟨rfl, rfl⟩
            exact ⟨by rw [hless], rfl⟩)
          have hdr : Below wr.heap.size wr wr.drew := (Below.refl _ _).drew
          have HSt := Lib.hid (cs_of hcr hdr)
          clear hcr hs1 hn1 hq1 hs2 hn2 hq2 hless hdr
          generalize (bothK ka kb kb.length).length = mm at *
          go_upto_region 15 with fail
          go_region_held3 (fun W' => W'.cell? ⟨n0, 0, none⟩ = some (fV l.c) ∧ W'.cell? ⟨n0, 1, none⟩ = some (.int .i64 l.v0) ∧ W'.cell? ⟨n0, 2, none⟩ = some (.int .i64 l.v1) ∧ W'.cell? ⟨n0, 3, none⟩ = some (.int .i64 l.v2) ∧ W'.cell? ⟨n0, 4, none⟩ = some (fV l.d0) ∧ W'.cell? ⟨n0, 5, none⟩ = some (fV l.d1) ∧ W'.cell? ⟨n0, 6, none⟩ = some (fV l.d2) ∧ Below wr.heap.size wr W') ((first | assumption | exact HSt.out | exact cs_of HCr.out (cs_step (by assumption) (by assumption)))) (first
            | (go_at_call 8; (with_reducible refine (HS1.out _ (cs_low (by assumption))).mono ?_); rintro e y1 ⟨rfl, hY1⟩)
            | (go_at_call 8; (with_reducible refine (HS2.out _ (cs_low (by assumption))).mono ?_); rintro e y2 ⟨rfl, hY2⟩)
            | (go_at_call 12; (with_reducible refine (HLs.out _).mono ?_); rintro e y4 ⟨rfl, rfl⟩)
            | (go_at_call 6; (with_reducible refine (HKn.out _).mono ?_); rintro e y5 ⟨rfl, hY5⟩))
          rename_i hHeld
          rename World => wq
          have hbq := cs_low hHeld
          have HBq := Lib.hid hbq
          clear hHeld hbq
          go_wp2
          go_ret
          exact ⟨rfl, HEnd.out _ (HB.out.trans (HBq.out.mono HB.out.size))⟩
        · have hlen := bothK_len ka kb k
          have e4 : decide ((k : Int) < (kb.length : Int)) = true := decide_eq_true (by omega)
          obtain ⟨g, o, rfl, hcell⟩ := HKb.out (by omega)
          have cb := HB.out.cell (p := ⟨g, o + k, none⟩) (World.block_lt_of_cell? W _ (hcell k _ (List.getElem?_eq_getElem hkl)))
          rw [hcell k _ (List.getElem?_eq_getElem hkl)] at cb
          have hy : kb.getD k false = kb[k] := by rw [List.getD_eq_getElem?_getD, List.getElem?_eq_getElem hkl]; rfl
          clear hcell
          by_cases hka : k < ka.length
          · have e5 : decide ((k : Int) ≥ ((bothK ka kb k).length : Int)) = false := decide_eq_false (by omega)
            have e5' : decide (((bothK ka kb k).length : Int) ≤ (k : Int)) = false := decide_eq_false (by omega)
            have hset := bothK_in ka kb k hka
            rw [hy] at hset
            obtain ⟨g2, o2, rfl, hc2, hf2⟩ := HO.out.1.at_ (by omega)
            have ca := hc2 k (.bool (ka.getD k false)) (by rw [List.getElem?_map, bothK_get, if_pos (by omega), decide_eq_false (by omega)]; simp)
            have HLen2 : Hid ((bothK ka kb (k + 1)).length = (bothK ka kb k).length) := Lib.hid (by rw [bothK_len, bothK_len]; omega)
            have HPut := Lib.hid (fun v (x : Bool) (h : v = Value.bool x) => HO.out.put k x v h)
            have hkm : (k : Int) < ((bothK ka kb k).length : Int) := by omega
            clear hc2 hy hlen
            generalize hmm : (bothK ka kb k).length = mm at *
            cases hx : ka.getD k false with
            | true =>
              rw [hx] at ca hset
              have HSet : Hid (bothK ka kb (k + 1) = (bothK ka kb k).set k true) := Lib.hid hset
              clear hset hmm hx
              go_wp2
              go_roundg (kb.length - (k + 1))
              case measure => omega
              case rel => exact ⟨k + 1, _, _, by omega, by omega, by go_num, by rw [HLen2.out], by rw [HSet.out]; exact (HPut.out _ true rfl).1, HB.out.trans ((HPut.out _ true rfl).2 HB.out.size)⟩
            | false =>
              rw [hx] at ca hset
              obtain ⟨y, hyy⟩ : ∃ y, y = kb[k] := ⟨_, rfl⟩
              rw [← hyy] at cb hset
              have HSet : Hid (bothK ka kb (k + 1) = (bothK ka kb k).set k y) := Lib.hid (by rw [hset, Bool.false_or])
              clear hset hmm hx hyy
              go_wp2
              go_roundg (kb.length - (k + 1))
              case measure => omega
              case rel => exact ⟨k + 1, _, _, by omega, by omega, by go_num, by rw [HLen2.out], by rw [HSet.out]; exact (HPut.out _ y rfl).1, HB.out.trans ((HPut.out _ y rfl).2 HB.out.size)⟩
          · have e5 : decide ((k : Int) ≥ ((bothK ka kb k).length : Int)) = true := decide_eq_true (by omega)
            have e5' : decide (((bothK ka kb k).length : Int) ≤ (k : Int)) = true := decide_eq_true (by omega)
            have hset := bothK_out ka kb k (by omega)
            rw [hy, Bool.false_or] at hset
            obtain ⟨y, hyy⟩ : ∃ y, y = kb[k] := ⟨_, rfl⟩
            rw [← hyy] at cb hset
            have HSet := Lib.hid hset
            clear hset hyy hy
            have HVl := Lib.hid (HO.out.1.below ((Below.refl wr.heap.size wr).alloc (Nat.le_refl _) (.cells #[.bool false] 4)))
            have HNw2 := Lib.hid (news_one wr (.bool false) 4)
            have HMore := Lib.hid (HO.out.more HB.out.size false (.bool false) rfl)
            have HLen2 : Hid ((bothK ka kb (k + 1)).length = (bothK ka kb k).length + 1) := Lib.hid (by rw [bothK_len, bothK_len]; omega)
            have hkm : (bothK ka kb k).length = k := by omega
            have HAfter : Hid (∀ (g9 o9 cap9 : Nat) w9, Below W.heap.size wr w9 ∧ OwnR Value.bool 4 W.heap.size w9 (some ⟨g9, o9, none⟩) cap9 (bothK ka kb k ++ [false]) → w9.cell? ⟨g9, o9 + k, none⟩ = some (.bool false) ∧ (∀ i, w9.frozen? ⟨g9, i, none⟩ = false) ∧ w9.cell? ⟨g, o + k, none⟩ = some (.bool y) ∧
                OwnR Value.bool 4 W.heap.size (w9.setCell ⟨g9, o9 + k, none⟩ (.bool y)) (some ⟨g9, o9, none⟩) cap9 (bothK ka kb (k + 1)) ∧ Below W.heap.size W (w9.setCell ⟨g9, o9 + k, none⟩ (.bool y))) := Lib.hid (fun g9 o9 cap9 w9 ⟨h1, h2⟩ => by
              obtain ⟨g8, o8, e8, hc8, hf8⟩ := h2.1.at_ (by simp)
              cases e8
              have hp := h2.put k y (.bool y) rfl
              have hb9 := HB.out.trans h1
              refine ⟨hc8 k _ (by rw [List.getElem?_map, List.getElem?_append_right (by omega), hkm, Nat.sub_self]; rfl), hf8, ?_, by rw [HSet.out]; exact hp.1, hb9.trans (hp.2 hb9.size)⟩
              obtain ⟨gq, oq, eq, hcq⟩ := HKb.out (by omega)
              cases eq
              have hlt := World.block_lt_of_cell? W _ (hcq k _ (List.getElem?_eq_getElem hkl))
              have := h1.cell (p := ⟨g, o + k, none⟩) hlt
              rw [cb] at this
              exact this)
            clear HSet hlen
            generalize hl0 : bothK ka kb k = l0 at *
            go_upto_region 14 with (refine wpList_append_rowk (by rfl) (.tmp 60) (.tmp 61) 27 rfl 4 iB zB 1 1 Try.underlying27 HIB.out HZB.out HSB.out HBB.out HCB.out (by decide) ao2 l0.length cap2 (l0.map Value.bool) rfl HVl.out ⟨wr.heap.size, 0, none⟩ 1 [.bool false] rfl rfl HNw2.out (by simp [Value.oneCell']) (by unfold maxLen; omega) (by omega) ?_; intro g9 o9 cap9 w9 hR9 hG9 hor9; have HE9 := Lib.hid (HAfter.out _ _ _ _ (HMore.out _ _ _ _ hR9 hG9 hor9)); clear hR9 hG9 hor9)
            obtain ⟨c9, f9, b9, -, -⟩ := HE9.out
            go_wp2
            go_roundg (kb.length - (k + 1))
            case measure => omega
            case rel => exact ⟨k + 1, _, _, by omega, by omega, by go_num, by rw [HLen2.out, hkm], HE9.out.2.2.2.1, HE9.out.2.2.2.2⟩
end Go.Proofs.Ytfnjemhmipngdaa
