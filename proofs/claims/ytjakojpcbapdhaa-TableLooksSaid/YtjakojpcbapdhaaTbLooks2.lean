/-
  THE WALK OF TableLooks.
-/
import Derived.Test.YtjakojpcbapdhaaTbLooks
import Derived.Deep.RegionHeld3
import Derived.IntWalk
namespace Go.Proofs.Ytjakojpcbapdhaa
open Go.RowKit Go.Shelf
set_option linter.unusedVariables false
set_option linter.unusedSimpArgs false

set_option maxRecDepth 100000 in
set_option maxHeartbeats 4000000 in
theorem looks_walk (v : Value) (l : List ActN) (q : RowN) (w : World) (hv : SliceK actL w v l) (hok : ∀ a ∈ l, okA a) (hq : okN q) : Calls Try.prog 4 #[v, rowV q] w fun e w' => e = .returned (.bool true) ∧ Below w.heap.size w w' := by
  obtain ⟨ao, cap, rfl⟩ : ∃ ao cap, v = .slice ao l.length cap := by
    rcases hv with ⟨rfl, rfl⟩ | ⟨b, off, cap, rfl, _⟩
    · exact ⟨none, 0, rfl⟩
    · exact ⟨_, _, rfl⟩
  have hmax : l.length ≤ maxLen := by
    rcases hv with ⟨_, rfl⟩ | ⟨b, off, cap', e, h1, h2, _⟩
    · exact Nat.zero_le _
    · omega
  obtain ⟨n0, hn0⟩ : ∃ n0, n0 = w.heap.size := ⟨_, rfl⟩
  have hc0 := heap_alloc_new w (.cells (rowC q) 34)
  have hb0 := (Below.refl w.heap.size w).alloc (Nat.le_refl _) (.cells (rowC q) 34)
  have hs0 : (w.alloc (.cells (rowC q) 34)).heap.size = w.heap.size + 1 := World.size_alloc _ _
  obtain ⟨W0, hW0⟩ : ∃ W0, W0 = w.alloc (.cells (rowC q) 34) := ⟨_, rfl⟩
  rw [← hW0] at hc0 hb0 hs0
  rw [← hn0] at hc0
  have HB0 := Lib.hid hb0
  have HLook : Hid (∀ U, Below W0.heap.size W0 U → U.cell? ⟨n0, 0, none⟩ = some (.int .u32 (q.1 : Int)) ∧ U.cell? ⟨n0, 1, none⟩ = some (.int .u32 (q.2.1 : Int)) ∧ U.cell? ⟨n0, 2, none⟩ = some (.int .u32 (q.2.2 : Int))) := Lib.hid (fun U hU => by
    have k0 := (hU.block n0 (by omega)).trans hc0
    exact ⟨cell_in k0 rfl, cell_in k0 rfl, cell_in k0 rfl⟩)
  have HW0 := Lib.hid hW0
  have HN0 := Lib.hid hn0
  have HS0 := Lib.hid hs0
  by_cases hl : 60 < l.length
  · have e1 : decide ((l.length : Int) > 60) = true := by simp; omega
    have e1' : decide (60 < (l.length : Int)) = true := by simp; omega
    have e1n : decide (60 < l.length) = true := by simpa using hl
    have HK := Lib.hid (known8_any W0)
    clear hv hok hl hc0 hb0 hs0 hW0 hn0
    go_enter Try.func4, Try.ntmps4
    go_upto_region 1 with fail
    rw [← HW0.out, ← HN0.out]
    go_wp2_with (go_at_call 7; refine HK.out.mono ?_; rintro e w' ⟨rfl, hb⟩; replace hb := Lib.hid hb)
    go_ret
    exact ⟨rfl, HB0.out.trans (hb.out.mono HB0.out.size)⟩
  have e1 : decide ((l.length : Int) > 60) = false := by simp; omega
  have e1' : decide (60 < (l.length : Int)) = false := by simp; omega
  have e1n : decide (60 < l.length) = false := by simpa using hl
  have HCell : Hid (∀ U, Below W0.heap.size W0 U → ∀ (k : Nat) (a : ActN), l[k]? = some a → okA a ∧ ∃ b off, ao = some ⟨b, off, none⟩ ∧ ∀ j u, (actL a)[j]? = some u → U.cell? ⟨b, off + k * 7 + j, none⟩ = some u) := Lib.hid (fun U hU0 k a hk => by
    refine ⟨hok a (List.mem_of_getElem? hk), ?_⟩
    have hU : Below w.heap.size w U := HB0.out.trans (hU0.mono HB0.out.size)
    rcases hv with ⟨_, h0⟩ | ⟨b, off, cap', h1, _, _, h2⟩
    · rw [h0] at hk; simp at hk
    · injection h1 with h1
      refine ⟨b, off, h1, fun j u hu => ?_⟩
      have hj7 : j < 7 := (List.getElem?_eq_some_iff.1 hu).1
      have h3 := h2 (k * 7 + j) u (by rw [flat_get actL 7 (fun _ => rfl) l k j a hk hj7]; exact hu)
      rw [← Nat.add_assoc] at h3
      exact (hU.cell (p := ⟨b, off + k * 7 + j, none⟩) (World.block_lt_of_cell? _ ⟨b, off + k * 7 + j, none⟩ h3)).trans h3)
  have HNew := Lib.hid (tbNew_any W0)
  have HKn := Lib.hid known8_any
  have HPn := Lib.hid (playNew W0)
  have hl2 : l.length ≤ 60 := by omega
  clear hv hok hl hc0 hb0 hs0 hW0 hn0
  go_enter Try.func4, Try.ntmps4
  go_upto_region 1 with fail
  rw [← HW0.out, ← HN0.out]
  go_wp2_with (go_at_call 8; refine HNew.out.mono ?_; rintro e w1 ⟨rfl, hb1, hs1, hT1⟩; have hP := Lib.hid (HPn.out w1 hb1 hs1 hT1); clear hb1 hs1 hT1)
  obtain ⟨tb, htb⟩ : ∃ tb, tb = W0.heap.size + 1 + 1 := ⟨_, rfl⟩
  obtain ⟨wb, hwb⟩ : ∃ wb, wb = w1.heap.size := ⟨_, rfl⟩
  rw [← htb, ← hwb] at hP
  rw [← htb, ← hwb]
  clear htb hwb
  go_loopg [7] l.length (fun g i wr => ∃ k : Nat, k ≤ l.length ∧ l.length - k ≤ g ∧ i = .int .i64 (k : Int) ∧ PlayI W0 tb tb wb (playR [] l k) wr)
  case atStart => exact ⟨0, Nat.zero_le _, by omega, rfl, hP.out⟩
  case round =>
    obtain ⟨k, hk, hg, rfl, hI⟩ := hrel
    have HI := Lib.hid hI
    have hln : (playR [] l k).length ≤ 1000000 := by have := playR_len [] l k; simp at this; omega
    by_cases hlt : k < l.length
    · obtain ⟨a, ha⟩ : ∃ a, l[k]? = some a := ⟨_, List.getElem?_eq_getElem hlt⟩
      obtain ⟨hka, b, off, rfl, hc⟩ := HCell.out wr hI.bel k a ha
      have c0 := hc 0 _ rfl
      have c1 := hc 1 _ rfl
      have c2 := hc 2 _ rfl
      have c3 := hc 3 _ rfl
      have c4 := hc 4 _ rfl
      have c5 := hc 5 _ rfl
      have c6 := hc 6 _ rfl
      rw [Nat.add_zero] at c0
      have e2 : decide ((k : Int) < (l.length : Int)) = true := by simp; omega
      have i0 : (0 : Int) ≤ (k : Int) := by omega
      have i1 : (k : Int) < (l.length : Int) := by omega
      have hdo := HI.out.do_ a hka hln
      rw [← playR_succ ha] at hdo
      have HDo := Lib.hid hdo
      clear hI ha hka hc hdo hln
      go_wp2_with (go_at_call 9; refine HDo.out.mono ?_; rintro e w2 ⟨rfl, hI2⟩; replace hI2 := Lib.hid hI2)
      go_roundg (l.length - (k + 1))
      case measure => omega
      case rel => exact ⟨k + 1, by omega, Nat.le_refl _, by go_num, hI2.out⟩
    · obtain rfl : k = l.length := by omega
      have e2 : decide ((l.length : Int) < (l.length : Int)) = false := by simp
      generalize playR [] l l.length = R at *
      clear hI hlt hg hk HCell hP
      go_wp2
      rename World => wo
      go_loopg [8, 9, 10, 11] 8 (fun g m _ _ _ wr => ∃ k : Nat, k ≤ 8 ∧ 8 - k ≤ g ∧ m = .int .i64 (k : Int) ∧ PlayI W0 tb tb wb R wr)
      case atStart => exact ⟨0, by omega, by omega, rfl, HI.out⟩
      case round =>
        obtain ⟨m, hm, hg, rfl, hI2⟩ := hrel
        obtain ⟨d0, d1, d2⟩ := HLook.out _ hI2.bel
        have HI2 := Lib.hid hI2
        by_cases hm8 : m < 8
        · have e3 : decide ((m : Int) < 8) = true := by simp; omega
          obtain ⟨wb0, hwb0⟩ : ∃ wb0, wb0 = wr := ⟨_, rfl⟩
          subst hwb0
          have ha0 := heap_alloc_new wb0 (.cells (rowC q) 34)
          have hb3 := (Below.refl wb0.heap.size wb0).alloc (Nat.le_refl _) (.cells (rowC q) 34)
          obtain ⟨p, hp⟩ : ∃ p, p = wb0.heap.size := ⟨_, rfl⟩
          obtain ⟨U0, hU0⟩ : ∃ U0, U0 = wb0.alloc (.cells (rowC q) 34) := ⟨_, rfl⟩
          rw [← hU0] at ha0 hb3
          rw [← hp] at ha0
          have HP := Lib.hid hp
          have HU0 := Lib.hid hU0
          have HA0 := Lib.hid ha0
          have HB3 := Lib.hid hb3
          clear hI2 ha0 hp hU0 hb3
          go_upto_region 13 with fail
          rw [← HU0.out, ← HP.out]
          clear d0 d1 d2
          go_wp2
          go_loopg [10] 3 (fun g i U => ∃ (k : Nat) (x : RowN), k ≤ 3 ∧ 3 - k ≤ g ∧ i = .int .i64 (k : Int) ∧ okN x ∧ U.heap[p]? = some (.cells (rowC x) 34 (0, 0)) ∧ Below wb0.heap.size wb0 U)
          case atStart => exact ⟨0, q, by omega, by omega, rfl, hq, HA0.out, HB3.out⟩
          case round =>
            obtain ⟨k, x, hk, hg, rfl, hx, hxc, hbU⟩ := hrel
            have HX := Lib.hid hx
            have HXc := Lib.hid hxc
            have HBU := Lib.hid hbU
            by_cases hk3 : k < 3
            · have e4 : decide ((k : Int) < 3) = true := by simp; omega
              have k0 : (0 : Int) ≤ (k : Int) := by omega
              have k3 : (k : Int) < 3 := by omega
              have hfz := free_in hxc
              obtain ⟨u0, hu0⟩ : ∃ u, wr.cell? ⟨p, k, none⟩ = some u := by
                match k, hk3 with
                | 0, _ => exact ⟨_, cell_in hxc rfl⟩
                | 1, _ => exact ⟨_, cell_in hxc rfl⟩
                | 2, _ => exact ⟨_, cell_in hxc rfl⟩
              have HK1 : Hid ((wr.setCell ⟨p, k, none⟩ (.int .u32 0)).heap[p]? = some (.cells (rowC (zeroN x k)) 34 (0, 0)) ∧ Below wb0.heap.size wb0 (wr.setCell ⟨p, k, none⟩ (.int .u32 0))) := Lib.hid (by
                refine ⟨by rw [← rowC_zero x k hk3]; exact heap_setCell_same wr p k _ _ _ hxc, hbU.setCell (p := ⟨p, k, none⟩) (show wb0.heap.size ≤ p by rw [HP.out]; exact Nat.le_refl _) _⟩)
              clear hx hxc hbU
              by_cases hm2 : (((m : Int) / 2 ^ k).tmod 2 == 0) = true
              · go_wp2
                go_roundg (3 - (k + 1))
                case measure => omega
                case rel => exact ⟨k + 1, zeroN x k, by omega, Nat.le_refl _, by go_num, okN_zero HX.out k, HK1.out.1, HK1.out.2⟩
              · replace hm2 : (((m : Int) / 2 ^ k).tmod 2 == 0) = false := by simpa using hm2
                go_wp2
                go_roundg (3 - (k + 1))
                case measure => omega
                case rel => exact ⟨k + 1, x, by omega, Nat.le_refl _, by go_num, HX.out, HXc.out, HBU.out⟩
            · have e4 : decide ((k : Int) < 3) = false := by simp; omega
              have hI4 := HI2.out.below HBU.out
              obtain ⟨ra, rc, hrw⟩ := hI4.rows
              have hP0 := LookP.start hxc hrw
              have hPd := hP0.step (Below.refl _ _).drew
              have HPd : Hid (LookP wr p wb x ra R.length rc wr.drew) := Lib.hid hPd
              have HCo := Lib.hid (fun U hU => hI4.lCount (p := p) (rc := rc) (ra := ra) hx U hU)
              have HMa := Lib.hid (fun U hU => hI4.lMatch (p := p) (rc := rc) (ra := ra) (x := x) hln U hU)
              have HM : Hid (∀ (lo hi b : Int), 0 ≤ b → b < 256 → ∀ U, LookP wr p wb x ra R.length rc U → Calls Try.prog 13 #[tabP tb, refP wb, .agg #[.int .u32 (x.1 : Int), .int .u32 (x.2.1 : Int), .int .u32 (x.2.2 : Int)], .int .i64 lo, .int .i64 hi, .int .u8 b] U fun e w' => e = .returned (.bool true) ∧ LookP wr p wb x ra R.length rc w') := Lib.hid (fun lo hi b h0 h1 U hU => by
                have := hI4.lMatches (p := p) (rc := rc) (ra := ra) hx hln lo hi b.toNat (by omega) U hU
                rwa [Int.toNat_of_nonneg h0] at this)
              have HI4 := Lib.hid hI4
              have v1 : IntKind.i64.wrap ((R.length : Int) - 1) = (R.length : Int) - 1 := IntWalk.i64_in _ (by omega)
              generalize cntQ x R = c at *
              have ec : ((c : Int) != (c : Int)) = false := by simp
              clear hI4 hP0 hrw hx hxc hbU hk3 hk
              go_upto_region 18 with fail
              go_region_held3 (fun W' => W'.cell? ⟨p, 0, none⟩ = some (.int .u32 (x.1 : Int)) ∧ W'.cell? ⟨p, 1, none⟩ = some (.int .u32 (x.2.1 : Int)) ∧ W'.cell? ⟨p, 2, none⟩ = some (.int .u32 (x.2.2 : Int)) ∧ W'.cell? ⟨wb, 0, none⟩ = some (.slice ra R.length rc) ∧ Below wr.heap.size wr W') ((first | assumption | exact HPd.out)) ((go_at_call 11; refine (HMa.out _ HPd.out).mono ?_; rintro e y0 ⟨⟨ao2, cap2, rfl⟩, hY0⟩))
              have HY0 := Lib.hid (hY0.step (Below.refl _ _).drew)
              have hYd := hY0.step (Below.refl _ _).drew
              clear hPd hY0
              go_upto_region 19 with fail
              go_region_held3 (fun W' => W'.cell? ⟨p, 0, none⟩ = some (.int .u32 (x.1 : Int)) ∧ W'.cell? ⟨p, 1, none⟩ = some (.int .u32 (x.2.1 : Int)) ∧ W'.cell? ⟨p, 2, none⟩ = some (.int .u32 (x.2.2 : Int)) ∧ W'.cell? ⟨wb, 0, none⟩ = some (.slice ra R.length rc) ∧ Below wr.heap.size wr W') ((first | assumption | exact HY0.out)) ((first | (go_at_call 12; refine (HCo.out _ (by assumption)).mono ?_; rintro e y1 ⟨rfl, hY1⟩) | (go_at_call 13; refine (HM.out _ _ _ (by decide) (by decide) _ (by assumption)).mono ?_; rintro e y2 ⟨rfl, hY2⟩)))
              have HEnd := Lib.hid (HI4.out.below hY2.2.2.2.2)
              clear hY1 hY2 hYd
              go_wp2
              go_roundg (8 - (m + 1))
              case measure => omega
              case rel => exact ⟨m + 1, by omega, Nat.le_refl _, by go_num, HEnd.out⟩
        · have e3 : decide ((m : Int) < 8) = false := by simp; omega
          clear hI2
          go_wp2_with (go_at_call 7; refine (HKn.out _).mono ?_; rintro e w4 ⟨rfl, hb4⟩; replace hb4 := Lib.hid hb4)
          go_ret
          exact ⟨rfl, HB0.out.trans ((HI2.out.bel.trans (hb4.out.mono HI2.out.bel.size)).mono HB0.out.size)⟩
end Go.Proofs.Ytjakojpcbapdhaa
