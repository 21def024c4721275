/-
  CONTRACT OF slices.breakPatternsOrdered at numbers of 32 bits: a permutation.
-/
import Derived.Test.YtloonndeojfepaaUnSort10
import Derived.Laws.Bits64b
namespace Go.Proofs.Ytloonndeojfepaa
open Go.RowKit Go.Sort
set_option linter.unusedVariables false
set_option linter.unusedSimpArgs false

theorem SrtW.turn {W0 W U : World} {blk off : Nat} {d : Array Nat} (h : SrtW W0 blk off d W) {rp : Nat} (hT : Turned (fun j => j = rp) W U) (hn : W0.heap.size ≤ rp) (hne : rp ≠ blk) : SrtW W0 blk off d U := by
  refine ⟨fun j hj => ?_, ⟨hT.os.trans h.turned.os, hT.tape.trans h.turned.tape, hT.output.trans h.turned.output, Nat.le_trans h.turned.size hT.size, fun k hk hn2 => (hT.block k (by have := h.turned.size; omega) (by omega)).trans (h.turned.block k hk hn2)⟩⟩
  have hc := h.holds j hj
  have hk := hT.block blk (World.block_lt_of_cell? W ⟨blk, off + j, none⟩ hc.1) (fun e => hne e.symm)
  refine ⟨(World.cell?_of_block (a := ⟨blk, off + j, none⟩) hk).trans hc.1, ?_⟩
  have e : U.frozen? ⟨blk, off + j, none⟩ = W.frozen? ⟨blk, off + j, none⟩ := by
    unfold World.frozen?
    rw [hk]
  rw [e]
  exact hc.2
theorem lt_of_heap {W : World} {k : Nat} {o : Obj} (h : W.heap[k]? = some o) : k < W.heap.size := by
  rcases Nat.lt_or_ge k W.heap.size with h1 | h1
  · exact h1
  · rw [Array.getElem?_eq_none h1] at h
    cases h
set_option maxRecDepth 100000 in
set_option maxHeartbeats 4000000 in
theorem brkU_any {W0 W : World} {blk off : Nat} {d : Array Nat} (h : SrtW W0 blk off d W) (cap a b : Nat) (hb : b ≤ d.size) (hab : a + 12 < b) (hn : d.size ≤ 1000000) :
    Calls Try.prog 57 #[.slice (some ⟨blk, off, none⟩) d.size cap, .int .i64 (a : Int), .int .i64 (b : Int)] W fun e w' => ∃ d2, e = .returned (.tuple #[]) ∧ PermIn a b d d2 ∧ SrtW W0 blk off d2 w' := by
  obtain ⟨l, hl⟩ : ∃ l, l = b - a := ⟨_, rfl⟩
  obtain ⟨lq, hlq⟩ : ∃ lq, lq = l / 4 := ⟨_, rfl⟩
  obtain ⟨m2, hm2⟩ : ∃ m2, m2 = lq * 2 := ⟨_, rfl⟩
  obtain ⟨am, ham⟩ : ∃ am, am = a + m2 := ⟨_, rfl⟩
  obtain ⟨i0, hi0⟩ : ∃ i0, i0 = am - 1 := ⟨_, rfl⟩
  have hs0 : W0.heap.size ≤ W.heap.size := h.turned.size
  have hbl : blk < W.heap.size := World.block_lt_of_cell? W ⟨blk, off + 0, none⟩ (h.cell (i := 0) (by omega))
  obtain ⟨rp, hrp⟩ : ∃ rp, rp = W.heap.size := ⟨_, rfl⟩
  have hnew := heap_alloc_new W (.cells #[.int .u64 (l : Int)] 99)
  have HA := Lib.hid (h.alloc (.cells #[.int .u64 (l : Int)] 99))
  rw [← hrp] at hnew
  have HNw := Lib.hid hnew
  have HRp : Hid (W0.heap.size ≤ rp ∧ rp ≠ blk) := Lib.hid ⟨by omega, by omega⟩
  have HRq := Lib.hid hrp
  have HP0 : Hid (PermIn a b d d) := Lib.hid (permIn_refl d a b)
  have HTr : Hid (∀ (d' : Array Nat) (i j : Nat), PermIn a b d d' → a ≤ i → i < b → a ≤ j → j < b → PermIn a b d (swp d' i j)) := Lib.hid (fun d' i j h1 h2 h3 h4 h5 => permIn_trans d d' _ a b h1 (swp_permIn d' a b i j h2 h3 h4 h5 (by rw [h1.1]; exact hb)))
  have HSz : Hid (∀ d', PermIn a b d d' → d'.size = d.size) := Lib.hid (fun d' h => h.1)
  have HZ0 : Hid (d.size = d.size) := Lib.hid rfl
  have HPw := Lib.hid (fun w => pow2_any l (by omega) (by omega) w)
  have v1 : IntKind.i64.wrap ((b : Int) - (a : Int)) = (l : Int) := wrap_nat _ _ (by omega) (by omega)
  have v2 : ((l : Int)).tdiv 4 = (lq : Int) := by rw [Int.tdiv_eq_ediv_of_nonneg (by omega)]; omega
  have v3 : IntKind.i64.wrap (lq : Int) = (lq : Int) := IntWalk.i64_in _ (by omega)
  have v4 : IntKind.i64.wrap ((lq : Int) * 2) = (m2 : Int) := wrap_nat _ _ (by omega) (by omega)
  have v5 : IntKind.i64.wrap ((a : Int) + (m2 : Int)) = (am : Int) := wrap_nat _ _ (by omega) (by omega)
  have v6 : IntKind.i64.wrap ((am : Int) - 1) = (i0 : Int) := wrap_nat _ _ (by omega) (by omega)
  have v7 : IntKind.i64.wrap ((am : Int) + 1) = (am : Int) + 1 := IntWalk.i64_in _ (by omega)
  have v8 : IntKind.u64.wrap (l : Int) = (l : Int) := IntWalk.u64_in _ (by omega)
  have e1 : decide ((l : Int) ≥ 8) = true := by simp; omega
  have e1' : decide (8 ≤ (l : Int)) = true := by simp; omega
  have e1n : decide (8 ≤ l) = true := by simp; omega
  have HB : Hid (a ≤ i0 ∧ i0 + 1 = am ∧ am + 2 ≤ b ∧ a + l = b ∧ 8 ≤ l ∧ l ≤ 1000000 ∧ b ≤ d.size) := Lib.hid (by omega)
  have HN := Lib.hid hn
  generalize d.size = n at *
  clear h hnew hrp hl hlq hm2 ham hi0 hs0 hbl
  go_enter Try.func57, Try.ntmps57
  go_upto_region 3 with fail
  generalize hW1 : W.alloc (.cells #[.int .u64 (l : Int)] 99) = W1
  rw [hW1] at HA HNw
  rw [← HRq.out]
  clear hW1
  go_wp2_with (go_at_call 65; refine (HPw.out _).mono ?_; rintro e w2 ⟨md, rfl, hm1, hm2, rfl⟩; replace hm1 := Lib.hid hm1; replace hm2 := Lib.hid hm2)
  go_loopg [9] 5 (fun g iv wr => ∃ (ix : Nat) (d' : Array Nat), i0 + 4 - ix ≤ g ∧ i0 ≤ ix ∧ ix ≤ i0 + 3 ∧ iv = .int .i64 (ix : Int) ∧ Hid (PermIn a b d d') ∧ Hid (n = d'.size) ∧ Hid (∃ y : Int, (0 ≤ y ∧ y < 18446744073709551616) ∧ wr.heap[rp]? = some (.cells #[.int .u64 y] 99 (0, 0))) ∧ SrtW W0 blk off d' wr)
  case atStart => exact ⟨i0, d, by omega, Nat.le_refl _, by omega, by go_num, HP0, Lib.hid (HSz.out d HP0.out).symm, Lib.hid ⟨(l : Int), by have := HB.out; omega, HNw.out⟩, HA.out⟩
  case round =>
    obtain ⟨ix, d', hg, hi, hi3, rfl, hP, hZ, hY, hW⟩ := hrel
    have HW := Lib.hid hW
    clear hW
    by_cases hle : ix ≤ am + 1
    · have e2 : decide ((ix : Int) ≤ (am : Int) + 1) = true := by simp; omega
      have e2n : decide (ix ≤ am + 1) = true := by simpa using hle
      have HXr := Lib.hid (xor_any (W := wr) (rp := rp) (by
        obtain ⟨y, h1, h2⟩ := hY.out
        exact ⟨y, h1, h2, Turned.refl⟩))
      have i1 : ix + 1 ≤ 1000000001 := by have := HB.out; have := HN.out; omega
      have w9 : IntKind.u64.wrap ((md : Int) - 1) = (md : Int) - 1 := IntWalk.u64_in _ (by have := HB.out; have := hm1.out; have := hm2.out; omega)
      have HBt : Hid (∀ y : Nat, y < 18446744073709551616 → ∃ o : Nat, bits .and .u64 (y : Int) ((md : Int) - 1) = (o : Int) ∧ o < 2 * l ∧ IntKind.i64.wrap (o : Int) = (o : Int)) := Lib.hid (by
        intro y hy
        have h1 := HB.out
        have h2 := hm1.out
        have h3 := hm2.out
        have h4 : y &&& (md - 1) ≤ md - 1 := Nat.and_le_right
        refine ⟨y &&& (md - 1), ?_, by omega, IntWalk.i64_in _ (by omega)⟩
        rw [← bits_and_u64_nat y (md - 1) hy (by omega), show ((md - 1 : Nat) : Int) = (md : Int) - 1 by omega])
      go_upto_region 8 with (go_at_call 66; refine HXr.out.mono ?_; rintro e w3 ⟨y, rfl, hy, hX⟩; obtain ⟨o, hO, hol, hwo⟩ := HBt.out y hy; replace hX := Lib.hid hX; clear hy)
      obtain ⟨y2, hy2, hc2, hT2⟩ := hX.out
      have HW6 := Lib.hid (HW.out.turn hT2 HRp.out.1 HRp.out.2)
      have HY6 := Lib.hid (And.intro hy2 hc2)
      have hB := HB.out
      have hN := HN.out
      have hRp := HRp.out.2
      clear hX hT2 hc2 hO
      by_cases hol2 : o ≥ l
      · have e3 : decide ((o : Int) ≥ (l : Int)) = true := by simp; omega
        have e3' : decide ((l : Int) ≤ (o : Int)) = true := by simp; omega
        have e3n : decide (l ≤ o) = true := by simpa using hol2
        obtain ⟨oo, hoo⟩ : ∃ oo, oo = o - l := ⟨_, rfl⟩
        obtain ⟨fo, hfo⟩ : ∃ fo, fo = a + oo := ⟨_, rfl⟩
        have u1 : IntKind.i64.wrap ((o : Int) - (l : Int)) = (oo : Int) := wrap_nat _ _ (by omega) (by omega)
        have u2 : IntKind.i64.wrap ((a : Int) + (oo : Int)) = (fo : Int) := wrap_nat _ _ (by omega) (by omega)
        have hfb : a ≤ fo ∧ fo < b := by omega
        have hfn : fo < n := by omega
        have hin : ix < n := by omega
        have hia : a ≤ ix ∧ ix < b ∧ ix + 1 ≤ i0 + 3 := by omega
        clear hfo hB hol hol2 hoo
        go_upto_region 10 with fail
        have h2 := HW6.out
        have d1 := h2.cell (i := ix) (by rw [← hZ.out]; omega)
        have d0 := h2.cell (i := fo) (by rw [← hZ.out]; omega)
        have g1 := h2.free (i := ix) (by rw [← hZ.out]; omega)
        have g0 := h2.free (i := fo) (by rw [← hZ.out]; omega)
        have p0 := (h2.put (i := ix) (by rw [← hZ.out]; omega) d'[fo]!).cell (i := fo) (by rw [Array.size_setIfInBounds, ← hZ.out]; omega)
        have HS_ := Lib.hid (h2.drew.swap (i := ix) (j := fo) (by rw [← hZ.out]; omega) (by rw [← hZ.out]; omega))
        have HZ3 : Hid (n = (swp d' (ix) (fo)).size) := Lib.hid (by rw [SrtW.size_swp]; exact hZ.out)
        have HP4 := Lib.hid (HTr.out d' ix fo hP.out hia.1 hia.2.1 hfb.1 hfb.2)
        have HY7 : Hid (∃ y : Int, (0 ≤ y ∧ y < 18446744073709551616) ∧ ((w3.drew.setCell ⟨blk, off + ix, none⟩ (.int .u32 (d'[fo]! : Int))).setCell ⟨blk, off + fo, none⟩ (.int .u32 (d'[ix]! : Int))).heap[rp]? = some (.cells #[.int .u64 y] 99 (0, 0))) := Lib.hid ⟨y2, HY6.out.1, (((Turned.drew (S := fun j => j = blk) (Turned.refl (w := w3))).trans (Turned.set (S := fun j => j = blk) (a := ⟨blk, off + ix, none⟩) rfl _)).trans (Turned.set (S := fun j => j = blk) (a := ⟨blk, off + fo, none⟩) rfl _) |>.block rp (lt_of_heap HY6.out.2) hRp).trans HY6.out.2⟩
        clear h2
        generalize (Array.setIfInBounds d' (ix) d'[fo]!)[fo]! = z0 at *
        generalize swp d' (ix) (fo) = d4 at *
        generalize d'[ix]! = x1 at *
        generalize d'[fo]! = x0 at *
        go_region_with (fail)
        all_goals
          go_wp2
          go_roundg (i0 + 4 - (ix + 1))
          case measure => omega
          case rel => exact ⟨ix + 1, d4, by omega, by omega, by omega, by go_num, HP4, HZ3, HY7, HS_.out⟩
      · have e3 : decide ((o : Int) ≥ (l : Int)) = false := by simp; omega
        have e3' : decide ((l : Int) ≤ (o : Int)) = false := by simp; omega
        have e3n : decide (l ≤ o) = false := by simpa using hol2
        obtain ⟨fo, hfo⟩ : ∃ fo, fo = a + o := ⟨_, rfl⟩
        have u2 : IntKind.i64.wrap ((a : Int) + (o : Int)) = (fo : Int) := wrap_nat _ _ (by omega) (by omega)
        have hfb : a ≤ fo ∧ fo < b := by omega
        have hfn : fo < n := by omega
        have hin : ix < n := by omega
        have hia : a ≤ ix ∧ ix < b ∧ ix + 1 ≤ i0 + 3 := by omega
        clear hfo hB hol hol2
        go_upto_region 10 with fail
        have h2 := HW6.out
        have d1 := h2.cell (i := ix) (by rw [← hZ.out]; omega)
        have d0 := h2.cell (i := fo) (by rw [← hZ.out]; omega)
        have g1 := h2.free (i := ix) (by rw [← hZ.out]; omega)
        have g0 := h2.free (i := fo) (by rw [← hZ.out]; omega)
        have p0 := (h2.put (i := ix) (by rw [← hZ.out]; omega) d'[fo]!).cell (i := fo) (by rw [Array.size_setIfInBounds, ← hZ.out]; omega)
        have HS_ := Lib.hid (h2.drew.swap (i := ix) (j := fo) (by rw [← hZ.out]; omega) (by rw [← hZ.out]; omega))
        have HZ3 : Hid (n = (swp d' (ix) (fo)).size) := Lib.hid (by rw [SrtW.size_swp]; exact hZ.out)
        have HP4 := Lib.hid (HTr.out d' ix fo hP.out hia.1 hia.2.1 hfb.1 hfb.2)
        have HY7 : Hid (∃ y : Int, (0 ≤ y ∧ y < 18446744073709551616) ∧ ((w3.drew.setCell ⟨blk, off + ix, none⟩ (.int .u32 (d'[fo]! : Int))).setCell ⟨blk, off + fo, none⟩ (.int .u32 (d'[ix]! : Int))).heap[rp]? = some (.cells #[.int .u64 y] 99 (0, 0))) := Lib.hid ⟨y2, HY6.out.1, (((Turned.drew (S := fun j => j = blk) (Turned.refl (w := w3))).trans (Turned.set (S := fun j => j = blk) (a := ⟨blk, off + ix, none⟩) rfl _)).trans (Turned.set (S := fun j => j = blk) (a := ⟨blk, off + fo, none⟩) rfl _) |>.block rp (lt_of_heap HY6.out.2) hRp).trans HY6.out.2⟩
        clear h2
        generalize (Array.setIfInBounds d' (ix) d'[fo]!)[fo]! = z0 at *
        generalize swp d' (ix) (fo) = d4 at *
        generalize d'[ix]! = x1 at *
        generalize d'[fo]! = x0 at *
        go_region_with (fail)
        all_goals
          go_wp2
          go_roundg (i0 + 4 - (ix + 1))
          case measure => omega
          case rel => exact ⟨ix + 1, d4, by omega, by omega, by omega, by go_num, HP4, HZ3, HY7, HS_.out⟩
    · have e2 : decide ((ix : Int) ≤ (am : Int) + 1) = false := by simp; omega
      have e2n : decide (ix ≤ am + 1) = false := by simpa using hle
      go_wp2
      go_end0
      exact ⟨d', by simp, hP.out, HW.out⟩
end Go.Proofs.Ytloonndeojfepaa
