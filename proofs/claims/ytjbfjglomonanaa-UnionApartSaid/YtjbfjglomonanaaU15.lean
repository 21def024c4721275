/-
  WHAT THE PROOF STANDS ON, a part of it: Shelf, UnSort10, UnSort11.
-/
import Derived.RowKit
import Derived.Shelf.Small.Bits
import Derived.Shelf.Strconv.Itoa0
import Derived.Test.YtjbfjglomonanaaProg
import Derived.Test.YtjbfjglomonanaaU11
import Derived.Lib.ItoaNum
import Derived.Sort.Lot0
import Derived.Laws.Bits64b
/-
  THE LIBRARY CONTRACTS that the texts of this seat lean on, laid at this program.
-/

namespace Go.Proofs
open Go.Shelf
open Go.RowKit
def Try.lays125_ren : Go.Shelf.Ren := ⟨fun | 125 => 41 | 128 => 53 | 129 => 54 | n => n, fun | 46 => 79 | 3 => 3 | 51 => 23 | 53 => 92 | 4 => 4 | 5 => 5 | 9 => 9 | n => n, fun | n => n⟩
theorem Try.lays125 : Go.Proofs.Lays.n125 Try.prog Try.lays125_ren := {
  mixed := by kernel_rfl
  f125 := Try.func41.trans (congrArg some (by kernel_rfl))
  f128 := Try.func53.trans (congrArg some (by kernel_rfl))
  f129 := Try.func54.trans (congrArg some (by kernel_rfl))
  t3 := Try.underlying3
  a3 := Try.isAgg3
  z3 := Try.sizeOf3
  v3 := Try.zeroValue3
  t4 := Try.underlying4
  a4 := Try.isAgg4
  z4 := Try.sizeOf4
  v4 := Try.zeroValue4
  t5 := Try.underlying5
  a5 := Try.isAgg5
  z5 := Try.sizeOf5
  v5 := Try.zeroValue5
  t9 := Try.underlying9
  a9 := Try.isAgg9
  z9 := Try.sizeOf9
  v9 := Try.zeroValue9
  t46 := Try.underlying79
  a46 := Try.isAgg79
  z46 := Try.sizeOf79
  v46 := Try.zeroValue79
  t51 := Try.underlying23
  a51 := Try.isAgg23
  z51 := Try.sizeOf23
  v51 := Try.zeroValue23
  t53 := Try.underlying92
  a53 := Try.isAgg92
  z53 := Try.sizeOf92
  v53 := Try.zeroValue92 }
theorem Try.bits_Len (x : Int) (w : World) (h0 : 0 ≤ x) (h1 : x ≤ 18446744073709551615) :
    Calls Try.prog 41 #[.int .u64 x] w fun e w' => e = .returned (.int .i64 (Lib.bitLen x.toNat)) ∧ w' = w := Any.bits_Len Try.lays125 x w h0 h1
end Go.Proofs

/-
  CONTRACTS OF the library's xorshift, nextPowerOfTwo, and slices.breakPatternsOrdered at numbers of 32 bits: a permutation.
-/

namespace Go.Proofs.Ytjbfjglomonanaa
open Go.RowKit Go.Sort
set_option linter.unusedVariables false
set_option linter.unusedSimpArgs false

theorem u64_of_nat (n : Nat) : 0 ≤ IntKind.u64.wrap (n : Int) ∧ IntKind.u64.wrap (n : Int) < 18446744073709551616 := by
  rw [IntKind.wrap_u64]
  omega
theorem xor_u64 (a b : Int) : 0 ≤ bits .xor .u64 a b ∧ bits .xor .u64 a b < 18446744073709551616 := by
  unfold bits
  exact u64_of_nat _
set_option maxRecDepth 100000 in
set_option maxHeartbeats 4000000 in
theorem pow2_any (l : Nat) (h8 : 8 ≤ l) (hl : l ≤ 1000000) (w : World) : Calls Try.prog 65 #[.int .i64 (l : Int)] w fun e w' => ∃ m : Nat, e = .returned (.int .u64 (m : Int)) ∧ l < m ∧ m ≤ 2 * l ∧ w' = w := by
  have HL := Lib.hid (Try.bits_Len (l : Int) w (by omega) (by omega))
  have v1 : IntKind.u64.wrap (l : Int) = (l : Int) := IntWalk.u64_in _ (by omega)
  go_enter Try.func65, Try.ntmps65
  go_wp2_with (go_at_call 41; refine HL.out.mono ?_; rintro e w' ⟨rfl, rfl⟩)
  go_ret
  obtain ⟨h1, h2, h3⟩ := Lib.bitLenAux_bounds 64 l (Nat.lt_of_le_of_lt hl (by decide)) (by omega)
  obtain ⟨L, hL⟩ : ∃ L, L = Lib.bitLen l := ⟨_, rfl⟩
  rw [show Lib.bitLenAux 64 l = L from hL.symm] at h1 h2 h3
  obtain ⟨k, rfl⟩ : ∃ k, L = k + 1 := ⟨L - 1, by omega⟩
  rw [Nat.add_sub_cancel] at h2
  have hk : k < 20 := by
    by_cases hk : k < 20
    · exact hk
    · have := Nat.pow_le_pow_right (n := 2) (by omega) (show 20 ≤ k by omega)
      omega
  rw [Nat.pow_succ] at h3
  refine ⟨2 ^ (k + 1), ?_, by rw [Nat.pow_succ]; omega, by rw [Nat.pow_succ]; omega, rfl⟩
  have e : IntKind.u64.wrap (2 ^ min (Lib.bitLen l) 64) = ((2 ^ (k + 1) : Nat) : Int) := by
    rw [← hL, Nat.min_eq_left (by omega), show ((2 : Int) ^ (k + 1)) = ((2 ^ (k + 1) : Nat) : Int) by simp]
    refine IntWalk.u64_in _ ⟨by omega, ?_⟩
    have : 2 ^ (k + 1) ≤ 2 * l := by rw [Nat.pow_succ]; omega
    omega
  simp [e]
def XorI (rp : Nat) (W U : World) : Prop := ∃ y : Int, (0 ≤ y ∧ y < 18446744073709551616) ∧ U.heap[rp]? = some (.cells #[.int .u64 y] 99 (0, 0)) ∧ Turned (fun j => j = rp) W U
theorem XorI.set {rp : Nat} {W U : World} (h : XorI rp W U) (y : Int) (hy : 0 ≤ y ∧ y < 18446744073709551616) : XorI rp W (U.setCell ⟨rp, 0, none⟩ (.int .u64 y)).drew := by
  obtain ⟨x, _, hx, hT⟩ := h
  exact ⟨y, hy, heap_setCell_same U rp 0 _ _ (.int .u64 y) hx, (hT.trans (Turned.set (S := fun j => j = rp) (a := ⟨rp, 0, none⟩) rfl _)).drew⟩
set_option maxRecDepth 100000 in
set_option maxHeartbeats 4000000 in
theorem xor_any {W : World} {rp : Nat} (h : XorI rp W W) : Calls Try.prog 66 #[.pointer (some ⟨rp, 0, none⟩)] W fun e w' => ∃ y : Nat, e = .returned (.int .u64 (y : Int)) ∧ y < 18446744073709551616 ∧ XorI rp W w' := by
  have H1 := Lib.hid h
  clear h
  go_enter Try.func66, Try.ntmps66
  obtain ⟨x1, hx, hc, hT⟩ := H1.out
  have x1 : W.cell? ⟨rp, 0, none⟩ = some (.int .u64 x1) := cell_in hc rfl
  have x2 : W.frozen? ⟨rp, 0, none⟩ = false := free_in hc 0
  have HX := Lib.hid (fun y hy => H1.out.set y hy)
  clear hx hc hT
  go_upto_region 1 with fail
  go_cut [] (fun wx => XorI rp W wx)
  case first =>
    go_region_with (fail)
    all_goals
      go_wp2
      go_meet
      exact HX.out _ (xor_u64 _ _)
  case rest =>
    have H2 := Lib.hid hcut
    clear hcut x1 x2 HX
    rename World => y2
    obtain ⟨x2, hx, hc, hT⟩ := H2.out
    have x1 : y2.cell? ⟨rp, 0, none⟩ = some (.int .u64 x2) := cell_in hc rfl
    have x2 : y2.frozen? ⟨rp, 0, none⟩ = false := free_in hc 0
    have HX := Lib.hid (fun y hy => H2.out.set y hy)
    clear hx hc hT
    go_upto_region 2 with fail
    go_cut [] (fun wx => XorI rp W wx)
    case first =>
      go_region_with (fail)
      all_goals
        go_wp2
        go_meet
        exact HX.out _ (xor_u64 _ _)
    case rest =>
      have H3 := Lib.hid hcut
      clear hcut x1 x2 HX
      rename World => y3
      obtain ⟨x3, hx, hc, hT⟩ := H3.out
      have x1 : y3.cell? ⟨rp, 0, none⟩ = some (.int .u64 x3) := cell_in hc rfl
      have x2 : y3.frozen? ⟨rp, 0, none⟩ = false := free_in hc 0
      have HX := Lib.hid (fun y hy => H3.out.set y hy)
      clear hx hc hT
      go_upto_region 3 with fail
      go_cut [] (fun wx => XorI rp W wx)
      case first =>
        go_region_with (fail)
        all_goals
          go_wp2
          go_meet
          exact HX.out _ (xor_u64 _ _)
      case rest =>
        have H4 := Lib.hid hcut
        clear hcut x1 x2 HX
        rename World => y4
        obtain ⟨x4, hx, hc, hT⟩ := H4.out
        have x1 : y4.cell? ⟨rp, 0, none⟩ = some (.int .u64 x4) := cell_in hc rfl
        have HX4 := Lib.hid hx
        clear hx hc hT
        go_wp2
        go_ret
        exact ⟨x4.toNat, by simp [Int.toNat_of_nonneg HX4.out.1], by have := HX4.out; omega, H4.out⟩
end Go.Proofs.Ytjbfjglomonanaa

/-
  CONTRACT OF slices.breakPatternsOrdered at numbers of 32 bits: a permutation.
-/

namespace Go.Proofs.Ytjbfjglomonanaa
open Go.RowKit Go.Sort
set_option linter.unusedVariables false
set_option linter.unusedSimpArgs false

theorem SrtW.turn {W0 W U : World} {blk off : Nat} {d : Array Nat} (h : SrtW W0 blk off d W) {rp : Nat} (hT : Turned (fun j => j = rp) W U) (hn : W0.heap.size ≤ rp) (hne : rp ≠ blk) : SrtW W0 blk off d U := by
  refine ⟨fun j hj => ?_, ⟨hT.os.trans h.turned.os, hT.tape.trans h.turned.tape, hT.output.trans h.turned.output, Nat.le_trans h.turned.size hT.size, fun k hk hn2 => (hT.block k (by have := h.turned.size; omega) (by omega)).trans (h.turned.block k hk hn2)⟩⟩
  have hc := h.holds j hj
  have hk := hT.block blk (World.block_lt_of_cell? W ⟨blk, off + j, none⟩ hc.1) (fun e => hne e.symm)
  refine ⟨(World.cell?_of_block (a := ⟨blk, off + j, none⟩) hk).trans hc.1, ?_⟩
  have e : U.frozen? ⟨blk, off + j, none⟩ = W.frozen? ⟨blk, off + j, none⟩ := by
    unfold World.frozen?
    rw [hk]
  rw [e]
  exact hc.2
theorem lt_of_heap {W : World} {k : Nat} {o : Obj} (h : W.heap[k]? = some o) : k < W.heap.size := by
  rcases Nat.lt_or_ge k W.heap.size with h1 | h1
  · exact h1
  · rw [Array.getElem?_eq_none h1] at h
    cases h
set_option maxRecDepth 100000 in
set_option maxHeartbeats 4000000 in
theorem brkU_any {W0 W : World} {blk off : Nat} {d : Array Nat} (h : SrtW W0 blk off d W) (cap a b : Nat) (hb : b ≤ d.size) (hab : a + 12 < b) (hn : d.size ≤ 1000000) :
    Calls Try.prog 57 #[.slice (some ⟨blk, off, none⟩) d.size cap, .int .i64 (a : Int), .int .i64 (b : Int)] W fun e w' => ∃ d2, e = .returned (.tuple #[]) ∧ PermIn a b d d2 ∧ SrtW W0 blk off d2 w' := by
  obtain ⟨l, hl⟩ : ∃ l, l = b - a := ⟨_, rfl⟩
  obtain ⟨lq, hlq⟩ : ∃ lq, lq = l / 4 := ⟨_, rfl⟩
  obtain ⟨m2, hm2⟩ : ∃ m2, m2 = lq * 2 := ⟨_, rfl⟩
  obtain ⟨am, ham⟩ : ∃ am, am = a + m2 := ⟨_, rfl⟩
  obtain ⟨i0, hi0⟩ : ∃ i0, i0 = am - 1 := ⟨_, rfl⟩
  have hs0 : W0.heap.size ≤ W.heap.size := h.turned.size
  have hbl : blk < W.heap.size := World.block_lt_of_cell? W ⟨blk, off + 0, none⟩ (h.cell (i := 0) (by omega))
  obtain ⟨rp, hrp⟩ : ∃ rp, rp = W.heap.size := ⟨_, rfl⟩
  have hnew := heap_alloc_new W (.cells #[.int .u64 (l : Int)] 99)
  have HA := Lib.hid (h.alloc (.cells #[.int .u64 (l : Int)] 99))
  rw [← hrp] at hnew
  have HNw := Lib.hid hnew
  have HRp : Hid (W0.heap.size ≤ rp ∧ rp ≠ blk) := Lib.hid ⟨by omega, by omega⟩
  have HRq := Lib.hid hrp
  have HP0 : Hid (PermIn a b d d) := Lib.hid (permIn_refl d a b)
  have HTr : Hid (∀ (d' : Array Nat) (i j : Nat), PermIn a b d d' → a ≤ i → i < b → a ≤ j → j < b → PermIn a b d (swp d' i j)) := Lib.hid (fun d' i j h1 h2 h3 h4 h5 => permIn_trans d d' _ a b h1 (swp_permIn d' a b i j h2 h3 h4 h5 (by rw [h1.1]; exact hb)))
  have HSz : Hid (∀ d', PermIn a b d d' → d'.size = d.size) := Lib.hid (fun d' h => h.1)
  have HZ0 : Hid (d.size = d.size) := Lib.hid rfl
  have HPw := Lib.hid (fun w => pow2_any l (by omega) (by omega) w)
  have v1 : IntKind.i64.wrap ((b : Int) - (a : Int)) = (l : Int) := wrap_nat _ _ (by omega) (by omega)
  have v2 : ((l : Int)).tdiv 4 = (lq : Int) := by rw [Int.tdiv_eq_ediv_of_nonneg (by omega)]; omega
  have v3 : IntKind.i64.wrap (lq : Int) = (lq : Int) := IntWalk.i64_in _ (by omega)
  have v4 : IntKind.i64.wrap ((lq : Int) * 2) = (m2 : Int) := wrap_nat _ _ (by omega) (by omega)
  have v5 : IntKind.i64.wrap ((a : Int) + (m2 : Int)) = (am : Int) := wrap_nat _ _ (by omega) (by omega)
  have v6 : IntKind.i64.wrap ((am : Int) - 1) = (i0 : Int) := wrap_nat _ _ (by omega) (by omega)
  have v7 : IntKind.i64.wrap ((am : Int) + 1) = (am : Int) + 1 := IntWalk.i64_in _ (by omega)
  have v8 : IntKind.u64.wrap (l : Int) = (l : Int) := IntWalk.u64_in _ (by omega)
  have e1 : decide ((l : Int) ≥ 8) = true := by simp; omega
  have e1' : decide (8 ≤ (l : Int)) = true := by simp; omega
  have e1n : decide (8 ≤ l) = true := by simp; omega
  have HB : Hid (a ≤ i0 ∧ i0 + 1 = am ∧ am + 2 ≤ b ∧ a + l = b ∧ 8 ≤ l ∧ l ≤ 1000000 ∧ b ≤ d.size) := Lib.hid (by omega)
  have HN := Lib.hid hn
  generalize d.size = n at *
  clear h hnew hrp hl hlq hm2 ham hi0 hs0 hbl
  go_enter Try.func57, Try.ntmps57
  go_upto_region 3 with fail
  generalize hW1 : W.alloc (.cells #[.int .u64 (l : Int)] 99) = W1
  rw [hW1] at HA HNw
  rw [← HRq.out]
  clear hW1
  go_wp2_with (go_at_call 65; refine (HPw.out _).mono ?_; rintro e w2 ⟨md, rfl, hm1, hm2, rfl⟩; replace hm1 := Lib.hid hm1; replace hm2 := Lib.hid hm2)
  go_loopg [9] 5 (fun g iv wr => ∃ (ix : Nat) (d' : Array Nat), i0 + 4 - ix ≤ g ∧ i0 ≤ ix ∧ ix ≤ i0 + 3 ∧ iv = .int .i64 (ix : Int) ∧ Hid (PermIn a b d d') ∧ Hid (n = d'.size) ∧ Hid (∃ y : Int, (0 ≤ y ∧ y < 18446744073709551616) ∧ wr.heap[rp]? = some (.cells #[.int .u64 y] 99 (0, 0))) ∧ SrtW W0 blk off d' wr)
  case atStart => exact ⟨i0, d, by omega, Nat.le_refl _, by omega, by go_num, HP0, Lib.hid (HSz.out d HP0.out).symm, Lib.hid ⟨(l : Int), by have := HB.out; omega, HNw.out⟩, HA.out⟩
  case round =>
    obtain ⟨ix, d', hg, hi, hi3, rfl, hP, hZ, hY, hW⟩ := hrel
    have HW := Lib.hid hW
    clear hW
    by_cases hle : ix ≤ am + 1
    · have e2 : decide ((ix : Int) ≤ (am : Int) + 1) = true := by simp; omega
      have e2n : decide (ix ≤ am + 1) = true := by simpa using hle
      have HXr := Lib.hid (xor_any (W := wr) (rp := rp) (by
        obtain ⟨y, h1, h2⟩ := hY.out
        exact ⟨y, h1, h2, Turned.refl⟩))
      have i1 : ix + 1 ≤ 1000000001 := by have := HB.out; have := HN.out; omega
      have w9 : IntKind.u64.wrap ((md : Int) - 1) = (md : Int) - 1 := IntWalk.u64_in _ (by have := HB.out; have := hm1.out; have := hm2.out; omega)
      have HBt : Hid (∀ y : Nat, y < 18446744073709551616 → ∃ o : Nat, bits .and .u64 (y : Int) ((md : Int) - 1) = (o : Int) ∧ o < 2 * l ∧ IntKind.i64.wrap (o : Int) = (o : Int)) := Lib.hid (by
        intro y hy
        have h1 := HB.out
        have h2 := hm1.out
        have h3 := hm2.out
        have h4 : y &&& (md - 1) ≤ md - 1 := Nat.and_le_right
        refine ⟨y &&& (md - 1), ?_, by omega, IntWalk.i64_in _ (by omega)⟩
        rw [← bits_and_u64_nat y (md - 1) hy (by omega), show ((md - 1 : Nat) : Int) = (md : Int) - 1 by omega])
      go_upto_region 8 with (go_at_call 66; refine HXr.out.mono ?_; rintro e w3 ⟨y, rfl, hy, hX⟩; obtain ⟨o, hO, hol, hwo⟩ := HBt.out y hy; replace hX := Lib.hid hX; clear hy)
      obtain ⟨y2, hy2, hc2, hT2⟩ := hX.out
      have HW6 := Lib.hid (HW.out.turn hT2 HRp.out.1 HRp.out.2)
      have HY6 := Lib.hid (And.intro hy2 hc2)
      have hB := HB.out
      have hN := HN.out
      have hRp := HRp.out.2
      clear hX hT2 hc2 hO
      by_cases hol2 : o ≥ l
      · have e3 : decide ((o : Int) ≥ (l : Int)) = true := by simp; omega
        have e3' : decide ((l : Int) ≤ (o : Int)) = true := by simp; omega
        have e3n : decide (l ≤ o) = true := by simpa using hol2
        obtain ⟨oo, hoo⟩ : ∃ oo, oo = o - l := ⟨_, rfl⟩
        obtain ⟨fo, hfo⟩ : ∃ fo, fo = a + oo := ⟨_, rfl⟩
        have u1 : IntKind.i64.wrap ((o : Int) - (l : Int)) = (oo : Int) := wrap_nat _ _ (by omega) (by omega)
        have u2 : IntKind.i64.wrap ((a : Int) + (oo : Int)) = (fo : Int) := wrap_nat _ _ (by omega) (by omega)
        have hfb : a ≤ fo ∧ fo < b := by omega
        have hfn : fo < n := by omega
        have hin : ix < n := by omega
        have hia : a ≤ ix ∧ ix < b ∧ ix + 1 ≤ i0 + 3 := by omega
        clear hfo hB hol hol2 hoo
        go_upto_region 10 with fail
        have h2 := HW6.out
        have d1 := h2.cell (i := ix) (by rw [← hZ.out]; omega)
        have d0 := h2.cell (i := fo) (by rw [← hZ.out]; omega)
        have g1 := h2.free (i := ix) (by rw [← hZ.out]; omega)
        have g0 := h2.free (i := fo) (by rw [← hZ.out]; omega)
        have p0 := (h2.put (i := ix) (by rw [← hZ.out]; omega) d'[fo]!).cell (i := fo) (by rw [Array.size_setIfInBounds, ← hZ.out]; omega)
        have HS_ := Lib.hid (h2.drew.swap (i := ix) (j := fo) (by rw [← hZ.out]; omega) (by rw [← hZ.out]; omega))
        have HZ3 : Hid (n = (swp d' (ix) (fo)).size) := Lib.hid (by rw [SrtW.size_swp]; exact hZ.out)
        have HP4 := Lib.hid (HTr.out d' ix fo hP.out hia.1 hia.2.1 hfb.1 hfb.2)
        have HY7 : Hid (∃ y : Int, (0 ≤ y ∧ y < 18446744073709551616) ∧ ((w3.drew.setCell ⟨blk, off + ix, none⟩ (.int .u32 (d'[fo]! : Int))).setCell ⟨blk, off + fo, none⟩ (.int .u32 (d'[ix]! : Int))).heap[rp]? = some (.cells #[.int .u64 y] 99 (0, 0))) := Lib.hid ⟨y2, HY6.out.1, (((Turned.drew (S := fun j => j = blk) (Turned.refl (w := w3))).trans (Turned.set (S := fun j => j = blk) (a := ⟨blk, off + ix, none⟩) rfl _)).trans (Turned.set (S := fun j => j = blk) (a := ⟨blk, off + fo, none⟩) rfl _) |>.block rp (lt_of_heap HY6.out.2) hRp).trans HY6.out.2⟩
        clear h2
        generalize (Array.setIfInBounds d' (ix) d'[fo]!)[fo]! = z0 at *
        generalize swp d' (ix) (fo) = d4 at *
        generalize d'[ix]! = x1 at *
        generalize d'[fo]! = x0 at *
        go_region_with (fail)
        all_goals
          go_wp2
          go_roundg (i0 + 4 - (ix + 1))
          case measure => omega
          case rel => exact ⟨ix + 1, d4, by omega, by omega, by omega, by go_num, HP4, HZ3, HY7, HS_.out⟩
      · have e3 : decide ((o : Int) ≥ (l : Int)) = false := by simp; omega
        have e3' : decide ((l : Int) ≤ (o : Int)) = false := by simp; omega
        have e3n : decide (l ≤ o) = false := by simpa using hol2
        obtain ⟨fo, hfo⟩ : ∃ fo, fo = a + o := ⟨_, rfl⟩
        have u2 : IntKind.i64.wrap ((a : Int) + (o : Int)) = (fo : Int) := wrap_nat _ _ (by omega) (by omega)
        have hfb : a ≤ fo ∧ fo < b := by omega
        have hfn : fo < n := by omega
        have hin : ix < n := by omega
        have hia : a ≤ ix ∧ ix < b ∧ ix + 1 ≤ i0 + 3 := by omega
        clear hfo hB hol hol2
        go_upto_region 10 with fail
        have h2 := HW6.out
        have d1 := h2.cell (i := ix) (by rw [← hZ.out]; omega)
        have d0 := h2.cell (i := fo) (by rw [← hZ.out]; omega)
        have g1 := h2.free (i := ix) (by rw [← hZ.out]; omega)
        have g0 := h2.free (i := fo) (by rw [← hZ.out]; omega)
        have p0 := (h2.put (i := ix) (by rw [← hZ.out]; omega) d'[fo]!).cell (i := fo) (by rw [Array.size_setIfInBounds, ← hZ.out]; omega)
        have HS_ := Lib.hid (h2.drew.swap (i := ix) (j := fo) (by rw [← hZ.out]; omega) (by rw [← hZ.out]; omega))
        have HZ3 : Hid (n = (swp d' (ix) (fo)).size) := Lib.hid (by rw [SrtW.size_swp]; exact hZ.out)
        have HP4 := Lib.hid (HTr.out d' ix fo hP.out hia.1 hia.2.1 hfb.1 hfb.2)
        have HY7 : Hid (∃ y : Int, (0 ≤ y ∧ y < 18446744073709551616) ∧ ((w3.drew.setCell ⟨blk, off + ix, none⟩ (.int .u32 (d'[fo]! : Int))).setCell ⟨blk, off + fo, none⟩ (.int .u32 (d'[ix]! : Int))).heap[rp]? = some (.cells #[.int .u64 y] 99 (0, 0))) := Lib.hid ⟨y2, HY6.out.1, (((Turned.drew (S := fun j => j = blk) (Turned.refl (w := w3))).trans (Turned.set (S := fun j => j = blk) (a := ⟨blk, off + ix, none⟩) rfl _)).trans (Turned.set (S := fun j => j = blk) (a := ⟨blk, off + fo, none⟩) rfl _) |>.block rp (lt_of_heap HY6.out.2) hRp).trans HY6.out.2⟩
        clear h2
        generalize (Array.setIfInBounds d' (ix) d'[fo]!)[fo]! = z0 at *
        generalize swp d' (ix) (fo) = d4 at *
        generalize d'[ix]! = x1 at *
        generalize d'[fo]! = x0 at *
        go_region_with (fail)
        all_goals
          go_wp2
          go_roundg (i0 + 4 - (ix + 1))
          case measure => omega
          case rel => exact ⟨ix + 1, d4, by omega, by omega, by omega, by go_num, HP4, HZ3, HY7, HS_.out⟩
    · have e2 : decide ((ix : Int) ≤ (am : Int) + 1) = false := by simp; omega
      have e2n : decide (ix ≤ am + 1) = false := by simpa using hle
      go_wp2
      go_end0
      exact ⟨d', by simp, hP.out, HW.out⟩
end Go.Proofs.Ytjbfjglomonanaa

