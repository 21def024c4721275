/-
  THE WALK OF TableGrows.
-/
import Derived.Test.YtnmimagcmmdolaaTbGrow1
import Derived.Test.YtnmimagcmmdolaaTbKnown
import Derived.Test.YtnmimagcmmdolaaTbArg
import Derived.Sort.LoopGhostIn
import Derived.IntWalk
namespace Go.Proofs.Ytnmimagcmmdolaa
open Go.RowKit Go.Shelf
set_option linter.unusedVariables false
set_option linter.unusedSimpArgs false
attribute [local go_sem] Oper.semAt_some

def addsR (l : List RowN) (k : Nat) : List EntN := (l.take k).foldl (fun R r => addR R r 2) []
theorem addsR_succ {l : List RowN} {k : Nat} {r : RowN} (h : l[k]? = some r) : addsR l (k + 1) = addR (addsR l k) r 2 := by
  unfold addsR
  rw [List.take_add_one, h, List.foldl_append]
  rfl
def smallN (r : RowN) : Prop := r.1 < 1073741824 ∧ r.2.1 < 1073741824 ∧ r.2.2 < 1073741824
theorem addsR_start {l : List RowN} (h : ∀ r ∈ l, smallN r) : ∀ k, k ≤ l.length → StartG (addsR l k) ∧ (addsR l k).length ≤ k
  | 0, _ => ⟨StartG.nil, Nat.le_refl _⟩
  | k + 1, hk => by
    obtain ⟨h1, h2⟩ := addsR_start h k (by omega)
    have hx : l[k]? = some l[k] := List.getElem?_eq_getElem (by omega)
    rw [addsR_succ hx]
    have := (addR_len2 (addsR l k) l[k] 2).1
    exact ⟨(h1.add l[k] (h _ (List.mem_of_getElem? hx))).1, by omega⟩
theorem row_at {w : World} {v : Value} {l : List RowN} (hv : SliceK rowL w v l) : ∃ ao cap, v = .slice ao l.length cap ∧ l.length ≤ maxLen ∧ ∀ U, Below w.heap.size w U → ∀ (k : Nat) (r : RowN), l[k]? = some r → ∃ b off, ao = some ⟨b, off, none⟩ ∧ b < w.heap.size ∧ U.cell? ⟨b, off + k * 3, none⟩ = some (.int .u32 (r.1 : Int)) ∧ U.cell? ⟨b, off + k * 3 + 1, none⟩ = some (.int .u32 (r.2.1 : Int)) ∧ U.cell? ⟨b, off + k * 3 + 2, none⟩ = some (.int .u32 (r.2.2 : Int)) := by
  rcases hv with ⟨rfl, rfl⟩ | ⟨b, off, cap, rfl, h1, h2, h3⟩
  · exact ⟨none, 0, rfl, Nat.zero_le _, fun U hU k r hk => by simp at hk⟩
  · refine ⟨_, cap, rfl, by omega, fun U hU k r hk => ?_⟩
    have one : ∀ j u, (rowL r)[j]? = some u → w.cell? ⟨b, off + k * 3 + j, none⟩ = some u := fun j u hu => by
      have hj3 : j < 3 := (List.getElem?_eq_some_iff.1 hu).1
      have h4 := h3 (k * 3 + j) u (by rw [flat_get rowL 3 (fun _ => rfl) l k j r hk hj3]; exact hu)
      rwa [← Nat.add_assoc] at h4
    have two : ∀ j u, (rowL r)[j]? = some u → U.cell? ⟨b, off + k * 3 + j, none⟩ = some u := fun j u hu => (hU.cell (p := ⟨b, off + k * 3 + j, none⟩) (World.block_lt_of_cell? w ⟨b, off + k * 3 + j, none⟩ (one j u hu))).trans (one j u hu)
    exact ⟨b, off, rfl, World.block_lt_of_cell? w ⟨b, off + k * 3 + 0, none⟩ (one 0 _ rfl), two 0 _ rfl, two 1 _ rfl, two 2 _ rfl⟩
theorem grown_belowO {B : Nat} {W w1 : World} {row : Option Nat} (h : W.grownBy w1 row) (hB : B ≤ W.heap.size) (hr : ∀ r, row = some r → B ≤ r) : Below B W w1 :=
  ⟨h.os, h.tape, h.output, h.size, fun k hk => h.block k (by omega) (fun e => by have := hr k e.symm; omega)⟩
set_option maxRecDepth 100000 in
set_option maxHeartbeats 4000000 in
theorem grows_walk (v : Value) (l : List RowN) (q : RowN) (lv : Int) (w : World) (hv : SliceK rowL w v l) (hok : ∀ r ∈ l, okN r) (hq : okN q) :
    Calls Try.prog 5 #[v, rowV q, .int .i64 lv] w fun e w' => e = .returned (.bool true) ∧ Below w.heap.size w w' := by
  obtain ⟨ao, cap, rfl, hmax, hAt⟩ := row_at hv
  have HAt := Lib.hid hAt
  obtain ⟨n0, hn0⟩ : ∃ n0, n0 = w.heap.size := ⟨_, rfl⟩
  have s1 : (w.alloc (.cells (rowC q) 34)).heap.size = w.heap.size + 1 := World.size_alloc _ _
  have s2 : ((w.alloc (.cells (rowC q) 34)).alloc (.cells #[.int .i64 lv] 3)).heap.size = w.heap.size + 2 := by rw [World.size_alloc, s1]
  have a0 := heap_alloc_new w (.cells (rowC q) 34)
  have a1 := heap_alloc_new (w.alloc (.cells (rowC q) 34)) (.cells #[.int .i64 lv] 3)
  have a2 := heap_alloc_new ((w.alloc (.cells (rowC q) 34)).alloc (.cells #[.int .i64 lv] 3)) (.cells #[.bool false] 4)
  rw [s1] at a1
  rw [s2] at a2
  obtain ⟨W0, hW0⟩ : ∃ W0, W0 = ((w.alloc (.cells (rowC q) 34)).alloc (.cells #[.int .i64 lv] 3)).alloc (.cells #[.bool false] 4) := ⟨_, rfl⟩
  have hb0 : Below w.heap.size w W0 := by
    rw [hW0]
    exact ((((Below.refl _ w).alloc (Nat.le_refl _) _).alloc (by rw [s1]; omega) _).alloc (by rw [s2]; omega) _)
  have hs0 : W0.heap.size = n0 + 3 := by rw [hW0, World.size_alloc, s2, hn0]
  have d0 : W0.heap[n0]? = some (.cells (rowC q) 34 (0, 0)) := by
    rw [hW0, hn0]
    exact ((Below.heap_alloc _ _ _ (by rw [s2]; omega)).trans (Below.heap_alloc _ _ _ (by rw [s1]; omega))).trans a0
  have d1 : W0.heap[n0 + 1]? = some (.cells #[.int .i64 lv] 3 (0, 0)) := by
    rw [hW0, hn0]
    exact (Below.heap_alloc _ _ _ (by rw [s2]; omega)).trans a1
  have d2 : W0.heap[n0 + 2]? = some (.cells #[.bool false] 4 (0, 0)) := by
    rw [hW0, hn0]
    exact a2
  have HKn := Lib.hid known8_any
  obtain ⟨iN, zN, hiN, hzN, hsN, hbN, hcN⟩ := info_num
  have HIN := Lib.hid hiN
  have HZN := Lib.hid hzN
  have HSN := Lib.hid hsN
  have HBN := Lib.hid hbN
  have HCN := Lib.hid hcN
  clear hiN hzN hsN hbN hcN
  -- the answer's cell is set, and it is told
  have HEnd : Hid (∀ U, Below W0.heap.size W0 U → (U.cell? ⟨n0 + 2, 0, none⟩ = some (.bool false) ∧ U.frozen? ⟨n0 + 2, 0, none⟩ = false) ∧ (U.setCell ⟨n0 + 2, 0, none⟩ (.bool true)).cell? ⟨n0 + 2, 0, none⟩ = some (.bool true) ∧ Below w.heap.size w (U.setCell ⟨n0 + 2, 0, none⟩ (.bool true))) := Lib.hid (fun U hU => by
    have k2 := (hU.block (n0 + 2) (by omega)).trans d2
    have c2 : U.cell? ⟨n0 + 2, 0, none⟩ = some (.bool false) := cell_in k2 rfl
    exact ⟨⟨c2, free_in k2 0⟩, World.cell?_setCell_same' U ⟨n0 + 2, 0, none⟩ (.bool true) (by rw [c2]; rfl), (hb0.trans (hU.mono (by omega))).setCell (p := ⟨n0 + 2, 0, none⟩) (show w.heap.size ≤ n0 + 2 by omega) _⟩)
  have HW0 := Lib.hid hW0
  have HN0 := Lib.hid hn0
  have HS0 := Lib.hid hs0
  have HB0 := Lib.hid hb0
  have HD0 := Lib.hid d0
  have HD1 := Lib.hid d1
  have HD2 := Lib.hid d2
  clear a0 a1 a2 s1 s2 hb0 hs0 d0 d1 d2 hW0 hn0 hv hAt
  by_cases hl : 60 < l.length
  · have e1' : decide (60 < (l.length : Int)) = true := by simp; omega
    have e1n : decide (60 < l.length) = true := by simpa using hl
    clear hl hok
    go_enter Try.func5, Try.ntmps5
    go_upto_region 1 with fail
    rw [← HW0.out, ← HN0.out]
    go_wp2_with (go_at_call 7; refine (HKn.out _).mono ?_; rintro e w' ⟨rfl, hb⟩; obtain ⟨⟨z1, z2⟩, z3, z4⟩ := HEnd.out _ hb; replace hb := Lib.hid hb; replace z4 := Lib.hid z4)
    go_wp2
    (try simp only [Exit.inBlock, Exit.then])
    refine bodyPost_ret (v := .bool true) (by simp [results, Try.f5, go_sem, z3]) rfl ?_
    exact ⟨rfl, z4.out⟩
  have e1' : decide (60 < (l.length : Int)) = false := by simp; omega
  have e1n : decide (60 < l.length) = false := by simpa using hl
  have hl60 : l.length ≤ 60 := by omega
  clear hl
  refine (callsIn_wide (n := 9)).1 (callsIn_of_wp_marks Try.func5 rfl trivial (wpIn_wide.2 ?_) rfl)
  simp only [Try.ntmps5, List.size_toArray, List.length_cons, List.length_nil, Nat.reduceAdd, Nat.reduceSub, Array.replicate_succ, Array.replicate_zero, List.push_toArray, List.append_toArray, List.nil_append, List.cons_append]
  go_upto_region 1 with fail
  rw [← HW0.out, ← HN0.out]
  go_wp2
  -- every number is small, or there is nothing to do
  go_loopg [7] l.length (fun g i wr => ∃ k : Nat, k ≤ l.length ∧ l.length - k ≤ g ∧ i = .int .i64 (k : Int) ∧ (∀ j r, j < k → l[j]? = some r → smallN r) ∧ wr = W0)
  case atStart => exact ⟨0, Nat.zero_le _, by omega, rfl, fun j r hj => by omega, rfl⟩
  case round =>
    obtain ⟨k, hk, hg, rfl, hsm, rfl⟩ := hrel
    by_cases hlt : k < l.length
    · obtain ⟨r, hr⟩ : ∃ r, l[k]? = some r := ⟨_, List.getElem?_eq_getElem hlt⟩
      obtain ⟨b, off, rfl, hbw, c0, c1, c2⟩ := HAt.out wr HB0.out k r hr
      have e4 : decide ((k : Int) < (l.length : Int)) = true := by simp; omega
      have e4n : decide (k < l.length) = true := by simpa using hlt
      have i0 : (0 : Int) ≤ (k : Int) := by omega
      have i1 : (k : Int) < (l.length : Int) := by omega
      have i2 : k + 1 ≤ 1000000001 := by omega
      have HNext : Hid (smallN r → ∀ j x, j < k + 1 → l[j]? = some x → smallN x) := Lib.hid (fun h j x hj hx => by
        by_cases e : j = k
        · subst e
          rw [hr] at hx
          injection hx with hx
          rw [← hx]
          exact h
        · exact hsm j x (by omega) hx)
      obtain ⟨⟨z1, z2⟩, z3, z4⟩ := HEnd.out _ (Below.refl _ _)
      have HSm := Lib.hid hsm
      clear hsm hr hbw
      by_cases h0 : 1073741824 ≤ r.1
      · have f0 : decide (1073741824 ≤ (r.1 : Int)) = true := by simp; omega
        have f0n : decide (1073741824 ≤ r.1) = true := by simpa using h0
        clear h0
        go_wp2_with (go_at_call 7; refine (HKn.out _).mono ?_; rintro e w' ⟨rfl, hb⟩; obtain ⟨⟨z1, z2⟩, z3, z4⟩ := HEnd.out _ hb; replace hb := Lib.hid hb; replace z4 := Lib.hid z4)
        exact ⟨.bool true, by simp [results, Try.f5, go_sem, z3], rfl, z4.out⟩
      have f0 : decide (1073741824 ≤ (r.1 : Int)) = false := by simp; omega
      have f0n : decide (1073741824 ≤ r.1) = false := by simpa using h0
      by_cases h1 : 1073741824 ≤ r.2.1
      · have f1 : decide (1073741824 ≤ (r.2.1 : Int)) = true := by simp; omega
        have f1n : decide (1073741824 ≤ r.2.1) = true := by simpa using h1
        clear h0 h1
        go_wp2_with (go_at_call 7; refine (HKn.out _).mono ?_; rintro e w' ⟨rfl, hb⟩; obtain ⟨⟨z1, z2⟩, z3, z4⟩ := HEnd.out _ hb; replace hb := Lib.hid hb; replace z4 := Lib.hid z4)
        exact ⟨.bool true, by simp [results, Try.f5, go_sem, z3], rfl, z4.out⟩
      have f1 : decide (1073741824 ≤ (r.2.1 : Int)) = false := by simp; omega
      have f1n : decide (1073741824 ≤ r.2.1) = false := by simpa using h1
      by_cases h2 : 1073741824 ≤ r.2.2
      · have f2 : decide (1073741824 ≤ (r.2.2 : Int)) = true := by simp; omega
        have f2n : decide (1073741824 ≤ r.2.2) = true := by simpa using h2
        clear h0 h1 h2
        go_wp2_with (go_at_call 7; refine (HKn.out _).mono ?_; rintro e w' ⟨rfl, hb⟩; obtain ⟨⟨z1, z2⟩, z3, z4⟩ := HEnd.out _ hb; replace hb := Lib.hid hb; replace z4 := Lib.hid z4)
        exact ⟨.bool true, by simp [results, Try.f5, go_sem, z3], rfl, z4.out⟩
      have f2 : decide (1073741824 ≤ (r.2.2 : Int)) = false := by simp; omega
      have f2n : decide (1073741824 ≤ r.2.2) = false := by simpa using h2
      have HN2 := Lib.hid (HNext.out ⟨by omega, by omega, by omega⟩)
      clear h0 h1 h2
      go_wp2
      go_roundg (l.length - (k + 1))
      case measure => omega
      case rel => exact ⟨k + 1, by omega, Nat.le_refl _, by go_num, HN2.out, rfl⟩
    · obtain rfl : k = l.length := by omega
      have e4 : decide ((l.length : Int) < (l.length : Int)) = false := by simp
      have HSm : Hid (∀ r ∈ l, smallN r) := Lib.hid (fun r hr => by
        obtain ⟨j, hj⟩ := List.getElem?_of_mem hr
        exact hsm j r (List.getElem?_eq_some_iff.1 hj).1 hj)
      have HSt : Hid (∀ k, k ≤ l.length → StartG (addsR l k) ∧ (addsR l k).length ≤ k) := Lib.hid (addsR_start HSm.out)
      have HNew := Lib.hid (tbNew_any wr)
      obtain ⟨⟨z1, z2⟩, z3, z4⟩ := HEnd.out wr (Below.refl _ _)
      clear hsm hlt hg hk HW0
      go_upto_region 8 with fail
      -- the table, its cell, the rows' cell
      have HMk : Hid (∀ w1, Below wr.heap.size wr w1 → w1.heap.size = wr.heap.size + 1 + 1 + 1 → TabI (wr.heap.size + 1 + 1) gz0 w1 (fun j => wr.heap.size ≤ j ∧ j < wr.heap.size + 1 + 1 + 1) (wr.heap.size + 1 + 1) [] →
          ∀ W2, W2 = (w1.alloc (.cells #[tabP (wr.heap.size + 1 + 1)] 24)).alloc (.cells #[.slice none 0 0] 41) →
          GrC w n0 (n0 + 5) q lv [] (fun j => n0 + 3 ≤ j ∧ j < n0 + 6) W2 ∧ TabI (n0 + 5) gz0 W2 (fun j => n0 + 3 ≤ j ∧ j < n0 + 6) (n0 + 5) []) := Lib.hid (fun w1 hb1 hs1 hT1 W2 hW2 => by
        have e0 := HS0.out
        have en := HN0.out
        have e1 : w1.heap.size = n0 + 6 := by omega
        have t1 : (w1.alloc (.cells #[tabP (wr.heap.size + 1 + 1)] 24)).heap.size = n0 + 7 := by rw [World.size_alloc, e1]
        have t2 : W2.heap.size = n0 + 8 := by rw [hW2, World.size_alloc, t1]
        have b1 := heap_alloc_new w1 (.cells #[tabP (wr.heap.size + 1 + 1)] 24)
        have b2 := heap_alloc_new (w1.alloc (.cells #[tabP (wr.heap.size + 1 + 1)] 24)) (.cells #[.slice none 0 0] 41)
        rw [e1] at b1
        rw [t1] at b2
        have hbw : Below w1.heap.size w1 W2 := by
          rw [hW2]
          exact ((Below.refl _ w1).alloc (Nat.le_refl _) _).alloc (by rw [t1, e1]; omega) _
        have hbr : Below wr.heap.size wr W2 := hb1.trans (hbw.mono hb1.size)
        have k6 : W2.heap[n0 + 6]? = some (.cells #[tabP (wr.heap.size + 1 + 1)] 24 (0, 0)) := by
          rw [hW2]
          exact (Below.heap_alloc _ _ _ (by rw [t1]; omega)).trans b1
        have k7 : W2.heap[n0 + 7]? = some (.cells #[.slice none 0 0] 41 (0, 0)) := by
          rw [hW2]
          exact b2
        have e5 : wr.heap.size + 1 + 1 = n0 + 5 := by omega
        have e6 : wr.heap.size + 1 + 1 + 1 = n0 + 6 := by omega
        rw [e5] at hT1 k6
        rw [e0, show n0 + 5 + 1 = n0 + 6 from rfl] at hT1
        refine ⟨⟨HB0.out.trans (hbr.mono HB0.out.size), en, by omega, (hbr.block _ (by omega)).trans HD0.out, (World.cell?_of_block (a := ⟨n0 + 1, 0, none⟩) (hbr.block (n0 + 1) (by omega))).trans (cell_in HD1.out rfl), (hbr.block _ (by omega)).trans HD2.out, cell_in k6 rfl, ⟨none, 0, k7, ⟨rfl, .inl ⟨rfl, rfl, rfl⟩⟩, fun a ha => by cases ha⟩, fun j hj => .inl hj⟩, hT1.below hbw⟩)
      go_upto_region 10 with (go_at_call 8; refine HNew.out.mono ?_; rintro e w1 ⟨rfl, hb1, hs1, hT1⟩; have hM := HMk.out w1 hb1 hs1 hT1 _ rfl; have hw1s : w1.heap.size = n0 + 6 := (by have := HS0.out; omega); replace hw1s := Lib.hid hw1s; clear hb1 hs1 hT1)
      generalize (w1.alloc (.cells #[tabP (wr.heap.size + 1 + 1)] 24)).alloc (.cells #[.slice none 0 0] 41) = W2 at *
      rw [hw1s.out, show n0 + 6 + 1 = n0 + 7 from rfl]
      generalize tabP (wr.heap.size + 1 + 1) = u53
      obtain ⟨hM1, hM2⟩ := hM
      obtain ⟨tb, htb⟩ : ∃ tb, tb = n0 + 5 := ⟨_, rfl⟩
      rw [← htb] at hM1 hM2
      have HM1 := Lib.hid hM1
      have HM2 := Lib.hid hM2
      have HTb := Lib.hid htb
      clear hM1 hM2 HMk HNew hw1s htb z1 z2 z3 z4
      go_wp2
      rename World => wo
      go_loopg [10] l.length (fun g i wr => ∃ (k : Nat) (S : Nat → Prop), k ≤ l.length ∧ l.length - k ≤ g ∧ i = .int .i64 (k : Int) ∧ GrC w n0 tb q lv (candA (addsR l k) q) S wr ∧ TabI tb gz0 wr S tb (addsR l k))
      case atStart => exact ⟨0, _, Nat.zero_le _, by omega, rfl, HM1.out, HM2.out⟩
      case round =>
        obtain ⟨k, S, hk, hg, rfl, hC, hT⟩ := hrel
        have HC := Lib.hid hC
        have HT := Lib.hid hT
        by_cases hlt : k < l.length
        · obtain ⟨r, hr⟩ : ∃ r, l[k]? = some r := ⟨_, List.getElem?_eq_getElem hlt⟩
          obtain ⟨b, off, rfl, hbw, c0, c1, c2⟩ := HAt.out wr hC.bel k r hr
          have e5 : decide ((k : Int) < (l.length : Int)) = true := by simp; omega
          have e5n : decide (k < l.length) = true := by simpa using hlt
          have i0 : (0 : Int) ≤ (k : Int) := by omega
          have i1 : (k : Int) < (l.length : Int) := by omega
          have i2 : k + 1 ≤ 1000000001 := by omega
          obtain ⟨hS0, hS1⟩ := HSt.out k hk
          have hadd := hS0.add r (HSm.out r (List.mem_of_getElem? hr))
          have hsucc := addsR_succ hr
          have hokr := hok r (List.mem_of_getElem? hr)
          have HAdd : Hid (Calls Try.prog 14 #[tabP tb, .agg #[.int .u32 (r.1 : Int), .int .u32 (r.2.1 : Int), .int .u32 (r.2.2 : Int)], .int .u8 2] wr.drew fun e w2 => e = .returned (.tuple (addV (addsR l k) r 2)) ∧ GrC w n0 tb q lv (candA (addsR l k) q) (growS S wr.drew w2) w2 ∧ TabI tb gz0 w2 (growS S wr.drew w2) tb (addR (addsR l k) r 2) ∧
              (w2.cell? ⟨n0 + 6, 0, none⟩ = some (tabP tb) ∧ w2.cell? ⟨b, off + k * 3, none⟩ = some (.int .u32 (r.1 : Int)) ∧ w2.cell? ⟨b, off + k * 3 + 1, none⟩ = some (.int .u32 (r.2.1 : Int)) ∧ w2.cell? ⟨b, off + k * 3 + 2, none⟩ = some (.int .u32 (r.2.2 : Int)))) := Lib.hid (by
            have hCd := hC.below (Below.refl _ wr).drew
            refine ((hT.below (Below.refl _ _).drew).add r hokr 2 (by omega) (by omega)).mono ?_
            rintro e w2 ⟨rfl, hTu, hT2⟩
            have hC2 := hCd.turn hTu (fun j hj => hC.hS j hj) (fun j hj => .inl hj) (S' := growS S wr.drew w2) (fun j hj => by
              rcases hj with hj | hj
              · exact .inl hj
              · exact .inr hj.1)
            obtain ⟨b', off', e', _, y0, y1, y2⟩ := HAt.out w2 hC2.bel k r hr
            injection e' with e'
            injection e' with e1 e2
            subst e1
            subst e2
            exact ⟨rfl, hC2, hT2, hC2.tc, y0, y1, y2⟩)
          have hsd : wr.drew.cell? ⟨n0 + 6, 0, none⟩ = some (tabP tb) ∧ wr.drew.cell? ⟨b, off + k * 3, none⟩ = some (.int .u32 (r.1 : Int)) ∧ wr.drew.cell? ⟨b, off + k * 3 + 1, none⟩ = some (.int .u32 (r.2.1 : Int)) ∧ wr.drew.cell? ⟨b, off + k * 3 + 2, none⟩ = some (.int .u32 (r.2.2 : Int)) := ⟨hC.tc, c0, c1, c2⟩
          clear hC hT hS0 hbw hr hokr
          rcases hadd.2 with ⟨ha1, ha2⟩ | ⟨ha1, vn, ha2⟩
          · -- a new one
            rw [ha1, ha2] at HAdd
            rw [ha1] at hsucc
            have hcs := candA_snoc (addsR l k) q r 2
            rw [← hsucc] at HAdd hcs
            have HSu := Lib.hid hsucc
            have HCs := Lib.hid hcs
            have hcl : Hid ((candA (addsR l k) q).length ≤ 60) := Lib.hid (by have := candA_len (addsR l k) q; omega)
            clear hadd ha1 ha2 hsucc hcs
            generalize hRl : (addsR l k).length = m at *
            go_upto_region 13 with fail
            go_region_held3 (fun W' => W'.cell? ⟨n0 + 6, 0, none⟩ = some (tabP tb) ∧ W'.cell? ⟨b, off + k * 3, none⟩ = some (.int .u32 (r.1 : Int)) ∧ W'.cell? ⟨b, off + k * 3 + 1, none⟩ = some (.int .u32 (r.2.1 : Int)) ∧ W'.cell? ⟨b, off + k * 3 + 2, none⟩ = some (.int .u32 (r.2.2 : Int))) ((first | assumption)) ((go_at_call 14; refine HAdd.out.mono ?_; rintro e w2 ⟨rfl, hC2, hT2, hs2⟩; replace hC2 := Lib.hid hC2; replace hT2 := Lib.hid hT2))
            obtain ⟨_, y0, y1, y2⟩ := hs2
            obtain ⟨x0, x1, x2⟩ := hC2.out.look
            clear hsd HAdd
            have hsd2 : w2.drew.cell? ⟨n0, 0, none⟩ = some (.int .u32 (q.1 : Int)) ∧ w2.drew.cell? ⟨n0, 1, none⟩ = some (.int .u32 (q.2.1 : Int)) ∧ w2.drew.cell? ⟨n0, 2, none⟩ = some (.int .u32 (q.2.2 : Int)) ∧ w2.drew.cell? ⟨b, off + k * 3, none⟩ = some (.int .u32 (r.1 : Int)) ∧ w2.drew.cell? ⟨b, off + k * 3 + 1, none⟩ = some (.int .u32 (r.2.1 : Int)) ∧ w2.drew.cell? ⟨b, off + k * 3 + 2, none⟩ = some (.int .u32 (r.2.2 : Int)) ∧ Below w2.heap.size w2 w2.drew := ⟨x0, x1, x2, y0, y1, y2, (Below.refl _ _).drew⟩
            cases hf : fitB q r with
            | false =>
              have HFit : Hid (∀ U, (U.cell? ⟨n0, 0, none⟩ = some (.int .u32 (q.1 : Int)) ∧ U.cell? ⟨n0, 1, none⟩ = some (.int .u32 (q.2.1 : Int)) ∧ U.cell? ⟨n0, 2, none⟩ = some (.int .u32 (q.2.2 : Int)) ∧ U.cell? ⟨b, off + k * 3, none⟩ = some (.int .u32 (r.1 : Int)) ∧ U.cell? ⟨b, off + k * 3 + 1, none⟩ = some (.int .u32 (r.2.1 : Int)) ∧ U.cell? ⟨b, off + k * 3 + 2, none⟩ = some (.int .u32 (r.2.2 : Int)) ∧ Below w2.heap.size w2 U) → Calls Try.prog 15 #[.agg #[.int .u32 (q.1 : Int), .int .u32 (q.2.1 : Int), .int .u32 (q.2.2 : Int)], .agg #[.int .u32 (r.1 : Int), .int .u32 (r.2.1 : Int), .int .u32 (r.2.2 : Int)]] U fun e w' => e = .returned (.bool false) ∧
                  (w'.cell? ⟨n0, 0, none⟩ = some (.int .u32 (q.1 : Int)) ∧ w'.cell? ⟨n0, 1, none⟩ = some (.int .u32 (q.2.1 : Int)) ∧ w'.cell? ⟨n0, 2, none⟩ = some (.int .u32 (q.2.2 : Int)) ∧ w'.cell? ⟨b, off + k * 3, none⟩ = some (.int .u32 (r.1 : Int)) ∧ w'.cell? ⟨b, off + k * 3 + 1, none⟩ = some (.int .u32 (r.2.1 : Int)) ∧ w'.cell? ⟨b, off + k * 3 + 2, none⟩ = some (.int .u32 (r.2.2 : Int)) ∧ Below w2.heap.size w2 w')) := Lib.hid (fun U ⟨p0, p1, p2, p3, p4, p5, p6⟩ => by
                have := fits_any q r U
                rw [hf] at this
                refine this.mono ?_
                rintro e w' ⟨rfl, hb⟩
                exact ⟨rfl, cellB hb p0, cellB hb p1, cellB hb p2, cellB hb p3, cellB hb p4, cellB hb p5, p6.trans (hb.mono p6.size)⟩)
              have HCs2 : Hid (candA (addsR l (k + 1)) q = candA (addsR l k) q) := Lib.hid (by rw [HCs.out, hf]; simp)
              clear hf x0 x1 x2 y0 y1 y2
              go_upto_region 14 with fail
              go_region_held3 (fun W' => W'.cell? ⟨n0, 0, none⟩ = some (.int .u32 (q.1 : Int)) ∧ W'.cell? ⟨n0, 1, none⟩ = some (.int .u32 (q.2.1 : Int)) ∧ W'.cell? ⟨n0, 2, none⟩ = some (.int .u32 (q.2.2 : Int)) ∧ W'.cell? ⟨b, off + k * 3, none⟩ = some (.int .u32 (r.1 : Int)) ∧ W'.cell? ⟨b, off + k * 3 + 1, none⟩ = some (.int .u32 (r.2.1 : Int)) ∧ W'.cell? ⟨b, off + k * 3 + 2, none⟩ = some (.int .u32 (r.2.2 : Int)) ∧ Below w2.heap.size w2 W') ((first | assumption)) ((go_at_call 15; refine (HFit.out _ (by assumption)).mono ?_; rintro e w3 ⟨rfl, hs3⟩))
              have HC3 := Lib.hid (hC2.out.below hs3.2.2.2.2.2.2)
              have HT3 := Lib.hid (hT2.out.below hs3.2.2.2.2.2.2)
              clear hs3 hsd2 HFit
              go_wp2
              go_roundg (l.length - (k + 1))
              case measure => omega
              case rel => exact ⟨k + 1, _, by omega, Nat.le_refl _, by go_num, by rw [HCs2.out]; exact HC3.out, HT3.out⟩
            | true =>
              have HFit : Hid (∀ U, (U.cell? ⟨n0, 0, none⟩ = some (.int .u32 (q.1 : Int)) ∧ U.cell? ⟨n0, 1, none⟩ = some (.int .u32 (q.2.1 : Int)) ∧ U.cell? ⟨n0, 2, none⟩ = some (.int .u32 (q.2.2 : Int)) ∧ U.cell? ⟨b, off + k * 3, none⟩ = some (.int .u32 (r.1 : Int)) ∧ U.cell? ⟨b, off + k * 3 + 1, none⟩ = some (.int .u32 (r.2.1 : Int)) ∧ U.cell? ⟨b, off + k * 3 + 2, none⟩ = some (.int .u32 (r.2.2 : Int)) ∧ Below w2.heap.size w2 U) → Calls Try.prog 15 #[.agg #[.int .u32 (q.1 : Int), .int .u32 (q.2.1 : Int), .int .u32 (q.2.2 : Int)], .agg #[.int .u32 (r.1 : Int), .int .u32 (r.2.1 : Int), .int .u32 (r.2.2 : Int)]] U fun e w' => e = .returned (.bool true) ∧
                  (w'.cell? ⟨n0, 0, none⟩ = some (.int .u32 (q.1 : Int)) ∧ w'.cell? ⟨n0, 1, none⟩ = some (.int .u32 (q.2.1 : Int)) ∧ w'.cell? ⟨n0, 2, none⟩ = some (.int .u32 (q.2.2 : Int)) ∧ w'.cell? ⟨b, off + k * 3, none⟩ = some (.int .u32 (r.1 : Int)) ∧ w'.cell? ⟨b, off + k * 3 + 1, none⟩ = some (.int .u32 (r.2.1 : Int)) ∧ w'.cell? ⟨b, off + k * 3 + 2, none⟩ = some (.int .u32 (r.2.2 : Int)) ∧ Below w2.heap.size w2 w')) := Lib.hid (fun U ⟨p0, p1, p2, p3, p4, p5, p6⟩ => by
                have := fits_any q r U
                rw [hf] at this
                refine this.mono ?_
                rintro e w' ⟨rfl, hb⟩
                exact ⟨rfl, cellB hb p0, cellB hb p1, cellB hb p2, cellB hb p3, cellB hb p4, cellB hb p5, p6.trans (hb.mono p6.size)⟩)
              have HCs2 : Hid (candA (addsR l (k + 1)) q = candA (addsR l k) q ++ [m]) := Lib.hid (by rw [HCs.out, hf]; rfl)
              clear hf x0 x1 x2 y0 y1 y2
              go_upto_region 14 with fail
              go_region_held3 (fun W' => W'.cell? ⟨n0, 0, none⟩ = some (.int .u32 (q.1 : Int)) ∧ W'.cell? ⟨n0, 1, none⟩ = some (.int .u32 (q.2.1 : Int)) ∧ W'.cell? ⟨n0, 2, none⟩ = some (.int .u32 (q.2.2 : Int)) ∧ W'.cell? ⟨b, off + k * 3, none⟩ = some (.int .u32 (r.1 : Int)) ∧ W'.cell? ⟨b, off + k * 3 + 1, none⟩ = some (.int .u32 (r.2.1 : Int)) ∧ W'.cell? ⟨b, off + k * 3 + 2, none⟩ = some (.int .u32 (r.2.2 : Int)) ∧ Below w2.heap.size w2 W') ((first | assumption)) ((go_at_call 15; refine (HFit.out _ (by assumption)).mono ?_; rintro e w3 ⟨rfl, hs3⟩))
              have HC3 := Lib.hid (hC2.out.below hs3.2.2.2.2.2.2)
              have HT3 := Lib.hid (hT2.out.below hs3.2.2.2.2.2.2)
              clear hs3 hsd2 HFit
              obtain ⟨ra, rcp, p1, p2, p3, p4⟩ := HC3.out.more HT3.out.lt m
              have HP2 := Lib.hid p2
              have HP3 := Lib.hid p3
              have HP4 := Lib.hid p4
              rename World => w3
              have HEnd9 : Hid (∀ g o' cap' w9, RowK w9 3 1 (some ⟨g, o', none⟩) ((candA (addsR l k) q).length + 1) cap' (intsC (candA (addsR l k) q) ++ [.int .i64 (m : Int)]) → (w3.alloc (.cells #[.int .i64 (m : Int)] 3)).grownBy w9 (some g) → ((ra = some ⟨g, o', none⟩ ∧ (candA (addsR l k) q).length < rcp) ∨ (w3.alloc (.cells #[.int .i64 (m : Int)] 3)).heap.size ≤ g) →
                  ((∃ v, w9.cell? ⟨n0 + 7, 0, none⟩ = some v) ∧ w9.frozen? ⟨n0 + 7, 0, none⟩ = false) ∧ GrC w n0 tb q lv (candA (addsR l (k + 1)) q) (growS S wr.drew w2) (w9.setCell ⟨n0 + 7, 0, none⟩ (.slice (some ⟨g, o', none⟩) ((candA (addsR l k) q).length + 1) cap')) ∧ TabI tb gz0 (w9.setCell ⟨n0 + 7, 0, none⟩ (.slice (some ⟨g, o', none⟩) ((candA (addsR l k) q).length + 1) cap')) (growS S wr.drew w2) tb (addsR l (k + 1))) := Lib.hid (fun g o' cap' w9 h1 h2 h3 => by
                obtain ⟨u1, u2, u3, u4⟩ := HP4.out g o' cap' w9 h1 h2 h3
                exact ⟨u1, by rw [HCs2.out]; exact u2, HT3.out.kept u3 u4⟩)
              have hcl2 := hcl.out
              clear p2 p3 p4
              generalize candA (addsR l k) q = cl at *
              go_wp2_with (refine wpList_append_rowk (by rfl) (.tmp 78) (.tmp 80) 41 rfl 3 iN zN 1 8 Try.underlying41 HIN.out HZN.out HSN.out HBN.out HCN.out (by decide) ra cl.length rcp (intsC cl) rfl HP2.out ⟨w3.heap.size, 0, none⟩ 1 [.int .i64 (m : Int)] rfl rfl HP3.out (by simp [Value.oneCell']) (by unfold maxLen; omega) (by omega) ?_; intro g9 o9 cap9 w9 hR9 hG9 hor9; obtain ⟨⟨⟨v9, e9⟩, f9⟩, hE1, hE2⟩ := HEnd9.out _ _ _ _ hR9 hG9 hor9; replace hE1 := Lib.hid hE1; replace hE2 := Lib.hid hE2; clear hR9 hG9 hor9)
              go_roundg (l.length - (k + 1))
              case measure => omega
              case rel => exact ⟨k + 1, _, by omega, Nat.le_refl _, by go_num, hE1.out, hE2.out⟩
          · rw [ha1, ha2] at HAdd
            rw [ha1] at hsucc
            rw [← hsucc] at HAdd
            have HSu := Lib.hid hsucc
            clear hadd ha1 ha2 hsucc
            go_upto_region 13 with fail
            go_region_held3 (fun W' => W'.cell? ⟨n0 + 6, 0, none⟩ = some (tabP tb) ∧ W'.cell? ⟨b, off + k * 3, none⟩ = some (.int .u32 (r.1 : Int)) ∧ W'.cell? ⟨b, off + k * 3 + 1, none⟩ = some (.int .u32 (r.2.1 : Int)) ∧ W'.cell? ⟨b, off + k * 3 + 2, none⟩ = some (.int .u32 (r.2.2 : Int))) ((first | assumption)) ((go_at_call 14; refine HAdd.out.mono ?_; rintro e w2 ⟨rfl, hC2, hT2, hs2⟩; replace hC2 := Lib.hid hC2; replace hT2 := Lib.hid hT2))
            have HC2 := Lib.hid (fun nq => hC2.out.below (below_drewN (Below.refl _ w2) nq))
            have HT2 := Lib.hid (fun nq => hT2.out.below (below_drewN (Below.refl _ w2) nq))
            clear hC2 hT2 hs2 hsd HAdd
            go_upto_region 14 with fail
            go_quiet (fail)
            go_wp2
            go_roundg (l.length - (k + 1))
            case measure => omega
            case rel => exact ⟨k + 1, _, by omega, Nat.le_refl _, by go_num, HC2.out _, HT2.out _⟩
        · obtain rfl : k = l.length := by omega
          have e5 : decide ((l.length : Int) < (l.length : Int)) = false := by simp
          obtain ⟨hS0, hS1⟩ := HSt.out l.length (Nat.le_refl _)
          generalize addsR l l.length = R0 at *
          obtain ⟨x0, x1, x2⟩ := hC.look
          have x8 := hC.tc
          have HS0 := Lib.hid hS0
          have hR60 : R0.length ≤ 60 := by omega
          have HR60 := Lib.hid hR60
          have HTb := Lib.hid hT.lt
          have hfn := run_func_nil8
          -- what a look hands back
          have HLen : Hid (∀ U, (U.cell? ⟨n0 + 6, 0, none⟩ = some (tabP tb) ∧ U.cell? ⟨n0, 0, none⟩ = some (.int .u32 (q.1 : Int)) ∧ U.cell? ⟨n0, 1, none⟩ = some (.int .u32 (q.2.1 : Int)) ∧ U.cell? ⟨n0, 2, none⟩ = some (.int .u32 (q.2.2 : Int)) ∧ Below wr.heap.size wr U) → Calls Try.prog 17 #[tabP tb] U fun e w' => e = .returned (.int .i64 (R0.length : Int)) ∧ U = w') := Lib.hid (fun U hU => (hT.below hU.2.2.2.2).len)
          have HMat : Hid (∀ U, (U.cell? ⟨n0 + 6, 0, none⟩ = some (tabP tb) ∧ U.cell? ⟨n0, 0, none⟩ = some (.int .u32 (q.1 : Int)) ∧ U.cell? ⟨n0, 1, none⟩ = some (.int .u32 (q.2.1 : Int)) ∧ U.cell? ⟨n0, 2, none⟩ = some (.int .u32 (q.2.2 : Int)) ∧ Below wr.heap.size wr U) →
              Calls Try.prog 16 #[tabP tb, .agg #[.int .u32 (q.1 : Int), .int .u32 (q.2.1 : Int), .int .u32 (q.2.2 : Int)], .int .i64 0, .int .i64 (R0.length : Int), .int .u8 2] U fun e w' => ∃ mb, e = .returned (.func (.func 34) #[] (lbM mb)) ∧ (wr.heap.size ≤ mb ∧ w'.heap.size = mb + 5 ∧ MatchQ mb tb q 0 (R0.length : Int) 2 w') ∧
                (w'.cell? ⟨n0 + 6, 0, none⟩ = some (tabP tb) ∧ w'.cell? ⟨n0, 0, none⟩ = some (.int .u32 (q.1 : Int)) ∧ w'.cell? ⟨n0, 1, none⟩ = some (.int .u32 (q.2.1 : Int)) ∧ w'.cell? ⟨n0, 2, none⟩ = some (.int .u32 (q.2.2 : Int)) ∧ Below wr.heap.size wr w')) := Lib.hid (fun U ⟨p0, p1, p2, p3, p4⟩ => by
            refine (match_calls tb q 0 (R0.length : Int) 2 U).mono ?_
            rintro e w' ⟨rfl, hb, hs, hq⟩
            exact ⟨U.heap.size, rfl, ⟨p4.size, hs, hq⟩, cellB hb p0, cellB hb p1, cellB hb p2, cellB hb p3, p4.trans (hb.mono p4.size)⟩)
          have hsd : wr.drew.cell? ⟨n0 + 6, 0, none⟩ = some (tabP tb) ∧ wr.drew.cell? ⟨n0, 0, none⟩ = some (.int .u32 (q.1 : Int)) ∧ wr.drew.cell? ⟨n0, 1, none⟩ = some (.int .u32 (q.2.1 : Int)) ∧ wr.drew.cell? ⟨n0, 2, none⟩ = some (.int .u32 (q.2.2 : Int)) ∧ Below wr.heap.size wr wr.drew := ⟨x8, x0, x1, x2, (Below.refl _ _).drew⟩
          clear hC hT hlt hg hk hS0 hS1 x0 x1 x2 x8 HAt HSt HSm hok HM1 HM2
          go_upto_region 16 with fail
          go_region_held3 (fun W' => W'.cell? ⟨n0 + 6, 0, none⟩ = some (tabP tb) ∧ W'.cell? ⟨n0, 0, none⟩ = some (.int .u32 (q.1 : Int)) ∧ W'.cell? ⟨n0, 1, none⟩ = some (.int .u32 (q.2.1 : Int)) ∧ W'.cell? ⟨n0, 2, none⟩ = some (.int .u32 (q.2.2 : Int)) ∧ Below wr.heap.size wr W') ((first | assumption)) ((first | (go_at_call 17; refine (HLen.out _ (by assumption)).mono ?_; rintro e w3 ⟨rfl, rfl⟩) | (go_at_call 16; refine (HMat.out _ (by assumption)).mono ?_; rintro e w4 ⟨mb, rfl, hmb, hs4⟩; replace hmb := Lib.hid hmb)))
          -- the two cells ahead of the range
          have HC4 := Lib.hid (HC.out.below hs4.2.2.2.2)
          have HT4 := Lib.hid (HT.out.below hs4.2.2.2.2)
          clear hs4 hsd HLen HMat
          obtain ⟨hmb1, hmb2, hmb3⟩ := hmb.out
          have hw5 : GrC w n0 tb q lv (candA R0 q) S w4 := HC4.out
          have hC5z := HC4.out.sz
          have hRd : ∀ W5, W5 = (w4.alloc (.cells #[.int .i64 0] 3)).alloc (.cells #[.int .u32 1073741824] 32) → RdC w n0 tb mb q lv (growG q R0 (candA R0 q) 0).2 0 (lastN q 0) S W5 ∧ TabI tb gz0 W5 S tb R0 ∧ MatchQ mb tb q 0 (R0.length : Int) 2 W5 ∧ W5.heap.size = mb + 7 := fun W5 hW5 => by
            have t1 : (w4.alloc (.cells #[.int .i64 0] 3)).heap.size = mb + 6 := by rw [World.size_alloc, hmb2]
            have t2 : W5.heap.size = mb + 7 := by rw [hW5, World.size_alloc, t1]
            have b1 := heap_alloc_new w4 (.cells #[.int .i64 0] 3)
            have b2 := heap_alloc_new (w4.alloc (.cells #[.int .i64 0] 3)) (.cells #[.int .u32 1073741824] 32)
            rw [hmb2] at b1
            rw [t1] at b2
            have hbw : Below w4.heap.size w4 W5 := by
              rw [hW5]
              exact ((Below.refl _ w4).alloc (Nat.le_refl _) _).alloc (by rw [t1, hmb2]; omega) _
            have hz := HC.out.sz
            have hSl := HTb.out
            refine ⟨⟨HC4.out.turn (X := fun _ => False) (Turned.of_below hbw) (fun j hj => hj.elim) (fun j hj => hj.elim) (S' := fun j => S j ∨ j = mb + 5 ∨ j = mb + 6) (fun j hj => ?_), ?_, ?_, fun j hj => ?_, by omega, by omega⟩, HT4.out.below hbw, hmb3.kept (fun k h1 h2 => hbw.block k (by omega)), t2⟩
            · rcases hj with hj | hj
              · exact .inl hj
              · exact .inr (by omega)
            · rw [hW5]
              exact (Below.heap_alloc _ _ _ (by rw [t1]; omega)).trans b1
            · rw [hW5]
              exact b2
            · have := hSl j hj
              omega
          go_upto_region 21 with fail
          generalize hW5 : (w4.alloc (.cells #[.int .i64 0] 3)).alloc (.cells #[.int .u32 1073741824] 32) = W5
          obtain ⟨hR5, hT5, hQ5, hs5⟩ := hRd W5 hW5.symm
          have hzr := HC.out.sz
          have hSlt := HTb.out
          have HR5 := Lib.hid hR5
          have HT5 := Lib.hid hT5
          have HQ5 := Lib.hid hQ5
          have HS5 := Lib.hid hs5
          have HMb : Hid (n0 + 8 ≤ mb ∧ tb ≤ mb ∧ ∀ j, S j → j < mb) := Lib.hid ⟨by omega, by have := hSlt tb HT.out.sT; omega, fun j hj => by have := hSlt j hj; omega⟩
          have HNs := Lib.hid (candA_len R0 q)
          clear hRd hmb hmb1 hmb2 hmb3 hw5 hC5z hW5 HC4 HT4 hzr hSlt hR5 hT5 hQ5 hs5 HC HT HTb hR60 HEnd
          go_wp2
          refine (wpIn_wide (n := 9)).1 ?_
          have hsq := match_seq (9 - 1) (by omega) tb mb tb q hq 0 (R0.length : Int) 2 (by omega) (RofG q R0) S (fun j => j = n0 + 2 ∨ j = n0 + 7 ∨ j = mb + 5 ∨ j = mb + 6) W5 (by have := HMb.out; have := HS5.out; omega) HQ5.out (by have := HS5.out; omega) (fun j hj => by
            have h1 := HMb.out
            have h2 := HS5.out
            rcases hj with hj | hj
            · have := h1.2.2 j hj; omega
            · omega)
          have HSq := Lib.hid hsq
          clear hsq
          refine wpIn_rangeT (F := Fence.wide) (n := 9) rfl (by omega) (gf := 34) (lb := lbM mb) rfl trivial (enters_of Try.func34 (by kernel_rfl) rfl) HSq.out (Below.refl _ _) (fun _ => rfl) ?ownT
            (fun op S' Wx => RdC w n0 tb mb q lv (growG q R0 (candA R0 q) op.length).2 op.length (lastN q op.length) S' Wx) ?ownI
            (fun c Wx => c = .ret ∧ Wx.cell? ⟨n0 + 2, 0, none⟩ = some (.bool true) ∧ Below w.heap.size w Wx) ?ownX (fun j hj => by have := HMb.out; have := HS5.out; omega) (fun j hj => by have := HMb.out.2.2 j hj; have := HS5.out; omega) HR5.out HT5.out
            (fun x a' Wx => ∃ br, (Wx.cell? ⟨br, 0, none⟩ = some (.int .u32 (x.2.1 : Int)) ∧ Wx.cell? ⟨br, 1, none⟩ = some (.int .u32 (x.2.2.1 : Int)) ∧ Wx.cell? ⟨br, 2, none⟩ = some (.int .u32 (x.2.2.2 : Int))) ∧ a' = { tmps := #[.slice ao l.length cap, rowV q, .int .i64 lv, undef, .pointer (some ⟨n0, 0, none⟩), .pointer (some ⟨n0 + 1, 0, none⟩), .pointer (some ⟨n0 + 1 + 1, 0, none⟩), .int .i64 (l.length : Int), .pointer (some ⟨n0 + 6, 0, none⟩), .pointer (some ⟨n0 + 7, 0, none⟩), .int .i64 (l.length : Int), u11, u12, .func (.func 34) #[] (lbM mb), .pointer (some ⟨mb + 5, 0, none⟩), .pointer (some ⟨mb + 5 + 1, 0, none⟩), .int .i64 (x.1 : Int), .pointer (some ⟨br, 0, none⟩), undef, undef, .slice ao l.length cap, .int .i64 (l.length : Int), .bool false, undef, .int .i64 (l.length : Int), .slice ao l.length cap, .int .i64 (l.length : Int), .bool false, u28, u29, u30, u31, u32, u33, u34, u35, u36, u37, u38, u39, u40, u41, u42, u43, u44, u45, u46, u47, u48, u49, u50, u51, u52, u53, .int .i64 (l.length : Int), .slice ao l.length cap, .int .i64 (l.length : Int), .bool false, u58, u59, u60, u61, u62, u63, u64, u65, u66, u67, u68, u69, u70, u71, u72, u73, u74, u75, u76, u77, u78, u79, u80, u81, tabP tb, .agg #[.int .u32 (q.1 : Int), .int .u32 (q.2.1 : Int), .int .u32 (q.2.2 : Int)], tabP tb, .int .i64 (R0.length : Int), .func (.func 34) #[] (lbM mb), .func (.func 34) #[] (lbM mb), .bool false, .func (.func 34) #[] (lbM mb), .int .i64 (x.1 : Int), .agg #[.int .u32 (x.2.1 : Int), .int .u32 (x.2.2.1 : Int), .int .u32 (x.2.2.2 : Int)], undef, undef, undef, undef, undef, undef, undef, undef, undef, undef, undef, undef, undef, undef, undef, undef, undef, undef, undef, undef, undef, undef, undef, undef, undef, undef, undef, undef, undef, undef, undef, undef, undef, undef, undef, undef, undef, undef, undef, undef, undef, undef, undef, undef, undef, undef, undef, undef, undef, undef, undef, undef, undef, undef, undef, undef, undef, undef, undef, undef, undef, undef, undef, undef], defers := [] }) ?ownA ?assign ?body ?done ?stop
          case ownT => exact fun g st S' A C row hq hg hr => hq.own hg (fun r e => ⟨by have := (hr r e).1; have := HMb.out; have := HS5.out; omega, (hr r e).2⟩)
          case ownI => exact fun op S' A C row hI hg hr => hI.own hg (fun r e => ⟨by have := (hr r e).1; have := HS5.out; omega, (hr r e).2⟩)
          case ownX =>
            rintro c st S' A C row ⟨h1, h2, h3⟩ hg hr
            exact ⟨h1, cell_kept h2 hg (fun r e => (hr r e).2), h3.trans (grown_belowO hg h3.size (fun r e => by have := (hr r e).1; have := HR5.out.c.bel.size; omega))⟩
          case ownA =>
            rintro x a' st S' A C row ⟨br, ⟨h2, h3, h4⟩, h5⟩ hg hr
            exact ⟨br, ⟨cell_kept h2 hg (fun r e => (hr r e).2), cell_kept h3 hg (fun r e => (hr r e).2), cell_kept h4 hg (fun r e => (hr r e).2)⟩, h5⟩
          case assign =>
            intro l' x Wx Kx hle hKx
            dsimp only
            gi_wp2
            have hcr := heap_alloc_new Wx (.cells #[.int .u32 (x.2.1 : Int), .int .u32 (x.2.2.1 : Int), .int .u32 (x.2.2.2 : Int)] 34)
            exact hKx _ _ ((Below.refl _ _).alloc (Nat.le_refl _) _) ⟨Wx.heap.size, ⟨cell_in hcr rfl, cell_in hcr rfl, cell_in hcr rfl⟩, rfl⟩
          case body =>
            rintro l' g op x op' S' a' Wx hl' ⟨rr, hrr⟩ hSl' hI hTx hnx ⟨br, ⟨r0, r1, r2⟩, rfl⟩
            obtain ⟨rfl, hat, hxr, hfit⟩ := next_grow HS0.out hnx
            dsimp only
            have hrows := growG_rows q R0 (candA R0 q) op.length
            have hstep : growG q R0 (candA R0 q) (op.length + 1) = stepG q op.length (growG q R0 (candA R0 q) op.length) := rfl
            have hfew := growG_few q R0 (candA R0 q) op.length
            have hlen := growG_len q R0 (candA R0 q) op.length
            have hk60 : op.length ≤ 30 := by have := (List.getElem?_eq_some_iff.1 hat).1; have := HNs.out; have := HR60.out; omega
            have hr60 : (growG q R0 (candA R0 q) op.length).2.length ≤ 60 := by have := HNs.out; have := HR60.out; omega
            have hl60 : (growG q R0 (candA R0 q) op.length).1.length ≤ 100 := by have := HR60.out; omega
            have hatk : (growG q R0 (candA R0 q) op.length).2[op.length]? = some x.1 := by rw [hrows.2 _ (Nat.le_refl _), ← hat]; congr 1; omega
            have hOp : (op ++ [x]).length = op.length + 1 := by rw [List.length_append]; rfl
            have hRof : RofG q R0 (op ++ [x]) = (growG q R0 (candA R0 q) (op.length + 1)).1 := by show (growG q R0 (candA R0 q) (op ++ [x]).length).1 = _; rw [hOp]
            have hokx : okN (newN q (lastN q op.length)) := by
              have hz : zsN q ≤ 3 := by unfold zsN; have := zN_le q.1; have := zN_le q.2.1; have := zN_le q.2.2; omega
              have hzk : zsN q * op.length ≤ 3 * 30 := Nat.mul_le_mul hz hk60
              have h1 := zN_le q.1
              have h2 := zN_le q.2.1
              obtain ⟨q1, q2, q3⟩ := hq
              unfold newN okN lastN
              dsimp only
              refine ⟨?_, ?_, ?_⟩ <;> split <;> omega
            have hlast : lastN q op.length + 3 ≤ 1073742000 := by
              have hz : zsN q ≤ 3 := by unfold zsN; have := zN_le q.1; have := zN_le q.2.1; have := zN_le q.2.2; omega
              have hzk : zsN q * op.length ≤ 3 * 30 := Nat.mul_le_mul hz hk60
              unfold lastN
              omega
            have hmix := mixS_three (lastN q op.length) hfit
            rw [← lastN_succ] at hmix
            have HGoN : Hid (∀ W', GoesT (TMat tb tb (RofG q R0)) (fun op S' Wx => RdC w n0 tb mb q lv (growG q R0 (candA R0 q) op.length).2 op.length (lastN q op.length) S' Wx) (fun c Wx => c = .ret ∧ Wx.cell? ⟨n0 + 2, 0, none⟩ = some (.bool true) ∧ Below w.heap.size w Wx) (fun j => j = n0 + 2 ∨ j = n0 + 7 ∨ j = mb + 5 ∨ j = mb + 6) W5.heap.size g (op ++ [x]) S' Wx .normal ⟨#[], []⟩ W' = (Turned (bothS S' (fun j => j = n0 + 2 ∨ j = n0 + 7 ∨ j = mb + 5 ∨ j = mb + 6)) Wx W' ∧ ∃ S2, RdC w n0 tb mb q lv (growG q R0 (candA R0 q) (op.length + 1)).2 (op.length + 1) (lastN q (op.length + 1)) S2 W' ∧ TabI tb g W' S2 tb (growG q R0 (candA R0 q) (op.length + 1)).1 ∧ ∀ j, S2 j → S' j ∨ Wx.heap.size ≤ j)) := Lib.hid (fun W' => by
              show (_ ∧ ∃ S2, RdC w n0 tb mb q lv (growG q R0 (candA R0 q) (op ++ [x]).length).2 (op ++ [x]).length (lastN q (op ++ [x]).length) S2 W' ∧ TabI tb g W' S2 tb (RofG q R0 (op ++ [x])) ∧ _) = _
              rw [hRof, hOp])
            obtain ⟨aor, capr, c7, c7r, _⟩ := hI.c.rc
            have hrl : op.length < (growG q R0 (candA R0 q) op.length).2.length := (List.getElem?_eq_some_iff.1 hatk).1
            obtain ⟨g1, o1, haor, hcs, _⟩ := c7r.at_ (by omega)
            have y7 : Wx.cell? ⟨n0 + 7, 0, none⟩ = some (.slice (some ⟨g1, o1, none⟩) (growG q R0 (candA R0 q) op.length).2.length capr) := by rw [← haor]; exact cell_in c7 rfl
            have y5 : Wx.cell? ⟨mb + 5, 0, none⟩ = some (.int .i64 (op.length : Int)) := cell_in hI.k rfl
            have yn : Wx.cell? ⟨g1, o1 + op.length, none⟩ = some (.int .i64 (x.1 : Int)) := hcs op.length _ (by unfold intsC; rw [List.getElem?_map, hatk]; rfl)
            have HI := Lib.hid hI
            have HTx := Lib.hid hTx
            have HMix := Lib.hid hmix
            have HFit := Lib.hid hfit
            have HSl : Hid (∀ j, S' j → j < Wx.heap.size) := Lib.hid hTx.lt
            have hpx := heap_alloc_new Wx (.cells (rowC x.2) 34)
            have hbx := (Below.refl Wx.heap.size Wx).alloc (Nat.le_refl _) (.cells (rowC x.2) 34)
            have hlx : (Wx.alloc (.cells (rowC x.2) 34)).heap[mb + 6]? = some (.cells #[.int .u32 (lastN q op.length : Int)] 32 (0, 0)) := (hbx.block _ (by have := hI.z; omega)).trans hI.l
            obtain ⟨U0, hU0⟩ : ∃ U0, U0 = Wx.alloc (.cells (rowC x.2) 34) := ⟨_, rfl⟩
            obtain ⟨px, hpx0⟩ : ∃ px, px = Wx.heap.size := ⟨_, rfl⟩
            rw [← hU0] at hpx hbx hlx
            rw [← hpx0] at hpx
            have HU0 := Lib.hid hU0
            have HPx := Lib.hid hpx0
            have HBx := Lib.hid hbx
            have HPc := Lib.hid hpx
            have HLx := Lib.hid hlx
            have hpm : mb + 7 ≤ px := by have := hI.z; omega
            have HPm := Lib.hid hpm
            -- what is asked of the look
            have HQl : Hid (∀ U, Turned (fun j => j = mb + 6) Wx U → ∀ j, j < 3 → U.cell? ⟨n0, j, none⟩ = some (.int .u32 (atN q j : Int))) := Lib.hid (fun U hU j hj => by
              have k0 := (hU.block n0 (by have := hI.z; have := hI.m; omega) (by have := hI.m; omega)).trans hI.c.lk
              obtain rfl | rfl | rfl : j = 0 ∨ j = 1 ∨ j = 2 := by omega
              all_goals exact cell_in k0 rfl)
            have t1 : decide ((op.length : Int) ≥ ((growG q R0 (candA R0 q) op.length).2.length : Int)) = false := by simp; omega
            have t1' : decide (((growG q R0 (candA R0 q) op.length).2.length : Int) ≤ (op.length : Int)) = false := by simp; omega
            have t1n : decide ((growG q R0 (candA R0 q) op.length).2.length ≤ op.length) = false := by simp; omega
            have i0 : (0 : Int) ≤ (op.length : Int) := by omega
            have i1 : (op.length : Int) < ((growG q R0 (candA R0 q) op.length).2.length : Int) := by omega
            have HStep := Lib.hid hstep
            have HRows := Lib.hid hrows
            have HR60' := Lib.hid hr60
            have HL60 := Lib.hid hl60
            have HK30 := Lib.hid hk60
            have HOkx := Lib.hid hokx
            have HLast := Lib.hid hlast
            have HRl := Lib.hid hrl
            clear hI hTx hmix hfit hU0 hpx0 hbx hpx hlx hpm hstep hrows hr60 hl60 hk60 hokx hlast hatk hat hxr hfew hlen hOp hRof c7 c7r haor hcs hnx hrr hSl' hrl
            gi_upto_region 27 with fail
            rw [← HU0.out, ← HPx.out]
            clear y7 y5 yn r0 r1 r2 t1 t1' t1n
            gi_wp2
            gi_loopg [19] 3 (fun g i U => ∃ j : Nat, j ≤ 3 ∧ 3 - j ≤ g ∧ i = .int .i64 (j : Int) ∧ U.heap[px]? = some (.cells (rowC (mixS q x.2 (lastN q op.length) j).1) 34 (0, 0)) ∧ U.heap[mb + 6]? = some (.cells #[.int .u32 ((mixS q x.2 (lastN q op.length) j).2 : Int)] 32 (0, 0)) ∧ Turned (fun j => j = mb + 6) Wx U)
            case atStart => exact ⟨0, by omega, by omega, rfl, HPc.out, HLx.out, Turned.of_below HBx.out⟩
            case round =>
              obtain ⟨j, hj, hg, rfl, hxc, hlc, hTu⟩ := hrel
              have HTu := Lib.hid hTu
              by_cases hj3 : j < 3
              · have c0 := HQl.out _ hTu j hj3
                have hmx : mixS q x.2 (lastN q op.length) (j + 1) = if atN q j = 0 then (setN (mixS q x.2 (lastN q op.length) j).1 j ((mixS q x.2 (lastN q op.length) j).2 + 1), (mixS q x.2 (lastN q op.length) j).2 + 1) else mixS q x.2 (lastN q op.length) j := rfl
                have hml : (mixS q x.2 (lastN q op.length) j).2 ≤ 1073742000 := by have := mixS_le q x.2 (lastN q op.length) j; have := HLast.out; omega
                generalize mixS q x.2 (lastN q op.length) j = ml at *
                obtain ⟨y, L⟩ := ml
                dsimp only at hmx hml hxc hlc
                have e6 : decide ((j : Int) < 3) = true := by simp; omega
                have k0 : (0 : Int) ≤ (j : Int) := by omega
                have k3 : (j : Int) < 3 := by omega
                have HHx := Lib.hid hxc
                have HHl := Lib.hid hlc
                by_cases ha : atN q j = 0
                · rw [ha] at c0
                  rw [if_pos ha] at hmx
                  have HMx := Lib.hid hmx
                  have cL : wr.cell? ⟨mb + 6, 0, none⟩ = some (.int .u32 (L : Int)) := cell_in hlc rfl
                  have fL : wr.frozen? ⟨mb + 6, 0, none⟩ = false := free_in hlc 0
                  have v1 : IntKind.u32.wrap ((L : Int) + 1) = (L : Int) + 1 := IntWalk.u32_in _ (by omega)
                  have hcc : ((L + 1 : Nat) : Int) = (L : Int) + 1 := by simp
                  rw [← hcc] at v1
                  have HEn : Hid (∀ U, U = wr.setCell ⟨mb + 6, 0, none⟩ (.int .u32 ((L + 1 : Nat) : Int)) → (U.cell? ⟨mb + 6, 0, none⟩ = some (.int .u32 ((L + 1 : Nat) : Int)) ∧ (∃ u, U.cell? ⟨px, j, none⟩ = some u) ∧ U.frozen? ⟨px, j, none⟩ = false) ∧
                      (U.setCell ⟨px, j, none⟩ (.int .u32 ((L + 1 : Nat) : Int))).heap[px]? = some (.cells (rowC (setN y j (L + 1))) 34 (0, 0)) ∧ (U.setCell ⟨px, j, none⟩ (.int .u32 ((L + 1 : Nat) : Int))).heap[mb + 6]? = some (.cells #[.int .u32 ((L + 1 : Nat) : Int)] 32 (0, 0)) ∧ Turned (fun j => j = mb + 6) Wx (U.setCell ⟨px, j, none⟩ (.int .u32 ((L + 1 : Nat) : Int)))) := Lib.hid (fun U hU => by
                    have hne : px ≠ mb + 6 := by have := HPm.out; omega
                    have u1 : U.heap[mb + 6]? = some (.cells #[.int .u32 ((L + 1 : Nat) : Int)] 32 (0, 0)) := by rw [hU]; exact heap_setCell_same wr (mb + 6) 0 _ _ _ HHl.out
                    have u2 : U.heap[px]? = some (.cells (rowC y) 34 (0, 0)) := by rw [hU]; exact (Below.heap_setCell _ _ _ _ hne).trans HHx.out
                    have hs0 := HTu.out.size
                    have t1 : Turned (fun j => j = mb + 6) Wx U := by rw [hU]; exact HTu.out.trans (Turned.set (S := fun j => j = mb + 6) (a := ⟨mb + 6, 0, none⟩) rfl _)
                    have hs1 := t1.size
                    refine ⟨⟨cell_in u1 rfl, ?_, free_in u2 j⟩, by rw [← rowC_set y j (L + 1) hj3]; exact heap_setCell_same U px j _ _ _ u2, (Below.heap_setCell _ _ _ _ (Ne.symm hne)).trans u1, ⟨t1.os, t1.tape, t1.output, by simpa [World.setCell] using t1.size, fun k hk hn => (Below.heap_setCell _ _ _ _ (by have := HPx.out; show k ≠ px; omega)).trans (t1.block k hk hn)⟩⟩
                    obtain rfl | rfl | rfl : j = 0 ∨ j = 1 ∨ j = 2 := by omega
                    all_goals exact ⟨_, cell_in u2 rfl⟩)
                  rw [hcc] at v1 HEn
                  clear hxc hlc hTu hmx ha hml hcc
                  gi_upto_region 32 with fail
                  generalize hU1 : wr.setCell ⟨mb + 5 + 1, 0, none⟩ (.int .u32 ((L : Int) + 1)) = U1
                  obtain ⟨⟨w1, ⟨w2, w3⟩, w4⟩, hE⟩ := HEn.out U1 hU1.symm
                  have HE := Lib.hid hE
                  clear hE hU1 cL fL v1
                  generalize hLL : (L : Int) + 1 = LL at *
                  have HLl : Hid (((L + 1 : Nat) : Int) = LL) := Lib.hid (by rw [← hLL]; simp)
                  clear hLL
                  gi_wp2
                  gi_roundg (3 - (j + 1))
                  case measure => omega
                  case rel => exact ⟨j + 1, by omega, Nat.le_refl _, by go_num, by rw [HMx.out]; exact HE.out.1, by rw [HMx.out]; exact HE.out.2.1.trans (by rw [← HLl.out]), HE.out.2.2⟩
                · have ea : ((atN q j : Int) == 0) = false := by rw [beq_eq_false_iff_ne]; omega
                  rw [if_neg ha] at hmx
                  have HMx := Lib.hid hmx
                  clear hxc hlc hTu hmx ha hml
                  generalize atN q j = aa at *
                  gi_wp2
                  gi_roundg (3 - (j + 1))
                  case measure => omega
                  case rel => exact ⟨j + 1, by omega, Nat.le_refl _, by go_num, by rw [HMx.out]; exact HHx.out, by rw [HMx.out]; exact HHl.out, HTu.out⟩
              · obtain rfl : j = 3 := by omega
                rw [HMix.out] at hxc hlc
                dsimp only at hxc hlc
                -- END OF THE ROUND
                obtain ⟨kk, hkk⟩ : ∃ kk, kk = op.length := ⟨_, rfl⟩
                obtain ⟨rows, hrw⟩ : ∃ rows, rows = (growG q R0 (candA R0 q) op.length).2 := ⟨_, rfl⟩
                obtain ⟨RR, hRR⟩ : ∃ RR, RR = (growG q R0 (candA R0 q) op.length).1 := ⟨_, rfl⟩
                have hI := HI.out
                have hTx := HTx.out
                have hd := hI.d
                have hRd := hI.last hTu hlc
                have hTb : TabI tb g wr S' tb (growG q R0 (candA R0 q) op.length).1 := TabI.beside hTx hTu (fun j hj e => (hd j hj).2 e)
                have hLst := lastN_succ q op.length
                rw [← hrw, ← hkk] at hRd
                rw [← hkk] at HGoN
                rw [← hRR] at hTb
                have hRl100 : RR.length ≤ 1000000 := by rw [hRR]; have := HL60.out; omega
                have hStep := HStep.out
                rw [show stepG q op.length (growG q R0 (candA R0 q) op.length) = stepG q op.length (RR, rows) from by rw [hRR, hrw], ← hkk] at hStep
                have hrl60 : rows.length ≤ 60 := by rw [hrw]; exact HR60'.out
                have hkr : kk < rows.length := by rw [hrw, hkk]; exact HRl.out
                have hwx : Wx.heap.size ≤ wr.heap.size := hTu.size
                have hTu2 : Turned (bothS S' (fun j => j = n0 + 2 ∨ j = n0 + 7 ∨ j = mb + 5 ∨ j = mb + 6)) Wx wr := hTu.mono (fun j hj => .inr (.inr (.inr (.inr hj))))
                -- what the rest wants
                have HFin : Hid (∀ (W3 : World) (S2 : Nat → Prop), RdC w n0 tb mb q lv (growG q R0 (candA R0 q) (kk + 1)).2 kk (lastN q (kk + 1)) S2 W3 → TabI tb g W3 S2 tb (growG q R0 (candA R0 q) (kk + 1)).1 → Turned (bothS S' (fun j => j = n0 + 2 ∨ j = n0 + 7 ∨ j = mb + 5 ∨ j = mb + 6)) Wx W3 → (∀ j, S2 j → S' j ∨ Wx.heap.size ≤ j) →
                    (W3.cell? ⟨mb + 5, 0, none⟩ = some (.int .i64 (kk : Int)) ∧ W3.frozen? ⟨mb + 5, 0, none⟩ = false) ∧ ∀ W4, W4 = W3.setCell ⟨mb + 5, 0, none⟩ (.int .i64 ((kk : Int) + 1)) → (W4.cell? ⟨mb + 5, 0, none⟩ = some (.int .i64 ((kk : Int) + 1)) ∧ W4.cell? ⟨n0 + 1, 0, none⟩ = some (.int .i64 lv)) ∧
                      GoesT (TMat tb tb (RofG q R0)) (fun op S' Wx => RdC w n0 tb mb q lv (growG q R0 (candA R0 q) op.length).2 op.length (lastN q op.length) S' Wx) (fun c Wx => c = .ret ∧ Wx.cell? ⟨n0 + 2, 0, none⟩ = some (.bool true) ∧ Below w.heap.size w Wx) (fun j => j = n0 + 2 ∨ j = n0 + 7 ∨ j = mb + 5 ∨ j = mb + 6) W5.heap.size g (op ++ [x]) S' Wx .normal ⟨#[], []⟩ W4 ∧
                      ∀ W6, Below W4.heap.size W4 W6 → (W6.cell? ⟨n0 + 2, 0, none⟩ = some (.bool false) ∧ W6.frozen? ⟨n0 + 2, 0, none⟩ = false) ∧ GoesT (TMat tb tb (RofG q R0)) (fun op S' Wx => RdC w n0 tb mb q lv (growG q R0 (candA R0 q) op.length).2 op.length (lastN q op.length) S' Wx) (fun c Wx => c = .ret ∧ Wx.cell? ⟨n0 + 2, 0, none⟩ = some (.bool true) ∧ Below w.heap.size w Wx) (fun j => j = n0 + 2 ∨ j = n0 + 7 ∨ j = mb + 5 ∨ j = mb + 6) W5.heap.size g (op ++ [x]) S' Wx .ret ⟨#[], []⟩ (W6.setCell ⟨n0 + 2, 0, none⟩ (.bool true))) := Lib.hid (fun W3 S2 h1 h2 h3 h4 => by
                  refine ⟨⟨cell_in h1.k rfl, free_in h1.k 0⟩, fun W4 hW4 => ?_⟩
                  obtain ⟨p1, p2⟩ := h1.count
                  rw [← hW4] at p1 p2
                  have hT4 : TabI tb g W4 S2 tb (growG q R0 (candA R0 q) (kk + 1)).1 := h2.beside p2 (fun j hj e => (h1.d j hj).1 e)
                  have hTu4 : Turned (bothS S' (fun j => j = n0 + 2 ∨ j = n0 + 7 ∨ j = mb + 5 ∨ j = mb + 6)) Wx W4 := h3.trans (p2.mono (fun j hj => .inr (.inr (.inr (.inl hj)))))
                  have hcc : (((kk + 1 : Nat) : Int)) = (kk : Int) + 1 := by simp
                  have c5 := p1.k
                  rw [hcc] at c5
                  refine ⟨⟨cell_in c5 rfl, p1.c.lv⟩, (HGoN.out W4).mpr ⟨hTu4, S2, p1, hT4, h4⟩, fun W6 hW6 => ?_⟩
                  have h6 := p1.below hW6
                  have hres := h6.c.res
                  have hz6 := h6.z
                  have hn6 := h6.c.hn
                  have c2 : W6.cell? ⟨n0 + 2, 0, none⟩ = some (.bool false) := cell_in hres rfl
                  have hTu6 : Turned (bothS S' (fun j => j = n0 + 2 ∨ j = n0 + 7 ∨ j = mb + 5 ∨ j = mb + 6)) Wx (W6.setCell ⟨n0 + 2, 0, none⟩ (.bool true)) := (hTu4.trans (Turned.of_below hW6)).trans (Turned.set (a := ⟨n0 + 2, 0, none⟩) (.inr (.inl rfl)) _)
                  exact ⟨⟨c2, free_in hres 0⟩, hTu6.x.mono (Nat.zero_le _), rfl, World.cell?_setCell_same' W6 ⟨n0 + 2, 0, none⟩ (.bool true) (by rw [c2]; rfl), h6.c.bel.setCell (p := ⟨n0 + 2, 0, none⟩) (show w.heap.size ≤ n0 + 2 by omega) _⟩)
                have hokx := HOkx.out
                rw [← hkk] at hokx hxc
                have HAdd : Hid (Calls Try.prog 14 #[tabP tb, .agg #[.int .u32 ((newN q (lastN q kk)).1 : Int), .int .u32 ((newN q (lastN q kk)).2.1 : Int), .int .u32 ((newN q (lastN q kk)).2.2 : Int)], .int .u8 2] wr fun e w2 => e = .returned (.tuple (addV RR (newN q (lastN q kk)) 2)) ∧ RdC w n0 tb mb q lv rows kk (lastN q (kk + 1)) (growS S' wr w2) w2 ∧ TabI tb g w2 (growS S' wr w2) tb (addR RR (newN q (lastN q kk)) 2) ∧
                    Turned (bothS S' (fun j => j = n0 + 2 ∨ j = n0 + 7 ∨ j = mb + 5 ∨ j = mb + 6)) Wx w2 ∧ ∀ j, growS S' wr w2 j → S' j ∨ Wx.heap.size ≤ j) := Lib.hid (by
                  refine (hTb.add _ hokx 2 (by omega) hRl100).mono ?_
                  rintro e w2 ⟨rfl, hT2, hC2⟩
                  refine ⟨rfl, hRd.turn hT2 (fun j hj => by
                    rcases hj with hj | hj
                    · exact .inl hj
                    · exact .inr hj.1), hC2, hTu2.trans (hT2.mono (fun j hj => .inl hj)), fun j hj => ?_⟩
                  rcases hj with hj | hj
                  · exact .inl hj
                  · exact .inr (by omega))
                obtain ⟨va, vb, hv⟩ := addV_two RR (newN q (lastN q kk)) 2
                rw [hv] at HAdd
                obtain ⟨nx, hnx⟩ : ∃ nx, nx = newN q (lastN q kk) := ⟨_, rfl⟩
                rw [← hnx] at HAdd hxc
                have b0 : wr.cell? ⟨px, 0, none⟩ = some (.int .u32 (nx.1 : Int)) := cell_in hxc rfl
                have b1 : wr.cell? ⟨px, 1, none⟩ = some (.int .u32 (nx.2.1 : Int)) := cell_in hxc rfl
                have b2 : wr.cell? ⟨px, 2, none⟩ = some (.int .u32 (nx.2.2 : Int)) := cell_in hxc rfl
                have b6 := hRd.c.tc
                have e6 : decide ((3 : Int) < 3) = false := by simp
                have HNx := Lib.hid hnx
                have HKk := Lib.hid hkk
                have HSt2 := Lib.hid hStep
                clear hRd hTb hTu hTu2 hxc hlc hd hI hTx hwx hLst hStep hv hRR hrw hokx hg hj hnx hkk hj3 HI HTx HMix HFit HQl
                gi_upto_region 34 with (refine ⟨trivial, ?_⟩; gi_at_call 14; refine (CallsIn.inRound l' (callsIn_wide.2 HAdd.out)).mono ?_; rintro e w2 ⟨rfl, hR2, hT2, hTu2, hG2⟩; replace hTu2 := Lib.hid hTu2; replace hT2 := Lib.hid hT2; replace hG2 := Lib.hid hG2)
                obtain ⟨aor, capr, c7, c7r, _⟩ := hR2.c.rc
                obtain ⟨g1, o1, haor, hcs, _⟩ := c7r.at_ (by omega)
                have y7 : w2.cell? ⟨n0 + 7, 0, none⟩ = some (.slice (some ⟨g1, o1, none⟩) rows.length capr) := by rw [← haor]; exact cell_in c7 rfl
                have y5 : w2.cell? ⟨mb + 5, 0, none⟩ = some (.int .i64 (kk : Int)) := cell_in hR2.k rfl
                have v1 : kk + 1 ≤ 1000000001 := by omega
                by_cases hk1 : kk + 1 < rows.length
                · have e7 : decide ((kk : Int) + 1 < (rows.length : Int)) = true := by simp; omega
                  have e7n : decide (kk + 1 < rows.length) = true := by simpa using hk1
                  obtain ⟨m, hm⟩ : ∃ m, rows[kk + 1]? = some m := ⟨_, List.getElem?_eq_getElem hk1⟩
                  have hSt : growG q R0 (candA R0 q) (kk + 1) = (modR (addR RR nx 2) (m : Int) (fun x => andNotB x 2), rows.eraseIdx (kk + 1)) := by
                    rw [HSt2.out]
                    unfold stepG
                    dsimp only
                    rw [hm, ← HNx.out]
                  have ym : w2.cell? ⟨g1, o1 + (kk + 1), none⟩ = some (.int .i64 (m : Int)) := hcs (kk + 1) _ (by unfold intsC; rw [List.getElem?_map, hm]; rfl)
                  have hsd : w2.drew.cell? ⟨n0 + 6, 0, none⟩ = some (tabP tb) ∧ w2.drew.cell? ⟨n0 + 7, 0, none⟩ = some (.slice (some ⟨g1, o1, none⟩) rows.length capr) ∧ w2.drew.cell? ⟨mb + 5, 0, none⟩ = some (.int .i64 (kk : Int)) ∧ w2.drew.cell? ⟨g1, o1 + (kk + 1), none⟩ = some (.int .i64 (m : Int)) := ⟨hR2.c.tc, y7, y5, ym⟩
                  have wr1 : IntKind.i64.wrap ((kk : Int) + 1) = (kk : Int) + 1 := IntWalk.i64_in _ (by omega)
                  have wr2 : IntKind.i64.wrap ((kk : Int) + 2) = (kk : Int) + 2 := IntWalk.i64_in _ (by omega)
                  have ix0 : (0 : Int) ≤ (kk : Int) + 1 := by omega
                  have ix1 : (kk : Int) + 1 < (rows.length : Int) := by omega
                  have hcapr : rows.length ≤ capr := c7r.le
                  have hcaprm : capr ≤ maxLen := by
                    rcases c7r.2 with ⟨h, _⟩ | ⟨_, _, _, _, _, _, h, _⟩
                    · rw [haor] at h; cases h
                    · exact h
                  have hgS : ¬ growS S' wr w2 g1 := by
                    obtain ⟨aor', capr', c7', _, h3⟩ := hR2.c.rc
                    rw [c7] at c7'
                    simp only [Option.some.injEq, Obj.cells.injEq, Array.mk.injEq, List.cons.injEq, Value.slice.injEq, and_true, true_and] at c7'
                    exact fun hj => (h3 ⟨g1, o1, none⟩ (c7'.1 ▸ haor)).2 (.inl hj)
                  have hTl2 := hT2.out.lt
                  have HClr : Hid (Calls Try.prog 18 #[tabP tb, .int .i64 (m : Int), .int .u8 2] w2.drew fun e w3 => e = .returned (.tuple #[]) ∧ TabI tb g w3 (growS S' wr w2) tb (modR (addR RR nx 2) (m : Int) (fun x => andNotB x 2)) ∧ (RdC w n0 tb mb q lv rows kk (lastN q (kk + 1)) (growS S' wr w2) w3 ∧ Turned (growS S' wr w2) w2 w3) ∧
                      (w3.cell? ⟨n0 + 6, 0, none⟩ = some (tabP tb) ∧ w3.cell? ⟨n0 + 7, 0, none⟩ = some (.slice (some ⟨g1, o1, none⟩) rows.length capr) ∧ w3.cell? ⟨mb + 5, 0, none⟩ = some (.int .i64 (kk : Int)) ∧ w3.cell? ⟨g1, o1 + (kk + 1), none⟩ = some (.int .i64 (m : Int)))) := Lib.hid (by
                    refine ((hT2.out.below (Below.refl _ _).drew).clear (m : Int) 2 (by omega)).mono ?_
                    rintro e w3 ⟨rfl, hT3, hC3⟩
                    have hR3 := (hR2.below (Below.refl _ _).drew).turn hT3 (fun j hj => .inl hj)
                    refine ⟨rfl, hC3, ⟨hR3, (Turned.of_below (Below.refl _ _).drew).trans hT3⟩, hR3.c.tc, ?_, cell_in hR3.k rfl, (Turned.of_below (Below.refl _ _).drew |>.trans hT3).cell hgS ym⟩
                    have k7 : w3.heap[n0 + 7]? = w2.heap[n0 + 7]? := hT3.block _ (by have := hR2.z; have := hR2.m; show n0 + 7 < w2.heap.size; omega) (fun hj => by have := hR2.c.hS _ (.inl hj); omega)
                    exact (World.cell?_of_block (a := ⟨n0 + 7, 0, none⟩) k7).trans y7)
                  have HHcs := Lib.hid hcs
                  have HG1 := Lib.hid hgS
                  clear c7 c7r haor hcs b0 b1 b2 b6 HAdd hgS hm hk1 hR2
                  gi_upto_region 35 with fail
                  clear y7 y5 ym
                  refine wpIn_region_heldR (S := fun W' : World => W'.cell? ⟨n0 + 6, 0, none⟩ = some (tabP tb) ∧ W'.cell? ⟨n0 + 7, 0, none⟩ = some (.slice (some ⟨g1, o1, none⟩) rows.length capr) ∧ W'.cell? ⟨mb + 5, 0, none⟩ = some (.int .i64 (kk : Int)) ∧ W'.cell? ⟨g1, o1 + (kk + 1), none⟩ = some (.int .i64 (m : Int))) (by kernel_rfl) ?hlet (by kernel_rfl) hsd (fun hHeld => ?_)
                  case hlet => rintro ⟨_, _, h⟩; exact h
                  refine wpAnyH_take (i := 0) (v := tabP tb) rfl (by kernel_rfl) (by kernel_rfl) (by kernel_rfl) (fun _ _ _ h => h) (Or.inl ⟨by rfl, fun w hSw => by (try dsimp only at hSw); obtain ⟨hSw1, hSw2, hSw3, hSw4⟩ := hSw; go_simp⟩) hHeld ?_
                  simp only [Act.put, List.setIfInBounds_toArray, List.set_cons_zero, List.set_cons_succ, List.getElem_toArray, List.getElem_cons_succ, List.getElem_cons_zero]
                  refine wpAnyH_take (i := 1) (v := .slice (some ⟨g1, o1, none⟩) rows.length capr) rfl (by kernel_rfl) (by kernel_rfl) (by kernel_rfl) (fun _ _ _ h => h) (Or.inl ⟨by rfl, fun w hSw => by (try dsimp only at hSw); obtain ⟨hSw1, hSw2, hSw3, hSw4⟩ := hSw; go_simp⟩) hHeld ?_
                  simp only [Act.put, List.setIfInBounds_toArray, List.set_cons_zero, List.set_cons_succ, List.getElem_toArray, List.getElem_cons_succ, List.getElem_cons_zero]
                  refine wpAnyH_take (i := 2) (v := .int .i64 (kk : Int)) rfl (by kernel_rfl) (by kernel_rfl) (by kernel_rfl) (fun _ _ _ h => h) (Or.inl ⟨by rfl, fun w hSw => by (try dsimp only at hSw); obtain ⟨hSw1, hSw2, hSw3, hSw4⟩ := hSw; go_simp⟩) hHeld ?_
                  simp only [Act.put, List.setIfInBounds_toArray, List.set_cons_zero, List.set_cons_succ, List.getElem_toArray, List.getElem_cons_succ, List.getElem_cons_zero]
                  refine wpAnyH_take (i := 3) (v := .int .i64 ((kk : Int) + 1)) rfl (by kernel_rfl) (by kernel_rfl) (by kernel_rfl) (fun _ _ _ h => h) (Or.inl ⟨by rfl, fun w hSw => by (try dsimp only at hSw); obtain ⟨hSw1, hSw2, hSw3, hSw4⟩ := hSw; go_simp⟩) hHeld ?_
                  simp only [Act.put, List.setIfInBounds_toArray, List.set_cons_zero, List.set_cons_succ, List.getElem_toArray, List.getElem_cons_succ, List.getElem_cons_zero]
                  refine wpAnyH_take (i := 4) (v := .pointer (some ⟨g1, o1 + (kk + 1), none⟩)) rfl (by kernel_rfl) (by kernel_rfl) (by kernel_rfl) (fun _ _ _ h => h) (Or.inl ⟨by rfl, fun w hSw => by (try dsimp only at hSw); obtain ⟨hSw1, hSw2, hSw3, hSw4⟩ := hSw; go_simp⟩) hHeld ?_
                  simp only [Act.put, List.setIfInBounds_toArray, List.set_cons_zero, List.set_cons_succ, List.getElem_toArray, List.getElem_cons_succ, List.getElem_cons_zero]
                  refine wpAnyH_take (i := 5) (v := .int .i64 (m : Int)) rfl (by kernel_rfl) (by kernel_rfl) (by kernel_rfl) (fun _ _ _ h => h) (Or.inl ⟨by rfl, fun w hSw => by (try dsimp only at hSw); obtain ⟨hSw1, hSw2, hSw3, hSw4⟩ := hSw; go_simp⟩) hHeld ?_
                  simp only [Act.put, List.setIfInBounds_toArray, List.set_cons_zero, List.set_cons_succ, List.getElem_toArray, List.getElem_cons_succ, List.getElem_cons_zero]
                  refine wpAnyH_ready (rs := [6]) (by kernel_rfl) (by simp) ?_
                  refine AllReadyH.cons rfl (fun K hK => ?_) AllReadyH.nil
                  go_simp
                  refine HClr.out.mono ?_
                  rintro e w3 ⟨rfl, hT3, hC3, hs3⟩
                  dsimp only
                  refine hK.out _ _ hs3 (fun hHeld => ?_)
                  clear hK K
                  (try simp only [Act.put, List.setIfInBounds_toArray, List.set_cons_zero, List.set_cons_succ, List.getElem_toArray, List.getElem_cons_succ, List.getElem_cons_zero])
                  refine wpAnyH_done (by kernel_rfl) ?_ _
                  have HG1' := HG1.out
                  have q7 := hs3.2.1
                  have q5 : w3.drew.cell? ⟨mb + 5, 0, none⟩ = some (.int .i64 (kk : Int)) := hs3.2.2.1
                  have hT3l := hT3.lt
                  have HT3 := Lib.hid hT3
                  have HC3 := Lib.hid hC3
                  have hr3 : ∀ j u, (intsC rows)[j]? = some u → w3.cell? ⟨g1, o1 + j, none⟩ = some u := fun j u hu => hC3.2.cell HG1.out (HHcs.out j u hu)
                  clear hs3 hsd hT3 hC3 HClr
                  gi_upto_region 36 with fail
                  have HCut1 : Hid (∀ W : World, (Instr.slice 41 (.slice (some ⟨g1, o1, none⟩) rows.length capr) none (some (.int .i64 ((kk : Int) + 1))) none).run Try.prog W = .ok (.slice (some ⟨g1, o1, none⟩) (kk + 1) capr) W) := Lib.hid (fun W => by
                    have := run_cut_first g1 o1 rows.length capr (kk + 1) (by omega) W
                    simpa using this)
                  obtain ⟨sa, hsa⟩ : ∃ sa, sa = (if capr = kk + 2 then some (⟨g1, o1, none⟩ : Addr) else some ⟨g1, o1 + (kk + 2), none⟩) := ⟨_, rfl⟩
                  have hk2 : kk + 2 ≤ rows.length := by have := e7n; simp at this; omega
                  have HCut2 : Hid (∀ W : World, (Instr.slice 41 (.slice (some ⟨g1, o1, none⟩) rows.length capr) (some (.int .i64 ((kk : Int) + 2))) none none).run Try.prog W = .ok (.slice sa (rows.length - (kk + 2)) (capr - (kk + 2))) W) := Lib.hid (fun W => by
                    have := run_cut_rest g1 o1 rows.length capr (kk + 2) (by omega) hk2 hcapr W
                    rw [hsa]
                    simpa using this)
                  have HSrc1 : Hid (SrcK w3.drew (some ⟨g1, o1, none⟩) (kk + 1) (intsC (rows.take (kk + 1)))) := Lib.hid ⟨by unfold intsC; rw [List.length_map, List.length_take]; omega, g1, o1, fun _ => rfl, fun j u hu => hr3 j u (by
                    unfold intsC at hu ⊢
                    rw [List.getElem?_map] at hu ⊢
                    have hj : j < kk + 1 := by
                      by_cases h : j < kk + 1
                      · exact h
                      · rw [List.getElem?_take, if_neg h] at hu
                        cases hu
                    rw [List.getElem?_take, if_pos hj] at hu
                    exact hu)⟩
                  have HOne : Hid (∀ u ∈ intsC (rows.drop (kk + 2)), u.oneCell' = true) := Lib.hid (fun u hu => by
                    unfold intsC at hu
                    obtain ⟨n, _, rfl⟩ := List.mem_map.1 hu
                    rfl)
                  have hrw : rows.take (kk + 1) ++ rows.drop (kk + 2) = rows.eraseIdx (kk + 1) := by rw [List.eraseIdx_eq_take_drop_succ]
                  have HFst : Hid (∀ (c1 : Nat) (v1 : World), RowK v1 3 1 (some ⟨w3.drew.heap.size, 0, none⟩) (kk + 1) c1 (intsC (rows.take (kk + 1))) → Below w3.drew.heap.size w3.drew v1 → v1.cell? ⟨mb + 5, 0, none⟩ = some (.int .i64 (kk : Int)) ∧ v1.cell? ⟨n0 + 7, 0, none⟩ = some (.slice (some ⟨g1, o1, none⟩) rows.length capr) ∧
                      Hid (RowK v1 3 1 (some ⟨w3.drew.heap.size, 0, none⟩) (kk + 1) c1 (intsC (rows.take (kk + 1))) ∧ SrcK v1 sa (rows.length - (kk + 2)) (intsC (rows.drop (kk + 2))) ∧
                        ∀ (g9 o9 c9 : Nat) (v9 : World), RowK v9 3 1 (some ⟨g9, o9, none⟩) (kk + 1 + (rows.length - (kk + 2))) c9 (intsC (rows.take (kk + 1)) ++ intsC (rows.drop (kk + 2))) → v1.grownBy v9 (some g9) → (g9 = w3.drew.heap.size ∨ v1.heap.size ≤ g9) →
                          v9.cell? ⟨mb + 5, 0, none⟩ = some (.int .i64 (kk : Int)) ∧ ((∃ z, v9.cell? ⟨n0 + 7, 0, none⟩ = some z) ∧ v9.frozen? ⟨n0 + 7, 0, none⟩ = false) ∧
                          Hid ((v9.setCell ⟨n0 + 7, 0, none⟩ (.slice (some ⟨g9, o9, none⟩) (kk + 1 + (rows.length - (kk + 2))) c9)).cell? ⟨mb + 5, 0, none⟩ = some (.int .i64 (kk : Int)) ∧
                            RdC w n0 tb mb q lv (growG q R0 (candA R0 q) (kk + 1)).2 kk (lastN q (kk + 1)) (growS S' wr w2) (v9.setCell ⟨n0 + 7, 0, none⟩ (.slice (some ⟨g9, o9, none⟩) (kk + 1 + (rows.length - (kk + 2))) c9)) ∧ TabI tb g (v9.setCell ⟨n0 + 7, 0, none⟩ (.slice (some ⟨g9, o9, none⟩) (kk + 1 + (rows.length - (kk + 2))) c9)) (growS S' wr w2) tb (growG q R0 (candA R0 q) (kk + 1)).1 ∧
                            Turned (bothS S' (fun j => j = n0 + 2 ∨ j = n0 + 7 ∨ j = mb + 5 ∨ j = mb + 6)) Wx (v9.setCell ⟨n0 + 7, 0, none⟩ (.slice (some ⟨g9, o9, none⟩) (kk + 1 + (rows.length - (kk + 2))) c9)) ∧ ∀ j, growS S' wr w2 j → S' j ∨ Wx.heap.size ≤ j))) := Lib.hid (fun c1 v1 h1 h2 => by
                    have hR3 := HC3.out.1.below ((Below.refl w3.heap.size w3).drew.trans h2)
                    have k7 : v1.cell? ⟨n0 + 7, 0, none⟩ = some (.slice (some ⟨g1, o1, none⟩) rows.length capr) := cellB h2 q7
                    refine ⟨cell_in hR3.k rfl, k7, Lib.hid ⟨h1, ⟨by unfold intsC; rw [List.length_map, List.length_drop], g1, o1 + (kk + 2), fun h0 => by rw [hsa, if_neg (by omega)], fun j u hu => ?_⟩, fun g9 o9 c9 v9 h3 h4 h5 => ?_⟩⟩
                    · have := hr3 (kk + 2 + j) u (by
                        unfold intsC at hu ⊢
                        rw [List.getElem?_map] at hu ⊢
                        rw [List.getElem?_drop] at hu
                        exact hu)
                      rw [← Nat.add_assoc] at this
                      exact cellB h2 this
                    · have hs1 := h2.size
                      have hB9 : Below w3.heap.size w3 v9 := ((Below.refl w3.heap.size w3).drew.trans h2).trans (grown_below h4 hs1 (h5.elim (fun h => Nat.le_of_eq h.symm) (fun h => Nat.le_trans hs1 h)))
                      have hg9 : w3.heap.size ≤ g9 := h5.elim (fun h => Nat.le_of_eq h.symm) (fun h => Nat.le_trans hs1 h)
                      have hl9 : (rows.eraseIdx (kk + 1)).length = kk + 1 + (rows.length - (kk + 2)) := by rw [← hrw, List.length_append, List.length_take, List.length_drop]; omega
                      obtain ⟨p1, p2, p3⟩ := HC3.out.1.put hB9 (rows.eraseIdx (kk + 1)) _ g9 o9 c9 hl9 (by
                        have e : intsC (rows.eraseIdx (kk + 1)) = intsC (rows.take (kk + 1)) ++ intsC (rows.drop (kk + 2)) := by rw [← hrw]; unfold intsC; rw [List.map_append]
                        rw [e]
                        exact h3) hg9 hT3l
                      have hR9 := HC3.out.1.below hB9
                      refine ⟨cell_in hR9.k rfl, p1, Lib.hid ⟨cell_in p2.k rfl, by rw [hSt]; exact p2, by rw [hSt]; exact HT3.out.beside p3 (fun j hj e => by have := HC3.out.1.c.hS j (.inl hj); omega), ?_, hG2.out⟩⟩
                      refine ⟨?_, ?_, ?_, ?_, fun k hk hn => ?_⟩
                      · exact (p3.os.trans HC3.out.2.os).trans hTu2.out.os
                      · exact (p3.tape.trans HC3.out.2.tape).trans hTu2.out.tape
                      · exact (p3.output.trans HC3.out.2.output).trans hTu2.out.output
                      · exact Nat.le_trans hTu2.out.size (Nat.le_trans HC3.out.2.size p3.size)
                      · have hw2 := hTu2.out.size
                        have hw3 := HC3.out.2.size
                        exact ((p3.block k (by omega) (fun e => hn (.inr (.inr (.inl e))))).trans (HC3.out.2.block k (by omega) (fun hj => by
                          rcases hG2.out k hj with h | h
                          · exact hn (.inl h)
                          · omega))).trans (hTu2.out.block k hk hn))
                  clear hrw hsa HHcs HG1 HG1' hT3l HT3 HC3 hr3 hSt HSt2 HNx HKk hTl2
                  refine wpIn_region_heldR (S := fun W' : World => W'.cell? ⟨mb + 5, 0, none⟩ = some (.int .i64 (kk : Int))) (by kernel_rfl) ?hlet (by kernel_rfl) q5 (fun hHeld => ?_)
                  case hlet => rintro ⟨_, _, h⟩; exact h
                  refine wpAnyH_take (i := 1) (v := .int .i64 (kk : Int)) rfl (by kernel_rfl) (by kernel_rfl) (by kernel_rfl) (fun _ _ _ h => h) (Or.inl ⟨by rfl, fun w hSw => by (try dsimp only at hSw); go_simp⟩) hHeld ?_
                  simp only [Act.put, List.setIfInBounds_toArray, List.set_cons_zero, List.set_cons_succ, List.getElem_toArray, List.getElem_cons_succ, List.getElem_cons_zero]
                  refine wpAnyH_take (i := 2) (v := .int .i64 ((kk : Int) + 1)) rfl (by kernel_rfl) (by kernel_rfl) (by kernel_rfl) (fun _ _ _ h => h) (Or.inl ⟨by rfl, fun w hSw => by (try dsimp only at hSw); go_simp⟩) hHeld ?_
                  simp only [Act.put, List.setIfInBounds_toArray, List.set_cons_zero, List.set_cons_succ, List.getElem_toArray, List.getElem_cons_succ, List.getElem_cons_zero]
                  refine wpAnyH_take (i := 6) (v := .int .i64 (kk : Int)) rfl (by kernel_rfl) (by kernel_rfl) (by kernel_rfl) (fun _ _ _ h => h) (Or.inl ⟨by rfl, fun w hSw => by (try dsimp only at hSw); go_simp⟩) hHeld ?_
                  simp only [Act.put, List.setIfInBounds_toArray, List.set_cons_zero, List.set_cons_succ, List.getElem_toArray, List.getElem_cons_succ, List.getElem_cons_zero]
                  refine wpAnyH_take (i := 7) (v := .int .i64 ((kk : Int) + 2)) rfl (by kernel_rfl) (by kernel_rfl) (by kernel_rfl) (fun _ _ _ h => h) (Or.inl ⟨by rfl, fun w hSw => by (try dsimp only at hSw); go_simp⟩) hHeld ?_
                  simp only [Act.put, List.setIfInBounds_toArray, List.set_cons_zero, List.set_cons_succ, List.getElem_toArray, List.getElem_cons_succ, List.getElem_cons_zero]
                  refine wpAnyH_ready (rs := [0, 5]) (by kernel_rfl) (by simp) ?_
                  refine AllReadyH.cons rfl (fun K hK => ?_) (AllReadyH.cons rfl (fun K hK => ?_) AllReadyH.nil)
                  · go_simp
                    refine hK.out _ _ q5 (fun hHeld => ?_)
                    clear hK K
                    (try simp only [Act.put, List.setIfInBounds_toArray, List.set_cons_zero, List.set_cons_succ, List.getElem_toArray, List.getElem_cons_succ, List.getElem_cons_zero])
                    refine wpAnyH_take (i := 3) (v := .slice (some ⟨g1, o1, none⟩) (kk + 1) capr) rfl (by kernel_rfl) (by kernel_rfl) (by kernel_rfl) (fun _ _ _ h => h) (Or.inl ⟨by rfl, fun w hSw => by (try dsimp only at hSw); have := HCut1.out w; go_simp⟩) hHeld ?_
                    simp only [Act.put, List.setIfInBounds_toArray, List.set_cons_zero, List.set_cons_succ, List.getElem_toArray, List.getElem_cons_succ, List.getElem_cons_zero]
                    refine wpAnyH_ready (rs := [4, 5]) (by kernel_rfl) (by simp) ?_
                    refine AllReadyH.cons rfl (fun K hK => ?_) (AllReadyH.cons rfl (fun K hK => ?_) AllReadyH.nil)
                    · skip
                      refine step_append_first rfl (.tmp 136) 41 rfl 3 iN zN 8 Try.underlying41 HIN.out HZN.out HSN.out HBN.out HCN.out (some ⟨g1, o1, none⟩) (kk + 1) capr (intsC (rows.take (kk + 1))) rfl HSrc1.out (by omega) (by unfold maxLen; omega) (by omega) ?_
                      intro c1 v1 hR1 hB1
                      obtain ⟨u5, u7, HMo⟩ := HFst.out c1 v1 hR1 hB1
                      clear hR1 hB1
                      refine hK.out _ _ u5 (fun hHeld => ?_)
                      clear hK K
                      (try simp only [Act.put, List.setIfInBounds_toArray, List.set_cons_zero, List.set_cons_succ, List.getElem_toArray, List.getElem_cons_succ, List.getElem_cons_zero])
                      refine wpAnyH_ready (rs := [5]) (by kernel_rfl) (by simp) ?_
                      refine AllReadyH.cons rfl (fun K hK => ?_) AllReadyH.nil
                      go_simp
                      refine hK.out _ _ u5 (fun hHeld => ?_)
                      clear hK K
                      (try simp only [Act.put, List.setIfInBounds_toArray, List.set_cons_zero, List.set_cons_succ, List.getElem_toArray, List.getElem_cons_succ, List.getElem_cons_zero])
                      refine wpAnyH_take (i := 8) (v := .slice sa (rows.length - (kk + 2)) (capr - (kk + 2))) rfl (by kernel_rfl) (by kernel_rfl) (by kernel_rfl) (fun _ _ _ h => h) (Or.inl ⟨by rfl, fun w hSw => by (try dsimp only at hSw); have := HCut2.out w; go_simp⟩) hHeld ?_
                      simp only [Act.put, List.setIfInBounds_toArray, List.set_cons_zero, List.set_cons_succ, List.getElem_toArray, List.getElem_cons_succ, List.getElem_cons_zero]
                      refine wpAnyH_ready (rs := [9]) (by kernel_rfl) (by simp) ?_
                      refine AllReadyH.cons rfl (fun K hK => ?_) AllReadyH.nil
                      refine step_append_more rfl (.tmp 137) (.tmp 141) 41 rfl 3 iN zN 8 Try.underlying41 HIN.out HZN.out HSN.out HBN.out HCN.out _ (kk + 1) c1 (intsC (rows.take (kk + 1))) rfl HMo.out.1 sa (rows.length - (kk + 2)) (capr - (kk + 2)) (intsC (rows.drop (kk + 2))) rfl HMo.out.2.1 (by omega) HOne.out (by unfold maxLen; omega) (by omega) ?_
                      intro g9 o9 c9 v9 hR9 hG9 hor9
                      obtain ⟨u59, ⟨⟨z9, y9⟩, f9⟩, HF9⟩ := HMo.out.2.2 g9 o9 c9 v9 hR9 hG9 hor9
                      clear hR9 hG9 hor9
                      refine hK.out _ _ u59 (fun hHeld => ?_)
                      clear hK K
                      (try simp only [Act.put, List.setIfInBounds_toArray, List.set_cons_zero, List.set_cons_succ, List.getElem_toArray, List.getElem_cons_succ, List.getElem_cons_zero])
                      refine wpAnyH_ready (rs := [10]) (by kernel_rfl) (by simp) ?_
                      refine AllReadyH.cons rfl (fun K hK => ?_) AllReadyH.nil
                      go_simp
                      refine hK.out _ _ HF9.out.1 (fun hHeld => ?_)
                      clear hK K
                      (try simp only [Act.put, List.setIfInBounds_toArray, List.set_cons_zero, List.set_cons_succ, List.getElem_toArray, List.getElem_cons_succ, List.getElem_cons_zero])
                      refine wpAnyH_done (by kernel_rfl) ?_ _
                      have HG := Lib.hid HF9.out.2
                      clear HF9 HMo u5 u7 z9 y9 f9 u59
                      gi_upto_region 37 with fail
                      obtain ⟨⟨a1, a2⟩, hW4⟩ := HFin.out _ _ HG.out.1 HG.out.2.1 HG.out.2.2.1 HG.out.2.2.2
                      obtain ⟨⟨a3, a4⟩, hN, hX⟩ := hW4 _ rfl
                      have HN := Lib.hid hN
                      have HX := Lib.hid hX
                      clear hN hX hW4
                      by_cases hle : (kk : Int) + 1 = lv
                      · have el : (((kk : Int) + 1) == lv) = true := by simpa using hle
                        clear hle
                        gi_upto_region 38 with fail
                        gi_wp2_with (refine ⟨trivial, ?_⟩; gi_at_call 7; refine (CallsIn.inRound l' (callsIn_wide.2 (HKn.out _))).mono ?_; rintro e w6 ⟨rfl, hb6⟩; obtain ⟨⟨z1, z2⟩, z3⟩ := HX.out _ hb6; replace hb6 := Lib.hid hb6; replace z3 := Lib.hid z3)
                        exact z3.out
                      · have el : (((kk : Int) + 1) == lv) = false := by simpa using hle
                        clear hle
                        gi_upto_region 38 with fail
                        gi_wp2
                        exact HN.out
                    · go_simp
                      refine hK.out _ _ q5 (fun hHeld => ?_)
                      clear hK K
                      (try simp only [Act.put, List.setIfInBounds_toArray, List.set_cons_zero, List.set_cons_succ, List.getElem_toArray, List.getElem_cons_succ, List.getElem_cons_zero])
                      refine wpAnyH_take (i := 8) (v := .slice sa (rows.length - (kk + 2)) (capr - (kk + 2))) rfl (by kernel_rfl) (by kernel_rfl) (by kernel_rfl) (fun _ _ _ h => h) (Or.inl ⟨by rfl, fun w hSw => by (try dsimp only at hSw); have := HCut2.out w; go_simp⟩) hHeld ?_
                      simp only [Act.put, List.setIfInBounds_toArray, List.set_cons_zero, List.set_cons_succ, List.getElem_toArray, List.getElem_cons_succ, List.getElem_cons_zero]
                      refine wpAnyH_ready (rs := [4]) (by kernel_rfl) (by simp) ?_
                      refine AllReadyH.cons rfl (fun K hK => ?_) AllReadyH.nil
                      refine step_append_first rfl (.tmp 136) 41 rfl 3 iN zN 8 Try.underlying41 HIN.out HZN.out HSN.out HBN.out HCN.out (some ⟨g1, o1, none⟩) (kk + 1) capr (intsC (rows.take (kk + 1))) rfl HSrc1.out (by omega) (by unfold maxLen; omega) (by omega) ?_
                      intro c1 v1 hR1 hB1
                      obtain ⟨u5, u7, HMo⟩ := HFst.out c1 v1 hR1 hB1
                      clear hR1 hB1
                      refine hK.out _ _ u5 (fun hHeld => ?_)
                      clear hK K
                      (try simp only [Act.put, List.setIfInBounds_toArray, List.set_cons_zero, List.set_cons_succ, List.getElem_toArray, List.getElem_cons_succ, List.getElem_cons_zero])
                      refine wpAnyH_ready (rs := [9]) (by kernel_rfl) (by simp) ?_
                      refine AllReadyH.cons rfl (fun K hK => ?_) AllReadyH.nil
                      refine step_append_more rfl (.tmp 137) (.tmp 141) 41 rfl 3 iN zN 8 Try.underlying41 HIN.out HZN.out HSN.out HBN.out HCN.out _ (kk + 1) c1 (intsC (rows.take (kk + 1))) rfl HMo.out.1 sa (rows.length - (kk + 2)) (capr - (kk + 2)) (intsC (rows.drop (kk + 2))) rfl HMo.out.2.1 (by omega) HOne.out (by unfold maxLen; omega) (by omega) ?_
                      intro g9 o9 c9 v9 hR9 hG9 hor9
                      obtain ⟨u59, ⟨⟨z9, y9⟩, f9⟩, HF9⟩ := HMo.out.2.2 g9 o9 c9 v9 hR9 hG9 hor9
                      clear hR9 hG9 hor9
                      refine hK.out _ _ u59 (fun hHeld => ?_)
                      clear hK K
                      (try simp only [Act.put, List.setIfInBounds_toArray, List.set_cons_zero, List.set_cons_succ, List.getElem_toArray, List.getElem_cons_succ, List.getElem_cons_zero])
                      refine wpAnyH_ready (rs := [10]) (by kernel_rfl) (by simp) ?_
                      refine AllReadyH.cons rfl (fun K hK => ?_) AllReadyH.nil
                      go_simp
                      refine hK.out _ _ HF9.out.1 (fun hHeld => ?_)
                      clear hK K
                      (try simp only [Act.put, List.setIfInBounds_toArray, List.set_cons_zero, List.set_cons_succ, List.getElem_toArray, List.getElem_cons_succ, List.getElem_cons_zero])
                      refine wpAnyH_done (by kernel_rfl) ?_ _
                      have HG := Lib.hid HF9.out.2
                      clear HF9 HMo u5 u7 z9 y9 f9 u59
                      gi_upto_region 37 with fail
                      obtain ⟨⟨a1, a2⟩, hW4⟩ := HFin.out _ _ HG.out.1 HG.out.2.1 HG.out.2.2.1 HG.out.2.2.2
                      obtain ⟨⟨a3, a4⟩, hN, hX⟩ := hW4 _ rfl
                      have HN := Lib.hid hN
                      have HX := Lib.hid hX
                      clear hN hX hW4
                      by_cases hle : (kk : Int) + 1 = lv
                      · have el : (((kk : Int) + 1) == lv) = true := by simpa using hle
                        clear hle
                        gi_upto_region 38 with fail
                        gi_wp2_with (refine ⟨trivial, ?_⟩; gi_at_call 7; refine (CallsIn.inRound l' (callsIn_wide.2 (HKn.out _))).mono ?_; rintro e w6 ⟨rfl, hb6⟩; obtain ⟨⟨z1, z2⟩, z3⟩ := HX.out _ hb6; replace hb6 := Lib.hid hb6; replace z3 := Lib.hid z3)
                        exact z3.out
                      · have el : (((kk : Int) + 1) == lv) = false := by simpa using hle
                        clear hle
                        gi_upto_region 38 with fail
                        gi_wp2
                        exact HN.out
                  · go_simp
                    refine hK.out _ _ q5 (fun hHeld => ?_)
                    clear hK K
                    (try simp only [Act.put, List.setIfInBounds_toArray, List.set_cons_zero, List.set_cons_succ, List.getElem_toArray, List.getElem_cons_succ, List.getElem_cons_zero])
                    refine wpAnyH_take (i := 8) (v := .slice sa (rows.length - (kk + 2)) (capr - (kk + 2))) rfl (by kernel_rfl) (by kernel_rfl) (by kernel_rfl) (fun _ _ _ h => h) (Or.inl ⟨by rfl, fun w hSw => by (try dsimp only at hSw); have := HCut2.out w; go_simp⟩) hHeld ?_
                    simp only [Act.put, List.setIfInBounds_toArray, List.set_cons_zero, List.set_cons_succ, List.getElem_toArray, List.getElem_cons_succ, List.getElem_cons_zero]
                    refine wpAnyH_ready (rs := [0]) (by kernel_rfl) (by simp) ?_
                    refine AllReadyH.cons rfl (fun K hK => ?_) AllReadyH.nil
                    go_simp
                    refine hK.out _ _ q5 (fun hHeld => ?_)
                    clear hK K
                    (try simp only [Act.put, List.setIfInBounds_toArray, List.set_cons_zero, List.set_cons_succ, List.getElem_toArray, List.getElem_cons_succ, List.getElem_cons_zero])
                    refine wpAnyH_take (i := 3) (v := .slice (some ⟨g1, o1, none⟩) (kk + 1) capr) rfl (by kernel_rfl) (by kernel_rfl) (by kernel_rfl) (fun _ _ _ h => h) (Or.inl ⟨by rfl, fun w hSw => by (try dsimp only at hSw); have := HCut1.out w; go_simp⟩) hHeld ?_
                    simp only [Act.put, List.setIfInBounds_toArray, List.set_cons_zero, List.set_cons_succ, List.getElem_toArray, List.getElem_cons_succ, List.getElem_cons_zero]
                    refine wpAnyH_ready (rs := [4]) (by kernel_rfl) (by simp) ?_
                    refine AllReadyH.cons rfl (fun K hK => ?_) AllReadyH.nil
                    refine step_append_first rfl (.tmp 136) 41 rfl 3 iN zN 8 Try.underlying41 HIN.out HZN.out HSN.out HBN.out HCN.out (some ⟨g1, o1, none⟩) (kk + 1) capr (intsC (rows.take (kk + 1))) rfl HSrc1.out (by omega) (by unfold maxLen; omega) (by omega) ?_
                    intro c1 v1 hR1 hB1
                    obtain ⟨u5, u7, HMo⟩ := HFst.out c1 v1 hR1 hB1
                    clear hR1 hB1
                    refine hK.out _ _ u5 (fun hHeld => ?_)
                    clear hK K
                    (try simp only [Act.put, List.setIfInBounds_toArray, List.set_cons_zero, List.set_cons_succ, List.getElem_toArray, List.getElem_cons_succ, List.getElem_cons_zero])
                    refine wpAnyH_ready (rs := [9]) (by kernel_rfl) (by simp) ?_
                    refine AllReadyH.cons rfl (fun K hK => ?_) AllReadyH.nil
                    refine step_append_more rfl (.tmp 137) (.tmp 141) 41 rfl 3 iN zN 8 Try.underlying41 HIN.out HZN.out HSN.out HBN.out HCN.out _ (kk + 1) c1 (intsC (rows.take (kk + 1))) rfl HMo.out.1 sa (rows.length - (kk + 2)) (capr - (kk + 2)) (intsC (rows.drop (kk + 2))) rfl HMo.out.2.1 (by omega) HOne.out (by unfold maxLen; omega) (by omega) ?_
                    intro g9 o9 c9 v9 hR9 hG9 hor9
                    obtain ⟨u59, ⟨⟨z9, y9⟩, f9⟩, HF9⟩ := HMo.out.2.2 g9 o9 c9 v9 hR9 hG9 hor9
                    clear hR9 hG9 hor9
                    refine hK.out _ _ u59 (fun hHeld => ?_)
                    clear hK K
                    (try simp only [Act.put, List.setIfInBounds_toArray, List.set_cons_zero, List.set_cons_succ, List.getElem_toArray, List.getElem_cons_succ, List.getElem_cons_zero])
                    refine wpAnyH_ready (rs := [10]) (by kernel_rfl) (by simp) ?_
                    refine AllReadyH.cons rfl (fun K hK => ?_) AllReadyH.nil
                    go_simp
                    refine hK.out _ _ HF9.out.1 (fun hHeld => ?_)
                    clear hK K
                    (try simp only [Act.put, List.setIfInBounds_toArray, List.set_cons_zero, List.set_cons_succ, List.getElem_toArray, List.getElem_cons_succ, List.getElem_cons_zero])
                    refine wpAnyH_done (by kernel_rfl) ?_ _
                    have HG := Lib.hid HF9.out.2
                    clear HF9 HMo u5 u7 z9 y9 f9 u59
                    gi_upto_region 37 with fail
                    obtain ⟨⟨a1, a2⟩, hW4⟩ := HFin.out _ _ HG.out.1 HG.out.2.1 HG.out.2.2.1 HG.out.2.2.2
                    obtain ⟨⟨a3, a4⟩, hN, hX⟩ := hW4 _ rfl
                    have HN := Lib.hid hN
                    have HX := Lib.hid hX
                    clear hN hX hW4
                    by_cases hle : (kk : Int) + 1 = lv
                    · have el : (((kk : Int) + 1) == lv) = true := by simpa using hle
                      clear hle
                      gi_upto_region 38 with fail
                      gi_wp2_with (refine ⟨trivial, ?_⟩; gi_at_call 7; refine (CallsIn.inRound l' (callsIn_wide.2 (HKn.out _))).mono ?_; rintro e w6 ⟨rfl, hb6⟩; obtain ⟨⟨z1, z2⟩, z3⟩ := HX.out _ hb6; replace hb6 := Lib.hid hb6; replace z3 := Lib.hid z3)
                      exact z3.out
                    · have el : (((kk : Int) + 1) == lv) = false := by simpa using hle
                      clear hle
                      gi_upto_region 38 with fail
                      gi_wp2
                      exact HN.out
                · have e7 : decide ((kk : Int) + 1 < (rows.length : Int)) = false := by simp; omega
                  have e7n : decide (kk + 1 < rows.length) = false := by simpa using hk1
                  have hm : rows[kk + 1]? = none := List.getElem?_eq_none (by omega)
                  have hSt : growG q R0 (candA R0 q) (kk + 1) = (addR RR nx 2, rows) := by
                    rw [HSt2.out]
                    unfold stepG
                    dsimp only
                    rw [hm, ← HNx.out, List.eraseIdx_of_length_le (by omega)]
                  have HG : Hid (RdC w n0 tb mb q lv (growG q R0 (candA R0 q) (kk + 1)).2 kk (lastN q (kk + 1)) (growS S' wr w2) w2 ∧ TabI tb g w2 (growS S' wr w2) tb (growG q R0 (candA R0 q) (kk + 1)).1 ∧ Turned (bothS S' (fun j => j = n0 + 2 ∨ j = n0 + 7 ∨ j = mb + 5 ∨ j = mb + 6)) Wx w2 ∧ ∀ j, growS S' wr w2 j → S' j ∨ Wx.heap.size ≤ j) := Lib.hid ⟨by rw [hSt]; exact hR2, by rw [hSt]; exact hT2.out, hTu2.out, hG2.out⟩
                  clear c7 c7r haor hcs b0 b1 b2 b6 HAdd hm hk1 hR2 hSt
                  gi_upto_region 37 with fail
                  obtain ⟨⟨a1, a2⟩, hW4⟩ := HFin.out _ _ HG.out.1 HG.out.2.1 HG.out.2.2.1 HG.out.2.2.2
                  obtain ⟨⟨a3, a4⟩, hN, hX⟩ := hW4 _ rfl
                  have HN := Lib.hid hN
                  have HX := Lib.hid hX
                  clear hN hX hW4
                  by_cases hle : (kk : Int) + 1 = lv
                  · have el : (((kk : Int) + 1) == lv) = true := by simpa using hle
                    clear hle
                    gi_upto_region 38 with fail
                    gi_wp2_with (refine ⟨trivial, ?_⟩; gi_at_call 7; refine (CallsIn.inRound l' (callsIn_wide.2 (HKn.out _))).mono ?_; rintro e w6 ⟨rfl, hb6⟩; obtain ⟨⟨z1, z2⟩, z3⟩ := HX.out _ hb6; replace hb6 := Lib.hid hb6; replace z3 := Lib.hid z3)
                    exact z3.out
                  · have el : (((kk : Int) + 1) == lv) = false := by simpa using hle
                    clear hle
                    gi_upto_region 38 with fail
                    gi_wp2
                    exact HN.out
          case done =>
            rintro D op S' Wx hD hdn hI hTx hSD hK2
            have hlen := done_grow HS0.out hdn
            have hk60 : op.length ≤ 60 := Nat.le_trans (done_few HS0.out hdn) HR60.out
            obtain ⟨aor, capr, c7, _, _⟩ := hI.c.rc
            have x7 : Wx.cell? ⟨n0 + 7, 0, none⟩ = some (.slice aor (growG q R0 (candA R0 q) op.length).2.length capr) := cell_in c7 rfl
            have x5 : Wx.cell? ⟨mb + 5, 0, none⟩ = some (.int .i64 (op.length : Int)) := cell_in hI.k rfl
            rw [hlen] at x7
            have hres := hI.c.res
            have hDn : D ≠ n0 + 2 := by have := HMb.out; have := HS5.out; omega
            have HEn : Hid (∀ U, Below Wx.heap.size Wx U → (U.cell? ⟨n0 + 2, 0, none⟩ = some (.bool false) ∧ U.frozen? ⟨n0 + 2, 0, none⟩ = false) ∧ (U.setCell ⟨n0 + 2, 0, none⟩ (.bool true)).heap[D]? = some (.deferred (some [])) ∧ ((U.setCell ⟨n0 + 2, 0, none⟩ (.bool true)).putObj D (.deferred none)).cell? ⟨n0 + 2, 0, none⟩ = some (.bool true) ∧ Below w.heap.size w ((U.setCell ⟨n0 + 2, 0, none⟩ (.bool true)).putObj D (.deferred none))) := Lib.hid (fun U hU => by
              have hz := hI.z
              have hn := hI.c.hn
              have hb := hI.c.bel
              have k2 := (hU.block (n0 + 2) (by have := hI.m; omega)).trans hres
              have c2 : U.cell? ⟨n0 + 2, 0, none⟩ = some (.bool false) := cell_in k2 rfl
              have kD : (U.setCell ⟨n0 + 2, 0, none⟩ (.bool true)).heap[D]? = some (.deferred (some [])) := (Below.heap_setCell _ _ _ _ hDn).trans ((hU.block D (Array.getElem?_eq_some_iff.1 hK2).1).trans hK2)
              have c3 := World.cell?_setCell_same' U ⟨n0 + 2, 0, none⟩ (.bool true) (by rw [c2]; rfl)
              have hb2 : Below w.heap.size w (U.setCell ⟨n0 + 2, 0, none⟩ (.bool true)) := (hb.trans (hU.mono hb.size)).setCell (p := ⟨n0 + 2, 0, none⟩) (show w.heap.size ≤ n0 + 2 by omega) _
              exact ⟨⟨c2, free_in k2 0⟩, kD, cell_kept c3 (grownBy_putObj' _ D (.deferred none)) (fun r e => by cases e; exact ⟨_, kD, rfl⟩), hb2.trans (grown_belowO (grownBy_putObj' _ D (.deferred none)) hb2.size (fun r e => by cases e; have := HS5.out; have := HMb.out; omega))⟩)
            have ek : ((op.length : Int) == (op.length : Int)) = true := by simp
            clear hI hTx hSD hdn hlen c7 hres hDn
            generalize op.length = kk at *
            go_wp2_with (go_at_call 7; refine (HKn.out _).mono ?_; rintro e w6 ⟨rfl, hb6⟩; obtain ⟨⟨y1, y2⟩, y3⟩ := HEn.out _ hb6; replace hb6 := Lib.hid hb6; replace y3 := Lib.hid y3)
            refine ⟨by simp, .inl ⟨_, _, rfl, run_takeDeferred y3.out.1, ?_⟩⟩
            have hc5 := y3.out.2.1
            exact ⟨.bool true, by simp [results, Try.f5, go_sem, hc5], rfl, y3.out.2.2⟩
          case stop =>
            rintro D c Wx hD ⟨rfl, h2, h3⟩ hK2
            have c5 := cell_kept h2 (grownBy_putObj' Wx D (.deferred none)) (fun r e => by cases e; exact ⟨_, hK2, rfl⟩)
            have hb := h3.trans (grown_belowO (grownBy_putObj' Wx D (.deferred none)) h3.size (fun r e => by cases e; have := HR5.out.c.bel.size; omega))
            refine wpIn_ret ?_
            (try simp only [Exit.inBlock, Exit.then])
            refine ⟨by simp, .inl ⟨_, _, rfl, run_takeDeferred hK2, ?_⟩⟩
            exact ⟨.bool true, by simp [results, Try.f5, go_sem, c5], rfl, hb⟩
end Go.Proofs.Ytnmimagcmmdolaa
