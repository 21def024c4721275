/-
  CONTRACT OF table's count.
-/
import Derived.Test.YtnmimagcmmdolaaTbRow
import Derived.Deep.RegionWith
namespace Go.Proofs.Ytnmimagcmmdolaa
open Go.RowKit
set_option linter.unusedVariables false
set_option linter.unusedSimpArgs false

theorem idx_looks (r : RowN) (i : Nat) (hi : i < 6) (W : World) : (Instr.index 79 (.agg (looksC r)) (.int .i64 (i : Int))).run Try.prog W = .ok (rowV (lookN r i)) W := by
  have hz : ∀ U, (sizeOf 34).run Try.prog U = .ok 3 U := fun U => by kernel_rfl
  have hg : ∀ U, (isAgg 34).run Try.prog U = .ok true U := fun U => by kernel_rfl
  obtain rfl | rfl | rfl | rfl | rfl | rfl : i = 0 ∨ i = 1 ∨ i = 2 ∨ i = 3 ∨ i = 4 ∨ i = 5 := by omega
  all_goals
    simp [Instr.index, run_underlying Try.underlying79, asIntOf, hz, hg, part, Result.andThen, go_sem, lookN]
theorem okN_look {r : RowN} (h : okN r) (i : Nat) : okN (lookN r i) := by
  obtain ⟨h1, h2, h3⟩ := h
  unfold lookN
  split <;> exact ⟨by first | exact h1 | exact Nat.zero_lt_succ _, by first | exact h2 | exact Nat.zero_lt_succ _, by first | exact h3 | exact Nat.zero_lt_succ _⟩

/-- What count changes. -/
structure CntS where
  ls : List LsD
  e0 : Int
  e1 : Int
  e2 : Int
def cntStep (pats : List RowN) (r : RowN) (by_ : Int) (s : CntS) (i : Nat) : CntS :=
  match s.ls[pats.idxOf (lookN r i)]? with
  | none => s
  | some x => ⟨s.ls.set (pats.idxOf (lookN r i)) { x with live := x.live + by_ }, if i = 0 ∧ (x.live = 0 ∨ x.live + by_ = 0) then s.e0 + by_ else s.e0, if i = 1 ∧ (x.live = 0 ∨ x.live + by_ = 0) then s.e1 + by_ else s.e1, if i = 2 ∧ (x.live = 0 ∨ x.live + by_ = 0) then s.e2 + by_ else s.e2⟩
def cntF (pats : List RowN) (r : RowN) (by_ : Int) (s : CntS) (n : Nat) : CntS := (List.range n).foldl (cntStep pats r by_) s
theorem cntF_succ (pats : List RowN) (r : RowN) (by_ : Int) (s : CntS) (n : Nat) : cntF pats r by_ s (n + 1) = cntStep pats r by_ (cntF pats r by_ s n) n := by
  unfold cntF
  rw [List.range_succ, List.foldl_append]
  rfl
/-- Numbers that are far from the ends. -/
def Near (m : Int) (s : CntS) : Prop := (∀ x ∈ s.ls, -m ≤ x.live ∧ x.live ≤ m) ∧ (-m ≤ s.e0 ∧ s.e0 ≤ m) ∧ (-m ≤ s.e1 ∧ s.e1 ≤ m) ∧ (-m ≤ s.e2 ∧ s.e2 ≤ m)
theorem near_step {pats : List RowN} {r : RowN} {by_ : Int} (hb : by_ = 1 ∨ by_ = -1) {m : Int} {s : CntS} (h : Near m s) (i : Nat) : Near (m + 1) (cntStep pats r by_ s i) := by
  obtain ⟨h1, h2, h3, h4⟩ := h
  unfold cntStep
  split
  · exact ⟨fun x hx => by have := h1 x hx; omega, by omega, by omega, by omega⟩
  · rename_i x hx
    have hxm := h1 x (List.mem_of_getElem? hx)
    refine ⟨fun y hy => ?_, ?_, ?_, ?_⟩
    · rcases List.mem_or_eq_of_mem_set hy with hy | rfl
      · have := h1 y hy; omega
      · show -(m + 1) ≤ x.live + by_ ∧ x.live + by_ ≤ m + 1
        omega
    all_goals (dsimp only; split <;> omega)
theorem near_F {pats : List RowN} {r : RowN} {by_ : Int} (hb : by_ = 1 ∨ by_ = -1) {m : Int} {s : CntS} (h : Near m s) : ∀ n : Nat, Near (m + n) (cntF pats r by_ s n)
  | 0 => by
    show Near (m + ((0 : Nat) : Int)) s
    rw [show m + ((0 : Nat) : Int) = m by omega]
    exact h
  | n + 1 => by
    rw [cntF_succ]
    have := near_step (pats := pats) (r := r) hb (near_F (pats := pats) (r := r) hb h n) n
    rw [show m + ((n + 1 : Nat) : Int) = m + (n : Int) + 1 by omega]
    exact this
theorem cntF_len (pats : List RowN) (r : RowN) (by_ : Int) (s : CntS) (n : Nat) : (cntF pats r by_ s n).ls.length = s.ls.length := by
  induction n with
  | zero => rfl
  | succ n ih =>
    rw [cntF_succ, ← ih]
    unfold cntStep
    split
    · rfl
    · simp

theorem TabM.ptrL {W : World} {Gz : GzT} {S : Nat → Prop} {tb : Nat} {R : List EntN} {num : RowN → Option Nat} {pats : List RowN} {Ls : List LsD} {live d0 d1 d2 : Int} {ra : Option Addr} {rc nb pb : Nat} {la : Option Addr} {lc : Nat}
    (h : TabM Gz W S tb R num pats Ls live d0 d1 d2 ra rc nb pb la lc) (hn : 0 < Ls.length) : ∃ g o, la = some ⟨g, o, none⟩ ∧ (∀ i x, Ls[i]? = some x → W.cell? ⟨g, o + i * 2, none⟩ = some (.slice x.ao x.xs.length x.cap) ∧ W.cell? ⟨g, o + i * 2 + 1, none⟩ = some (.int .i64 x.live)) ∧ ∀ i, W.frozen? ⟨g, i, none⟩ = false := by
  obtain ⟨g, o, e, hc, hf⟩ := h.lsts.at_ hn
  refine ⟨g, o, e, fun i x hx => ⟨?_, ?_⟩, hf⟩
  · have := hc (i * 2 + 0) (.slice x.ao x.xs.length x.cap) (by rw [show flatLs Ls = Ls.flatMap lsC from rfl, flat_get lsC 2 (fun _ => rfl) Ls i 0 x hx (by omega)]; rfl)
    exact this
  · have := hc (i * 2 + 1) (.int .i64 x.live) (by rw [show flatLs Ls = Ls.flatMap lsC from rfl, flat_get lsC 2 (fun _ => rfl) Ls i 1 x hx (by omega)]; rfl)
    exact this

section
variable {w : World} {Gz : GzT} {S : Nat → Prop} {tb : Nat} {R : List EntN} {num : RowN → Option Nat} {pats : List RowN} {Ls : List LsD} {live d0 d1 d2 : Int} {ra : Option Addr} {rc nb pb : Nat} {la : Option Addr} {lc : Nat}
set_option maxRecDepth 100000 in
set_option maxHeartbeats 4000000 in
theorem tbCount_any (h : TabM Gz w S tb R num pats Ls live d0 d1 d2 ra rc nb pb la lc) (r : RowN) (hr : okN r) (by_ : Int) (hb : by_ = 1 ∨ by_ = -1) (hin : ∀ i, i < 6 → lookN r i ∈ pats) (hl : -1000000000000 ≤ live ∧ live ≤ 1000000000000) (hn : Near 1000000000000 ⟨Ls, d0, d1, d2⟩) :
    Calls Try.prog 41 #[tabP tb, rowV r, .int .i64 by_] w fun e w' => e = .returned (.tuple #[]) ∧ Turned S w w' ∧
      TabM Gz w' S tb R num pats (cntF pats r by_ ⟨Ls, d0, d1, d2⟩ 6).ls (live + by_) (cntF pats r by_ ⟨Ls, d0, d1, d2⟩ 6).e0 (cntF pats r by_ ⟨Ls, d0, d1, d2⟩ 6).e1 (cntF pats r by_ ⟨Ls, d0, d1, d2⟩ 6).e2 ra rc nb pb la lc := by
  obtain ⟨s0, hs0⟩ : ∃ s0, s0 = CntS.mk Ls d0 d1 d2 := ⟨_, rfl⟩
  rw [← hs0] at hn ⊢
  have hls : s0.ls = Ls := by rw [hs0]
  have he0 : s0.e0 = d0 := by rw [hs0]
  have he1 : s0.e1 = d1 := by rw [hs0]
  have he2 : s0.e2 = d2 := by rw [hs0]
  rw [← hls, ← he0, ← he1, ← he2] at h
  clear hs0 hls he0 he1 he2
  have HN := Lib.hid hn
  have HIn := Lib.hid hin
  have HR := Lib.hid hr
  have HBy := Lib.hid hb
  obtain ⟨LC, hLC⟩ : ∃ LC, LC = looksC r := ⟨_, rfl⟩
  have hix : ∀ i : Nat, i < 6 → ∀ W, (Instr.index 79 (.agg LC) (.int .i64 (i : Int))).run Try.prog W = .ok (rowV (lookN r i)) W := fun i hi W => by rw [hLC]; exact idx_looks r i hi W
  have HIx := Lib.hid hix
  have HLk := Lib.hid (fun W => tbLooks_any r W)
  rw [← hLC] at HLk
  clear hn hin hr hb hLC hix
  obtain ⟨n0, hn0⟩ : ∃ n0, n0 = w.heap.size := ⟨_, rfl⟩
  have hc0 := heap_alloc_new w (.cells (rowC r) 34)
  have hb0 := (Below.refl w.heap.size w).alloc (Nat.le_refl _) (.cells (rowC r) 34)
  obtain ⟨W0, hW0⟩ : ∃ W0, W0 = w.alloc (.cells (rowC r) 34) := ⟨_, rfl⟩
  rw [← hW0] at hc0 hb0
  have hlt0 : ∀ j, S j → j ≠ n0 := fun j hj e => by have := h.lt j hj; omega
  have h0 := h.below hb0
  have c4 : W0.cell? ⟨tb, 4, none⟩ = some (.int .i64 live) := cell_in h0.blk rfl
  have f4 : W0.frozen? ⟨tb, 4, none⟩ = false := free_in h0.blk _
  have hw1 : IntKind.i64.wrap (live + by_) = live + by_ := IntWalk.i64_in _ (by have := HBy.out; omega)
  rw [← hn0] at hc0
  have HW0 := Lib.hid hW0
  have HN0 := Lib.hid hn0
  have h1 := h0.setLive (live + by_)
  have ht1 : Turned S w (W0.setCell ⟨tb, 4, none⟩ (.int .i64 (live + by_))) := (Turned.of_below hb0).trans (Turned.set (a := ⟨tb, 4, none⟩) h.sT _)
  have hk1 : (W0.setCell ⟨tb, 4, none⟩ (.int .i64 (live + by_))).heap[n0]? = some (.cells (rowC r) 34 (0, 0)) := by
    rw [Below.heap_setCell _ _ _ _ (fun e => hlt0 tb h.sT e.symm)]
    exact hc0
  have H1 := Lib.hid h1
  have HT1 := Lib.hid ht1
  have HK1 := Lib.hid hk1
  have HLt0 := Lib.hid hlt0
  clear h h0 h1 ht1 hk1 hb0 hc0 hlt0 hW0 hn0
  go_enter Try.func41, Try.ntmps41
  go_upto_region 1 with fail
  rw [← HW0.out, ← HN0.out]
  go_upto_region 2 with fail
  generalize W0.setCell ⟨tb, 4, none⟩ (.int .i64 (live + by_)) = W1 at *
  have c0 : W1.cell? ⟨n0, 0, none⟩ = some (.int .u32 (r.1 : Int)) := cell_in HK1.out rfl
  have c1 : W1.cell? ⟨n0, 1, none⟩ = some (.int .u32 (r.2.1 : Int)) := cell_in HK1.out rfl
  have c2 : W1.cell? ⟨n0, 2, none⟩ = some (.int .u32 (r.2.2 : Int)) := cell_in HK1.out rfl
  clear c4 f4 hw1
  go_wp2_with (go_at_call 40; refine (HLk.out _).mono ?_; rintro e W2 ⟨rfl, hY⟩)
  have HT2 := Lib.hid (HT1.out.trans (Turned.of_below hY))
  have H2 := Lib.hid (H1.out.below hY)
  clear hY c0 c1 c2 HK1 H1 HT1
  go_loopg [20] 6 (fun g i wr => ∃ k : Nat, k ≤ 6 ∧ 6 - k ≤ g ∧ i = .int .i64 (k : Int) ∧ Turned S w wr ∧ TabM Gz wr S tb R num pats (cntF pats r by_ s0 k).ls (live + by_) (cntF pats r by_ s0 k).e0 (cntF pats r by_ s0 k).e1 (cntF pats r by_ s0 k).e2 ra rc nb pb la lc)
  case atStart => exact ⟨0, by omega, by omega, rfl, HT2.out, H2.out⟩
  case round =>
    obtain ⟨k, hk, hg, rfl, hT, hM⟩ := hrel
    have HM := Lib.hid hM
    have HT := Lib.hid hT
    clear hM hT
    obtain rfl | hk6 : k = 6 ∨ k < 6 := by omega
    · go_wp2
      refine bodyPost_end (results_none rfl _ _ _) rfl ?_
      exact ⟨rfl, HT.out, HM.out⟩
    · have hix := HIx.out k hk6
      have hS1 := cntF_succ pats r by_ s0 k
      have hN1 := near_F (pats := pats) (r := r) HBy.out HN.out k
      have hln := cntF_len pats r by_ s0 k
      have hin := HIn.out k hk6
      have hq : pats.idxOf (lookN r k) < pats.length := List.idxOf_lt_length_of_mem hin
      have hP : patF pats (lookN r k) = some (pats.idxOf (lookN r k)) := if_pos hin
      obtain ⟨q, hqe⟩ : ∃ q, q = pats.idxOf (lookN r k) := ⟨_, rfl⟩
      rw [← hqe] at hq hP
      obtain ⟨t, ht⟩ : ∃ t, t = cntF pats r by_ s0 k := ⟨_, rfl⟩
      rw [← ht] at hS1 hN1 hln
      rw [← ht] at HM
      have hqt : q < t.ls.length := by have := HM.out.lens; omega
      obtain ⟨x, hx⟩ : ∃ x, t.ls[q]? = some x := ⟨_, List.getElem?_eq_getElem hqt⟩
      have hxn := hN1.1 x (List.mem_of_getElem? hx)
      have hd := hN1.2
      have hSt : cntF pats r by_ s0 (k + 1) = ⟨t.ls.set q { x with live := x.live + by_ }, if k = 0 ∧ (x.live = 0 ∨ x.live + by_ = 0) then t.e0 + by_ else t.e0, if k = 1 ∧ (x.live = 0 ∨ x.live + by_ = 0) then t.e1 + by_ else t.e1, if k = 2 ∧ (x.live = 0 ∨ x.live + by_ = 0) then t.e2 + by_ else t.e2⟩ := by
        rw [hS1]
        unfold cntStep
        rw [← hqe, hx]
      have HSt := Lib.hid hSt
      obtain ⟨lk, hlk⟩ : ∃ lk, lk = lookN r k := ⟨_, rfl⟩
      have hko : okN lk := by rw [hlk]; exact okN_look HR.out k
      rw [← hlk] at hix hP
      clear hS1 hN1 hln hin hqe ht hSt hlk
      -- the variable of the loop
      obtain ⟨n1, hn1⟩ : ∃ n1, n1 = wr.heap.size := ⟨_, rfl⟩
      obtain ⟨W3, hW3⟩ : ∃ W3, W3 = wr.alloc (.cells (rowC lk) 34) := ⟨_, rfl⟩
      have hb3 : Below wr.heap.size wr W3 := by rw [hW3]; exact (Below.refl _ _).alloc (Nat.le_refl _) _
      have hc3 : W3.heap[n1]? = some (.cells (rowC lk) 34 (0, 0)) := by rw [hW3, hn1]; exact heap_alloc_new wr _
      have HM3 := Lib.hid (HM.out.below hb3)
      have HT3 := Lib.hid (HT.out.trans (Turned.of_below hb3))
      have HW3 := Lib.hid hW3
      have HN1 := Lib.hid hn1
      obtain ⟨lg, lo, hla, hcs, hfr⟩ := HM3.out.ptrL (by omega)
      have p3 : W3.cell? ⟨tb, 3, none⟩ = some (.slice la t.ls.length lc) := cell_in HM3.out.blk rfl
      have p2 : W3.cell? ⟨tb, 2, none⟩ = some (.map (some pb)) := cell_in HM3.out.blk rfl
      have k0 : W3.cell? ⟨n1, 0, none⟩ = some (.int .u32 (lk.1 : Int)) := cell_in hc3 rfl
      have k1 : W3.cell? ⟨n1, 1, none⟩ = some (.int .u32 (lk.2.1 : Int)) := cell_in hc3 rfl
      have k2 : W3.cell? ⟨n1, 2, none⟩ = some (.int .u32 (lk.2.2 : Int)) := cell_in hc3 rfl
      obtain ⟨q0, q1⟩ := hcs q x hx
      rw [hla] at p3
      have i0 : (0 : Int) ≤ (q : Int) := by omega
      have i1 : (q : Int) < (t.ls.length : Int) := by omega
      have d1 : decide ((k : Int) < 6) = true := by simp; omega
      have HLa := Lib.hid hla
      have hw2 : IntKind.i64.wrap (x.live + by_) = x.live + by_ := IntWalk.i64_in _ (by have := HBy.out; omega)
      clear hW3 hn1 hb3 hc3 hcs hq hla
      go_upto_region 5 with fail
      rw [← HW3.out, ← HN1.out]
      have hlu' : (Instr.lookup 56 (.map (some pb)) (rowV lk) false).run Try.prog W3.drew = .ok (.int .i64 (q : Int)) W3.drew := by
        have := (HM3.out.below (Below.refl _ _).drew).pts.look1 hko
        rw [hP, Option.getD_some] at this
        exact this
      have hsd : W3.drew = W3.drew := rfl
      clear hP
      go_region_held3 (fun W' => W' = W3.drew) ((first | assumption | rfl)) (fail)
      clear hlu' hsd
      go_upto_region 8 with fail
      have hm4 : TabM Gz (W3.setCell ⟨lg, lo + q * 2 + 1, none⟩ (.int .i64 (x.live + by_))).drew S tb R num pats (t.ls.set q { x with live := x.live + by_ }) (live + by_) t.e0 t.e1 t.e2 ra rc nb pb la lc := by
        have := HM3.out.setLs HLa.out hx (x.live + by_)
        rw [← Nat.add_assoc] at this
        exact this.below (Below.refl _ _).drew
      have ht4 : Turned S w (W3.setCell ⟨lg, lo + q * 2 + 1, none⟩ (.int .i64 (x.live + by_))).drew := (HT3.out.trans (Turned.set (a := ⟨lg, lo + q * 2 + 1, none⟩) (show S lg from HM3.out.sL _ HLa.out) _)).drew
      have HM4 := Lib.hid hm4
      have HT4 := Lib.hid ht4
      generalize (W3.setCell ⟨lg, lo + q * 2 + 1, none⟩ (.int .i64 (x.live + by_))).drew = W4 at *
      obtain ⟨lg', lo', hla', hcs', _⟩ := hm4.ptrL (by rw [List.length_set]; omega)
      obtain ⟨rfl, rfl⟩ : lg' = lg ∧ lo' = lo := by
        have := HLa.out.symm.trans hla'
        injection this with this
        injection this with e1 e2
        exact ⟨e1.symm, e2.symm⟩
      have r1 : W4.cell? ⟨lg', lo' + q * 2 + 1, none⟩ = some (.int .i64 (x.live + by_)) := (hcs' q _ (List.getElem?_set_self hqt)).2
      clear hm4 ht4 hcs' hla' q0 q1 p3 p2 k0 k1 k2 hx hfr hw2
      have fin : ∀ U : World, Turned S w U → ∀ A0 A1 A2, TabM Gz U S tb R num pats (t.ls.set q { x with live := x.live + by_ }) (live + by_) A0 A1 A2 ra rc nb pb la lc → A0 = (if k = 0 ∧ (x.live = 0 ∨ x.live + by_ = 0) then t.e0 + by_ else t.e0) → A1 = (if k = 1 ∧ (x.live = 0 ∨ x.live + by_ = 0) then t.e1 + by_ else t.e1) → A2 = (if k = 2 ∧ (x.live = 0 ∨ x.live + by_ = 0) then t.e2 + by_ else t.e2) →
          Turned S w U ∧ TabM Gz U S tb R num pats (cntF pats r by_ s0 (k + 1)).ls (live + by_) (cntF pats r by_ s0 (k + 1)).e0 (cntF pats r by_ s0 (k + 1)).e1 (cntF pats r by_ s0 (k + 1)).e2 ra rc nb pb la lc := by
        intro U hU A0 A1 A2 hM h0 h1 h2
        rw [HSt.out]
        subst h0 h1 h2
        exact ⟨hU, hM⟩
      have Fin := Lib.hid fin
      clear fin
      by_cases hk3 : k < 3
      · have e1 : decide ((k : Int) < 3) = true := by simp; omega
        by_cases hz : x.live = 0 ∨ x.live + by_ = 0
        · obtain ⟨dk, hdk⟩ : ∃ dk, dk = if k = 0 then t.e0 else if k = 1 then t.e1 else t.e2 := ⟨_, rfl⟩
          have p5 : W4.cell? ⟨tb, 5 + k, none⟩ = some (.int .i64 dk) := by
            rw [hdk]
            obtain rfl | rfl | rfl : k = 0 ∨ k = 1 ∨ k = 2 := by omega
            all_goals exact cell_in HM4.out.blk rfl
          have f5 : ∀ i, W4.frozen? ⟨tb, i, none⟩ = false := fun i => free_in HM4.out.blk i
          have hdn : -1000000000006 ≤ dk ∧ dk ≤ 1000000000006 := by
            rw [hdk]
            obtain ⟨g0, g1, g2⟩ := hd
            split
            · omega
            · split <;> omega
          have hw5 : IntKind.i64.wrap (dk + by_) = dk + by_ := IntWalk.i64_in _ (by have := HBy.out; omega)
          have hend := HM4.out.setDist k hk3 (dk + by_)
          have htn := HT4.out.trans (Turned.set (a := ⟨tb, 5 + k, none⟩) HM4.out.sT (.int .i64 (dk + by_)))
          have hres := Fin.out _ htn.drew _ _ _ (hend.below (Below.refl _ _).drew) (by rw [hdk]; by_cases h0 : k = 0 <;> simp [h0, hz]) (by rw [hdk]; by_cases h1 : k = 1 <;> simp [h1, hz]) (by rw [hdk]; by_cases h2 : k = 2 <;> simp [h2, hz])
          have HRes := Lib.hid hres
          clear hend htn hres hdk hdn hd
          have i0k : (0 : Int) ≤ (k : Int) := by omega
          have i1k : (k : Int) < 3 := by omega
          have i2k : ((k : Int) : Int) < ((3 : Nat) : Int) := by omega
          by_cases hz0 : x.live = 0
          · have e2 : (x.live == 0) = true := by simp [hz0]
            clear hz hz0
            go_upto_region 9 with fail
            go_region_with (fail)
            all_goals
              go_wp2
              go_roundg (6 - (k + 1))
              case measure => omega
              case rel => exact ⟨k + 1, by omega, Nat.le_refl _, by go_num, HRes.out⟩
          · have e2 : (x.live == 0) = false := by simpa using hz0
            have e3 : (x.live + by_ == 0) = true := by rcases hz with h | h; exact absurd h hz0; simp [h]
            clear hz hz0
            go_upto_region 9 with fail
            go_region_with (fail)
            all_goals
              go_wp2
              go_roundg (6 - (k + 1))
              case measure => omega
              case rel => exact ⟨k + 1, by omega, Nat.le_refl _, by go_num, HRes.out⟩
        · have e2 : (x.live == 0) = false := by simp; intro h; exact hz (.inl h)
          have e3 : (x.live + by_ == 0) = false := by simp; intro h; exact hz (.inr h)
          have HRes := Lib.hid (Fin.out _ HT4.out _ _ _ HM4.out (by simp [hz]) (by simp [hz]) (by simp [hz]))
          clear hz hd
          go_wp2
          go_roundg (6 - (k + 1))
          case measure => omega
          case rel => exact ⟨k + 1, by omega, Nat.le_refl _, by go_num, HRes.out⟩
      · have e1 : decide ((k : Int) < 3) = false := by simp; omega
        have HRes := Lib.hid (Fin.out _ HT4.out _ _ _ HM4.out (by rw [if_neg (by omega)]) (by rw [if_neg (by omega)]) (by rw [if_neg (by omega)]))
        clear hd
        go_wp2
        go_roundg (6 - (k + 1))
        case measure => omega
        case rel => exact ⟨k + 1, by omega, Nat.le_refl _, by go_num, HRes.out⟩
end
end Go.Proofs.Ytnmimagcmmdolaa
