/-
  WHAT THE PROOF STANDS ON, a part of it: MidIn, CkPos, CkMap.
-/
import Derived.Test.YtlkiigoblkfkpaaGreatDoorC6
import Derived.Deep.MidRow
import Derived.Maps.AppendAt
import Derived.RangeFuncGives
import Derived.Shelf.Abstract
import Derived.Shelf.RegionOpen
import Derived.OwnWalkIn
import Derived.TacticsInMore
import Derived.Test.YtlkiigoblkfkpaaGreatDoorC30
import Derived.Test.YtlkiigoblkfkpaaGreatDoorC21
/-
  LOADS AND STORES OF MANY CELLS, within a fence.
-/

namespace Go.Proofs.YtlkiigoblkfkpaaGreatDoor
open Go.RowKit Go.Shelf
set_option linter.unusedVariables false
set_option linter.unusedSimpArgs false

theorem wpListIn_load_mid {F : Fence} {n : Nat} {P : Program} {w : World} {ops : Array Oper} {rest : List Oper} {o : Oper} {a : Act} {Q : Exit → Act → World → Prop}
    (hg : o.guard = none) (ty : TypeId) (x : Operand) (ho : o.op = .load ty x) (b off : Nat) (hx : a.eval x = .pointer (some ⟨b, off, none⟩)) (cs : List Value) (d : TypeDesc) (hc : w.rangeAt b off cs)
    (hu : P.underlying ty = some d) (hd : d.isRow = true) (hi : (P.info? ty).map (·.size) = some cs.length)
    (h : wpListIn F n P ops Q rest (a.put o.dst (.agg cs.toArray)) w) : wpListIn F n P ops Q (o :: rest) a w := by
  refine wpListIn_plain hg fun K hK' => ?_
  have hrun := run_loadAt_mid w b off ty cs d hc hu hd hi
  unfold Oper.wpIn
  refine ⟨?_, ?_⟩
  · simp [Oper.about, ho]
  · rw [Oper.semAt_plain F _ _ (by rw [ho]; intro c hc'; cases hc')]
    unfold execOp
    simp only [ho, hx, Sem.run_bind, Sem.run_pure, Result.andThen_ok, hrun]
    exact hK' _ _ h
theorem wpListIn_store_mid {F : Fence} {n : Nat} {P : Program} {w : World} {ops : Array Oper} {rest : List Oper} {o : Oper} {a : Act} {Q : Exit → Act → World → Prop}
    (hg : o.guard = none) (ty : TypeId) (x y : Operand) (ho : o.op = .store ty x y) (b off : Nat) (cells : Array Value) (hx : a.eval x = .pointer (some ⟨b, off, none⟩)) (hy : a.eval y = .agg cells)
    (ht : w.there b off cells.size) (hi : (P.info? ty).map (·.size) = some cells.size) (h1 : cells.all (·.oneCell') = true)
    (h : wpListIn F n P ops Q rest (a.put o.dst undef) (w.setCells b off cells.toList)) : wpListIn F n P ops Q (o :: rest) a w := by
  refine wpListIn_plain hg fun K hK' => ?_
  have hrun := run_storeVar_mid (P := P) w b off ty cells ht hi h1
  unfold Oper.wpIn
  refine ⟨?_, ?_⟩
  · simp [Oper.about, ho]
  · rw [Oper.semAt_plain F _ _ (by rw [ho]; intro c hc'; cases hc')]
    unfold execOp
    simp only [ho, hx, hy, Instr.storeAt, Instr.sureAddr, Sem.run_bind, Sem.run_pure, Result.andThen_ok, hrun]
    exact hK' _ _ h
end Go.Proofs.YtlkiigoblkfkpaaGreatDoor

/-
  THE ITERATOR OVER A RULE'S SLOTS. (Written by tools/genckpos.py.)
-/

namespace Go.Proofs.YtlkiigoblkfkpaaGreatDoor
open Go.RowKit Go.Shelf
open Utf Term
set_option linter.unusedVariables false
set_option linter.unusedSimpArgs false
attribute [local go_sem] Oper.semAt_some

abbrev PxD := PosD × SlotD
abbrev posV (x : PosD) : Value := .agg #[.bool x.1, .int .i64 x.2.1, .int .i64 (x.2.2 : Int)]
abbrev encPx (x : PxD) : Array Value := #[posV x.1, .agg (slotC x.2)]
def nextPx (L : List PxD) (ip : List PxD) (x : PxD) (ip' : List PxD) : Prop := ip' = ip ++ [x] ∧ ip ++ [x] <+: L
/-- The rule in the box, and its body. -/
def PosQ (b : Nat) (p : PatD) (s : SlD) (ls : List LitD) (W : World) : Prop :=
  W.heap[b]? = some (.cells (ruleC p (slV s)) 46 (0, 0)) ∧ s.2.1 = ls.length ∧ (0 < ls.length → ∃ g o, s.1 = some ⟨g, o, none⟩ ∧ RowL W g o ls)
abbrev TPos (b : Nat) (p : PatD) (s : SlD) (ls : List LitD) : Unit → List PxD → (Nat → Prop) → World → Prop := fun _ _ S W => (∀ j, ¬ S j) ∧ PosQ b p s ls W
theorem PosQ.below {b : Nat} {p : PatD} {s : SlD} {ls : List LitD} {W U : World} (h : PosQ b p s ls W) (k : Below W.heap.size W U) : PosQ b p s ls U := by
  obtain ⟨h1, h2, h3⟩ := h
  refine ⟨(k.block b (Array.getElem?_eq_some_iff.1 h1).1).trans h1, h2, fun h0 => ?_⟩
  obtain ⟨g, o, e, r⟩ := h3 h0
  exact ⟨g, o, e, r.below k⟩
theorem PosQ.own {b : Nat} {p : PatD} {s : SlD} {ls : List LitD} {W U : World} {row : Option Nat} (h : PosQ b p s ls W) (hg : W.grownBy U row) (hr : ∀ r, row = some r → ∃ o : Obj, W.heap[r]? = some o ∧ o.isCells = false) : PosQ b p s ls U := by
  obtain ⟨h1, h2, h3⟩ := h
  refine ⟨(hg.block b (Array.getElem?_eq_some_iff.1 h1).1 (fun e => ?_)).trans h1, h2, fun h0 => ?_⟩
  · obtain ⟨o, ho, hc⟩ := hr b e.symm
    rw [h1] at ho
    cases ho
    cases hc
  · obtain ⟨g, o, e, r⟩ := h3 h0
    exact ⟨g, o, e, fun j u hu => cell_kept (r j u hu) hg hr⟩
/-- The slots of the first parts. -/
def preP (p : PatD) (ls : List LitD) (k : Nat) : List PxD := zipP true 0 (patSl p) ++ (ls.take k).flatMap fun x => zipP false x.1 (slotsD x)
theorem preP_all (p : PatD) (ls : List LitD) : preP p ls ls.length = posL (p, ls) := by
  unfold preP posL
  rw [List.take_length]
theorem preP_next {p : PatD} {ls : List LitD} {k : Nat} {x : LitD} (h : ls[k]? = some x) : preP p ls (k + 1) = preP p ls k ++ zipP false x.1 (slotsD x) := by
  unfold preP
  rw [List.take_add_one, h, List.append_assoc]
  congr 1
  simp
theorem zipP_len (h : Bool) (k : Int) (l : List SlotD) : (zipP h k l).length = l.length := by
  unfold zipP
  rw [List.length_map, List.length_zipIdx]
theorem zipP_get {h : Bool} {k : Int} {l : List SlotD} {j : Nat} {y : SlotD} (hj : l[j]? = some y) : (zipP h k l)[j]? = some ((h, k, j), y) := by
  unfold zipP
  rw [List.getElem?_map, List.getElem?_zipIdx, hj]
  simp
theorem preP_pre (p : PatD) (ls : List LitD) (k : Nat) : preP p ls k <+: posL (p, ls) := by
  unfold preP posL
  refine List.prefix_append_right_inj _ |>.2 ?_
  conv => rhs; rw [← List.take_append_drop k ls, List.flatMap_append]
  exact List.prefix_append _ _
theorem slotsD_len (x : LitD) : (slotsD x).length ≤ 3 := by
  unfold slotsD
  split
  · exact Nat.le_refl _
  · exact Nat.le_succ _
theorem RowE.turned {α : Type} {enc : α → List Value} {W U : World} {g o : Nat} {ls : List α} {T : Nat → Prop} (h : RowE enc W g o ls) (k : Turned T W U) (hg : ¬ T g) : RowE enc U g o ls := fun j u hu => k.cell (a := ⟨g, o + j, none⟩) hg (h j u hu)
/-- A slot's cells in a row. -/
theorem slot_cells {W : World} {g o j : Nat} {l : List SlotD} {y : SlotD} (h : RowE encSl W g o l) (hy : l[j]? = some y) : W.cell? ⟨g, o + j * 4, none⟩ = some (.string y.1) ∧ W.cell? ⟨g, o + j * 4 + 1, none⟩ = some (.int .i64 y.2.1) ∧ W.cell? ⟨g, o + j * 4 + 2, none⟩ = some (.string y.2.2.1) ∧ W.cell? ⟨g, o + j * 4 + 3, none⟩ = some (.string y.2.2.2) := by
  have hr := h.range 4 (fun _ => rfl) hy
  exact ⟨hr 0 _ rfl, hr 1 _ rfl, hr 2 _ rfl, hr 3 _ rfl⟩
set_option maxRecDepth 100000 in
set_option maxHeartbeats 16000000 in
theorem ckPositions_seq (n : Nat) (hn : 1 ≤ n) (b : Nat) (p : PatD) (s : SlD) (ls : List LitD) (hl : ls.length ≤ 1000000000) (S0 Loc : Nat → Prop) (w : World) (hLoc : ∀ j, Loc j → j < w.heap.size) :
    SeqT Fence.wide n Tryz.prog 36 #[.pointer (some ⟨b, 0, none⟩)] encPx (TPos b p s ls) (nextPx (posL (p, ls))) (fun ip => ip = posL (p, ls)) () [] S0 Loc w := by
  intro l J Jx W hW hJ hJx hY h0 hT0
  refine callsIn_of_wp Tryz.func36 rfl trivial ?_ rfl
  simp only [Tryz.ntmps36, List.size_toArray, List.length_cons, List.length_nil, Nat.reduceAdd, Nat.reduceSub, Array.replicate_succ, Array.replicate_zero, List.push_toArray, List.append_toArray, List.nil_append, List.cons_append]
  have HY := Lib.hid hY
  have HT0 := Lib.hid hT0
  have HW := Lib.hid hW
  obtain ⟨q1, q2, q3⟩ := hT0.2
  obtain ⟨⟨a0, a1, a2, a3⟩, ⟨b0, b1, b2, b3⟩, ⟨c0, c1, c2, c3⟩⟩ := p
  obtain ⟨ptr, nl, cap⟩ := s
  dsimp only at q2 q3
  subst q2
  have HPre0 : Hid (([] : List PxD) ++ [((true, 0, 0), (a0, a1, a2, a3))] <+: posL (((a0, a1, a2, a3), (b0, b1, b2, b3), (c0, c1, c2, c3)), ls)) := Lib.hid ⟨_, rfl⟩
  have HPre1 : Hid ([((true, 0, 0), (a0, a1, a2, a3))] ++ [(((true, 0, 1), (b0, b1, b2, b3)) : PxD)] <+: posL (((a0, a1, a2, a3), (b0, b1, b2, b3), (c0, c1, c2, c3)), ls)) := Lib.hid ⟨_, rfl⟩
  have HPre2 : Hid ([((true, 0, 0), (a0, a1, a2, a3)), ((true, 0, 1), (b0, b1, b2, b3))] ++ [(((true, 0, 2), (c0, c1, c2, c3)) : PxD)] <+: posL (((a0, a1, a2, a3), (b0, b1, b2, b3), (c0, c1, c2, c3)), ls)) := Lib.hid ⟨_, rfl⟩
  have x0 := cell_in (j := 0) q1 rfl
  have x1 := cell_in (j := 1) q1 rfl
  have x2 := cell_in (j := 2) q1 rfl
  have x3 := cell_in (j := 3) q1 rfl
  have x4 := cell_in (j := 4) q1 rfl
  have x5 := cell_in (j := 5) q1 rfl
  have x6 := cell_in (j := 6) q1 rfl
  have x7 := cell_in (j := 7) q1 rfl
  have x8 := cell_in (j := 8) q1 rfl
  have x9 := cell_in (j := 9) q1 rfl
  have x10 := cell_in (j := 10) q1 rfl
  have x11 := cell_in (j := 11) q1 rfl
  clear hY q1 q3 hT0 hW
  gi_wp2
  gi_loopw [11] (fun i wr => ∃ (k : Nat) (S : Nat → Prop), k ≤ 3 ∧ i = .int .i64 (k : Int) ∧ J ((zipP true 0 (patSl ((a0, a1, a2, a3), (b0, b1, b2, b3), (c0, c1, c2, c3)))).take k) S wr ∧ TPos b ((a0, a1, a2, a3), (b0, b1, b2, b3), (c0, c1, c2, c3)) (ptr, ls.length, cap) ls () [] S wr ∧ w.heap.size ≤ wr.heap.size)
    (fun i _ => 3 - (intOf i).toNat)
  case atStart => exact ⟨0, S0, by omega, rfl, h0, HT0.out, HW.out.size⟩
  case round =>
    obtain ⟨k, S, hk, rfl, hJs, hq, hsz⟩ := hrel
    clear x0 x1 x2 x3 x4 x5 x6 x7 x8 x9 x10 x11
    obtain rfl | rfl | rfl | rfl : k = 0 ∨ k = 1 ∨ k = 2 ∨ k = 3 := by omega
    · skip
      obtain ⟨U, hU⟩ : ∃ U, U = wr.alloc (.cells #[.string a0, .int .i64 a1, .string a2, .string a3] 37) := ⟨_, rfl⟩
      have hbu := (Below.refl wr.heap.size wr).alloc (Nat.le_refl _) (.cells #[.string a0, .int .i64 a1, .string a2, .string a3] 37)
      have hJU := hJ.alloc (.cells #[.string a0, .int .i64 a1, .string a2, .string a3] 37) hJs
      have d2 := heap_alloc_new wr (.cells #[.string a0, .int .i64 a1, .string a2, .string a3] 37)
      rw [← hU] at hbu hJU d2
      obtain ⟨fn, tmps, assign, body, hy, hR⟩ := HY.out () _ ((true, 0, 0), (a0, a1, a2, a3)) _ S U hJU ⟨hq.1, hq.2.below hbu⟩ ⟨rfl, by exact HPre0.out⟩
      change (Instr.yield l #[.agg #[.bool true, .int .i64 0, .int .i64 0], .agg #[.string a0, .int .i64 a1, .string a2, .string a3]]).run Tryz.prog U = _ at hy
      have hix : ∀ W, (Instr.index 40 (.agg #[.string a0, .int .i64 a1, .string a2, .string a3, .string b0, .int .i64 b1, .string b2, .string b3, .string c0, .int .i64 c1, .string c2, .string c3]) (.int .i64 0)).run Tryz.prog W = .ok (.agg #[.string a0, .int .i64 a1, .string a2, .string a3]) W := fun W => by kernel_rfl
      obtain ⟨n1, hn1⟩ : ∃ n1, n1 = wr.heap.size := ⟨_, rfl⟩
      rw [← hn1] at d2
      have y0 := cell_in (j := 0) d2 rfl
      have y1 := cell_in (j := 1) d2 rfl
      have y2 := cell_in (j := 2) d2 rfl
      have y3 := cell_in (j := 3) d2 rfl
      have HR := Lib.hid hR
      have HSz := Lib.hid (Nat.le_trans hsz hbu.size)
      have HU := Lib.hid hU
      have HN1 := Lib.hid hn1
      clear hR hq hbu hJU d2 hU hn1 hJs hsz
      gi_upto_region 3 with fail
      rw [← HU.out, ← HN1.out]
      gi_wp2
      refine HR.out.mono ?_
      rintro e W3 (⟨rfl, S', hJ3, hq3, hT3, hS3⟩ | ⟨rfl, hJx3, _⟩)
      · gi_wp2
        go_roundw
        case rel => exact ⟨1, S', by omega, by simp, hJ3, hq3, Nat.le_trans HSz.out hT3.size⟩
        case measure => simp [intOf]
      · gi_wp2
        refine bodyPost_ret (results_none rfl _ _ _) rfl ?_
        exact ⟨⟨_, rfl⟩, .inr hJx3⟩
    · skip
      obtain ⟨U, hU⟩ : ∃ U, U = wr.alloc (.cells #[.string b0, .int .i64 b1, .string b2, .string b3] 37) := ⟨_, rfl⟩
      have hbu := (Below.refl wr.heap.size wr).alloc (Nat.le_refl _) (.cells #[.string b0, .int .i64 b1, .string b2, .string b3] 37)
      have hJU := hJ.alloc (.cells #[.string b0, .int .i64 b1, .string b2, .string b3] 37) hJs
      have d2 := heap_alloc_new wr (.cells #[.string b0, .int .i64 b1, .string b2, .string b3] 37)
      rw [← hU] at hbu hJU d2
      obtain ⟨fn, tmps, assign, body, hy, hR⟩ := HY.out () _ ((true, 0, 1), (b0, b1, b2, b3)) _ S U hJU ⟨hq.1, hq.2.below hbu⟩ ⟨rfl, by exact HPre1.out⟩
      change (Instr.yield l #[.agg #[.bool true, .int .i64 0, .int .i64 1], .agg #[.string b0, .int .i64 b1, .string b2, .string b3]]).run Tryz.prog U = _ at hy
      have hix : ∀ W, (Instr.index 40 (.agg #[.string a0, .int .i64 a1, .string a2, .string a3, .string b0, .int .i64 b1, .string b2, .string b3, .string c0, .int .i64 c1, .string c2, .string c3]) (.int .i64 1)).run Tryz.prog W = .ok (.agg #[.string b0, .int .i64 b1, .string b2, .string b3]) W := fun W => by kernel_rfl
      obtain ⟨n1, hn1⟩ : ∃ n1, n1 = wr.heap.size := ⟨_, rfl⟩
      rw [← hn1] at d2
      have y0 := cell_in (j := 0) d2 rfl
      have y1 := cell_in (j := 1) d2 rfl
      have y2 := cell_in (j := 2) d2 rfl
      have y3 := cell_in (j := 3) d2 rfl
      have HR := Lib.hid hR
      have HSz := Lib.hid (Nat.le_trans hsz hbu.size)
      have HU := Lib.hid hU
      have HN1 := Lib.hid hn1
      clear hR hq hbu hJU d2 hU hn1 hJs hsz
      gi_upto_region 3 with fail
      rw [← HU.out, ← HN1.out]
      gi_wp2
      refine HR.out.mono ?_
      rintro e W3 (⟨rfl, S', hJ3, hq3, hT3, hS3⟩ | ⟨rfl, hJx3, _⟩)
      · gi_wp2
        go_roundw
        case rel => exact ⟨2, S', by omega, by simp, hJ3, hq3, Nat.le_trans HSz.out hT3.size⟩
        case measure => simp [intOf]
      · gi_wp2
        refine bodyPost_ret (results_none rfl _ _ _) rfl ?_
        exact ⟨⟨_, rfl⟩, .inr hJx3⟩
    · skip
      obtain ⟨U, hU⟩ : ∃ U, U = wr.alloc (.cells #[.string c0, .int .i64 c1, .string c2, .string c3] 37) := ⟨_, rfl⟩
      have hbu := (Below.refl wr.heap.size wr).alloc (Nat.le_refl _) (.cells #[.string c0, .int .i64 c1, .string c2, .string c3] 37)
      have hJU := hJ.alloc (.cells #[.string c0, .int .i64 c1, .string c2, .string c3] 37) hJs
      have d2 := heap_alloc_new wr (.cells #[.string c0, .int .i64 c1, .string c2, .string c3] 37)
      rw [← hU] at hbu hJU d2
      obtain ⟨fn, tmps, assign, body, hy, hR⟩ := HY.out () _ ((true, 0, 2), (c0, c1, c2, c3)) _ S U hJU ⟨hq.1, hq.2.below hbu⟩ ⟨rfl, by exact HPre2.out⟩
      change (Instr.yield l #[.agg #[.bool true, .int .i64 0, .int .i64 2], .agg #[.string c0, .int .i64 c1, .string c2, .string c3]]).run Tryz.prog U = _ at hy
      have hix : ∀ W, (Instr.index 40 (.agg #[.string a0, .int .i64 a1, .string a2, .string a3, .string b0, .int .i64 b1, .string b2, .string b3, .string c0, .int .i64 c1, .string c2, .string c3]) (.int .i64 2)).run Tryz.prog W = .ok (.agg #[.string c0, .int .i64 c1, .string c2, .string c3]) W := fun W => by kernel_rfl
      obtain ⟨n1, hn1⟩ : ∃ n1, n1 = wr.heap.size := ⟨_, rfl⟩
      rw [← hn1] at d2
      have y0 := cell_in (j := 0) d2 rfl
      have y1 := cell_in (j := 1) d2 rfl
      have y2 := cell_in (j := 2) d2 rfl
      have y3 := cell_in (j := 3) d2 rfl
      have HR := Lib.hid hR
      have HSz := Lib.hid (Nat.le_trans hsz hbu.size)
      have HU := Lib.hid hU
      have HN1 := Lib.hid hn1
      clear hR hq hbu hJU d2 hU hn1 hJs hsz
      gi_upto_region 3 with fail
      rw [← HU.out, ← HN1.out]
      gi_wp2
      refine HR.out.mono ?_
      rintro e W3 (⟨rfl, S', hJ3, hq3, hT3, hS3⟩ | ⟨rfl, hJx3, _⟩)
      · gi_wp2
        go_roundw
        case rel => exact ⟨3, S', by omega, by simp, hJ3, hq3, Nat.le_trans HSz.out hT3.size⟩
        case measure => simp [intOf]
      · gi_wp2
        refine bodyPost_ret (results_none rfl _ _ _) rfl ?_
        exact ⟨⟨_, rfl⟩, .inr hJx3⟩
    · skip
      have h12 : wr.cell? ⟨b, 12, none⟩ = some (.slice ptr ls.length cap) := cell_in (j := 12) hq.2.1 rfl
      obtain ⟨nl, hnl⟩ : ∃ nl, nl = ls.length := ⟨_, rfl⟩
      rw [← hnl] at h12
      have HNl := Lib.hid hnl
      have HQ3 := Lib.hid hq
      have hJ3 : J (preP ((a0, a1, a2, a3), (b0, b1, b2, b3), (c0, c1, c2, c3)) ls 0) S wr := by
        have e : preP ((a0, a1, a2, a3), (b0, b1, b2, b3), (c0, c1, c2, c3)) ls 0 = (zipP true 0 (patSl ((a0, a1, a2, a3), (b0, b1, b2, b3), (c0, c1, c2, c3)))).take 3 := rfl
        rw [e]
        exact hJs
      have HJ3 := Lib.hid hJ3
      have HPp := Lib.hid (preP_pre ((a0, a1, a2, a3), (b0, b1, b2, b3), (c0, c1, c2, c3)) ls)
      have HPn : Hid (∀ k x, ls[k]? = some x → preP ((a0, a1, a2, a3), (b0, b1, b2, b3), (c0, c1, c2, c3)) ls (k + 1) = preP ((a0, a1, a2, a3), (b0, b1, b2, b3), (c0, c1, c2, c3)) ls k ++ zipP false x.1 (slotsD x)) := Lib.hid (fun k x h => preP_next h)
      have HPa := Lib.hid (preP_all ((a0, a1, a2, a3), (b0, b1, b2, b3), (c0, c1, c2, c3)) ls)
      obtain ⟨PR, hPR⟩ : ∃ PR, PR = preP ((a0, a1, a2, a3), (b0, b1, b2, b3), (c0, c1, c2, c3)) ls := ⟨_, rfl⟩
      obtain ⟨PL, hPL⟩ : ∃ PL, PL = posL (((a0, a1, a2, a3), (b0, b1, b2, b3), (c0, c1, c2, c3)), ls) := ⟨_, rfl⟩
      have HPLe := Lib.hid hPL
      obtain ⟨TQ, hTQ⟩ : ∃ TQ : (Nat → Prop) → World → Prop, TQ = fun S W => TPos b ((a0, a1, a2, a3), (b0, b1, b2, b3), (c0, c1, c2, c3)) (ptr, ls.length, cap) ls () [] S W := ⟨_, rfl⟩
      have HTQ : Hid (∀ S W, TQ S W ↔ TPos b ((a0, a1, a2, a3), (b0, b1, b2, b3), (c0, c1, c2, c3)) (ptr, ls.length, cap) ls () [] S W) := Lib.hid (fun S W => by rw [hTQ])
      rw [← hPR] at HJ3 HPp HPn HPa
      rw [← hPL] at HPp HPa
      have HY2 : Hid (∀ (ip : List PxD) (x : PxD) (S : Nat → Prop) (W1 : World), J ip S W1 → TQ S W1 → ip ++ [x] <+: PL → YieldAt Fence.wide (n - 1) Tryz.prog l (encPx x) W1 fun e W' => (e = .returned (.bool true) ∧ ∃ S', J (ip ++ [x]) S' W' ∧ TQ S' W' ∧ Turned (bothS S Loc) W1 W') ∨ (e = .returned (.bool false) ∧ Jx W')) := Lib.hid (fun ip x S W1 h1 h2 h3 => by
        refine (HY.out () ip x _ S W1 h1 ((HTQ.out _ _).1 h2) ⟨rfl, by rw [← hPL]; exact h3⟩).mono ?_
        rintro e W' (⟨rfl, S', g1, g2, g3, _⟩ | ⟨rfl, g1, _⟩)
        · exact .inl ⟨rfl, S', g1, (HTQ.out _ _).2 g2, g3⟩
        · exact .inr ⟨rfl, g1⟩)
      have HQ3' : Hid (TQ S wr) := Lib.hid ((HTQ.out _ _).2 HQ3.out)
      have HTr : Hid (∀ S W, TQ S W → 0 < nl → ∃ g o, ptr = some ⟨g, o, none⟩ ∧ RowL W g o ls) := Lib.hid (fun S W h h0 => ((HTQ.out _ _).1 h).2.2.2 (by rw [← HNl.out]; exact h0))
      have HTS : Hid (∀ S W, TQ S W → ∀ j, ¬ S j) := Lib.hid (fun S W h => ((HTQ.out _ _).1 h).1)
      have HTb : Hid (∀ S W U, TQ S W → Below W.heap.size W U → TQ S U) := Lib.hid (fun S W U h k => (HTQ.out _ _).2 ⟨((HTQ.out _ _).1 h).1, ((HTQ.out _ _).1 h).2.below k⟩)
      have hl2 : nl ≤ 1000000000 := by omega
      have HWs := Lib.hid hsz
      have HJb : Hid (∀ ip S A C, J ip S A → Below A.heap.size A C → J ip S C) := Lib.hid (fun ip S A C h k => hJ ip S A C none h ⟨k.os, k.tape, k.output, k.size, fun i hi _ => k.block i hi⟩ (fun r e => by cases e))
      have HLc := Lib.hid hLoc
      clear hJs hq hJ3 hnl hPR hPL hTQ HQ3 HPre0 HPre1 HPre2 hk hl HY HT0 hsz hJ hLoc
      gi_wp2
      gi_loopw [25] (fun i wr => ∃ (k : Nat) (S : Nat → Prop), k ≤ nl ∧ i = .int .i64 (k : Int) ∧ J (PR k) S wr ∧ TQ S wr ∧ w.heap.size ≤ wr.heap.size)
        (fun i _ => nl - (intOf i).toNat)
      case atStart => exact ⟨0, S, by omega, rfl, HJ3.out, HQ3'.out, HWs.out⟩
      case round =>
        obtain ⟨k, S, hk, rfl, hJs, hq, hsz⟩ := hrel
        obtain ⟨wy, hwy⟩ : ∃ wy, wy = wr := ⟨_, rfl⟩
        subst hwy
        clear h12 HJ3 HQ3' HWs
        by_cases hlt : k < nl
        · obtain ⟨x, hx⟩ : ∃ x, ls[k]? = some x := ⟨_, List.getElem?_eq_getElem (by rw [← HNl.out]; exact hlt)⟩
          obtain ⟨g, o, rfl, hr⟩ := HTr.out S wy hq (by omega)
          have HC : Hid (wy.rangeAt g (o + k * 21) (encLi x)) := Lib.hid (hr.range hx)
          have HPk := Lib.hid (HPn.out k x hx)
          have HSl := Lib.hid (ckSlots_of x)
          obtain ⟨C, hC⟩ : ∃ C, C = encLi x := ⟨_, rfl⟩
          have hlen : C.length = 21 := by rw [hC]; rfl
          have hone : C.toArray.all (·.oneCell') = true := by rw [hC]; exact litC_one x
          have HS : Hid ((Tryz.prog.info? 43).map (·.size) = some C.length) := Lib.hid (by rw [hlen]; kernel_rfl)
          have HSa : Hid ((Tryz.prog.info? 43).map (·.size) = some C.toArray.size) := Lib.hid (by rw [List.size_toArray, hlen]; kernel_rfl)
          have hst := ckStored wy (litC zLi) C (by rw [hlen]; rfl) 43
          have HO := Lib.hid hone
          have HT := Lib.hid hst.1
          have HG := Lib.hid hst.2.2
          have HR := Lib.hid hst.2.1
          have HCe := Lib.hid hC
          rw [← hC] at HC HSl
          have e1 : decide ((k : Int) < (nl : Int)) = true := by simp; omega
          have i0 : (0 : Int) ≤ (k : Int) := by omega
          have i1 : (k : Int) < (nl : Int) := by omega
          have i2 : (k : Int) < 1000000000000 := by omega
          have HJs := Lib.hid hJs
          have HQ := Lib.hid hq
          have HLt := Lib.hid hlt
          clear hC hlen hone hst hr hx hJs hq hlt hk
          gi_upto_region 8 with (first
            | (refine wpListIn_load_mid rfl 43 (.tmp 27) rfl g (o + k * 21) rfl C _ HC.out Tryz.underlying43 rfl HS.out ?_)
            | (refine wpListIn_store_mid rfl 43 (.tmp 6) (.tmp 28) rfl wy.heap.size 0 C.toArray rfl rfl HT.out HSa.out HO.out ?_))
          obtain ⟨n6, hn6⟩ : ∃ n6, n6 = wy.heap.size := ⟨_, rfl⟩
          rw [← hn6] at HR HG ⊢
          generalize World.setCells (World.alloc wy (Obj.cells _ _)) n6 0 C.toArray.toList = W2 at *
          have hk0 : W2.cell? ⟨n6, 0, none⟩ = some (.int .i64 x.1) := by
            have := HR.out 0 (.int .i64 x.1) (by rw [HCe.out]; rfl)
            exact this
          have HB2 := Lib.hid HG.out.below
          have HN6 := Lib.hid hn6
          have HJ2 := Lib.hid (HJb.out _ _ _ _ HJs.out HG.out.below)
          have HQ2 := Lib.hid (HTb.out _ _ _ HQ.out HG.out.below)
          have HSz2 := Lib.hid (Nat.le_trans hsz HG.out.below.size)
          have HN6b : Hid (w.heap.size ≤ n6) := Lib.hid (by rw [hn6]; exact hsz)
          clear HT HG hn6 hsz
          gi_upto_region 9 with (first
            | (refine wpListIn_load_mid rfl 43 (.tmp 6) rfl n6 0 rfl C _ HR.out Tryz.underlying43 rfl HS.out ?_)
            | (refine ⟨trivial, ?_⟩; gi_at_call 37; refine (callsIn_wide.2 (HSl.out _)).mono ?_; rintro e W5 ⟨g5, o5, cap5, rfl, hrow5, hlow5, hb5⟩))
          obtain ⟨m, hm⟩ : ∃ m, m = (slotsD x).length := ⟨_, rfl⟩
          rw [← hm]
          have hm3 : m ≤ 3 := by rw [hm]; exact slotsD_len x
          have HM := Lib.hid hm
          have HPp1 : Hid (∀ j y, (slotsD x)[j]? = some y → PR k ++ (zipP false x.1 (slotsD x)).take j ++ [((false, x.1, j), y)] <+: PL ∧ PR k ++ (zipP false x.1 (slotsD x)).take j ++ [((false, x.1, j), y)] = PR k ++ (zipP false x.1 (slotsD x)).take (j + 1)) := Lib.hid (fun j y hy => by
            have h1 : (zipP false x.1 (slotsD x)).take (j + 1) = (zipP false x.1 (slotsD x)).take j ++ [((false, x.1, j), y)] := by
              rw [List.take_add_one, zipP_get hy]
              rfl
            have h2 : PR k ++ (zipP false x.1 (slotsD x)).take j ++ [((false, x.1, j), y)] = PR k ++ (zipP false x.1 (slotsD x)).take (j + 1) := by rw [h1, List.append_assoc]
            refine ⟨?_, h2⟩
            rw [h2]
            refine List.IsPrefix.trans ?_ (HPp.out (k + 1))
            rw [HPk.out]
            exact (List.prefix_append_right_inj _).2 (List.take_prefix _ _))
          have HJ5 : Hid (J (PR k ++ (zipP false x.1 (slotsD x)).take 0) S W5) := Lib.hid (by
            rw [List.take_zero, List.append_nil]
            exact HJb.out _ _ _ _ HJ2.out hb5)
          have HQ5 := Lib.hid (HTb.out _ _ _ HQ2.out hb5)
          have HSz5 := Lib.hid (Nat.le_trans HSz2.out hb5.size)
          have HK5 := Lib.hid ((hb5.cell (p := ⟨n6, 0, none⟩) (World.block_lt_of_cell? _ _ hk0)).trans hk0)
          have HRow5 := Lib.hid hrow5
          have HG5 : Hid (w.heap.size ≤ g5) := Lib.hid (Nat.le_trans HSz2.out hlow5)
          clear hm hrow5 hlow5 hb5 hk0
          gi_wp2
          gi_loopw [32] (fun i wr => ∃ (j : Nat) (S : Nat → Prop), j ≤ m ∧ i = .int .i64 (j : Int) ∧ J (PR k ++ (zipP false x.1 (slotsD x)).take j) S wr ∧ TQ S wr ∧ w.heap.size ≤ wr.heap.size ∧ RowE encSl wr g5 o5 (slotsD x) ∧ wr.cell? ⟨n6, 0, none⟩ = some (.int .i64 x.1))
            (fun i _ => m - (intOf i).toNat)
          case atStart => exact ⟨0, S, by omega, rfl, HJ5.out, HQ5.out, HSz5.out, HRow5.out, HK5.out⟩
          case round =>
            obtain ⟨j, S2, hj, rfl, hJs, hq, hsz, hrow, hk0⟩ := hrel
            clear HJ5 HQ5 HSz5 HRow5 HK5
            by_cases hjm : j < m
            · obtain ⟨y, hy⟩ : ∃ y, (slotsD x)[j]? = some y := ⟨_, List.getElem?_eq_getElem (by rw [← HM.out]; exact hjm)⟩
              obtain ⟨z0, z1, z2, z3⟩ := slot_cells hrow hy
              obtain ⟨hpp, hpe⟩ := HPp1.out j y hy
              obtain ⟨v0, v1, v2, v3⟩ := y
              dsimp only at z0 z1 z2 z3
              have hbu := (Below.refl wr.heap.size wr).alloc (Nat.le_refl _) (.cells #[.string v0, .int .i64 v1, .string v2, .string v3] 37)
              have d2 := heap_alloc_new wr (.cells #[.string v0, .int .i64 v1, .string v2, .string v3] 37)
              obtain ⟨U, hU⟩ : ∃ U, U = wr.alloc (.cells #[.string v0, .int .i64 v1, .string v2, .string v3] 37) := ⟨_, rfl⟩
              rw [← hU] at hbu d2
              obtain ⟨fn, tmps, assign, body, hyv, hR⟩ := HY2.out _ _ S2 U (HJb.out _ _ _ _ hJs hbu) (HTb.out _ _ _ hq hbu) hpp
              change (Instr.yield l #[.agg #[.bool false, .int .i64 x.1, .int .i64 (j : Int)], .agg #[.string v0, .int .i64 v1, .string v2, .string v3]]).run Tryz.prog U = _ at hyv
              obtain ⟨n1, hn1⟩ : ∃ n1, n1 = wr.heap.size := ⟨_, rfl⟩
              rw [← hn1] at d2
              have y0 := cell_in (j := 0) d2 rfl
              have y1 := cell_in (j := 1) d2 rfl
              have y2 := cell_in (j := 2) d2 rfl
              have y3 := cell_in (j := 3) d2 rfl
              have k0 : U.cell? ⟨n6, 0, none⟩ = some (.int .i64 x.1) := (hbu.cell (p := ⟨n6, 0, none⟩) (World.block_lt_of_cell? _ _ hk0)).trans hk0
              have HRU := Lib.hid (hrow.below hbu)
              have HKU := Lib.hid k0
              have HTU := Lib.hid (HTS.out _ _ hq)
              have HSzU := Lib.hid (Nat.le_trans hsz hbu.size)
              have HYR := Lib.hid hR
              have HU := Lib.hid hU
              have HN1 := Lib.hid hn1
              have HPe := Lib.hid hpe
              have c1 : decide ((j : Int) < (m : Int)) = true := by simp; omega
              have c2 : (0 : Int) ≤ (j : Int) := by omega
              have c3 : (j : Int) < (m : Int) := by omega
              have c4 : (j : Int) < 1000000000000 := by omega
              have HJm := Lib.hid hjm
              clear hR hbu d2 hU hn1 hJs hq hrow hk0 hy hpp hpe hsz hjm hj
              gi_upto_region 11 with fail
              rw [← HU.out, ← HN1.out]
              gi_wp2
              refine HYR.out.mono ?_
              rintro e W3 (⟨rfl, S', hJ3, hq3, hT3⟩ | ⟨rfl, hJx3⟩)
              · have hrow3 := HRU.out.turned hT3 (fun h => h.elim (HTU.out g5) (fun h => by have := HLc.out g5 h; have := HG5.out; omega))
                have hk3 := hT3.cell (a := ⟨n6, 0, none⟩) (fun h => h.elim (HTU.out n6) (fun h => by have := HLc.out n6 h; have := HN6b.out; omega)) HKU.out
                have hs3 := Nat.le_trans HSzU.out hT3.size
                rw [HPe.out] at hJ3
                clear hT3
                gi_wp2
                go_roundw
                case rel => exact ⟨j + 1, S', by have := HJm.out; omega, by simp, hJ3, hq3, hs3, hrow3, hk3⟩
                case measure =>
                  have := HJm.out
                  simp [intOf]
                  omega
              · gi_wp2
                refine bodyPost_ret (results_none rfl _ _ _) rfl ?_
                exact ⟨⟨_, rfl⟩, .inr hJx3⟩
            · obtain rfl : j = m := by omega
              have hJe : J (PR (k + 1)) S2 wr := by
                rw [HPk.out]
                have e : (zipP false x.1 (slotsD x)).take j = zipP false x.1 (slotsD x) := List.take_of_length_le (by rw [zipP_len, ← HM.out]; exact Nat.le_refl _)
                rw [← e]
                exact hJs
              clear hJs hrow hk0 hjm hj
              gi_wp2
              go_roundw
              case rel => exact ⟨_, _, _, _, _, _, _, _, _, _, _, _, _, _, _, _, _, _, _, _, _, _, _, _, _, ⟨k + 1, S2, by have := HLt.out; omega, by simp, hJe, hq, hsz⟩, rfl⟩
              case measure =>
                have := HLt.out
                simp [intOf]
                omega
        · obtain rfl : k = nl := by omega
          have hJe : J PL S wy := by rw [← HPa.out, ← HNl.out]; exact hJs
          have HJe := Lib.hid hJe
          have HQe := Lib.hid ((HTQ.out _ _).1 hq)
          clear hJs hq hlt hk hJe hsz
          gi_wp2
          go_end0
          exact ⟨⟨_, rfl⟩, .inl ⟨PL, S, HPLe.out, HJe.out, HQe.out⟩⟩
end Go.Proofs.YtlkiigoblkfkpaaGreatDoor

/-
  A SET OF STRINGS THAT A CALL MAKES: map[string]struct{}. (Written by tools/genckmap.py.)
-/

namespace Go.Proofs.YtlkiigoblkfkpaaGreatDoor
open Go.RowKit
open Utf Term
open Go.MapKept (Stamped stamped_push stamped_modify IsKey)
set_option linter.unusedVariables false
set_option linter.unusedSimpArgs false

abbrev ucV (v : ByteArray) : Value := .agg #[]
def CkE (x : MapEntry) : Prop := ∃ s v, x.key = .string s ∧ x.val = ucV v
theorem ckSameStr (a b : ByteArray) : Instr.sameNow .string (.string a) (.string b) = some (decide (a = b)) := by
  simp only [Instr.sameNow, Option.some.injEq]
  rw [Bool.eq_iff_iff, decide_eq_true_eq, MapKept.bytes_beq]
theorem ckFindGe (a : ByteArray) : ∀ (l : List MapEntry) (i m : Nat) (v : Value), Instr.findNow .string (.string a) l i = some (some (m, v)) → i ≤ m
  | [], i, m, v, h => by simp [Instr.findNow] at h
  | x :: l, i, m, v, h => by
    unfold Instr.findNow at h
    split at h
    · simp only [Option.some.injEq, Prod.mk.injEq] at h; omega
    · have := ckFindGe a l (i + 1) m v h; omega
    · cases h
/-- What the entries tell of a key. -/
def CkTells (l : List MapEntry) (i : Nat) (a : ByteArray) (r : Option ByteArray) : Prop :=
  match r with
  | none => Instr.findNow .string (.string a) l i = some none
  | some v => ∃ j, Instr.findNow .string (.string a) l i = some (some (j, ucV v))
theorem ckTells_push (a c : ByteArray) (v : ByteArray) (n : Nat) : ∀ (l : List MapEntry) (i : Nat) (r : Option ByteArray), (∀ x ∈ l, CkE x) → Instr.findNow .string (.string a) l i = some none → CkTells l i c r →
    CkTells (l ++ [{ key := .string a, val := ucV v, born := n }]) i c (if a = c then some v else r)
  | [], i, r, _, _, h => by
    have hr : r = none := by
      cases r with
      | none => rfl
      | some u => obtain ⟨j, hj⟩ := h; simp [Instr.findNow] at hj
    subst hr
    by_cases hc : a = c
    · subst hc
      rw [if_pos rfl]
      refine ⟨i, ?_⟩
      simp only [List.nil_append, Instr.findNow, ckSameStr, decide_true]
    · rw [if_neg hc]
      unfold CkTells
      have : decide (c = a) = false := decide_eq_false (fun e => hc e.symm)
      simp only [List.nil_append, Instr.findNow, ckSameStr, this]
  | x :: l, i, r, hs, ha, h => by
    obtain ⟨s, u, hk, hv⟩ := hs x (by simp)
    have hsl : ∀ y ∈ l, CkE y := fun y hy => hs y (by simp [hy])
    rw [Instr.findNow, hk, ckSameStr] at ha
    have has : decide (a = s) = false := by
      cases hd : decide (a = s) with
      | false => rfl
      | true => rw [hd] at ha; simp at ha
    rw [has] at ha
    simp only at ha
    have hne : ¬ a = s := of_decide_eq_false has
    rw [List.cons_append]
    cases hcs : decide (c = s) with
    | true =>
      have e : c = s := of_decide_eq_true hcs
      rw [if_neg (fun q => hne (q.trans e))]
      cases r with
      | none =>
        unfold CkTells at h
        rw [Instr.findNow, hk, ckSameStr, hcs] at h
        simp at h
      | some w =>
        obtain ⟨j, hj⟩ := h
        rw [Instr.findNow, hk, ckSameStr, hcs] at hj
        refine ⟨j, ?_⟩
        rw [Instr.findNow, hk, ckSameStr, hcs]
        exact hj
    | false =>
      have h' : CkTells l (i + 1) c r := by
        cases r with
        | none =>
          unfold CkTells at h ⊢
          rw [Instr.findNow, hk, ckSameStr, hcs] at h
          exact h
        | some w =>
          obtain ⟨j, hj⟩ := h
          rw [Instr.findNow, hk, ckSameStr, hcs] at hj
          exact ⟨j, hj⟩
      have ih := ckTells_push a c v n l (i + 1) r hsl ha h'
      generalize (if a = c then some v else r) = r' at *
      cases r' with
      | none =>
        unfold CkTells at ih ⊢
        rw [Instr.findNow, hk, ckSameStr, hcs]
        exact ih
      | some w =>
        obtain ⟨j, hj⟩ := ih
        refine ⟨j, ?_⟩
        rw [Instr.findNow, hk, ckSameStr, hcs]
        exact hj
theorem ckTells_modify (a c v : ByteArray) : ∀ (l : List MapEntry) (i j : Nat) (u : Value) (r : Option ByteArray), (∀ x ∈ l, CkE x) → Instr.findNow .string (.string a) l i = some (some (i + j, u)) → CkTells l i c r →
    CkTells (l.modify j (fun x => { x with key := .string a, val := ucV v })) i c (if a = c then some v else r)
  | [], i, j, u, r, _, ha, _ => by simp [Instr.findNow] at ha
  | x :: l, i, j, u, r, hs, ha, h => by
    obtain ⟨s, w, hk, hv⟩ := hs x (by simp)
    have hsl : ∀ y ∈ l, CkE y := fun y hy => hs y (by simp [hy])
    rw [Instr.findNow, hk, ckSameStr] at ha
    cases has : decide (a = s) with
    | true =>
      have e : a = s := of_decide_eq_true has
      subst e
      rw [has] at ha
      simp only [Option.some.injEq, Prod.mk.injEq] at ha
      obtain rfl : j = 0 := by omega
      rw [List.modify_zero_cons]
      by_cases hc : a = c
      · subst hc
        rw [if_pos rfl]
        refine ⟨i, ?_⟩
        simp only [Instr.findNow, ckSameStr, decide_true]
      · rw [if_neg hc]
        have hcs : decide (c = a) = false := decide_eq_false (fun e => hc e.symm)
        cases r with
        | none =>
          unfold CkTells at h ⊢
          rw [Instr.findNow, hk, ckSameStr, hcs] at h
          simp only [Instr.findNow, ckSameStr, hcs]
          exact h
        | some w =>
          obtain ⟨j, hj⟩ := h
          rw [Instr.findNow, hk, ckSameStr, hcs] at hj
          refine ⟨j, ?_⟩
          simp only [Instr.findNow, ckSameStr, hcs]
          exact hj
    | false =>
      rw [has] at ha
      simp only at ha
      have hge := ckFindGe a l (i + 1) _ _ ha
      obtain ⟨j, rfl⟩ : ∃ k, j = k + 1 := ⟨j - 1, by omega⟩
      rw [List.modify_succ_cons]
      have hne : ¬ a = s := of_decide_eq_false has
      have ha' : Instr.findNow .string (.string a) l (i + 1) = some (some (i + 1 + j, u)) := by rw [ha, show i + 1 + j = i + (j + 1) by omega]
      cases hcs : decide (c = s) with
      | true =>
        have e : c = s := of_decide_eq_true hcs
        rw [if_neg (fun q => hne (q.trans e))]
        cases r with
        | none =>
          unfold CkTells at h
          rw [Instr.findNow, hk, ckSameStr, hcs] at h
          simp at h
        | some w =>
          obtain ⟨j', hj⟩ := h
          rw [Instr.findNow, hk, ckSameStr, hcs] at hj
          refine ⟨j', ?_⟩
          rw [Instr.findNow, hk, ckSameStr, hcs]
          exact hj
      | false =>
        have h' : CkTells l (i + 1) c r := by
          cases r with
          | none =>
            unfold CkTells at h ⊢
            rw [Instr.findNow, hk, ckSameStr, hcs] at h
            exact h
          | some w =>
            obtain ⟨j', hj⟩ := h
            rw [Instr.findNow, hk, ckSameStr, hcs] at hj
            exact ⟨j', hj⟩
        have ih := ckTells_modify a c v l (i + 1) j u r hsl ha' h'
        generalize (if a = c then some v else r) = r' at *
        cases r' with
        | none =>
          unfold CkTells at ih ⊢
          rw [Instr.findNow, hk, ckSameStr, hcs]
          exact ih
        | some w =>
          obtain ⟨j', hj⟩ := ih
          refine ⟨j', ?_⟩
          rw [Instr.findNow, hk, ckSameStr, hcs]
          exact hj

/-- A block is a map of strings that tells what P tells. -/
def CkSet (W : World) (b : Nat) (P : ByteArray → Option ByteArray) : Prop :=
  ∃ es clock, W.heap[b]? = some (.map es clock) ∧ (∀ x ∈ es.toList, CkE x) ∧ ∀ c, CkTells es.toList 0 c (P c)
theorem CkSet.keep {W U : World} {b : Nat} {P : ByteArray → Option ByteArray} (h : CkSet W b P) (k : Below W.heap.size W U) : CkSet U b P := by
  obtain ⟨es, clock, h1, h2, h3⟩ := h
  exact ⟨es, clock, by rw [k.block b (Array.getElem?_eq_some_iff.1 h1).1]; exact h1, h2, h3⟩
theorem CkSet.new (W : World) (n : Nat) : CkSet (W.alloc (.map #[] n)) W.heap.size (fun _ => none) :=
  ⟨#[], n, heap_alloc_new W _, by simp, fun c => by unfold CkTells; rfl⟩
theorem CkSet.update {W : World} {b : Nat} {P : ByteArray → Option ByteArray} (h : CkSet W b P) (a v : ByteArray) :
    ∃ ob, (∀ U : World, U.heap = W.heap → (Instr.mapUpdate 57 (.map (some b)) (.string a) (.agg #[])).run Tryz.prog U = .ok () { U with heap := U.heap.setIfInBounds b ob }) ∧ (∀ U : World, U.heap[b]? = some ob → CkSet U b (fun c => if a = c then some v else P c)) ∧ b < W.heap.size := by
  obtain ⟨es, clock, h1, h2, h3⟩ := h
  have hlt := (Array.getElem?_eq_some_iff.1 h1).1
  have h1n : ∀ U : World, U.heap = W.heap → U.heap[b]? = some (.map es clock) := fun U hU => by rw [hU]; exact h1
  have hk : IsKey .string (.string a) := by simp [IsKey]
  have hc : ∀ (U : World) em, (Instr.checkKey em 10000 9 (.string a)).run Tryz.prog U = .ok () U := fun U em => MapKept.run_checkKey Tryz.underlying9 hk em 9999
  have ha := h3 a
  cases hp : P a with
  | none =>
    rw [hp] at ha
    refine ⟨.map (es.push { key := .string a, val := ucV v, born := clock }) (clock + 1), fun U hE => ?_, fun U hU => ⟨_, _, hU, ?_, fun c => ?_⟩, hlt⟩
    · simp [Instr.mapUpdate, run_underlying Tryz.underlying57, MapKept.run_getObj_map (h1n U hE), hc, MapKept.run_findKey Tryz.underlying9 ha, MapKept.run_setObj_map _ (h1n U hE), Result.andThen]
    · intro x hx
      simp only [Array.toList_push, List.mem_append, List.mem_singleton] at hx
      rcases hx with hx | rfl
      · exact h2 x hx
      · exact ⟨a, v, rfl, rfl⟩
    · rw [Array.toList_push]
      exact ckTells_push a c v clock es.toList 0 (P c) h2 ha (h3 c)
  | some u =>
    rw [hp] at ha
    obtain ⟨j, hj⟩ := ha
    obtain ⟨e, he, hek⟩ : ∃ e, es[j]? = some e ∧ e.key = .string a := by
      rcases MapKept.findNow_spec (d := .string) hk es.toList 0 (fun x hx => by obtain ⟨s, w, hk, _⟩ := h2 x hx; rw [hk]; simp [IsKey]) with ⟨h, _⟩ | ⟨j', e, h, he, hk'⟩
      · rw [hj] at h; cases h
      · rw [hj] at h
        simp only [Option.some.injEq, Prod.mk.injEq] at h
        exact ⟨e, by rw [h.1, Nat.zero_add]; simpa using he, hk'⟩
    refine ⟨.map (es.modify j (fun x => { x with key := .string a, val := ucV v })) clock, fun U hE => ?_, fun U hU => ⟨_, _, hU, ?_, fun c => ?_⟩, hlt⟩
    · simp [Instr.mapUpdate, run_underlying Tryz.underlying57, MapKept.run_getObj_map (h1n U hE), hc, MapKept.run_findKey Tryz.underlying9 hj, he, hek, MapKept.run_keyThatStays hk, MapKept.run_setObj_map _ (h1n U hE), Result.andThen]
    · intro x hx
      rw [Array.toList_modify] at hx
      obtain ⟨i, hi⟩ := List.getElem?_of_mem hx
      rw [List.getElem?_modify] at hi
      cases hei : es.toList[i]? with
      | none => rw [hei] at hi; simp at hi
      | some y =>
        rw [hei] at hi
        simp only [Option.map_eq_map, Option.map_some, Option.some.injEq] at hi
        split at hi
        · subst hi; exact ⟨a, v, rfl, rfl⟩
        · subst hi; exact h2 _ (List.mem_of_getElem? hei)
    · rw [Array.toList_modify]
      exact ckTells_modify a c v es.toList 0 j _ (P c) h2 (by rw [hj, Nat.zero_add]) (h3 c)
theorem CkSet.tells {W : World} {b : Nat} {P : ByteArray → Option ByteArray} (h : CkSet W b P) (a : ByteArray) : (Instr.lookup 57 (.map (some b)) (.string a) true).run Tryz.prog W = .ok (.tuple #[.agg #[], .bool (P a).isSome]) W := by
  obtain ⟨es, clock, h1, h2, h3⟩ := h
  have hc : ∀ em, (Instr.checkKey em 10000 9 (.string a)).run Tryz.prog W = .ok () W := fun em => MapKept.run_checkKey Tryz.underlying9 (by simp [IsKey]) em 9999
  have hz : (zeroValue 63).run Tryz.prog W = .ok (.agg #[]) W := by kernel_rfl
  have ha := h3 a
  cases hp : P a with
  | none =>
    rw [hp] at ha
    simp [Instr.lookup, run_underlying Tryz.underlying57, MapKept.run_getObj_map h1, hc, MapKept.run_findKey Tryz.underlying9 ha, hz, Result.andThen]
  | some u =>
    rw [hp] at ha
    obtain ⟨j, hj⟩ := ha
    simp [Instr.lookup, run_underlying Tryz.underlying57, MapKept.run_getObj_map h1, hc, MapKept.run_findKey Tryz.underlying9 hj, Result.andThen]
/-- The set has the names of L. -/
def CkHas (W : World) (b : Nat) (L : List ByteArray) : Prop := ∃ P, CkSet W b P ∧ ∀ c, (P c).isSome = memB c L
theorem CkHas.keep {W U : World} {b : Nat} {L : List ByteArray} (h : CkHas W b L) (k : U.heap[b]? = W.heap[b]?) : CkHas U b L := by
  obtain ⟨P, ⟨es, clock, h1, h2, h3⟩, hp⟩ := h
  exact ⟨P, ⟨es, clock, by rw [k]; exact h1, h2, h3⟩, hp⟩
theorem CkHas.lt {W : World} {b : Nat} {L : List ByteArray} (h : CkHas W b L) : b < W.heap.size := by
  obtain ⟨P, ⟨es, clock, h1, h2, h3⟩, hp⟩ := h
  exact (Array.getElem?_eq_some_iff.1 h1).1
theorem CkHas.new (W : World) (n : Nat) : CkHas (W.alloc (.map #[] n)) W.heap.size [] := ⟨_, CkSet.new W n, fun c => rfl⟩
theorem CkHas.look {W : World} {b : Nat} {L : List ByteArray} (h : CkHas W b L) (a : ByteArray) : (Instr.lookup 57 (.map (some b)) (.string a) true).run Tryz.prog W = .ok (.tuple #[.agg #[], .bool (memB a L)]) W := by
  obtain ⟨P, h1, h2⟩ := h
  rw [← h2 a]
  exact h1.tells a
theorem CkHas.put {W : World} {b : Nat} {L : List ByteArray} (h : CkHas W b L) (a : ByteArray) : ∃ ob, (Instr.mapUpdate 57 (.map (some b)) (.string a) (.agg #[])).run Tryz.prog W = .ok () { W with heap := W.heap.setIfInBounds b ob } ∧ CkHas { W with heap := W.heap.setIfInBounds b ob } b (L ++ [a]) := by
  obtain ⟨P, h1, h2⟩ := h
  obtain ⟨ob, g1, g2, g3⟩ := h1.update a a
  refine ⟨ob, g1 W rfl, _, g2 _ (by simp [g3]), fun c => ?_⟩
  by_cases hc : a = c
  · subst hc
    rw [if_pos rfl]
    exact (memB_iff.2 (by simp)).symm
  · rw [if_neg hc, h2 c]
    rw [Bool.eq_iff_iff, memB_iff, memB_iff]
    simp only [List.mem_append, List.mem_singleton]
    constructor
    · exact .inl
    · rintro (h | h)
      · exact h
      · exact absurd h.symm hc
end Go.Proofs.YtlkiigoblkfkpaaGreatDoor

