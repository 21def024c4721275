/-
  CONTRACTS OF table's Find, Get, Set, Clear.
-/
import Derived.Test.YtnmimagcmmdolaaTbPut
import Derived.Laws.ResultCell
namespace Go.Proofs.Ytnmimagcmmdolaa
open Go.RowKit
set_option linter.unusedVariables false
set_option linter.unusedSimpArgs false

theorem u8_of_nat (n : Nat) : 0 ≤ IntKind.u8.wrap (n : Int) ∧ IntKind.u8.wrap (n : Int) < 256 := by
  simp only [IntKind.wrap, IntKind.bits, IntKind.signed]
  constructor <;> simp <;> omega
theorem bits_u8 (op : BinOp) (a b : Int) (h : op = .or ∨ op = .and ∨ op = .andNot) : 0 ≤ bits op .u8 a b ∧ bits op .u8 a b < 256 := by
  rcases h with rfl | rfl | rfl
  all_goals
    unfold bits
    exact u8_of_nat _
def orB (a b : Nat) : Nat := (bits .or .u8 (a : Int) (b : Int)).toNat
def andNotB (a b : Nat) : Nat := (bits .andNot .u8 (a : Int) (b : Int)).toNat
def andB (a b : Nat) : Nat := (bits .and .u8 (a : Int) (b : Int)).toNat
theorem orB_of {a b : Nat} (ha : a < 256) (hb : b < 256) : bits .or .u8 (a : Int) (b : Int) = (orB a b : Int) ∧ orB a b < 256 := by
  have := bits_u8 .or (a : Int) (b : Int) (.inl rfl)
  unfold orB
  omega
theorem andNotB_of {a b : Nat} (ha : a < 256) (hb : b < 256) : bits .andNot .u8 (a : Int) (b : Int) = (andNotB a b : Int) ∧ andNotB a b < 256 := by
  have := bits_u8 .andNot (a : Int) (b : Int) (.inr (.inr rfl))
  unfold andNotB
  omega
theorem andB_of {a b : Nat} (ha : a < 256) (hb : b < 256) : bits .and .u8 (a : Int) (b : Int) = (andB a b : Int) ∧ andB a b < 256 := by
  have := bits_u8 .and (a : Int) (b : Int) (.inr (.inl rfl))
  unfold andB
  omega

section
variable {w : World} {Gz : GzT} {S : Nat → Prop} {tb : Nat} {R : List EntN} {num : RowN → Option Nat} {pats : List RowN} {Ls : List LsD} {live d0 d1 d2 : Int} {ra : Option Addr} {rc nb pb : Nat} {la : Option Addr} {lc : Nat}
/-- What a look-up of a row tells. -/
def findV (o : Option Nat) : Array Value :=
  match o with
  | some n => #[.int .i64 (n : Int), .bool true]
  | none => #[.int .i64 (-1), .bool false]
set_option maxRecDepth 100000 in
set_option maxHeartbeats 4000000 in
theorem tbFind_any (h : TabM Gz w S tb R num pats Ls live d0 d1 d2 ra rc nb pb la lc) (r : RowN) (hr : okN r) :
    Calls Try.prog 23 #[tabP tb, rowV r] w fun e w' => e = .returned (.tuple (findV (num r))) ∧ Below w.heap.size w w' := by
  obtain ⟨n0, hn0⟩ : ∃ n0, n0 = w.heap.size := ⟨_, rfl⟩
  have hc0 := heap_alloc_new w (.cells (rowC r) 34)
  have hb0 := (Below.refl w.heap.size w).alloc (Nat.le_refl _) (.cells (rowC r) 34)
  obtain ⟨W0, hW0⟩ : ∃ W0, W0 = w.alloc (.cells (rowC r) 34) := ⟨_, rfl⟩
  rw [← hW0] at hc0 hb0
  rw [← hn0] at hc0
  have h0 := h.below hb0
  have HNo := Lib.hid (tbNone_any h0)
  have p1 : W0.cell? ⟨tb, 1, none⟩ = some (.map (some nb)) := cell_in h0.blk rfl
  have c0 : W0.cell? ⟨n0, 0, none⟩ = some (.int .u32 (r.1 : Int)) := cell_in hc0 rfl
  have c1 : W0.cell? ⟨n0, 1, none⟩ = some (.int .u32 (r.2.1 : Int)) := cell_in hc0 rfl
  have c2 : W0.cell? ⟨n0, 2, none⟩ = some (.int .u32 (r.2.2 : Int)) := cell_in hc0 rfl
  have hlu : (Instr.lookup 56 (.map (some nb)) (rowV r) true).run Try.prog W0.drew = .ok (.tuple #[.int .i64 (((num r).getD 0 : Nat) : Int), .bool (num r).isSome]) W0.drew := (h0.below (Below.refl _ _).drew).nums.look hr
  have HW0 := Lib.hid hW0
  have HN0 := Lib.hid hn0
  have HB := Lib.hid hb0
  clear h h0 hc0 hb0 hW0 hn0
  have hsd : W0.drew = W0.drew := rfl
  cases hnum : num r with
  | none =>
    rw [hnum] at hlu
    simp only [Option.getD_none, Option.isSome_none] at hlu
    go_enter Try.func23, Try.ntmps23
    go_upto_region 1 with fail
    rw [← HW0.out, ← HN0.out]
    go_upto_region 2 with (go_at_call 29; refine HNo.out.mono ?_; rintro e w' ⟨rfl, rfl⟩)
    go_region_held3 (fun W' => W' = W0.drew) ((first | assumption | rfl)) (fail)
    go_wp2
    go_ret2
    exact ⟨rfl, HB.out.drew⟩
  | some n =>
    rw [hnum] at hlu
    simp only [Option.getD_some, Option.isSome_some] at hlu
    go_enter Try.func23, Try.ntmps23
    go_upto_region 1 with fail
    rw [← HW0.out, ← HN0.out]
    go_upto_region 2 with (go_at_call 29; refine HNo.out.mono ?_; rintro e w' ⟨rfl, rfl⟩)
    go_region_held3 (fun W' => W' = W0.drew) ((first | assumption | rfl)) (fail)
    go_wp2
    go_ret2
    exact ⟨rfl, HB.out.drew⟩

theorem results_row_tmp {fn : Func} {p u : Tmp} {ty : TypeId} (h : fn.results = #[.cell p ty, .tmp u]) (tmps : Array Value) (P : Program) (w : World) (g : Nat) (t : TypeId) (cs : Array Value) (fr : Nat × Nat) (n : Nat) (e : TypeId)
    (hp : tmps.getD p undef = .pointer (some ⟨g, 0, none⟩)) (hg : w.heap[g]? = some (.cells cs t fr))
    (hu : P.underlying ty = some (.array n e)) (hi : (P.info? ty).map (·.size) = some cs.size) :
    (results fn tmps).run P w = .ok (.tuple #[.agg cs, tmps.getD u undef]) w := by
  rw [results_cell_tmp h, hp]
  simp [asAddr, run_loadVar_row w g t ty cs fr (.array n e) hg hu rfl hi, Result.andThen]
abbrev zRow : Array Value := #[.int .u32 0, .int .u32 0, .int .u32 0]
/-- The row of a number, and its bits. -/
def getE (R : List EntN) (n : Int) : EntN := if 0 ≤ n then R.getD n.toNat ((0, 0, 0), 0) else ((0, 0, 0), 0)
set_option maxRecDepth 100000 in
set_option maxHeartbeats 4000000 in
theorem tbSet_any (h : TabM Gz w S tb R num pats Ls live d0 d1 d2 ra rc nb pb la lc) (n : Int) (b : Nat) (hb : b < 256) (hin : ∀ x ∈ R, ∀ i, i < 6 → lookN x.1 i ∈ pats) (hl : -1000000000000 ≤ live ∧ live ≤ 1000000000000) (hn : Near 1000000000000 ⟨Ls, d0, d1, d2⟩) :
    Calls Try.prog 21 #[tabP tb, .int .i64 n, .int .u8 (b : Int)] w fun e w' => e = .returned (.tuple #[]) ∧ Turned S w w' ∧
      ((¬ (0 ≤ n ∧ n < (R.length : Int)) ∧ TabM Gz w' S tb R num pats Ls live d0 d1 d2 ra rc nb pb la lc) ∨ ∃ k x, n = ((k : Nat) : Int) ∧ R[k]? = some x ∧
        TabM Gz w' S tb (R.set k (x.1, orB x.2 b)) num pats (putC pats x (orB x.2 b) ⟨Ls, d0, d1, d2⟩).ls (putL x (orB x.2 b) live) (putC pats x (orB x.2 b) ⟨Ls, d0, d1, d2⟩).e0 (putC pats x (orB x.2 b) ⟨Ls, d0, d1, d2⟩).e1 (putC pats x (orB x.2 b) ⟨Ls, d0, d1, d2⟩).e2 ra rc nb pb la lc) := by
  have HH := Lib.hid (tbHas_any h n)
  by_cases hv : 0 ≤ n ∧ n < (R.length : Int)
  · obtain ⟨k, rfl⟩ : ∃ k : Nat, n = (k : Int) := ⟨n.toNat, by omega⟩
    obtain ⟨x, hx⟩ : ∃ x, R[k]? = some x := ⟨_, List.getElem?_eq_getElem (by omega)⟩
    have hm := List.mem_of_getElem? hx
    obtain ⟨ho, hob⟩ := orB_of (h.okR x hm).2 hb
    have hP := tbPut_any h k x hx (orB x.2 b) hob (hin x hm) hl hn
    rw [decide_eq_true hv] at HH
    obtain ⟨g, o, hra, hcs, _⟩ := h.ptrR (by omega)
    obtain ⟨_, _, _, a3⟩ := hcs k x hx
    have c0 : w.cell? ⟨tb, 0, none⟩ = some (.slice ra R.length rc) := cell_in h.blk rfl
    rw [hra] at c0
    have i0 : (0 : Int) ≤ (k : Int) := by omega
    have i1 : (k : Int) < (R.length : Int) := hv.2
    have HP := Lib.hid hP
    have HX := Lib.hid hx
    clear h hP hx hra hcs hin hl hn hm hv
    go_enter Try.func21, Try.ntmps21
    go_wp2_with (first
      | (go_at_call 36; refine HH.out.mono ?_; rintro e w' ⟨rfl, rfl⟩)
      | (go_at_call 33; (try rw [ho]); refine HP.out.mono ?_; rintro e w' ⟨rfl, hT, hM⟩))
    refine bodyPost_end (results_none rfl _ _ _) rfl ?_
    exact ⟨rfl, hT, .inr ⟨k, x, rfl, HX.out, hM⟩⟩
  · rw [decide_eq_false hv] at HH
    have HM := Lib.hid h
    clear h hin hl hn
    go_enter Try.func21, Try.ntmps21
    go_wp2_with (go_at_call 36; refine HH.out.mono ?_; rintro e w' ⟨rfl, rfl⟩)
    refine bodyPost_end (results_none rfl _ _ _) rfl ?_
    exact ⟨rfl, Turned.refl, .inl ⟨hv, HM.out⟩⟩
set_option maxRecDepth 100000 in
set_option maxHeartbeats 4000000 in
theorem tbClear_any (h : TabM Gz w S tb R num pats Ls live d0 d1 d2 ra rc nb pb la lc) (n : Int) (b : Nat) (hb : b < 256) (hin : ∀ x ∈ R, ∀ i, i < 6 → lookN x.1 i ∈ pats) (hl : -1000000000000 ≤ live ∧ live ≤ 1000000000000) (hn : Near 1000000000000 ⟨Ls, d0, d1, d2⟩) :
    Calls Try.prog 18 #[tabP tb, .int .i64 n, .int .u8 (b : Int)] w fun e w' => e = .returned (.tuple #[]) ∧ Turned S w w' ∧
      ((¬ (0 ≤ n ∧ n < (R.length : Int)) ∧ TabM Gz w' S tb R num pats Ls live d0 d1 d2 ra rc nb pb la lc) ∨ ∃ k x, n = ((k : Nat) : Int) ∧ R[k]? = some x ∧
        TabM Gz w' S tb (R.set k (x.1, andNotB x.2 b)) num pats (putC pats x (andNotB x.2 b) ⟨Ls, d0, d1, d2⟩).ls (putL x (andNotB x.2 b) live) (putC pats x (andNotB x.2 b) ⟨Ls, d0, d1, d2⟩).e0 (putC pats x (andNotB x.2 b) ⟨Ls, d0, d1, d2⟩).e1 (putC pats x (andNotB x.2 b) ⟨Ls, d0, d1, d2⟩).e2 ra rc nb pb la lc) := by
  have HH := Lib.hid (tbHas_any h n)
  by_cases hv : 0 ≤ n ∧ n < (R.length : Int)
  · obtain ⟨k, rfl⟩ : ∃ k : Nat, n = (k : Int) := ⟨n.toNat, by omega⟩
    obtain ⟨x, hx⟩ : ∃ x, R[k]? = some x := ⟨_, List.getElem?_eq_getElem (by omega)⟩
    have hm := List.mem_of_getElem? hx
    obtain ⟨ho, hob⟩ := andNotB_of (h.okR x hm).2 hb
    have hP := tbPut_any h k x hx (andNotB x.2 b) hob (hin x hm) hl hn
    rw [decide_eq_true hv] at HH
    obtain ⟨g, o, hra, hcs, _⟩ := h.ptrR (by omega)
    obtain ⟨_, _, _, a3⟩ := hcs k x hx
    have c0 : w.cell? ⟨tb, 0, none⟩ = some (.slice ra R.length rc) := cell_in h.blk rfl
    rw [hra] at c0
    have i0 : (0 : Int) ≤ (k : Int) := by omega
    have i1 : (k : Int) < (R.length : Int) := hv.2
    have HP := Lib.hid hP
    have HX := Lib.hid hx
    clear h hP hx hra hcs hin hl hn hm hv
    go_enter Try.func18, Try.ntmps18
    go_wp2_with (first
      | (go_at_call 36; refine HH.out.mono ?_; rintro e w' ⟨rfl, rfl⟩)
      | (go_at_call 33; (try rw [ho]); refine HP.out.mono ?_; rintro e w' ⟨rfl, hT, hM⟩))
    refine bodyPost_end (results_none rfl _ _ _) rfl ?_
    exact ⟨rfl, hT, .inr ⟨k, x, rfl, HX.out, hM⟩⟩
  · rw [decide_eq_false hv] at HH
    have HM := Lib.hid h
    clear h hin hl hn
    go_enter Try.func18, Try.ntmps18
    go_wp2_with (go_at_call 36; refine HH.out.mono ?_; rintro e w' ⟨rfl, rfl⟩)
    refine bodyPost_end (results_none rfl _ _ _) rfl ?_
    exact ⟨rfl, Turned.refl, .inl ⟨hv, HM.out⟩⟩

set_option maxRecDepth 100000 in
set_option maxHeartbeats 4000000 in
theorem tbGet_any (h : TabM Gz w S tb R num pats Ls live d0 d1 d2 ra rc nb pb la lc) (n : Int) :
    Calls Try.prog 25 #[tabP tb, .int .i64 n] w fun e w' => e = .returned (.tuple #[rowV (getE R n).1, .int .u8 ((getE R n).2 : Int)]) ∧ Below w.heap.size w w' := by
  obtain ⟨n0, hn0⟩ : ∃ n0, n0 = w.heap.size := ⟨_, rfl⟩
  have hc0 := heap_alloc_new w (.cells zRow 34)
  have hb0 := (Below.refl w.heap.size w).alloc (Nat.le_refl _) (.cells zRow 34)
  obtain ⟨W0, hW0⟩ : ∃ W0, W0 = w.alloc (.cells zRow 34) := ⟨_, rfl⟩
  rw [← hW0] at hc0 hb0
  rw [← hn0] at hc0
  have h0 := h.below hb0
  have HH := Lib.hid (tbHas_any h0 n)
  have z0 : W0.cell? ⟨n0, 0, none⟩ = some (.int .u32 0) := cell_in hc0 rfl
  have z1 : W0.cell? ⟨n0, 1, none⟩ = some (.int .u32 0) := cell_in hc0 rfl
  have z2 : W0.cell? ⟨n0, 2, none⟩ = some (.int .u32 0) := cell_in hc0 rfl
  have zf : ∀ i, W0.frozen? ⟨n0, i, none⟩ = false := fun i => free_in hc0 i
  have HW0 := Lib.hid hW0
  have HN0 := Lib.hid hn0
  have HC0 := Lib.hid hc0
  have HB := Lib.hid hb0
  have HEnd : Hid (∀ (W' : World) (a b c : Nat), W'.heap[n0]? = some (.cells #[.int .u32 0, .int .u32 0, .int .u32 0] 34 (0, 0)) → Below w.heap.size w W' → (((W'.setCell ⟨n0, 0, none⟩ (.int .u32 (a : Int))).setCell ⟨n0, 1, none⟩ (.int .u32 (b : Int))).setCell ⟨n0, 2, none⟩ (.int .u32 (c : Int))).heap[n0]? = some (.cells (rowC (a, b, c)) 34 (0, 0)) ∧ Below w.heap.size w (((W'.setCell ⟨n0, 0, none⟩ (.int .u32 (a : Int))).setCell ⟨n0, 1, none⟩ (.int .u32 (b : Int))).setCell ⟨n0, 2, none⟩ (.int .u32 (c : Int)))) :=
    Lib.hid (fun W' a b c hc hB => ⟨heap_setCell_same _ n0 2 _ _ _ (heap_setCell_same _ n0 1 _ _ _ (heap_setCell_same _ n0 0 _ _ _ hc)), ((hB.setCell (p := ⟨n0, 0, none⟩) (by show _ ≤ n0; omega) _).setCell (p := ⟨n0, 1, none⟩) (by show _ ≤ n0; omega) _).setCell (p := ⟨n0, 2, none⟩) (by show _ ≤ n0; omega) _⟩)
  by_cases hv : 0 ≤ n ∧ n < (R.length : Int)
  · obtain ⟨k, rfl⟩ : ∃ k : Nat, n = (k : Int) := ⟨n.toNat, by omega⟩
    obtain ⟨x, hx⟩ : ∃ x, R[k]? = some x := ⟨_, List.getElem?_eq_getElem (by omega)⟩
    have hg : getE R (k : Int) = x := by
      unfold getE
      rw [if_pos (by omega), Int.toNat_natCast, List.getD_eq_getElem?_getD, hx]
      rfl
    rw [hg]
    rw [decide_eq_true hv] at HH
    obtain ⟨g, o, hra, hcs, _⟩ := h0.ptrR (by omega)
    obtain ⟨a0, a1, a2, a3⟩ := hcs k x hx
    have c0 : W0.cell? ⟨tb, 0, none⟩ = some (.slice ra R.length rc) := cell_in h0.blk rfl
    have hgn : g ≠ n0 := by
      have h1 := (h.rows.lt (a := ⟨g, o, none⟩) hra)
      rw [hn0]
      exact Nat.ne_of_lt h1
    have htn : tb ≠ n0 := by
      have h1 := h.lt tb h.sT
      omega
    rw [hra] at c0
    have i0 : (0 : Int) ≤ (k : Int) := by omega
    have i1 : (k : Int) < (R.length : Int) := hv.2
    obtain ⟨⟨x0, x1, x2⟩, xb⟩ := x
    have HEn := Lib.hid (HEnd.out W0.drew x0 x1 x2 HC0.out HB.out.drew)
    clear h h0 hx hra hcs hv hc0 hb0 hW0 hn0 hg
    go_enter Try.func25, Try.ntmps25
    go_upto_region 1 with fail
    rw [← HW0.out, ← HN0.out]
    go_upto_region 3 with (go_at_call 36; refine HH.out.mono ?_; rintro e w' ⟨rfl, rfl⟩)
    have hgn' : n0 ≠ g := fun e => hgn e.symm
    have htn' : n0 ≠ tb := fun e => htn e.symm
    go_region_held3 (fun W' => W'.cell? ⟨tb, 0, none⟩ = some (.slice (some ⟨g, o, none⟩) R.length rc) ∧ W'.cell? ⟨g, o + k * 4, none⟩ = some (.int .u32 (x0 : Int)) ∧ W'.cell? ⟨g, o + k * 4 + 1, none⟩ = some (.int .u32 (x1 : Int)) ∧ W'.cell? ⟨g, o + k * 4 + 2, none⟩ = some (.int .u32 (x2 : Int)) ∧ W'.cell? ⟨g, o + k * 4 + 3, none⟩ = some (.int .u8 (xb : Int))) ((first | assumption | go_keep)) (fail)
    go_wp2
    refine bodyPost_ret (results_row_tmp rfl _ _ _ n0 34 (rowC (x0, x1, x2)) (0, 0) _ _ rfl HEn.out.1 Try.underlying34 (by kernel_rfl)) rfl ?_
    exact ⟨rfl, HEn.out.2⟩
  · have hg : getE R n = ((0, 0, 0), 0) := by
      unfold getE
      split
      · rw [List.getD_eq_getElem?_getD, List.getElem?_eq_none (by omega)]
        rfl
      · rfl
    rw [hg]
    rw [decide_eq_false hv] at HH
    have HEn := Lib.hid (HEnd.out W0 0 0 0 HC0.out HB.out)
    clear h h0 hc0 hb0 hW0 hn0 hg
    go_enter Try.func25, Try.ntmps25
    go_upto_region 1 with fail
    rw [← HW0.out, ← HN0.out]
    go_wp2_with (go_at_call 36; refine HH.out.mono ?_; rintro e w' ⟨rfl, rfl⟩)
    refine bodyPost_ret (results_row_tmp rfl _ _ _ n0 34 (rowC (0, 0, 0)) (0, 0) _ _ rfl HEn.out.1 Try.underlying34 (by kernel_rfl)) rfl ?_
    exact ⟨rfl, HEn.out.2⟩
end
end Go.Proofs.Ytnmimagcmmdolaa
