/-
  WHAT THE PROOF STANDS ON, a part of it: RSortLaid, CkSort, CkTwice.
-/
import Derived.Shelf.SlSortCmp.WholeK
import Derived.Shelf.SlSortCmp.NoneTotal
import Derived.Test.YtlkiigoblkfkpaaGreatDoorProg
import Derived.Test.YtlkiigoblkfkpaaGreatDoorC32
import Derived.Sort.Grow
import Derived.Deep.Draws
import Derived.Test.YtlkiigoblkfkpaaGreatDoorC29
/-
  slices.SortFunc, laid at this program's rules.
-/

namespace Go.Proofs
open Go.Shelf
open Go.RowKit
def Tryz.sortR_ren : Go.Shelf.Ren := ⟨fun | 6 => 39 | 15 => 51 | 14 => 50 | 28 => 67 | 29 => 68 | 20 => 59 | 21 => 60 | 22 => 61 | 23 => 62 | 24 => 63 | 25 => 64 | 26 => 65 | 27 => 66 | 46 => 75 | 47 => 76 | 48 => 77 | 49 => 78 | 50 => 79 | 57 => 97 | n => n, fun | 22 => 22 | 24 => 46 | 25 => 69 | 3 => 3 | 39 => 89 | 0 => 0 | 53 => 105 | 55 => 107 | 4 => 4 | 46 => 98 | 45 => 97 | 50 => 102 | 5 => 5 | 9 => 9 | 66 => 116 | 70 => 120 | 76 => 125 | 77 => 126 | n => n, fun | n => n⟩
theorem Tryz.sortR : Go.Proofs.SlLaysF0.n6 Tryz.prog Tryz.sortR_ren := {
  mixed := by kernel_rfl
  f6 := ⟨Tryz.f39.name, by decide, Tryz.func39.trans (congrArg some (by kernel_rfl))⟩
  f14 := ⟨Tryz.f50.name, by decide, Tryz.func50.trans (congrArg some (by kernel_rfl))⟩
  f15 := Tryz.func51.trans (congrArg some (by kernel_rfl))
  f20 := ⟨Tryz.f59.name, by decide, Tryz.func59.trans (congrArg some (by kernel_rfl))⟩
  f21 := ⟨Tryz.f60.name, by decide, Tryz.func60.trans (congrArg some (by kernel_rfl))⟩
  f22 := ⟨Tryz.f61.name, by decide, Tryz.func61.trans (congrArg some (by kernel_rfl))⟩
  f23 := ⟨Tryz.f62.name, by decide, Tryz.func62.trans (congrArg some (by kernel_rfl))⟩
  f24 := ⟨Tryz.f63.name, by decide, Tryz.func63.trans (congrArg some (by kernel_rfl))⟩
  f25 := ⟨Tryz.f64.name, by decide, Tryz.func64.trans (congrArg some (by kernel_rfl))⟩
  f26 := ⟨Tryz.f65.name, by decide, Tryz.func65.trans (congrArg some (by kernel_rfl))⟩
  f27 := ⟨Tryz.f66.name, by decide, Tryz.func66.trans (congrArg some (by kernel_rfl))⟩
  f28 := Tryz.func67.trans (congrArg some (by kernel_rfl))
  f29 := Tryz.func68.trans (congrArg some (by kernel_rfl))
  f46 := ⟨Tryz.f75.name, by decide, Tryz.func75.trans (congrArg some (by kernel_rfl))⟩
  f47 := Tryz.func76.trans (congrArg some (by kernel_rfl))
  f48 := Tryz.func77.trans (congrArg some (by kernel_rfl))
  f49 := ⟨Tryz.f78.name, by decide, Tryz.func78.trans (congrArg some (by kernel_rfl))⟩
  f50 := ⟨Tryz.f79.name, by decide, Tryz.func79.trans (congrArg some (by kernel_rfl))⟩
  f57 := ⟨Tryz.f97.name, by decide, Tryz.func97.trans (congrArg some (by kernel_rfl))⟩
  t0 := Tryz.underlying0
  a0 := Tryz.isAgg0
  z0 := Tryz.sizeOf0
  v0 := Tryz.zeroValue0
  t3 := Tryz.underlying3
  a3 := Tryz.isAgg3
  z3 := Tryz.sizeOf3
  v3 := Tryz.zeroValue3
  t4 := Tryz.underlying4
  a4 := Tryz.isAgg4
  z4 := Tryz.sizeOf4
  v4 := Tryz.zeroValue4
  t5 := Tryz.underlying5
  a5 := Tryz.isAgg5
  z5 := Tryz.sizeOf5
  v5 := Tryz.zeroValue5
  t9 := Tryz.underlying9
  a9 := Tryz.isAgg9
  z9 := Tryz.sizeOf9
  v9 := Tryz.zeroValue9
  t22 := Tryz.underlying22
  a22 := Tryz.isAgg22
  z22 := Tryz.sizeOf22
  v22 := Tryz.zeroValue22
  t25 := Tryz.underlying69
  a25 := Tryz.isAgg69
  z25 := Tryz.sizeOf69
  v25 := Tryz.zeroValue69
  t39 := Tryz.underlying89
  a39 := Tryz.isAgg89
  z39 := Tryz.sizeOf89
  v39 := Tryz.zeroValue89
  t45 := Tryz.underlying97
  a45 := Tryz.isAgg97
  z45 := Tryz.sizeOf97
  v45 := Tryz.zeroValue97
  t46 := Tryz.underlying98
  a46 := Tryz.isAgg98
  z46 := Tryz.sizeOf98
  v46 := Tryz.zeroValue98
  t50 := Tryz.underlying102
  a50 := Tryz.isAgg102
  z50 := Tryz.sizeOf102
  v50 := Tryz.zeroValue102
  t53 := Tryz.underlying105
  a53 := Tryz.isAgg105
  z53 := Tryz.sizeOf105
  v53 := Tryz.zeroValue105
  t55 := Tryz.underlying107
  a55 := Tryz.isAgg107
  z55 := Tryz.sizeOf107
  v55 := Tryz.zeroValue107
  t66 := Tryz.underlying116
  a66 := Tryz.isAgg116
  z66 := Tryz.sizeOf116
  v66 := Tryz.zeroValue116
  t70 := Tryz.underlying120
  a70 := Tryz.isAgg120
  z70 := Tryz.sizeOf120
  v70 := Tryz.zeroValue120
  t76 := Tryz.underlying125
  a76 := Tryz.isAgg125
  z76 := Tryz.sizeOf125
  v76 := Tryz.zeroValue125
  t77 := Tryz.underlying126
  a77 := Tryz.isAgg126
  z77 := Tryz.sizeOf126
  v77 := Tryz.zeroValue126 }
end Go.Proofs

/-
  CONTRACTS OF slices.SortFunc, slices.SortedFunc AT RULES, by compare.
-/

namespace Go.Proofs.YtlkiigoblkfkpaaGreatDoor
open Go.RowKit
open Utf Term
set_option linter.unusedVariables false
set_option linter.unusedSimpArgs false

/-- A rule's value, and its body's parts, as they lie at a world. -/
abbrev RxD (w0 : World) : Type := {x : RvD × List LitD // BodyS w0 (slV x.1.2) x.2 ∧ x.2.length ≤ 1000000000}
instance (w0 : World) : Inhabited (RxD w0) := ⟨⟨((zPa, (none, 0, 0)), []), .inl ⟨⟨none, 0, rfl⟩, rfl⟩, Nat.zero_le _⟩⟩
abbrev encX {w0 : World} (x : RxD w0) : List Value := (ruleC x.1.1.1 (slV x.1.1.2)).toList
def rulX {w0 : World} (x : RxD w0) : RuleD := (x.1.1.1, x.1.2)
def cfX {w0 : World} (x y : RxD w0) : Int := cmpRu (rulX x) (rulX y)
section
variable {w0 w : World} {e : TypeId} {B g o cap n : Nat} {ds es : List (RxD w0)}
theorem encX_len (x : RxD w0) : (encX x).length = 13 := rfl
theorem encX_one (x : RxD w0) : ∀ v ∈ encX x, v.oneCell' = true := rv_one x.1.1
theorem ltOf_cfX (x y : RxD w0) : Go.Proofs.ltOf cfX x y = decide (cmpRu (rulX x) (rulX y) < 0) := rfl
theorem swo_cfX : Go.Sort.SWO (Go.Proofs.ltOf (cfX (w0 := w0))) where
  irrefl x := by rw [ltOf_cfX, ord_rule.refl]; rfl
  trans x y z h1 h2 := by
    rw [ltOf_cfX, decide_eq_true_eq] at *
    exact ord_rule.lt_le h1 (by omega)
  ntrans x y z h1 h2 := by
    rw [ltOf_cfX, decide_eq_false_iff_not] at *
    have e1 := ord_rule.anti (rulX x) (rulX y)
    have e2 := ord_rule.anti (rulX y) (rulX z)
    have e3 := ord_rule.anti (rulX x) (rulX z)
    have := ord_rule.trans (rulX z) (rulX y) (rulX x) (by omega) (by omega)
    omega
def rxC (ds : List (RxD w0)) : List Value := ds.flatMap encX
theorem flat_rx (ds : List (RxD w0)) : (Go.Sort.flatK encX 13 ds.toArray).toList = rxC ds := by
  apply List.ext_getElem?
  intro t
  by_cases ht : t < ds.length * 13
  · have h1 := Go.Sort.get_flatK encX 13 ds.toArray t (by simpa using ht)
    rw [Array.getElem?_toList, Array.getElem?_eq_getElem (by simpa using ht), ← getElem!_pos (Go.Sort.flatK encX 13 ds.toArray) t (by simpa using ht), h1]
    have hq : t / 13 < ds.length := by omega
    have hr : t % 13 < 13 := Nat.mod_lt _ (by omega)
    have e := flat_get encX 13 encX_len ds (t / 13) (t % 13) ds[t / 13] (List.getElem?_eq_getElem hq) hr
    rw [show t / 13 * 13 + t % 13 = t by omega] at e
    unfold rxC
    rw [e, getElem!_pos ds.toArray (t / 13) (by simpa using hq), getElem!_pos _ (t % 13) (by rw [encX_len]; exact hr)]
    exact (List.getElem?_eq_getElem (by rw [encX_len]; exact hr)).symm
  · have hl : (rxC ds).length = ds.length * 13 := flat_len encX 13 encX_len ds
    rw [List.getElem?_eq_none (l := rxC ds) (by omega), Array.getElem?_toList, Array.getElem?_eq_none (by simp; omega)]
theorem rxC_len (ds : List (RxD w0)) : (rxC ds).length = ds.length * 13 := flat_len encX 13 encX_len ds
theorem flatx_at (ds : List (RxD w0)) (j : Nat) (hj : j < ds.length * 13) : (rxC ds)[j]? = some (Go.Sort.flatK encX 13 ds.toArray)[j]! := by
  rw [← flat_rx, Array.getElem?_toList, Array.getElem?_eq_getElem (by simpa using hj), ← getElem!_pos _ j (by simpa using hj)]
theorem rowx_holds (h : RowK w e 13 (some ⟨g, o, none⟩) ds.length cap (rxC ds)) : Go.Sort.HoldsK encX 13 w g o ds.toArray := by
  intro j hj
  have hj' : j < ds.length * 13 := by simpa using hj
  have hpos : 0 < ds.length := by omega
  obtain ⟨g', o', e1, h1, h2⟩ := h.at_ hpos
  cases e1
  exact ⟨h1 j _ (flatx_at ds j hj'), h2 _⟩
theorem rowx_sorted (os : Array Obj) (hl : es.length = ds.length) (h : RowK w e 13 (some ⟨g, o, none⟩) ds.length cap (rxC ds)) : RowK (sortWorldK encX 13 w g o n es.toArray os) e 13 (some ⟨g, o, none⟩) es.length cap (rxC es) := by
  refine ⟨rxC_len es, .inr ?_⟩
  have hgl := h.lt rfl
  rcases h.2 with ⟨h', _⟩ | ⟨g', o', cur, h', hg, h3, h4, h5, h6⟩
  · cases h'
  · cases h'
    refine ⟨g, o, Go.Sort.putCells id o (Go.Sort.flatK encX 13 es.toArray) cur, rfl, ?_, by omega, h4, fun hlt => ?_, fun j u hu => ?_⟩
    · unfold sortWorldK Go.Sort.putRowK
      rw [Go.Sort.heap_grow_old _ _ (by simpa [Go.Sort.putRow, Go.Sort.mapBlock, Go.Sort.ahead] using hgl)]
      simp [Go.Sort.putRow, Go.Sort.mapBlock, Go.Sort.ahead, Array.getElem?_modify, hg, Go.Sort.onCells]
    · have := h5 (by omega)
      refine ⟨this.1, ?_⟩
      simp only [Go.Sort.putCells, Array.size_mapIdx]
      exact this.2
    · have hj : j < es.length * 13 := by have := (List.getElem?_eq_some_iff.1 hu).1; rwa [rxC_len] at this
      have hd : j < (rxC ds).length := by rw [rxC_len]; omega
      have hc := h6 j _ (List.getElem?_eq_getElem hd)
      have hlt : o + j < cur.size := (Array.getElem?_eq_some_iff.1 hc).1
      rw [flatx_at es j hj, Option.some.injEq] at hu
      subst hu
      have hcond : o ≤ o + j ∧ o + j < o + (Go.Sort.flatK encX 13 es.toArray).size := by
        rw [Go.Sort.size_flatK]
        simp
        omega
      unfold Go.Sort.putCells
      rw [Array.getElem?_mapIdx, Array.getElem?_eq_getElem hlt, Option.map_some, if_pos hcond, Nat.add_sub_cancel_left]
      rfl
theorem below_sortedX {a : World} (os : Array Obj) (d : Array (RxD w0)) (h : Below B a w) (hg : B ≤ g) (hB : B ≤ w.heap.size) : Below B a (sortWorldK encX 13 w g o n d os) := by
  refine h.trans ⟨rfl, rfl, rfl, by unfold sortWorldK Go.Sort.putRowK; simp [Go.Sort.putRow, Go.Sort.mapBlock, Go.Sort.ahead], fun k hk => ?_⟩
  unfold sortWorldK Go.Sort.putRowK
  rw [Go.Sort.heap_grow_old _ _ (by simp [Go.Sort.putRow, Go.Sort.mapBlock, Go.Sort.ahead]; omega)]
  have : g ≠ k := by omega
  simp [Go.Sort.putRow, Go.Sort.mapBlock, Go.Sort.ahead, Array.getElem?_modify, this]
end
theorem rising_rx {w0 : World} {d : Array (RxD w0)} (h : Go.Sort.SortedIn (Go.Proofs.ltOf cfX) 0 d.size d) : d.toList.Pairwise fun x y => cmpRu (rulX x) (rulX y) ≤ 0 := by
  rw [List.pairwise_iff_getElem]
  intro i j hi hj hij
  have hi' : i < d.size := by simpa using hi
  have hj' : j < d.size := by simpa using hj
  have h1 := h i j (Nat.zero_le _) hij hj'
  rw [getElem!_pos d j hj', getElem!_pos d i hi', ltOf_cfX] at h1
  have h2 := of_decide_eq_false h1
  simp only [Array.getElem_toList]
  have h3 := ord_rule.anti (rulX d[i]) (rulX d[j])
  omega
/-- slices.SortFunc by compare: the same rules, in order. -/
theorem sortR_any {w0 w : World} {cap : Nat} {ao : Option Addr} {ds : List (RxD w0)} (hs : ds.length ≤ 1000000) (hr : RowK w 46 13 ao ds.length cap (rxC ds)) (hlow : ∀ a, ao = some a → w0.heap.size ≤ a.block) (hB : Below w0.heap.size w0 w) :
    Calls Tryz.prog 39 #[.slice ao ds.length cap, .func (.func 27) #[] #[]] w fun e w' => e = .returned (.tuple #[]) ∧
      ∃ es : List (RxD w0), es.Perm ds ∧ (es.Pairwise fun x y => cmpRu (rulX x) (rulX y) ≤ 0) ∧ RowK w' 46 13 ao ds.length cap (rxC es) ∧ Below w0.heap.size w w' := by
  rcases hr.2 with ⟨rfl, h0, rfl⟩ | ⟨g, o, cur, rfl, hg, _⟩
  · have hd : ds = [] := List.length_eq_zero_iff.1 h0
    subst hd
    refine (AnyF.slices_SortFunc_none Tryz.sortR none 0 _ w).mono ?_
    rintro e w' ⟨rfl, rfl⟩
    exact ⟨rfl, [], List.Perm.refl _, List.Pairwise.nil, hr, ⟨rfl, rfl, rfl, Nat.le_refl _, fun _ _ => rfl⟩⟩
  · have eg : ∀ args w, (callFunc 27 args).run Tryz.prog w = .ok (.enter 27 args) w := enters_of Tryz.func27 (by kernel_rfl) rfl
    have hcmp : CmpLays Tryz.prog 27 #[] encX 13 (cfX (w0 := w0)) g o ds.toArray.size w := fun m os dk _ x y =>
      ckRule_any x.1.1.1 y.1.1.1 (slV x.1.1.2) (slV y.1.1.2) x.1.2 y.1.2 x.2.2 y.2.2 _ (x.2.1.below (below_sortedX os dk hB (hlow _ rfl) hB.size)) (y.2.1.below (below_sortedX os dk hB (hlow _ rfl) hB.size))
    have h := AnyQ.slices_SortFunc Tryz.sortR 13 Tryz.isAgg46 Tryz.sizeOf46 encX encX_len encX_one cfX swo_cfX 27 #[] g o cap ds.toArray w eg hcmp (rowx_holds hr) (Array.getElem?_eq_some_iff.1 hg).1 (by simp; omega)
    refine h.mono ?_
    rintro e w' ⟨rfl, d', n, os, hp, hsd, rfl⟩
    obtain ⟨es, rfl⟩ : ∃ es : List (RxD w0), d' = es.toArray := ⟨d'.toList, by simp⟩
    have hl : es.length = ds.length := by have := hp.1; simpa using this
    have hrow := rowx_sorted (n := n) os hl hr
    rw [hl] at hrow
    refine ⟨rfl, es, ?_, ?_, hrow, below_sortedX os _ ⟨rfl, rfl, rfl, Nat.le_refl _, fun _ _ => rfl⟩ (hlow _ rfl) hB.size⟩
    · have h1 := hp.2.2
      rw [show ds.toArray.size = ds.length by simp] at h1
      have h2 : (es.toArray.extract 0 ds.length).toList = es := by simp [← hl]
      have h3 : (ds.toArray.extract 0 ds.length).toList = ds := by simp
      rw [h2, h3] at h1
      exact h1
    · have h1 := rising_rx (d := es.toArray) (by simpa [hl] using hsd)
      simpa using h1
end Go.Proofs.YtlkiigoblkfkpaaGreatDoor

/-
  CONTRACTS OF slices.SortedFunc AT RULES, hasTwice. (Written by tools/gencktwice.py.)
-/

namespace Go.Proofs.YtlkiigoblkfkpaaGreatDoor
open Go.RowKit
open Utf Term
set_option linter.unusedVariables false
set_option linter.unusedSimpArgs false

/-- A load of many cells, in a region that is walked by hand. -/
theorem yields_load_mid {P : Program} {ops : Array Oper} {S : World → Prop} {o : Oper} {a : Act} (hgd : Region.wanted o (yielded ops a.tmps) = true) (ty : TypeId) (x : Operand) (ho : o.op = .load ty x) (b off : Nat) (hx : a.eval x = .pointer (some ⟨b, off, none⟩)) (cs : List Value) (d : TypeDesc) (hc : ∀ w, S w → w.rangeAt b off cs)
    (hu : P.underlying ty = some d) (hd : d.isRow = true) (hi : (P.info? ty).map (·.size) = some cs.length) : YieldsIf P ops S o (.agg cs.toArray) a :=
  Or.inl ⟨hgd, fun w hw => by
    unfold execOp
    simp only [ho, hx, Instr.loadAt, Instr.sureAddr, Sem.run_bind, Sem.run_pure, Result.andThen_ok, run_loadVar_mid w b off ty cs d (hc w hw) hu hd hi]⟩
/-- The rules of a row, with what lies there. -/
theorem rx_of {w : World} {g : Nat} : ∀ (rs : List RuleD) (o : Nat), RowRu w g o rs → (∀ r ∈ rs, r.2.length ≤ 1000000000) → ∃ ds : List (RxD w), ds.map rulX = rs ∧ ∀ (j : Nat) (x : RxD w), ds[j]? = some x → RuleAt w g (o + j * 13) x.1.1.1 (slV x.1.1.2)
  | [], o, _, _ => ⟨[], rfl, fun j x h => by simp at h⟩
  | r :: rs, o, h, hl => by
    obtain ⟨v, h1, h2⟩ := h 0 r rfl
    obtain ⟨p, cap, rfl, _, _⟩ := h2.form
    obtain ⟨ds, e, hd⟩ := rx_of rs (o + 13) (fun i x hx => by
      have := h (i + 1) x (by simpa using hx)
      rw [show o + 13 + i * 13 = o + (i + 1) * 13 by omega]
      exact this) (fun x hx => hl x (List.mem_cons_of_mem _ hx))
    refine ⟨⟨((r.1, (p, r.2.length, cap)), r.2), h2, hl r (by simp)⟩ :: ds, by rw [List.map_cons, e]; rfl, fun j x hj => ?_⟩
    cases j with
    | zero =>
      simp only [List.getElem?_cons_zero, Option.some.injEq] at hj
      subst hj
      exact h1
    | succ j =>
      simp only [List.getElem?_cons_succ] at hj
      rw [show o + (j + 1) * 13 = o + 13 + j * 13 by omega]
      exact hd j x hj
theorem rvC_map {w : World} (ds : List (RxD w)) : rvC (ds.map (·.1.1)) = rxC ds := by
  unfold rvC rxC
  rw [List.flatMap_map]
set_option maxRecDepth 100000 in
theorem ckCollect_any {w : World} {bq : Nat} {aoL : Option Addr} {lenL capL : Nat} {L : List RvD} (hQ : ValsRv bq aoL lenL capL L w) (hl : L.length ≤ 1000000) :
    Calls Tryz.prog 38 #[.func (.func 40) #[] #[.pointer (some ⟨bq, 0, none⟩)]] w fun e w' =>
      ∃ (ao' : Option Addr) (cap' : Nat), e = .returned (.slice ao' L.length cap') ∧ RowK w' 46 13 ao' L.length cap' (rvC L) ∧ (∀ a, ao' = some a → w.heap.size ≤ a.block) ∧ Below w.heap.size w w' := by
  have HC := Lib.hid (ckApp_any hQ hl)
  go_enter Tryz.func38, Tryz.ntmps38
  go_wp2_with (go_at_call 49; refine HC.out.mono ?_; rintro e w2 ⟨ao', cap', rfl, h1, h2, h3⟩; replace h1 := Lib.hid h1; replace h2 := Lib.hid h2; replace h3 := Lib.hid h3)
  go_ret
  exact ⟨ao', cap', rfl, h1.out, h2.out, h3.out⟩
set_option maxRecDepth 100000 in
theorem ckSorted_any {w0 w : World} {bq : Nat} {aoL : Option Addr} {lenL capL : Nat} {ds : List (RxD w0)} (hQ : ValsRv bq aoL lenL capL (ds.map (·.1.1)) w) (hl : ds.length ≤ 1000000) (hB : Below w0.heap.size w0 w) :
    Calls Tryz.prog 25 #[.func (.func 40) #[] #[.pointer (some ⟨bq, 0, none⟩)], .func (.func 27) #[] #[]] w fun e w' =>
      ∃ (es : List (RxD w0)) (ao' : Option Addr) (cap' : Nat), e = .returned (.slice ao' es.length cap') ∧ es.Perm ds ∧ (es.Pairwise fun x y => cmpRu (rulX x) (rulX y) ≤ 0) ∧ RowK w' 46 13 ao' es.length cap' (rxC es) ∧ Below w0.heap.size w0 w' := by
  have hC := ckCollect_any hQ (by simpa using hl)
  rw [List.length_map, rvC_map] at hC
  have HC := Lib.hid hC
  have HB := Lib.hid hB
  have HL := Lib.hid hl
  clear hQ hB hl hC
  obtain ⟨nd, hnd⟩ : ∃ nd, nd = ds.length := ⟨_, rfl⟩
  rw [← hnd] at HC
  have HN := Lib.hid hnd
  clear hnd
  go_enter Tryz.func25, Tryz.ntmps25
  go_wp2_with (first
    | (go_at_call 38; refine HC.out.mono ?_; rintro e w2 ⟨ao', cap', rfl, h1, h2, h3⟩; have HSo : Hid (Calls Tryz.prog 39 #[.slice ao' nd cap', .func (.func 27) #[] #[]] w2 fun e w' => e = .returned (.tuple #[]) ∧ ∃ es : List (RxD w0), es.Perm ds ∧ (es.Pairwise fun x y => cmpRu (rulX x) (rulX y) ≤ 0) ∧ RowK w' 46 13 ao' nd cap' (rxC es) ∧ Below w0.heap.size w2 w') := Lib.hid (by
        have h8 := sortR_any (w0 := w0) (w := w2) (cap := cap') (ao := ao') (ds := ds) HL.out (by rw [← HN.out]; exact h1) (fun a ha => Nat.le_trans HB.out.size (h2 a ha)) (HB.out.trans (h3.mono HB.out.size))
        rw [← HN.out] at h8
        exact h8); replace h3 := Lib.hid h3; clear h1 h2)
    | (go_at_call 39; refine HSo.out.mono ?_; rintro e w3 ⟨rfl, es, h4, h5, h6, h7⟩; replace h4 := Lib.hid h4; replace h5 := Lib.hid h5; replace h6 := Lib.hid h6; replace h7 := Lib.hid h7))
  go_ret
  have hle : es.length = nd := by rw [HN.out]; exact h4.out.length_eq
  exact ⟨es, ao', cap', by rw [hle]; rfl, h4.out, h5.out, by rw [hle]; exact h6.out, (HB.out.trans (h3.out.mono HB.out.size)).trans h7.out⟩
set_option maxRecDepth 100000 in
set_option maxHeartbeats 8000000 in
theorem ckTwice_any {w : World} {v : Value} {rs : List RuleD} (hv : SliceRu w v rs) (hl : rs.length ≤ 1000000) (hb : ∀ r ∈ rs, r.2.length ≤ 1000000000) :
    Calls Tryz.prog 16 #[v] w fun e w' => e = .returned (.bool (!decide rs.Nodup)) ∧ Below w.heap.size w w' := by
  obtain ⟨aoL, capL, rfl, _, hp⟩ := hv.form
  obtain ⟨ds, hds, hrow⟩ : ∃ ds : List (RxD w), ds.map rulX = rs ∧ (0 < rs.length → ∃ g o, aoL = some ⟨g, o, none⟩ ∧ ∀ (j : Nat) (x : RxD w), ds[j]? = some x → RuleAt w g (o + j * 13) x.1.1.1 (slV x.1.1.2)) := by
    by_cases h0 : 0 < rs.length
    · obtain ⟨g, o, e, hr⟩ := hp h0
      obtain ⟨ds, h1, h2⟩ := rx_of rs o hr hb
      exact ⟨ds, h1, fun _ => ⟨g, o, e, h2⟩⟩
    · have : rs = [] := List.eq_nil_of_length_eq_zero (by omega)
      exact ⟨[], by rw [this]; rfl, fun h => absurd h h0⟩
  have hld : ds.length = rs.length := by rw [← hds, List.length_map]
  obtain ⟨nl, hnl⟩ : ∃ nl, nl = rs.length := ⟨_, rfl⟩
  rw [← hnl] at hrow hl ⊢
  have HVl := Lib.hid (ckValues_calls aoL nl capL w)
  obtain ⟨w1, hw1⟩ : ∃ w1, w1 = w.alloc (.cells #[.slice aoL nl capL] 22) := ⟨_, rfl⟩
  obtain ⟨b1, hb1⟩ : ∃ b1, b1 = w.heap.size := ⟨_, rfl⟩
  rw [← hw1, ← hb1] at HVl
  have hbel : Below w.heap.size w w1 := by rw [hw1]; exact (Below.refl _ _).alloc (Nat.le_refl _) _
  have d1 : w1.heap[b1]? = some (.cells #[.slice aoL nl capL] 22 (0, 0)) := by rw [hw1, hb1]; exact heap_alloc_new _ _
  have hQ : ValsRv b1 aoL nl capL (ds.map (·.1.1)) w1 := ⟨cell_in d1 rfl, by rw [List.length_map, hld, hnl], fun h0 => by
    obtain ⟨g, o, e, hc⟩ := hrow h0
    refine ⟨g, o, e, fun j x hx => ?_⟩
    rw [List.getElem?_map] at hx
    obtain ⟨y, hy, rfl⟩ := Option.map_eq_some_iff.1 hx
    exact (hc j y hy).below hbel⟩
  have HSo := Lib.hid (ckSorted_any hQ (by omega) hbel)
  obtain ⟨Rr, hR⟩ : ∃ Rr, Rr = (!decide rs.Nodup) := ⟨_, rfl⟩
  rw [← hR]
  have HR : Hid (∀ es : List (RxD w), es.Perm ds → (es.Pairwise fun x y => cmpRu (rulX x) (rulX y) ≤ 0) → (Rr = false ↔ ∀ (i : Nat) (x y : RxD w), es[i]? = some x → es[i + 1]? = some y → rulX x ≠ rulX y)) := Lib.hid (fun es h1 h2 => by
    have h3 : (es.map rulX).Perm rs := by rw [← hds]; exact h1.map _
    have h4 := twice_beside ord_rule (l := es.map rulX) (by rw [List.pairwise_map]; exact h2)
    have h5 : rs.Nodup ↔ (es.map rulX).Nodup := h3.nodup_iff.symm
    rw [hR, Bool.not_eq_false', decide_eq_true_eq, h5, h4]
    constructor
    · intro h i x y hx hy
      exact h i _ _ (by rw [List.getElem?_map, hx]; rfl) (by rw [List.getElem?_map, hy]; rfl)
    · intro h i x y hx hy
      rw [List.getElem?_map] at hx hy
      obtain ⟨x', hx', rfl⟩ := Option.map_eq_some_iff.1 hx
      obtain ⟨y', hy', rfl⟩ := Option.map_eq_some_iff.1 hy
      exact h i x' y' hx' hy')
  have HLd : Hid (ds.length ≤ 1000000) := Lib.hid (by omega)
  clear hv hp hb hds hrow hld hw1 hb1 hbel d1 hQ hnl hR hl
  go_enter Tryz.func16, Tryz.ntmps16
  go_wp2_with (first
    | (go_at_call 26; refine HVl.out.mono ?_; rintro e w' ⟨rfl, rfl⟩)
    | (go_at_call 25; refine HSo.out.mono ?_; rintro e w3 ⟨es, ao, cap, rfl, h4, h5, h6, h7⟩; replace h4 := Lib.hid h4; replace h5 := Lib.hid h5; replace h6 := Lib.hid h6; replace h7 := Lib.hid h7))
  obtain ⟨n, hn⟩ : ∃ n, n = es.length := ⟨_, rfl⟩
  have HN := Lib.hid hn
  have hnb : n ≤ 1000000 := by rw [hn, h4.out.length_eq]; exact HLd.out
  have HNb := Lib.hid hnb
  have HIff := Lib.hid (HR.out es h4.out h5.out)
  have HRow : Hid (RowK w3 46 13 ao n cap (rxC es)) := Lib.hid (by rw [hn]; exact h6.out)
  rw [← hn]
  clear hn h4 h5 h6 HR hnb
  go_loopg [4] n (fun gg i wr => ∃ k : Nat, 1 ≤ k ∧ (k ≤ n ∨ k = 1) ∧ n - k ≤ gg ∧ i = .int .i64 (k : Int) ∧ (∀ (i : Nat) (x y : RxD w), i + 1 < k → es[i]? = some x → es[i + 1]? = some y → rulX x ≠ rulX y) ∧ Below w3.heap.size w3 wr)
  case atStart => exact ⟨1, Nat.le_refl _, .inr rfl, by omega, rfl, (fun i x y h => by omega), Below.refl _ _⟩
  case round =>
    obtain ⟨k, hk1, hkn, hg, rfl, hall, hbe⟩ := hrel
    have HAll := Lib.hid hall
    have HBe := Lib.hid hbe
    clear hall hbe
    by_cases hlt : k < n
    · have e1 : decide ((k : Int) < (n : Int)) = true := by simp; omega
      have e2 : decide (k < n) = true := by simp; omega
      obtain ⟨j, hj⟩ : ∃ j, j + 1 = k := ⟨k - 1, by omega⟩
      obtain ⟨x, hx⟩ : ∃ x, es[j]? = some x := ⟨_, List.getElem?_eq_getElem (by have := HN.out; omega)⟩
      obtain ⟨y, hy⟩ : ∃ y, es[k]? = some y := ⟨_, List.getElem?_eq_getElem (by have := HN.out; omega)⟩
      have hrw := HRow.out.below HBe.out
      obtain ⟨g, o, e, hc, _⟩ := hrw.at_ (by omega)
      subst e
      have hE : RowE encX wr g o es := fun i u hu => hc i u hu
      have HC1 := Lib.hid (hE.range 13 encX_len hx)
      have HC2 := Lib.hid (hE.range 13 encX_len hy)
      have HS1 : Hid ((Tryz.prog.info? 46).map (·.size) = some (encX x).length) := Lib.hid (by show _ = some 13; kernel_rfl)
      have HS2 : Hid ((Tryz.prog.info? 46).map (·.size) = some (encX y).length) := Lib.hid (by show _ = some 13; kernel_rfl)
      have hww : Below w.heap.size w wr := h7.out.trans (HBe.out.mono h7.out.size)
      have HSm : Hid (∀ U, Below wr.heap.size wr U → Calls Tryz.prog 28 #[.agg (encX x).toArray, .agg (encX y).toArray] U fun e w' => e = .returned (.bool (decide (rulX x = rulX y))) ∧ Below wr.heap.size wr w') := Lib.hid (fun U hU => by
        have hwU := hww.trans (hU.mono hww.size)
        refine (ckSame_any x.1.1.1 y.1.1.1 (slV x.1.1.2) (slV y.1.1.2) x.1.2 y.1.2 x.2.2 U (x.2.1.below hwU) (y.2.1.below hwU)).mono ?_
        rintro e w' ⟨rfl, hb⟩
        exact ⟨rfl, hU.trans (hb.mono hU.size)⟩)
      obtain ⟨D, hD⟩ : ∃ D, D = decide (rulX x = rulX y) := ⟨_, rfl⟩
      rw [← hD] at HSm
      have HD := Lib.hid hD
      have HX := Lib.hid hx
      have HY := Lib.hid hy
      have hjw : IntKind.i64.wrap ((k : Int) - 1) = (j : Int) := by simp [IntKind.wrap, IntKind.bits, IntKind.signed]; have := HNb.out; omega
      have HJ := Lib.hid hj
      have j0 : (0 : Int) ≤ (j : Int) := by omega
      have j1 : (j : Int) < (n : Int) := by omega
      have j2 : (0 : Int) ≤ (k : Int) := by omega
      have j3 : (k : Int) < (n : Int) := by omega
      have j4 : k + 1 ≤ 1000000001 := by have := HNb.out; omega
      have HWw := Lib.hid hww
      generalize encX x = C1 at *
      generalize encX y = C2 at *
      clear hx hy hrw hc hE hww hD hj
      go_upto_region 5 with fail
      refine wp_region_held_drew (S := fun U : World => Below wr.heap.size wr U) (by kernel_rfl) ((Below.refl wr.heap.size wr).drew) (fun hHeld => ?_)
      refine wpAnyH_take (i := 0) (v := .slice (some ⟨g, o, none⟩) n cap) rfl (by kernel_rfl) (by kernel_rfl) (by kernel_rfl) (fun _ _ _ h => h) (Or.inl ⟨by rfl, fun w hSw => by (try dsimp only at hSw); go_simp⟩) hHeld ?_
      simp only [Act.put, List.setIfInBounds_toArray, List.set_cons_zero, List.set_cons_succ, List.getElem_toArray, List.getElem_cons_succ, List.getElem_cons_zero]
      refine wpAnyH_take (i := 1) (v := .int .i64 (k : Int)) rfl (by kernel_rfl) (by kernel_rfl) (by kernel_rfl) (fun _ _ _ h => h) (Or.inl ⟨by rfl, fun w hSw => by (try dsimp only at hSw); go_simp⟩) hHeld ?_
      simp only [Act.put, List.setIfInBounds_toArray, List.set_cons_zero, List.set_cons_succ, List.getElem_toArray, List.getElem_cons_succ, List.getElem_cons_zero]
      refine wpAnyH_take (i := 2) (v := .int .i64 (j : Int)) rfl (by kernel_rfl) (by kernel_rfl) (by kernel_rfl) (fun _ _ _ h => h) (Or.inl ⟨by rfl, fun w hSw => by (try dsimp only at hSw); go_simp⟩) hHeld ?_
      simp only [Act.put, List.setIfInBounds_toArray, List.set_cons_zero, List.set_cons_succ, List.getElem_toArray, List.getElem_cons_succ, List.getElem_cons_zero]
      refine wpAnyH_take (i := 3) (v := .pointer (some ⟨g, o + j * 13, none⟩)) rfl (by kernel_rfl) (by kernel_rfl) (by kernel_rfl) (fun _ _ _ h => h) (Or.inl ⟨by rfl, fun w hSw => by (try dsimp only at hSw); go_simp⟩) hHeld ?_
      simp only [Act.put, List.setIfInBounds_toArray, List.set_cons_zero, List.set_cons_succ, List.getElem_toArray, List.getElem_cons_succ, List.getElem_cons_zero]
      refine wpAnyH_take (i := 4) (v := .agg C1.toArray) rfl (by kernel_rfl) (by kernel_rfl) (by kernel_rfl) (fun _ _ _ h => h) (yields_load_mid (by rfl) 46 (.tmp 17) rfl g (o + j * 13) rfl C1 _ (fun w hSw => (belowR HC1.out hSw)) Tryz.underlying46 rfl HS1.out) hHeld ?_
      simp only [Act.put, List.setIfInBounds_toArray, List.set_cons_zero, List.set_cons_succ, List.getElem_toArray, List.getElem_cons_succ, List.getElem_cons_zero]
      refine wpAnyH_take (i := 5) (v := .slice (some ⟨g, o, none⟩) n cap) rfl (by kernel_rfl) (by kernel_rfl) (by kernel_rfl) (fun _ _ _ h => h) (Or.inl ⟨by rfl, fun w hSw => by (try dsimp only at hSw); go_simp⟩) hHeld ?_
      simp only [Act.put, List.setIfInBounds_toArray, List.set_cons_zero, List.set_cons_succ, List.getElem_toArray, List.getElem_cons_succ, List.getElem_cons_zero]
      refine wpAnyH_take (i := 6) (v := .int .i64 (k : Int)) rfl (by kernel_rfl) (by kernel_rfl) (by kernel_rfl) (fun _ _ _ h => h) (Or.inl ⟨by rfl, fun w hSw => by (try dsimp only at hSw); go_simp⟩) hHeld ?_
      simp only [Act.put, List.setIfInBounds_toArray, List.set_cons_zero, List.set_cons_succ, List.getElem_toArray, List.getElem_cons_succ, List.getElem_cons_zero]
      refine wpAnyH_take (i := 7) (v := .pointer (some ⟨g, o + k * 13, none⟩)) rfl (by kernel_rfl) (by kernel_rfl) (by kernel_rfl) (fun _ _ _ h => h) (Or.inl ⟨by rfl, fun w hSw => by (try dsimp only at hSw); go_simp⟩) hHeld ?_
      simp only [Act.put, List.setIfInBounds_toArray, List.set_cons_zero, List.set_cons_succ, List.getElem_toArray, List.getElem_cons_succ, List.getElem_cons_zero]
      refine wpAnyH_take (i := 8) (v := .agg C2.toArray) rfl (by kernel_rfl) (by kernel_rfl) (by kernel_rfl) (fun _ _ _ h => h) (yields_load_mid (by rfl) 46 (.tmp 21) rfl g (o + k * 13) rfl C2 _ (fun w hSw => (belowR HC2.out hSw)) Tryz.underlying46 rfl HS2.out) hHeld ?_
      simp only [Act.put, List.setIfInBounds_toArray, List.set_cons_zero, List.set_cons_succ, List.getElem_toArray, List.getElem_cons_succ, List.getElem_cons_zero]
      refine wpAnyH_ready (rs := [9]) (by kernel_rfl) (by simp) ?_
      refine AllReadyH.cons rfl (fun K hK => ?_) AllReadyH.nil
      go_simp
      refine (HSm.out _ ((Below.refl wr.heap.size wr).drew)).mono ?_
      rintro e u ⟨rfl, hBu⟩
      dsimp only
      refine hK.out _ _ hBu (fun hHeld => ?_)
      clear hK K
      (try simp only [Act.put, List.setIfInBounds_toArray, List.set_cons_zero, List.set_cons_succ, List.getElem_toArray, List.getElem_cons_succ, List.getElem_cons_zero])
      refine wpAnyH_done (by kernel_rfl) ?_ _
      clear hHeld
      cases D with
      | true =>
        have HRt : Hid (Rr = true) := Lib.hid (by
          cases hRr : Rr with
          | true => rfl
          | false => exact absurd (of_decide_eq_true HD.out.symm) (HIff.out.1 hRr j x y HX.out (by rw [HJ.out]; exact HY.out)))
        go_wp2
        go_ret
        exact ⟨by rw [HRt.out] <;> rfl, HWw.out.trans (hBu.mono HWw.out.size)⟩
      | false =>
        go_wp2
        go_roundg (n - (k + 1))
        case measure => omega
        case rel =>
          refine ⟨k + 1, by omega, .inl (by omega), Nat.le_refl _, by go_num, fun i x' y' hi hx' hy' => ?_, HBe.out.trans (hBu.mono HBe.out.size)⟩
          by_cases hij : i + 1 < k
          · exact HAll.out i x' y' hij hx' hy'
          · have : i = j := by have := HJ.out; omega
            subst this
            rw [HX.out] at hx'
            rw [HJ.out, HY.out] at hy'
            cases hx'
            cases hy'
            exact of_decide_eq_false HD.out.symm
    · have e1 : decide ((k : Int) < (n : Int)) = false := by simp; omega
      have e2 : decide (k < n) = false := by simp; omega
      have HRf : Hid (Rr = false) := Lib.hid (HIff.out.2 fun i x y hx hy => HAll.out i x y (by
        have := (List.getElem?_eq_some_iff.1 hy).1
        have := HN.out
        omega) hx hy)
      go_wp2
      go_ret
      exact ⟨by rw [HRf.out] <;> rfl, h7.out.trans (HBe.out.mono h7.out.size)⟩
end Go.Proofs.YtlkiigoblkfkpaaGreatDoor

