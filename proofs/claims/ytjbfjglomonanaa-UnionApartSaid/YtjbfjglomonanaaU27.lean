/-
  WHAT THE PROOF STANDS ON, a part of it: CSortLaid, UnSortC.
-/
import Derived.Shelf.SlSortCmp.WholeK
import Derived.Shelf.SlSortCmp.NoneTotal
import Derived.Test.YtjbfjglomonanaaProg
import Derived.Test.YtjbfjglomonanaaU18
import Derived.Test.YtjbfjglomonanaaU7
import Derived.Test.YtjbfjglomonanaaU3
import Derived.Sort.Grow
import Derived.Deep.Draws
/-
  slices.SortFunc, laid at this program's cliques.
-/

namespace Go.Proofs
open Go.Shelf
open Go.RowKit
def Try.sortC_ren : Go.Shelf.Ren := ⟨fun | 6 => 33 | 15 => 41 | 14 => 40 | 28 => 53 | 29 => 54 | 20 => 45 | 21 => 46 | 22 => 47 | 23 => 48 | 24 => 49 | 25 => 50 | 26 => 51 | 27 => 52 | 46 => 64 | 47 => 65 | 48 => 66 | 49 => 67 | 50 => 68 | 57 => 72 | n => n, fun | 22 => 58 | 24 => 50 | 25 => 63 | 3 => 3 | 39 => 79 | 0 => 0 | 53 => 23 | 55 => 92 | 4 => 4 | 46 => 84 | 45 => 83 | 50 => 88 | 5 => 5 | 9 => 9 | 66 => 99 | 70 => 103 | 76 => 107 | 77 => 108 | n => n, fun | n => n⟩
theorem Try.sortC : Go.Proofs.SlLaysF0.n6 Try.prog Try.sortC_ren := {
  mixed := by kernel_rfl
  f6 := ⟨Try.f33.name, by decide, Try.func33.trans (congrArg some (by kernel_rfl))⟩
  f14 := ⟨Try.f40.name, by decide, Try.func40.trans (congrArg some (by kernel_rfl))⟩
  f15 := Try.func41.trans (congrArg some (by kernel_rfl))
  f20 := ⟨Try.f45.name, by decide, Try.func45.trans (congrArg some (by kernel_rfl))⟩
  f21 := ⟨Try.f46.name, by decide, Try.func46.trans (congrArg some (by kernel_rfl))⟩
  f22 := ⟨Try.f47.name, by decide, Try.func47.trans (congrArg some (by kernel_rfl))⟩
  f23 := ⟨Try.f48.name, by decide, Try.func48.trans (congrArg some (by kernel_rfl))⟩
  f24 := ⟨Try.f49.name, by decide, Try.func49.trans (congrArg some (by kernel_rfl))⟩
  f25 := ⟨Try.f50.name, by decide, Try.func50.trans (congrArg some (by kernel_rfl))⟩
  f26 := ⟨Try.f51.name, by decide, Try.func51.trans (congrArg some (by kernel_rfl))⟩
  f27 := ⟨Try.f52.name, by decide, Try.func52.trans (congrArg some (by kernel_rfl))⟩
  f28 := Try.func53.trans (congrArg some (by kernel_rfl))
  f29 := Try.func54.trans (congrArg some (by kernel_rfl))
  f46 := ⟨Try.f64.name, by decide, Try.func64.trans (congrArg some (by kernel_rfl))⟩
  f47 := Try.func65.trans (congrArg some (by kernel_rfl))
  f48 := Try.func66.trans (congrArg some (by kernel_rfl))
  f49 := ⟨Try.f67.name, by decide, Try.func67.trans (congrArg some (by kernel_rfl))⟩
  f50 := ⟨Try.f68.name, by decide, Try.func68.trans (congrArg some (by kernel_rfl))⟩
  f57 := ⟨Try.f72.name, by decide, Try.func72.trans (congrArg some (by kernel_rfl))⟩
  t0 := Try.underlying0
  a0 := Try.isAgg0
  z0 := Try.sizeOf0
  v0 := Try.zeroValue0
  t3 := Try.underlying3
  a3 := Try.isAgg3
  z3 := Try.sizeOf3
  v3 := Try.zeroValue3
  t4 := Try.underlying4
  a4 := Try.isAgg4
  z4 := Try.sizeOf4
  v4 := Try.zeroValue4
  t5 := Try.underlying5
  a5 := Try.isAgg5
  z5 := Try.sizeOf5
  v5 := Try.zeroValue5
  t9 := Try.underlying9
  a9 := Try.isAgg9
  z9 := Try.sizeOf9
  v9 := Try.zeroValue9
  t22 := Try.underlying58
  a22 := Try.isAgg58
  z22 := Try.sizeOf58
  v22 := Try.zeroValue58
  t25 := Try.underlying63
  a25 := Try.isAgg63
  z25 := Try.sizeOf63
  v25 := Try.zeroValue63
  t39 := Try.underlying79
  a39 := Try.isAgg79
  z39 := Try.sizeOf79
  v39 := Try.zeroValue79
  t45 := Try.underlying83
  a45 := Try.isAgg83
  z45 := Try.sizeOf83
  v45 := Try.zeroValue83
  t46 := Try.underlying84
  a46 := Try.isAgg84
  z46 := Try.sizeOf84
  v46 := Try.zeroValue84
  t50 := Try.underlying88
  a50 := Try.isAgg88
  z50 := Try.sizeOf88
  v50 := Try.zeroValue88
  t53 := Try.underlying23
  a53 := Try.isAgg23
  z53 := Try.sizeOf23
  v53 := Try.zeroValue23
  t55 := Try.underlying92
  a55 := Try.isAgg92
  z55 := Try.sizeOf92
  v55 := Try.zeroValue92
  t66 := Try.underlying99
  a66 := Try.isAgg99
  z66 := Try.sizeOf99
  v66 := Try.zeroValue99
  t70 := Try.underlying103
  a70 := Try.isAgg103
  z70 := Try.sizeOf103
  v70 := Try.zeroValue103
  t76 := Try.underlying107
  a76 := Try.isAgg107
  z76 := Try.sizeOf107
  v76 := Try.zeroValue107
  t77 := Try.underlying108
  a77 := Try.isAgg108
  z77 := Try.sizeOf108
  v77 := Try.zeroValue108 }
end Go.Proofs

/-
  CONTRACT OF slices.SortFunc AT CLIQUES, by byLeast.
-/

namespace Go.Proofs.Ytjbfjglomonanaa
open Go.RowKit
set_option linter.unusedVariables false
set_option linter.unusedSimpArgs false

def cmpU (a b : Nat) : Int := if a < b then -1 else if b < a then 1 else 0
set_option maxRecDepth 100000 in
theorem compareU_any (a b : Nat) (w : World) : Calls Try.prog 35 #[.int .u32 (a : Int), .int .u32 (b : Int)] w fun e w' => e = .returned (.int .i64 (cmpU a b)) ∧ w' = w := by
  have HN := Lib.hid isNaN_any
  by_cases h1 : a < b
  · have e1 : decide ((a : Int) < (b : Int)) = true := decide_eq_true (by omega)
    have e2 : decide (a < b) = true := decide_eq_true h1
    have he : cmpU a b = -1 := if_pos h1
    rw [he]
    clear he
    go_enter Try.func35, Try.ntmps35
    go_wp2_with (go_at_call 42; refine (HN.out _ _).mono ?_; rintro e w' ⟨rfl, rfl⟩)
    go_ret
    exact ⟨rfl, rfl⟩
  · have e1 : decide ((a : Int) < (b : Int)) = false := decide_eq_false (by omega)
    have e2 : decide (a < b) = false := decide_eq_false h1
    by_cases h2 : b < a
    · have e3 : decide ((a : Int) > (b : Int)) = true := decide_eq_true (by omega)
      have e4 : decide ((b : Int) < (a : Int)) = true := decide_eq_true (by omega)
      have e5 : decide (b < a) = true := decide_eq_true h2
      have he : cmpU a b = 1 := by unfold cmpU; rw [if_neg h1, if_pos h2]
      rw [he]
      clear he
      go_enter Try.func35, Try.ntmps35
      go_wp2_with (go_at_call 42; refine (HN.out _ _).mono ?_; rintro e w' ⟨rfl, rfl⟩)
      go_ret
      exact ⟨rfl, rfl⟩
    · have e3 : decide ((a : Int) > (b : Int)) = false := decide_eq_false (by omega)
      have e4 : decide ((b : Int) < (a : Int)) = false := decide_eq_false (by omega)
      have e5 : decide (b < a) = false := decide_eq_false h2
      have he : cmpU a b = 0 := by unfold cmpU; rw [if_neg h1, if_neg h2]
      rw [he]
      clear he
      go_enter Try.func35, Try.ntmps35
      go_wp2_with (go_at_call 42; refine (HN.out _ _).mono ?_; rintro e w' ⟨rfl, rfl⟩)
      go_ret
      exact ⟨rfl, rfl⟩
theorem two_grown (w : World) (o p : Obj) : (w.alloc o).alloc p = Go.Sort.grow (w.drewN 0) #[o, p] := by
  rw [Go.Sort.alloc_eq_grow, Go.Sort.alloc_eq_grow, Go.Sort.grow_grow]
  rfl
set_option maxRecDepth 100000 in
theorem byLeast_any (x y : ClD) (w : World) : Calls Try.prog 27 #[.agg #[.int .u32 (x.least : Int), .slice x.ao x.len x.cap], .agg #[.int .u32 (y.least : Int), .slice y.ao y.len y.cap]] w fun e w' => e = .returned (.int .i64 (cmpU x.least y.least)) ∧ ∃ q os, w' = Go.Sort.grow (w.drewN q) os := by
  have HC := Lib.hid compareU_any
  have d1 := heap_alloc_new w (.cells #[.int .u32 (x.least : Int), .slice x.ao x.len x.cap] 50)
  have s1 : (w.alloc (.cells #[.int .u32 (x.least : Int), .slice x.ao x.len x.cap] 50)).heap.size = w.heap.size + 1 := World.size_alloc _ _
  have d2 := heap_alloc_new (w.alloc (.cells #[.int .u32 (x.least : Int), .slice x.ao x.len x.cap] 50)) (.cells #[.int .u32 (y.least : Int), .slice y.ao y.len y.cap] 50)
  have d3 := (Below.heap_alloc (w.alloc (.cells #[.int .u32 (x.least : Int), .slice x.ao x.len x.cap] 50)) (.cells #[.int .u32 (y.least : Int), .slice y.ao y.len y.cap] 50) w.heap.size (by rw [s1]; omega)).trans d1
  have HG := Lib.hid (two_grown w (.cells #[.int .u32 (x.least : Int), .slice x.ao x.len x.cap] 50) (.cells #[.int .u32 (y.least : Int), .slice y.ao y.len y.cap] 50))
  rw [s1] at d2
  obtain ⟨n0, hn0⟩ : ∃ n0, n0 = w.heap.size := ⟨_, rfl⟩
  obtain ⟨W, hW⟩ : ∃ W, W = (w.alloc (.cells #[.int .u32 (x.least : Int), .slice x.ao x.len x.cap] 50)).alloc (.cells #[.int .u32 (y.least : Int), .slice y.ao y.len y.cap] 50) := ⟨_, rfl⟩
  rw [← hW] at d2 d3 HG
  rw [← hn0] at d2 d3
  have c0 : W.cell? ⟨n0, 0, none⟩ = some (.int .u32 (x.least : Int)) := cell_in d3 rfl
  have c1 : W.cell? ⟨n0 + 1, 0, none⟩ = some (.int .u32 (y.least : Int)) := cell_in d2 rfl
  have HW := Lib.hid hW
  have HN := Lib.hid hn0
  clear hW hn0 d1 d2 d3 s1
  go_enter Try.func27, Try.ntmps27
  go_upto_region 1 with fail
  rw [← HW.out, ← HN.out]
  go_wp2_with (go_at_call 35; refine (HC.out _ _ _).mono ?_; rintro e w' ⟨rfl, rfl⟩)
  go_ret
  exact ⟨rfl, 0, _, HG.out⟩
end Go.Proofs.Ytjbfjglomonanaa
namespace Go.Proofs.Ytjbfjglomonanaa
open Go.RowKit
set_option linter.unusedVariables false
set_option linter.unusedSimpArgs false

instance : Inhabited ClD := ⟨⟨0, none, 0, 0⟩⟩
def cfC (x y : Nat × ClD) : Int := cmpU x.2.least y.2.least
theorem ltOf_cf (x y : Nat × ClD) : Go.Proofs.ltOf cfC x y = decide (x.2.least < y.2.least) := by
  unfold Go.Proofs.ltOf cfC cmpU
  by_cases h1 : x.2.least < y.2.least
  · rw [if_pos h1, decide_eq_true h1]
    rfl
  · rw [if_neg h1, decide_eq_false h1]
    split <;> rfl
theorem swo_cf : Go.Sort.SWO (Go.Proofs.ltOf cfC) where
  irrefl x := by rw [ltOf_cf]; exact decide_eq_false (Nat.lt_irrefl _)
  trans x y z h1 h2 := by
    rw [ltOf_cf, decide_eq_true_eq] at *
    omega
  ntrans x y z h1 h2 := by
    rw [ltOf_cf, decide_eq_false_iff_not] at *
    omega
abbrev encN (x : Nat × ClD) : List Value := cl2 x.2
theorem encN_len (x : Nat × ClD) : (encN x).length = 2 := rfl
theorem encN_one (x : Nat × ClD) : ∀ v ∈ encN x, v.oneCell' = true := by
  intro v hv
  simp only [encN, cl2, List.mem_cons, List.not_mem_nil, or_false] at hv
  rcases hv with rfl | rfl <;> rfl
theorem flat_cls (ds : List (Nat × ClD)) : (Go.Sort.flatK encN 2 ds.toArray).toList = clsC ds := by
  apply List.ext_getElem?
  intro t
  by_cases ht : t < ds.length * 2
  · have h1 := Go.Sort.get_flatK encN 2 ds.toArray t (by simpa using ht)
    rw [Array.getElem?_toList, Array.getElem?_eq_getElem (by simpa using ht), ← getElem!_pos (Go.Sort.flatK encN 2 ds.toArray) t (by simpa using ht), h1]
    have hq : t / 2 < ds.length := by omega
    have hr : t % 2 < 2 := Nat.mod_lt _ (by omega)
    have e := flat_get encN 2 encN_len ds (t / 2) (t % 2) ds[t / 2] (List.getElem?_eq_getElem hq) hr
    rw [show t / 2 * 2 + t % 2 = t by omega] at e
    unfold clsC
    rw [e, getElem!_pos ds.toArray (t / 2) (by simpa using hq), getElem!_pos _ (t % 2) (by rw [encN_len]; exact hr)]
    exact (List.getElem?_eq_getElem (by rw [encN_len]; exact hr)).symm
  · have hl : (clsC ds).length = ds.length * 2 := flat_len encN 2 encN_len ds
    rw [List.getElem?_eq_none (l := clsC ds) (by omega), Array.getElem?_toList, Array.getElem?_eq_none (by simp; omega)]
theorem clsC_len (ds : List (Nat × ClD)) : (clsC ds).length = ds.length * 2 := flat_len encN 2 encN_len ds
theorem flat_at (ds : List (Nat × ClD)) (j : Nat) (hj : j < ds.length * 2) : (clsC ds)[j]? = some (Go.Sort.flatK encN 2 ds.toArray)[j]! := by
  rw [← flat_cls, Array.getElem?_toList, Array.getElem?_eq_getElem (by simpa using hj), ← getElem!_pos _ j (by simpa using hj)]
section
variable {w : World} {e : TypeId} {B g o cap n : Nat} {ds es : List (Nat × ClD)}
theorem rowk_holds (h : RowK w e 2 (some ⟨g, o, none⟩) ds.length cap (clsC ds)) : Go.Sort.HoldsK encN 2 w g o ds.toArray := by
  intro j hj
  have hj' : j < ds.length * 2 := by simpa using hj
  have hpos : 0 < ds.length := by omega
  obtain ⟨g', o', e1, h1, h2⟩ := h.at_ hpos
  cases e1
  exact ⟨h1 j _ (flat_at ds j hj'), h2 _⟩
theorem rowk_sorted (os : Array Obj) (hl : es.length = ds.length) (h : RowK w e 2 (some ⟨g, o, none⟩) ds.length cap (clsC ds)) : RowK (sortWorldK encN 2 w g o n es.toArray os) e 2 (some ⟨g, o, none⟩) es.length cap (clsC es) := by
  refine ⟨clsC_len es, .inr ?_⟩
  have hgl := h.lt rfl
  rcases h.2 with ⟨h', _⟩ | ⟨g', o', cur, h', hg, h3, h4, h5, h6⟩
  · cases h'
  · cases h'
    refine ⟨g, o, Go.Sort.putCells id o (Go.Sort.flatK encN 2 es.toArray) cur, rfl, ?_, by omega, h4, fun hlt => ?_, fun j u hu => ?_⟩
    · unfold sortWorldK Go.Sort.putRowK
      rw [Go.Sort.heap_grow_old _ _ (by simpa [Go.Sort.putRow, Go.Sort.mapBlock, Go.Sort.ahead] using hgl)]
      simp [Go.Sort.putRow, Go.Sort.mapBlock, Go.Sort.ahead, Array.getElem?_modify, hg, Go.Sort.onCells]
    · have := h5 (by omega)
      refine ⟨this.1, ?_⟩
      simp only [Go.Sort.putCells, Array.size_mapIdx]
      exact this.2
    · have hj : j < es.length * 2 := by have := (List.getElem?_eq_some_iff.1 hu).1; rwa [clsC_len] at this
      have hd : j < (clsC ds).length := by rw [clsC_len]; omega
      have hc := h6 j _ (List.getElem?_eq_getElem hd)
      have hlt : o + j < cur.size := (Array.getElem?_eq_some_iff.1 hc).1
      rw [flat_at es j hj, Option.some.injEq] at hu
      subst hu
      have hcond : o ≤ o + j ∧ o + j < o + (Go.Sort.flatK encN 2 es.toArray).size := by
        rw [Go.Sort.size_flatK]
        simp
        omega
      unfold Go.Sort.putCells
      rw [Array.getElem?_mapIdx, Array.getElem?_eq_getElem hlt, Option.map_some, if_pos hcond, Nat.add_sub_cancel_left]
      rfl
theorem below_sortedC {a : World} (os : Array Obj) (d : Array (Nat × ClD)) (h : Below B a w) (hg : B ≤ g) (hB : B ≤ w.heap.size) : Below B a (sortWorldK encN 2 w g o n d os) := by
  refine h.trans ⟨rfl, rfl, rfl, by unfold sortWorldK Go.Sort.putRowK; simp [Go.Sort.putRow, Go.Sort.mapBlock, Go.Sort.ahead], fun k hk => ?_⟩
  unfold sortWorldK Go.Sort.putRowK
  rw [Go.Sort.heap_grow_old _ _ (by simp [Go.Sort.putRow, Go.Sort.mapBlock, Go.Sort.ahead]; omega)]
  have : g ≠ k := by omega
  simp [Go.Sort.putRow, Go.Sort.mapBlock, Go.Sort.ahead, Array.getElem?_modify, this]
end
theorem rising_of_sorted {d : Array (Nat × ClD)} (h : Go.Sort.SortedIn (Go.Proofs.ltOf cfC) 0 d.size d) : d.toList.Pairwise fun x y => x.2.least ≤ y.2.least := by
  rw [List.pairwise_iff_getElem]
  intro i j hi hj hij
  have hi' : i < d.size := by simpa using hi
  have hj' : j < d.size := by simpa using hj
  have h1 := h i j (Nat.zero_le _) hij hj'
  rw [getElem!_pos d j hj', getElem!_pos d i hi', ltOf_cf] at h1
  have h2 := of_decide_eq_false h1
  simp only [Array.getElem_toList]
  omega
/-- slices.SortFunc by byLeast: the same cliques, by their least numbers. -/
theorem sortC_any {w : World} {B cap : Nat} {ao : Option Addr} {ds : List (Nat × ClD)} (hs : ds.length ≤ 1000000) (hr : RowK w 50 2 ao ds.length cap (clsC ds)) (hlow : ∀ a, ao = some a → B ≤ a.block) (hB : B ≤ w.heap.size) :
    Calls Try.prog 33 #[.slice ao ds.length cap, .func (.func 27) #[] #[]] w fun e w' => e = .returned (.tuple #[]) ∧
      ∃ es : List (Nat × ClD), es.Perm ds ∧ (es.Pairwise fun x y => x.2.least ≤ y.2.least) ∧ RowK w' 50 2 ao ds.length cap (clsC es) ∧ Below B w w' := by
  rcases hr.2 with ⟨rfl, h0, rfl⟩ | ⟨g, o, cur, rfl, hg, _⟩
  · have hd : ds = [] := List.length_eq_zero_iff.1 h0
    subst hd
    refine (AnyF.slices_SortFunc_none Try.sortC none 0 _ w).mono ?_
    rintro e w' ⟨rfl, rfl⟩
    exact ⟨rfl, [], List.Perm.refl _, List.Pairwise.nil, hr, ⟨rfl, rfl, rfl, Nat.le_refl _, fun _ _ => rfl⟩⟩
  · have eg : ∀ args w, (callFunc 27 args).run Try.prog w = .ok (.enter 27 args) w := enters_of Try.func27 (by kernel_rfl) rfl
    have hcmp : CmpLays Try.prog 27 #[] encN 2 cfC g o ds.toArray.size w := fun _ _ _ _ x y => byLeast_any x.2 y.2 _
    have h := AnyQ.slices_SortFunc Try.sortC 2 Try.isAgg50 Try.sizeOf50 encN encN_len encN_one cfC swo_cf 27 #[] g o cap ds.toArray w eg hcmp (rowk_holds hr) (Array.getElem?_eq_some_iff.1 hg).1 (by simp; omega)
    refine h.mono ?_
    rintro e w' ⟨rfl, d', n, os, hp, hsd, rfl⟩
    obtain ⟨es, rfl⟩ : ∃ es : List (Nat × ClD), d' = es.toArray := ⟨d'.toList, by simp⟩
    have hl : es.length = ds.length := by have := hp.1; simpa using this
    have hrow := rowk_sorted (n := n) os hl hr
    rw [hl] at hrow
    refine ⟨rfl, es, ?_, ?_, hrow, below_sortedC os _ ⟨rfl, rfl, rfl, Nat.le_refl _, fun _ _ => rfl⟩ (hlow _ rfl) hB⟩
    · have h1 := hp.2.2
      rw [show ds.toArray.size = ds.length by simp] at h1
      have h2 : (es.toArray.extract 0 ds.length).toList = es := by simp [← hl]
      have h3 : (ds.toArray.extract 0 ds.length).toList = ds := by simp
      rw [h2, h3] at h1
      exact h1
    · have h1 := rising_of_sorted (d := es.toArray) (by simpa [hl] using hsd)
      simpa using h1
end Go.Proofs.Ytjbfjglomonanaa

