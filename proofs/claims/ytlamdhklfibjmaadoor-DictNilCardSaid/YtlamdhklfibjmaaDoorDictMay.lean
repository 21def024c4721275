/-
  WHAT A TERM THAT MAY BE HAS: a kind that is a byte, a text without byte 255.
-/
import Derived.Test.YtlamdhklfibjmaaDoorDictUnpack
import Derived.Laws.ResultCell
namespace Go.Proofs.YtlamdhklfibjmaaDoor
open Go.RowKit
open Utf Term
set_option linter.unusedVariables false
set_option linter.unusedSimpArgs false

theorem results_cell_row_tmp {fn : Func} {p u : Tmp} {ty : TypeId} (h : fn.results = #[.cell p ty, .tmp u]) (tmps : Array Value) (P : Program) (w : World) (g : Nat) (t : TypeId) (cs : Array Value) (fr : Nat × Nat) (fs : Array Field)
    (hp : tmps.getD p undef = .pointer (some ⟨g, 0, none⟩)) (hg : w.heap[g]? = some (.cells cs t fr))
    (hu : P.underlying ty = some (.struct fs)) (hi : (P.info? ty).map (·.size) = some cs.size) :
    (results fn tmps).run P w = .ok (.tuple #[.agg cs, tmps.getD u undef]) w := by
  rw [results_cell_tmp h, hp]
  simp [asAddr, run_loadVar_row w g t ty cs fr (.struct fs) hg hu rfl hi, Result.andThen]
theorem cell_of_heap {W : World} {g : Nat} {cs : Array Value} {t : TypeId} {fr : Nat × Nat} (h : W.heap[g]? = some (.cells cs t fr)) {j : Nat} {v : Value} (hv : cs[j]? = some v) : W.cell? ⟨g, j, none⟩ = some v := by
  unfold World.cell?
  rw [h]
  simpa using hv

set_option maxRecDepth 100000 in
set_option maxHeartbeats 2000000 in
theorem dictTerm_some (dp : Nat) (lim : Int) (ps : List (List Int)) (tb : List Nat) (ta ba : Option Addr) (tc bc tg : Nat) (i : Nat) (a : TermD) (hp : ps[i]? = some (packL a)) (hlen : ps.length ≤ 2147483647) (hk : IsByte a.1) (hn : 255 ∉ bs a.2.1) (ht : a.2.1.size ≤ 1000000000) (hx : a.2.2.size ≤ 1000000000)
    (m : Int) (w : World) (hm : w.cell? ⟨0, 0, none⟩ = some (.int .i64 m)) (D : DictAt w dp lim ps tb ta ba tc bc tg) :
    Calls Tryd.prog 10 #[.pointer (some ⟨dp, 0, none⟩), .int .u32 ((i : Int) + 1)] w fun e w' => e = .returned (.tuple #[termD a, .bool true]) ∧ Below w.heap.size w w' := by
  have hi : i < ps.length := (List.getElem?_eq_some_iff.1 hp).1
  have HB := Lib.hid (below_new w (.cells #[.int .i64 0, .string ⟨#[]⟩, .string ⟨#[]⟩] 34))
  have ML := Lib.hid (dictLen_any dp lim ps tb ta ba tc bc tg _ (D.below HB.out))
  have MA : Hid (∀ W, Below w.heap.size w W → Calls Tryd.prog 28 #[.agg #[.slice ta ps.flatten.length tc, .slice ba ps.length bc], .int .i64 ((i : Int) + 1)] W fun e w' => ∃ b o, e = .returned (.slice (some ⟨b, o, none⟩) (a.2.1.size + a.2.2.size + 2) (a.2.1.size + a.2.2.size + 2)) ∧ RowC w' b o ((packL a).map (Value.int .u8)) ∧ Below W.heap.size W w') := Lib.hid (fun W hW => by
    have h := listAt_any ta ba tc bc ps i (packL a) hp W (D.below hW).list
    rwa [packL_length] at h)
  have MU : Hid (∀ (b o : Nat) W, Below w.heap.size w W → RowC W b o ((packL a).map (Value.int .u8)) → Calls Tryd.prog 27 #[.slice (some ⟨b, o, none⟩) (a.2.1.size + a.2.2.size + 2) (a.2.1.size + a.2.2.size + 2)] W fun e w' => e = .returned (termD a) ∧ Below W.heap.size W w') := Lib.hid (fun b o W hW hr => unpack_any b o a hk hn ht hx m W (cell_below hW hm) hr)
  have C1 : Hid (∀ W, Below w.heap.size w W → W.cell? ⟨dp, 1, none⟩ = some (.slice ta ps.flatten.length tc) ∧ W.cell? ⟨dp, 2, none⟩ = some (.slice ba ps.length bc)) := Lib.hid (fun W hW => ⟨(D.below hW).c1, (D.below hW).c2⟩)
  have KR : Hid (∀ W, Below (w.heap.size + 1) (w.alloc (.cells #[.int .i64 0, .string ⟨#[]⟩, .string ⟨#[]⟩] 34)) W → W.heap[w.heap.size]? = some (.cells #[.int .i64 0, .string ⟨#[]⟩, .string ⟨#[]⟩] 34 (0, 0))) := Lib.hid (fun W hW => by
    rw [hW.block w.heap.size (Nat.lt_succ_self _)]
    exact heap_alloc_new w _)
  have hsz0 : (w.alloc (.cells #[.int .i64 0, .string ⟨#[]⟩, .string ⟨#[]⟩] 34)).heap.size = w.heap.size + 1 := by simp
  have HS0 := Lib.hid hsz0
  generalize ps.flatten.length = N at *
  generalize ps.length = n at *
  generalize a.2.1.size + a.2.2.size + 2 = pl at MA MU
  have w1 : IntKind.u64.wrap ((i : Int) + 1) = (i : Int) + 1 := wraps64 _ (by omega) (by have : (2 : Int) ^ 64 = 18446744073709551616 := by decide
                                                                                         omega)
  have w2 : IntKind.u64.wrap (n : Int) = (n : Int) := wraps64 _ (by omega) (by have : (2 : Int) ^ 64 = 18446744073709551616 := by decide
                                                                               omega)
  have w3 : IntKind.i64.wrap ((i : Int) + 1) = (i : Int) + 1 := IntWalk.i64_in _ (by omega)
  have d0 : decide ((i : Int) + 1 = 0) = false := by simp; omega
  have d1 : ¬ ((i : Int) + 1 = 0) := by omega
  have d2 : decide ((n : Int) < (i : Int) + 1) = false := by simp; omega
  clear D hp hm hsz0
  go_enter Tryd.func10, Tryd.ntmps10
  go_wp2_with (go_at_call 8; refine ML.out.mono ?_; rintro e w4 ⟨rfl, hB4⟩; have c1 := (C1.out _ (below_step HB.out hB4)).1; have c2 := (C1.out _ (below_step HB.out hB4)).2)
  have HB4 := Lib.hid (below_step HB.out hB4)
  refine (MA.out _ HB4.out).mono ?_
  rintro e w5 ⟨b, o, rfl, hrow, hB5⟩
  have HB5 := Lib.hid (below_step HB4.out hB5)
  have HW5 := Lib.hid (below_step hB4 hB5)
  have MU5 := Lib.hid (MU.out b o _ HB5.out hrow)
  clear hB4 hB5 hrow c1 c2 MU MA ML
  go_wp2_with fail
  refine MU5.out.mono ?_
  rintro e w6 ⟨rfl, hB6⟩
  have HB6 := Lib.hid (below_step HB5.out hB6)
  have HW6 := below_step HW5.out hB6
  rw [HS0.out] at HW6
  have HK := Lib.hid (KR.out _ HW6)
  have k0 := cell_of_heap HK.out (j := 0) rfl
  have k1 := cell_of_heap HK.out (j := 1) rfl
  have k2 := cell_of_heap HK.out (j := 2) rfl
  have kf : ∀ j, w6.frozen? ⟨w.heap.size, j, none⟩ = false := fun j => frozen_first HK.out j
  clear hB6 HW6
  have HH : Hid ((((w6.setCell ⟨w.heap.size, 0, none⟩ (.int .i64 a.1)).setCell ⟨w.heap.size, 1, none⟩ (.string a.2.1)).setCell ⟨w.heap.size, 2, none⟩ (.string a.2.2)).heap[w.heap.size]? = some (.cells #[.int .i64 a.1, .string a.2.1, .string a.2.2] 34 (0, 0))) :=
    Lib.hid (heap_setCell_same _ _ _ _ _ _ (heap_setCell_same _ _ _ _ _ _ (heap_setCell_same _ _ _ _ _ _ HK.out)))
  have HF : Hid (Below w.heap.size w (((w6.setCell ⟨w.heap.size, 0, none⟩ (.int .i64 a.1)).setCell ⟨w.heap.size, 1, none⟩ (.string a.2.1)).setCell ⟨w.heap.size, 2, none⟩ (.string a.2.2))) :=
    Lib.hid (((HB6.out.setCell (Nat.le_refl _) _).setCell (Nat.le_refl _) _).setCell (Nat.le_refl _) _)
  go_wp2_with fail
  refine bodyPost_ret (results_cell_row_tmp rfl _ _ _ w.heap.size 34 #[.int .i64 a.1, .string a.2.1, .string a.2.2] (0, 0) _ rfl HH.out Tryd.underlying34 (by kernel_rfl)) rfl ?_
  exact ⟨rfl, HF.out⟩

theorem valid_no255 {l : List Int} (hl : l.length ≤ 1000000000000) (h : valid l = true) : 255 ∉ l := by
  obtain ⟨rs, hm, rfl⟩ := (valid_iff hl).1 h
  intro hc
  obtain ⟨r, hr, hc'⟩ := List.mem_flatMap.1 hc
  have h1 := hm r hr
  unfold May at h1
  unfold enc at hc'
  split at hc'
  · simp at hc'; omega
  · split at hc'
    · simp at hc'; omega
    · split at hc'
      · simp at hc'; omega
      · simp at hc'; omega
theorem mayD_facts {a : TermD} (h : mayD a = true) (ht : a.2.1.size ≤ 1000000000000) : IsByte a.1 ∧ 255 ∉ bs a.2.1 := by
  have hl : (bs a.2.1).length ≤ 1000000000000 := by rw [bs_length]; exact ht
  have hv : valid (bs a.2.1) = true ∧ IsByte a.1 := by
    unfold mayD mayS at h
    unfold IsByte
    split at h
    · simp only [Bool.and_eq_true, isIRIB, eachB] at h
      exact ⟨h.2.2.2, by omega⟩
    · split at h
      · simp only [Bool.and_eq_true, isBlankB, eachB] at h
        exact ⟨h.2.2.2, by omega⟩
      · split at h
        · simp only [Bool.and_eq_true, isValueB] at h
          exact ⟨h.2.2, by omega⟩
        · split at h
          · simp only [Bool.and_eq_true, isValueB] at h
            exact ⟨h.2.2, by omega⟩
          · split at h
            · simp only [Bool.and_eq_true, isValueB] at h
              exact ⟨h.2.2, by omega⟩
            · cases h
  exact ⟨hv.2, valid_no255 hl hv.1⟩
end Go.Proofs.YtlamdhklfibjmaaDoor
