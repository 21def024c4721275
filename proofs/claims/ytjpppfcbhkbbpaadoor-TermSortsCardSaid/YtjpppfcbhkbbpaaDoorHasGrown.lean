/-
  CONTRACT OF has THAT TELLS THE WORLD: blocks and draws alone are new.
-/
import Derived.Test.YtjpppfcbhkbbpaaDoorSortRow
import Derived.Shelf.SlSortCmp.QuietGrown
namespace Go.Proofs.YtjpppfcbhkbbpaaDoor
open Go.RowKit
open Utf Term
set_option linter.unusedVariables false
set_option linter.unusedSimpArgs false

set_option maxRecDepth 100000 in
set_option maxHeartbeats 4000000 in
theorem has_grown (v : Value) (ds : List TripD) (t : TripD) (w : World) (hv : SliceT w v ds) :
    Calls Tryd.prog 17 #[v, tripleV t.1 t.2.1 t.2.2] w fun e w' => ∃ r, e = .returned (.bool r) ∧ (r = true ↔ t ∈ ds) ∧ ∃ q os, w' = Go.Sort.grow (w.drewN q) os := by
  rcases hv with ⟨rfl, rfl⟩ | ⟨b, off, cap, rfl, h1, h2, hr⟩
  · go_enter Tryd.func17, Tryd.ntmps17
    go_wp2
    refine wp_loop_rounds 1 ?_
    rw [rounds_succ]
    go_wp2
    go_ret
    exact ⟨false, rfl, by simp, 0, _, by rw [Go.Sort.alloc_eq_grow]; rfl⟩
  · have B0 := Lib.hid (below_new w (.cells #[.int .i64 t.1.1, .string t.1.2.1, .string t.1.2.2, .int .i64 t.2.1.1, .string t.2.1.2.1, .string t.2.1.2.2, .int .i64 t.2.2.1, .string t.2.2.2.1, .string t.2.2.2.2] 26))
    have HR := Lib.hid (hr.below B0.out)
    have G0 : Hid ((∀ q, ∃ q' os, (w.alloc (.cells #[.int .i64 t.1.1, .string t.1.2.1, .string t.1.2.2, .int .i64 t.2.1.1, .string t.2.1.2.1, .string t.2.1.2.2, .int .i64 t.2.2.1, .string t.2.2.2.1, .string t.2.2.2.2] 26)).drewN q = Go.Sort.grow (w.drewN q') os) ∧ ∀ q q2, ∃ q' os, ((w.alloc (.cells #[.int .i64 t.1.1, .string t.1.2.1, .string t.1.2.2, .int .i64 t.2.1.1, .string t.2.1.2.1, .string t.2.1.2.2, .int .i64 t.2.2.1, .string t.2.2.2.1, .string t.2.2.2.2] 26)).drewN q).drewN q2 = Go.Sort.grow (w.drewN q') os) := Lib.hid ⟨fun q => ⟨q, _, by rw [Go.Sort.alloc_eq_grow]; rfl⟩, fun q q2 => ⟨q + q2, _, by rw [Go.Sort.alloc_eq_grow, World.drewN_drewN]; rfl⟩⟩
    have HT : Hid (Nine (w.alloc (.cells #[.int .i64 t.1.1, .string t.1.2.1, .string t.1.2.2, .int .i64 t.2.1.1, .string t.2.1.2.1, .string t.2.1.2.2, .int .i64 t.2.2.1, .string t.2.2.2.1, .string t.2.2.2.2] 26)) w.heap.size 0 t) :=
      Lib.hid (by constructor <;> (rw [World.cell?_alloc_at _ _ _ _ rfl]; rfl))
    have HL := Lib.hid h2
    have HC := Lib.hid h1
    clear hr h1 h2
    obtain ⟨n, hn⟩ : ∃ n, n = ds.length := ⟨_, rfl⟩
    have HN := Lib.hid hn
    rw [← hn] at HC ⊢
    clear hn
    go_enter Tryd.func17, Tryd.ntmps17
    go_wp2
    generalize (w.alloc (.cells #[.int .i64 t.1.1, .string t.1.2.1, .string t.1.2.2, .int .i64 t.2.1.1, .string t.2.1.2.1, .string t.2.1.2.2, .int .i64 t.2.2.1, .string t.2.2.2.1, .string t.2.2.2.2] 26)) = w0 at *
    go_loopg [5] n (fun g i wr => ∃ k q : Nat, k ≤ n ∧ n - k ≤ g ∧ i = .int .i64 k ∧ wr = w0.drewN q ∧ t ∉ ds.take k)
    case atStart => exact ⟨0, 0, Nat.zero_le _, by omega, rfl, rfl, by simp⟩
    case round =>
      obtain ⟨k, q, hk, hg, rfl, rfl, hnot⟩ := hrel
      have HO := Lib.hid hnot
      clear hnot
      by_cases hlt : k < n
      · obtain ⟨x, hx⟩ : ∃ x, ds[k]? = some x := ⟨_, List.getElem?_eq_getElem (by have := HN.out; omega)⟩
        have d1 : decide ((k : Int) < (n : Int)) = true := by simpa using hlt
        have hmx : n ≤ 9223372036854775807 := by have := HL.out; have := HC.out; simp only [maxLen] at *; omega
        have i0 : (0 : Int) ≤ (k : Int) := by omega
        have i1 : (k : Int) < (n : Int) := by omega
        obtain ⟨a0, a1, a2, a3, a4, a5, a6, a7, a8⟩ := HR.out.nine hx
        obtain ⟨b0, b1, b2, b3, b4, b5, b6, b7, b8⟩ : Nine w0 w.heap.size 0 t := HT.out
        have HX := Lib.hid hx
        have ee := trip_eql x t
        clear hx
        by_cases he : x = t
        · rw [decide_eq_true he] at ee
          have HE := Lib.hid he
          clear he
          go_wp2_with fail
          go_quiet (fail)
          go_wp2_with fail
          go_ret
          exact ⟨true, rfl, ⟨fun _ => HE.out ▸ List.mem_of_getElem? HX.out, fun _ => rfl⟩, G0.out.2 _ _⟩
        · rw [decide_eq_false he] at ee
          have HE := Lib.hid he
          clear he
          go_wp2_with fail
          go_quiet (fail)
          go_wp2_with fail
          go_roundg (n - (k + 1))
          case measure => omega
          case rel =>
            refine ⟨k + 1, _, by omega, Nat.le_refl _, by go_num, rfl, fun hm => ?_⟩
            rw [List.take_add_one, HX.out] at hm
            rcases List.mem_append.1 hm with h | h
            · exact HO.out h
            · simp at h; exact HE.out h.symm
      · have hkn : k = n := by omega
        have d1 : decide ((k : Int) < (n : Int)) = false := by simpa using hlt
        have HF : Hid (t ∉ ds) := Lib.hid (by have := HO.out; rwa [List.take_of_length_le (by have := HN.out; omega)] at this)
        go_wp2_with fail
        go_ret
        exact ⟨false, rfl, ⟨fun h => (by cases h), fun h => absurd h HF.out⟩, G0.out.1 _⟩
end Go.Proofs.YtjpppfcbhkbbpaaDoor
