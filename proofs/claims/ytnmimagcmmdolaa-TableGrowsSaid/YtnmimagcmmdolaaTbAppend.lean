/-
  ONE ELEMENT MORE BEHIND A SLICE OF ELEMENTS OF k CELLS: in place, or in a new block.
-/
import Derived.Test.YtnmimagcmmdolaaTbMem
import Derived.Deep.RegionLaw
namespace Go.Proofs.Ytnmimagcmmdolaa
open Go.RowKit
set_option linter.unusedVariables false
set_option linter.unusedSimpArgs false

section
variable {P : Program} (w : World)
theorem run_append_rowk (t ty e : TypeId) (i : TypeInfo) (z : Value) (k bytes : Nat) (ht : P.underlying t = some (.slice e)) (hi : P.info? e = some i) (hz : i.zero = some z)
    (hsize : i.size = k) (hby : i.bytes = bytes) (hzs : z.cells.size = k) (hk : 0 < k)
    (ao : Option Addr) (n cap : Nat) (xs : List Value) (h : RowK w e k ao n cap xs)
    (a : Addr) (c : Nat) (news : List Value) (hl : news.length = k) (hnews : ∀ j u, news[j]? = some u → w.cell? (a.add j) = some u) (h1 : ∀ u ∈ news, u.oneCell' = true)
    (h63 : n + 1 ≤ maxLen) (hbytes : (n + 1) * bytes ≤ 140737488355328) :
    ∃ g o cap' w', (Builtin.append_ #[t, t] ty #[.slice ao n cap, .slice (some a) 1 c]).run P w = .ok (.slice (some ⟨g, o, none⟩) (n + 1) cap') w' ∧ RowK w' e k (some ⟨g, o, none⟩) (n + 1) cap' (xs ++ news) ∧ w.grownBy w' (some g) ∧
      ((ao = some ⟨g, o, none⟩ ∧ n < cap) ∨ w.heap.size ≤ g) := by
  subst hsize
  subst hby
  have hlen : (xs ++ news).length = (n + 1) * i.size := by rw [List.length_append, h.1, hl, Nat.succ_mul]
  have hl' : news.length = 1 * i.size := by rw [hl, Nat.one_mul]
  have grown : ∀ (old : Nat), old < n + 1 →
      RowK (w.drew.alloc (.cells (xs.toArray ++ news.toArray ++ Builtin.zeroCells z.cells (grownCap w (n + 1) old e - (n + 1))) e)) e i.size
        (some ⟨w.heap.size, 0, none⟩) (n + 1) (grownCap w (n + 1) old e) (xs ++ news) ∧
      w.grownBy (w.drew.alloc (.cells (xs.toArray ++ news.toArray ++ Builtin.zeroCells z.cells (grownCap w (n + 1) old e - (n + 1))) e)) (some w.heap.size) := by
    intro old ho
    have hge := grownCap_ge w (n + 1) old e
    have hcm : grownCap w (n + 1) old e ≤ maxLen := grownCap_le_maxLen w (n + 1) old e h63
    refine ⟨⟨hlen, .inr ⟨w.heap.size, 0, _, rfl, heap_alloc_new w.drew _, hge, hcm, fun _ => ⟨rfl, ?_⟩, fun j u hu => ?_⟩⟩, ⟨rfl, rfl, rfl, by simp, fun k hk _ => Below.heap_alloc w.drew _ k hk⟩⟩
    · simp only [Array.size_append, List.size_toArray, size_zeroCells, hzs]
      rw [h.1, hl, Nat.sub_mul, Nat.succ_mul]
      have := Nat.mul_le_mul_right i.size hge
      rw [Nat.succ_mul] at this
      omega
    · rw [Nat.zero_add, Array.getElem?_append_left (by have := (List.getElem?_eq_some_iff.1 hu).1; simpa using this)]
      simpa using hu
  rcases h.2 with ⟨rfl, rfl, rfl⟩ | ⟨g, o, cur, rfl, hg, hnc, hcm, hroom, hcs⟩
  · have hx : xs = [] := List.eq_nil_of_length_eq_zero (by simpa using h.1)
    subst hx
    have hr := run_append_nil (P := P) w t ty e i z ht hi hz a 1 c news hl' hnews (by omega) (by omega) (by have hb := hbytes; simp only [Nat.zero_add] at hb; omega)
    have hgr := grown 0 (by omega)
    simp only [Nat.zero_add, List.nil_append, Array.empty_append] at hgr ⊢
    exact ⟨_, _, _, _, hr, hgr.1, hgr.2, .inr (Nat.le_refl _)⟩
  · by_cases hrm : n < cap
    · obtain ⟨rfl, hcz⟩ := hroom hrm
      have hle : (n + 1) * i.size ≤ cur.size := Nat.le_trans (Nat.mul_le_mul_right _ hrm) hcz
      rw [Nat.succ_mul] at hle
      have hfit : n * i.size + news.length ≤ cur.size := by rw [hl]; exact hle
      have hr := run_append_room (P := P) w t ty e i ht hi g n cap cur hg a 1 c news hl' hnews h1 hrm hfit
      have htk : cur.toList.take (n * i.size) = xs := by
        apply List.ext_getElem?
        intro j
        rw [List.getElem?_take]
        split
        · rename_i hj
          have : j < xs.length := by rw [h.1]; exact hj
          have h2 := hcs j xs[j] (List.getElem?_eq_getElem this)
          rw [Nat.zero_add] at h2
          rw [List.getElem?_eq_getElem this]
          simpa using h2
        · rw [List.getElem?_eq_none (by rw [h.1]; omega)]
      refine ⟨g, 0, cap, _, hr, ⟨hlen, .inr ⟨g, 0, _, rfl, setRow_heap w g cur _ e _ hg, hrm, hcm, fun _ => ⟨rfl, ?_⟩, fun j u hu => ?_⟩⟩, ⟨rfl, rfl, rfl, by simp, fun k _ hk => setRow_other w g k _ (fun e => hk (by rw [e]))⟩, .inl ⟨rfl, hrm⟩⟩
      · simp only [List.size_toArray, List.length_append, List.length_take, List.length_drop, Array.length_toList]
        omega
      · rw [Nat.zero_add, List.getElem?_toArray, htk, List.getElem?_append_left (by exact (List.getElem?_eq_some_iff.1 hu).1)]
        exact hu
    · have holds : ∀ j u, xs[j]? = some u → w.cell? ((⟨g, o, none⟩ : Addr).add j) = some u := fun j u hu => by
        rw [Addr.add_mid]
        exact cell_in hg (hcs j u hu)
      have hr := run_append_grow (P := P) w t ty e i z ht hi hz ⟨g, o, none⟩ n cap xs h.1 holds a 1 c news hl' hnews (by omega) (by unfold maxLen at h63; omega) (growslice_fits (by omega) hbytes)
      have hgr := grown cap (by omega)
      exact ⟨_, _, _, _, hr, hgr.1, hgr.2, .inr (Nat.le_refl _)⟩
end
end Go.Proofs.Ytnmimagcmmdolaa
