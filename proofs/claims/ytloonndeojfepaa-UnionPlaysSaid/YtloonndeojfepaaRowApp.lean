/-
  A SLICE BEHIND A SLICE: append(s, t...), in place where there is room, else in a new block.
-/
import Derived.Test.YtloonndeojfepaaRowK
namespace Go.Proofs.Ytloonndeojfepaa
open Go.RowKit
set_option linter.unusedVariables false
set_option linter.unusedSimpArgs false

section
variable {P : Program} (w : World)
theorem run_append_rows (t ty e : TypeId) (i : TypeInfo) (z : Value) (k bytes : Nat) (ht : P.underlying t = some (.slice e)) (hi : P.info? e = some i) (hz : i.zero = some z)
    (hsize : i.size = k) (hby : i.bytes = bytes) (hzs : z.cells.size = k)
    (ao : Option Addr) (n cap : Nat) (xs : List Value) (h : RowK w e k ao n cap xs)
    (so : Option Addr) (m c : Nat) (news : List Value) (hl : news.length = m * k) (hnews : 0 < m → ∃ a, so = some a ∧ ∀ j u, news[j]? = some u → w.cell? (a.add j) = some u) (h1 : ∀ u ∈ news, u.oneCell' = true)
    (h63 : n + m ≤ maxLen) (hbytes : (n + m) * bytes ≤ 140737488355328) :
    ∃ ao' cap' w', (Builtin.append_ #[t, t] ty #[.slice ao n cap, .slice so m c]).run P w = .ok (.slice ao' (n + m) cap') w' ∧ RowK w' e k ao' (n + m) cap' (xs ++ news) ∧ Turned (fun j => ∃ a, ao = some a ∧ j = a.block) w w' ∧ (ao' = ao ∨ ∀ a, ao' = some a → w.heap.size ≤ a.block) := by
  subst hsize
  subst hby
  have hlen : (xs ++ news).length = (n + m) * i.size := by rw [List.length_append, h.1, hl, Nat.add_mul]
  by_cases hm : m = 0
  · subst hm
    have hx : news = [] := List.eq_nil_of_length_eq_zero (by simpa using hl)
    subst hx
    refine ⟨ao, cap, w, ?_, by simpa using h, Turned.refl, .inl rfl⟩
    have hle := h.le
    rcases h.2 with ⟨rfl, rfl, rfl⟩ | ⟨g, o, cur, rfl, _⟩
    · cases so <;> simp [Builtin.append_, run_underlying ht, sizeOf, typeInfo, hi, Builtin.lenOf, Builtin.firstCells, loadCells, loadCellsFrom, storeCells]
    · cases so <;> simp [Builtin.append_, run_underlying ht, sizeOf, typeInfo, hi, Builtin.lenOf, Builtin.firstCells, loadCells, loadCellsFrom, storeCells, hle]
  obtain ⟨a, rfl, hnw⟩ := hnews (by omega)
  have grown : ∀ (old : Nat), old < n + m →
      RowK (w.drew.alloc (.cells (xs.toArray ++ news.toArray ++ Builtin.zeroCells z.cells (grownCap w (n + m) old e - (n + m))) e)) e i.size
        (some ⟨w.heap.size, 0, none⟩) (n + m) (grownCap w (n + m) old e) (xs ++ news) ∧
      ∀ S, Turned S w (w.drew.alloc (.cells (xs.toArray ++ news.toArray ++ Builtin.zeroCells z.cells (grownCap w (n + m) old e - (n + m))) e)) := by
    intro old ho
    have hge := grownCap_ge w (n + m) old e
    have hcm : grownCap w (n + m) old e ≤ maxLen := grownCap_le_maxLen w (n + m) old e h63
    refine ⟨⟨hlen, .inr ⟨w.heap.size, 0, _, rfl, heap_alloc_new w.drew _, hge, hcm, fun _ => ⟨rfl, ?_⟩, fun j u hu => ?_⟩⟩, fun S => .of_below ((Below.refl _ w).drew.alloc (Nat.le_refl _) _)⟩
    · simp only [Array.size_append, List.size_toArray, size_zeroCells, hzs]
      rw [h.1, hl, Nat.sub_mul, Nat.add_mul]
      have := Nat.mul_le_mul_right i.size hge
      rw [Nat.add_mul] at this
      omega
    · rw [Nat.zero_add, Array.getElem?_append_left (by have := (List.getElem?_eq_some_iff.1 hu).1; simpa using this)]
      simpa using hu
  rcases h.2 with ⟨rfl, rfl, rfl⟩ | ⟨g, o, cur, rfl, hg, hnc, hcm, hroom, hcs⟩
  · have hx : xs = [] := List.eq_nil_of_length_eq_zero (by simpa using h.1)
    subst hx
    have hr := run_append_nil (P := P) w t ty e i z ht hi hz a m c news hl hnw (by omega) (by unfold maxLen at h63; omega) (by have hb := hbytes; simp only [Nat.zero_add] at hb; omega)
    have hgr := grown 0 (by omega)
    simp only [Nat.zero_add, List.nil_append, Array.empty_append] at hgr ⊢
    exact ⟨_, _, _, hr, hgr.1, hgr.2 _, .inr fun a ha => by cases ha; exact Nat.le_refl _⟩
  · by_cases hrm : n + m ≤ cap
    · obtain ⟨rfl, hcz⟩ := hroom (by omega)
      have hle : (n + m) * i.size ≤ cur.size := Nat.le_trans (Nat.mul_le_mul_right _ hrm) hcz
      rw [Nat.add_mul] at hle
      have hfit : n * i.size + news.length ≤ cur.size := by rw [hl]; exact hle
      have hr := run_append_room (P := P) w t ty e i ht hi g n cap cur hg a m c news hl hnw h1 hrm hfit
      have htk : cur.toList.take (n * i.size) = xs := by
        apply List.ext_getElem?
        intro j
        rw [List.getElem?_take]
        split
        · rename_i hj
          have : j < xs.length := by rw [h.1]; exact hj
          have h2 := hcs j xs[j] (List.getElem?_eq_getElem this)
          rw [Nat.zero_add] at h2
          rw [List.getElem?_eq_getElem this]
          simpa using h2
        · rw [List.getElem?_eq_none (by rw [h.1]; omega)]
      refine ⟨_, cap, _, hr, ⟨hlen, .inr ⟨g, 0, _, rfl, setRow_heap w g cur _ e _ hg, hrm, hcm, fun _ => ⟨rfl, ?_⟩, fun j u hu => ?_⟩⟩, ⟨rfl, rfl, rfl, by simp, fun k _ hk => setRow_other w g k _ (fun e => hk ⟨_, rfl, e⟩)⟩, .inl rfl⟩
      · simp only [List.size_toArray, List.length_append, List.length_take, List.length_drop, Array.length_toList]
        have : (n + m) * i.size ≤ cur.size := by rw [Nat.add_mul]; exact hle
        have := Nat.le_trans (Nat.mul_le_mul_right i.size hrm) hcz
        omega
      · rw [Nat.zero_add, List.getElem?_toArray, htk, List.getElem?_append_left (by exact (List.getElem?_eq_some_iff.1 hu).1)]
        exact hu
    · have holds : ∀ j u, xs[j]? = some u → w.cell? ((⟨g, o, none⟩ : Addr).add j) = some u := fun j u hu => by
        rw [Addr.add_mid]
        exact cell_in hg (hcs j u hu)
      have hr := run_append_grow (P := P) w t ty e i z ht hi hz ⟨g, o, none⟩ n cap xs h.1 holds a m c news hl hnw (by omega) (by unfold maxLen at h63; omega) (growslice_fits (by omega) hbytes)
      have hgr := grown cap (by omega)
      exact ⟨_, _, _, hr, hgr.1, hgr.2 _, .inr fun a ha => by cases ha; exact Nat.le_refl _⟩
end
theorem wpList_append_rows {P : Program} {ops : Array Oper} {o : Oper} {rest : List Oper} {Q : Exit → Act → World → Prop} {a : Act} {w : World}
    (hgd : Region.wanted o (yielded ops a.tmps) = true) (s x : Operand) (t : TypeId) (hop : o.op = Op.call { callee := Callee.builtin Builtin.append, args := #[s, x], argTypes := #[t, t] })
    (e : TypeId) (i : TypeInfo) (z : Value) (k bytes : Nat) (ht : P.underlying t = some (.slice e)) (hi : P.info? e = some i) (hz : i.zero = some z)
    (hsize : i.size = k) (hby : i.bytes = bytes) (hzs : z.cells.size = k)
    (ao : Option Addr) (n cap : Nat) (xs : List Value) (hs : a.eval s = .slice ao n cap) (h : RowK w e k ao n cap xs)
    (so : Option Addr) (m c : Nat) (news : List Value) (hx : a.eval x = .slice so m c) (hl : news.length = m * k) (hnews : 0 < m → ∃ a, so = some a ∧ ∀ j u, news[j]? = some u → w.cell? (a.add j) = some u) (h1 : ∀ u ∈ news, u.oneCell' = true)
    (h63 : n + m ≤ maxLen) (hbytes : (n + m) * bytes ≤ 140737488355328)
    (hK : ∀ ao' cap' w', RowK w' e k ao' (n + m) cap' (xs ++ news) → Turned (fun j => ∃ a, ao = some a ∧ j = a.block) w w' → (ao' = ao ∨ ∀ a, ao' = some a → w.heap.size ≤ a.block) → wpList P ops Q rest (a.put o.dst (.slice ao' (n + m) cap')) w') :
    wpList P ops Q (o :: rest) a w := by
  refine wpList_step fun K hKK => ?_
  rw [if_pos hgd]
  obtain ⟨ao', cap', w', hrun, h2, h3, h4⟩ := run_append_rows (P := P) w t o.type e i z k bytes ht hi hz hsize hby hzs ao n cap xs h so m c news hl hnews h1 h63 hbytes
  unfold Oper.wp
  simp [execOp, hop, resolve, invoke, builtin, hs, hx, hrun, Result.andThen]
  exact hKK _ _ (hK ao' cap' w' h2 h3 h4)
end Go.Proofs.Ytloonndeojfepaa
