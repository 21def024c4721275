/-
  A DICTIONARY AND ITS BLOCKS: what it holds, that its blocks are its own, and what stays of it when others write.
-/
import Derived.Laws.OwnMore
import Derived.RowKit3
import Derived.Below
import Derived.Test.YtlamdhklfibjmaaDoorDictSmall
import Derived.Laws.ResultCell
namespace Go.Proofs.YtlamdhklfibjmaaDoor
open Go.RowKit
set_option linter.unusedVariables false
set_option linter.unusedSimpArgs false
open Utf Term

/-- Nil, or the first n of the cells of a block, none of them frozen. -/
def RowW (W : World) (e : TypeId) (ao : Option Addr) (n cap : Nat) (xs : List Value) : Prop :=
  xs.length = n ∧ ((ao = none ∧ n = 0 ∧ cap = 0) ∨
    ∃ g cur, ao = some ⟨g, 0, none⟩ ∧ W.heap[g]? = some (.cells cur e (0, 0)) ∧ n ≤ cap ∧ cap ≤ maxLen ∧ cap ≤ cur.size ∧ cur.toList.take n = xs)

theorem RowW.cells {W : World} {e : TypeId} {g n cap : Nat} {xs : List Value} (h : RowW W e (some ⟨g, 0, none⟩) n cap xs) : ∀ j u, xs[j]? = some u → W.cell? ((⟨g, 0, none⟩ : Addr).add j) = some u := by
  intro j u hu
  rcases h.2 with ⟨h0, _⟩ | ⟨g', cur, h0, hg, _, _, _, htake⟩
  · cases h0
  · obtain rfl : g = g' := by injection h0 with h0; injection h0
    have hadd : (⟨g, 0, none⟩ : Addr).add j = ⟨g, j, none⟩ := by unfold Addr.add; split <;> simp_all
    rw [hadd, cell_of_row W g j cur e (0, 0) hg]
    rw [← htake, List.getElem?_take] at hu
    split at hu
    · simpa using hu
    · cases hu
theorem RowW.lt {W : World} {e : TypeId} {ao : Option Addr} {n cap : Nat} {xs : List Value} (h : RowW W e ao n cap xs) {a : Addr} (ha : ao = some a) : a.block < W.heap.size := by
  rcases h.2 with ⟨h0, _⟩ | ⟨g, cur, h0, hg, _⟩
  · rw [h0] at ha; cases ha
  · rw [h0] at ha
    cases ha
    exact (Array.getElem?_eq_some_iff.1 hg).1
/-- Its block is as it was. -/
theorem RowW.kept {W W' : World} {e : TypeId} {ao : Option Addr} {n cap : Nat} {xs : List Value} (h : RowW W e ao n cap xs) (hk : ∀ a, ao = some a → W'.heap[a.block]? = W.heap[a.block]?) : RowW W' e ao n cap xs := by
  refine ⟨h.1, h.2.imp id ?_⟩
  rintro ⟨g, cur, h0, hg, r⟩
  exact ⟨g, cur, h0, by rw [hk _ h0]; exact hg, r⟩
/-- Its first k elements, no room behind them. -/
theorem RowW.first {W : World} {e : TypeId} {ao : Option Addr} {n cap : Nat} {xs : List Value} (h : RowW W e ao n cap xs) {k : Nat} (hk : k ≤ n) : RowW W e ao k k (xs.take k) := by
  refine ⟨by rw [List.length_take, h.1]; omega, ?_⟩
  rcases h.2 with ⟨h0, h1, h2⟩ | ⟨g, cur, h0, hg, h1, h2, h3, h4⟩
  · exact .inl ⟨h0, by omega, by omega⟩
  · exact .inr ⟨g, cur, h0, hg, Nat.le_refl _, by omega, by omega, by rw [← h4, List.take_take, Nat.min_eq_left hk]⟩

section
variable {P : Program} (w : World)
/-- m > 0 elements more: in place, or in a new block. -/
theorem run_append_roww (t ty e : TypeId) (i : TypeInfo) (z : Value) (bytes : Nat) (ht : P.underlying t = some (.slice e)) (hi : P.info? e = some i) (hz : i.zero = some z)
    (hsize : i.size = 1) (hby : i.bytes = bytes) (hzs : z.cells.size = 1)
    (ao : Option Addr) (n cap : Nat) (xs : List Value) (hown : RowW w e ao n cap xs)
    (a : Addr) (m c : Nat) (hm0 : 0 < m) (news : List Value) (hl : news.length = m) (hnews : ∀ j u, news[j]? = some u → w.cell? (a.add j) = some u) (h1 : ∀ u ∈ news, u.oneCell' = true)
    (h63 : n + m ≤ maxLen) (hbytes : (n + m) * bytes ≤ 140737488355328) :
    ∃ g cap' w', (Builtin.append_ #[t, t] ty #[.slice ao n cap, .slice (some a) m c]).run P w = .ok (.slice (some ⟨g, 0, none⟩) (n + m) cap') w' ∧ RowW w' e (some ⟨g, 0, none⟩) (n + m) cap' (xs ++ news) ∧ w.grownBy w' (some g) ∧
      (ao = some ⟨g, 0, none⟩ ∨ w.heap.size ≤ g) := by
  subst hby
  have hsmall : n + m ≤ 9223372036854775807 := by simp only [maxLen] at h63; omega
  have hlen : (xs ++ news).length = n + m := by rw [List.length_append, hown.1, hl]
  have hl' : news.length = m * i.size := by rw [hl, hsize, Nat.mul_one]
  have grown : ∀ (old : Nat), old < n + m →
      RowW (w.drew.alloc (.cells (xs.toArray ++ news.toArray ++ Builtin.zeroCells z.cells (grownCap w (n + m) old e - (n + m))) e)) e
        (some ⟨w.heap.size, 0, none⟩) (n + m) (grownCap w (n + m) old e) (xs ++ news) ∧
      w.grownBy (w.drew.alloc (.cells (xs.toArray ++ news.toArray ++ Builtin.zeroCells z.cells (grownCap w (n + m) old e - (n + m))) e)) (some w.heap.size) := by
    intro old ho
    have hge := grownCap_ge w (n + m) old e
    have hcm : grownCap w (n + m) old e ≤ maxLen := grownCap_le_maxLen w (n + m) old e h63
    refine ⟨⟨hlen, .inr ⟨w.heap.size, _, rfl, heap_alloc_new w.drew _, hge, hcm, ?_, ?_⟩⟩, ⟨rfl, rfl, rfl, by simp, fun k hk _ => Below.heap_alloc w.drew _ k hk⟩⟩
    · simp only [Array.size_append, List.size_toArray, size_zeroCells, hzs, hown.1, hl]
      omega
    · simp only [Array.toList_append, List.append_assoc]
      rw [← List.append_assoc, ← hlen]
      exact List.take_left
  rcases hown.2 with ⟨rfl, rfl, rfl⟩ | ⟨g, cur, rfl, hg, hnc, hcm, hcs, htake⟩
  · have hx : xs = [] := List.eq_nil_of_length_eq_zero hown.1
    subst hx
    have hr := run_append_nil (P := P) w t ty e i z ht hi hz a m c news hl' hnews (by omega) (by omega) (by have hb := hbytes; simp only [Nat.zero_add] at hb; omega)
    have hgr := grown 0 (by omega)
    simp only [Nat.zero_add, List.nil_append, Array.empty_append] at hgr ⊢
    exact ⟨_, _, _, hr, hgr.1, hgr.2, .inr (Nat.le_refl _)⟩
  · by_cases hroom : n + m ≤ cap
    · have hfit : n * i.size + news.length ≤ cur.size := by rw [hsize, hl]; omega
      have hr := run_append_room (P := P) w t ty e i ht hi g n cap cur hg a m c news hl' hnews h1 hroom hfit
      refine ⟨g, cap, _, hr, ⟨hlen, .inr ⟨g, _, rfl, setRow_heap w g cur _ e _ hg, hroom, hcm, ?_, ?_⟩⟩, ⟨rfl, rfl, rfl, by simp, fun k _ hk => setRow_other w g k _ (fun e => hk (by rw [e]))⟩, .inl rfl⟩
      · simp only [List.size_toArray, List.length_append, List.length_take, List.length_drop, Array.length_toList]
        omega
      · rw [hsize, Nat.mul_one, htake, ← hlen]
        exact List.take_left
    · have holds := hown.cells
      have hr := run_append_grow (P := P) w t ty e i z ht hi hz ⟨g, 0, none⟩ n cap xs (by rw [hsize, Nat.mul_one]; exact hown.1) holds a m c news hl' hnews (by omega) (by omega) (growslice_fits (by omega) hbytes)
      have hgr := grown cap (by omega)
      exact ⟨_, _, _, hr, hgr.1, hgr.2, .inr (Nat.le_refl _)⟩

theorem wpList_append_roww {ops : Array Oper} {rest : List Oper} {o : Oper} {a : Act} {Q : Exit → Act → World → Prop} (hgd : o.guard = none) (s x : Operand) (t : TypeId)
    (ho : o.op = .call { callee := .builtin .append, args := #[s, x], argTypes := #[t, t] })
    (e : TypeId) (i : TypeInfo) (z : Value) (bytes : Nat) (ht : P.underlying t = some (.slice e)) (hi : P.info? e = some i) (hz : i.zero = some z)
    (hsize : i.size = 1) (hby : i.bytes = bytes) (hzs : z.cells.size = 1)
    (ao : Option Addr) (n cap : Nat) (xs : List Value) (hs : a.eval s = .slice ao n cap) (hown : RowW w e ao n cap xs)
    (ad : Addr) (m c : Nat) (hm0 : 0 < m) (news : List Value) (hx : a.eval x = .slice (some ad) m c) (hl : news.length = m) (hnews : ∀ j u, news[j]? = some u → w.cell? (ad.add j) = some u) (h1 : ∀ u ∈ news, u.oneCell' = true)
    (h63 : n + m ≤ maxLen) (hbytes : (n + m) * bytes ≤ 140737488355328)
    (h : ∀ g cap' w', RowW w' e (some ⟨g, 0, none⟩) (n + m) cap' (xs ++ news) → w.grownBy w' (some g) → (ao = some ⟨g, 0, none⟩ ∨ w.heap.size ≤ g) → wpList P ops Q rest (a.put o.dst (.slice (some ⟨g, 0, none⟩) (n + m) cap')) w') : wpList P ops Q (o :: rest) a w := by
  refine wpList_plain hgd fun _ hK => ?_
  obtain ⟨g, cap', w', hr, h2, h3, h4⟩ := run_append_roww (P := P) w t o.type e i z bytes ht hi hz hsize hby hzs ao n cap xs hown ad m c hm0 news hl hnews h1 h63 hbytes
  unfold Oper.wp execOp
  simp only [ho, resolve, invoke, builtin, Sem.run_bind, Sem.run_pure, Result.andThen_ok, List.map_toArray, List.map_cons, List.map_nil, hs, hx, hr]
  exact hK _ _ (h g cap' w' h2 h3 h4)
end

/-- All blocks but those of S are as they were; the heap has not shrunk. -/
structure Turned (S : Nat → Prop) (w w' : World) : Prop where
  os : w'.os = w.os
  tape : w'.tape = w.tape
  output : w'.output = w.output
  size : w.heap.size ≤ w'.heap.size
  block : ∀ k, k < w.heap.size → ¬ S k → w'.heap[k]? = w.heap[k]?
/-- S, and what has come. -/
def growS (S : Nat → Prop) (w w' : World) : Nat → Prop := fun j => S j ∨ (w.heap.size ≤ j ∧ j < w'.heap.size)

section
variable {S S' : Nat → Prop} {u v w w' : World}
theorem Turned.refl : Turned S w w := ⟨rfl, rfl, rfl, Nat.le_refl _, fun _ _ _ => rfl⟩
theorem Turned.of_below (h : Below w.heap.size w w') : Turned S w w' := ⟨h.os, h.tape, h.output, h.size, fun k hk _ => h.block k hk⟩
theorem Turned.mono (h : Turned S w w') (hs : ∀ j, S j → S' j) : Turned S' w w' := ⟨h.os, h.tape, h.output, h.size, fun k hk hn => h.block k hk (fun hj => hn (hs k hj))⟩
theorem Turned.trans (h : Turned S u v) (k : Turned S v w) : Turned S u w :=
  ⟨k.os.trans h.os, k.tape.trans h.tape, k.output.trans h.output, Nat.le_trans h.size k.size, fun i hi hn => (k.block i (Nat.lt_of_lt_of_le hi h.size) hn).trans (h.block i hi hn)⟩
theorem Turned.then (h : Turned S u v) (k : Turned (growS S u v) v w) : Turned S u w :=
  ⟨k.os.trans h.os, k.tape.trans h.tape, k.output.trans h.output, Nat.le_trans h.size k.size, fun i hi hn => (k.block i (Nat.lt_of_lt_of_le hi h.size) (fun h' => h'.elim hn (fun h2 => absurd h2.1 (by omega)))).trans (h.block i hi hn)⟩
theorem growS_then {w : World} (h1 : u.heap.size ≤ v.heap.size) (h2 : v.heap.size ≤ w.heap.size) : ∀ j, growS (growS S u v) v w j → growS S u w j := fun j h => by
  rcases h with (h | h) | h
  · exact .inl h
  · exact .inr ⟨h.1, by omega⟩
  · exact .inr ⟨by omega, h.2⟩
theorem Turned.set {a : Addr} (ha : S a.block) (x : Value) : Turned S w (w.setCell a x) :=
  ⟨rfl, rfl, rfl, by simp [World.setCell], fun k hk hn => Below.heap_setCell _ _ _ _ (fun e => hn (e ▸ ha))⟩
theorem Turned.grown {g : Nat} (h : w.grownBy w' (some g)) (hg : S g ∨ w.heap.size ≤ g) : Turned S w w' :=
  ⟨h.os, h.tape, h.output, h.size, fun k hk hn => h.block k hk (fun e => by
    obtain rfl : k = g := by injection e
    rcases hg with hg | hg
    · exact hn hg
    · omega)⟩
theorem Turned.drew (h : Turned S u w) : Turned S u w.drew := ⟨h.os, h.tape, h.output, h.size, h.block⟩
/-- A cell of another's block. -/
theorem Turned.cell (h : Turned S w w') {a : Addr} {x : Value} (ha : ¬ S a.block) (hc : w.cell? a = some x) : w'.cell? a = some x :=
  (World.cell?_of_block (h.block a.block (World.block_lt_of_cell? w a hc) ha)).trans hc
theorem Turned.below {B : Nat} (h : Turned S w w') (hB : B ≤ w.heap.size) (hS : ∀ j, S j → B ≤ j) : Below B w w' :=
  ⟨h.os, h.tape, h.output, h.size, fun k hk => h.block k (by omega) (fun hs => by have := hS k hs; omega)⟩
end

/-- A dictionary, each of its blocks in S. -/
structure DictOn (W : World) (S : Nat → Prop) (dp : Nat) (lim : Nat) (ps : List (List Int)) (tb : List Nat) (ta ba : Option Addr) (tc bc tg : Nat) : Prop where
  blk : W.heap[dp]? = some (.cells #[.int .i64 lim, .slice ta ps.flatten.length tc, .slice ba ps.length bc, .slice (some ⟨tg, 0, none⟩) tb.length tb.length] 50 (0, 0))
  rowT : RowW W 5 ta ps.flatten.length tc (cellsP ps)
  rowB : RowW W 3 ba ps.length bc (beginsP ps)
  tab : W.heap[tg]? = some (.cells (tb.map fun v : Nat => Value.int .u32 v).toArray 28 (0, 0))
  neG : tg ≠ dp
  neT : ∀ a, ta = some a → a.block ≠ dp ∧ a.block ≠ tg
  neB : ∀ a, ba = some a → a.block ≠ dp ∧ a.block ≠ tg
  neTB : ∀ a b, ta = some a → ba = some b → a.block ≠ b.block
  full : ∀ p ∈ ps, 0 < p.length
  bytes : ∀ p ∈ ps, ∀ c ∈ p, IsByte c
  flat : ps.flatten.length ≤ 1000000000000
  many : ps.length ≤ 2147483647
  sDp : S dp
  sTg : S tg
  sT : ∀ a, ta = some a → S a.block
  sB : ∀ a, ba = some a → S a.block
  lt : ∀ j, S j → j < W.heap.size

theorem cell_in {W : World} {g : Nat} {cs : Array Value} {t : TypeId} {fr : Nat × Nat} (h : W.heap[g]? = some (.cells cs t fr)) {j : Nat} {v : Value} (hv : cs[j]? = some v) : W.cell? ⟨g, j, none⟩ = some v := by
  unfold World.cell?
  rw [h]
  simpa using hv
theorem free_in {W : World} {g : Nat} {cs : Array Value} {t : TypeId} (h : W.heap[g]? = some (.cells cs t (0, 0))) (i : Nat) : W.frozen? ⟨g, i, none⟩ = false := by
  unfold World.frozen?
  rw [h]
  simp
theorem RowW.row {W : World} {e : TypeId} {ao : Option Addr} {n cap : Nat} {xs : List Value} (h : RowW W e ao n cap xs) (hn : 0 < n) : ∃ b, ao = some ⟨b, 0, none⟩ ∧ RowC W b 0 xs := by
  rcases h.2 with ⟨h0, h1, h2⟩ | ⟨g, cur, rfl, _⟩
  · omega
  · refine ⟨g, rfl, fun j u hu => ?_⟩
    have := h.cells j u hu
    have hadd : (⟨g, 0, none⟩ : Addr).add j = ⟨g, 0 + j, none⟩ := by unfold Addr.add; split <;> simp_all
    rwa [hadd] at this
theorem RowW.le {W : World} {e : TypeId} {ao : Option Addr} {n cap : Nat} {xs : List Value} (h : RowW W e ao n cap xs) : n ≤ cap := by
  rcases h.2 with ⟨h0, h1, h2⟩ | ⟨g, cur, _, _, h3, _⟩
  · omega
  · exact h3

section
variable {W W' : World} {S S' : Nat → Prop} {dp lim : Nat} {ps : List (List Int)} {tb : List Nat} {ta ba : Option Addr} {tc bc tg : Nat}
theorem DictOn.at_ (h : DictOn W S dp lim ps tb ta ba tc bc tg) : DictAt W dp lim ps tb ta ba tc bc tg where
  c0 := cell_in h.blk rfl
  c1 := cell_in h.blk rfl
  c2 := cell_in h.blk rfl
  c3 := cell_in h.blk rfl
  list := ⟨fun h0 => by obtain ⟨b, e, r⟩ := h.rowT.row h0; exact ⟨b, 0, e, r⟩, fun h0 => by obtain ⟨b, e, r⟩ := h.rowB.row h0; exact ⟨b, 0, e, r⟩, h.rowT.le, h.rowB.le, h.flat, by have := h.many; omega, h.full⟩
  table := fun j u hu => by
    rw [Nat.zero_add]
    exact cell_in h.tab (by simpa using hu)
  bytes := h.bytes
theorem DictOn.kept (h : DictOn W S dp lim ps tb ta ba tc bc tg) (hs : W.heap.size ≤ W'.heap.size) (k : ∀ j, S j → W'.heap[j]? = W.heap[j]?) : DictOn W' S dp lim ps tb ta ba tc bc tg where
  blk := by rw [k dp h.sDp]; exact h.blk
  rowT := h.rowT.kept fun a ha => k _ (h.sT a ha)
  rowB := h.rowB.kept fun a ha => k _ (h.sB a ha)
  tab := by rw [k tg h.sTg]; exact h.tab
  neG := h.neG
  neT := h.neT
  neB := h.neB
  neTB := h.neTB
  full := h.full
  bytes := h.bytes
  flat := h.flat
  many := h.many
  sDp := h.sDp
  sTg := h.sTg
  sT := h.sT
  sB := h.sB
  lt := fun j hj => Nat.lt_of_lt_of_le (h.lt j hj) hs
theorem DictOn.below (h : DictOn W S dp lim ps tb ta ba tc bc tg) (k : Below W.heap.size W W') : DictOn W' S dp lim ps tb ta ba tc bc tg := h.kept k.size fun j hj => k.block j (h.lt j hj)
/-- Others write: their blocks are none of these. -/
theorem DictOn.apart {T : Nat → Prop} (h : DictOn W S dp lim ps tb ta ba tc bc tg) (k : Turned T W W') (hn : ∀ j, S j → ¬ T j) : DictOn W' S dp lim ps tb ta ba tc bc tg := h.kept k.size fun j hj => k.block j (h.lt j hj) (hn j hj)
/-- With more blocks told its own. -/
theorem DictOn.wide (h : DictOn W S dp lim ps tb ta ba tc bc tg) (hs : ∀ j, S j → S' j) (hl : ∀ j, S' j → j < W.heap.size) : DictOn W S' dp lim ps tb ta ba tc bc tg :=
  { h with sDp := hs _ h.sDp, sTg := hs _ h.sTg, sT := fun a ha => hs _ (h.sT a ha), sB := fun a ha => hs _ (h.sB a ha), lt := hl }
/-- A slot of the table is written. -/
theorem DictOn.setTab (h : DictOn W S dp lim ps tb ta ba tc bc tg) (j v : Nat) : DictOn (W.setCell ⟨tg, j, none⟩ (.int .u32 v)) S dp lim ps (tb.set j v) ta ba tc bc tg where
  blk := by rw [Below.heap_setCell _ _ _ _ (Ne.symm h.neG), List.length_set]; exact h.blk
  rowT := h.rowT.kept fun a ha => Below.heap_setCell _ _ _ _ (h.neT a ha).2
  rowB := h.rowB.kept fun a ha => Below.heap_setCell _ _ _ _ (h.neB a ha).2
  tab := by
    rw [heap_setCell_same W tg j _ _ _ h.tab]
    congr 2
    apply Array.ext'
    simp [List.map_set]
  neG := h.neG
  neT := h.neT
  neB := h.neB
  neTB := h.neTB
  full := h.full
  bytes := h.bytes
  flat := h.flat
  many := h.many
  sDp := h.sDp
  sTg := h.sTg
  sT := h.sT
  sB := h.sB
  lt := fun k hk => by have := h.lt k hk; simpa [World.setCell] using this
end
end Go.Proofs.YtlamdhklfibjmaaDoor
