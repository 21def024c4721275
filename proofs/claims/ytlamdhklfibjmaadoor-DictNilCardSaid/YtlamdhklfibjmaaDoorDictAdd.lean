/-
  CONTRACT OF (*list).add.
-/
import Derived.Test.YtlamdhklfibjmaaDoorDictOn
import Derived.Test.YtlamdhklfibjmaaDoorDictNew
import Derived.Laws.MakeOwn
import Derived.Deep.RegionLaw
namespace Go.Proofs.YtlamdhklfibjmaaDoor
open Go.RowKit
open Utf Term
set_option linter.unusedVariables false
set_option linter.unusedSimpArgs false

set_option maxRecDepth 100000 in
set_option maxHeartbeats 2000000 in
theorem listFirst_any (ta ba : Option Addr) (tc bc : Nat) (ps : List (List Int)) (i : Nat) (hi : i < ps.length) (w : World) (h : ListP w ta tc ba bc ps) :
    Calls Tryd.prog 29 #[.agg #[.slice ta ps.flatten.length tc, .slice ba ps.length bc], .int .i64 i] w fun e w' => e = .returned (.agg #[.slice ta (offP ps i) (offP ps i), .slice ba i i]) ∧ Below w.heap.size w w' := by
  obtain ⟨bb, bo, rfl, _⟩ := h.begins (by omega)
  obtain ⟨p0, hp0⟩ : ∃ p, ps[i]? = some p := ⟨_, List.getElem?_eq_getElem hi⟩
  have hle := offP_le (ps := ps) (i := i + 1) (by omega)
  rw [offP_next hp0] at hle
  have hpl : 0 < p0.length := h.full p0 (List.mem_of_getElem? hp0)
  obtain ⟨b, o, rfl, _⟩ := h.terms (by omega)
  have HB0 := Lib.hid (below_step (below_new w (.cells #[.slice (some ⟨b, o, none⟩) ps.flatten.length tc, .slice (some ⟨bb, bo, none⟩) ps.length bc] 47)) (below_new _ (.cells #[.slice none 0 0, .slice none 0 0] 47)))
  have ME := Lib.hid (listEnd_any (some ⟨b, o, none⟩) (some ⟨bb, bo, none⟩) tc bc ps i (by omega) _ (h.below HB0.out))
  have htc := h.tcap
  have htm := h.tmax
  have hbm := h.bmax
  have hbc := h.bcap
  have hs0 : (w.alloc (.cells #[.slice (some ⟨b, o, none⟩) ps.flatten.length tc, .slice (some ⟨bb, bo, none⟩) ps.length bc] 47)).heap.size = w.heap.size + 1 := by simp
  have C0 : Hid (((w.alloc (.cells #[.slice (some ⟨b, o, none⟩) ps.flatten.length tc, .slice (some ⟨bb, bo, none⟩) ps.length bc] 47)).alloc (.cells #[.slice none 0 0, .slice none 0 0] 47)).heap[w.heap.size]? = some (.cells #[.slice (some ⟨b, o, none⟩) ps.flatten.length tc, .slice (some ⟨bb, bo, none⟩) ps.length bc] 47 (0, 0))) := Lib.hid (by
    rw [Below.heap_alloc _ _ _ (by rw [hs0]; omega)]
    exact heap_alloc_new w _)
  have C1 : Hid (((w.alloc (.cells #[.slice (some ⟨b, o, none⟩) ps.flatten.length tc, .slice (some ⟨bb, bo, none⟩) ps.length bc] 47)).alloc (.cells #[.slice none 0 0, .slice none 0 0] 47)).heap[w.heap.size + 1]? = some (.cells #[.slice none 0 0, .slice none 0 0] 47 (0, 0))) := Lib.hid (by
    have := heap_alloc_new (w.alloc (.cells #[.slice (some ⟨b, o, none⟩) ps.flatten.length tc, .slice (some ⟨bb, bo, none⟩) ps.length bc] 47)) (.cells #[.slice none 0 0, .slice none 0 0] 47)
    rwa [hs0] at this)
  obtain ⟨n, hn⟩ : ∃ n, n = ps.length := ⟨_, rfl⟩
  obtain ⟨N, hN⟩ : ∃ N, N = ps.flatten.length := ⟨_, rfl⟩
  rw [← hn] at hi HB0 ME hbc hbm C0 C1 ⊢
  rw [← hN] at HB0 hle htc htm ME C0 C1 ⊢
  generalize offP ps i = R at ME hle ⊢
  clear hn hN h hp0 hs0
  go_enter Tryd.func29, Tryd.ntmps29
  go_wp2_with (go_at_call 37; refine ME.out.mono ?_; rintro e w1 ⟨rfl, hB1⟩)
  have HBW := Lib.hid (below_step HB0.out hB1)
  have D0 : Hid (w1.heap[w.heap.size]? = some (.cells #[.slice (some ⟨b, o, none⟩) N tc, .slice (some ⟨bb, bo, none⟩) n bc] 47 (0, 0))) := Lib.hid ((hB1.block _ (Array.getElem?_eq_some_iff.1 C0.out).1).trans C0.out)
  have D1 : Hid (w1.heap[w.heap.size + 1]? = some (.cells #[.slice none 0 0, .slice none 0 0] 47 (0, 0))) := Lib.hid ((hB1.block _ (Array.getElem?_eq_some_iff.1 C1.out).1).trans C1.out)
  have x0 := cell_in D0.out (j := 0) rfl
  have x1 := cell_in D0.out (j := 1) rfl
  have y0 := cell_in D1.out (j := 0) rfl
  have y1 := cell_in D1.out (j := 1) rfl
  have kf : ∀ j, w1.frozen? ⟨w.heap.size + 1, j, none⟩ = false := fun j => free_in D1.out j
  have a1 : (R : Int) ≤ (tc : Int) := by omega
  have a2 : R ≤ tc := by omega
  have a3 : (i : Int) ≤ (bc : Int) := by omega
  have a4 : i ≤ bc := by omega
  have a5 : (0 : Int) ≤ (R : Int) := by omega
  have a6 : (0 : Int) ≤ (i : Int) := by omega
  clear hB1 C0 C1 HB0 ME hle htc htm hbm hbc hpl hi
  go_region
  have HF : Hid (Below w.heap.size w ((w1.setCell ⟨w.heap.size + 1, 0, none⟩ (.slice (some ⟨b, o, none⟩) R R)).setCell ⟨w.heap.size + 1, 1, none⟩ (.slice (some ⟨bb, bo, none⟩) i i)).drew) :=
    Lib.hid (((HBW.out.setCell (p := ⟨w.heap.size + 1, 0, none⟩) (by simp) _).setCell (p := ⟨w.heap.size + 1, 1, none⟩) (by simp) _).drew)
  have HH : Hid (((w1.setCell ⟨w.heap.size + 1, 0, none⟩ (.slice (some ⟨b, o, none⟩) R R)).setCell ⟨w.heap.size + 1, 1, none⟩ (.slice (some ⟨bb, bo, none⟩) i i)).drew.heap[w.heap.size + 1]? = some (.cells #[.slice (some ⟨b, o, none⟩) R R, .slice (some ⟨bb, bo, none⟩) i i] 47 (0, 0))) :=
    Lib.hid (heap_setCell_same _ _ _ _ _ _ (heap_setCell_same _ _ _ _ _ _ D1.out))
  go_wp2_with fail
  refine bodyPost_ret (results_cell_row rfl _ _ (w.heap.size + 1) 47 #[.slice (some ⟨b, o, none⟩) R R, .slice (some ⟨bb, bo, none⟩) i i] (0, 0) _ rfl HH.out Tryd.underlying47 rfl (by kernel_rfl)) rfl ?_
  exact ⟨rfl, HF.out⟩

theorem step_append_roww {P : Program} {ops : Array Oper} {o : Oper} {a : Act} {w : World} {K : Act → World → Prop} {Q : Exit → Act → World → Prop} {E : Prop} (hgd : o.guard = none) (s x : Operand) (t : TypeId)
    (ho : o.op = .call { callee := .builtin .append, args := #[s, x], argTypes := #[t, t] })
    (e : TypeId) (i : TypeInfo) (z : Value) (bytes : Nat) (ht : P.underlying t = some (.slice e)) (hi : P.info? e = some i) (hz : i.zero = some z)
    (hsize : i.size = 1) (hby : i.bytes = bytes) (hzs : z.cells.size = 1)
    (ao : Option Addr) (n cap : Nat) (xs : List Value) (hs : a.eval s = .slice ao n cap) (hown : RowW w e ao n cap xs)
    (ad : Addr) (m c : Nat) (hm0 : 0 < m) (news : List Value) (hx : a.eval x = .slice (some ad) m c) (hl : news.length = m) (hnews : ∀ j u, news[j]? = some u → w.cell? (ad.add j) = some u) (h1 : ∀ u ∈ news, u.oneCell' = true)
    (h63 : n + m ≤ maxLen) (hbytes : (n + m) * bytes ≤ 140737488355328)
    (h : ∀ g cap' w', RowW w' e (some ⟨g, 0, none⟩) (n + m) cap' (xs ++ news) → w.grownBy w' (some g) → (ao = some ⟨g, 0, none⟩ ∨ w.heap.size ≤ g) → K (a.put o.dst (.slice (some ⟨g, 0, none⟩) (n + m) cap')) w') :
    if Region.wanted o (yielded ops a.tmps) = true then Oper.wp P o a w K Q else E := by
  have hw : Region.wanted o (yielded ops a.tmps) = true := by simp [Region.wanted, hgd]
  rw [if_pos hw]
  obtain ⟨g, cap', w', hr, h2, h3, h4⟩ := run_append_roww (P := P) w t o.type e i z bytes ht hi hz hsize hby hzs ao n cap xs hown ad m c hm0 news hl hnews h1 h63 hbytes
  unfold Oper.wp execOp
  simp only [ho, resolve, invoke, builtin, Sem.run_bind, Sem.run_pure, Result.andThen_ok, List.map_toArray, List.map_cons, List.map_nil, hs, hx, hr]
  exact h g cap' w' h2 h3 h4

theorem info_int : (Tryd.prog.info? 3).map (fun i => (i.zero, i.size, i.bytes)) = some (some (.int .i64 0), 1, 8) := by kernel_rfl
theorem info_byteD : (Tryd.prog.info? 5).map (fun i => (i.zero, i.size, i.bytes)) = some (some (.int .u8 0), 1, 1) := by kernel_rfl

theorem cellsP_add (ps : List (List Int)) (p : List Int) : cellsP (ps ++ [p]) = cellsP ps ++ p.map (Value.int .u8) := by
  unfold cellsP
  rw [List.flatten_append, List.map_append]
  simp
theorem flat_add (ps : List (List Int)) (p : List Int) : (ps ++ [p]).flatten.length = ps.flatten.length + p.length := by
  rw [List.flatten_append, List.length_append]
  simp
theorem offP_add {ps : List (List Int)} {p : List Int} {i : Nat} (h : i ≤ ps.length) : offP (ps ++ [p]) i = offP ps i := by
  unfold offP
  rw [List.take_append_of_le_length h]
theorem beginsP_add (ps : List (List Int)) (p : List Int) : beginsP (ps ++ [p]) = beginsP ps ++ [.int .i64 ps.flatten.length] := by
  unfold beginsP
  rw [List.length_append, List.length_singleton, List.range_succ, List.map_append, List.map_singleton, offP_add (Nat.le_refl _), offP_all]
  congr 1
  refine List.map_congr_left fun i hi => ?_
  rw [offP_add (Nat.le_of_lt (List.mem_range.1 hi))]

/-- Between the two appends. -/
structure AddMid (W : World) (S : Nat → Prop) (dp lim : Nat) (ps : List (List Int)) (p : List Int) (tb : List Nat) (ta : Option Addr) (tc tg g1 cap1 : Nat) (w1 : World) : Prop where
  blk : w1.heap[dp]? = some (.cells #[.int .i64 lim, .slice ta ps.flatten.length tc, .slice (some ⟨g1, 0, none⟩) (ps.length + 1) cap1, .slice (some ⟨tg, 0, none⟩) tb.length tb.length] 50 (0, 0))
  rowT : RowW w1 5 ta ps.flatten.length tc (cellsP ps)
  rowB : RowW w1 3 (some ⟨g1, 0, none⟩) (ps.length + 1) cap1 (beginsP (ps ++ [p]))
  tab : w1.heap[tg]? = some (.cells (tb.map fun v : Nat => Value.int .u32 v).toArray 28 (0, 0))
  ne1 : g1 ≠ dp
  ne2 : g1 ≠ tg
  ne3 : ∀ a, ta = some a → a.block ≠ g1
  own : S g1 ∨ W.heap.size ≤ g1
  lt : g1 < w1.heap.size
  turned : Turned S W w1

section
variable {W w1 w2 : World} {S : Nat → Prop} {dp lim : Nat} {ps : List (List Int)} {p : List Int} {tb : List Nat} {ta ba : Option Addr} {tc bc tg g1 cap1 g2 cap2 : Nat}
theorem AddMid.of (D : DictOn W S dp lim ps tb ta ba tc bc tg) (hrow : RowW w1 3 (some ⟨g1, 0, none⟩) (ps.length + 1) cap1 (beginsP ps ++ [.int .i64 ps.flatten.length])) (hgr : W.grownBy w1 (some g1)) (hor : ba = some ⟨g1, 0, none⟩ ∨ W.heap.size ≤ g1) :
    AddMid W S dp lim ps p tb ta tc tg g1 cap1 (w1.setCell ⟨dp, 2, none⟩ (.slice (some ⟨g1, 0, none⟩) (ps.length + 1) cap1)) := by
  have hdp := D.lt dp D.sDp
  have htg := D.lt tg D.sTg
  have e1 : g1 ≠ dp := by
    rcases hor with h | h
    · exact (D.neB _ h).1
    · omega
  have e2 : g1 ≠ tg := by
    rcases hor with h | h
    · exact (D.neB _ h).2
    · omega
  have e3 : ∀ a, ta = some a → a.block ≠ g1 := fun a ha => by
    rcases hor with h | h
    · exact D.neTB _ _ ha h
    · have := D.lt _ (D.sT a ha)
      omega
  have hown : S g1 ∨ W.heap.size ≤ g1 := hor.imp (fun h => D.sB _ h) id
  have h1 : w1.heap[dp]? = W.heap[dp]? := hgr.block dp hdp (by simp; omega)
  have hsz : (w1.setCell ⟨dp, 2, none⟩ (.slice (some ⟨g1, 0, none⟩) (ps.length + 1) cap1)).heap.size = w1.heap.size := by simp [World.setCell]
  refine ⟨?_, ?_, ?_, ?_, e1, e2, e3, hown, ?_, (Turned.grown hgr hown).trans (Turned.set (a := ⟨dp, 2, none⟩) D.sDp _)⟩
  · rw [heap_setCell_same w1 dp 2 _ _ _ (h1.trans D.blk)]
    rfl
  · refine (D.rowT.kept fun a ha => ?_)
    rw [Below.heap_setCell _ _ _ _ (D.neT a ha).1]
    exact hgr.block _ (D.lt _ (D.sT a ha)) (fun e => e3 a ha (Option.some.inj e))
  · rw [beginsP_add]
    refine hrow.kept fun a ha => ?_
    obtain rfl : _ = a := Option.some.inj ha
    exact Below.heap_setCell _ _ _ _ e1
  · rw [Below.heap_setCell _ _ _ _ D.neG, hgr.block tg htg (by simp; omega)]
    exact D.tab
  · rw [hsz]
    exact hrow.lt rfl
theorem AddMid.end_ (D : DictOn W S dp lim ps tb ta ba tc bc tg) (M : AddMid W S dp lim ps p tb ta tc tg g1 cap1 w1) (hp : 0 < p.length) (hpb : ∀ c ∈ p, IsByte c) (hflat : ps.flatten.length + p.length ≤ 1000000000000) (hmany : ps.length + 1 ≤ 2147483647)
    (hrow : RowW w2 5 (some ⟨g2, 0, none⟩) (ps.flatten.length + p.length) cap2 (cellsP ps ++ p.map (Value.int .u8))) (hgr : w1.grownBy w2 (some g2)) (hor : ta = some ⟨g2, 0, none⟩ ∨ w1.heap.size ≤ g2) :
    DictOn (w2.setCell ⟨dp, 1, none⟩ (.slice (some ⟨g2, 0, none⟩) (ps.flatten.length + p.length) cap2)) (growS S W (w2.setCell ⟨dp, 1, none⟩ (.slice (some ⟨g2, 0, none⟩) (ps.flatten.length + p.length) cap2))) dp lim (ps ++ [p]) tb (some ⟨g2, 0, none⟩) (some ⟨g1, 0, none⟩) cap2 cap1 tg ∧
    Turned S W (w2.setCell ⟨dp, 1, none⟩ (.slice (some ⟨g2, 0, none⟩) (ps.flatten.length + p.length) cap2)) := by
  have hWs := M.turned.size
  have hgs := hgr.size
  have hdp := D.lt dp D.sDp
  have htg := D.lt tg D.sTg
  have hg1 := M.lt
  have hg2 : g2 < w2.heap.size := hrow.lt rfl
  have e1 : g2 ≠ dp := by
    rcases hor with h | h
    · exact (D.neT _ h).1
    · omega
  have e2 : g2 ≠ tg := by
    rcases hor with h | h
    · exact (D.neT _ h).2
    · omega
  have e3 : g2 ≠ g1 := by
    rcases hor with h | h
    · exact M.ne3 _ h
    · omega
  have hown : S g2 ∨ W.heap.size ≤ g2 := by
    rcases hor with h | h
    · exact .inl (D.sT _ h)
    · exact .inr (by omega)
  have hsz : (w2.setCell ⟨dp, 1, none⟩ (.slice (some ⟨g2, 0, none⟩) (ps.flatten.length + p.length) cap2)).heap.size = w2.heap.size := by simp [World.setCell]
  have h1 : w2.heap[dp]? = w1.heap[dp]? := hgr.block dp (by omega) (by simp; omega)
  refine ⟨⟨?_, ?_, ?_, ?_, D.neG, ?_, ?_, ?_, ?_, ?_, ?_, ?_, .inl D.sDp, .inl D.sTg, ?_, ?_, ?_⟩, ?_⟩
  · rw [heap_setCell_same w2 dp 1 _ _ _ (h1.trans M.blk), flat_add, List.length_append]
    rfl
  · rw [flat_add, cellsP_add]
    refine hrow.kept fun a ha => ?_
    obtain rfl : _ = a := Option.some.inj ha
    exact Below.heap_setCell _ _ _ _ e1
  · rw [List.length_append]
    refine M.rowB.kept fun a ha => ?_
    obtain rfl : _ = a := Option.some.inj ha
    rw [Below.heap_setCell _ _ _ _ M.ne1]
    exact hgr.block g1 hg1 (fun e => e3 (Option.some.inj e).symm)
  · rw [Below.heap_setCell _ _ _ _ D.neG, hgr.block tg (by omega) (by simp; omega)]
    exact M.tab
  · intro a ha
    obtain rfl : _ = a := Option.some.inj ha
    exact ⟨e1, e2⟩
  · intro a ha
    obtain rfl : _ = a := Option.some.inj ha
    exact ⟨M.ne1, M.ne2⟩
  · intro a b ha hb
    obtain rfl : _ = a := Option.some.inj ha
    obtain rfl : _ = b := Option.some.inj hb
    exact e3
  · intro q hq
    rcases List.mem_append.1 hq with hq | hq
    · exact D.full q hq
    · obtain rfl : q = p := by simpa using hq
      exact hp
  · intro q hq
    rcases List.mem_append.1 hq with hq | hq
    · exact D.bytes q hq
    · obtain rfl : q = p := by simpa using hq
      exact hpb
  · rw [flat_add]; exact hflat
  · rw [List.length_append, List.length_singleton]; exact hmany
  · intro a ha
    obtain rfl : _ = a := Option.some.inj ha
    exact hown.imp id fun h => ⟨h, by rw [hsz]; exact hg2⟩
  · intro a ha
    obtain rfl : _ = a := Option.some.inj ha
    exact M.own.imp id fun h => ⟨h, by rw [hsz]; show g1 < _; omega⟩
  · intro j hj
    rw [hsz]
    rcases hj with hj | hj
    · have := D.lt j hj; omega
    · rw [hsz] at hj; exact hj.2
  · refine ⟨hgr.os.trans M.turned.os, hgr.tape.trans M.turned.tape, hgr.output.trans M.turned.output, by rw [hsz]; omega, fun j hj hn => ?_⟩
    have hne : j ≠ g2 := fun e => by
      rcases hown with h | h
      · exact hn (e ▸ h)
      · omega
    have hnd : j ≠ dp := fun e => hn (e ▸ D.sDp)
    rw [Below.heap_setCell _ _ _ _ hnd, hgr.block j (by omega) (fun e => hne (Option.some.inj e))]
    exact M.turned.block j hj hn
end

theorem add_stays {W w1 w2 : World} {S : Nat → Prop} {dp lim : Nat} {ps : List (List Int)} {p : List Int} {tb : List Nat} {ta ba : Option Addr} {tc bc tg g1 cap1 g2 : Nat} {x : Value} (D : DictOn W S dp lim ps tb ta ba tc bc tg) (M : AddMid W S dp lim ps p tb ta tc tg g1 cap1 w1) (h1 : w1.grownBy w2 (some g2)) (h2 : ta = some ⟨g2, 0, none⟩ ∨ w1.heap.size ≤ g2)
    (hx : w1.cell? ⟨dp, 1, none⟩ = some x) : w2.cell? ⟨dp, 1, none⟩ = some x ∧ ∀ j, w2.frozen? ⟨dp, j, none⟩ = false := by
  have hdp := D.lt dp D.sDp
  have hs := M.turned.size
  have hne : g2 ≠ dp := by
    rcases h2 with h | h
    · exact (D.neT _ h).1
    · omega
  have e : w2.heap[dp]? = w1.heap[dp]? := h1.block dp (by omega) (fun e => hne (Option.some.inj e).symm)
  exact ⟨(World.cell?_of_block (a := ⟨dp, 1, none⟩) e).trans hx, fun j => (World.frozen?_of_block (a := ⟨dp, j, none⟩) e).trans (free_in M.blk j)⟩
theorem add_done {w W w' : World} {S : Nat → Prop} {dp lim : Nat} {ps ps' : List (List Int)} {tb : List Nat} {ta ba ta' ba' : Option Addr} {tc bc tc' bc' tg : Nat} (hB : Below w.heap.size w W) (D : DictOn W S dp lim ps tb ta ba tc bc tg)
    (h : DictOn w' (growS S W w') dp lim ps' tb ta' ba' tc' bc' tg ∧ Turned S W w') (hlt : ∀ j, S j → j < w.heap.size) : ∃ ta' ba' tc' bc', DictOn w' (growS S w w') dp lim ps' tb ta' ba' tc' bc' tg ∧ Turned S w w' := by
  have h1 := hB.size
  have h2 := h.2.size
  refine ⟨_, _, _, _, h.1.wide (fun j hj => ?_) (fun j hj => ?_), (Turned.of_below hB).trans h.2⟩
  · rcases hj with hj | hj
    · exact .inl hj
    · exact .inr ⟨by omega, hj.2⟩
  · rcases hj with hj | hj
    · have := hlt j hj; omega
    · exact hj.2
theorem one_bytes (p : List Int) : ∀ u ∈ p.map (Value.int .u8), u.oneCell' = true := by
  intro u hu
  obtain ⟨x, _, rfl⟩ := List.mem_map.1 hu
  rfl

set_option maxRecDepth 100000 in
set_option maxHeartbeats 2000000 in
theorem listAdd_any (S : Nat → Prop) (dp lim : Nat) (ps : List (List Int)) (tb : List Nat) (ta ba : Option Addr) (tc bc tg : Nat) (p : List Int) (hp : 0 < p.length) (hpb : ∀ c ∈ p, IsByte c)
    (hflat : ps.flatten.length + p.length ≤ 1000000000000) (hmany : ps.length + 1 ≤ 2147483647) (g o c : Nat) (hg : ¬ S g)
    (w : World) (D : DictOn w S dp lim ps tb ta ba tc bc tg) (hr : RowC w g o (p.map (Value.int .u8))) :
    Calls Tryd.prog 25 #[.pointer (some ⟨dp, 1, none⟩), .slice (some ⟨g, o, none⟩) p.length c] w fun e w' => e = .returned (.tuple #[]) ∧ ∃ ta' ba' tc' bc', DictOn w' (growS S w w') dp lim (ps ++ [p]) tb ta' ba' tc' bc' tg ∧ Turned S w w' := by
  obtain ⟨i0, hi, hz0, hz1, hz2⟩ := info_parts3u info_int
  obtain ⟨i1, hi1, hz10, hz11, hz12⟩ := info_parts3u info_byteD
  have HB0 : Hid (Below w.heap.size w (w.alloc (.cells #[.int .i64 ps.flatten.length] 3)).drew) := Lib.hid (below_new _ _).drew
  have HD := Lib.hid (D.below HB0.out)
  have HROW := Lib.hid hr
  have HLT := Lib.hid D.lt
  have c1 := HD.out.at_.c1
  have c2 := HD.out.at_.c2
  have d1 := D.at_.c1
  have d2 := D.at_.c2
  have HR0 := Lib.hid HD.out.rowB
  have HA : Hid (∀ g1 cap1 w1, RowW w1 3 (some ⟨g1, 0, none⟩) (ps.length + 1) cap1 (beginsP ps ++ [.int .i64 ps.flatten.length]) → (w.alloc (.cells #[.int .i64 ps.flatten.length] 3)).drew.grownBy w1 (some g1) → (ba = some ⟨g1, 0, none⟩ ∨ (w.alloc (.cells #[.int .i64 ps.flatten.length] 3)).drew.heap.size ≤ g1) → AddMid (w.alloc (.cells #[.int .i64 ps.flatten.length] 3)).drew S dp lim ps p tb ta tc tg g1 cap1 (w1.setCell ⟨dp, 2, none⟩ (.slice (some ⟨g1, 0, none⟩) (ps.length + 1) cap1))) := Lib.hid fun _ _ _ h1 h2 h3 => AddMid.of HD.out h1 h2 h3
  have HNEW : Hid (∀ (j : Nat) (u : Value), [Value.int .i64 ps.flatten.length][j]? = some u → (w.alloc (.cells #[.int .i64 ps.flatten.length] 3)).drew.cell? ((⟨w.heap.size, 0, none⟩ : Addr).add j) = some u) := Lib.hid (cells_new w #[.int .i64 ps.flatten.length] 3 [.int .i64 ps.flatten.length] (fun j u h => by simpa using h))
  have HFR : Hid (∀ j, (w.alloc (.cells #[.int .i64 ps.flatten.length] 3)).drew.frozen? ⟨dp, j, none⟩ = false) := Lib.hid fun j => free_in HD.out.blk j
  have HNE : Hid (∀ g1, (ba = some ⟨g1, 0, none⟩ ∨ (w.alloc (.cells #[.int .i64 ps.flatten.length] 3)).drew.heap.size ≤ g1) → g1 ≠ dp) := Lib.hid fun g1 h => by
    rcases h with h | h
    · exact (HD.out.neB _ h).1
    · have := HD.out.lt dp HD.out.sDp
      omega
  have HST : Hid (∀ (g1 : Nat) (w1 : World), (w.alloc (.cells #[.int .i64 ps.flatten.length] 3)).drew.grownBy w1 (some g1) → (ba = some ⟨g1, 0, none⟩ ∨ (w.alloc (.cells #[.int .i64 ps.flatten.length] 3)).drew.heap.size ≤ g1) → w1.cell? ⟨dp, 2, none⟩ = some (.slice ba ps.length bc) ∧ ∀ j, w1.frozen? ⟨dp, j, none⟩ = false) := Lib.hid fun g1 w1 h1 h2 => by
    have e : w1.heap[dp]? = _ := h1.block dp (HD.out.lt dp HD.out.sDp) (fun e => HNE.out g1 h2 (Option.some.inj e).symm)
    exact ⟨(World.cell?_of_block (a := ⟨dp, 2, none⟩) e).trans c2, fun j => (World.frozen?_of_block (a := ⟨dp, j, none⟩) e).trans (HFR.out j)⟩
  have HT2 : Hid (ps.flatten.length + p.length ≤ maxLen ∧ (ps.flatten.length + p.length) * 1 ≤ 140737488355328) := Lib.hid ⟨by unfold maxLen; omega, by omega⟩
  have HSR : Hid (∀ g1 cap1 w1, AddMid (w.alloc (.cells #[.int .i64 ps.flatten.length] 3)).drew S dp lim ps p tb ta tc tg g1 cap1 w1 → ∀ (j : Nat) (u : Value), (p.map (Value.int .u8))[j]? = some u → w1.cell? ((⟨g, o, none⟩ : Addr).add j) = some u) := Lib.hid fun g1 cap1 w1 M j u hu => by
    have h1 := HROW.out j u hu
    have hlt := World.block_lt_of_cell? _ _ h1
    have h2 : (w.alloc (.cells #[.int .i64 ps.flatten.length] 3)).drew.cell? ⟨g, o + j, none⟩ = some u := cell_below HB0.out h1
    have hadd : (⟨g, o, none⟩ : Addr).add j = ⟨g, o + j, none⟩ := by unfold Addr.add; split <;> simp_all
    rw [hadd]
    exact M.turned.cell hg h2
  have HT1 : Hid (ps.length + 1 ≤ maxLen ∧ (ps.length + 1) * 8 ≤ 140737488355328) := Lib.hid ⟨by unfold maxLen; omega, by omega⟩
  generalize hN : ps.flatten.length = N at c1 c2 d1 d2 HNEW HB0 HD HFR HA HNE HR0 HST HSR HT2
  generalize hn : ps.length = n at c1 c2 d1 d2 HA HR0 HT1 HST
  have HN := Lib.hid hN
  have Hn := Lib.hid hn
  clear D hr hN hn
  have dd1 : w.drew.cell? ⟨dp, 1, none⟩ = some (.slice ta N tc) := d1
  have dd2 : w.drew.cell? ⟨dp, 2, none⟩ = some (.slice ba n bc) := d2
  go_enter Tryd.func25, Tryd.ntmps25
  go_wp2_with fail
  go_region_law ((refine step_append_roww rfl (.tmp 8) (.tmp 14) 45 (by rfl) 3 i0 (.int .i64 0) 8 Tryd.underlying45 hi hz0 hz1 hz2 rfl ba n bc (beginsP ps) (by simp [Act.eval, Act.put]) HR0.out ⟨w.heap.size, 0, none⟩ 1 1 (by omega) [.int .i64 N] (by simp [Act.eval, Act.put]) rfl HNEW.out (by intro u hu; simp at hu; subst hu; rfl) HT1.out.1 HT1.out.2 ?_; intro g1 cap1 w1 hrow1 hgr1 hor1; have q1 := (HST.out g1 w1 hgr1 hor1).1; have q2 := (HST.out g1 w1 hgr1 hor1).2))
  all_goals
    have M := HA.out g1 cap1 w1 hrow1 hgr1 hor1
    clear dd1 dd2 c1 c2 d1 d2 q1 q2 hrow1 hgr1 hor1
    have HM := Lib.hid M
    have x1 := cell_in M.blk (j := 1) rfl
    rw [HN.out] at x1
    have HT0 := Lib.hid M.rowT
    have HSRC := Lib.hid (HSR.out _ _ _ M)
    have HS2 : Hid (∀ (g2 : Nat) (w2 : World), (w1.setCell ⟨dp, 2, none⟩ (.slice (some ⟨g1, 0, none⟩) (n + 1) cap1)).grownBy w2 (some g2) → (ta = some ⟨g2, 0, none⟩ ∨ (w1.setCell ⟨dp, 2, none⟩ (.slice (some ⟨g1, 0, none⟩) (n + 1) cap1)).heap.size ≤ g2) → w2.cell? ⟨dp, 1, none⟩ = some (.slice ta N tc) ∧ ∀ j, w2.frozen? ⟨dp, j, none⟩ = false) := Lib.hid fun g2 w2 h1 h2 => add_stays HD.out HM.out h1 h2 x1
    clear M
    generalize hw1 : w1.setCell ⟨dp, 2, none⟩ (.slice (some ⟨g1, 0, none⟩) (n + 1) cap1) = w1' at *
    clear hw1
    rw [HN.out] at HT0
    go_wp2_with (at_builtin; refine wpList_append_roww _ rfl _ _ 44 rfl 5 i1 (.int .u8 0) 1 Tryd.underlying44 hi1 hz10 hz11 hz12 rfl ta N tc (cellsP ps) rfl HT0.out ⟨g, o, none⟩ p.length c hp (p.map (Value.int .u8)) rfl (by simp) HSRC.out (one_bytes p) HT2.out.1 HT2.out.2 ?_; intro g2 cap2 w2 hrow2 hgr2 hor2; have r1 := (HS2.out g2 w2 hgr2 hor2).1; have r2 := (HS2.out g2 w2 hgr2 hor2).2)
    have HF : Hid (∃ ta' ba' tc' bc', DictOn (w2.setCell ⟨dp, 1, none⟩ (.slice (some ⟨g2, 0, none⟩) (N + p.length) cap2)) (growS S w (w2.setCell ⟨dp, 1, none⟩ (.slice (some ⟨g2, 0, none⟩) (N + p.length) cap2))) dp lim (ps ++ [p]) tb ta' ba' tc' bc' tg ∧ Turned S w (w2.setCell ⟨dp, 1, none⟩ (.slice (some ⟨g2, 0, none⟩) (N + p.length) cap2))) := Lib.hid (by
      have h := AddMid.end_ (g2 := g2) (cap2 := cap2) (w2 := w2) HD.out HM.out hp hpb hflat hmany
      rw [HN.out] at h
      exact add_done HB0.out HD.out (h hrow2 hgr2 hor2) HLT.out)
    clear hrow2 hgr2 hor2 r1 r2
    go_end0
    exact ⟨rfl, HF.out⟩
end Go.Proofs.YtlamdhklfibjmaaDoor
