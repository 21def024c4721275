/-
  CONTRACT OF (*Dict).enter.
-/
import Derived.Test.YtlamdhklfibjmaaDoorDictAdd
namespace Go.Proofs.YtlamdhklfibjmaaDoor
open Go.RowKit
open Utf Term
set_option linter.unusedVariables false
set_option linter.unusedSimpArgs false

theorem box3_start {w u : World} {dp : Nat} {x1 x2 x3 : Value} (h : w.cell? ⟨dp, 1, none⟩ = some x1 ∧ w.cell? ⟨dp, 2, none⟩ = some x2 ∧ w.cell? ⟨dp, 3, none⟩ = some x3) (k : Below w.heap.size w u) :
    u.cell? ⟨dp, 1, none⟩ = some x1 ∧ u.cell? ⟨dp, 2, none⟩ = some x2 ∧ u.cell? ⟨dp, 3, none⟩ = some x3 := ⟨cell_below k h.1, cell_below k h.2.1, cell_below k h.2.2⟩
theorem box3_set {u : World} {dp tg j : Nat} {x x1 x2 x3 : Value} (h : u.cell? ⟨dp, 1, none⟩ = some x1 ∧ u.cell? ⟨dp, 2, none⟩ = some x2 ∧ u.cell? ⟨dp, 3, none⟩ = some x3) (hne : tg ≠ dp) :
    (u.setCell ⟨tg, j, none⟩ x).cell? ⟨dp, 1, none⟩ = some x1 ∧ (u.setCell ⟨tg, j, none⟩ x).cell? ⟨dp, 2, none⟩ = some x2 ∧ (u.setCell ⟨tg, j, none⟩ x).cell? ⟨dp, 3, none⟩ = some x3 := by
  have e : (u.setCell ⟨tg, j, none⟩ x).heap[dp]? = u.heap[dp]? := Below.heap_setCell _ _ _ _ (Ne.symm hne)
  exact ⟨(World.cell?_of_block (a := ⟨dp, 1, none⟩) e).trans h.1, (World.cell?_of_block (a := ⟨dp, 2, none⟩) e).trans h.2.1, (World.cell?_of_block (a := ⟨dp, 3, none⟩) e).trans h.2.2⟩

set_option maxRecDepth 100000 in
set_option maxHeartbeats 4000000 in
theorem enter_room (S : Nat → Prop) (dp lim : Nat) (ps : List (List Int)) (p : List Int) (tb : List Nat) (ta ba : Option Addr) (tc bc tg sm : Nat) (hsm : sm ≤ 40) (hsz : tb.length = 2 ^ sm) (I : Dict.Inv hashN tb ps) (hp : p ∉ ps) (hroom : 2 * (ps.length + 1) < tb.length)
    (w : World) (D : DictOn w S dp lim (ps ++ [p]) tb ta ba tc bc tg) :
    Calls Tryd.prog 26 #[.pointer (some ⟨dp, 0, none⟩), .int .i64 ((ps.length : Int) + 1)] w fun e w' => e = .returned (.tuple #[]) ∧ ∃ tb', DictOn w' (growS S w w') dp lim (ps ++ [p]) tb' ta ba tc bc tg ∧ Turned S w w' ∧ tb'.length = tb.length ∧ Dict.Inv hashN tb' (ps ++ [p]) := by
  have HD := Lib.hid D
  have hq : (ps ++ [p])[ps.length]? = some p := by rw [List.getElem?_append_right (Nat.le_refl _), Nat.sub_self]; rfl
  have hmn := D.many
  rw [List.length_append, List.length_singleton] at hmn
  have hpb : ∀ c ∈ p, IsByte c := D.bytes p (by simp)
  have hfl := D.flat
  rw [flat_add] at hfl
  have hne := D.neG
  have BX := Lib.hid (show w.cell? ⟨dp, 1, none⟩ = some _ ∧ w.cell? ⟨dp, 2, none⟩ = some _ ∧ w.cell? ⟨dp, 3, none⟩ = some _ from ⟨D.at_.c1, D.at_.c2, D.at_.c3⟩)
  have MAT := Lib.hid (fun W (h : Below w.heap.size w W) => listAt_any ta ba tc bc (ps ++ [p]) ps.length p hq W (D.at_.below h).list)
  have MSL : Hid (∀ (g o c : Nat) (W : World), Below w.heap.size w W → RowC W g o (p.map (Value.int .u8)) → Calls Tryd.prog 24 #[.pointer (some ⟨dp, 0, none⟩), .slice (some ⟨g, o, none⟩) p.length c] W (fun e w' => ∃ j : Nat, e = .returned (.int .i64 j) ∧ ((0 : Int) ≤ (j : Int) ∧ (j : Int) < (tb.length : Int)) ∧ Dict.Inv hashN (tb.set j (ps.length + 1)) (ps ++ [p]) ∧ w'.cell? ⟨tg, j, none⟩ = some (.int .u32 0) ∧ (∀ i, w'.frozen? ⟨tg, i, none⟩ = false) ∧ Below W.heap.size W w')) := Lib.hid (fun g o c W hW hr => by
    have h := slot_any dp lim (ps ++ [p]) tb ta ba tc bc tg ps.length (by simp) sm hsm hsz (by rw [List.take_left]; exact I) p hpb (by omega) g o c W (D.at_.below hW) hr
    refine h.mono ?_
    rintro e w' ⟨d, v, he, hE, hB⟩
    rw [List.take_left] at hE
    have hv := hE.free hp
    subst hv
    have hpl := Dict.place_lt hashN I.pos p d
    have hat := ((D.at_.below hW).below hB).slot_at hE.at_
    refine ⟨_, he, ⟨by omega, by omega⟩, I.enter hE hp (by omega), hat, fun i => free_in ((D.below hW).below hB).tab i, hB⟩)
  have HE : Hid (∀ (y0 y1 : World) (j : Nat), Below w.heap.size w y0 → Below y0.heap.size y0 y1 → Dict.Inv hashN (tb.set j (ps.length + 1)) (ps ++ [p]) → ∃ tb', DictOn (y1.setCell ⟨tg, j, none⟩ (.int .u32 ((ps.length : Int) + 1))) (growS S w (y1.setCell ⟨tg, j, none⟩ (.int .u32 ((ps.length : Int) + 1)))) dp lim (ps ++ [p]) tb' ta ba tc bc tg ∧ Turned S w (y1.setCell ⟨tg, j, none⟩ (.int .u32 ((ps.length : Int) + 1))) ∧ tb'.length = tb.length ∧ Dict.Inv hashN tb' (ps ++ [p])) := Lib.hid fun y0 y1 j h0 h1 hI => by
    have hB := below_step h0 h1
    refine ⟨tb.set j (ps.length + 1), ?_, (Turned.of_below hB).trans (Turned.set D.sTg _), List.length_set, hI⟩
    have e : ((ps.length : Int) + 1) = ((ps.length + 1 : Nat) : Int) := by omega
    rw [e]
    refine ((D.below hB).setTab j (ps.length + 1)).wide (fun _ h => .inl h) (fun k hk => ?_)
    rcases hk with hk | hk
    · have := D.lt k hk; have := hB.size; simp [World.setCell]; omega
    · exact hk.2
  clear D I hq
  rw [flat_add] at MAT BX
  rw [List.length_append, List.length_singleton] at MAT BX
  have c3 := BX.out.2.2
  obtain ⟨sz, hz⟩ : ∃ sz, sz = tb.length := ⟨_, rfl⟩
  rw [← hz] at c3 BX MSL HE hroom
  have HZ := Lib.hid hz
  clear hz hsz
  generalize ps.flatten.length + p.length = NN at *
  obtain ⟨k, hk⟩ : ∃ k, k = ps.length := ⟨_, rfl⟩
  rw [← hk] at MAT MSL HE hroom hmn BX ⊢
  clear hk
  have w1 : IntKind.i64.wrap (2 * ((k : Int) + 1)) = 2 * ((k : Int) + 1) := IntWalk.i64_in _ (by omega)
  have w2 : IntKind.u32.wrap ((k : Int) + 1) = (k : Int) + 1 := by rw [IntKind.wrap_u32]; omega
  have t1 : decide (2 * ((k : Int) + 1) < (sz : Int)) = true := decide_eq_true (by omega)
  go_enter Tryd.func26, Tryd.ntmps26
  go_wp2_with fail
  have B0 : Hid (Below w.heap.size w w) := Lib.hid (Below.refl _ _)
  have Bd : Hid (Below w.heap.size w w.drew) := Lib.hid (Below.refl _ _).drew
  have BXd := Lib.hid (box3_start BX.out Bd.out)
  clear c3
  go_region_held3 (fun W' => W'.cell? ⟨dp, 1, none⟩ = some (.slice ta NN tc) ∧ W'.cell? ⟨dp, 2, none⟩ = some (.slice ba (k + 1) bc) ∧ W'.cell? ⟨dp, 3, none⟩ = some (.slice (some ⟨tg, 0, none⟩) sz sz)) ((first | assumption | exact BX.out | exact BXd.out | exact box3_start (by assumption) (by assumption) | exact box3_set (by assumption) hne)) ((first | (go_at_call 28; refine (MAT.out _ Bd.out).mono ?_; rintro e y0 ⟨b, o, rfl, hrow, hY0⟩) | (go_at_call 24; refine (MSL.out _ _ _ _ (below_step Bd.out (by assumption)) (by assumption)).mono ?_; rintro e y1 ⟨j, rfl, ⟨hj0, hj1⟩, hI, hcj, hfj, hY1⟩)))
  all_goals
    have HF := Lib.hid (HE.out _ _ j (below_step Bd.out hY0) hY1 hI)
    go_wp2_with fail
    refine bodyPost_ret (results_none rfl _ _ _) rfl ?_
    exact ⟨rfl, by have := HF.out; rwa [HZ.out] at this⟩

/-- The search for a term that has not come yet: a free slot, where its number goes. -/
theorem slot_new (S : Nat → Prop) (dp lim : Nat) (ps : List (List Int)) (tb : List Nat) (ta ba : Option Addr) (tc bc tg sm : Nat) (hsm : sm ≤ 40) (hsz : tb.length = 2 ^ sm) (q : Nat) (key : List Int) (hq : ps[q]? = some key) (I : Dict.Inv hashN tb (ps.take q)) (hnew : key ∉ ps.take q) (hroom : q + 1 < tb.length)
    (w : World) (D : DictOn w S dp lim ps tb ta ba tc bc tg) (g o c : Nat) (W : World) (hW : Below w.heap.size w W) (hr : RowC W g o (key.map (Value.int .u8))) :
    Calls Tryd.prog 24 #[.pointer (some ⟨dp, 0, none⟩), .slice (some ⟨g, o, none⟩) key.length c] W (fun e w' => ∃ j : Nat, e = .returned (.int .i64 j) ∧ ((0 : Int) ≤ (j : Int) ∧ (j : Int) < (tb.length : Int)) ∧ Dict.Inv hashN (tb.set j (q + 1)) (ps.take (q + 1)) ∧ w'.cell? ⟨tg, j, none⟩ = some (.int .u32 0) ∧ (∀ i, w'.frozen? ⟨tg, i, none⟩ = false) ∧ Below W.heap.size W w') := by
  have hql : q < ps.length := (List.getElem?_eq_some_iff.1 hq).1
  have hkm := List.mem_of_getElem? hq
  have hkl : key.length ≤ 1000000000000 := by
    have h1 := D.flat
    have h2 := offP_next hq
    have h3 := offP_le (ps := ps) (i := q + 1) (by omega)
    omega
  have h := slot_any dp lim ps tb ta ba tc bc tg q (by omega) sm hsm hsz I key (D.bytes key hkm) hkl g o c W (D.at_.below hW) hr
  refine h.mono ?_
  rintro e w' ⟨d, v, he, hE, hB⟩
  have hv := hE.free hnew
  subst hv
  have hpl := Dict.place_lt hashN I.pos key d
  have hat := ((D.at_.below hW).below hB).slot_at hE.at_
  have hl : (ps.take q).length = q := by rw [List.length_take]; omega
  have hI := I.enter hE hnew (by rw [hl]; exact hroom)
  rw [hl] at hI
  have e1 : ps.take (q + 1) = ps.take q ++ [key] := by rw [List.take_add_one, hq]; rfl
  exact ⟨_, he, ⟨by omega, by omega⟩, by rw [e1]; exact hI, hat, fun i => free_in ((D.below hW).below hB).tab i, hB⟩

theorem not_before {ps : List (List Int)} (h : ps.Nodup) {q : Nat} {key : List Int} (hq : ps[q]? = some key) : key ∉ ps.take q := by
  intro hm
  obtain ⟨i, hi⟩ := List.getElem?_of_mem hm
  have hlt : i < q := by
    have := (List.getElem?_eq_some_iff.1 hi).1
    rw [List.length_take] at this
    omega
  rw [List.getElem?_take_of_lt hlt] at hi
  have := Dict.nodup_get h hi hq
  omega

theorem made_one (x : Value) (n : Nat) : madeCells #[x] n = (List.replicate n x).toArray := by
  apply Array.ext
  · simp [madeCells]
  · intro i h1 h2
    simp [madeCells, Nat.mod_one]

/-- The new table stands, empty. -/
theorem grow_start {S : Nat → Prop} {dp lim : Nat} {ps : List (List Int)} {tb : List Nat} {ta ba : Option Addr} {tc bc tg n : Nat} {w : World} (D : DictOn w S dp lim ps tb ta ba tc bc tg) :
    DictOn ((w.alloc (.cells (madeCells #[.int .u32 0] n) 28)).setCell ⟨dp, 3, none⟩ (.slice (some ⟨w.heap.size, 0, none⟩) n n)) (growS S w ((w.alloc (.cells (madeCells #[.int .u32 0] n) 28)).setCell ⟨dp, 3, none⟩ (.slice (some ⟨w.heap.size, 0, none⟩) n n))) dp lim ps (List.replicate n 0) ta ba tc bc w.heap.size ∧
    Turned S w ((w.alloc (.cells (madeCells #[.int .u32 0] n) 28)).setCell ⟨dp, 3, none⟩ (.slice (some ⟨w.heap.size, 0, none⟩) n n)) := by
  have hB := below_new w (.cells (madeCells #[.int .u32 0] n) 28)
  have D1 := D.below hB
  have hs : ((w.alloc (.cells (madeCells #[.int .u32 0] n) 28)).setCell ⟨dp, 3, none⟩ (.slice (some ⟨w.heap.size, 0, none⟩) n n)).heap.size = w.heap.size + 1 := by simp [World.setCell]
  have hdp := D.lt dp D.sDp
  refine ⟨⟨?_, ?_, ?_, ?_, by omega, ?_, ?_, D.neTB, D.full, D.bytes, D.flat, D.many, .inl D.sDp, .inr ⟨Nat.le_refl _, by rw [hs]; omega⟩, fun a ha => .inl (D.sT a ha), fun a ha => .inl (D.sB a ha), ?_⟩, (Turned.of_below hB).trans (Turned.set (a := ⟨dp, 3, none⟩) D.sDp _)⟩
  · rw [heap_setCell_same _ dp 3 _ _ _ D1.blk]
    simp
  · exact D1.rowT.kept fun a ha => Below.heap_setCell _ _ _ _ (D.neT a ha).1
  · exact D1.rowB.kept fun a ha => Below.heap_setCell _ _ _ _ (D.neB a ha).1
  · rw [Below.heap_setCell _ _ _ _ (by show w.heap.size ≠ dp; omega), heap_alloc_new]
    rw [made_one]
    simp
  · intro a ha
    have := D.lt _ (D.sT a ha)
    exact ⟨(D.neT a ha).1, by omega⟩
  · intro a ha
    have := D.lt _ (D.sB a ha)
    exact ⟨(D.neB a ha).1, by omega⟩
  · intro j hj
    rcases hj with hj | hj
    · have := D.lt j hj; omega
    · exact hj.2

/-- q terms have been entered into the new table. -/
structure GrowAt (w wr : World) (S : Nat → Prop) (dp lim : Nat) (ps : List (List Int)) (tbq : List Nat) (ta ba : Option Addr) (tc bc sz q : Nat) : Prop where
  on : DictOn wr (growS S w wr) dp lim ps tbq ta ba tc bc w.heap.size
  turned : Turned S w wr
  len : tbq.length = 2 * sz
  inv : Dict.Inv hashN tbq (ps.take q)
theorem GrowAt.step {w wr y0 y1 : World} {S : Nat → Prop} {dp lim : Nat} {ps : List (List Int)} {tbq : List Nat} {ta ba : Option Addr} {tc bc sz q j : Nat} (hlt : ∀ j, S j → j < w.heap.size) (h : GrowAt w wr S dp lim ps tbq ta ba tc bc sz q) (h0 : Below wr.heap.size wr y0) (h1 : Below y0.heap.size y0 y1)
    (hI : Dict.Inv hashN (tbq.set j (q + 1)) (ps.take (q + 1))) : GrowAt w (y1.setCell ⟨w.heap.size, j, none⟩ (.int .u32 ((q : Int) + 1))) S dp lim ps (tbq.set j (q + 1)) ta ba tc bc sz (q + 1) := by
  have hB := below_step h0 h1
  have hs := hB.size
  have hw := h.turned.size
  have hz : (y1.setCell ⟨w.heap.size, j, none⟩ (.int .u32 ((q : Int) + 1))).heap.size = y1.heap.size := by simp [World.setCell]
  refine ⟨?_, ?_, by rw [List.length_set]; exact h.len, hI⟩
  · have e : ((q : Int) + 1) = ((q + 1 : Nat) : Int) := by omega
    rw [e]
    refine ((h.on.below hB).setTab j (q + 1)).wide (fun k hk => ?_) (fun k hk => ?_)
    · rcases hk with hk | hk
      · exact .inl hk
      · refine .inr ⟨hk.1, ?_⟩
        rw [← e, hz]
        omega
    · rcases hk with hk | hk
      · have := hlt k hk
        rw [← e, hz]
        omega
      · exact hk.2
  · have ht := h.turned.trans (Turned.of_below hB)
    exact ⟨ht.os, ht.tape, ht.output, by rw [hz]; exact ht.size, fun k hk hn => (Below.heap_setCell _ _ _ _ (by show k ≠ w.heap.size; omega)).trans (ht.block k hk hn)⟩

set_option maxRecDepth 100000 in
set_option maxHeartbeats 4000000 in
theorem enter_grow (S : Nat → Prop) (dp lim : Nat) (ps : List (List Int)) (tb : List Nat) (ta ba : Option Addr) (tc bc tg sm : Nat) (hsm : sm ≤ 39) (hsz : tb.length = 2 ^ sm) (hnd : ps.Nodup) (hroom : tb.length ≤ 2 * ps.length) (hroom2 : 2 * ps.length < 2 * tb.length)
    (w : World) (D : DictOn w S dp lim ps tb ta ba tc bc tg) :
    Calls Tryd.prog 26 #[.pointer (some ⟨dp, 0, none⟩), .int .i64 ps.length] w fun e w' => e = .returned (.tuple #[]) ∧ ∃ tb' tg', DictOn w' (growS S w w') dp lim ps tb' ta ba tc bc tg' ∧ Turned S w w' ∧ tb'.length = 2 * tb.length ∧ Dict.Inv hashN tb' ps := by
  have hmn := D.many
  have GS := Lib.hid (grow_start (n := 2 * tb.length) D)
  have hne := D.neG
  have hsz2 : Hid (2 * tb.length = 2 ^ (sm + 1)) := Lib.hid (by rw [Nat.pow_succ, ← hsz]; omega)
  have hsm2 : Hid (sm + 1 ≤ 40) := Lib.hid (by omega)
  have c3 := D.at_.c3
  have hs1 : 1 ≤ tb.length := by have := Nat.two_pow_pos sm; omega
  obtain ⟨iu, hiu, hu0, hu1, hu2⟩ := info_parts3u info_u32
  have hmk : (Instr.makeSlice 48 (.int .i64 (2 * (tb.length : Int))) (.int .i64 (2 * (tb.length : Int)))).run Tryd.prog w = .ok (.slice (some ⟨w.heap.size, 0, none⟩) (2 * tb.length) (2 * tb.length)) (w.alloc (.cells (madeCells #[.int .u32 0] (2 * tb.length)) 28)) := by
    have h := run_make (P := Tryd.prog) w 48 28 iu _ Tryd.underlying48 hiu hu0 .i64 .i64 (2 * (tb.length : Int)) (2 * (tb.length : Int)) (by omega) (by omega) (by rw [hu2]; omega) (by omega)
    rw [hu1, Nat.mul_one, show (2 * (tb.length : Int)).toNat = 2 * tb.length by omega] at h
    exact h
  have HND := Lib.hid hnd
  have HFZ : Hid (∀ j, (w.alloc (.cells (madeCells #[.int .u32 0] (2 * tb.length)) 28)).frozen? ⟨dp, j, none⟩ = false) := Lib.hid fun j => free_in (D.below (below_new _ _)).blk j
  have HC3 := Lib.hid (D.below (below_new w (.cells (madeCells #[.int .u32 0] (2 * tb.length)) 28))).at_.c3
  have HLT := Lib.hid D.lt
  clear D hnd hsz hsm
  obtain ⟨sz, hz⟩ : ∃ sz, sz = tb.length := ⟨_, rfl⟩
  rw [← hz] at c3 GS hroom hroom2 hsz2 hs1 hmk HFZ HC3 ⊢
  have HZ := Lib.hid hz
  clear hz
  obtain ⟨k, hk⟩ : ∃ k, k = ps.length := ⟨_, rfl⟩
  have HK := Lib.hid hk
  rw [← hk] at hmn hroom hroom2 ⊢
  clear hk
  have hs2 : sz ≤ 4294967294 := by omega
  have v1 : IntKind.i64.wrap (2 * (k : Int)) = 2 * (k : Int) := IntWalk.i64_in _ (by omega)
  have v2 : IntKind.i64.wrap (2 * (sz : Int)) = 2 * (sz : Int) := IntWalk.i64_in _ (by omega)
  have t1 : decide (2 * (k : Int) < (sz : Int)) = false := decide_eq_false (by omega)
  have z3 := HC3.out
  have zf := HFZ.out 3
  go_enter Tryd.func26, Tryd.ntmps26
  go_wp2_with fail
  clear z3 zf hmk HFZ HC3 c3 t1 v1 v2
  go_loopg [4] k (fun g s4 wr => ∃ (q : Nat) (tbq : List Nat), q ≤ k ∧ k - q ≤ g ∧ s4 = .int .i64 ((q : Int) + 1) ∧ Hid (GrowAt w wr S dp lim ps tbq ta ba tc bc sz q))
  case atStart => exact ⟨0, _, Nat.zero_le _, by omega, rfl, Lib.hid ⟨GS.out.1, GS.out.2, List.length_replicate, by rw [List.take_zero]; exact Dict.Inv.empty (by omega)⟩⟩
  case round =>
    obtain ⟨q, tbq, hq, hg, rfl, HR⟩ := hrel
    by_cases hlt : q < k
    · have d1 : decide ((q : Int) + 1 ≤ (k : Int)) = true := decide_eq_true (by omega)
      have d1' : (q : Int) + 1 ≤ (k : Int) := by omega
      obtain ⟨key, hkey⟩ : ∃ key, ps[q]? = some key := ⟨_, List.getElem?_eq_getElem (by have := HK.out; omega)⟩
      have BX := Lib.hid (show wr.cell? ⟨dp, 1, none⟩ = some _ ∧ wr.cell? ⟨dp, 2, none⟩ = some _ ∧ wr.cell? ⟨dp, 3, none⟩ = some _ from ⟨HR.out.on.at_.c1, HR.out.on.at_.c2, HR.out.on.at_.c3⟩)
      have MAT := Lib.hid (fun W (h : Below wr.heap.size wr W) => listAt_any ta ba tc bc ps q key hkey W (HR.out.on.at_.below h).list)
      have MSL := Lib.hid (fun g o c W h1 h2 => slot_new _ dp lim ps tbq ta ba tc bc w.heap.size (sm + 1) hsm2.out (HR.out.len.trans hsz2.out) q key hkey HR.out.inv (not_before HND.out hkey) (by have := HR.out.len; omega) wr HR.out.on g o c W h1 h2)
      have HE := Lib.hid (fun y0 y1 j h0 h1 hI => GrowAt.step (y0 := y0) (y1 := y1) (j := j) HLT.out HR.out h0 h1 hI)
      have hne' := HR.out.on.neG
      rw [HR.out.len] at BX MSL
      rw [← HK.out] at BX MAT
      obtain ⟨z2, hz2⟩ : ∃ z2, z2 = 2 * sz := ⟨_, rfl⟩
      rw [← hz2] at BX MSL
      clear hz2
      generalize ps.flatten.length = NN at *
      generalize w.heap.size = tg' at *
      clear hkey
      have v1 : IntKind.u32.wrap ((q : Int) + 1) = (q : Int) + 1 := by rw [IntKind.wrap_u32]; omega
      have v2 : IntKind.i64.wrap ((q : Int) + 1 + 1) = (q : Int) + 1 + 1 := IntWalk.i64_in _ (by omega)
      go_wp2_with fail
      have Bd : Hid (Below wr.heap.size wr wr.drew) := Lib.hid (Below.refl _ _).drew
      have BXd := Lib.hid (box3_start BX.out Bd.out)
      go_region_held3 (fun W' => W'.cell? ⟨dp, 1, none⟩ = some (.slice ta NN tc) ∧ W'.cell? ⟨dp, 2, none⟩ = some (.slice ba k bc) ∧ W'.cell? ⟨dp, 3, none⟩ = some (.slice (some ⟨tg', 0, none⟩) z2 z2)) ((first | assumption | exact BX.out | exact BXd.out | exact box3_start (by assumption) (by assumption) | exact box3_set (by assumption) hne')) ((first | (go_at_call 28; refine (MAT.out _ Bd.out).mono ?_; rintro e y0 ⟨b, o, rfl, hrow, hY0⟩) | (go_at_call 24; refine (MSL.out _ _ _ _ (below_step Bd.out (by assumption)) (by assumption)).mono ?_; rintro e y1 ⟨j, rfl, ⟨hj0, hj1⟩, hI, hcj, hfj, hY1⟩)))
      all_goals
        have HF := Lib.hid (HE.out _ _ j (below_step Bd.out hY0) hY1 hI)
        clear hI hY0 hY1 hrow hcj hfj
        go_wp2_with fail
        go_roundg (k - (q + 1))
        case measure => omega
        case rel => exact ⟨q + 1, _, by omega, Nat.le_refl _, by go_num, HF⟩
    · have d1 : decide ((q : Int) + 1 ≤ (k : Int)) = false := decide_eq_false (by omega)
      have hqk : q = k := by omega
      have HF : Hid (∃ tb' tg', DictOn wr (growS S w wr) dp lim ps tb' ta ba tc bc tg' ∧ Turned S w wr ∧ tb'.length = 2 * sz ∧ Dict.Inv hashN tb' ps) := Lib.hid ⟨_, _, HR.out.on, HR.out.turned, HR.out.len, by have := HR.out.inv; rwa [hqk, HK.out, List.take_length] at this⟩
      clear hqk
      go_wp2_with fail
      go_end0
      exact ⟨rfl, HF.out⟩
end Go.Proofs.YtlamdhklfibjmaaDoor
