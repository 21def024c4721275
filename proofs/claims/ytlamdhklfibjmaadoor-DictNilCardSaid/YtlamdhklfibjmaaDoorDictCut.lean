/-
  A WHOLE DICTIONARY (DictI). CONTRACTS OF enter (whole), (*Dict).Cut.
-/
import Derived.Test.YtlamdhklfibjmaaDoorDictEnter
namespace Go.Proofs.YtlamdhklfibjmaaDoor
open Go.RowKit
open Utf Term
set_option linter.unusedVariables false
set_option linter.unusedSimpArgs false

/-- A dictionary that has the packed terms ps. -/
structure DictP (W : World) (S : Nat → Prop) (dp lim : Nat) (ps : List (List Int)) (tb : List Nat) (ta ba : Option Addr) (tc bc tg sm : Nat) : Prop where
  on : DictOn W S dp lim ps tb ta ba tc bc tg
  sm3 : 3 ≤ sm
  smMax : sm ≤ 33
  size : tb.length = 2 ^ sm
  inv : Dict.Inv hashN tb ps
  half : 2 * ps.length < tb.length
  limMax : lim ≤ 2147483647
  le : ps.length ≤ lim
def DictI (W : World) (S : Nat → Prop) (dp lim : Nat) (ps : List (List Int)) : Prop := ∃ tb ta ba tc bc tg sm, DictP W S dp lim ps tb ta ba tc bc tg sm

theorem growS_below {S : Nat → Prop} {w w' : World} {j : Nat} (hlt : ∀ j, S j → j < w.heap.size) (hs : w.heap.size ≤ w'.heap.size) (h : growS S w w' j) : j < w'.heap.size := by
  rcases h with h | h
  · have := hlt j h; omega
  · exact h.2
theorem DictOn.grow {w w' : World} {S : Nat → Prop} {dp lim : Nat} {ps : List (List Int)} {tb : List Nat} {ta ba : Option Addr} {tc bc tg : Nat} (h : DictOn w S dp lim ps tb ta ba tc bc tg) (k : Below w.heap.size w w') : DictOn w' (growS S w w') dp lim ps tb ta ba tc bc tg :=
  (h.below k).wide (fun j hj => .inl hj) (fun j hj => growS_below h.lt k.size hj)

set_option maxHeartbeats 1000000 in
/-- The last one is entered. -/
theorem enter_any (S : Nat → Prop) (dp lim : Nat) (ps : List (List Int)) (p : List Int) (tb : List Nat) (ta ba : Option Addr) (tc bc tg sm : Nat) (h3 : 3 ≤ sm) (hsm : sm ≤ 33) (hsz : tb.length = 2 ^ sm) (I : Dict.Inv hashN tb ps) (hhalf : 2 * ps.length < tb.length) (hp : p ∉ ps) (hlim : lim ≤ 2147483647) (hle : ps.length + 1 ≤ lim)
    (w : World) (D : DictOn w S dp lim (ps ++ [p]) tb ta ba tc bc tg) :
    Calls Tryd.prog 26 #[.pointer (some ⟨dp, 0, none⟩), .int .i64 ((ps.length : Int) + 1)] w fun e w' => e = .returned (.tuple #[]) ∧ DictI w' (growS S w w') dp lim (ps ++ [p]) ∧ Turned S w w' := by
  have hl : (ps ++ [p]).length = ps.length + 1 := by simp
  by_cases hroom : 2 * (ps.length + 1) < tb.length
  · refine (enter_room S dp lim ps p tb ta ba tc bc tg sm (by omega) hsz I hp hroom w D).mono ?_
    rintro e w' ⟨he, tb', h1, h2, h4, h5⟩
    exact ⟨he, ⟨tb', ta, ba, tc, bc, tg, sm, h1, h3, hsm, h4.trans hsz, h5, by rw [hl, h4]; exact hroom, hlim, by rw [hl]; exact hle⟩, h2⟩
  · have hnd : (ps ++ [p]).Nodup := by
      rw [List.nodup_append]
      refine ⟨I.nodup, by simp, ?_⟩
      intro a ha b hb
      have : b = p := by simpa using hb
      subst this
      rintro rfl
      exact hp ha
    have h31 : sm ≤ 31 := by
      apply Classical.byContradiction
      intro hn
      have h1 : (2 : Nat) ^ 32 ≤ 2 ^ sm := Nat.pow_le_pow_right (by omega) (by omega)
      have h2 : (2 : Nat) ^ 32 = 4294967296 := by decide
      omega
    have h8 : 8 ≤ tb.length := by
      have h1 : (2 : Nat) ^ 3 ≤ 2 ^ sm := Nat.pow_le_pow_right (by omega) h3
      have h2 : (2 : Nat) ^ 3 = 8 := by decide
      omega
    have h := enter_grow S dp lim (ps ++ [p]) tb ta ba tc bc tg sm (by omega) hsz hnd (by rw [hl]; omega) (by rw [hl]; omega) w D
    rw [hl, show ((ps.length + 1 : Nat) : Int) = (ps.length : Int) + 1 by omega] at h
    refine h.mono ?_
    rintro e w' ⟨he, tb', tg', h1, h2, h4, h5⟩
    exact ⟨he, ⟨tb', ta, ba, tc, bc, tg', sm + 1, h1, by omega, by omega, by rw [h4, hsz, Nat.pow_succ]; omega, h5, by rw [hl, h4]; omega, hlim, by rw [hl]; exact hle⟩, h2⟩

/-- The search for the last term that the table has: its slot, to be freed. -/
theorem slot_last (S : Nat → Prop) (dp lim : Nat) (ps : List (List Int)) (tb : List Nat) (ta ba : Option Addr) (tc bc tg sm : Nat) (hsm : sm ≤ 40) (hsz : tb.length = 2 ^ sm) (q : Nat) (key : List Int) (hq : ps[q]? = some key) (I : Dict.Inv hashN tb (ps.take (q + 1)))
    (w : World) (D : DictOn w S dp lim ps tb ta ba tc bc tg) (g o c : Nat) (W : World) (hW : Below w.heap.size w W) (hr : RowC W g o (key.map (Value.int .u8))) :
    Calls Tryd.prog 24 #[.pointer (some ⟨dp, 0, none⟩), .slice (some ⟨g, o, none⟩) key.length c] W (fun e w' => ∃ j : Nat, e = .returned (.int .i64 j) ∧ ((0 : Int) ≤ (j : Int) ∧ (j : Int) < (tb.length : Int)) ∧ Dict.Inv hashN (tb.set j 0) (ps.take q) ∧ (∃ v : Int, w'.cell? ⟨tg, j, none⟩ = some (.int .u32 v)) ∧ (∀ i, w'.frozen? ⟨tg, i, none⟩ = false) ∧ Below W.heap.size W w') := by
  have hql : q < ps.length := (List.getElem?_eq_some_iff.1 hq).1
  have hkm := List.mem_of_getElem? hq
  have hkl : key.length ≤ 1000000000000 := by
    have h1 := D.flat
    have h2 := offP_next hq
    have h3 := offP_le (ps := ps) (i := q + 1) (by omega)
    omega
  have h := slot_any dp lim ps tb ta ba tc bc tg (q + 1) (by omega) sm hsm hsz I key (D.bytes key hkm) hkl g o c W (D.at_.below hW) hr
  refine h.mono ?_
  rintro e w' ⟨d, v, he, hE, hB⟩
  have hpl := Dict.place_lt hashN I.pos key d
  have hat := ((D.at_.below hW).below hB).slot_at hE.at_
  have e1 : ps.take (q + 1) = ps.take q ++ [key] := by rw [List.take_add_one, hq]; rfl
  rw [e1] at I hE
  exact ⟨_, he, ⟨by omega, by omega⟩, I.leave hE, ⟨_, hat⟩, fun i => free_in ((D.below hW).below hB).tab i, hB⟩

/-- All but the first q terms have left the table. -/
structure CutAt (w wr : World) (S : Nat → Prop) (dp lim : Nat) (ps : List (List Int)) (tbq : List Nat) (ta ba : Option Addr) (tc bc tg sz q : Nat) : Prop where
  on : DictOn wr (growS S w wr) dp lim ps tbq ta ba tc bc tg
  turned : Turned S w wr
  len : tbq.length = sz
  inv : Dict.Inv hashN tbq (ps.take q)
theorem CutAt.step {w wr y0 y1 : World} {S : Nat → Prop} {dp lim : Nat} {ps : List (List Int)} {tbq : List Nat} {ta ba : Option Addr} {tc bc tg sz q j : Nat} (hlt : ∀ j, S j → j < w.heap.size) (htg : S tg) (h : CutAt w wr S dp lim ps tbq ta ba tc bc tg sz (q + 1)) (h0 : Below wr.heap.size wr y0) (h1 : Below y0.heap.size y0 y1)
    (hI : Dict.Inv hashN (tbq.set j 0) (ps.take q)) : CutAt w (y1.setCell ⟨tg, j, none⟩ (.int .u32 0)) S dp lim ps (tbq.set j 0) ta ba tc bc tg sz q := by
  have hB := below_step h0 h1
  have hs := hB.size
  have hw := h.turned.size
  have hz : (y1.setCell ⟨tg, j, none⟩ (.int .u32 0)).heap.size = y1.heap.size := by simp [World.setCell]
  refine ⟨?_, (h.turned.trans (Turned.of_below hB)).trans (Turned.set (a := ⟨tg, j, none⟩) htg _), by rw [List.length_set]; exact h.len, hI⟩
  refine ((h.on.below hB).setTab j 0).wide (fun k hk => ?_) (fun k hk => ?_)
  · rcases hk with hk | hk
    · exact .inl hk
    · refine .inr ⟨hk.1, ?_⟩
      rw [hz]
      omega
  · rcases hk with hk | hk
    · have := hlt k hk
      exact Nat.lt_of_lt_of_eq (by omega) hz.symm
    · exact hk.2

theorem cellsP_take (ps : List (List Int)) (n : Nat) : (cellsP ps).take (offP ps n) = cellsP (ps.take n) := by
  unfold cellsP offP
  rw [← List.map_take]
  congr 1
  have : ps.flatten = (ps.take n).flatten ++ (ps.drop n).flatten := by rw [← List.flatten_append, List.take_append_drop]
  rw [this, List.take_left]
theorem beginsP_take (ps : List (List Int)) {n : Nat} (h : n ≤ ps.length) : (beginsP ps).take n = beginsP (ps.take n) := by
  unfold beginsP
  rw [← List.map_take, List.take_range, Nat.min_eq_left h, List.length_take, Nat.min_eq_left h]
  refine List.map_congr_left fun i hi => ?_
  have hi' := List.mem_range.1 hi
  unfold offP
  rw [List.take_take, Nat.min_eq_left (by omega)]

/-- The list is cut. -/
theorem cut_done {w wr y : World} {S : Nat → Prop} {dp lim : Nat} {ps : List (List Int)} {tbq : List Nat} {ta ba : Option Addr} {tc bc tg sz sm n : Nat} (hdp : S dp) (hlt : ∀ j, S j → j < w.heap.size) (hn : n ≤ ps.length) (h : CutAt w wr S dp lim ps tbq ta ba tc bc tg sz n) (hB : Below wr.heap.size wr y) (h3 : 3 ≤ sm) (hsm : sm ≤ 33) (hsz : sz = 2 ^ sm) (hhalf : 2 * ps.length < sz) (hlim : lim ≤ 2147483647) (hle : ps.length ≤ lim) :
    DictI ((y.setCell ⟨dp, 1, none⟩ (.slice ta (offP ps n) (offP ps n))).setCell ⟨dp, 2, none⟩ (.slice ba n n)) (growS S w ((y.setCell ⟨dp, 1, none⟩ (.slice ta (offP ps n) (offP ps n))).setCell ⟨dp, 2, none⟩ (.slice ba n n))) dp lim (ps.take n) ∧
    Turned S w ((y.setCell ⟨dp, 1, none⟩ (.slice ta (offP ps n) (offP ps n))).setCell ⟨dp, 2, none⟩ (.slice ba n n)) := by
  have D := h.on.below hB
  have hz : ((y.setCell ⟨dp, 1, none⟩ (.slice ta (offP ps n) (offP ps n))).setCell ⟨dp, 2, none⟩ (.slice ba n n)).heap.size = y.heap.size := by simp [World.setCell]
  have hs := hB.size
  have hw := h.turned.size
  have hl : (ps.take n).length = n := by rw [List.length_take]; omega
  have far : ∀ j, j ≠ dp → ((y.setCell ⟨dp, 1, none⟩ (.slice ta (offP ps n) (offP ps n))).setCell ⟨dp, 2, none⟩ (.slice ba n n)).heap[j]? = y.heap[j]? := fun j hj => by
    rw [Below.heap_setCell _ _ _ _ hj, Below.heap_setCell _ _ _ _ hj]
  have hfl : (ps.take n).flatten.length = offP ps n := rfl
  refine ⟨⟨tbq, ta, ba, offP ps n, n, tg, sm, ⟨?_, ?_, ?_, ?_, D.neG, D.neT, D.neB, D.neTB, fun p hp => D.full p (List.mem_of_mem_take hp), fun p hp => D.bytes p (List.mem_of_mem_take hp), ?_, ?_, .inl hdp, ?_, ?_, ?_, ?_⟩, h3, hsm, h.len.trans hsz, h.inv, by rw [h.len, hl]; omega, hlim, by rw [hl]; omega⟩, ?_⟩
  · rw [heap_setCell_same _ dp 2 _ _ _ (heap_setCell_same _ dp 1 _ _ _ D.blk), hl, hfl]
    rfl
  · rw [← cellsP_take, hfl]
    exact (D.rowT.first (offP_le hn)).kept fun a ha => far _ (D.neT a ha).1
  · rw [← beginsP_take ps hn, hl]
    exact (D.rowB.first hn).kept fun a ha => far _ (D.neB a ha).1
  · rw [far _ D.neG]
    exact D.tab
  · rw [hfl]
    have := offP_le hn
    have := D.flat
    omega
  · rw [hl]; have := D.many; omega
  · exact (h.on.sTg).imp id fun k => ⟨k.1, by rw [hz]; omega⟩
  · exact fun a ha => (h.on.sT a ha).imp id fun k => ⟨k.1, by rw [hz]; omega⟩
  · exact fun a ha => (h.on.sB a ha).imp id fun k => ⟨k.1, by rw [hz]; omega⟩
  · intro j hj
    rcases hj with hj | hj
    · have := hlt j hj; rw [hz]; omega
    · exact hj.2
  · exact ((h.turned.trans (Turned.of_below hB)).trans (Turned.set (a := ⟨dp, 1, none⟩) hdp _)).trans (Turned.set (a := ⟨dp, 2, none⟩) hdp _)

set_option maxRecDepth 100000 in
set_option maxHeartbeats 4000000 in
theorem cut_less (S : Nat → Prop) (dp lim : Nat) (ps : List (List Int)) (n : Nat) (hn : n < ps.length) (w : World) (D : DictI w S dp lim ps) :
    Calls Tryd.prog 13 #[.pointer (some ⟨dp, 0, none⟩), .int .i64 n] w fun e w' => e = .returned (.int .i64 0) ∧ DictI w' (growS S w w') dp lim (ps.take n) ∧ Turned S w w' := by
  obtain ⟨tb, ta, ba, tc, bc, tg, sm, D⟩ := D
  have HD := Lib.hid D
  have hmn := D.on.many
  have M0 := Lib.hid (isNone_some dp tg tb.length tb.length w D.on.at_.c3)
  have M1 := Lib.hid (fun W (h : Below w.heap.size w W) => dictLen_any dp lim ps tb ta ba tc bc tg W (D.on.at_.below h))
  have HDP := Lib.hid D.on.sDp
  have HTG := Lib.hid D.on.sTg
  have HLT := Lib.hid D.on.lt
  have HPW := Lib.hid (show 3 ≤ sm ∧ sm ≤ 33 ∧ tb.length = 2 ^ sm ∧ 2 * ps.length < tb.length ∧ lim ≤ 2147483647 ∧ ps.length ≤ lim from ⟨D.sm3, D.smMax, D.size, D.half, D.limMax, D.le⟩)
  have HINV := Lib.hid D.inv
  clear D
  obtain ⟨sz, hz⟩ : ∃ sz, sz = tb.length := ⟨_, rfl⟩
  rw [← hz] at HPW
  have HZ := Lib.hid hz
  clear hz
  obtain ⟨k, hk⟩ : ∃ k, k = ps.length := ⟨_, rfl⟩
  have HK := Lib.hid hk
  rw [← hk] at hmn hn M1
  clear hk
  have B0 := Lib.hid (Below.refl w.heap.size w)
  have t1 : decide ((n : Int) < 0) = false := decide_eq_false (by omega)
  have t2 : decide ((k : Int) < (n : Int)) = false := decide_eq_false (by omega)
  have t2' : decide (k < n) = false := decide_eq_false (by omega)
  have t3 : decide ((n : Int) = (k : Int)) = false := decide_eq_false (by omega)
  have t3' : ¬ n = k := by omega
  have t4 : ¬ (n : Int) < 0 := by omega
  go_enter Tryd.func13, Tryd.ntmps13
  go_wp2_with (first | (go_at_call 20; refine M0.out.mono ?_; rintro e w' ⟨rfl, rfl⟩))
  refine (M1.out _ B0.out).mono ?_
  rintro e w1 ⟨rfl, hB1⟩
  have B1 := Lib.hid hB1
  clear hB1
  go_wp2_with fail
  refine (M1.out _ B1.out).mono ?_
  rintro e w2 ⟨rfl, hB2⟩
  have B2 := Lib.hid (below_step B1.out hB2)
  clear hB2
  go_wp2_with fail
  refine (M1.out _ B2.out).mono ?_
  rintro e w3 ⟨rfl, hB3⟩
  have B3 := Lib.hid (below_step B2.out hB3)
  clear hB3 t1 t2 t2' t3 t3' t4 M0 M1
  go_wp2_with fail
  go_loopg [5] (k - n) (fun g s5 wr => ∃ (q : Nat) (tbq : List Nat), n ≤ q ∧ q ≤ k ∧ q - n ≤ g ∧ s5 = .int .i64 (q : Int) ∧ Hid (CutAt w wr S dp lim ps tbq ta ba tc bc tg sz q))
  case atStart => exact ⟨k, tb, by omega, Nat.le_refl _, by omega, rfl, Lib.hid ⟨HD.out.on.grow B3.out, Turned.of_below B3.out, HZ.out.symm, by rw [HK.out, List.take_length]; exact HINV.out⟩⟩
  case round =>
    obtain ⟨q, tbq, hq, hqk, hg, rfl, HR⟩ := hrel
    by_cases hlt : n < q
    · obtain ⟨q, rfl⟩ : ∃ q', q = q' + 1 := ⟨q - 1, by omega⟩
      have ec : ((q + 1 : Nat) : Int) = (q : Int) + 1 := by omega
      rw [ec]
      clear ec
      have d1 : decide ((n : Int) < (q : Int) + 1) = true := decide_eq_true (by omega)
      have d1' : (n : Int) < (q : Int) + 1 := by omega
      obtain ⟨key, hkey⟩ : ∃ key, ps[q]? = some key := ⟨_, List.getElem?_eq_getElem (by have := HK.out; omega)⟩
      have BX := Lib.hid (show wr.cell? ⟨dp, 1, none⟩ = some _ ∧ wr.cell? ⟨dp, 2, none⟩ = some _ ∧ wr.cell? ⟨dp, 3, none⟩ = some _ from ⟨HR.out.on.at_.c1, HR.out.on.at_.c2, HR.out.on.at_.c3⟩)
      have MAT := Lib.hid (fun W (h : Below wr.heap.size wr W) => listAt_any ta ba tc bc ps q key hkey W (HR.out.on.at_.below h).list)
      have MSL := Lib.hid (fun g o c W h1 h2 => slot_last _ dp lim ps tbq ta ba tc bc tg sm (by have := HPW.out; omega) (HR.out.len.trans HPW.out.2.2.1) q key hkey HR.out.inv wr HR.out.on g o c W h1 h2)
      have HE := Lib.hid (fun y0 y1 j h0 h1 hI => CutAt.step (y0 := y0) (y1 := y1) (j := j) HLT.out HTG.out HR.out h0 h1 hI)
      have hne' := HR.out.on.neG
      rw [HR.out.len] at BX MSL
      rw [← HK.out] at BX MAT
      generalize ps.flatten.length = NN at *
      clear hkey
      have v2 : IntKind.i64.wrap ((q : Int) + 1 - 1) = (q : Int) := (IntWalk.i64_in _ (by omega)).trans (by omega)
      go_wp2_with fail
      have Bd : Hid (Below wr.heap.size wr wr.drew) := Lib.hid (Below.refl _ _).drew
      have BXd := Lib.hid (box3_start BX.out Bd.out)
      go_region_held3 (fun W' => W'.cell? ⟨dp, 1, none⟩ = some (.slice ta NN tc) ∧ W'.cell? ⟨dp, 2, none⟩ = some (.slice ba k bc) ∧ W'.cell? ⟨dp, 3, none⟩ = some (.slice (some ⟨tg, 0, none⟩) sz sz)) ((first | assumption | exact BX.out | exact BXd.out | exact box3_start (by assumption) (by assumption) | exact box3_set (by assumption) hne')) ((first | (go_at_call 28; refine (MAT.out _ Bd.out).mono ?_; rintro e y0 ⟨b, o, rfl, hrow, hY0⟩) | (go_at_call 24; refine (MSL.out _ _ _ _ (below_step Bd.out (by assumption)) (by assumption)).mono ?_; rintro e y1 ⟨j, rfl, ⟨hj0, hj1⟩, hI, ⟨vj, hcj⟩, hfj, hY1⟩)))
      all_goals
        have HF := Lib.hid (HE.out _ _ j (below_step Bd.out hY0) hY1 hI)
        clear hI hY0 hY1 hrow hcj hfj
        go_wp2_with fail
        go_roundg (q - n)
        case measure => omega
        case rel => exact ⟨q, _, by omega, by omega, Nat.le_refl _, rfl, HF⟩
    · have d1 : decide ((n : Int) < (q : Int)) = false := decide_eq_false (by omega)
      have d1' : decide (n < q) = false := decide_eq_false (by omega)
      obtain rfl : n = q := by omega
      have D1 := HR.out.on
      have MF := Lib.hid (fun W (h : Below wr.heap.size wr W) => listFirst_any ta ba tc bc ps n (by have := HK.out; omega) W (D1.at_.below h).list)
      have z1 := D1.at_.c1
      have z2 := D1.at_.c2
      have HC : Hid (∀ y, Below wr.heap.size wr y → y.cell? ⟨dp, 1, none⟩ = some (.slice ta ps.flatten.length tc) ∧ y.cell? ⟨dp, 2, none⟩ = some (.slice ba ps.length bc) ∧ ∀ j, y.frozen? ⟨dp, j, none⟩ = false) := Lib.hid fun y h => ⟨(D1.below h).at_.c1, (D1.below h).at_.c2, fun j => free_in (D1.below h).blk j⟩
      have HFIN := Lib.hid (fun y (h : Below wr.heap.size wr y) => cut_done (y := y) HDP.out HLT.out (by have := HK.out; omega) HR.out h HPW.out.1 HPW.out.2.1 (HZ.out.trans (HZ.out ▸ HPW.out.2.2.1)) HPW.out.2.2.2.1 HPW.out.2.2.2.2.1 HPW.out.2.2.2.2.2)
      clear D1
      rw [← HK.out] at MF z2 HC
      generalize ps.flatten.length = NN at *
      go_wp2_with (go_at_call 29; refine (MF.out _ (Below.refl _ _)).mono ?_; rintro e y ⟨rfl, hY⟩; have q1 := (HC.out _ hY).1; have q2 := (HC.out _ hY).2.1; have q3 := (HC.out _ hY).2.2)
      have HF := Lib.hid (HFIN.out _ hY)
      clear hY q1 q2 q3
      go_ret
      exact ⟨rfl, HF.out⟩
end Go.Proofs.YtlamdhklfibjmaaDoor
