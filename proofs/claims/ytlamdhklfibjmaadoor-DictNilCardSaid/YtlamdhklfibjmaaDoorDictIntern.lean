/-
  CONTRACT OF (*Dict).Intern.
-/
import Derived.Test.YtlamdhklfibjmaaDoorDictCut
import Derived.Test.YtlamdhklfibjmaaDoorDictMay
namespace Go.Proofs.YtlamdhklfibjmaaDoor
open Go.RowKit
open Utf Term
set_option linter.unusedVariables false
set_option linter.unusedSimpArgs false

/-- What Intern does: the number, the error, the terms behind it. -/
def internP (lim : Nat) (ps : List (List Int)) (a : TermD) : Nat × Nat × List (List Int) :=
  if mayD a = true then
    if packL a ∈ ps then (Dict.number ps (packL a), 0, ps)
    else if lim ≤ ps.length then (0, 9, ps) else (ps.length + 1, 0, ps ++ [packL a])
  else (0, 2, ps)
/-- A term whose texts are not too long. -/
def Fair (a : TermD) : Prop := a.2.1.size ≤ 1000000000 ∧ a.2.2.size ≤ 1000000000

theorem DictI.grow {w w' : World} {S : Nat → Prop} {dp lim : Nat} {ps : List (List Int)} (h : DictI w S dp lim ps) (k : Below w.heap.size w w') : DictI w' (growS S w w') dp lim ps := by
  obtain ⟨tb, ta, ba, tc, bc, tg, sm, h⟩ := h
  exact ⟨tb, ta, ba, tc, bc, tg, sm, { h with on := h.on.grow k }⟩
theorem DictI.wide {w : World} {S S' : Nat → Prop} {dp lim : Nat} {ps : List (List Int)} (h : DictI w S dp lim ps) (hs : ∀ j, S j → S' j) (hl : ∀ j, S' j → j < w.heap.size) : DictI w S' dp lim ps := by
  obtain ⟨tb, ta, ba, tc, bc, tg, sm, h⟩ := h
  exact ⟨tb, ta, ba, tc, bc, tg, sm, { h with on := h.on.wide hs hl }⟩
theorem DictI.apart {w w' : World} {S T : Nat → Prop} {dp lim : Nat} {ps : List (List Int)} (h : DictI w S dp lim ps) (k : Turned T w w') (hn : ∀ j, S j → ¬ T j) : DictI w' S dp lim ps := by
  obtain ⟨tb, ta, ba, tc, bc, tg, sm, h⟩ := h
  exact ⟨tb, ta, ba, tc, bc, tg, sm, { h with on := h.on.apart k hn }⟩
theorem DictI.below {w w' : World} {S : Nat → Prop} {dp lim : Nat} {ps : List (List Int)} (h : DictI w S dp lim ps) (k : Below w.heap.size w w') : DictI w' S dp lim ps := by
  obtain ⟨tb, ta, ba, tc, bc, tg, sm, h⟩ := h
  exact ⟨tb, ta, ba, tc, bc, tg, sm, { h with on := h.on.below k }⟩
theorem DictI.lt {w : World} {S : Nat → Prop} {dp lim : Nat} {ps : List (List Int)} (h : DictI w S dp lim ps) : ∀ j, S j → j < w.heap.size := by
  obtain ⟨tb, ta, ba, tc, bc, tg, sm, h⟩ := h
  exact h.on.lt

theorem dictLenI {w : World} {S : Nat → Prop} {dp lim : Nat} {ps : List (List Int)} (h : DictI w S dp lim ps) : Calls Tryd.prog 8 #[.pointer (some ⟨dp, 0, none⟩)] w fun e w' => e = .returned (.int .i64 ps.length) ∧ Below w.heap.size w w' := by
  obtain ⟨tb, ta, ba, tc, bc, tg, sm, h⟩ := h
  exact dictLen_any dp lim ps tb ta ba tc bc tg w h.on.at_

theorem intern_end {w y2 y3 y4 y5 y6 : World} {S : Nat → Prop} {dp lim : Nat} {ps : List (List Int)} (hlt : ∀ j, S j → j < w.heap.size) (h2 : Below w.heap.size w y2) (t3 : Turned S y2 y3) (h4 : Below y3.heap.size y3 y4) (d5 : DictI y5 (growS (growS S y2 y3) y4 y5) dp lim ps) (t5 : Turned (growS S y2 y3) y4 y5) (h6 : Below y5.heap.size y5 y6) :
    DictI y6 (growS S w y6) dp lim ps ∧ Turned S w y6 := by
  have s2 := h2.size
  have s3 := t3.size
  have s4 := h4.size
  have s5 := t5.size
  have s6 := h6.size
  refine ⟨(d5.below h6).wide (fun j hj => ?_) (fun j hj => growS_below hlt (by omega) hj), ?_⟩
  · rcases hj with (hj | hj) | hj
    · exact .inl hj
    · exact .inr ⟨by omega, by omega⟩
    · exact .inr ⟨by omega, by omega⟩
  · have t : Turned S y2 y6 := t3.then ((Turned.of_below h4).trans (t5.trans (Turned.of_below h6)))
    exact (Turned.of_below h2).trans t

theorem boxs_step {w u v : World} {dp tg sz : Nat} {tv : Nat → Int} {c3 : Value} (h : u.cell? ⟨dp, 3, none⟩ = some c3 ∧ (∀ i' : Nat, i' < sz → u.cell? ⟨tg, i', none⟩ = some (.int .u32 (tv i'))) ∧ Below w.heap.size w u) (k : Below u.heap.size u v) :
    v.cell? ⟨dp, 3, none⟩ = some c3 ∧ (∀ i' : Nat, i' < sz → v.cell? ⟨tg, i', none⟩ = some (.int .u32 (tv i'))) ∧ Below w.heap.size w v :=
  ⟨cell_below k h.1, fun i' hi => cell_below k (h.2.1 i' hi), below_step h.2.2 k⟩
theorem box0_step {w u v : World} {dp : Nat} {c0 : Value} (h : u.cell? ⟨dp, 0, none⟩ = some c0 ∧ Below w.heap.size w u) (k : Below u.heap.size u v) :
    v.cell? ⟨dp, 0, none⟩ = some c0 ∧ Below w.heap.size w v := ⟨cell_below k h.1, below_step h.2 k⟩

set_option maxRecDepth 100000 in
set_option maxHeartbeats 4000000 in
theorem intern_bad (S : Nat → Prop) (dp lim : Nat) (ps : List (List Int)) (a : TermD) (hf : Fair a) (hmay : mayD a = false) (m : Int) (w : World) (hm : w.cell? ⟨0, 0, none⟩ = some (.int .i64 m)) (D : DictI w S dp lim ps) :
    Calls Tryd.prog 9 #[.pointer (some ⟨dp, 0, none⟩), termD a] w fun e w' => e = .returned (.tuple #[.int .u32 0, .int .i64 2]) ∧ Below w.heap.size w w' := by
  obtain ⟨tb, ta, ba, tc, bc, tg, sm, D⟩ := D
  have HB := Lib.hid (below_new w (.cells #[.int .i64 a.1, .string a.2.1, .string a.2.2] 34))
  have M0 := Lib.hid (isNone_some dp tg tb.length tb.length _ (cell_below HB.out D.on.at_.c3))
  have M1 := Lib.hid (mayD_any (a := a) (v := false) ⟨by have := hf.1; omega, by have := hf.2; omega⟩ hmay m _ (cell_below HB.out hm))
  clear D hm hmay
  go_enter Tryd.func9, Tryd.ntmps9
  go_wp2_with (first | (go_at_call 20; refine M0.out.mono ?_; rintro e w' ⟨rfl, rfl⟩) | (go_at_call 22; refine M1.out.mono ?_; rintro e w1 ⟨rfl, hB1⟩))
  have HF := Lib.hid (below_step HB.out hB1)
  clear hB1
  go_ret2
  exact ⟨rfl, HF.out⟩

set_option maxRecDepth 100000 in
set_option maxHeartbeats 4000000 in
theorem intern_good (S : Nat → Prop) (dp lim : Nat) (ps : List (List Int)) (a : TermD) (hf : Fair a) (hmay : mayD a = true) (hflat : ps.flatten.length + (packL a).length ≤ 1000000000000) (m : Int) (w : World) (hm : w.cell? ⟨0, 0, none⟩ = some (.int .i64 m)) (D : DictI w S dp lim ps) :
    Calls Tryd.prog 9 #[.pointer (some ⟨dp, 0, none⟩), termD a] w fun e w' => e = .returned (.tuple #[.int .u32 ((internP lim ps a).1 : Nat), .int .i64 ((internP lim ps a).2.1 : Nat)]) ∧ DictI w' (growS S w w') dp lim (internP lim ps a).2.2 ∧ Turned S w w' := by
  obtain ⟨hk, h255⟩ := mayD_facts hmay (by have := hf.1; omega)
  have HDI := Lib.hid D
  obtain ⟨tb, ta, ba, tc, bc, tg, sm, D⟩ := D
  have HD := Lib.hid D
  have HB := Lib.hid (below_new w (.cells #[.int .i64 a.1, .string a.2.1, .string a.2.2] 34))
  have HKB := Lib.hid (packL_bytes hk)
  have HPL : Hid ((packL a).length ≤ 1000000000000 ∧ 0 < (packL a).length) := Lib.hid ⟨by omega, by rw [packL_length]; omega⟩
  have M0 := Lib.hid (isNone_some dp tg tb.length tb.length _ (cell_below HB.out D.on.at_.c3))
  have M1 := Lib.hid (mayD_any (a := a) (v := true) ⟨by have := hf.1; omega, by have := hf.2; omega⟩ hmay m _ (cell_below HB.out hm))
  have M2 := Lib.hid (fun W => pack_any a hk hf.1 hf.2 W)
  obtain ⟨tv, htv⟩ : ∃ tv : Nat → Int, tv = fun i => ((tb.getD i 0 : Nat) : Int) := ⟨_, rfl⟩
  have TV := Lib.hid htv
  clear htv
  have TBL : Hid (∀ i' : Nat, i' < tb.length → w.cell? ⟨tg, i', none⟩ = some (.int .u32 (tv i'))) := Lib.hid (fun i' hi => by
    rw [TV.out]
    exact D.on.at_.slot_at (by rw [List.getD_eq_getElem?_getD, List.getElem?_eq_getElem hi]; rfl))
  have M3 : Hid (∀ (g c : Nat) (W : World), Below w.heap.size w W → RowC W g 0 ((packL a).map (Value.int .u8)) → Calls Tryd.prog 24 #[.pointer (some ⟨dp, 0, none⟩), .slice (some ⟨g, 0, none⟩) (packL a).length c] W (fun e w' => ∃ j : Nat, e = .returned (.int .i64 j) ∧ (j < tb.length ∧ (0 : Int) ≤ (j : Int) ∧ (j : Int) < (tb.length : Int)) ∧ tv j = ((Dict.number ps (packL a) : Nat) : Int) ∧ Below W.heap.size W w')) := Lib.hid (fun g c W hW hr => by
    have h := slot_any dp lim ps tb ta ba tc bc tg ps.length (Nat.le_refl _) sm (by have := D.smMax; omega) D.size (by rw [List.take_length]; exact D.inv) (packL a) HKB.out HPL.out.1 g 0 c W (D.on.at_.below hW) hr
    refine h.mono ?_
    rintro e w' ⟨d, v, he, hE, hB⟩
    rw [List.take_length] at hE
    have := Dict.place_lt hashN D.inv.pos (packL a) d
    refine ⟨_, he, ⟨this, by omega, by omega⟩, ?_, hB⟩
    rw [TV.out]
    show ((tb.getD _ 0 : Nat) : Int) = _
    rw [List.getD_eq_getElem?_getD, hE.at_, ← hE.number D.inv]
    rfl)
  have M4 : Hid (∀ W, Below w.heap.size w W → Calls Tryd.prog 8 #[.pointer (some ⟨dp, 0, none⟩)] W fun e w' => e = .returned (.int .i64 ps.length) ∧ Below W.heap.size W w') := Lib.hid (fun W hW => dictLen_any dp lim ps tb ta ba tc bc tg W (D.on.at_.below hW))
  have C0 : Hid (∀ W, Below w.heap.size w W → W.cell? ⟨dp, 0, none⟩ = some (.int .i64 lim)) := Lib.hid (fun W hW => (D.on.at_.below hW).c0)
  have hmn := D.on.many
  have hlm := D.limMax
  have c3 := D.on.at_.c3
  have C1 : Hid ((w.alloc (.cells #[.int .i64 a.1, .string a.2.1, .string a.2.2] 34)).cell? ⟨w.heap.size, 0, none⟩ = some (.int .i64 a.1) ∧ (w.alloc (.cells #[.int .i64 a.1, .string a.2.1, .string a.2.2] 34)).cell? ⟨w.heap.size, 1, none⟩ = some (.string a.2.1) ∧ (w.alloc (.cells #[.int .i64 a.1, .string a.2.1, .string a.2.2] 34)).cell? ⟨w.heap.size, 2, none⟩ = some (.string a.2.2)) :=
    Lib.hid ⟨by rw [World.cell?_alloc_at _ _ _ _ rfl]; rfl, by rw [World.cell?_alloc_at _ _ _ _ rfl]; rfl, by rw [World.cell?_alloc_at _ _ _ _ rfl]; rfl⟩
  have HTB : Hid (tb.length ≤ 8589934592) := Lib.hid (by
    have h1 : (2 : Nat) ^ sm ≤ 2 ^ 33 := Nat.pow_le_pow_right (by omega) D.smMax
    have h2 : (2 : Nat) ^ 33 = 8589934592 := by decide
    have := D.size
    omega)
  clear D hm hk
  obtain ⟨sz, hz⟩ : ∃ sz, sz = tb.length := ⟨_, rfl⟩
  rw [← hz] at c3 TBL M3 HTB
  clear hz
  obtain ⟨pl, hpl⟩ : ∃ pl, pl = (packL a).length := ⟨_, rfl⟩
  have HPLN := Lib.hid hpl
  rw [← hpl] at M2 M3 hflat
  clear hpl
  obtain ⟨R, hR⟩ : ∃ R, R = Dict.number ps (packL a) := ⟨_, rfl⟩
  have HR := Lib.hid hR
  rw [← hR] at M3
  clear hR
  have hszb := HTB.out
  go_enter Tryd.func9, Tryd.ntmps9
  go_wp2_with (first | (go_at_call 20; refine M0.out.mono ?_; rintro e w' ⟨rfl, rfl⟩) | (go_at_call 22; refine M1.out.mono ?_; rintro e w1 ⟨rfl, hB1⟩; have k0 := cell_below hB1 C1.out.1; have k1 := cell_below hB1 C1.out.2.1; have k2 := cell_below hB1 C1.out.2.2) | (go_at_call 23; refine (M2.out _).mono ?_; rintro e w2 ⟨g, c, rfl, hrow, hg, hB2⟩))
  have B1 := Lib.hid (below_step HB.out hB1)
  have B2 := Lib.hid (below_step B1.out hB2)
  have HROW := Lib.hid hrow
  have HG : Hid (w.heap.size ≤ g) := Lib.hid (by have := B1.out.size; omega)
  clear hB1 hB2 hrow hg k0 k1 k2 M0 M1 M2
  have ST := Lib.hid (boxs_step (w := w) (u := w) (dp := dp) (tg := tg) (sz := sz) (tv := tv) ⟨c3, TBL.out, Below.refl _ _⟩ B2.out)
  have STd := Lib.hid (boxs_step ST.out (show Below w2.heap.size w2 w2.drew from (Below.refl _ _).drew))
  clear c3 TBL
  go_region_held3 (fun W' => W'.cell? ⟨dp, 3, none⟩ = some (.slice (some ⟨tg, 0, none⟩) sz sz) ∧ (∀ i' : Nat, i' < sz → W'.cell? ⟨tg, i', none⟩ = some (.int .u32 (tv i'))) ∧ Below w.heap.size w W') ((first | assumption | exact ST.out | exact STd.out | exact boxs_step (by assumption) (by assumption))) ((go_at_call 24; refine (M3.out _ _ _ STd.out.2.2 (HROW.out.below (Below.refl _ _).drew)).mono ?_; rintro e y1 ⟨j, rfl, ⟨hj, hj0, hj1⟩, hvR, hY1⟩))
  all_goals
    rename_i hHeld
    have HY := Lib.hid hHeld.2.2
    have HROW1 := Lib.hid ((HROW.out.below (show Below w2.heap.size w2 w2.drew from (Below.refl _ _).drew)).below hY1)
    clear hHeld hY1 ST STd
    clear hvR hj hj0 hj1
    by_cases hin : packL a ∈ ps
    · have hR1 : ¬ ((R : Nat) : Int) = 0 := by
        have := HR.out
        unfold Dict.number at this
        rw [if_pos hin] at this
        omega
      have HF : Hid (internP lim ps a = (R, 0, ps)) := Lib.hid (by unfold internP; rw [if_pos hmay, if_pos hin, HR.out])
      have HG2 := Lib.hid (HDI.out.grow HY.out)
      go_wp2_with fail
      go_ret2
      rw [HF.out]
      exact ⟨rfl, HG2.out, Turned.of_below HY.out⟩
    · have hR0 : R = 0 := by
        have := HR.out
        unfold Dict.number at this
        rw [if_neg hin] at this
        exact this
      subst hR0
      have HIN := Lib.hid hin
      clear hin
      go_wp2_with fail
      have HYd : Hid (Below w.heap.size w y1.drew) := Lib.hid HY.out.drew
      have E0 := Lib.hid (show y1.cell? ⟨dp, 0, none⟩ = some (.int .i64 lim) ∧ Below w.heap.size w y1 from ⟨C0.out _ HY.out, HY.out⟩)
      have E0d := Lib.hid (show y1.drew.cell? ⟨dp, 0, none⟩ = some (.int .i64 lim) ∧ Below w.heap.size w y1.drew from ⟨C0.out _ HYd.out, HYd.out⟩)
      go_region_held3 (fun W' => W'.cell? ⟨dp, 0, none⟩ = some (.int .i64 lim) ∧ Below w.heap.size w W') ((first | assumption | exact E0.out | exact E0d.out | exact box0_step (by assumption) (by assumption))) ((go_at_call 8; refine (M4.out _ HYd.out).mono ?_; rintro e y2 ⟨rfl, hY2⟩))
      all_goals
        rename_i hHeld
        have HZ := Lib.hid hHeld.2
        have HROW2 := Lib.hid ((HROW1.out.below (show Below y1.heap.size y1 y1.drew from (Below.refl _ _).drew)).below hY2)
        clear hHeld hY2 E0 E0d HYd
        by_cases hfull : lim ≤ ps.length
        · have t1 : decide (lim ≤ ps.length) = true := decide_eq_true hfull
          have HF : Hid (internP lim ps a = (0, 9, ps)) := Lib.hid (by unfold internP; rw [if_pos hmay, if_neg HIN.out, if_pos hfull])
          have HG2 := Lib.hid (HDI.out.grow HZ.out)
          have t2 : (lim : Int) ≤ (ps.length : Int) := by omega
          go_wp2_with fail
          go_ret2
          rw [HF.out]
          exact ⟨rfl, HG2.out, Turned.of_below HZ.out⟩
        · have t1 : decide (lim ≤ ps.length) = false := decide_eq_false hfull
          have HF : Hid (internP lim ps a = (ps.length + 1, 0, ps ++ [packL a])) := Lib.hid (by unfold internP; rw [if_pos hmay, if_neg HIN.out, if_neg hfull])
          have HFU := Lib.hid hfull
          have MADD := Lib.hid (listAdd_any S dp lim ps tb ta ba tc bc tg (packL a) HPL.out.2 HKB.out (by rw [← HPLN.out]; exact hflat) (by omega) g 0 c (fun h => by have := HDI.out.lt g h; have := HG.out; omega) y2 (HD.out.on.below HZ.out) HROW2.out)
          rw [← HPLN.out] at MADD
          clear t1
          go_wp2_with fail
          refine MADD.out.mono ?_
          rintro e y3 ⟨rfl, ta', ba', tc', bc', D3, T3⟩
          have hmn1 : ps.length + 1 ≤ 2147483647 := by omega
          have HD3 := Lib.hid D3
          have HT3 := Lib.hid T3
          have ML3 := Lib.hid (dictLen_any dp lim (ps ++ [packL a]) tb ta' ba' tc' bc' tg y3 D3.at_)
          rw [List.length_append, List.length_singleton, show ((ps.length + 1 : Nat) : Int) = (ps.length : Int) + 1 by omega] at ML3
          clear D3 T3 MADD
          have MEN : Hid (∀ y4, Below y3.heap.size y3 y4 → Calls Tryd.prog 26 #[.pointer (some ⟨dp, 0, none⟩), .int .i64 ((ps.length : Int) + 1)] y4 fun e w' => e = .returned (.tuple #[]) ∧ DictI w' (growS (growS S y2 y3) y4 w') dp lim (ps ++ [packL a]) ∧ Turned (growS S y2 y3) y4 w') := Lib.hid fun y4 h4 => by
            have D := HD.out
            exact enter_any (growS S y2 y3) dp lim ps (packL a) tb ta' ba' tc' bc' tg sm D.sm3 D.smMax D.size D.inv D.half HIN.out D.limMax (by have := HFU.out; omega) y4 (HD3.out.below h4)
          go_wp2_with fail
          refine ML3.out.mono ?_
          rintro e y4 ⟨rfl, hY4⟩
          have HY4 := Lib.hid hY4
          clear hY4 ML3
          go_wp2_with fail
          refine (MEN.out _ HY4.out).mono ?_
          rintro e y5 ⟨rfl, D5, T5⟩
          have HD5 := Lib.hid D5
          have HT5 := Lib.hid T5
          have ML5 := Lib.hid (dictLenI D5)
          rw [List.length_append, List.length_singleton, show ((ps.length + 1 : Nat) : Int) = (ps.length : Int) + 1 by omega] at ML5
          clear D5 T5 MEN
          have w32 : IntKind.u32.wrap ((ps.length : Int) + 1) = (ps.length : Int) + 1 := by rw [IntKind.wrap_u32]; omega
          go_wp2_with fail
          refine ML5.out.mono ?_
          rintro e y6 ⟨rfl, hY6⟩
          have HEND : Hid (DictI y6 (growS S w y6) dp lim (ps ++ [packL a]) ∧ Turned S w y6) := Lib.hid (intern_end HDI.out.lt HZ.out HT3.out HY4.out HD5.out HT5.out hY6)
          clear hY6 ML5
          go_wp2_with fail
          go_ret2
          rw [HF.out]
          exact ⟨by rw [show ((ps.length + 1 : Nat) : Int) = (ps.length : Int) + 1 by omega]; rfl, HEND.out⟩
end Go.Proofs.YtlamdhklfibjmaaDoor
