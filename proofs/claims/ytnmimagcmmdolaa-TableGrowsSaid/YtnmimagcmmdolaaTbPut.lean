/-
  CONTRACT OF table's put.
-/
import Derived.Test.YtnmimagcmmdolaaTbCount
namespace Go.Proofs.Ytnmimagcmmdolaa
open Go.RowKit
set_option linter.unusedVariables false
set_option linter.unusedSimpArgs false

theorem TabM.ptrR {W : World} {Gz : GzT} {S : Nat → Prop} {tb : Nat} {R : List EntN} {num : RowN → Option Nat} {pats : List RowN} {Ls : List LsD} {live d0 d1 d2 : Int} {ra : Option Addr} {rc nb pb : Nat} {la : Option Addr} {lc : Nat}
    (h : TabM Gz W S tb R num pats Ls live d0 d1 d2 ra rc nb pb la lc) (hn : 0 < R.length) : ∃ g o, ra = some ⟨g, o, none⟩ ∧ (∀ i x, R[i]? = some x → W.cell? ⟨g, o + i * 4, none⟩ = some (.int .u32 (x.1.1 : Int)) ∧ W.cell? ⟨g, o + i * 4 + 1, none⟩ = some (.int .u32 (x.1.2.1 : Int)) ∧ W.cell? ⟨g, o + i * 4 + 2, none⟩ = some (.int .u32 (x.1.2.2 : Int)) ∧ W.cell? ⟨g, o + i * 4 + 3, none⟩ = some (.int .u8 (x.2 : Int))) ∧ ∀ i, W.frozen? ⟨g, i, none⟩ = false := by
  obtain ⟨g, o, e, hc, hf⟩ := h.rows.at_ hn
  have key : ∀ i (x : EntN), R[i]? = some x → ∀ j v, j < 4 → (entC x)[j]? = some v → W.cell? ⟨g, o + i * 4 + j, none⟩ = some v := fun i x hx j v hj hv => by
    have := hc (i * 4 + j) v (by rw [show flatE R = R.flatMap entC from rfl, flat_get entC 4 (fun _ => rfl) R i j x hx hj]; exact hv)
    rw [← Nat.add_assoc] at this
    exact this
  exact ⟨g, o, e, fun i x hx => ⟨key i x hx 0 _ (by omega) rfl, key i x hx 1 _ (by omega) rfl, key i x hx 2 _ (by omega) rfl, key i x hx 3 _ (by omega) rfl⟩, hf⟩

def putC (pats : List RowN) (x : EntN) (b : Nat) (s : CntS) : CntS := if x.2 = 0 ∧ b ≠ 0 then cntF pats x.1 1 s 6 else if x.2 ≠ 0 ∧ b = 0 then cntF pats x.1 (-1) s 6 else s
def putL (x : EntN) (b : Nat) (live : Int) : Int := if x.2 = 0 ∧ b ≠ 0 then live + 1 else if x.2 ≠ 0 ∧ b = 0 then live + -1 else live

section
variable {w : World} {Gz : GzT} {S : Nat → Prop} {tb : Nat} {R : List EntN} {num : RowN → Option Nat} {pats : List RowN} {Ls : List LsD} {live d0 d1 d2 : Int} {ra : Option Addr} {rc nb pb : Nat} {la : Option Addr} {lc : Nat}
set_option maxRecDepth 100000 in
set_option maxHeartbeats 4000000 in
theorem tbPut_any (h : TabM Gz w S tb R num pats Ls live d0 d1 d2 ra rc nb pb la lc) (n : Nat) (x : EntN) (hx : R[n]? = some x) (b : Nat) (hb : b < 256) (hin : ∀ i, i < 6 → lookN x.1 i ∈ pats) (hl : -1000000000000 ≤ live ∧ live ≤ 1000000000000) (hn : Near 1000000000000 ⟨Ls, d0, d1, d2⟩) :
    Calls Try.prog 33 #[tabP tb, .int .i64 (n : Int), .int .u8 (b : Int)] w fun e w' => e = .returned (.tuple #[]) ∧ Turned S w w' ∧
      TabM Gz w' S tb (R.set n (x.1, b)) num pats (putC pats x b ⟨Ls, d0, d1, d2⟩).ls (putL x b live) (putC pats x b ⟨Ls, d0, d1, d2⟩).e0 (putC pats x b ⟨Ls, d0, d1, d2⟩).e1 (putC pats x b ⟨Ls, d0, d1, d2⟩).e2 ra rc nb pb la lc := by
  have hlen : n < R.length := (List.getElem?_eq_some_iff.1 hx).1
  have hko := (h.okR x (List.mem_of_getElem? hx)).1
  have hx2 := (h.okR x (List.mem_of_getElem? hx)).2
  obtain ⟨g, o, hra, hcs, hfr⟩ := h.ptrR (by omega)
  obtain ⟨a0, a1, a2, a3⟩ := hcs n x hx
  have c0 : w.cell? ⟨tb, 0, none⟩ = some (.slice ra R.length rc) := cell_in h.blk rfl
  rw [hra] at c0
  have hm1 : TabM Gz (w.setCell ⟨g, o + n * 4 + 3, none⟩ (.int .u8 (b : Int))) S tb (R.set n (x.1, b)) num pats Ls live d0 d1 d2 ra rc nb pb la lc := by
    have := h.setBits hra hx b hb
    rw [← Nat.add_assoc] at this
    exact this
  have ht1 : Turned S w (w.setCell ⟨g, o + n * 4 + 3, none⟩ (.int .u8 (b : Int))) := Turned.set (a := ⟨g, o + n * 4 + 3, none⟩) (show S g from h.sR _ hra) _
  have hra1 : ra = some ⟨g, o, none⟩ := hra
  have HM1 := Lib.hid hm1
  have HT1 := Lib.hid ht1
  have HRa := Lib.hid hra1
  have i0 : (0 : Int) ≤ (n : Int) := by omega
  have i1 : (n : Int) < (R.length : Int) := by omega
  have hset : (R.set n (x.1, b))[n]? = some (x.1, b) := List.getElem?_set_self hlen
  obtain ⟨W1, hW1⟩ : ∃ W1, W1 = w.setCell ⟨g, o + n * 4 + 3, none⟩ (.int .u8 (b : Int)) := ⟨_, rfl⟩
  rw [← hW1] at HM1 HT1
  have HW1 := Lib.hid hW1
  obtain ⟨g', o', hra', hcs', _⟩ := HM1.out.ptrR (by rw [List.length_set]; omega)
  obtain ⟨rfl, rfl⟩ : g' = g ∧ o' = o := by
    have := hra.symm.trans hra'
    injection this with this
    injection this with e1 e2
    exact ⟨e1.symm, e2.symm⟩
  obtain ⟨b0, b1, b2, _⟩ := hcs' n _ hset
  have HC1 : Hid (∀ by_ : Int, by_ = 1 ∨ by_ = -1 → Calls Try.prog 41 #[tabP tb, rowV x.1, .int .i64 by_] W1 fun e w' => e = .returned (.tuple #[]) ∧ Turned S W1 w' ∧
      TabM Gz w' S tb (R.set n (x.1, b)) num pats (cntF pats x.1 by_ ⟨Ls, d0, d1, d2⟩ 6).ls (live + by_) (cntF pats x.1 by_ ⟨Ls, d0, d1, d2⟩ 6).e0 (cntF pats x.1 by_ ⟨Ls, d0, d1, d2⟩ 6).e1 (cntF pats x.1 by_ ⟨Ls, d0, d1, d2⟩ 6).e2 ra rc nb pb la lc) :=
    Lib.hid (fun by_ hby => tbCount_any HM1.out x.1 hko by_ hby hin hl hn)
  have HCa := Lib.hid (HC1.out 1 (.inl rfl))
  have HCb := Lib.hid (HC1.out (-1) (.inr rfl))
  obtain ⟨r, was⟩ := x
  dsimp only at *
  clear h hra hra1 hcs hcs' hra' hm1 ht1 hset hin hl hn hko hx HC1 hW1
  by_cases h0 : was = 0
  · subst h0
    by_cases hb0 : b = 0
    · have e1 : ((b : Int) != 0) = false := by simp [hb0]
      have e2 : ((b : Int) == 0) = true := by simp [hb0]
      have hC : putC pats (r, 0) b ⟨Ls, d0, d1, d2⟩ = ⟨Ls, d0, d1, d2⟩ := by unfold putC; rw [if_neg (by simp [hb0]), if_neg (by simp)]
      have hL : putL (r, 0) b live = live := by unfold putL; rw [if_neg (by simp [hb0]), if_neg (by simp)]
      rw [hC, hL]
      clear hC hL hb0
      go_enter Try.func33, Try.ntmps33
      go_upto_region 3 with fail
      rw [← HW1.out]
      go_wp2
      refine bodyPost_end (results_none rfl _ _ _) rfl ?_
      exact ⟨rfl, HT1.out, HM1.out⟩
    · have e1 : ((b : Int) != 0) = true := by rw [bne_iff_ne]; omega
      have hC : putC pats (r, 0) b ⟨Ls, d0, d1, d2⟩ = cntF pats r 1 ⟨Ls, d0, d1, d2⟩ 6 := by unfold putC; rw [if_pos ⟨rfl, hb0⟩]
      have hL : putL (r, 0) b live = live + 1 := by unfold putL; rw [if_pos ⟨rfl, hb0⟩]
      rw [hC, hL]
      clear hC hL hb0
      go_enter Try.func33, Try.ntmps33
      go_upto_region 3 with fail
      rw [← HW1.out]
      go_wp2_with (go_at_call 41; refine HCa.out.mono ?_; rintro e w' ⟨rfl, hT, hM⟩)
      refine bodyPost_end (results_none rfl _ _ _) rfl ?_
      exact ⟨rfl, HT1.out.trans hT, hM⟩
  · have e0 : ((was : Int) == 0) = false := by rw [beq_eq_false_iff_ne]; omega
    have e0n : ((was : Int) != 0) = true := by rw [bne_iff_ne]; omega
    by_cases hb0 : b = 0
    · have e1 : ((b : Int) != 0) = false := by simp [hb0]
      have e2 : ((b : Int) == 0) = true := by simp [hb0]
      have hC : putC pats (r, was) b ⟨Ls, d0, d1, d2⟩ = cntF pats r (-1) ⟨Ls, d0, d1, d2⟩ 6 := by unfold putC; rw [if_neg (by simp [h0]), if_pos ⟨h0, hb0⟩]
      have hL : putL (r, was) b live = live + -1 := by unfold putL; rw [if_neg (by simp [h0]), if_pos ⟨h0, hb0⟩]
      rw [hC, hL]
      clear hC hL hb0 h0
      go_enter Try.func33, Try.ntmps33
      go_upto_region 3 with fail
      rw [← HW1.out]
      go_wp2_with (go_at_call 41; refine HCb.out.mono ?_; rintro e w' ⟨rfl, hT, hM⟩)
      refine bodyPost_end (results_none rfl _ _ _) rfl ?_
      exact ⟨rfl, HT1.out.trans hT, hM⟩
    · have e1 : ((b : Int) != 0) = true := by rw [bne_iff_ne]; omega
      have e2 : ((b : Int) == 0) = false := by rw [beq_eq_false_iff_ne]; omega
      have hC : putC pats (r, was) b ⟨Ls, d0, d1, d2⟩ = ⟨Ls, d0, d1, d2⟩ := by unfold putC; rw [if_neg (by simp [h0]), if_neg (by simp [hb0])]
      have hL : putL (r, was) b live = live := by unfold putL; rw [if_neg (by simp [h0]), if_neg (by simp [hb0])]
      rw [hC, hL]
      clear hC hL hb0 h0
      go_enter Try.func33, Try.ntmps33
      go_upto_region 3 with fail
      rw [← HW1.out]
      go_wp2
      refine bodyPost_end (results_none rfl _ _ _) rfl ?_
      exact ⟨rfl, HT1.out, HM1.out⟩
end
end Go.Proofs.Ytnmimagcmmdolaa
