/-
  CONTRACTS OF table's put, enter, Set, Clear AND Add, over all that is true of a table.
-/
import Derived.Test.YtnmimagcmmdolaaTbCnt
namespace Go.Proofs.Ytnmimagcmmdolaa
open Go.RowKit
set_option linter.unusedVariables false
set_option linter.unusedSimpArgs false

/-- A row's bits are changed, if there is such a row. -/
def modR (R : List EntN) (n : Int) (f : Nat → Nat) : List EntN := if 0 ≤ n then match R[n.toNat]? with
  | some x => R.set n.toNat (x.1, f x.2)
  | none => R
  else R
theorem modR_in {R : List EntN} {k : Nat} {x : EntN} (hx : R[k]? = some x) (f : Nat → Nat) : modR R (k : Int) f = R.set k (x.1, f x.2) := by
  unfold modR
  rw [if_pos (by omega), Int.toNat_natCast, hx]
theorem modR_out {R : List EntN} {n : Int} (h : ¬ (0 ≤ n ∧ n < (R.length : Int))) (f : Nat → Nat) : modR R n f = R := by
  unfold modR
  split
  · rw [List.getElem?_eq_none (by omega)]
  · rfl
section
variable {B : Nat} {Gz : GzT} {W U w : World} {S : Nat → Prop} {tb : Nat} {R : List EntN}
theorem TabI.few (h : TabI B Gz w S tb R) : R.length ≤ 1000000000 := by
  obtain ⟨pats, Ls, live, d0, d1, d2, ra, rc, nb, pb, la, lc, h1, _⟩ := h
  exact h1.few
theorem TabI.put (h : TabI B Gz w S tb R) (n : Nat) (x : EntN) (hx : R[n]? = some x) (b : Nat) (hb : b < 256) : Calls Try.prog 33 #[tabP tb, .int .i64 (n : Int), .int .u8 (b : Int)] w fun e w' => e = .returned (.tuple #[]) ∧ Turned S w w' ∧ TabI B Gz w' S tb (R.set n (x.1, b)) := by
  obtain ⟨pats, Ls, live, d0, d1, d2, ra, rc, nb, pb, la, lc, h1, hi, hB⟩ := h
  obtain ⟨n1, n2⟩ := hi.near h1.few
  refine (tbPut_any h1 n x hx b hb (hi.looks x (List.mem_of_getElem? hx)) n1 n2).mono ?_
  rintro e w' ⟨rfl, hT, hM⟩
  exact ⟨rfl, hT, _, _, _, _, _, _, _, _, _, _, _, _, by rw [numF_set hx]; exact hM, hi.put hx b, hB⟩
theorem TabI.enter (h : TabI B Gz w S tb R) (r : RowN) (hr : okN r) (hk : okLook r) (hf : numF R r = none) (hl : R.length ≤ 1000000) : Calls Try.prog 32 #[tabP tb, rowV r] w fun e w' => e = .returned (.int .i64 (R.length : Int)) ∧ Turned S w w' ∧ TabI B Gz w' (growS S w w') tb (R ++ [(r, 0)]) := by
  obtain ⟨pats, Ls, live, d0, d1, d2, ra, rc, nb, pb, la, lc, h1, hi, hB⟩ := h
  have hp := hi.plen
  have hls := h1.lens
  refine (tbEnter_any h1 r hr hf (by omega) (by omega) (fun x hx => by have := hi.len hx; omega)).mono ?_
  rintro e w' ⟨rfl, hT, Ls', ra', rc', la', lc', hM, hv⟩
  refine ⟨rfl, hT, _, _, _, _, _, _, _, _, _, _, _, _, by rw [numF_snoc (numF_none hf)]; exact hM, ?_, hB⟩
  rw [hv]
  exact hi.enter hk (numF_none hf)
theorem TabI.set (h : TabI B Gz w S tb R) (n : Int) (b : Nat) (hb : b < 256) : Calls Try.prog 21 #[tabP tb, .int .i64 n, .int .u8 (b : Int)] w fun e w' => e = .returned (.tuple #[]) ∧ Turned S w w' ∧ TabI B Gz w' S tb (modR R n (fun x => orB x b)) := by
  obtain ⟨pats, Ls, live, d0, d1, d2, ra, rc, nb, pb, la, lc, h1, hi, hB⟩ := h
  obtain ⟨n1, n2⟩ := hi.near h1.few
  refine (tbSet_any h1 n b hb hi.looks n1 n2).mono ?_
  rintro e w' ⟨rfl, hT, (⟨ho, hM⟩ | ⟨k, x, rfl, hx, hM⟩)⟩
  · rw [modR_out ho]
    exact ⟨rfl, hT, _, _, _, _, _, _, _, _, _, _, _, _, hM, hi, hB⟩
  · rw [modR_in hx]
    exact ⟨rfl, hT, _, _, _, _, _, _, _, _, _, _, _, _, by rw [numF_set hx]; exact hM, hi.put hx _, hB⟩
theorem TabI.clear (h : TabI B Gz w S tb R) (n : Int) (b : Nat) (hb : b < 256) : Calls Try.prog 18 #[tabP tb, .int .i64 n, .int .u8 (b : Int)] w fun e w' => e = .returned (.tuple #[]) ∧ Turned S w w' ∧ TabI B Gz w' S tb (modR R n (fun x => andNotB x b)) := by
  obtain ⟨pats, Ls, live, d0, d1, d2, ra, rc, nb, pb, la, lc, h1, hi, hB⟩ := h
  obtain ⟨n1, n2⟩ := hi.near h1.few
  refine (tbClear_any h1 n b hb hi.looks n1 n2).mono ?_
  rintro e w' ⟨rfl, hT, (⟨ho, hM⟩ | ⟨k, x, rfl, hx, hM⟩)⟩
  · rw [modR_out ho]
    exact ⟨rfl, hT, _, _, _, _, _, _, _, _, _, _, _, _, hM, hi, hB⟩
  · rw [modR_in hx]
    exact ⟨rfl, hT, _, _, _, _, _, _, _, _, _, _, _, _, by rw [numF_set hx]; exact hM, hi.put hx _, hB⟩
/-- A row's cells. -/
theorem TabI.row (h : TabI B Gz w S tb R) {n : Nat} {x : EntN} (hx : R[n]? = some x) : ∃ g o rc, w.cell? ⟨tb, 0, none⟩ = some (.slice (some ⟨g, o, none⟩) R.length rc) ∧ w.cell? ⟨g, o + n * 4 + 3, none⟩ = some (.int .u8 (x.2 : Int)) := by
  obtain ⟨pats, Ls, live, d0, d1, d2, ra, rc, nb, pb, la, lc, h1, hi, hB⟩ := h
  have hlt := (List.getElem?_eq_some_iff.1 hx).1
  obtain ⟨g, o, hra, hcs, _⟩ := h1.ptrR (by omega)
  exact ⟨g, o, rc, by rw [← hra]; exact cell_in h1.blk rfl, (hcs n x hx).2.2.2⟩
theorem TabI.isNone (h : TabI B Gz w S tb R) : Calls Try.prog 29 #[tabP tb] w fun e w' => e = .returned (.bool false) ∧ w = w' := by
  obtain ⟨pats, Ls, live, d0, d1, d2, ra, rc, nb, pb, la, lc, h1, _⟩ := h
  exact tbNone_any h1
theorem TabI.look (h : TabI B Gz w S tb R) {r : RowN} (hr : okN r) : ∃ nb, w.cell? ⟨tb, 1, none⟩ = some (.map (some nb)) ∧ (Instr.lookup 56 (.map (some nb)) (rowV r) true).run Try.prog w.drew = .ok (.tuple #[.int .i64 (((numF R r).getD 0 : Nat) : Int), .bool (numF R r).isSome]) w.drew := by
  obtain ⟨pats, Ls, live, d0, d1, d2, ra, rc, nb, pb, la, lc, h1, _⟩ := h
  exact ⟨nb, cell_in h1.blk rfl, (h1.below (Below.refl _ _).drew).nums.look hr⟩

set_option maxRecDepth 100000 in
set_option maxHeartbeats 4000000 in
theorem TabI.add (h : TabI B Gz w S tb R) (r : RowN) (hr : okN r) (b : Nat) (hb : b < 256) (hl : R.length ≤ 1000000) :
    Calls Try.prog 14 #[tabP tb, rowV r, .int .u8 (b : Int)] w fun e w' => e = .returned (.tuple (addV R r b)) ∧ Turned S w w' ∧ TabI B Gz w' (growS S w w') tb (addR R r b) := by
  obtain ⟨n0, hn0⟩ : ∃ n0, n0 = w.heap.size := ⟨_, rfl⟩
  have hc0 := heap_alloc_new w (.cells (rowC r) 34)
  have hb0 := (Below.refl w.heap.size w).alloc (Nat.le_refl _) (.cells (rowC r) 34)
  have hs0 : (w.alloc (.cells (rowC r) 34)).heap.size = w.heap.size + 1 := World.size_alloc _ _
  obtain ⟨W0, hW0⟩ : ∃ W0, W0 = w.alloc (.cells (rowC r) 34) := ⟨_, rfl⟩
  rw [← hW0] at hc0 hb0 hs0
  rw [← hn0] at hc0
  have h0 := h.below hb0
  have hlt := h.lt
  have c0 : W0.cell? ⟨n0, 0, none⟩ = some (.int .u32 (r.1 : Int)) := cell_in hc0 rfl
  have c1 : W0.cell? ⟨n0, 1, none⟩ = some (.int .u32 (r.2.1 : Int)) := cell_in hc0 rfl
  have c2 : W0.cell? ⟨n0, 2, none⟩ = some (.int .u32 (r.2.2 : Int)) := cell_in hc0 rfl
  have HK := Lib.hid (tbKnown_any r W0)
  have HNo := Lib.hid h0.isNone
  have HW0 := Lib.hid hW0
  have HN0 := Lib.hid hn0
  have HB := Lib.hid hb0
  have HC : Hid (∀ U, Below W0.heap.size W0 U → U.cell? ⟨n0, 0, none⟩ = some (.int .u32 (r.1 : Int)) ∧ U.cell? ⟨n0, 1, none⟩ = some (.int .u32 (r.2.1 : Int)) ∧ U.cell? ⟨n0, 2, none⟩ = some (.int .u32 (r.2.2 : Int))) :=
    Lib.hid (fun U hU => ⟨(hU.cell (p := ⟨n0, 0, none⟩) (by show n0 < _; rw [hs0]; omega)).trans c0, (hU.cell (p := ⟨n0, 1, none⟩) (by show n0 < _; rw [hs0]; omega)).trans c1, (hU.cell (p := ⟨n0, 2, none⟩) (by show n0 < _; rw [hs0]; omega)).trans c2⟩)
  -- nothing comes
  have HEnd : Hid (∀ U, Below W0.heap.size W0 U → Turned S w U ∧ TabI B Gz U (growS S w U) tb R) := Lib.hid (fun U hU => by
    have hB := hb0.trans (hU.mono (by rw [hs0]; omega))
    exact ⟨Turned.of_below hB, (h.below hB).wide (fun j hj => .inl hj) (growS_lt hlt hB.size)⟩)
  by_cases hb0' : b = 0
  · have e1 : ((b : Int) == 0) = true := by simp [hb0']
    have hR : addR R r b = R := if_pos (.inl hb0')
    have hV : addV R r b = #[.int .i64 (-1), .bool false] := if_pos (.inl hb0')
    rw [hR, hV]
    have HE := Lib.hid (HEnd.out W0 (Below.refl _ _))
    clear h h0 hc0 hb0 hW0 hn0 hs0 hlt hb0' hR hV
    go_enter Try.func14, Try.ntmps14
    go_upto_region 1 with fail
    rw [← HW0.out, ← HN0.out]
    go_wp2_with (go_at_call 29; refine HNo.out.mono ?_; rintro e w' ⟨rfl, rfl⟩)
    go_ret2
    exact ⟨rfl, HE.out⟩
  have e1 : ((b : Int) == 0) = false := by rw [beq_eq_false_iff_ne]; omega
  have hkn := known_look r
  obtain ⟨kn, hknn⟩ : ∃ kn, kn = knownN r := ⟨_, rfl⟩
  rw [← hknn] at HK hkn
  by_cases hok : okLook r
  · have k3 : ((kn : Int) < 3) = False := by have := mt hkn.1 (fun h' => h' hok); exact eq_false (by omega)
    have k3' : decide ((kn : Int) < 3) = false := by simp; have := mt hkn.1 (fun h' => h' hok); omega
    cases hnum : numF R r with
    | some n =>
      obtain ⟨b0, hbn⟩ := numF_some hnum
      have hgd : R.getD n (r, 0) = (r, b0) := by rw [List.getD_eq_getElem?_getD, hbn]; rfl
      have hR : addR R r b = R.set n (r, orB b0 b) := by
        unfold addR
        rw [if_neg (by simp [hb0', hok]), hnum]
        dsimp only
        rw [hgd]
      have hV : addV R r b = #[.int .i64 (n : Int), .bool (decide (b0 = 0))] := by
        unfold addV
        rw [if_neg (by simp [hb0', hok]), hnum]
        dsimp only
        rw [hgd]
      rw [hR, hV]
      have hnl := (List.getElem?_eq_some_iff.1 hbn).1
      have hb256 := (h.okR _ (List.mem_of_getElem? hbn)).2
      obtain ⟨ho, hob⟩ := orB_of hb256 hb
      have HL : Hid (∀ U, Below W0.heap.size W0 U → ∃ nb g o rc, U.cell? ⟨tb, 1, none⟩ = some (.map (some nb)) ∧ (Instr.lookup 56 (.map (some nb)) (rowV r) true).run Try.prog U.drew = .ok (.tuple #[.int .i64 (n : Int), .bool true]) U.drew ∧
          U.drew.cell? ⟨tb, 0, none⟩ = some (.slice (some ⟨g, o, none⟩) R.length rc) ∧ U.drew.cell? ⟨g, o + n * 4 + 3, none⟩ = some (.int .u8 (b0 : Int)) ∧
          Calls Try.prog 33 #[tabP tb, .int .i64 (n : Int), .int .u8 (orB b0 b : Int)] U.drew fun e w' => e = .returned (.tuple #[]) ∧ Turned S w w' ∧ TabI B Gz w' (growS S w w') tb (R.set n (r, orB b0 b))) := Lib.hid (fun U hU => by
        have hU1 := h0.below hU
        obtain ⟨nb, hn1, hn2⟩ := hU1.look hr
        rw [hnum] at hn2
        have hU2 := hU1.below (Below.refl _ _).drew
        obtain ⟨g, o, rc, hg1, hg2⟩ := hU2.row hbn
        refine ⟨nb, g, o, rc, hn1, hn2, hg1, hg2, (hU2.put n _ hbn _ hob).mono ?_⟩
        rintro e w' ⟨rfl, hT, hM⟩
        have hB := (hb0.trans (hU.mono (by rw [hs0]; omega))).drew
        have hT2 := (Turned.of_below (S := S) hB).trans hT
        exact ⟨rfl, hT2, hM.wide (fun j hj => .inl hj) (growS_lt hlt hT2.size)⟩)
      have i0 : (0 : Int) ≤ (n : Int) := by omega
      have i1 : (n : Int) < (R.length : Int) := by omega
      have hbz : ((b0 : Int) == 0) = decide (b0 = 0) := by rw [Bool.eq_iff_iff]; simp
      clear h h0 hc0 hb0 hW0 hn0 hs0 hlt hb0' hR hV hnum hbn hgd hok hkn hknn k3 hl hnl hob hb256
      go_enter Try.func14, Try.ntmps14
      go_upto_region 1 with fail
      rw [← HW0.out, ← HN0.out]
      go_upto_region 3 with (first
        | (go_at_call 29; refine HNo.out.mono ?_; rintro e w' ⟨rfl, rfl⟩)
        | (go_at_call 30; refine HK.out.mono ?_; rintro e w' ⟨rfl, hbk⟩; obtain ⟨z0, z1, z2⟩ := HC.out _ hbk; obtain ⟨nb, g, o, rc, p1, hlu, p0, pb, HP⟩ := HL.out _ hbk; rename World => wk; have hsd : wk.drew = wk.drew := rfl; replace HP := Lib.hid HP))
      go_region_held3 (fun W' => W' = wk.drew) ((first | assumption | rfl)) (fail)
      go_wp2_with (go_at_call 33; (try rw [ho]); refine HP.out.mono ?_; rintro e w' ⟨rfl, hT, hM⟩)
      go_ret2
      exact ⟨rfl, hT, hM⟩
    | none =>
      have hR : addR R r b = R ++ [(r, orB 0 b)] := by
        unfold addR
        rw [if_neg (by simp [hb0', hok]), hnum]
      have hV : addV R r b = #[.int .i64 (R.length : Int), .bool true] := by
        unfold addV
        rw [if_neg (by simp [hb0', hok]), hnum]
      rw [hR, hV]
      obtain ⟨ho, hob⟩ := orB_of (show 0 < 256 by omega) hb
      have hat : (R ++ [(r, 0)])[R.length]? = some (r, 0) := by rw [List.getElem?_append_right (Nat.le_refl _)]; simp
      have hst : (R ++ [(r, 0)]).set R.length (r, orB 0 b) = R ++ [(r, orB 0 b)] := by rw [List.set_append_right _ _ (Nat.le_refl _)]; simp
      have HL : Hid (∀ U, Below W0.heap.size W0 U → ∃ nb, U.cell? ⟨tb, 1, none⟩ = some (.map (some nb)) ∧ (Instr.lookup 56 (.map (some nb)) (rowV r) true).run Try.prog U.drew = .ok (.tuple #[.int .i64 0, .bool false]) U.drew ∧
          U.drew.cell? ⟨n0, 0, none⟩ = some (.int .u32 (r.1 : Int)) ∧ U.drew.cell? ⟨n0, 1, none⟩ = some (.int .u32 (r.2.1 : Int)) ∧ U.drew.cell? ⟨n0, 2, none⟩ = some (.int .u32 (r.2.2 : Int)) ∧
          Calls Try.prog 32 #[tabP tb, rowV r] U.drew fun e w' => e = .returned (.int .i64 (R.length : Int)) ∧ ∃ g o rc, w'.cell? ⟨tb, 0, none⟩ = some (.slice (some ⟨g, o, none⟩) ((R.length + 1 : Nat) : Nat) rc) ∧ w'.cell? ⟨g, o + R.length * 4 + 3, none⟩ = some (.int .u8 0) ∧
            Calls Try.prog 33 #[tabP tb, .int .i64 (R.length : Int), .int .u8 (orB 0 b : Int)] w' fun e w'' => e = .returned (.tuple #[]) ∧ Turned S w w'' ∧ TabI B Gz w'' (growS S w w'') tb (R ++ [(r, orB 0 b)])) := Lib.hid (fun U hU => by
        have hU1 := h0.below hU
        obtain ⟨nb, hn1, hn2⟩ := hU1.look hr
        rw [hnum] at hn2
        have hU2 := hU1.below (Below.refl _ _).drew
        obtain ⟨z0, z1, z2⟩ := HC.out U hU
        refine ⟨nb, hn1, hn2, z0, z1, z2, (hU2.enter r hr hok hnum hl).mono ?_⟩
        rintro e w' ⟨rfl, hT, hM⟩
        obtain ⟨g, o, rc, hg1, hg2⟩ := hM.row hat
        rw [List.length_append, List.length_singleton] at hg1
        refine ⟨rfl, g, o, rc, hg1, hg2, (hM.put _ _ hat _ hob).mono ?_⟩
        rintro e w'' ⟨rfl, hT2, hM2⟩
        rw [hst] at hM2
        have hB := (hb0.trans (hU.mono (by rw [hs0]; omega))).drew
        have hT3 := (Turned.of_below (S := S) hB).trans hT
        have hT4 := hT3.then (hT2.mono (S' := growS S w w') (fun j hj => by
          rcases hj with hj | hj
          · exact .inl hj
          · exact .inr ⟨Nat.le_trans hB.size hj.1, hj.2⟩))
        refine ⟨rfl, hT4, hM2.wide (fun j hj => ?_) (growS_lt hlt hT4.size)⟩
        rcases hj with hj | hj
        · exact .inl hj
        · exact .inr ⟨Nat.le_trans hB.size hj.1, Nat.lt_of_lt_of_le hj.2 hT2.size⟩)
      have i0 : (0 : Int) ≤ (R.length : Int) := by omega
      have i1 : (R.length : Int) < (R.length : Int) + 1 := by omega
      have i2 : (R.length : Int) < ((R.length + 1 : Nat) : Int) := by omega
      generalize R.length = n at *
      clear h h0 hc0 hb0 hW0 hn0 hs0 hlt hb0' hR hV hnum hok hkn hknn k3 hl hob hat hst
      go_enter Try.func14, Try.ntmps14
      go_upto_region 1 with fail
      rw [← HW0.out, ← HN0.out]
      go_upto_region 3 with (first
        | (go_at_call 29; refine HNo.out.mono ?_; rintro e w' ⟨rfl, rfl⟩)
        | (go_at_call 30; refine HK.out.mono ?_; rintro e w' ⟨rfl, hbk⟩; obtain ⟨z0, z1, z2⟩ := HC.out _ hbk; obtain ⟨nb, p1, hlu, y0, y1, y2, HP⟩ := HL.out _ hbk; rename World => wk; have hsd : wk.drew = wk.drew := rfl; replace HP := Lib.hid HP))
      go_region_held3 (fun W' => W' = wk.drew) ((first | assumption | rfl)) (fail)
      go_wp2_with (first
        | (go_at_call 32; refine HP.out.mono ?_; rintro e w' ⟨rfl, g, o, rc, p0, pb, HQ⟩; replace HQ := Lib.hid HQ)
        | (go_at_call 33; (try rw [ho]); refine HQ.out.mono ?_; rintro e w' ⟨rfl, hT, hM⟩))
      go_ret2
      exact ⟨rfl, hT, hM⟩
  · have k3' : decide ((kn : Int) < 3) = true := by simp; have := hkn.2 hok; omega
    have hR : addR R r b = R := if_pos (.inr hok)
    have hV : addV R r b = #[.int .i64 (-1), .bool false] := if_pos (.inr hok)
    rw [hR, hV]
    clear h h0 hc0 hb0 hW0 hn0 hs0 hlt hb0' hR hV hok hkn hknn
    go_enter Try.func14, Try.ntmps14
    go_upto_region 1 with fail
    rw [← HW0.out, ← HN0.out]
    go_wp2_with (first
      | (go_at_call 29; refine HNo.out.mono ?_; rintro e w' ⟨rfl, rfl⟩)
      | (go_at_call 30; refine HK.out.mono ?_; rintro e w' ⟨rfl, hbk⟩; have he := Lib.hid (HEnd.out _ hbk)))
    go_ret2
    exact ⟨rfl, he.out⟩
end
end Go.Proofs.Ytnmimagcmmdolaa
