/-
  CONTRACT OF table's Count.
-/
import Derived.Test.YtnmimagcmmdolaaTbList
namespace Go.Proofs.Ytnmimagcmmdolaa
open Go.RowKit
set_option linter.unusedVariables false
set_option linter.unusedSimpArgs false

theorem field_ls0 (ao : Option Addr) (n cap : Nat) (l : Int) (W : World) : (Instr.field 70 (.agg #[.slice ao n cap, .int .i64 l]) 0).run Try.prog W = .ok (.slice ao n cap) W := by kernel_rfl
theorem field_ls1 (ao : Option Addr) (n cap : Nat) (l : Int) (W : World) : (Instr.field 70 (.agg #[.slice ao n cap, .int .i64 l]) 1).run Try.prog W = .ok (.int .i64 l) W := by kernel_rfl
theorem fit_zero {q : RowN} (h : knownN q = 0) (r : RowN) : fitB q r = true := by
  unfold knownN oneN at h
  rw [fitB_iff]
  have h1 : q.1 = 0 := by
    by_cases a : q.1 = 0
    · exact a
    · rw [if_neg a] at h; omega
  have h2 : q.2.1 = 0 := by
    by_cases a : q.2.1 = 0
    · exact a
    · rw [if_neg a] at h; omega
  have h3 : q.2.2 = 0 := by
    by_cases a : q.2.2 = 0
    · exact a
    · rw [if_neg a] at h; omega
  exact ⟨.inl h1, .inl h2, .inl h3⟩
theorem fit_whole {q : RowN} (h : okLook q) {r : RowN} : fitB q r = true ↔ q = r := by
  obtain ⟨h1, h2, h3⟩ := h
  rw [fitB_iff]
  constructor
  · rintro ⟨a, b, c⟩
    exact row_ext (a.resolve_left h1) (b.resolve_left h2) (c.resolve_left h3)
  · rintro rfl
    exact ⟨.inr rfl, .inr rfl, .inr rfl⟩
theorem known_cases (q : RowN) : knownN q = 0 ∨ partL q ∨ (knownN q = 3 ∧ okLook q) := by
  have hle : knownN q ≤ 3 := by
    unfold knownN oneN
    have : ∀ a : Nat, (if a = 0 then 0 else 1) ≤ 1 := fun a => by split <;> omega
    have := this q.1
    have := ‹∀ a : Nat, (if a = 0 then 0 else 1) ≤ 1› q.2.1
    have := ‹∀ a : Nat, (if a = 0 then 0 else 1) ≤ 1› q.2.2
    omega
  have hk := known_look q
  unfold partL
  by_cases h : okLook q
  · exact .inr (.inr ⟨by have := mt hk.1 (fun h' => h' h); omega, h⟩)
  · have := hk.2 h
    omega
theorem cntQ_whole {R : List EntN} (hn : (R.map (·.1)).Nodup) {q : RowN} (hq : okLook q) : cntQ q R = match numF R q with
    | some n => if (R.getD n (q, 0)).2 ≠ 0 then 1 else 0
    | none => 0 := by
  cases hnum : numF R q with
  | none =>
    have := numF_none hnum
    exact cntQ_nil fun x hx => by
      cases hf : fitB q x.1 with
      | false => rfl
      | true => exact absurd (List.mem_map.2 ⟨x, hx, ((fit_whole hq).1 hf).symm⟩) this
  | some n =>
    obtain ⟨b, hb⟩ := numF_some hnum
    dsimp only
    have hR : R.Nodup := List.Pairwise.imp (fun h e => h (by rw [e])) (List.pairwise_map.1 hn)
    have hm := List.mem_of_getElem? hb
    have hc := countP_one R hR (fun _ => false) (fun x => liveB x && fitB q x.1) (q, b) hm (fun x hx hne => by
      cases hf : fitB q x.1 with
      | false => simp
      | true =>
        have e := (fit_whole hq).1 hf
        obtain ⟨j, hj⟩ := List.getElem?_of_mem hx
        have h1 := numF_at hn hj
        rw [← e, hnum] at h1
        injection h1 with h1
        subst h1
        rw [hb] at hj
        injection hj with hj
        exact absurd hj.symm hne)
    have h0 : R.countP (fun _ : EntN => false) = 0 := by rw [List.countP_eq_zero]; simp
    rw [h0] at hc
    have hfq : fitB q q = true := (fit_whole hq).2 rfl
    rw [List.getD_eq_getElem?_getD, hb]
    simp only [Option.getD_some]
    unfold cntQ
    simp only [Bool.false_eq_true, if_false, Nat.add_zero, Nat.zero_add, hfq, Bool.and_true] at hc
    rw [hc]
    unfold liveB
    simp only [bne_iff_ne]
section
variable {B : Nat} {Gz : GzT} {W U w : World} {S : Nat → Prop} {tb : Nat} {R : List EntN}
set_option maxRecDepth 100000 in
set_option maxHeartbeats 4000000 in
theorem TabI.count (h : TabI B Gz w S tb R) (q : RowN) (hq : okN q) : Calls Try.prog 12 #[tabP tb, rowV q] w fun e w' => e = .returned (.int .i64 ((cntQ q R : Nat) : Int)) ∧ Below w.heap.size w w' := by
  obtain ⟨n0, hn0⟩ : ∃ n0, n0 = w.heap.size := ⟨_, rfl⟩
  have hc0 := heap_alloc_new w (.cells (rowC q) 34)
  have hb0 := (Below.refl w.heap.size w).alloc (Nat.le_refl _) (.cells (rowC q) 34)
  have hs0 : (w.alloc (.cells (rowC q) 34)).heap.size = w.heap.size + 1 := World.size_alloc _ _
  obtain ⟨W0, hW0⟩ : ∃ W0, W0 = w.alloc (.cells (rowC q) 34) := ⟨_, rfl⟩
  rw [← hW0] at hc0 hb0 hs0
  rw [← hn0] at hc0
  have h0 := h.below hb0
  have c0 : W0.cell? ⟨n0, 0, none⟩ = some (.int .u32 (q.1 : Int)) := cell_in hc0 rfl
  have c1 : W0.cell? ⟨n0, 1, none⟩ = some (.int .u32 (q.2.1 : Int)) := cell_in hc0 rfl
  have c2 : W0.cell? ⟨n0, 2, none⟩ = some (.int .u32 (q.2.2 : Int)) := cell_in hc0 rfl
  have HK := Lib.hid (tbKnown_any q W0)
  have HW0 := Lib.hid hW0
  have HN0 := Lib.hid hn0
  have HB := Lib.hid hb0
  have HF : Hid (∀ U, Below W0.heap.size W0 U → Calls Try.prog 23 #[tabP tb, rowV q] U fun e w' => e = .returned (.tuple (findV (numF R q))) ∧ Below W0.heap.size W0 w') :=
    Lib.hid (fun U hU => ((h0.below hU).find q hq).mono fun e w' ⟨a, b⟩ => ⟨a, hU.trans (b.mono hU.size)⟩)
  have HC : Hid (∀ U, Below W0.heap.size W0 U → U.cell? ⟨n0, 0, none⟩ = some (.int .u32 (q.1 : Int)) ∧ U.cell? ⟨n0, 1, none⟩ = some (.int .u32 (q.2.1 : Int)) ∧ U.cell? ⟨n0, 2, none⟩ = some (.int .u32 (q.2.2 : Int)) ∧ Below w.heap.size w U) :=
    Lib.hid (fun U hU => ⟨(hU.cell (p := ⟨n0, 0, none⟩) (by show n0 < _; rw [hs0]; omega)).trans c0, (hU.cell (p := ⟨n0, 1, none⟩) (by show n0 < _; rw [hs0]; omega)).trans c1, (hU.cell (p := ⟨n0, 2, none⟩) (by show n0 < _; rw [hs0]; omega)).trans c2, hb0.trans (hU.mono (by rw [hs0]; omega))⟩)
  have HT := Lib.hid h0
  obtain ⟨pats, Ls, live, d0, d1, d2, ra, rc, nb, pb, la, lc, h1, hi, _⟩ := h0
  have HNo := Lib.hid (tbNone_any h1)
  obtain ⟨v, hv⟩ : ∃ v, v = cntQ q R := ⟨_, rfl⟩
  rw [← hv]
  rcases known_cases q with hk | hp | ⟨hk, hok⟩
  · rw [hk] at HK
    have hl : ((v : Nat) : Int) = live := by
      rw [hv, hi.live]
      unfold cntQ
      congr 1
      apply List.countP_congr
      intro x _
      rw [fit_zero hk]
      simp
    rw [hl]
    have HL : Hid (∀ U, Below W0.heap.size W0 U → U.cell? ⟨tb, 4, none⟩ = some (.int .i64 live)) := Lib.hid (fun U hU => cell_in (h1.below hU).blk rfl)
    clear h h1 hc0 hb0 hW0 hn0 hs0 hi hk hl hv
    go_enter Try.func12, Try.ntmps12
    go_upto_region 1 with fail
    rw [← HW0.out, ← HN0.out]
    go_wp2_with (first
      | (go_at_call 29; refine HNo.out.mono ?_; rintro e w' ⟨rfl, rfl⟩)
      | (go_at_call 30; refine HK.out.mono ?_; rintro e w' ⟨rfl, hbk⟩; have p4 := HL.out _ hbk; have hbw := (HC.out _ hbk).2.2.2))
    go_ret
    exact ⟨rfl, hbw⟩
  · obtain ⟨kn, hkn⟩ : ∃ kn, kn = knownN q := ⟨_, rfl⟩
    rw [← hkn] at HK
    have k0 : ((kn : Int) == 0) = false := by rw [beq_eq_false_iff_ne]; rcases hp with h | h <;> omega
    have k3 : ((kn : Int) == 3) = false := by rw [beq_eq_false_iff_ne]; rcases hp with h | h <;> omega
    have hl : ((v : Nat) : Int) = (listO pats Ls q).live := by
      rw [hv]
      unfold listO
      by_cases hin : q ∈ pats
      · rw [if_pos hin]
        have hlt := List.idxOf_lt_length_iff.2 hin
        have hV := hi.view
        have hg : (viewL Ls)[pats.idxOf q]? = some (idxsF q (R.map (·.1)), ((cntQ q R : Nat) : Int)) := by
          rw [hV, List.getElem?_map, List.getElem?_eq_getElem hlt, List.getElem_idxOf hlt]
          rfl
        unfold viewL at hg
        rw [List.getElem?_map] at hg
        cases hx : Ls[pats.idxOf q]? with
        | none => rw [hx] at hg; cases hg
        | some x =>
          rw [hx] at hg
          rw [List.getD_eq_getElem?_getD, hx]
          injection hg with hg
          injection hg with _ hg
          exact hg.symm
      · rw [if_neg hin, cntQ_nil (hi.none hp hin)]
        rfl
    rw [hl]
    have HL : Hid (∀ U, Below W0.heap.size W0 U → Calls Try.prog 31 #[tabP tb, rowV q] U fun e w' => e = .returned (.agg #[.slice (listO pats Ls q).ao (listO pats Ls q).xs.length (listO pats Ls q).cap, .int .i64 (listO pats Ls q).live]) ∧ Below W0.heap.size W0 w') :=
      Lib.hid (fun U hU => (tbList_any (h1.below hU) q hq).mono fun e w' ⟨a, b⟩ => ⟨a, hU.trans (b.mono hU.size)⟩)
    generalize listO pats Ls q = x at *
    have hfl := field_ls1
    clear h h1 hc0 hb0 hW0 hn0 hs0 hi hkn hl hv hp
    go_enter Try.func12, Try.ntmps12
    go_upto_region 1 with fail
    rw [← HW0.out, ← HN0.out]
    go_wp2_with (first
      | (go_at_call 29; refine HNo.out.mono ?_; rintro e w' ⟨rfl, rfl⟩)
      | (go_at_call 30; refine HK.out.mono ?_; rintro e w' ⟨rfl, hbk⟩; obtain ⟨e0, e1, e2, hbw⟩ := HC.out _ hbk)
      | (go_at_call 31; refine (HL.out _ (by assumption)).mono ?_; rintro e w' ⟨rfl, hbl⟩; have hbx := (HC.out _ hbl).2.2.2))
    go_ret
    exact ⟨rfl, hbx⟩
  · rw [hk] at HK
    have hcw := cntQ_whole hi.nod hok
    cases hnum : numF R q with
    | none =>
      rw [hnum] at hcw HF
      have hl : ((v : Nat) : Int) = 0 := by rw [hv, hcw]; rfl
      rw [hl]
      have HF' : Hid (∀ U, Below W0.heap.size W0 U → Calls Try.prog 23 #[tabP tb, rowV q] U fun e w' => e = .returned (.tuple #[.int .i64 (-1), .bool false]) ∧ Below W0.heap.size W0 w') := HF
      clear h h1 hc0 hb0 hW0 hn0 hs0 hi hk hl hv hcw HF
      go_enter Try.func12, Try.ntmps12
      go_upto_region 1 with fail
      rw [← HW0.out, ← HN0.out]
      go_wp2_with (first
        | (go_at_call 29; refine HNo.out.mono ?_; rintro e w' ⟨rfl, rfl⟩)
        | (go_at_call 30; refine HK.out.mono ?_; rintro e w' ⟨rfl, hbk⟩; obtain ⟨e0, e1, e2, hbw⟩ := HC.out _ hbk)
        | (go_at_call 23; refine (HF'.out _ (by assumption)).mono ?_; rintro e w' ⟨rfl, hbl⟩; have hbx := (HC.out _ hbl).2.2.2))
      go_ret
      exact ⟨rfl, hbx⟩
    | some n =>
      rw [hnum] at hcw HF
      obtain ⟨b, hb⟩ := numF_some hnum
      have hlt := (List.getElem?_eq_some_iff.1 hb).1
      dsimp only at hcw
      rw [List.getD_eq_getElem?_getD, hb] at hcw
      simp only [Option.getD_some] at hcw
      have HF' : Hid (∀ U, Below W0.heap.size W0 U → Calls Try.prog 23 #[tabP tb, rowV q] U fun e w' => e = .returned (.tuple #[.int .i64 (n : Int), .bool true]) ∧ Below W0.heap.size W0 w') := HF
      obtain ⟨g, o, hra, _, _⟩ := h1.ptrR (by omega)
      have HR : Hid (∀ U, Below W0.heap.size W0 U → U.cell? ⟨tb, 0, none⟩ = some (.slice (some ⟨g, o, none⟩) R.length rc) ∧ U.cell? ⟨g, o + n * 4 + 3, none⟩ = some (.int .u8 (b : Int))) := Lib.hid (fun U hU => by
        have hU1 := h1.below hU
        refine ⟨by rw [← hra]; exact cell_in hU1.blk rfl, ?_⟩
        obtain ⟨g', o', hra', hcs, _⟩ := hU1.ptrR (by omega)
        rw [hra] at hra'
        injection hra' with hra'
        injection hra' with e1 e2
        subst e1 e2
        exact (hcs n _ hb).2.2.2)
      have i0 : (0 : Int) ≤ (n : Int) := by omega
      have i1 : (n : Int) < (R.length : Int) := by omega
      by_cases hb0' : b = 0
      · have hl : ((v : Nat) : Int) = 0 := by rw [hv, hcw]; simp [hb0']
        rw [hl]
        have eb : ((b : Int) != 0) = false := by simp [hb0']
        clear h h1 hc0 hb0 hW0 hn0 hs0 hi hk hl hv hcw HF hra hb0'
        go_enter Try.func12, Try.ntmps12
        go_upto_region 1 with fail
        rw [← HW0.out, ← HN0.out]
        go_wp2_with (first
          | (go_at_call 29; refine HNo.out.mono ?_; rintro e w' ⟨rfl, rfl⟩)
          | (go_at_call 30; refine HK.out.mono ?_; rintro e w' ⟨rfl, hbk⟩; obtain ⟨e0, e1, e2, hbw⟩ := HC.out _ hbk)
          | (go_at_call 23; refine (HF'.out _ (by assumption)).mono ?_; rintro e w' ⟨rfl, hbl⟩; have hbx := (HC.out _ hbl).2.2.2; obtain ⟨r0, r1⟩ := HR.out _ hbl))
        go_ret
        exact ⟨rfl, hbx⟩
      · have hl : ((v : Nat) : Int) = 1 := by rw [hv, hcw]; simp [hb0']
        rw [hl]
        have eb : ((b : Int) != 0) = true := by rw [bne_iff_ne]; omega
        clear h h1 hc0 hb0 hW0 hn0 hs0 hi hk hl hv hcw HF hra hb0'
        go_enter Try.func12, Try.ntmps12
        go_upto_region 1 with fail
        rw [← HW0.out, ← HN0.out]
        go_wp2_with (first
          | (go_at_call 29; refine HNo.out.mono ?_; rintro e w' ⟨rfl, rfl⟩)
          | (go_at_call 30; refine HK.out.mono ?_; rintro e w' ⟨rfl, hbk⟩; obtain ⟨e0, e1, e2, hbw⟩ := HC.out _ hbk)
          | (go_at_call 23; refine (HF'.out _ (by assumption)).mono ?_; rintro e w' ⟨rfl, hbl⟩; have hbx := (HC.out _ hbl).2.2.2; obtain ⟨r0, r1⟩ := HR.out _ hbl))
        go_ret
        exact ⟨rfl, hbx⟩
end
end Go.Proofs.Ytnmimagcmmdolaa
