/-
  WHAT THE PROOF STANDS ON, a part of it: NtParse, NtRefParse, NtSame, NtKnown, NtReads.
-/
import Derived.Test.YtfldpfomecjdkaaGreatDoorT13
import Derived.Test.YtfldpfomecjdkaaGreatDoorT9
import Derived.Test.YtfldpfomecjdkaaGreatDoorS34
/-
  THE CONTRACTS OF ntriples.Parse, One.
-/

namespace Go.Proofs.YtfldpfomecjdkaaGreatDoor
open Go.RowKit
open Utf Term Lex
set_option linter.unusedVariables false
set_option linter.unusedSimpArgs false

abbrev Hrp (n : Nat) : Prop := 0 < n ∧ 1 < n ∧ 2 < n
theorem Hrp.le {n m : Nat} (h : Hrp n) (k : n ≤ m) : Hrp m := ⟨by have := h.1; omega, by have := h.2.1; omega, by have := h.2.2; omega⟩

/-- All, for one that reads a document. -/
theorem all_doc (s : ByteArray) (hs : s.size ≤ 1000000000) (w : World) (hv : LexEnv w) (hrp : Hrp w.heap.size) :
    (∃ p c : Nat, c ≠ 0 ∧ c ≤ 4 ∧ docS s = .bad p c ∧ Calls Tryz.prog 28 #[.string s] w fun e w' => e = .returned (.tuple #[.slice none 0 0, .int .i64 p, .int .i64 c]) ∧ Below w.heap.size w w') ∨
    (docS s = docOf s.size (parseS (allL (bs s)).1) ∧ s.size ≤ 1048576 ∧ Calls Tryz.prog 28 #[.string s] w fun e w' => ∃ v, e = .returned (.tuple #[v, .int .i64 0, .int .i64 0]) ∧ w'.ownsRow w.heap.size 43 6 v (allL (bs s)).1.length (flatS (allL (bs s)).1) ∧ Below w.heap.size w w') := by
  have h := all_any lexEscape_any s hs w hv hrp
  unfold docS
  by_cases h1 : 1048576 < s.size
  · refine .inl ⟨0, 3, by decide, by decide, by rw [if_pos h1], h.mono ?_⟩
    intro e w' h
    unfold AllOut at h
    rw [if_pos h1] at h
    exact ⟨h.2, h.1⟩
  rw [if_neg h1]
  by_cases h2 : wfL (bs s) < s.size
  · refine .inl ⟨wfL (bs s), 4, by decide, by decide, by rw [if_pos h2], h.mono ?_⟩
    intro e w' h
    unfold AllOut at h
    rw [if_neg h1, if_pos h2] at h
    exact ⟨h.2, h.1⟩
  rw [if_neg h2]
  by_cases h3 : (allL (bs s)).2 < s.size
  · refine .inl ⟨(allL (bs s)).2, 4, by decide, by decide, by rw [if_pos h3], h.mono ?_⟩
    intro e w' h
    unfold AllOut at h
    rw [if_neg h1, if_neg h2, if_pos h3] at h
    exact ⟨h.2, h.1⟩
  rw [if_neg h3]
  refine .inr ⟨rfl, by omega, h.mono ?_⟩
  intro e w' h
  unfold AllOut at h
  rw [if_neg h1, if_neg h2, if_neg h3] at h
  obtain ⟨hB, v, rfl, ho⟩ := h
  exact ⟨v, rfl, ho, hB⟩

/-- What Parse answers. -/
def ParseOut (r : DocR) (w : World) (e : Ending) (w' : World) : Prop :=
  Below w.heap.size w w' ∧ match r with
  | .bad p c => e = .returned (.tuple #[.slice none 0 0, .int .i64 p, .int .i64 c])
  | .good ts => ∃ v, e = .returned (.tuple #[v, .int .i64 0, .int .i64 0]) ∧ w'.ownsRow w.heap.size 51 9 v ts.length (cellsT ts)

/-- A slice of one triple in a block of its own. -/
theorem sliceT_new (w : World) (t : TripD) : SliceT (w.alloc (.cells (nineC t.1 t.2.1 t.2.2) 51)) (.slice (some ⟨w.heap.size, 0, none⟩) 1 1) [t] := by
  refine .inr ⟨w.heap.size, 0, 1, rfl, Nat.le_refl _, by decide, fun j u hu => ?_⟩
  rw [Nat.zero_add]
  have hb := block_new w (nineC t.1 t.2.1 t.2.2) 51
  refine hb.cell ?_
  rw [← Array.getElem?_toList]
  have : cellsT [t] = (nineC t.1 t.2.1 t.2.2).toList := rfl
  rw [← this]
  exact hu

/-- The state at the head of Parse's loop. -/
def ParseRel (n : Nat) (P : Par) (w : World) (tb : Nat) (R : List Sym) (vl : Value) (wr : World) : Prop :=
  ∃ (acc : List TripD) (vv : Value), P = (parseS R).put acc ∧ TkAt wr tb vv R ∧ LowV tb vv ∧ (∀ x ∈ R, GoodS n x) ∧ acc.length + R.length ≤ 1048576 ∧
    wr.ownsRow (tb + 1) 51 9 vl acc.length (cellsT acc) ∧ Below w.heap.size w wr ∧ tb < wr.heap.size ∧ LexEnv wr

set_option maxRecDepth 100000 in
set_option maxHeartbeats 16000000 in
theorem ntParse_any (s : ByteArray) (hs : s.size ≤ 1000000000) (w : World) (hv : LexEnv w) (hrp : Hrp w.heap.size) :
    Calls Tryz.prog 17 #[.string s] w (ParseOut (docS s) w) := by
  obtain ⟨F, hF⟩ : ∃ F, F = ParseOut (docS s) w := ⟨_, rfl⟩
  rcases all_doc s hs w hv hrp with ⟨p, c, hc0, hc4, hd, hA⟩ | ⟨hd, hsz, hA⟩
  · have HF : Hid (∀ W, Below w.heap.size w W → F (.returned (.tuple #[.slice none 0 0, .int .i64 p, .int .i64 c])) W) := Lib.hid (fun W hW => by rw [hF, hd]; exact ⟨hW, rfl⟩)
    rw [← hF]
    have HA := Lib.hid hA
    have d1 : ((c : Int) != 0) = true := by rw [bne_iff_ne]; omega
    clear hF hd hA hv hrp
    go_enter Tryz.func17, Tryz.ntmps17
    go_wp2_with (go_at_call 28; refine HA.out.mono ?_; rintro e w1 ⟨rfl, hB1⟩)
    go_ret3
    exact HF.out _ hB1
  · have hgood := all_good s
    have hfew := syms_few s
    have HP : Hid (docS s = docOf s.size (parseS (allL (bs s)).1)) := Lib.hid hd
    have HFb : Hid (∀ l W, parseS (allL (bs s)).1 = .no l → Below w.heap.size w W → F (.returned (.tuple #[.slice none 0 0, .int .i64 (placeS s.size l), .int .i64 4])) W) := Lib.hid (fun l W hl hW => by rw [hF, hd, hl]; exact ⟨hW, rfl⟩)
    have HFg : Hid (∀ ts v W, parseS (allL (bs s)).1 = .yes ts → Below w.heap.size w W → W.ownsRow w.heap.size 51 9 v ts.length (cellsT ts) → F (.returned (.tuple #[v, .int .i64 0, .int .i64 0])) W) := Lib.hid (fun ts v W hl hW ho => by rw [hF, hd, hl]; exact ⟨hW, v, rfl, ho⟩)
    rw [← hF]
    have HA := Lib.hid hA
    have HV := Lib.hid hv
    have HRp := Lib.hid hrp
    clear hF hd hA hv hrp
    generalize (allL (bs s)).1 = L at *
    have HG := Lib.hid hgood
    clear hgood HP
    obtain ⟨P, hP⟩ : ∃ P, P = parseS L := ⟨_, rfl⟩
    rw [← hP] at HFb HFg
    have HP := Lib.hid hP
    clear hP
    go_enter Tryz.func17, Tryz.ntmps17
    go_upto_region 2 with (go_at_call 28; refine HA.out.mono ?_; rintro e w1 ⟨v, rfl, ho, hB1⟩)
    have hsl := SlA.of (slice_of_owns ho)
    obtain ⟨ao, cap, rfl, _⟩ := owns_formL ho
    have HB1 := Lib.hid hB1
    have HSl := Lib.hid hsl
    have HLo := Lib.hid hsl.low
    clear ho hsl hB1 HA
    go_upto_region 6 with (go_at_call 33; refine (ntTaking_any _ _ _ _).mono ?_; rintro e w2 ⟨rfl, rfl⟩)
    have HT2 : Hid (TkAt (w1.alloc (.cells #[.slice ao L.length cap] 25)) w1.heap.size (.slice ao L.length cap) L) := Lib.hid ⟨block_new _ _ _, HSl.out.below (below_lex _ _)⟩
    have HB2 : Hid (Below w.heap.size w (w1.alloc (.cells #[.slice ao L.length cap] 25))) := Lib.hid (below_next HB1.out (below_lex _ _))
    have HS2 : Hid (w1.heap.size < (w1.alloc (.cells #[.slice ao L.length cap] 25)).heap.size) := Lib.hid (by simp)
    have hw1 : w.heap.size ≤ w1.heap.size := HB1.out.size
    clear HB1 HSl
    generalize w1.alloc (.cells #[.slice ao L.length cap] 25) = w2 at *
    generalize w1.heap.size = tb at *
    go_loopg [8] L.length (fun gg u wr => ∃ (R : List Sym) (vl : Value), vl = u ∧ R.length ≤ gg ∧ ParseRel s.size P w tb R vl wr)
    case atStart =>
      refine ⟨L, _, rfl, Nat.le_refl _, [], _, ?_, HT2.out, HLo.out, HG.out, by simp; omega, World.ownsRow_nil _ _ _ _, HB2.out, HS2.out, HV.out.below HB2.out⟩
      rw [Par.put_nil]; exact HP.out
    case round =>
      obtain ⟨R, vl, rfl, hgg, acc, vv, hpar, htk, hlo, hgR, hcnt, hown, hB, htb, hE⟩ := hrel
      have HPa := Lib.hid hpar
      have HTk := Lib.hid htk
      have HLo2 := Lib.hid hlo
      have HGR := Lib.hid hgR
      have HO := Lib.hid hown
      have HB := Lib.hid hB
      have HE := Lib.hid hE
      have HTa := Lib.hid (ntTake_any tb 0 vv R (Nat.zero_le _) (by omega) wr htk)
      clear hpar htk hgR hown hB hE HT2 HB2 HS2 HP hlo HLo
      cases R with
      | nil =>
        have HPx : Hid (P = .yes acc) := Lib.hid (by rw [HPa.out, parseS_nil]; simp [Par.put])
        go_upto_region 11 with (go_at_call 64; refine HTa.out.mono ?_; rintro e y1 ⟨v1, rfl, hT1, hM1, _⟩; obtain ⟨p1, c1, rfl⟩ : ∃ p c, v1 = .slice p 0 c := (by rcases hT1.sl with ⟨rfl, _⟩ | ⟨g, o, cap, rfl, _⟩ <;> exact ⟨_, _, rfl⟩))
        have hB1 : Below w.heap.size wr y1 := hM1.below (by have := HB.out.size; omega) hw1
        have ho1 : y1.ownsRow (tb + 1) 51 9 vl acc.length (cellsT acc) := HO.out.kept (row := some tb) ⟨hM1.os, hM1.tape, hM1.output, hM1.size, fun k hk hn => hM1.block k hk (fun e => hn (by rw [e]))⟩ (.inr (fun e => by have := (HO.out.lt _ e).1; omega))
        have HBy := Lib.hid (HB.out.trans hB1)
        have HOy := Lib.hid (ho1.low (B := w.heap.size) (by omega))
        clear hB1 ho1 hT1 hM1
        go_wp2_with fail
        go_ret3
        exact HFg.out acc _ _ HPx.out HBy.out HOy.out
      | cons x r =>
        have hne : x :: r ≠ [] := by simp
        have HPs := Lib.hid (parseS_cons (x :: r) hne)
        go_upto_region 7 with (go_at_call 64; refine HTa.out.mono ?_; rintro e y1 ⟨v1, rfl, hT1, hM1, hl1⟩; obtain ⟨p1, c1, rfl⟩ : ∃ p c, v1 = .slice p (List.length (x :: r)) c := (by rcases hT1.sl with ⟨_, h⟩ | ⟨g, o, cap, rfl, _⟩; exact absurd h hne; exact ⟨_, _, rfl⟩))
        have hB1 : Below w.heap.size wr y1 := hM1.below (by have := HB.out.size; omega) hw1
        have ho1 : y1.ownsRow (tb + 1) 51 9 vl acc.length (cellsT acc) := HO.out.kept (row := some tb) ⟨hM1.os, hM1.tape, hM1.output, hM1.size, fun k hk hn => hM1.block k hk (fun e => hn (by rw [e]))⟩ (.inr (fun e => by have := (HO.out.lt _ e).1; omega))
        have hs1 := hM1.size
        have HE1 := Lib.hid (HE.out.under hB1 HRp.out)
        have HLo3 := Lib.hid (hl1 _ HLo2.out)
        have HBy := Lib.hid (HB.out.trans hB1)
        have HOy := Lib.hid ho1
        have HSt := Lib.hid (ntStm_any s.size (by omega) tb _ (x :: r) HGR.out (by omega) y1 HE1.out (by omega) (HRp.out.le hw1) (by have := hT1; rwa [List.drop_zero] at this))
        clear hB1 ho1 hT1 hM1 HTk HTa HE HB HO
        cases hst : stmS (x :: r) with
        | no l =>
          have HPx : Hid (P = .no l) := Lib.hid (by rw [HPa.out, HPs.out, hst]; rfl)
          rw [hst] at HSt
          clear hst HPs HPa
          go_upto_region 9 with (go_at_call 34; refine HSt.out.mono ?_; rintro e y2 ⟨hM2, v2, v3, rfl, hsl, hbl⟩)
          have hB2 : Below w.heap.size y1 y2 := hM2.below (by have := HBy.out.size; omega) hw1
          have HB2 := Lib.hid (below_next (HBy.out.trans hB2) (below_lex y2 (.cells (nineC zT zT zT) 51)))
          have HPl := Lib.hid (ntPlace_any v2 l s.size _ (hsl.below (below_lex y2 (.cells (nineC zT zT zT) 51))))
          clear hM2 hsl hbl hB2 HSt
          go_wp2_with (go_at_call 35; refine HPl.out.mono ?_; rintro e y3 ⟨rfl, rfl⟩)
          go_ret3
          exact HFb.out l _ HPx.out HB2.out
        | yes t l =>
          have hyes := stmS_yes hst
          have HPx : Hid (P = (parseS l).put (acc ++ [t])) := Lib.hid (by rw [HPa.out, HPs.out, hst]; exact Par.put_put _ _ _)
          rw [hst] at HSt
          have hlen : l.length + 1 ≤ (x :: r).length := by
            obtain ⟨k, rfl, hk, _⟩ := hyes
            rw [List.length_drop]
            have : 0 < (x :: r).length := by simp
            omega
          have HGl : Hid (∀ y ∈ l, GoodS s.size y) := Lib.hid (fun y hy => by
            obtain ⟨k, rfl, hk, _⟩ := hyes
            exact HGR.out y (List.mem_of_mem_drop hy))
          clear hst HPs HPa hyes
          go_upto_region 8 with (go_at_call 34; refine HSt.out.mono ?_; rintro e y2 ⟨hM2, v2, rfl, hT2, hl2⟩)
          have hB2 : Below w.heap.size y1 y2 := hM2.below (by have := HBy.out.size; omega) hw1
          have ho2 : y2.ownsRow (tb + 1) 51 9 vl acc.length (cellsT acc) := HOy.out.kept (row := some tb) ⟨hM2.os, hM2.tape, hM2.output, hM2.size, fun k hk hn => hM2.block k hk (fun e => hn (by rw [e]))⟩ (.inr (fun e => by have := (HOy.out.lt _ e).1; omega))
          have hs2 := hM2.size
          have hX3 := block_new y2 (nineC t.1 t.2.1 t.2.2) 51
          have hB3 : Below y2.heap.size y2 (y2.alloc (.cells (nineC t.1 t.2.1 t.2.2) 51)) := below_lex _ _
          have HLo4 := Lib.hid (hl2 _ HLo3.out)
          have HB3 := Lib.hid (below_next (HBy.out.trans hB2) hB3)
          have HO3 := Lib.hid (ho2.alloc (.cells (nineC t.1 t.2.1 t.2.2) 51))
          have HT3 := Lib.hid (hT2.below hB3)
          have HE3 := Lib.hid ((HE1.out.under hB2 HRp.out).below hB3)
          have hs3 : y2.heap.size + 1 = (y2.alloc (.cells (nineC t.1 t.2.1 t.2.2) 51)).heap.size := by simp
          clear hM2 hT2 hB2 ho2 hB3 HSt HOy HBy HE1
          generalize y2.alloc (.cells (nineC t.1 t.2.1 t.2.2) 51) = W3 at *
          have x0 := hX3.cell (j := 0) rfl
          have x1 := hX3.cell (j := 1) rfl
          have x2 := hX3.cell (j := 2) rfl
          have x3 := hX3.cell (j := 3) rfl
          have x4 := hX3.cell (j := 4) rfl
          have x5 := hX3.cell (j := 5) rfl
          have x6 := hX3.cell (j := 6) rfl
          have x7 := hX3.cell (j := 7) rfl
          have x8 := hX3.cell (j := 8) rfl
          go_wp2_with (at_builtin; refine wpList_append_slice rfl _ _ rfl (tb + 1) vl acc rfl (HO3.out.alloc _) _ [t] rfl (sliceT_new W3 t) (by omega) (by simp) (by simp; omega) ?_; intro vo w4 hown4 hB4)
          have hB3a : Below W3.heap.size W3 (W3.alloc (.cells (nineC t.1 t.2.1 t.2.2) 51)) := below_lex _ _
          have hB34 : Below (tb + 1) W3 w4 := (hB3a.mono (by omega)).trans hB4
          have hs4 := hB34.size
          go_roundg l.length
          case rel =>
            exact ⟨l, _, rfl, Nat.le_refl _, acc ++ [t], v2, HPx.out, ⟨HT3.out.blk.under hB34 (by omega), HT3.out.sl.under HLo4.out (hB34.mono (Nat.le_succ _))⟩, HLo4.out, HGl.out, by rw [List.length_append]; simp at *; omega, hown4, HB3.out.trans (hB34.mono (by omega)), by omega, HE3.out.under hB34 (HRp.out.le (by omega))⟩
          case measure => simp only [List.length_cons] at *; omega

def oneD : DocR → Option TripD
  | .good [t] => some t
  | _ => none
/-- What One answers. -/
def OneOut (r : Option TripD) (w : World) (e : Ending) (w' : World) : Prop :=
  Below w.heap.size w w' ∧ match r with
  | some t => e = .returned (.tuple #[tripleV t.1 t.2.1 t.2.2, .int .i64 0])
  | none => e = .returned (.tuple #[tripleV zT zT zT, .int .i64 4])
theorem results_one {fn : Func} {p u : Tmp} (h : fn.results = #[.cell p 51, .tmp u]) (tmps : Array Value) (w : World) (g : Nat) (a b c : TermD)
    (hp : tmps.getD p undef = .pointer (some ⟨g, 0, none⟩)) (hx : BlockAt w g (nineC a b c) 51) :
    (results fn tmps).run Tryz.prog w = .ok (.tuple #[tripleV a b c, tmps.getD u undef]) w := by
  have h1 := run_loadVar_row (P := Tryz.prog) w g 51 51 (nineC a b c) (0, 0) _ hx Tryz.underlying51 rfl (by kernel_rfl)
  have hp' : tmps[p]?.getD undef = .pointer (some ⟨g, 0, none⟩) := by simpa using hp
  simp only [results, h]
  simp [Sem.run_bind, Result.andThen, hp', asAddr, h1]

set_option maxRecDepth 100000 in
set_option maxHeartbeats 8000000 in
theorem ntOne_any (s : ByteArray) (hs : s.size ≤ 1000000000) (w : World) (hv : LexEnv w) (hrp : Hrp w.heap.size) :
    Calls Tryz.prog 19 #[.string s] w (OneOut (oneD (docS s)) w) := by
  have hB : Below w.heap.size w (w.alloc (.cells (nineC zT zT zT) 51)) := below_lex _ _
  have hR : BlockAt (w.alloc (.cells (nineC zT zT zT) 51)) w.heap.size (nineC zT zT zT) 51 := block_new _ _ _
  have hsz : (w.alloc (.cells (nineC zT zT zT) 51)).heap.size = w.heap.size + 1 := by simp
  obtain ⟨W0, hW0⟩ : ∃ W0, W0 = (w.alloc (.cells (nineC zT zT zT) 51)) := ⟨_, rfl⟩
  rw [← hW0] at hB hR hsz
  have HP := Lib.hid (ntParse_any s hs W0 (hv.below hB) (hrp.le hB.size))
  have HB := Lib.hid hB
  have HR := Lib.hid hR
  have HW0 := Lib.hid hW0
  obtain ⟨F, hF⟩ : ∃ F, F = OneOut (oneD (docS s)) w := ⟨_, rfl⟩
  have HF := Lib.hid hF
  rw [← hF]
  clear hF hB hR hW0 hv hrp
  obtain ⟨D, hD⟩ : ∃ D, D = docS s := ⟨_, rfl⟩
  rw [← hD] at HP HF
  have hbad : ∀ p c, D = .bad p c → c = 3 ∨ c = 4 := fun p c h => docS_bad (hD.symm.trans h)
  clear hD
  cases D with
  | bad p c =>
    have hc := hbad p c rfl
    clear hbad
    · have d1 : ((c : Int) != 0) = true := by rw [bne_iff_ne]; omega
      go_enter Tryz.func19, Tryz.ntmps19
      go_upto_region 1 with fail
      rw [← HW0.out]
      go_wp2_with (go_at_call 17; refine HP.out.mono ?_; rintro e y ⟨hY, rfl⟩; have hbR1 := HR.out.kept hY; have k0 := hbR1.cell (j := 0) rfl; have k1 := hbR1.cell (j := 1) rfl; have k2 := hbR1.cell (j := 2) rfl; have k3 := hbR1.cell (j := 3) rfl; have k4 := hbR1.cell (j := 4) rfl; have k5 := hbR1.cell (j := 5) rfl; have k6 := hbR1.cell (j := 6) rfl; have k7 := hbR1.cell (j := 7) rfl; have k8 := hbR1.cell (j := 8) rfl; have kf : ∀ j, y.frozen? ⟨w.heap.size, j, none⟩ = false := fun j => hbR1.free j)
      refine bodyPost_ret (results_one (p := 2) (u := 3) rfl _ _ w.heap.size zT zT zT rfl (block_set9 hbR1 zT zT zT)) rfl ?_
      rw [HF.out]
      have hB4 : Below w.heap.size w (set9 y w.heap.size zT zT zT) := below_set9 (HB.out.trans (hY.mono HB.out.size)) (Nat.le_refl _) zT zT zT
      exact ⟨hB4, rfl⟩
  | good ts =>
    clear hbad
    by_cases h1 : ts.length = 1
    · obtain ⟨t, rfl⟩ : ∃ t, ts = [t] := List.length_eq_one_iff.1 h1
      clear h1
      go_enter Tryz.func19, Tryz.ntmps19
      go_upto_region 1 with fail
      rw [← HW0.out]
      go_upto_region 2 with (go_at_call 17; refine HP.out.mono ?_; rintro e y ⟨hY, v, rfl, ho⟩)
      have hsl := owns_slice ho
      rcases hsl with ⟨_, h⟩ | ⟨g, o, cap, rfl, h1, h2, hrow⟩
      · cases h
      obtain ⟨c0, c1, c2, c3, c4, c5, c6, c7, c8⟩ := hrow.nine (p := 0) (x := t) rfl
      simp only [Nat.zero_mul, Nat.add_zero] at c0 c1 c2 c3 c4 c5 c6 c7 c8
      have hbR1 := HR.out.kept hY
      have HBR1 := Lib.hid hbR1
      have HB4 : Hid (Below w.heap.size w (set9 y w.heap.size t.1 t.2.1 t.2.2)) := Lib.hid (below_set9 (HB.out.trans (hY.mono HB.out.size)) (Nat.le_refl _) t.1 t.2.1 t.2.2)
      have k0 := hbR1.cell (j := 0) rfl
      have k1 := hbR1.cell (j := 1) rfl
      have k2 := hbR1.cell (j := 2) rfl
      have k3 := hbR1.cell (j := 3) rfl
      have k4 := hbR1.cell (j := 4) rfl
      have k5 := hbR1.cell (j := 5) rfl
      have k6 := hbR1.cell (j := 6) rfl
      have k7 := hbR1.cell (j := 7) rfl
      have k8 := hbR1.cell (j := 8) rfl
      have kf : ∀ j, y.frozen? ⟨w.heap.size, j, none⟩ = false := fun j => hbR1.free j
      clear hrow hY ho hbR1 HP
      simp only [List.length_singleton] at *
      go_wp2_with fail
      refine bodyPost_ret (results_one (p := 2) (u := 3) rfl _ _ w.heap.size t.1 t.2.1 t.2.2 rfl (block_set9 HBR1.out t.1 t.2.1 t.2.2)) rfl ?_
      rw [HF.out]
      exact ⟨HB4.out, rfl⟩
    · have hn : oneD (.good ts) = none := by
        match ts, h1 with
        | [], _ => rfl
        | [t], h => exact absurd rfl h
        | _ :: _ :: _, _ => rfl
      have HN := Lib.hid hn
      have d1 : ((ts.length : Int) != 1) = true := by rw [bne_iff_ne]; omega
      clear hn h1
      go_enter Tryz.func19, Tryz.ntmps19
      go_upto_region 1 with fail
      rw [← HW0.out]
      go_upto_region 2 with (go_at_call 17; refine HP.out.mono ?_; rintro e y ⟨hY, v, rfl, ho⟩)
      obtain ⟨ao, cap, rfl, _⟩ := owns_form ho
      have hbR1 := HR.out.kept hY
      have HBR1 := Lib.hid hbR1
      have HB4 : Hid (Below w.heap.size w (set9 y w.heap.size zT zT zT)) := Lib.hid (below_set9 (HB.out.trans (hY.mono HB.out.size)) (Nat.le_refl _) zT zT zT)
      have k0 := hbR1.cell (j := 0) rfl
      have k1 := hbR1.cell (j := 1) rfl
      have k2 := hbR1.cell (j := 2) rfl
      have k3 := hbR1.cell (j := 3) rfl
      have k4 := hbR1.cell (j := 4) rfl
      have k5 := hbR1.cell (j := 5) rfl
      have k6 := hbR1.cell (j := 6) rfl
      have k7 := hbR1.cell (j := 7) rfl
      have k8 := hbR1.cell (j := 8) rfl
      have kf : ∀ j, y.frozen? ⟨w.heap.size, j, none⟩ = false := fun j => hbR1.free j
      clear hY ho hbR1 HP
      generalize ts.length = n at *
      go_wp2_with fail
      refine bodyPost_ret (results_one (p := 2) (u := 3) rfl _ _ w.heap.size zT zT zT rfl (block_set9 HBR1.out zT zT zT)) rfl ?_
      rw [HF.out, HN.out]
      exact ⟨HB4.out, rfl⟩
end Go.Proofs.YtfldpfomecjdkaaGreatDoor
/-
  CONTRACTS OF THE REFERENCE's place, Parse: exact. Written by tools/gennrparse.py.
-/

namespace Go.Proofs.YtfldpfomecjdkaaGreatDoor
open Go.RowKit
open Utf Term Lex
set_option linter.unusedVariables false
set_option linter.unusedSimpArgs false

theorem lookP_nil : lookP [] = noP := rfl
/-- A slice of symbols from a place on. -/
theorem sym_from (g o n cap i : Nat) (hi : i ≤ n) (hc : n ≤ cap) : ∃ v', (∀ U, (Instr.slice 25 (.slice (some ⟨g, o, none⟩) n cap) (some (.int .i64 (i : Int))) none none).run Tryz.prog U = .ok v' U) ∧ (cap ≤ maxLen → ∀ U L, L.length = n → RowS U g o L → SlA U v' (L.drop i)) := by
  have h0 : (0 : Int) ≤ (i : Int) := by omega
  have h1 : (i : Int) ≤ (n : Int) := by omega
  have h2 : (n : Int) ≤ (cap : Int) := by omega
  have hz : ∀ W, (sizeOf 43).run Tryz.prog W = .ok 6 W := fun W => by kernel_rfl
  by_cases hk : cap = i
  · refine ⟨.slice (some ⟨g, o, none⟩) 0 0, fun U => ?_, fun hm U L hL hr => ?_⟩
    · obtain rfl : n = i := by omega
      subst hk
      simp [Instr.slice, run_underlying Tryz.underlying25, Instr.sliceBounds, Instr.sliceBound, asIntOf, h0, hz, go_sem, Addr.add]
    · rw [List.drop_eq_nil_of_le (by omega)]
      exact SlA.nil _ g o 0 (Nat.zero_le _)
  · refine ⟨.slice (some ⟨g, o + i * 6, none⟩) (n - i) (cap - i), fun U => ?_, fun hm U L hL hr => ?_⟩
    · have h3 : (i : Int) ≤ (cap : Int) := by omega
      have h4 : ¬ cap - i = 0 := by omega
      simp [Instr.slice, run_underlying Tryz.underlying25, Instr.sliceBounds, Instr.sliceBound, asIntOf, h0, h1, h2, h3, h4, hz, go_sem, Addr.add]
      rw [if_pos hi, if_neg hk]
      by_cases h6 : i * 6 = 0
      · rw [if_pos h6, h6, Nat.add_zero]
      · rw [if_neg h6]
    · exact .inr ⟨g, o + i * 6, cap - i, by rw [List.length_drop, hL], by rw [List.length_drop]; omega, by omega, hr.drop (by omega)⟩

set_option maxRecDepth 100000 in
set_option maxHeartbeats 4000000 in
theorem refPlace_any (p : Option Addr) (cap : Nat) (L : List Sym) (i : Nat) (s : ByteArray) (w : World) (hL : L.length ≤ 1000000000) (h : i < L.length → ∃ g o, p = some ⟨g, o, none⟩ ∧ RowS w g o L) :
    Calls Tryz.prog 37 #[.slice p L.length cap, .int .i64 i, .string s] w fun e w' => e = .returned (.int .i64 (placeS s.size (L.drop i))) ∧ w = w' := by
  have i0 : (0 : Int) ≤ (i : Int) := by omega
  by_cases hi : i < L.length
  · obtain ⟨g, o, rfl, hr⟩ := h hi
    obtain ⟨x, hx⟩ : ∃ x, L[i]? = some x := ⟨L[i], List.getElem?_eq_getElem hi⟩
    have s5 := hr.six hx 5 (by omega)
    have hd : L.drop i = x :: L.drop (i + 1) := by
      rw [List.drop_eq_getElem_cons hi]
      congr 1
      rw [List.getElem?_eq_getElem hi] at hx
      exact Option.some.inj hx
    have hp : placeS s.size (L.drop i) = x.place := by rw [hd]; rfl
    have c5 : w.cell? ⟨g, o + i * 6 + 5, none⟩ = some (.int .i64 x.place) := s5
    have d1 : decide ((i : Int) < (L.length : Int)) = true := by simpa using hi
    have d1n : decide (i < L.length) = true := by simpa using hi
    have i1 : (i : Int) < (L.length : Int) := by omega
    rw [hp]
    clear hp hd hx s5 hr h
    generalize L.length = n at *
    go_enter Tryz.func37, Tryz.ntmps37
    go_wp2_with fail
    go_ret
    exact ⟨rfl, rfl⟩
  · have hp : placeS s.size (L.drop i) = s.size := by rw [List.drop_eq_nil_of_le (by omega)]; rfl
    have d1 : decide ((i : Int) < (L.length : Int)) = false := by simp; omega
    have d1n : decide (i < L.length) = false := by simp; omega
    rw [hp]
    clear hp h
    generalize L.length = n at *
    go_enter Tryz.func37, Tryz.ntmps37
    go_wp2_with fail
    go_ret
    exact ⟨rfl, rfl⟩

/-- All, for one that reads a document. -/
theorem refAll_doc (s : ByteArray) (hs : s.size ≤ 9000) (w : World) :
    (∃ p c : Nat, c ≠ 0 ∧ c ≤ 4 ∧ docS s = .bad p c ∧ Calls Tryz.prog 36 #[.string s] w fun e w' => e = .returned (.tuple #[.slice none 0 0, .int .i64 p, .int .i64 c]) ∧ Below w.heap.size w w') ∨
    (docS s = docOf s.size (parseS (allL (bs s)).1) ∧ Calls Tryz.prog 36 #[.string s] w fun e w' => ∃ v, e = .returned (.tuple #[v, .int .i64 0, .int .i64 0]) ∧ w'.ownsRow w.heap.size 43 6 v (allL (bs s)).1.length (flatS (allL (bs s)).1) ∧ Below w.heap.size w w') := by
  have h := refAll_is s (by omega) w
  unfold docS
  by_cases h1 : 1048576 < s.size
  · omega
  rw [if_neg h1]
  by_cases h2 : wfL (bs s) < s.size
  · refine .inl ⟨wfL (bs s), 4, by decide, by decide, by rw [if_pos h2], h.mono ?_⟩
    intro e w' h
    unfold AllOut at h
    rw [if_neg h1, if_pos h2] at h
    exact ⟨h.2, h.1⟩
  rw [if_neg h2]
  by_cases h3 : (allL (bs s)).2 < s.size
  · refine .inl ⟨(allL (bs s)).2, 4, by decide, by decide, by rw [if_pos h3], h.mono ?_⟩
    intro e w' h
    unfold AllOut at h
    rw [if_neg h1, if_neg h2, if_pos h3] at h
    exact ⟨h.2, h.1⟩
  rw [if_neg h3]
  refine .inr ⟨rfl, h.mono ?_⟩
  intro e w' h
  unfold AllOut at h
  rw [if_neg h1, if_neg h2, if_neg h3] at h
  obtain ⟨hB, v, rfl, ho⟩ := h
  exact ⟨v, rfl, ho, hB⟩

/-- The state at the head of Parse's loop. -/
def ParseRf (P : Par) (L : List Sym) (b1 : Nat) (w1 : World) (i : Nat) (vl : Value) (wr : World) : Prop :=
  ∃ acc : List TripD, P = (parseS (L.drop i)).put acc ∧ acc.length ≤ i ∧ wr.ownsRow b1 51 9 vl acc.length (cellsT acc) ∧ Below b1 w1 wr
/-- The state at the head of the loop over a triple's terms. -/
def TermsRf (L : List Sym) (b i i2 k : Nat) (wr wx : World) : Prop :=
  ∃ a c d : TermD, threeS 3 (L.drop i) = (threeS (3 - k) (L.drop i2)).put ([a, c, d].take k) ∧ BlockAt wx b (nineC a c d) 51 ∧ Below b wr wx ∧ b < wx.heap.size ∧ Short a ∧ Short c ∧ Short d
theorem GoodS.mono {N M : Nat} {x : Sym} (h : GoodS N x) (k : N ≤ M) : GoodS M x :=
  ⟨h.bt, h.btt, h.bte, Nat.le_trans h.lt k, Nat.le_trans h.ltt k, Nat.le_trans h.lte k, Nat.le_trans h.pl k, h.iri, h.blank, h.lang, h.name⟩
theorem zT_short : Short zT := ⟨Nat.zero_le _, Nat.zero_le _⟩
theorem three_put {L : List Sym} {i i2 k n : Nat} {a c d t : TermD} (hk : k < 3) (h3 : threeS 3 (L.drop i) = (threeS (3 - k) (L.drop i2)).put ([a, c, d].take k)) (hr : readS noP (L.drop i2) = some (t, n)) :
    threeS 3 (L.drop i) = (threeS (3 - (k + 1)) (L.drop (i2 + n))).put (([a, c, d].take k) ++ [t]) := by
  obtain ⟨j, hj⟩ : ∃ j, 3 - k = j + 1 := ⟨2 - k, by omega⟩
  rw [h3, hj, three_next hr, put_put, show 3 - (k + 1) = j by omega, List.drop_drop]

set_option maxRecDepth 100000 in
set_option maxHeartbeats 32000000 in
theorem refParse_any (s : ByteArray) (hs : s.size ≤ 9000) (w : World) :
    Calls Tryz.prog 18 #[.string s] w (ParseOut (docS s) w) := by
  obtain ⟨F, hF⟩ : ∃ F, F = ParseOut (docS s) w := ⟨_, rfl⟩
  rcases refAll_doc s hs w with ⟨p, c, hc0, hc4, hd, hA⟩ | ⟨hd, hA⟩
  · have HF : Hid (∀ W, Below w.heap.size w W → F (.returned (.tuple #[.slice none 0 0, .int .i64 p, .int .i64 c])) W) := Lib.hid (fun W hW => by rw [hF, hd]; exact ⟨hW, rfl⟩)
    rw [← hF]
    have HA := Lib.hid hA
    have d1 : ((c : Int) != 0) = true := by rw [bne_iff_ne]; omega
    clear hF hd hA
    go_enter Tryz.func18, Tryz.ntmps18
    go_wp2_with (go_at_call 36; refine HA.out.mono ?_; rintro e w1 ⟨rfl, hB1⟩)
    go_ret3
    exact HF.out _ hB1
  · have hgood := all_good s
    have hlen : (allL (bs s)).1.length ≤ 9000 := by
      have := (toks_place _ (bs s) 0 (Nat.le_refl _)).2.1
      rw [bs_length] at this
      unfold allL
      omega
    have HFb : Hid (∀ l W, parseS (allL (bs s)).1 = .no l → Below w.heap.size w W → F (.returned (.tuple #[.slice none 0 0, .int .i64 (placeS s.size l), .int .i64 4])) W) := Lib.hid (fun l W hl hW => by rw [hF, hd, hl]; exact ⟨hW, rfl⟩)
    have HFg : Hid (∀ ts v W, parseS (allL (bs s)).1 = .yes ts → Below w.heap.size w W → W.ownsRow w.heap.size 51 9 v ts.length (cellsT ts) → F (.returned (.tuple #[v, .int .i64 0, .int .i64 0])) W) := Lib.hid (fun ts v W hl hW ho => by rw [hF, hd, hl]; exact ⟨hW, v, rfl, ho⟩)
    rw [← hF]
    have HA := Lib.hid hA
    have HG := Lib.hid hgood
    obtain ⟨P, hP⟩ : ∃ P, P = parseS (allL (bs s)).1 := ⟨_, rfl⟩
    rw [← hP] at HFb HFg
    have HP := Lib.hid hP
    clear hF hd hA hgood hP
    generalize (allL (bs s)).1 = L at *
    go_enter Tryz.func18, Tryz.ntmps18
    go_upto_region 2 with (go_at_call 36; refine HA.out.mono ?_; rintro e w1 ⟨v, rfl, ho, hB1⟩)
    have hsl := SlA.of (slice_of_owns ho)
    obtain ⟨ao, cap, rfl, _⟩ := owns_formL ho
    have HB1 := Lib.hid hB1
    have HSl := Lib.hid hsl
    have hw1 : w.heap.size ≤ w1.heap.size := hB1.size
    have HLo := Lib.hid hsl.low
    clear ho hsl hB1 HA
    obtain ⟨n, hn⟩ : ∃ n, n = L.length := ⟨_, rfl⟩
    have HNn := Lib.hid hn
    rw [← hn] at hlen ⊢
    clear hn
    obtain ⟨b1, hb1⟩ : ∃ b1, b1 = w1.heap.size := ⟨_, rfl⟩
    rw [← hb1] at hw1
    have HBb := Lib.hid hb1
    clear hb1
    go_upto_region 6 with fail
    go_loopg [8, 9, 10, 11, 12, 13, 14] n (fun gg u iv fr tp kv xp nv wr => ∃ (i : Nat) (vl : Value), vl = u ∧ iv = .int .i64 i ∧ i ≤ n ∧ n - i ≤ gg ∧ ParseRf P L b1 w1 i vl wr)
    case atStart =>
      refine ⟨0, _, rfl, rfl, Nat.zero_le _, by omega, [], ?_, Nat.le_refl _, World.ownsRow_nil _ _ _ _, by rw [HBb.out]; exact Below.refl _ _⟩
      rw [Par.put_nil, List.drop_zero]; exact HP.out
    case round =>
      obtain ⟨i, vl, rfl, rfl, hin, hgg, acc, hpar, hai, hown, hB⟩ := hrel
      rename World => wo
      have HPa := Lib.hid hpar
      have HO := Lib.hid hown
      have HBr := Lib.hid hB
      have hwr : b1 ≤ wo.heap.size := by have := hB.size; have := HBb.out; omega
      clear hpar hown hB
      by_cases hlt : i < n
      · have d1 : decide (i < n) = true := by simpa using hlt
        have d1i : decide ((i : Int) < (n : Int)) = true := by simpa using hlt
        obtain ⟨g, o, rfl, hcap, hcm, hrow⟩ : ∃ g o, ao = some ⟨g, o, none⟩ ∧ n ≤ cap ∧ cap ≤ maxLen ∧ ∀ U, Below b1 w1 U → RowS U g o L := by
          rcases HSl.out with ⟨_, h⟩ | ⟨g, o, cap', h1, h2, h3, h4⟩
          · have := HNn.out; rw [h] at this; simp at this; omega
          · injection h1 with e1 e2 e3
            subst e1 e3
            have hn := HNn.out
            refine ⟨g, o, rfl, by omega, h3, fun U hU => ?_⟩
            have hS : SlA U (.slice (some ⟨g, o, none⟩) L.length cap) L := (SlA.under (.inr ⟨g, o, cap, rfl, h2, h3, h4⟩) (by rw [HBb.out]; exact HLo.out) hU)
            rcases hS with ⟨h, _⟩ | ⟨g', o', cap'', h, _, _, h4'⟩
            · cases h
            · cases h; exact h4'
        have HRow := Lib.hid hrow
        have HPl := Lib.hid (fun U (hU : Below b1 w1 U) (q : Nat) (hq : q ≤ n) => refPlace_any (some ⟨g, o, none⟩) cap L q s U (by have := HNn.out; omega) (fun _ => ⟨g, o, rfl, hrow U hU⟩))
        rw [← HNn.out] at HPl
        clear hrow
        go_upto_region 9 with fail
        have hBt : Below wo.heap.size wo (wo.alloc (.cells (nineC zT zT zT) 51)) := below_lex _ _
        have hTt := block_new wo (nineC zT zT zT) 51
        have hst : wo.heap.size < (wo.alloc (.cells (nineC zT zT zT) 51)).heap.size := by simp
        generalize (wo.alloc (.cells (nineC zT zT zT) 51)) = w2 at *
        have HBt := Lib.hid hBt
        have HTt := Lib.hid hTt
        have HSt := Lib.hid hst
        clear hBt hTt hst
        obtain ⟨b, hb⟩ : ∃ b, b = wo.heap.size := ⟨_, rfl⟩
        rw [← hb] at HBt HTt HSt hwr ⊢
        have HBw := Lib.hid hb
        clear hb
        go_wp2_with fail
        rename_i gk1 K1 K2
        go_loopg [9, 12, 13, 14] 3 (fun gg iv kv xp nv wx => ∃ (k i2 : Nat), iv = .int .i64 i2 ∧ kv = .int .i64 k ∧ k ≤ 3 ∧ 3 - k ≤ gg ∧ i ≤ i2 ∧ i2 ≤ n ∧ k ≤ i2 - i ∧ TermsRf L b i i2 k wo wx)
        case atStart =>
          refine ⟨0, i, rfl, rfl, by omega, by omega, Nat.le_refl _, hin, by omega, zT, zT, zT, ?_, HTt.out, HBt.out, HSt.out, zT_short, zT_short, zT_short⟩
          rw [List.take_zero, put_nil]
        case round =>
          obtain ⟨k, i2, rfl, rfl, hk, hgk, hi1, hi2, hki, a, c, d, h3, hbt, hBx, hbx, sa, sc, sd⟩ := hrel
          have H3 := Lib.hid h3
          have HT := Lib.hid hbt
          have HBx := Lib.hid hBx
          have HSh := Lib.hid (show Short a ∧ Short c ∧ Short d from ⟨sa, sc, sd⟩)
          have HB1x := Lib.hid (HBr.out.trans (hBx.mono hwr))
          clear h3 hbt hBx sa sc sd HTt HBt HSt
          by_cases hk3 : k < 3
          · have d3 : decide ((k : Int) < 3) = true := by simp; omega
            have d3n : decide (k < 3) = true := by simp; omega
            obtain ⟨v', hsl', hsa⟩ := sym_from g o n cap i2 hi2 hcap
            have hlk := lookP_nil
            have hRd := refRead_any [] 9000 (Nat.le_refl _) (fun q hq => by cases hq) (by simp) none 0 v' (L.drop i2) (fun x hx => (HG.out x (List.mem_of_mem_drop hx)).mono (by omega)) wr (hsa hcm wr L HNn.out.symm (HRow.out wr HB1x.out)) (PreRow.nil _ _)
            rw [hlk] at hRd
            clear hsa hlk
            cases hr : readS noP (L.drop i2) with
            | none =>
              rw [hr] at hRd
              have HRd := Lib.hid hRd
              have hX : P = .no (L.drop i2) := by
                rw [HPa.out, parseS_cons (L.drop i) (by intro e; have := List.drop_eq_nil_iff.1 e; have := HNn.out; omega)]
                have : stmS (L.drop i) = .no (L.drop i2) := by
                  unfold stmS
                  obtain ⟨j, hj⟩ : ∃ j, 3 - k = j + 1 := ⟨2 - k, by omega⟩
                  rw [H3.out, hj, three_stop hr]
                  rfl
                rw [this]; rfl
              have HO2 := Lib.hid (HFb.out (L.drop i2) · hX)
              clear hr hRd hX
              go_upto_region 14 with (go_at_call 10; refine HRd.out.mono ?_; rintro e y2 ⟨rfl, hY⟩)
              have hB3 := HB1x.out.trans ((below_next hY (below_lex y2 (.cells #[.int .i64 0, .string ⟨#[]⟩, .string ⟨#[]⟩] 31))).mono (by have := HBx.out.size; have := HBw.out; omega))
              generalize y2.alloc (.cells #[.int .i64 0, .string ⟨#[]⟩, .string ⟨#[]⟩] 31) = y3 at *
              have HB3 := Lib.hid hB3
              have HPl3 := Lib.hid (HPl.out y3 hB3 i2 hi2)
              clear hY hB3
              go_wp2_with (go_at_call 37; refine HPl3.out.mono ?_; rintro e y4 ⟨rfl, rfl⟩)
              go_ret3
              exact HO2.out _ (HB1.out.trans (HB3.out.mono (by rw [HBb.out]; exact HB1.out.size)))
            | some q =>
              obtain ⟨t, n2⟩ := q
              rw [hr] at hRd
              have HRd := Lib.hid hRd
              have hpos := readS_pos hr
              rw [List.length_drop, ← HNn.out] at hpos
              have hft : Short t := by
                have := readS_fits (by decide) (fun x hx => ((HG.out x (List.mem_of_mem_drop hx)).mono (show s.size ≤ 9000 by omega))) hr
                exact ⟨by omega, by omega⟩
              have HNx := Lib.hid (three_put hk3 H3.out hr)
              have HFx := Lib.hid hft
              have dn : ((n2 : Int) == 0) = false := by rw [beq_eq_false_iff_ne]; omega
              clear hr hRd hft H3
              go_upto_region 15 with (go_at_call 10; refine HRd.out.mono ?_; rintro e y2 ⟨rfl, hY⟩)
              have hX3 := block_new y2 #[.int .i64 t.1, .string t.2.1, .string t.2.2] 31
              have hT3 := (HT.out.kept hY).alloc (.cells #[.int .i64 t.1, .string t.2.1, .string t.2.2] 31)
              have hB3 : Below b wo (y2.alloc (.cells #[.int .i64 t.1, .string t.2.1, .string t.2.2] 31)) := HBx.out.trans ((below_next hY (below_lex y2 _)).mono (by omega))
              have hs3 : b < (y2.alloc (.cells #[.int .i64 t.1, .string t.2.1, .string t.2.2] 31)).heap.size := by have := hY.size; simp; omega
              have hyb : y2.heap.size ≠ b := by have := hY.size; omega
              clear hY
              generalize y2.alloc (.cells #[.int .i64 t.1, .string t.2.1, .string t.2.2] 31) = y3 at *
              have HT3 := Lib.hid hT3
              have HB3 := Lib.hid hB3
              have z0 := hX3.cell (j := 0) rfl
              have z1 := hX3.cell (j := 1) rfl
              have z2 := hX3.cell (j := 2) rfl
              have tf : ∀ j, y3.frozen? ⟨b, j, none⟩ = false := fun j => HT3.out.free j
              clear hT3 hB3 hX3
              have hcase : k = 0 ∨ k = 1 ∨ k = 2 := by omega
              have n0 : (0 : Int) ≤ (n2 : Int) := by omega
              have n1 : (n2 : Int) ≤ 3 := by omega
              rcases hcase with rfl | rfl | rfl
              · have x0 := HT3.out.cell (j := 0) rfl
                have x1 := HT3.out.cell (j := 1) rfl
                have x2 := HT3.out.cell (j := 2) rfl
                go_upto_region 16 with fail
                have hTa := HT3.out.put0 t
                have hBa : Below b wo (((y3.setCell ⟨b, 0, none⟩ (.int .i64 t.1)).setCell ⟨b, 1, none⟩ (.string t.2.1)).setCell ⟨b, 2, none⟩ (.string t.2.2)) := ((HB3.out.setCell (p := ⟨b, 0, none⟩) (Nat.le_refl _) _).setCell (p := ⟨b, 1, none⟩) (Nat.le_refl _) _).setCell (p := ⟨b, 2, none⟩) (Nat.le_refl _) _
                have hsa : b < (((y3.setCell ⟨b, 0, none⟩ (.int .i64 t.1)).setCell ⟨b, 1, none⟩ (.string t.2.1)).setCell ⟨b, 2, none⟩ (.string t.2.2)).heap.size := by simpa [World.setCell] using hs3
                clear x0 x1 x2 z0 z1 z2 tf
                generalize (((y3.setCell ⟨b, 0, none⟩ (.int .i64 t.1)).setCell ⟨b, 1, none⟩ (.string t.2.1)).setCell ⟨b, 2, none⟩ (.string t.2.2)) = y5 at *
                have HTa := Lib.hid hTa
                have HBa := Lib.hid hBa
                clear hTa hBa
                go_wp2_with fail
                go_roundg (3 - (0 + 1))
                case measure => omega
                case rel => exact ⟨0 + 1, i2 + n2, by go_num, by go_num, by omega, by omega, by omega, by omega, by omega, t, c, d, HNx.out, HTa.out, HBa.out, hsa, HFx.out, HSh.out.2.1, HSh.out.2.2⟩
              · have x0 := HT3.out.cell (j := 3) rfl
                have x1 := HT3.out.cell (j := 4) rfl
                have x2 := HT3.out.cell (j := 5) rfl
                go_upto_region 16 with fail
                have hTa := HT3.out.put1 t
                have hBa : Below b wo (((y3.setCell ⟨b, 3, none⟩ (.int .i64 t.1)).setCell ⟨b, 4, none⟩ (.string t.2.1)).setCell ⟨b, 5, none⟩ (.string t.2.2)) := ((HB3.out.setCell (p := ⟨b, 3, none⟩) (Nat.le_refl _) _).setCell (p := ⟨b, 4, none⟩) (Nat.le_refl _) _).setCell (p := ⟨b, 5, none⟩) (Nat.le_refl _) _
                have hsa : b < (((y3.setCell ⟨b, 3, none⟩ (.int .i64 t.1)).setCell ⟨b, 4, none⟩ (.string t.2.1)).setCell ⟨b, 5, none⟩ (.string t.2.2)).heap.size := by simpa [World.setCell] using hs3
                clear x0 x1 x2 z0 z1 z2 tf
                generalize (((y3.setCell ⟨b, 3, none⟩ (.int .i64 t.1)).setCell ⟨b, 4, none⟩ (.string t.2.1)).setCell ⟨b, 5, none⟩ (.string t.2.2)) = y5 at *
                have HTa := Lib.hid hTa
                have HBa := Lib.hid hBa
                clear hTa hBa
                go_wp2_with fail
                go_roundg (3 - (1 + 1))
                case measure => omega
                case rel => exact ⟨1 + 1, i2 + n2, by go_num, by go_num, by omega, by omega, by omega, by omega, by omega, a, t, d, HNx.out, HTa.out, HBa.out, hsa, HSh.out.1, HFx.out, HSh.out.2.2⟩
              · have x0 := HT3.out.cell (j := 6) rfl
                have x1 := HT3.out.cell (j := 7) rfl
                have x2 := HT3.out.cell (j := 8) rfl
                go_upto_region 16 with fail
                have hTa := HT3.out.put2 t
                have hBa : Below b wo (((y3.setCell ⟨b, 6, none⟩ (.int .i64 t.1)).setCell ⟨b, 7, none⟩ (.string t.2.1)).setCell ⟨b, 8, none⟩ (.string t.2.2)) := ((HB3.out.setCell (p := ⟨b, 6, none⟩) (Nat.le_refl _) _).setCell (p := ⟨b, 7, none⟩) (Nat.le_refl _) _).setCell (p := ⟨b, 8, none⟩) (Nat.le_refl _) _
                have hsa : b < (((y3.setCell ⟨b, 6, none⟩ (.int .i64 t.1)).setCell ⟨b, 7, none⟩ (.string t.2.1)).setCell ⟨b, 8, none⟩ (.string t.2.2)).heap.size := by simpa [World.setCell] using hs3
                clear x0 x1 x2 z0 z1 z2 tf
                generalize (((y3.setCell ⟨b, 6, none⟩ (.int .i64 t.1)).setCell ⟨b, 7, none⟩ (.string t.2.1)).setCell ⟨b, 8, none⟩ (.string t.2.2)) = y5 at *
                have HTa := Lib.hid hTa
                have HBa := Lib.hid hBa
                clear hTa hBa
                go_wp2_with fail
                go_roundg (3 - (2 + 1))
                case measure => omega
                case rel => exact ⟨2 + 1, i2 + n2, by go_num, by go_num, by omega, by omega, by omega, by omega, by omega, a, c, t, HNx.out, HTa.out, HBa.out, hsa, HSh.out.1, HSh.out.2.1, HFx.out⟩
          · obtain rfl : k = 3 := by omega
            have d3 : decide (((3 : Nat) : Int) < 3) = false := by decide
            have hY3 : threeS 3 (L.drop i) = .yes [a, c, d] (L.drop i2) := by
              have := H3.out
              rw [show 3 - 3 = 0 from rfl] at this
              exact this
            have HMA := Lib.hid (refAdd_any a c d HSh.out.1 HSh.out.2.1 HSh.out.2.2 wr)
            have hne : L.drop i ≠ [] := by intro e; have := List.drop_eq_nil_iff.1 e; have := HNn.out; omega
            have m0 := HT.out.cell (j := 0) rfl
            have m1 := HT.out.cell (j := 1) rfl
            have m2 := HT.out.cell (j := 2) rfl
            have m3 := HT.out.cell (j := 3) rfl
            have m4 := HT.out.cell (j := 4) rfl
            have m5 := HT.out.cell (j := 5) rfl
            have m6 := HT.out.cell (j := 6) rfl
            have m7 := HT.out.cell (j := 7) rfl
            have m8 := HT.out.cell (j := 8) rfl
            cases had : addD a c d with
            | false =>
              rw [had] at HMA
              have hX : P = .no (L.drop i) := by
                rw [HPa.out, parseS_cons (L.drop i) hne]
                have : stmS (L.drop i) = .no (L.drop i) := by
                  unfold stmS
                  rw [hY3]
                  show (if addD a c d = true then _ else _) = _
                  rw [had, if_neg (by decide)]
                rw [this]; rfl
              have HO2 := Lib.hid (HFb.out (L.drop i) · hX)
              clear had hY3 hne hX
              go_upto_region 18 with (go_at_call 38; refine HMA.out.mono ?_; rintro e y2 ⟨rfl, hY⟩)
              have hB3 := HB1x.out.trans (hY.mono (by have := HBx.out.size; have := HBw.out; omega))
              have HB3 := Lib.hid hB3
              have HPl3 := Lib.hid (HPl.out y2 hB3 i hin)
              clear hY hB3 m0 m1 m2 m3 m4 m5 m6 m7 m8
              go_wp2_with (go_at_call 37; refine HPl3.out.mono ?_; rintro e y4 ⟨rfl, rfl⟩)
              go_ret3
              exact HO2.out _ (HB1.out.trans (HB3.out.mono (by rw [HBb.out]; exact HB1.out.size)))
            | true =>
              rw [had] at HMA
              have HX : Hid (stmS (L.drop i) = endS (a, c, d) (L.drop i2)) := Lib.hid (by
                unfold stmS
                rw [hY3]
                show (if addD a c d = true then _ else _) = _
                rw [had, if_pos rfl])
              have HPs := Lib.hid (parseS_cons (L.drop i) hne)
              clear had hY3 hne
              go_upto_region 19 with (go_at_call 38; refine HMA.out.mono ?_; rintro e y2 ⟨rfl, hY⟩)
              have hbs : b ≤ wr.heap.size := by omega
              have hB3 := HB1x.out.trans (hY.mono (by have := HBx.out.size; have := HBw.out; omega))
              have HT3 := Lib.hid (HT.out.kept hY)
              have HBy := Lib.hid (HBx.out.trans (hY.mono hbs))
              have hsy := hY.size
              have HB3 := Lib.hid hB3
              clear hY hB3 m0 m1 m2 m3 m4 m5 m6 m7 m8 HMA
              by_cases hlt2 : i2 < n
              · have d5 : decide (n ≤ i2) = false := by simp; omega
                have d5i : decide ((n : Int) ≤ (i2 : Int)) = false := by simp; omega
                obtain ⟨x, hx⟩ : ∃ x, L[i2]? = some x := ⟨L[i2]'(by have := HNn.out; omega), List.getElem?_eq_getElem _⟩
                have hd2 : L.drop i2 = x :: L.drop (i2 + 1) := by
                  have hl : i2 < L.length := (List.getElem?_eq_some_iff.1 hx).1
                  rw [List.drop_eq_getElem_cons hl]
                  congr 1
                  exact (List.getElem?_eq_some_iff.1 hx).2
                have hgx := HG.out x (List.mem_of_getElem? hx)
                have s6 := (HRow.out y2 HB3.out).six hx
                have q0 : y2.cell? ⟨g, o + i2 * 6, none⟩ = some (.int .i64 x.kind) := s6 0 (by omega)
                have q1 : y2.cell? ⟨g, o + i2 * 6 + 1, none⟩ = some (.string (strOfNums x.text)) := s6 1 (by omega)
                have q2 : y2.cell? ⟨g, o + i2 * 6 + 2, none⟩ = some (.int .i64 x.tk) := s6 2 (by omega)
                have q3 : y2.cell? ⟨g, o + i2 * 6 + 3, none⟩ = some (.string (strOfNums x.tt)) := s6 3 (by omega)
                have q4 : y2.cell? ⟨g, o + i2 * 6 + 4, none⟩ = some (.string (strOfNums x.te)) := s6 4 (by omega)
                have q5 : y2.cell? ⟨g, o + i2 * 6 + 5, none⟩ = some (.int .i64 x.place) := s6 5 (by omega)
                have hmb : markB x.kind (bs (strOfNums x.text)) (bs ⟨#[46]⟩) = isEnd x := by
                  unfold markB isEnd
                  rw [bs_strOfNums hgx.bt, show bs ⟨#[46]⟩ = [46] from rfl, Bool.eq_iff_iff]
                  simp only [Bool.and_eq_true, beq_iff_eq, decide_eq_true_eq]
                  constructor
                  · rintro ⟨h1, h2⟩; exact ⟨by omega, h2⟩
                  · rintro ⟨h1, h2⟩; exact ⟨by omega, h2⟩
                have hMk := refMarkIs_any x.kind (strOfNums x.text) x.tk (strOfNums x.tt) (strOfNums x.te) x.place ⟨#[46]⟩ y2
                rw [hmb] at hMk
                have j0 : (0 : Int) ≤ (i2 : Int) := by omega
                have j1 : (i2 : Int) < (n : Int) := by omega
                clear s6 hx hgx hmb
                cases hme : isEnd x with
                | false =>
                  rw [hme] at hMk
                  have HMk := Lib.hid hMk
                  have hX : P = .no (L.drop i2) := by
                    rw [HPa.out, HPs.out, HX.out, hd2, endS, if_neg (by rw [hme]; decide)]
                    rfl
                  have HO2 := Lib.hid (HFb.out (L.drop i2) · hX)
                  clear hX hme hMk hd2 HPs HX
                  go_upto_region 20 with (go_at_call 13; refine HMk.out.mono ?_; rintro e y4 ⟨rfl, hY⟩)
                  have hB5 := HB3.out.trans (hY.mono (by have := HB3.out.size; have := HBb.out; omega))
                  have HB5 := Lib.hid hB5
                  have HPl3 := Lib.hid (HPl.out y4 hB5 i2 hi2)
                  clear hY hB5 q0 q1 q2 q3 q4 q5
                  go_wp2_with (go_at_call 37; refine HPl3.out.mono ?_; rintro e y6 ⟨rfl, rfl⟩)
                  go_ret3
                  exact HO2.out _ (HB1.out.trans (HB5.out.mono (by rw [HBb.out]; exact HB1.out.size)))
                | true =>
                  rw [hme] at hMk
                  have HMk := Lib.hid hMk
                  have HPx : Hid (P = (parseS (L.drop (i2 + 1))).put (acc ++ [(a, c, d)])) := Lib.hid (by
                    rw [HPa.out, HPs.out, HX.out, hd2, endS, if_pos hme]
                    exact Par.put_put _ _ _)
                  clear hme hMk hd2 HPs HX
                  go_upto_region 21 with (go_at_call 13; refine HMk.out.mono ?_; rintro e y4 ⟨rfl, hY⟩)
                  have hs4 := hY.size
                  have hB5 : Below b wo y4 := HBy.out.trans (hY.mono (by omega))
                  have HT5 := Lib.hid (HT3.out.kept hY)
                  have HO5 := Lib.hid (HO.out.kept (row := none) ⟨hB5.os, hB5.tape, hB5.output, hB5.size, fun k hk _ => hB5.block k (by rw [HBw.out]; exact hk)⟩ (by cases hv : vl.ownBlock <;> simp))
                  have HB5 := Lib.hid hB5
                  have HB6 := Lib.hid (HB3.out.trans (hY.mono (by have := HB3.out.size; have := HBb.out; omega)))
                  have hs5 : b1 ≤ y4.heap.size := by omega
                  clear hY hB5 q0 q1 q2 q3 q4 q5
                  have m0 := HT5.out.cell (j := 0) rfl
                  have m1 := HT5.out.cell (j := 1) rfl
                  have m2 := HT5.out.cell (j := 2) rfl
                  have m3 := HT5.out.cell (j := 3) rfl
                  have m4 := HT5.out.cell (j := 4) rfl
                  have m5 := HT5.out.cell (j := 5) rfl
                  have m6 := HT5.out.cell (j := 6) rfl
                  have m7 := HT5.out.cell (j := 7) rfl
                  have m8 := HT5.out.cell (j := 8) rfl
                  go_wp2_with (at_builtin; refine wpList_append_slice rfl _ _ rfl b1 vl acc rfl (HO5.out.alloc _) _ [(a, c, d)] rfl (sliceT_new y4 (a, c, d)) (by omega) (by simp) (by simp; omega) ?_; intro vo y6 hown4 hB4)
                  have hBa : Below y4.heap.size y4 (y4.alloc (.cells (nineC a c d) 51)) := below_lex _ _
                  have HB7 := Lib.hid (HB6.out.trans ((hBa.mono (by omega)).trans hB4))
                  have HO7 := Lib.hid hown4
                  clear hBa hB4 hown4
                  go_roundg (n - (i2 + 1))
                  case measure => omega
                  case rel => exact ⟨i2 + 1, _, rfl, by go_num, by omega, Nat.le_refl _, acc ++ [(a, c, d)], HPx.out, by rw [List.length_append, List.length_singleton]; omega, HO7.out, HB7.out⟩
              · have d5 : decide (n ≤ i2) = true := by simp; omega
                have d5i : decide ((n : Int) ≤ (i2 : Int)) = true := by simp; omega
                have hd2 : L.drop i2 = [] := List.drop_eq_nil_of_le (by have := HNn.out; omega)
                have hX : P = .no (L.drop i2) := by
                  rw [HPa.out, HPs.out, HX.out, hd2]
                  rfl
                have HO2 := Lib.hid (HFb.out (L.drop i2) · hX)
                have HPl3 := Lib.hid (HPl.out y2 HB3.out i2 hi2)
                clear hX hd2 HPs HX
                go_wp2_with (go_at_call 37; refine HPl3.out.mono ?_; rintro e y6 ⟨rfl, rfl⟩)
                go_ret3
                exact HO2.out _ (HB1.out.trans (HB3.out.mono (by rw [HBb.out]; exact HB1.out.size)))
      · have hin2 : i = n := by omega
        have d1 : decide (i < n) = false := by simp; omega
        have d1i : decide ((i : Int) < (n : Int)) = false := by simp; omega
        have hX : P = .yes acc := by
          rw [HPa.out, List.drop_eq_nil_of_le (by have := HNn.out; omega), parseS_nil]
          simp [Par.put]
        have HO2 := Lib.hid (HFg.out acc · · hX)
        have HOy := Lib.hid (HO.out.low (B := w.heap.size) hw1)
        clear hX hin2
        go_wp2_with fail
        go_ret3
        exact HO2.out _ _ (HB1.out.trans (HBr.out.mono hw1)) HOy.out
end Go.Proofs.YtfldpfomecjdkaaGreatDoor
/-
  THE CONTRACT OF the law's same; append of a slice of triples behind a guard.
-/

namespace Go.Proofs.YtfldpfomecjdkaaGreatDoor
open Go.RowKit
open Utf Term Lex
set_option linter.unusedVariables false
set_option linter.unusedSimpArgs false

set_option maxRecDepth 100000 in
set_option maxHeartbeats 4000000 in
theorem same5_any (v u : Value) (ds : List TripD) (w : World) (hv : SliceT w v ds) (hu : SliceT w u ds) :
    Calls Tryz.prog 20 #[v, u] w fun e w' => e = .returned (.bool true) ∧ Below w.heap.size w w' := by
  obtain ⟨p, cap, rfl, hp⟩ : ∃ p cap, v = .slice p ds.length cap ∧ ∀ k, k < ds.length → ∃ b off, p = some ⟨b, off, none⟩ ∧ RowC w b off (cellsT ds) := by
    rcases hv with ⟨rfl, rfl⟩ | ⟨b, off, cap, rfl, h1, h2, hr⟩
    · exact ⟨_, _, rfl, fun k h => absurd h (by simp)⟩
    · exact ⟨_, _, rfl, fun k h => ⟨b, off, rfl, hr⟩⟩
  obtain ⟨q, cap2, rfl, hq, hmx⟩ : ∃ p cap, u = .slice p ds.length cap ∧ (∀ k, k < ds.length → ∃ b off, p = some ⟨b, off, none⟩ ∧ RowC w b off (cellsT ds)) ∧ ds.length ≤ 9223372036854775807 := by
    rcases hu with ⟨rfl, rfl⟩ | ⟨b, off, cap, rfl, h1, h2, hr⟩
    · exact ⟨_, _, rfl, fun k h => absurd h (by simp), by simp⟩
    · exact ⟨_, _, rfl, fun k h => ⟨b, off, rfl, hr⟩, by unfold maxLen at h2; omega⟩
  have HP := Lib.hid hp
  have HQ := Lib.hid hq
  obtain ⟨n, hnn⟩ : ∃ n, n = ds.length := ⟨_, rfl⟩
  have HN := Lib.hid hnn
  rw [← hnn] at HP HQ hmx ⊢
  clear hp hq hnn hv hu
  go_enter Tryz.func20, Tryz.ntmps20
  go_wp2_with fail
  go_loopg [5] n (fun gk i wr => ∃ j q : Nat, j ≤ n ∧ n - j ≤ gk ∧ i = .int .i64 j ∧ wr = w.drewN q)
  case atStart => exact ⟨0, 0, Nat.zero_le _, by omega, rfl, rfl⟩
  case round =>
    obtain ⟨j, q, hj, hg, rfl, rfl⟩ := hrel
    by_cases hlt : j < n
    · obtain ⟨x, hx⟩ : ∃ x, ds[j]? = some x := ⟨_, List.getElem?_eq_getElem (by have := HN.out; omega)⟩
      have d1 : decide ((j : Int) < (n : Int)) = true := by simpa using hlt
      have i0 : (0 : Int) ≤ (j : Int) := by omega
      have i1 : (j : Int) < (n : Int) := by omega
      obtain ⟨g, o, rfl, nx⟩ := HP.out j hlt
      obtain ⟨g', o', rfl, ny⟩ := HQ.out j hlt
      obtain ⟨c0, c1, c2, c3, c4, c5, c6, c7, c8⟩ := nx.nine hx
      obtain ⟨e0, e1, e2, e3, e4, e5, e6, e7, e8⟩ := ny.nine hx
      have nn := trip_neq x x
      rw [decide_eq_true rfl] at nn
      clear hx nx ny
      go_wp2_with fail
      go_quiet (fail)
      go_wp2_with fail
      go_roundg (n - (j + 1))
      case measure => omega
      case rel => exact ⟨j + 1, _, by omega, Nat.le_refl _, by go_num, rfl⟩
    · obtain rfl : j = n := by omega
      have d1 : decide ((j : Int) < (j : Int)) = false := by simp
      go_wp2_with fail
      go_ret
      exact ⟨rfl, ⟨rfl, rfl, rfl, Nat.le_refl _, fun _ _ => rfl⟩⟩

section
variable {w : World} {ops : Array Oper} {rest : List Oper} {o : Oper} {a : Act} {Q : Exit → Act → World → Prop}
theorem wpList_append_sliceG (hgd : Region.wanted o (yielded ops a.tmps) = true) (s x : Operand) (ho : o.op = .call { callee := .builtin .append, args := #[s, x], argTypes := #[45, 45] })
    (base : Nat) (vb : Value) (bs : List TripD) (hs : a.eval s = vb) (hown : w.ownsRow base 51 9 vb bs.length (cellsT bs)) (v : Value) (ds : List TripD) (hx : a.eval x = v) (hv : SliceT w v ds)
    (hb : bs.length ≤ 1000000000) (hd : ds.length ≤ 1000000000) (hbase : base ≤ w.heap.size)
    (h : ∀ v' w', w'.ownsRow base 51 9 v' (bs ++ ds).length (cellsT (bs ++ ds)) → Below base w w' → wpList Tryz.prog ops Q rest (a.put o.dst v') w') : wpList Tryz.prog ops Q (o :: rest) a w := by
  refine wpList_step fun K hK => ?_
  rw [if_pos hgd]
  obtain ⟨v', w', hrun, r1, r2⟩ := run_append_slice w o.type base vb bs hown v ds hv hb hd hbase
  unfold Oper.wp
  simp [execOp, ho, resolve, invoke, builtin, hs, hx, hrun, Result.andThen]
  exact hK _ _ (h v' w' r1 r2)
end
end Go.Proofs.YtfldpfomecjdkaaGreatDoor
/-
  THE CONTRACT OF the law's known.
-/

namespace Go.Proofs.YtfldpfomecjdkaaGreatDoor
open Go.RowKit
open Utf Term Lex
set_option linter.unusedVariables false
set_option linter.unusedSimpArgs false

theorem doc_a : docS ⟨#[60, 97, 62, 32, 60, 98, 62, 32, 34, 99, 34, 32, 46, 32, 35, 32, 100]⟩ = .good [((1, ⟨#[97]⟩, ⟨#[]⟩), (1, ⟨#[98]⟩, ⟨#[]⟩), (3, ⟨#[99]⟩, ⟨#[]⟩))] := by kernel_rfl
theorem doc_b : docS ⟨#[60, 97, 62, 32, 34, 98, 34, 32, 60, 99, 62, 32, 46]⟩ = .bad 0 4 := by kernel_rfl
theorem num5_any (n : Int) (w : World) : Calls Tryz.prog 21 #[.int .i64 n] w fun e w' => e = .returned (.int .i64 n) ∧ w = w' := by
  go_enter Tryz.func21, Tryz.ntmps21
  go_wp2
  go_ret
  exact ⟨rfl, rfl⟩
theorem plain_c (w : World) : (binOp .eql 31 (.agg #[.int .i64 3, .string ⟨#[99]⟩, .string ⟨#[]⟩]) (.agg #[.int .i64 3, .string ⟨#[99]⟩, .string ⟨#[]⟩])).run Tryz.prog w = .ok (.bool true) w := by
  kernel_rfl

set_option maxRecDepth 100000 in
set_option maxHeartbeats 8000000 in
theorem known5_any (w : World) (hv : LexEnv w) (hrp : Hrp w.heap.size) : Calls Tryz.prog 16 #[] w fun e w' => e = .returned (.bool true) ∧ Below w.heap.size w w' := by
  have HA := ntParse_any ⟨#[60, 97, 62, 32, 60, 98, 62, 32, 34, 99, 34, 32, 46, 32, 35, 32, 100]⟩ (by decide) w hv hrp
  rw [doc_a] at HA
  have HA := Lib.hid HA
  have HC : Hid (∀ W, Below w.heap.size w W → Calls Tryz.prog 17 #[.string ⟨#[60, 97, 62, 32, 34, 98, 34, 32, 60, 99, 62, 32, 46]⟩] W fun e w' => e = .returned (.tuple #[.slice none 0 0, .int .i64 0, .int .i64 4]) ∧ Below W.heap.size W w') := Lib.hid (fun W hW => by
    have := ntParse_any ⟨#[60, 97, 62, 32, 34, 98, 34, 32, 60, 99, 62, 32, 46]⟩ (by decide) W (hv.below hW) (hrp.le hW.size)
    rw [doc_b] at this
    exact this.mono fun e w' h => ⟨h.2, h.1⟩)
  have PC := plain_c
  clear hv hrp
  go_enter Tryz.func16, Tryz.ntmps16
  go_upto_region 2 with (go_at_call 17; refine HA.out.mono ?_; rintro e y ⟨hY, v, rfl, ho⟩)
  rcases owns_slice ho with ⟨_, h⟩ | ⟨g, o, cap, rfl, h1, h2, hrow⟩
  · cases h
  have HCy := Lib.hid (HC.out y hY)
  have HR := Lib.hid hrow
  have HY := Lib.hid hY
  clear ho hY hrow HA HC
  go_upto_region 3 with (go_at_call 17; refine HCy.out.mono ?_; rintro e y2 ⟨rfl, hY2⟩)
  have n2 := (HR.out.below hY2).nine (p := 0) rfl
  obtain ⟨c0, c1, c2, c3, c4, c5, c6, c7, c8⟩ := n2
  simp only [Nat.zero_mul, Nat.add_zero] at c0 c1 c2 c3 c4 c5 c6 c7 c8
  have HB := Lib.hid (HY.out.trans (hY2.mono HY.out.size))
  clear hY2 c0 c1 c2 c3 c4 c5 HCy
  simp only [List.length_singleton] at *
  go_wp2_with (go_at_call 21; refine (num5_any _ _).mono ?_; rintro e z ⟨rfl, rfl⟩)
  go_ret
  exact ⟨rfl, HB.out⟩
end Go.Proofs.YtfldpfomecjdkaaGreatDoor
/-
  THE WALK OF TripleReads. Written by tools/gennreads.py.
-/

namespace Go.Proofs.YtfldpfomecjdkaaGreatDoor
open Go.RowKit
open Utf Term Lex
set_option linter.unusedVariables false
set_option linter.unusedSimpArgs false

set_option maxRecDepth 100000 in
set_option maxHeartbeats 16000000 in
theorem tripleReads_walk (s : ByteArray) (w : World) (he : LexEnv w) (hrp : Hrp w.heap.size) :
    Calls Tryz.prog 4 #[.string s] w fun e w' => e = .returned (.bool true) ∧ Below w.heap.size w w' := by
  have HKn := Lib.hid (fun W (h : Below w.heap.size w W) => known5_any W (he.below h) (hrp.le h.size))
  by_cases hs : s.size ≤ 9000
  · have d1 : decide ((9000 : Int) < (s.size : Int)) = false := by simp; omega
    have d1n : decide (9000 < s.size) = false := by simp; omega
    have HP1 := Lib.hid (ntParse_any s (by omega) w he hrp)
    have HP2 := Lib.hid (fun W => refParse_any s hs W)
    have HP3 := Lib.hid (fun W (h : Below w.heap.size w W) => ntOne_any s (by omega) W (he.below h) (hrp.le h.size))
    have hbad : ∀ p c, docS s = .bad p c → c = 3 ∨ c = 4 := fun p c h => docS_bad h
    have hnl : ∀ p c, docS s = .bad p c → c = 4 := fun p c h => by
      have h3 : ¬ 1048576 < s.size := by omega
      unfold docS at h
      rw [if_neg h3] at h
      split at h
      · simp only [DocR.bad.injEq] at h; omega
      · split at h
        · simp only [DocR.bad.injEq] at h; omega
        · cases hp : parseS (allL (bs s)).1 with
          | no l => rw [hp] at h; simp only [docOf, DocR.bad.injEq] at h; omega
          | yes ts => rw [hp] at h; cases h
    clear he hrp hbad
    generalize docS s = R at *
    cases R with
    | bad p c =>
      obtain rfl := hnl p c rfl
      clear hnl
      have zz := trip_eql (zT, zT, zT) (zT, zT, zT)
      rw [decide_eq_true rfl] at zz
      go_enter Tryz.func4, Tryz.ntmps4
      go_upto_region 4 with (go_at_call 17; refine HP1.out.mono ?_; rintro e y1 ⟨hY1, rfl⟩)
      have HP2y := Lib.hid (HP2.out y1)
      have HB1 := Lib.hid hY1
      clear hY1 HP1
      go_upto_region 5 with (go_at_call 18; refine HP2y.out.mono ?_; rintro e y2 ⟨hY2, rfl⟩)
      have HB2 := Lib.hid (HB1.out.trans (hY2.mono HB1.out.size))
      have HP3y := Lib.hid (HP3.out y2 HB2.out)
      clear hY2 HP2 HP2y HB1
      go_upto_region 6 with (go_at_call 19; refine HP3y.out.mono ?_; rintro e y3 ⟨hY3, rfl⟩)
      have hB4 := HB2.out.trans ((below_next hY3 (below_lex y3 (.cells (nineC zT zT zT) 51))).mono HB2.out.size)
      have hX4 := block_new y3 (nineC zT zT zT) 51
      clear hY3 HP3 HP3y HB2
      generalize y3.alloc (.cells (nineC zT zT zT) 51) = y4 at *
      have HB4 := Lib.hid hB4
      have HX4 := Lib.hid hX4
      have HSm := Lib.hid (same5_any (.slice none 0 0) (.slice none 0 0) [] y4 (.inl ⟨rfl, rfl⟩) (.inl ⟨rfl, rfl⟩))
      clear hB4 hX4
      go_upto_region 10 with (first | (go_at_call 20; refine HSm.out.mono ?_; rintro e y5 ⟨rfl, hY5⟩) | (go_at_call 21; refine (num5_any _ _).mono ?_; rintro e xx ⟨rfl, rfl⟩))
      have HB5 := Lib.hid (HB4.out.trans (hY5.mono HB4.out.size))
      have HX5 := Lib.hid (HX4.out.kept hY5)
      have HK5 := Lib.hid (HKn.out y5 HB5.out)
      clear hY5 HSm
      have x0 := HX5.out.cell (j := 0) rfl
      have x1 := HX5.out.cell (j := 1) rfl
      have x2 := HX5.out.cell (j := 2) rfl
      have x3 := HX5.out.cell (j := 3) rfl
      have x4 := HX5.out.cell (j := 4) rfl
      have x5 := HX5.out.cell (j := 5) rfl
      have x6 := HX5.out.cell (j := 6) rfl
      have x7 := HX5.out.cell (j := 7) rfl
      have x8 := HX5.out.cell (j := 8) rfl
      go_wp2_with (first | (go_at_call 21; refine (num5_any _ _).mono ?_; rintro e xx ⟨rfl, rfl⟩) | (go_at_call 16; refine HK5.out.mono ?_; rintro e y6 ⟨rfl, hY6⟩))
      go_ret
      exact ⟨rfl, HB5.out.trans (hY6.mono HB5.out.size)⟩
    | good ts =>
      clear hnl
      by_cases h1 : ts.length = 1
      · obtain ⟨t, rfl⟩ : ∃ t, ts = [t] := List.length_eq_one_iff.1 h1
        clear h1
        have zz := trip_eql t t
        rw [decide_eq_true rfl] at zz
        go_enter Tryz.func4, Tryz.ntmps4
        go_upto_region 4 with (go_at_call 17; refine HP1.out.mono ?_; rintro e y1 ⟨hY1, v1, rfl, ho1⟩)
        have HP2y := Lib.hid (HP2.out y1)
        have HB1 := Lib.hid hY1
        have HS1 := Lib.hid (owns_slice ho1)
        clear hY1 HP1 ho1
        go_upto_region 5 with (go_at_call 18; refine HP2y.out.mono ?_; rintro e y2 ⟨hY2, v2, rfl, ho2⟩)
        have HB2 := Lib.hid (HB1.out.trans (hY2.mono HB1.out.size))
        have HS1b := Lib.hid (HS1.out.below hY2)
        have HS2 := Lib.hid (owns_slice ho2)
        have HP3y := Lib.hid (HP3.out y2 HB2.out)
        clear hY2 HP2 HP2y HB1 ho2 HS1
        go_upto_region 6 with (go_at_call 19; refine HP3y.out.mono ?_; rintro e y3 ⟨hY3, rfl⟩)
        have hB34 := below_next hY3 (below_lex y3 (.cells (nineC t.1 t.2.1 t.2.2) 51))
        have hB4 := HB2.out.trans (hB34.mono HB2.out.size)
        have hS1 := HS1b.out.below hB34
        have hS2 := HS2.out.below hB34
        have hX4 := block_new y3 (nineC t.1 t.2.1 t.2.2) 51
        clear hY3 HP3 HP3y HB2 hB34 HS1b HS2
        generalize y3.alloc (.cells (nineC t.1 t.2.1 t.2.2) 51) = y4 at *
        have HB4 := Lib.hid hB4
        have HX4 := Lib.hid hX4
        have HSm := Lib.hid (same5_any v1 v2 [t] y4 hS1 hS2)
        have HS2 := Lib.hid hS2
        clear hB4 hX4 hS1 hS2
        rcases HS2.out with ⟨_, h⟩ | ⟨g, o, cap, rfl, hc1, hc2, hrow⟩
        · cases h
        have HRw := Lib.hid hrow
        clear hrow
        simp only [List.length_singleton] at *
        go_upto_region 9 with (first | (go_at_call 20; refine HSm.out.mono ?_; rintro e y5 ⟨rfl, hY5⟩) | (go_at_call 21; refine (num5_any _ _).mono ?_; rintro e xx ⟨rfl, rfl⟩))
        have HB5 := Lib.hid (HB4.out.trans (hY5.mono HB4.out.size))
        have HX5 := Lib.hid (HX4.out.kept hY5)
        have hrow5 := HRw.out.below hY5
        obtain ⟨c0, c1, c2, c3, c4, c5, c6, c7, c8⟩ := hrow5.nine (p := 0) (x := t) rfl
        simp only [Nat.zero_mul, Nat.add_zero] at c0 c1 c2 c3 c4 c5 c6 c7 c8
        have HKd : Hid (∀ q, Calls Tryz.prog 16 #[] (y5.drewN q) fun e w' => e = .returned (.bool true) ∧ Below y5.heap.size y5 w') := Lib.hid (fun q => (HKn.out (y5.drewN q) (HB5.out.trans (lex_drewN _ y5 q))).mono fun e w' h => ⟨h.1, (lex_drewN y5.heap.size y5 q).trans h.2⟩)
        clear hY5 HSm hrow5
        have x0 := HX5.out.cell (j := 0) rfl
        have x1 := HX5.out.cell (j := 1) rfl
        have x2 := HX5.out.cell (j := 2) rfl
        have x3 := HX5.out.cell (j := 3) rfl
        have x4 := HX5.out.cell (j := 4) rfl
        have x5 := HX5.out.cell (j := 5) rfl
        have x6 := HX5.out.cell (j := 6) rfl
        have x7 := HX5.out.cell (j := 7) rfl
        have x8 := HX5.out.cell (j := 8) rfl
        go_region_with (first | (go_at_call 21; refine (num5_any _ _).mono ?_; rintro e xx ⟨rfl, rfl⟩) | (go_at_call 16; refine (HKd.out _).mono ?_; rintro e y6 ⟨rfl, hY6⟩))
        all_goals
          go_wp2_with fail
          go_ret
          exact ⟨rfl, HB5.out.trans (hY6.mono HB5.out.size)⟩
      · have hone : oneD (.good ts) = none := by
          match ts, h1 with
          | [], _ => rfl
          | [t], h => exact absurd rfl h
          | _ :: _ :: _, _ => rfl
        rw [hone] at HP3
        have zz := trip_eql (zT, zT, zT) (zT, zT, zT)
        rw [decide_eq_true rfl] at zz
        have dn : ((ts.length : Int) == 1) = false := by rw [beq_eq_false_iff_ne]; omega
        clear hone h1
        go_enter Tryz.func4, Tryz.ntmps4
        go_upto_region 4 with (go_at_call 17; refine HP1.out.mono ?_; rintro e y1 ⟨hY1, v1, rfl, ho1⟩)
        have HP2y := Lib.hid (HP2.out y1)
        have HB1 := Lib.hid hY1
        have HS1 := Lib.hid (owns_slice ho1)
        clear hY1 HP1 ho1
        go_upto_region 5 with (go_at_call 18; refine HP2y.out.mono ?_; rintro e y2 ⟨hY2, v2, rfl, ho2⟩)
        have HB2 := Lib.hid (HB1.out.trans (hY2.mono HB1.out.size))
        have HS1b := Lib.hid (HS1.out.below hY2)
        have hs2 := owns_slice ho2
        obtain ⟨ao, cap, rfl, _⟩ := owns_form ho2
        have HS2 := Lib.hid hs2
        have HP3y := Lib.hid (HP3.out y2 HB2.out)
        clear hY2 HP2 HP2y HB1 ho2 HS1 hs2
        go_upto_region 6 with (go_at_call 19; refine HP3y.out.mono ?_; rintro e y3 ⟨hY3, rfl⟩)
        have hB34 := below_next hY3 (below_lex y3 (.cells (nineC zT zT zT) 51))
        have hB4 := HB2.out.trans (hB34.mono HB2.out.size)
        have hS1 := HS1b.out.below hB34
        have hS2 := HS2.out.below hB34
        have hX4 := block_new y3 (nineC zT zT zT) 51
        clear hY3 HP3 HP3y HB2 hB34 HS1b HS2
        generalize y3.alloc (.cells (nineC zT zT zT) 51) = y4 at *
        have HB4 := Lib.hid hB4
        have HX4 := Lib.hid hX4
        have HSm := Lib.hid (same5_any v1 _ ts y4 hS1 hS2)
        clear hB4 hX4 hS1 hS2
        generalize ts.length = n at *
        go_upto_region 10 with (first | (go_at_call 20; refine HSm.out.mono ?_; rintro e y5 ⟨rfl, hY5⟩) | (go_at_call 21; refine (num5_any _ _).mono ?_; rintro e xx ⟨rfl, rfl⟩))
        have HB5 := Lib.hid (HB4.out.trans (hY5.mono HB4.out.size))
        have HX5 := Lib.hid (HX4.out.kept hY5)
        have HK5 := Lib.hid (HKn.out y5 HB5.out)
        clear hY5 HSm
        have x0 := HX5.out.cell (j := 0) rfl
        have x1 := HX5.out.cell (j := 1) rfl
        have x2 := HX5.out.cell (j := 2) rfl
        have x3 := HX5.out.cell (j := 3) rfl
        have x4 := HX5.out.cell (j := 4) rfl
        have x5 := HX5.out.cell (j := 5) rfl
        have x6 := HX5.out.cell (j := 6) rfl
        have x7 := HX5.out.cell (j := 7) rfl
        have x8 := HX5.out.cell (j := 8) rfl
        go_wp2_with (first | (go_at_call 21; refine (num5_any _ _).mono ?_; rintro e xx ⟨rfl, rfl⟩) | (go_at_call 16; refine HK5.out.mono ?_; rintro e y6 ⟨rfl, hY6⟩))
        go_ret
        exact ⟨rfl, HB5.out.trans (hY6.mono HB5.out.size)⟩
  · have d1 : decide ((9000 : Int) < (s.size : Int)) = true := by simp; omega
    have d1n : decide (9000 < s.size) = true := by simp; omega
    have HK0 := Lib.hid (HKn.out w (Below.refl _ _))
    clear he hrp
    go_enter Tryz.func4, Tryz.ntmps4
    go_wp2_with (go_at_call 16; refine HK0.out.mono ?_; rintro e y6 ⟨rfl, hY6⟩)
    go_ret
    exact ⟨rfl, hY6⟩
end Go.Proofs.YtfldpfomecjdkaaGreatDoor
