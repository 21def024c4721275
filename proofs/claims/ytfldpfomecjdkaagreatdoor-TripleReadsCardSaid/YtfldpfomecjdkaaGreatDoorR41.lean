/-
  WHAT THE PROOF STANDS ON, a part of it: NtParse, NtText, NtPure, NtRefText, NtPure2, NtPure3, NtSize, NtCut, NtCut2, NtSame, NtKnown, NtWrites, NtCuts.
-/
import Derived.Test.YtfldpfomecjdkaaGreatDoorR40
import Derived.Test.YtfldpfomecjdkaaGreatDoorR20
import Derived.Test.YtfldpfomecjdkaaGreatDoorR29
import Derived.Test.YtfldpfomecjdkaaGreatDoorR32
/-
  THE CONTRACTS OF ntriples.Parse, One.
-/

namespace Go.Proofs.YtfldpfomecjdkaaGreatDoor
open Go.RowKit
open Utf Term Lex
set_option linter.unusedVariables false
set_option linter.unusedSimpArgs false

abbrev Hrp (n : Nat) : Prop := 0 < n ∧ 1 < n ∧ 2 < n
theorem Hrp.le {n m : Nat} (h : Hrp n) (k : n ≤ m) : Hrp m := ⟨by have := h.1; omega, by have := h.2.1; omega, by have := h.2.2; omega⟩

/-- All, for one that reads a document. -/
theorem all_doc (s : ByteArray) (hs : s.size ≤ 1000000000) (w : World) (hv : LexEnv w) (hrp : Hrp w.heap.size) :
    (∃ p c : Nat, c ≠ 0 ∧ c ≤ 4 ∧ docS s = .bad p c ∧ Calls Tryz.prog 28 #[.string s] w fun e w' => e = .returned (.tuple #[.slice none 0 0, .int .i64 p, .int .i64 c]) ∧ Below w.heap.size w w') ∨
    (docS s = docOf s.size (parseS (allL (bs s)).1) ∧ s.size ≤ 1048576 ∧ Calls Tryz.prog 28 #[.string s] w fun e w' => ∃ v, e = .returned (.tuple #[v, .int .i64 0, .int .i64 0]) ∧ w'.ownsRow w.heap.size 43 6 v (allL (bs s)).1.length (flatS (allL (bs s)).1) ∧ Below w.heap.size w w') := by
  have h := all_any lexEscape_any s hs w hv hrp
  unfold docS
  by_cases h1 : 1048576 < s.size
  · refine .inl ⟨0, 3, by decide, by decide, by rw [if_pos h1], h.mono ?_⟩
    intro e w' h
    unfold AllOut at h
    rw [if_pos h1] at h
    exact ⟨h.2, h.1⟩
  rw [if_neg h1]
  by_cases h2 : wfL (bs s) < s.size
  · refine .inl ⟨wfL (bs s), 4, by decide, by decide, by rw [if_pos h2], h.mono ?_⟩
    intro e w' h
    unfold AllOut at h
    rw [if_neg h1, if_pos h2] at h
    exact ⟨h.2, h.1⟩
  rw [if_neg h2]
  by_cases h3 : (allL (bs s)).2 < s.size
  · refine .inl ⟨(allL (bs s)).2, 4, by decide, by decide, by rw [if_pos h3], h.mono ?_⟩
    intro e w' h
    unfold AllOut at h
    rw [if_neg h1, if_neg h2, if_pos h3] at h
    exact ⟨h.2, h.1⟩
  rw [if_neg h3]
  refine .inr ⟨rfl, by omega, h.mono ?_⟩
  intro e w' h
  unfold AllOut at h
  rw [if_neg h1, if_neg h2, if_neg h3] at h
  obtain ⟨hB, v, rfl, ho⟩ := h
  exact ⟨v, rfl, ho, hB⟩

/-- What Parse answers. -/
def ParseOut (r : DocR) (w : World) (e : Ending) (w' : World) : Prop :=
  Below w.heap.size w w' ∧ match r with
  | .bad p c => e = .returned (.tuple #[.slice none 0 0, .int .i64 p, .int .i64 c])
  | .good ts => ∃ v, e = .returned (.tuple #[v, .int .i64 0, .int .i64 0]) ∧ w'.ownsRow w.heap.size 51 9 v ts.length (cellsT ts)

/-- A slice of one triple in a block of its own. -/
theorem sliceT_new (w : World) (t : TripD) : SliceT (w.alloc (.cells (nineC t.1 t.2.1 t.2.2) 51)) (.slice (some ⟨w.heap.size, 0, none⟩) 1 1) [t] := by
  refine .inr ⟨w.heap.size, 0, 1, rfl, Nat.le_refl _, by decide, fun j u hu => ?_⟩
  rw [Nat.zero_add]
  have hb := block_new w (nineC t.1 t.2.1 t.2.2) 51
  refine hb.cell ?_
  rw [← Array.getElem?_toList]
  have : cellsT [t] = (nineC t.1 t.2.1 t.2.2).toList := rfl
  rw [← this]
  exact hu

/-- The state at the head of Parse's loop. -/
def ParseRel (n : Nat) (P : Par) (w : World) (tb : Nat) (R : List Sym) (vl : Value) (wr : World) : Prop :=
  ∃ (acc : List TripD) (vv : Value), P = (parseS R).put acc ∧ TkAt wr tb vv R ∧ LowV tb vv ∧ (∀ x ∈ R, GoodS n x) ∧ acc.length + R.length ≤ 1048576 ∧
    wr.ownsRow (tb + 1) 51 9 vl acc.length (cellsT acc) ∧ Below w.heap.size w wr ∧ tb < wr.heap.size ∧ LexEnv wr

set_option maxRecDepth 100000 in
set_option maxHeartbeats 16000000 in
theorem ntParse_any (s : ByteArray) (hs : s.size ≤ 1000000000) (w : World) (hv : LexEnv w) (hrp : Hrp w.heap.size) :
    Calls Tryz.prog 17 #[.string s] w (ParseOut (docS s) w) := by
  obtain ⟨F, hF⟩ : ∃ F, F = ParseOut (docS s) w := ⟨_, rfl⟩
  rcases all_doc s hs w hv hrp with ⟨p, c, hc0, hc4, hd, hA⟩ | ⟨hd, hsz, hA⟩
  · have HF : Hid (∀ W, Below w.heap.size w W → F (.returned (.tuple #[.slice none 0 0, .int .i64 p, .int .i64 c])) W) := Lib.hid (fun W hW => by rw [hF, hd]; exact ⟨hW, rfl⟩)
    rw [← hF]
    have HA := Lib.hid hA
    have d1 : ((c : Int) != 0) = true := by rw [bne_iff_ne]; omega
    clear hF hd hA hv hrp
    go_enter Tryz.func17, Tryz.ntmps17
    go_wp2_with (go_at_call 28; refine HA.out.mono ?_; rintro e w1 ⟨rfl, hB1⟩)
    go_ret3
    exact HF.out _ hB1
  · have hgood := all_good s
    have hfew := syms_few s
    have HP : Hid (docS s = docOf s.size (parseS (allL (bs s)).1)) := Lib.hid hd
    have HFb : Hid (∀ l W, parseS (allL (bs s)).1 = .no l → Below w.heap.size w W → F (.returned (.tuple #[.slice none 0 0, .int .i64 (placeS s.size l), .int .i64 4])) W) := Lib.hid (fun l W hl hW => by rw [hF, hd, hl]; exact ⟨hW, rfl⟩)
    have HFg : Hid (∀ ts v W, parseS (allL (bs s)).1 = .yes ts → Below w.heap.size w W → W.ownsRow w.heap.size 51 9 v ts.length (cellsT ts) → F (.returned (.tuple #[v, .int .i64 0, .int .i64 0])) W) := Lib.hid (fun ts v W hl hW ho => by rw [hF, hd, hl]; exact ⟨hW, v, rfl, ho⟩)
    rw [← hF]
    have HA := Lib.hid hA
    have HV := Lib.hid hv
    have HRp := Lib.hid hrp
    clear hF hd hA hv hrp
    generalize (allL (bs s)).1 = L at *
    have HG := Lib.hid hgood
    clear hgood HP
    obtain ⟨P, hP⟩ : ∃ P, P = parseS L := ⟨_, rfl⟩
    rw [← hP] at HFb HFg
    have HP := Lib.hid hP
    clear hP
    go_enter Tryz.func17, Tryz.ntmps17
    go_upto_region 2 with (go_at_call 28; refine HA.out.mono ?_; rintro e w1 ⟨v, rfl, ho, hB1⟩)
    have hsl := SlA.of (slice_of_owns ho)
    obtain ⟨ao, cap, rfl, _⟩ := owns_formL ho
    have HB1 := Lib.hid hB1
    have HSl := Lib.hid hsl
    have HLo := Lib.hid hsl.low
    clear ho hsl hB1 HA
    go_upto_region 6 with (go_at_call 33; refine (ntTaking_any _ _ _ _).mono ?_; rintro e w2 ⟨rfl, rfl⟩)
    have HT2 : Hid (TkAt (w1.alloc (.cells #[.slice ao L.length cap] 25)) w1.heap.size (.slice ao L.length cap) L) := Lib.hid ⟨block_new _ _ _, HSl.out.below (below_lex _ _)⟩
    have HB2 : Hid (Below w.heap.size w (w1.alloc (.cells #[.slice ao L.length cap] 25))) := Lib.hid (below_next HB1.out (below_lex _ _))
    have HS2 : Hid (w1.heap.size < (w1.alloc (.cells #[.slice ao L.length cap] 25)).heap.size) := Lib.hid (by simp)
    have hw1 : w.heap.size ≤ w1.heap.size := HB1.out.size
    clear HB1 HSl
    generalize w1.alloc (.cells #[.slice ao L.length cap] 25) = w2 at *
    generalize w1.heap.size = tb at *
    go_loopg [8] L.length (fun gg u wr => ∃ (R : List Sym) (vl : Value), vl = u ∧ R.length ≤ gg ∧ ParseRel s.size P w tb R vl wr)
    case atStart =>
      refine ⟨L, _, rfl, Nat.le_refl _, [], _, ?_, HT2.out, HLo.out, HG.out, by simp; omega, World.ownsRow_nil _ _ _ _, HB2.out, HS2.out, HV.out.below HB2.out⟩
      rw [Par.put_nil]; exact HP.out
    case round =>
      obtain ⟨R, vl, rfl, hgg, acc, vv, hpar, htk, hlo, hgR, hcnt, hown, hB, htb, hE⟩ := hrel
      have HPa := Lib.hid hpar
      have HTk := Lib.hid htk
      have HLo2 := Lib.hid hlo
      have HGR := Lib.hid hgR
      have HO := Lib.hid hown
      have HB := Lib.hid hB
      have HE := Lib.hid hE
      have HTa := Lib.hid (ntTake_any tb 0 vv R (Nat.zero_le _) (by omega) wr htk)
      clear hpar htk hgR hown hB hE HT2 HB2 HS2 HP hlo HLo
      cases R with
      | nil =>
        have HPx : Hid (P = .yes acc) := Lib.hid (by rw [HPa.out, parseS_nil]; simp [Par.put])
        go_upto_region 11 with (go_at_call 64; refine HTa.out.mono ?_; rintro e y1 ⟨v1, rfl, hT1, hM1, _⟩; obtain ⟨p1, c1, rfl⟩ : ∃ p c, v1 = .slice p 0 c := (by rcases hT1.sl with ⟨rfl, _⟩ | ⟨g, o, cap, rfl, _⟩ <;> exact ⟨_, _, rfl⟩))
        have hB1 : Below w.heap.size wr y1 := hM1.below (by have := HB.out.size; omega) hw1
        have ho1 : y1.ownsRow (tb + 1) 51 9 vl acc.length (cellsT acc) := HO.out.kept (row := some tb) ⟨hM1.os, hM1.tape, hM1.output, hM1.size, fun k hk hn => hM1.block k hk (fun e => hn (by rw [e]))⟩ (.inr (fun e => by have := (HO.out.lt _ e).1; omega))
        have HBy := Lib.hid (HB.out.trans hB1)
        have HOy := Lib.hid (ho1.low (B := w.heap.size) (by omega))
        clear hB1 ho1 hT1 hM1
        go_wp2_with fail
        go_ret3
        exact HFg.out acc _ _ HPx.out HBy.out HOy.out
      | cons x r =>
        have hne : x :: r ≠ [] := by simp
        have HPs := Lib.hid (parseS_cons (x :: r) hne)
        go_upto_region 7 with (go_at_call 64; refine HTa.out.mono ?_; rintro e y1 ⟨v1, rfl, hT1, hM1, hl1⟩; obtain ⟨p1, c1, rfl⟩ : ∃ p c, v1 = .slice p (List.length (x :: r)) c := (by rcases hT1.sl with ⟨_, h⟩ | ⟨g, o, cap, rfl, _⟩; exact absurd h hne; exact ⟨_, _, rfl⟩))
        have hB1 : Below w.heap.size wr y1 := hM1.below (by have := HB.out.size; omega) hw1
        have ho1 : y1.ownsRow (tb + 1) 51 9 vl acc.length (cellsT acc) := HO.out.kept (row := some tb) ⟨hM1.os, hM1.tape, hM1.output, hM1.size, fun k hk hn => hM1.block k hk (fun e => hn (by rw [e]))⟩ (.inr (fun e => by have := (HO.out.lt _ e).1; omega))
        have hs1 := hM1.size
        have HE1 := Lib.hid (HE.out.under hB1 HRp.out)
        have HLo3 := Lib.hid (hl1 _ HLo2.out)
        have HBy := Lib.hid (HB.out.trans hB1)
        have HOy := Lib.hid ho1
        have HSt := Lib.hid (ntStm_any s.size (by omega) tb _ (x :: r) HGR.out (by omega) y1 HE1.out (by omega) (HRp.out.le hw1) (by have := hT1; rwa [List.drop_zero] at this))
        clear hB1 ho1 hT1 hM1 HTk HTa HE HB HO
        cases hst : stmS (x :: r) with
        | no l =>
          have HPx : Hid (P = .no l) := Lib.hid (by rw [HPa.out, HPs.out, hst]; rfl)
          rw [hst] at HSt
          clear hst HPs HPa
          go_upto_region 9 with (go_at_call 34; refine HSt.out.mono ?_; rintro e y2 ⟨hM2, v2, v3, rfl, hsl, hbl⟩)
          have hB2 : Below w.heap.size y1 y2 := hM2.below (by have := HBy.out.size; omega) hw1
          have HB2 := Lib.hid (below_next (HBy.out.trans hB2) (below_lex y2 (.cells (nineC zT zT zT) 51)))
          have HPl := Lib.hid (ntPlace_any v2 l s.size _ (hsl.below (below_lex y2 (.cells (nineC zT zT zT) 51))))
          clear hM2 hsl hbl hB2 HSt
          go_wp2_with (go_at_call 35; refine HPl.out.mono ?_; rintro e y3 ⟨rfl, rfl⟩)
          go_ret3
          exact HFb.out l _ HPx.out HB2.out
        | yes t l =>
          have hyes := stmS_yes hst
          have HPx : Hid (P = (parseS l).put (acc ++ [t])) := Lib.hid (by rw [HPa.out, HPs.out, hst]; exact Par.put_put _ _ _)
          rw [hst] at HSt
          have hlen : l.length + 1 ≤ (x :: r).length := by
            obtain ⟨k, rfl, hk, _⟩ := hyes
            rw [List.length_drop]
            have : 0 < (x :: r).length := by simp
            omega
          have HGl : Hid (∀ y ∈ l, GoodS s.size y) := Lib.hid (fun y hy => by
            obtain ⟨k, rfl, hk, _⟩ := hyes
            exact HGR.out y (List.mem_of_mem_drop hy))
          clear hst HPs HPa hyes
          go_upto_region 8 with (go_at_call 34; refine HSt.out.mono ?_; rintro e y2 ⟨hM2, v2, rfl, hT2, hl2⟩)
          have hB2 : Below w.heap.size y1 y2 := hM2.below (by have := HBy.out.size; omega) hw1
          have ho2 : y2.ownsRow (tb + 1) 51 9 vl acc.length (cellsT acc) := HOy.out.kept (row := some tb) ⟨hM2.os, hM2.tape, hM2.output, hM2.size, fun k hk hn => hM2.block k hk (fun e => hn (by rw [e]))⟩ (.inr (fun e => by have := (HOy.out.lt _ e).1; omega))
          have hs2 := hM2.size
          have hX3 := block_new y2 (nineC t.1 t.2.1 t.2.2) 51
          have hB3 : Below y2.heap.size y2 (y2.alloc (.cells (nineC t.1 t.2.1 t.2.2) 51)) := below_lex _ _
          have HLo4 := Lib.hid (hl2 _ HLo3.out)
          have HB3 := Lib.hid (below_next (HBy.out.trans hB2) hB3)
          have HO3 := Lib.hid (ho2.alloc (.cells (nineC t.1 t.2.1 t.2.2) 51))
          have HT3 := Lib.hid (hT2.below hB3)
          have HE3 := Lib.hid ((HE1.out.under hB2 HRp.out).below hB3)
          have hs3 : y2.heap.size + 1 = (y2.alloc (.cells (nineC t.1 t.2.1 t.2.2) 51)).heap.size := by simp
          clear hM2 hT2 hB2 ho2 hB3 HSt HOy HBy HE1
          generalize y2.alloc (.cells (nineC t.1 t.2.1 t.2.2) 51) = W3 at *
          have x0 := hX3.cell (j := 0) rfl
          have x1 := hX3.cell (j := 1) rfl
          have x2 := hX3.cell (j := 2) rfl
          have x3 := hX3.cell (j := 3) rfl
          have x4 := hX3.cell (j := 4) rfl
          have x5 := hX3.cell (j := 5) rfl
          have x6 := hX3.cell (j := 6) rfl
          have x7 := hX3.cell (j := 7) rfl
          have x8 := hX3.cell (j := 8) rfl
          go_wp2_with (at_builtin; refine wpList_append_slice rfl _ _ rfl (tb + 1) vl acc rfl (HO3.out.alloc _) _ [t] rfl (sliceT_new W3 t) (by omega) (by simp) (by simp; omega) ?_; intro vo w4 hown4 hB4)
          have hB3a : Below W3.heap.size W3 (W3.alloc (.cells (nineC t.1 t.2.1 t.2.2) 51)) := below_lex _ _
          have hB34 : Below (tb + 1) W3 w4 := (hB3a.mono (by omega)).trans hB4
          have hs4 := hB34.size
          go_roundg l.length
          case rel =>
            exact ⟨l, _, rfl, Nat.le_refl _, acc ++ [t], v2, HPx.out, ⟨HT3.out.blk.under hB34 (by omega), HT3.out.sl.under HLo4.out (hB34.mono (Nat.le_succ _))⟩, HLo4.out, HGl.out, by rw [List.length_append]; simp at *; omega, hown4, HB3.out.trans (hB34.mono (by omega)), by omega, HE3.out.under hB34 (HRp.out.le (by omega))⟩
          case measure => simp only [List.length_cons] at *; omega

def oneD : DocR → Option TripD
  | .good [t] => some t
  | _ => none
/-- What One answers. -/
def OneOut (r : Option TripD) (w : World) (e : Ending) (w' : World) : Prop :=
  Below w.heap.size w w' ∧ match r with
  | some t => e = .returned (.tuple #[tripleV t.1 t.2.1 t.2.2, .int .i64 0])
  | none => e = .returned (.tuple #[tripleV zT zT zT, .int .i64 4])
theorem results_one {fn : Func} {p u : Tmp} (h : fn.results = #[.cell p 51, .tmp u]) (tmps : Array Value) (w : World) (g : Nat) (a b c : TermD)
    (hp : tmps.getD p undef = .pointer (some ⟨g, 0, none⟩)) (hx : BlockAt w g (nineC a b c) 51) :
    (results fn tmps).run Tryz.prog w = .ok (.tuple #[tripleV a b c, tmps.getD u undef]) w := by
  have h1 := run_loadVar_row (P := Tryz.prog) w g 51 51 (nineC a b c) (0, 0) _ hx Tryz.underlying51 rfl (by kernel_rfl)
  have hp' : tmps[p]?.getD undef = .pointer (some ⟨g, 0, none⟩) := by simpa using hp
  simp only [results, h]
  simp [Sem.run_bind, Result.andThen, hp', asAddr, h1]

set_option maxRecDepth 100000 in
set_option maxHeartbeats 8000000 in
theorem ntOne_any (s : ByteArray) (hs : s.size ≤ 1000000000) (w : World) (hv : LexEnv w) (hrp : Hrp w.heap.size) :
    Calls Tryz.prog 19 #[.string s] w (OneOut (oneD (docS s)) w) := by
  have hB : Below w.heap.size w (w.alloc (.cells (nineC zT zT zT) 51)) := below_lex _ _
  have hR : BlockAt (w.alloc (.cells (nineC zT zT zT) 51)) w.heap.size (nineC zT zT zT) 51 := block_new _ _ _
  have hsz : (w.alloc (.cells (nineC zT zT zT) 51)).heap.size = w.heap.size + 1 := by simp
  obtain ⟨W0, hW0⟩ : ∃ W0, W0 = (w.alloc (.cells (nineC zT zT zT) 51)) := ⟨_, rfl⟩
  rw [← hW0] at hB hR hsz
  have HP := Lib.hid (ntParse_any s hs W0 (hv.below hB) (hrp.le hB.size))
  have HB := Lib.hid hB
  have HR := Lib.hid hR
  have HW0 := Lib.hid hW0
  obtain ⟨F, hF⟩ : ∃ F, F = OneOut (oneD (docS s)) w := ⟨_, rfl⟩
  have HF := Lib.hid hF
  rw [← hF]
  clear hF hB hR hW0 hv hrp
  obtain ⟨D, hD⟩ : ∃ D, D = docS s := ⟨_, rfl⟩
  rw [← hD] at HP HF
  have hbad : ∀ p c, D = .bad p c → c = 3 ∨ c = 4 := fun p c h => docS_bad (hD.symm.trans h)
  clear hD
  cases D with
  | bad p c =>
    have hc := hbad p c rfl
    clear hbad
    · have d1 : ((c : Int) != 0) = true := by rw [bne_iff_ne]; omega
      go_enter Tryz.func19, Tryz.ntmps19
      go_upto_region 1 with fail
      rw [← HW0.out]
      go_wp2_with (go_at_call 17; refine HP.out.mono ?_; rintro e y ⟨hY, rfl⟩; have hbR1 := HR.out.kept hY; have k0 := hbR1.cell (j := 0) rfl; have k1 := hbR1.cell (j := 1) rfl; have k2 := hbR1.cell (j := 2) rfl; have k3 := hbR1.cell (j := 3) rfl; have k4 := hbR1.cell (j := 4) rfl; have k5 := hbR1.cell (j := 5) rfl; have k6 := hbR1.cell (j := 6) rfl; have k7 := hbR1.cell (j := 7) rfl; have k8 := hbR1.cell (j := 8) rfl; have kf : ∀ j, y.frozen? ⟨w.heap.size, j, none⟩ = false := fun j => hbR1.free j)
      refine bodyPost_ret (results_one (p := 2) (u := 3) rfl _ _ w.heap.size zT zT zT rfl (block_set9 hbR1 zT zT zT)) rfl ?_
      rw [HF.out]
      have hB4 : Below w.heap.size w (set9 y w.heap.size zT zT zT) := below_set9 (HB.out.trans (hY.mono HB.out.size)) (Nat.le_refl _) zT zT zT
      exact ⟨hB4, rfl⟩
  | good ts =>
    clear hbad
    by_cases h1 : ts.length = 1
    · obtain ⟨t, rfl⟩ : ∃ t, ts = [t] := List.length_eq_one_iff.1 h1
      clear h1
      go_enter Tryz.func19, Tryz.ntmps19
      go_upto_region 1 with fail
      rw [← HW0.out]
      go_upto_region 2 with (go_at_call 17; refine HP.out.mono ?_; rintro e y ⟨hY, v, rfl, ho⟩)
      have hsl := owns_slice ho
      rcases hsl with ⟨_, h⟩ | ⟨g, o, cap, rfl, h1, h2, hrow⟩
      · cases h
      obtain ⟨c0, c1, c2, c3, c4, c5, c6, c7, c8⟩ := hrow.nine (p := 0) (x := t) rfl
      simp only [Nat.zero_mul, Nat.add_zero] at c0 c1 c2 c3 c4 c5 c6 c7 c8
      have hbR1 := HR.out.kept hY
      have HBR1 := Lib.hid hbR1
      have HB4 : Hid (Below w.heap.size w (set9 y w.heap.size t.1 t.2.1 t.2.2)) := Lib.hid (below_set9 (HB.out.trans (hY.mono HB.out.size)) (Nat.le_refl _) t.1 t.2.1 t.2.2)
      have k0 := hbR1.cell (j := 0) rfl
      have k1 := hbR1.cell (j := 1) rfl
      have k2 := hbR1.cell (j := 2) rfl
      have k3 := hbR1.cell (j := 3) rfl
      have k4 := hbR1.cell (j := 4) rfl
      have k5 := hbR1.cell (j := 5) rfl
      have k6 := hbR1.cell (j := 6) rfl
      have k7 := hbR1.cell (j := 7) rfl
      have k8 := hbR1.cell (j := 8) rfl
      have kf : ∀ j, y.frozen? ⟨w.heap.size, j, none⟩ = false := fun j => hbR1.free j
      clear hrow hY ho hbR1 HP
      simp only [List.length_singleton] at *
      go_wp2_with fail
      refine bodyPost_ret (results_one (p := 2) (u := 3) rfl _ _ w.heap.size t.1 t.2.1 t.2.2 rfl (block_set9 HBR1.out t.1 t.2.1 t.2.2)) rfl ?_
      rw [HF.out]
      exact ⟨HB4.out, rfl⟩
    · have hn : oneD (.good ts) = none := by
        match ts, h1 with
        | [], _ => rfl
        | [t], h => exact absurd rfl h
        | _ :: _ :: _, _ => rfl
      have HN := Lib.hid hn
      have d1 : ((ts.length : Int) != 1) = true := by rw [bne_iff_ne]; omega
      clear hn h1
      go_enter Tryz.func19, Tryz.ntmps19
      go_upto_region 1 with fail
      rw [← HW0.out]
      go_upto_region 2 with (go_at_call 17; refine HP.out.mono ?_; rintro e y ⟨hY, v, rfl, ho⟩)
      obtain ⟨ao, cap, rfl, _⟩ := owns_form ho
      have hbR1 := HR.out.kept hY
      have HBR1 := Lib.hid hbR1
      have HB4 : Hid (Below w.heap.size w (set9 y w.heap.size zT zT zT)) := Lib.hid (below_set9 (HB.out.trans (hY.mono HB.out.size)) (Nat.le_refl _) zT zT zT)
      have k0 := hbR1.cell (j := 0) rfl
      have k1 := hbR1.cell (j := 1) rfl
      have k2 := hbR1.cell (j := 2) rfl
      have k3 := hbR1.cell (j := 3) rfl
      have k4 := hbR1.cell (j := 4) rfl
      have k5 := hbR1.cell (j := 5) rfl
      have k6 := hbR1.cell (j := 6) rfl
      have k7 := hbR1.cell (j := 7) rfl
      have k8 := hbR1.cell (j := 8) rfl
      have kf : ∀ j, y.frozen? ⟨w.heap.size, j, none⟩ = false := fun j => hbR1.free j
      clear hY ho hbR1 HP
      generalize ts.length = n at *
      go_wp2_with fail
      refine bodyPost_ret (results_one (p := 2) (u := 3) rfl _ _ w.heap.size zT zT zT rfl (block_set9 HBR1.out zT zT zT)) rfl ?_
      rw [HF.out, HN.out]
      exact ⟨HB4.out, rfl⟩
end Go.Proofs.YtfldpfomecjdkaaGreatDoor
/-
  THE CONTRACT OF ntriples.Text.
-/

namespace Go.Proofs.YtfldpfomecjdkaaGreatDoor
open Go.RowKit
open Utf Term Lex
set_option linter.unusedVariables false
set_option linter.unusedSimpArgs false

def addT (t : TripD) : Bool := addD t.1 t.2.1 t.2.2
def lineT (t : TripD) : List Int := tripleL t.1 t.2.1 t.2.2 ++ [10]
def textsL (ts : List TripD) : List Int := ts.flatMap lineT
def textR (ts : List TripD) : ByteArray × Int :=
  if ts.all addT = true then (if 1048576 < (textsL ts).length then (⟨#[]⟩, 3) else (strOfNums (textsL ts), 0)) else (⟨#[]⟩, 2)
theorem textsL_snoc (ts : List TripD) (t : TripD) : textsL (ts ++ [t]) = textsL ts ++ lineT t := by simp [textsL]
theorem add_may {t : TripD} (h : addT t = true) : (mayD t.1 && mayD t.2.1 && mayD t.2.2) = true := by
  unfold addT addD followD at h
  simp only [Bool.and_eq_true] at h ⊢
  exact h.2
theorem may_short {a : TermD} (h : mayD a = true) : (textL a.1 a.2.1 a.2.2).length ≤ 30000 := (text_valid h).2
theorem line_len {t : TripD} (h : addT t = true) : (lineT t).length ≤ 100000 := by
  have hm := add_may h
  simp only [Bool.and_eq_true] at hm
  have h1 := may_short hm.1.1
  have h2 := may_short hm.1.2
  have h3 := may_short hm.2
  unfold lineT
  have e : tripleL t.1 t.2.1 t.2.2 = textL t.1.1 t.1.2.1 t.1.2.2 ++ 32 :: (textL t.2.1.1 t.2.1.2.1 t.2.1.2.2 ++ 32 :: (textL t.2.2.1 t.2.2.2.1 t.2.2.2.2 ++ [32, 46])) := rfl
  rw [e]
  simp only [List.length_append, List.length_cons, List.length_nil]
  omega
def FitsT (t : TripD) : Prop := Vast t.1 ∧ Vast t.2.1 ∧ Vast t.2.2
theorem may_fits {a : TermD} (h : mayD a = true) : Fits a := by
  obtain ⟨k, t, x⟩ := a
  have h : mayS k t x = true := h
  have e1 := bs_length t
  have e2 := bs_length x
  have hb : t.size ≤ 4000 ∧ x.size ≤ 4000 := by
    unfold mayS at h
    by_cases h1 : k = 1
    · rw [if_pos h1, Bool.and_eq_true] at h
      have := h.1; unfold noExtra at this; simp only [decide_eq_true_eq] at this
      have := (iri_valid h.2).2
      omega
    rw [if_neg h1] at h
    by_cases h2 : k = 2
    · rw [if_pos h2, Bool.and_eq_true] at h
      have := h.1; unfold noExtra at this; simp only [decide_eq_true_eq] at this
      have := (blank_valid h.2).2
      omega
    rw [if_neg h2] at h
    have hval : isValueB (bs t) = true → (bs t).length ≤ 4000 := fun h => by
      unfold isValueB at h
      simp only [Bool.and_eq_true, decide_eq_true_eq] at h
      exact h.1
    by_cases h3 : k = 3
    · rw [if_pos h3, Bool.and_eq_true] at h
      have := h.1; unfold noExtra at this; simp only [decide_eq_true_eq] at this
      have := hval h.2
      omega
    rw [if_neg h3] at h
    by_cases h4 : k = 4
    · rw [if_pos h4, Bool.and_eq_true] at h
      have := h.1; unfold isTagS at this; simp only [Bool.and_eq_true, decide_eq_true_eq] at this
      have := hval h.2
      omega
    rw [if_neg h4] at h
    by_cases h5 : k = 5
    · rw [if_pos h5, Bool.and_eq_true] at h
      have hi : isIRIB (bs x) = true := by have := h.1; unfold isTypeB at this; rw [Bool.and_eq_true] at this; exact this.2
      have := (iri_valid hi).2
      have := hval h.2
      omega
    rw [if_neg h5] at h
    cases h
  exact ⟨Nat.le_trans hb.1 (by decide), Nat.le_trans hb.2 (by decide)⟩
theorem add_fits {t : TripD} (h : addT t = true) : Fits t.1 ∧ Fits t.2.1 ∧ Fits t.2.2 := by
  have hm := add_may h
  simp only [Bool.and_eq_true] at hm
  have f : ∀ a : TermD, mayD a = true → Fits a := fun a h => may_fits h
  exact ⟨f _ hm.1.1, f _ hm.1.2, f _ hm.2⟩
theorem take_snoc {α : Type} {l : List α} {k : Nat} {x : α} (h : l[k]? = some x) : l.take (k + 1) = l.take k ++ [x] := by
  rw [List.take_add_one, h]; rfl

set_option maxRecDepth 100000 in
set_option maxHeartbeats 8000000 in
theorem ntText_any (v : Value) (ts : List TripD) (hn : ts.length ≤ 1000000) (hf : ∀ t ∈ ts, FitsT t) (w : World) (hv : SliceT w v ts) (he : LexEnv w) :
    Calls Tryz.prog 22 #[v] w fun e w' => e = .returned (.tuple #[.string (textR ts).1, .int .i64 (textR ts).2]) ∧ Below w.heap.size w w' := by
  obtain ⟨p, cap, rfl, hp⟩ : ∃ p cap, v = .slice p ts.length cap ∧ ∀ k, k < ts.length → ∃ b off, p = some ⟨b, off, none⟩ ∧ RowC w b off (cellsT ts) := by
    rcases hv with ⟨rfl, rfl⟩ | ⟨b, off, cap, rfl, h1, h2, hr⟩
    · exact ⟨_, _, rfl, fun k h => absurd h (by simp)⟩
    · exact ⟨_, _, rfl, fun k h => ⟨b, off, rfl, hr⟩⟩
  have HP := Lib.hid hp
  have HE := Lib.hid he
  have HFt := Lib.hid hf
  obtain ⟨n, hnn⟩ : ∃ n, n = ts.length := ⟨_, rfl⟩
  have HN := Lib.hid hnn
  rw [← hnn] at HP hn ⊢
  obtain ⟨R, hR⟩ : ∃ R, R = textR ts := ⟨_, rfl⟩
  rw [← hR]
  have HR := Lib.hid hR
  clear hp he hf hnn hv hR
  go_enter Tryz.func22, Tryz.ntmps22
  go_wp2_with fail
  go_loopg [13] n (fun gg i wr => ∃ k : Nat, k ≤ n ∧ n - k ≤ gg ∧ i = .int .i64 k ∧ (ts.take k).all addT = true ∧ Below w.heap.size w wr)
  case atStart => exact ⟨0, Nat.zero_le _, by omega, rfl, by simp, Below.refl _ _⟩
  case round =>
    obtain ⟨k, hk, hgg, rfl, hall, hB⟩ := hrel
    have HAl := Lib.hid hall
    have HB := Lib.hid hB
    clear hall hB
    by_cases hlt : k < n
    · have d1 : decide ((k : Int) < (n : Int)) = true := by simpa using hlt
      obtain ⟨x, hx⟩ : ∃ x, ts[k]? = some x := ⟨_, List.getElem?_eq_getElem (by have := HN.out; omega)⟩
      obtain ⟨b, off, rfl, hrow⟩ := HP.out k hlt
      obtain ⟨c0, c1, c2, c3, c4, c5, c6, c7, c8⟩ := (hrow.below HB.out).nine hx
      have i0 : (0 : Int) ≤ (k : Int) := by omega
      have i1 : (k : Int) < (n : Int) := by omega
      have hfx := HFt.out x (List.mem_of_getElem? hx)
      have hB1 : Below w.heap.size w (wr.alloc (.cells (nineC x.1 x.2.1 x.2.2) 51)) := below_next HB.out (below_lex _ _)
      obtain ⟨m, hm⟩ := (HE.out.below hB1).len
      have HM := Lib.hid (mayAdd_vast x.1 x.2.1 x.2.2 hfx.1 hfx.2.1 hfx.2.2 m _ hm)
      have HB1 := Lib.hid hB1
      have HX := Lib.hid hx
      clear hrow hfx hB1 hm hx
      cases hadd : addT x with
      | false =>
        have HRx : Hid (R = (⟨#[]⟩, 2)) := Lib.hid (by
          rw [HR.out]
          unfold textR
          rw [if_neg]
          intro h
          rw [List.all_eq_true] at h
          have := h x (List.mem_of_getElem? HX.out)
          rw [hadd] at this
          cases this)
        rw [show addD x.1 x.2.1 x.2.2 = false from hadd] at HM
        clear hadd
        go_wp2_with (go_at_call 39; refine HM.out.mono ?_; rintro e y ⟨rfl, hY⟩)
        go_ret2
        rw [HRx.out]
        exact ⟨rfl, HB1.out.trans (hY.mono HB1.out.size)⟩
      | true =>
        rw [show addD x.1 x.2.1 x.2.2 = true from hadd] at HM
        have HAl2 : Hid ((ts.take (k + 1)).all addT = true) := Lib.hid (by rw [take_snoc HX.out, List.all_append, HAl.out]; simp [hadd])
        clear hadd
        go_wp2_with (go_at_call 39; refine HM.out.mono ?_; rintro e y ⟨rfl, hY⟩)
        go_roundg (n - (k + 1))
        case measure => omega
        case rel => exact ⟨k + 1, by omega, Nat.le_refl _, by go_num, HAl2.out, HB1.out.trans (hY.mono HB1.out.size)⟩
    · obtain rfl : k = n := by omega
      have d1 : decide ((k : Int) < (k : Int)) = false := by simp
      have HAll : Hid (ts.all addT = true) := Lib.hid (by have := HAl.out; rwa [HN.out, List.take_length] at this)
      clear HAl
      have hB0 := below_lex wr (.cells #[.pointer none, .slice none 0 0] 86)
      have hb0 : Bld wr.heap.size wr.heap.size [] (wr.alloc (.cells #[.pointer none, .slice none 0 0] 86)) :=
        .inl ⟨Nat.le_refl _, .slice none 0 0, World.alloc_heap_new wr (.cells #[.pointer none, .slice none 0 0] 86), World.ownsRowF_nil _ _ _ _, by simp [Value.ownBlock]⟩
      have hs0 : wr.heap.size < (wr.alloc (.cells #[.pointer none, .slice none 0 0] 86)).heap.size := by simp
      have hwb : w.heap.size ≤ wr.heap.size := HB.out.size
      obtain ⟨W0, hW0⟩ : ∃ W0, W0 = wr.alloc (.cells #[.pointer none, .slice none 0 0] 86) := ⟨_, rfl⟩
      rw [← hW0] at hB0 hb0 hs0
      have HW0 := Lib.hid hW0
      have HB0 := Lib.hid (HB.out.trans (hB0.mono hwb))
      have Hb0 := Lib.hid hb0
      clear hW0 hB0 hb0 HB
      go_upto_region 8 with fail
      rw [← HW0.out]
      generalize wr.heap.size = bp at *
      clear HW0
      go_wp2_with fail
      go_loopg [23] k (fun gg i wq => ∃ j : Nat, j ≤ k ∧ k - j ≤ gg ∧ i = .int .i64 j ∧ Below w.heap.size w wq ∧ bp < wq.heap.size ∧ Bld bp bp (Lib.byteCells (u8s (textsL (ts.take j)))) wq ∧ (textsL (ts.take j)).length ≤ 1048576)
      case atStart => exact ⟨0, Nat.zero_le _, by omega, rfl, HB0.out, hs0, Hb0.out, by simp [textsL]⟩
      case round =>
        obtain ⟨j, hj, hgg2, rfl, hBq, hsq, hbq, hlq⟩ := hrel
        have HBq := Lib.hid hBq
        have Hbq := Lib.hid hbq
        clear hBq hbq HB0 Hb0 hs0
        by_cases hlt : j < k
        · have d2 : decide ((j : Int) < (k : Int)) = true := by simpa using hlt
          obtain ⟨x, hx⟩ : ∃ x, ts[j]? = some x := ⟨_, List.getElem?_eq_getElem (by have := HN.out; omega)⟩
          obtain ⟨b, off, rfl, hrow⟩ := HP.out j hlt
          obtain ⟨c0, c1, c2, c3, c4, c5, c6, c7, c8⟩ := (hrow.below HBq.out).nine hx
          have i0 : (0 : Int) ≤ (j : Int) := by omega
          have i1 : (j : Int) < (k : Int) := by omega
          have hadd : addT x = true := List.all_eq_true.1 HAll.out x (List.mem_of_getElem? hx)
          have hfx := add_fits hadd
          have hmay := add_may hadd
          have hln := line_len hadd
          have hl1 : (lineT x).length = (tripleL x.1 x.2.1 x.2.2).length + 1 := by unfold lineT; simp
          have hnx : textsL (ts.take (j + 1)) = textsL (ts.take j) ++ lineT x := by rw [take_snoc hx, textsL_snoc]
          have hBx := below_lex wr (.cells (nineC x.1 x.2.1 x.2.2) 51)
          have hB1 : Below w.heap.size w (wr.alloc (.cells (nineC x.1 x.2.1 x.2.2) 51)) := below_next HBq.out hBx
          have hb1 := bld_below Hbq.out hBx
          have hs1 : bp < (wr.alloc (.cells (nineC x.1 x.2.1 x.2.2) 51)).heap.size := by simp; omega
          obtain ⟨m, hm⟩ := (HE.out.below hB1).len
          have hTT := tripleText_any x.1 x.2.1 x.2.2 hfx.1 hfx.2.1 hfx.2.2 m _ hm
          rw [hmay] at hTT
          simp only [if_true] at hTT
          have HTT := Lib.hid hTT
          have HB1 := Lib.hid hB1
          have Hb1 := Lib.hid hb1
          have HX := Lib.hid hx
          have HNx := Lib.hid hnx
          have HCu := Lib.hid (cells_u8s (tripleL x.1 x.2.1 x.2.2))
          have HSu := Lib.hid (strOfNums_size (tripleL x.1 x.2.1 x.2.2))
          have HLx : Hid (lineT x = tripleL x.1 x.2.1 x.2.2 ++ [10]) := Lib.hid rfl
          clear hrow hfx hB1 hm hx hTT hb1 hBx hmay hadd hnx
          generalize tripleL x.1 x.2.1 x.2.2 = TL at *
          have hsz : (strOfNums TL).size ≤ 100000 := by have := HSu.out; omega
          have hbl : (Lib.byteCells (u8s (textsL (ts.take j)))).length ≤ 1048576 := by rw [Lib.byteCells_length]; unfold u8s; rw [List.length_map]; exact hlq
          have hbl1 : (Lib.byteCells (u8s (textsL (ts.take j) ++ TL))).length ≤ 1200000 := by rw [Lib.byteCells_length]; unfold u8s; rw [List.length_map, List.length_append]; omega
          go_upto_region 12 with (go_at_call 40; refine HTT.out.mono ?_; rintro e y ⟨rfl, hY⟩)
          have HBy := Lib.hid (HB1.out.trans (hY.mono HB1.out.size))
          have Hby := Lib.hid (bld_below Hb1.out hY)
          have hsy : bp < y.heap.size := by have := hY.size; omega
          clear hY HTT HB1 Hb1 c0 c1 c2 c3 c4 c5 c6 c7 c8
          go_upto_region 15 with (go_at_call 41; refine (writeString_any bp bp _ _ _ Hby.out (by omega) (Nat.le_of_lt hsy)).mono ?_; rintro e y1 ⟨rfl, hb2, hw2⟩)
          have Hb2 : Hid (Bld bp bp (Lib.byteCells (u8s (textsL (ts.take j) ++ TL))) y1) := Lib.hid (.inr (by rw [HCu.out] at hb2; rw [u8s_append, Lib.byteCells_append]; exact hb2))
          have HB2 := Lib.hid (HBy.out.trans (hw2.1.mono hwb))
          have hs2 : bp < y1.heap.size := Nat.lt_of_lt_of_le hsy hw2.1.size
          clear hb2 hw2 Hby HBy
          go_upto_region 16 with (go_at_call 42; refine (writeByte_any bp bp _ 10 _ Hb2.out (by omega) (Nat.le_of_lt hs2)).mono ?_; rintro e y2 ⟨rfl, hb3, hw3⟩)
          have Hb3 : Hid (Bld bp bp (Lib.byteCells (u8s (textsL (ts.take (j + 1))))) y2) := Lib.hid (.inr (by rw [HNx.out, HLx.out, ← List.append_assoc, u8s_append, Lib.byteCells_append]; exact hb3))
          have HB3 := Lib.hid (HB2.out.trans (hw3.1.mono hwb))
          have hs3 : bp < y2.heap.size := Nat.lt_of_lt_of_le hs2 hw3.1.size
          have hlen3 : (Lib.byteCells (u8s (textsL (ts.take (j + 1))))).length = (textsL (ts.take (j + 1))).length := by rw [Lib.byteCells_length]; unfold u8s; rw [List.length_map]
          have HLn := Lib.hid (Tryz.Builder_Len_f bp bp _ y2 Hb3.out)
          rw [hlen3] at HLn
          clear hb3 hw3 Hb2 HB2 hlen3
          by_cases hlong : 1048576 < (textsL (ts.take (j + 1))).length
          · have d3 : decide ((1048576 : Int) < ((textsL (ts.take (j + 1))).length : Int)) = true := by simp; omega
            have HRx : Hid (R = (⟨#[]⟩, 3)) := Lib.hid (by
              rw [HR.out]
              unfold textR
              rw [if_pos HAll.out, if_pos]
              have e : textsL ts = textsL (ts.take (j + 1)) ++ textsL (ts.drop (j + 1)) := by
                unfold textsL
                rw [← List.flatMap_append, List.take_append_drop]
              rw [e, List.length_append]
              omega)
            generalize (textsL (ts.take (j + 1))).length = LN at *
            go_wp2_with (go_at_call 43; refine HLn.out.mono ?_; rintro e y3 ⟨rfl, rfl⟩)
            go_ret2
            rw [HRx.out]
            exact ⟨rfl, HB3.out⟩
          · have d3 : decide ((1048576 : Int) < ((textsL (ts.take (j + 1))).length : Int)) = false := by simp; omega
            have hle : (textsL (ts.take (j + 1))).length ≤ 1048576 := by omega
            have HLe := Lib.hid hle
            clear hle hlong
            obtain ⟨LN, hLN⟩ : ∃ LN, LN = (textsL (ts.take (j + 1))).length := ⟨_, rfl⟩
            rw [← hLN] at HLn d3
            clear hLN
            go_wp2_with (go_at_call 43; refine HLn.out.mono ?_; rintro e y3 ⟨rfl, rfl⟩)
            go_roundg (k - (j + 1))
            case measure => omega
            case rel => exact ⟨j + 1, by omega, Nat.le_refl _, by go_num, HB3.out, hs3, Hb3.out, HLe.out⟩
        · obtain rfl : j = k := by omega
          have d2 : decide ((j : Int) < (j : Int)) = false := by simp
          have et : ts.take j = ts := by rw [HN.out, List.take_length]
          rw [et] at Hbq hlq
          have HRx : Hid (R = (strOfNums (textsL ts), 0)) := Lib.hid (by
            rw [HR.out]
            unfold textR
            rw [if_pos HAll.out, if_neg (by omega)])
          clear et
          go_wp2_with (go_at_call 44; refine (Tryz.Builder_String_any_k bp bp _ _ Hbq.out (Nat.le_of_lt hsq)).mono ?_; rintro e y ⟨rfl, _, hB4, _⟩)
          go_ret2
          rw [HRx.out]
          exact ⟨rfl, HBq.out.trans (hB4.mono hwb)⟩
end Go.Proofs.YtfldpfomecjdkaaGreatDoor
/-
  PLAIN MATHEMATICS: the text of triples is a document of them.
-/

namespace Go.Proofs.YtfldpfomecjdkaaGreatDoor
open Go.RowKit
open Utf Term Lex
set_option linter.unusedVariables false

/-- A symbol that goes with no string in front of it. -/
def NoTail (y : Sym) : Prop := y.kind ≠ 4 ∧ ¬ (y.kind = 8 ∧ y.text = typeMarkL)
def HeadOK (R : List Sym) : Prop := ∀ y r, R = y :: r → NoTail y
theorem try_one {L : List Sym} {x : Sym} {R : List Sym} (h : L = x :: R) : tryS noP L 1 = (wholeS noP [x]).map (fun t => (t, 1)) := by
  subst h
  unfold tryS
  rw [if_pos (by simp)]
  rfl
theorem read_1 {x : Sym} {R : List Sym} {t : TermD} (hx : x.kind ≠ 3) (h : namedS noP x = some t) : readS noP (x :: R) = some (t, 1) := by
  have h3 : tryS noP (x :: R) 3 = none := by
    unfold tryS
    match R with
    | [] => rw [if_neg (by simp)]
    | [y] => rw [if_neg (by simp)]
    | y :: z :: r =>
      rw [if_pos (by simp)]
      show (wholeS noP [x, y, z]).map _ = none
      rw [wholeS, if_neg (fun h => hx h.1)]
      rfl
  have h2 : tryS noP (x :: R) 2 = none := by
    unfold tryS
    match R with
    | [] => rw [if_neg (by simp)]
    | y :: r =>
      rw [if_pos (by simp)]
      show (wholeS noP [x, y]).map _ = none
      rw [wholeS, if_neg (fun h => hx h.1)]
      rfl
  unfold readS
  rw [h3, h2]
  simp only
  rw [try_one rfl, wholeS, if_neg hx, h]
  rfl
theorem read_1s {x : Sym} {R : List Sym} {t : TermD} (hx : x.kind = 3) (hR : HeadOK R) (h : okT (3, S x.text, noneB) = some t) : readS noP (x :: R) = some (t, 1) := by
  have h3 : tryS noP (x :: R) 3 = none := by
    unfold tryS
    match R, hR with
    | [], _ => rw [if_neg (by simp)]
    | [y], _ => rw [if_neg (by simp)]
    | y :: z :: r, hR =>
      rw [if_pos (by simp)]
      show (wholeS noP [x, y, z]).map _ = none
      rw [wholeS, if_neg (fun h => (hR y _ rfl).2 h.2)]
      rfl
  have h2 : tryS noP (x :: R) 2 = none := by
    unfold tryS
    match R, hR with
    | [], _ => rw [if_neg (by simp)]
    | y :: r, hR =>
      rw [if_pos (by simp)]
      show (wholeS noP [x, y]).map _ = none
      rw [wholeS, if_neg (fun h => (hR y _ rfl).1 h.2)]
      rfl
  unfold readS
  rw [h3, h2]
  simp only
  rw [try_one rfl, wholeS, if_pos hx, h]
  rfl
theorem read_2 {x y : Sym} {R : List Sym} {t : TermD} (hx : x.kind = 3) (hy : y.kind = 4) (h : okT (4, S x.text, S y.text) = some t) : readS noP (x :: y :: R) = some (t, 2) := by
  have h3 : tryS noP (x :: y :: R) 3 = none := by
    unfold tryS
    match R with
    | [] => rw [if_neg (by simp)]
    | z :: r =>
      rw [if_pos (by simp)]
      show (wholeS noP [x, y, z]).map _ = none
      rw [wholeS, if_neg (fun h => by have := h.2.1; omega)]
      rfl
  have h2 : tryS noP (x :: y :: R) 2 = some (t, 2) := by
    unfold tryS
    rw [if_pos (by simp)]
    show (wholeS noP [x, y]).map _ = _
    rw [wholeS, if_pos ⟨hx, hy⟩, h]
    rfl
  unfold readS
  rw [h3, h2]
theorem read_3 {x y z : Sym} {R : List Sym} {t : TermD} (h : wholeS noP [x, y, z] = some t) : readS noP (x :: y :: z :: R) = some (t, 3) := by
  have h3 : tryS noP (x :: y :: z :: R) 3 = some (t, 3) := by
    unfold tryS
    rw [if_pos (by simp)]
    show (wholeS noP [x, y, z]).map _ = _
    rw [h]
    rfl
  unfold readS
  rw [h3]

theorem S_bsB (s : ByteArray) : S (bs s) = s := str_of rfl
theorem okT_may {t : TermD} (h : mayD t = true) : okT t = some t := by unfold okT; rw [if_pos h]

/-- A term's own symbols are read as it. -/
theorem read_term {a : TermD} (h : mayD a = true) (p : Nat) {R : List Sym} (hR : HeadOK R) : readS noP ((symsOf a.1 (bs a.2.1) (bs a.2.2)).map (shiftS p) ++ R) = some (a, (symsOf a.1 (bs a.2.1) (bs a.2.2)).length) := by
  obtain ⟨k, t, x⟩ := a
  have hm : mayS k t x = true := h
  have e0 : ∀ k' : Int, (k' = 1 ∨ k' = 2 ∨ k' = 3) → k = k' → x = noneB := fun k' hk' e => by
    have h := hm
    subst e
    unfold mayS at h
    rcases hk' with rfl | rfl | rfl
    · rw [if_pos rfl, Bool.and_eq_true] at h
      exact empty_of x (by have := h.1; unfold noExtra at this; simpa using this)
    · rw [if_neg (by decide), if_pos rfl, Bool.and_eq_true] at h
      exact empty_of x (by have := h.1; unfold noExtra at this; simpa using this)
    · rw [if_neg (by decide), if_neg (by decide), if_pos rfl, Bool.and_eq_true] at h
      exact empty_of x (by have := h.1; unfold noExtra at this; simpa using this)
  show readS noP ((symsOf k (bs t) (bs x)).map (shiftS p) ++ R) = some ((k, t, x), (symsOf k (bs t) (bs x)).length)
  by_cases h1 : k = 1
  · obtain rfl := e0 1 (.inl rfl) h1
    subst h1
    rw [show symsOf 1 (bs t) (bs noneB) = [⟨1, [], 1, bs t, [], 0⟩] from rfl]
    refine read_1 (by show (1 : Nat) ≠ 3; decide) ?_
    show some ((1 : Int), S (bs t), noneB) = _
    rw [S_bsB]
  by_cases h2 : k = 2
  · obtain rfl := e0 2 (.inr (.inl rfl)) h2
    subst h2
    rw [show symsOf 2 (bs t) (bs noneB) = [⟨2, [], 2, bs t, [], 0⟩] from rfl]
    refine read_1 (by show (2 : Nat) ≠ 3; decide) ?_
    show some ((2 : Int), S (bs t), noneB) = _
    rw [S_bsB]
  by_cases h3 : k = 3
  · obtain rfl := e0 3 (.inr (.inr rfl)) h3
    subst h3
    rw [show symsOf 3 (bs t) (bs noneB) = [⟨3, bs t, 0, [], [], 0⟩] from rfl]
    refine read_1s rfl hR ?_
    show okT (3, S (bs t), noneB) = _
    rw [S_bsB]
    exact okT_may h
  by_cases h4 : k = 4
  · subst h4
    rw [show symsOf 4 (bs t) (bs x) = [⟨3, bs t, 0, [], [], 0⟩, ⟨4, bs x, 0, [], [], (quoteL (bs t)).length⟩] from rfl]
    refine read_2 rfl rfl ?_
    show okT (4, S (bs t), S (bs x)) = _
    rw [S_bsB, S_bsB]
    exact okT_may h
  by_cases h5 : k = 5
  · subst h5
    rw [show symsOf 5 (bs t) (bs x) = [⟨3, bs t, 0, [], [], 0⟩, ⟨8, [94, 94], 0, [], [], (quoteL (bs t)).length⟩, ⟨1, [], 1, bs x, [], (quoteL (bs t)).length + 2⟩] from rfl]
    refine read_3 ?_
    rw [wholeS]
    show (if _ then typedR (S (bs t)) (some ((1 : Int), S (bs x), noneB)) else none) = _
    rw [if_pos ⟨rfl, rfl, rfl⟩, S_bsB, S_bsB]
    have hne : x ≠ xsdS := by
      have := (type_not_xsd t x hm).1
      rw [(xsd_neq x).1] at this
      simpa using this
    show (if (1 : Int) = 1 then (if x = xsdS then _ else okT (5, t, x)) else none) = _
    rw [if_pos rfl, if_neg hne]
    exact okT_may h
  · unfold mayS at hm
    rw [if_neg h1, if_neg h2, if_neg h3, if_neg h4, if_neg h5] at hm
    cases hm

/-- The symbols of a term's text, whatever comes behind a space. -/
theorem span_stop {q : Int → Bool} {l : List Int} (h : ∀ c ∈ l, q c = true) (c : Int) (hc : q c = false) (r : List Int) : spanL q (l ++ c :: r) = l.length := by
  unfold spanL
  induction l with
  | nil => rw [List.nil_append, List.takeWhile_cons, if_neg (by rw [hc]; decide)]
  | cons d l ih => rw [List.cons_append, List.takeWhile_cons, if_pos (h d (by simp)), List.length_cons, List.length_cons, ih (fun e he => h e (List.mem_cons_of_mem _ he))]
theorem one_blank_r {l : List Int} (h : isBlankB l = true) (r : List Int) : one (95 :: 58 :: (l ++ 32 :: r)) = .got ⟨2, [], 2, l, [], 0⟩ (l.length + 2) := by
  have hq : blankT (95 :: 58 :: (l ++ 32 :: r)) = .got ⟨2, [], 2, l, [], 0⟩ (l.length + 2) := by
    unfold blankT
    have e : (95 :: 58 :: (l ++ 32 :: r)).drop 2 = l ++ 32 :: r := rfl
    rw [if_pos (by simp [List.isPrefixOf]), e, span_stop (blank_chars h) 32 (by decide), List.take_left, if_pos h]
    congr 1
    omega
  unfold one takers
  rw [hq]
  have h1 : markT (95 :: 58 :: (l ++ 32 :: r)) = .no := by unfold markT markL; simp [List.isPrefixOf]
  have h2 : spanL letterDigit (95 :: 58 :: (l ++ 32 :: r)) = 0 := by unfold spanL; rw [List.takeWhile_cons, if_neg (by decide)]; rfl
  have h3 : nameT (95 :: 58 :: (l ++ 32 :: r)) = .no := by unfold nameT; rw [h2, List.drop_zero, if_neg (by unfold colonB; simp [List.isPrefixOf])]
  have h4 : wordT (95 :: 58 :: (l ++ 32 :: r)) = .no := by unfold wordT; rw [h2, if_pos rfl]
  have h5 : varT (95 :: 58 :: (l ++ 32 :: r)) = .no := by unfold varT; rw [if_neg (by simp [List.isPrefixOf])]
  have h6 : quotedT (95 :: 58 :: (l ++ 32 :: r)) = .no := by unfold quotedT; rw [if_neg (by simp [List.isPrefixOf])]
  have h7 : iriT (95 :: 58 :: (l ++ 32 :: r)) = .no := by unfold iriT; rw [if_neg (by simp [List.isPrefixOf])]
  rw [h1, h3, h4, h5, h6, h7]
  rfl
theorem one_lang_r {l : List Int} (h : tagL l = true) (r : List Int) : one (64 :: (l ++ 32 :: r)) = .got (symT 4 l) (l.length + 1) := by
  have hq : langT (64 :: (l ++ 32 :: r)) = .got (symT 4 l) (l.length + 1) := by
    unfold langT
    have e : (64 :: (l ++ 32 :: r)).drop 1 = l ++ 32 :: r := rfl
    rw [if_pos (by simp [List.isPrefixOf]), e, span_stop (tag_chars h) 32 (by decide), List.take_left, if_pos h]
    congr 1
    omega
  unfold one takers
  rw [hq]
  have h1 : markT (64 :: (l ++ 32 :: r)) = .no := by unfold markT markL; simp [List.isPrefixOf]
  have h2 : spanL letterDigit (64 :: (l ++ 32 :: r)) = 0 := by unfold spanL; rw [List.takeWhile_cons, if_neg (by decide)]; rfl
  have h3 : nameT (64 :: (l ++ 32 :: r)) = .no := by unfold nameT; rw [h2, List.drop_zero, if_neg (by unfold colonB; simp [List.isPrefixOf])]
  have h4 : wordT (64 :: (l ++ 32 :: r)) = .no := by unfold wordT; rw [h2, if_pos rfl]
  have h5 : varT (64 :: (l ++ 32 :: r)) = .no := by unfold varT; rw [if_neg (by simp [List.isPrefixOf])]
  have h6 : quotedT (64 :: (l ++ 32 :: r)) = .no := by unfold quotedT; rw [if_neg (by simp [List.isPrefixOf])]
  have h7 : iriT (64 :: (l ++ 32 :: r)) = .no := by unfold iriT; rw [if_neg (by simp [List.isPrefixOf])]
  have h8 : blankT (64 :: (l ++ 32 :: r)) = .no := by unfold blankT; rw [if_neg (by simp [List.isPrefixOf])]
  rw [h1, h3, h4, h5, h6, h7, h8]
  rfl

theorem toks_ws {c : Int} (hc : isWS c = true) (r : List Int) (p : Nat) : toks (c :: r) p = toks r (p + 1) := by
  have e1 : sk false (c :: r) = 1 + sk false r := by rw [skF, if_pos hc]
  have e2 : (c :: r).drop (1 + sk false r) = r.drop (sk false r) := by rw [Nat.add_comm, List.drop_succ_cons]
  rw [toks_eq (c :: r), toks_eq r, e1, e2]
  have e3 : p + (1 + sk false r) = p + 1 + sk false r := by omega
  rw [e3]
  split
  · rfl
  · cases ho : one (r.drop (sk false r)) with
    | no => rfl
    | bad => rfl
    | got x m =>
      simp only
      have e4 : (c :: r).drop (1 + sk false r + m) = r.drop (sk false r + m) := by rw [show 1 + sk false r + m = (sk false r + m) + 1 by omega, List.drop_succ_cons]
      rw [e4]

/-- Where the symbols of a term lie. -/
theorem toks_term {k : Int} {t x : ByteArray} (h : mayS k t x = true) (r : List Int) (p : Nat) :
    toks (textL k t x ++ 32 :: r) p = ((symsOf k (bs t) (bs x)).map (shiftS p) ++ (toks r (p + (textL k t x).length + 1)).1, (toks r (p + (textL k t x).length + 1)).2) := by
  have hb := bs_byte t
  unfold mayS at h
  have hws : ∀ (n : Nat), toks (32 :: r) n = toks r (n + 1) := fun n => toks_ws (by decide) r n
  by_cases h1 : k = 1
  · subst h1
    rw [if_pos rfl, Bool.and_eq_true] at h
    rw [show textL 1 t x = 60 :: (bs t ++ [62]) from rfl, show symsOf 1 (bs t) (bs x) = [⟨1, [], 1, bs t, [], 0⟩] from rfl]
    have e : 60 :: (bs t ++ [62]) ++ 32 :: r = 60 :: (bs t ++ 62 :: (32 :: r)) := by simp
    have ed : (60 :: (bs t ++ 62 :: (32 :: r))).drop ((bs t).length + 2) = 32 :: r := by
      rw [show (60 :: (bs t ++ 62 :: (32 :: r)) : List Int) = (60 :: (bs t ++ [62])) ++ 32 :: r by simp, show (bs t).length + 2 = (60 :: (bs t ++ [62]) : List Int).length by simp, List.drop_left]
    rw [e, toks_one (by rw [skF, if_neg (by decide), if_neg (by decide)]) (by simp) (one_iri h.2 (32 :: r)), ed, hws]
    simp [shiftS, Nat.add_assoc]
  rw [if_neg h1] at h
  by_cases h2 : k = 2
  · subst h2
    rw [if_pos rfl, Bool.and_eq_true] at h
    rw [show textL 2 t x = 95 :: 58 :: bs t from rfl, show symsOf 2 (bs t) (bs x) = [⟨2, [], 2, bs t, [], 0⟩] from rfl]
    have e : 95 :: 58 :: bs t ++ 32 :: r = 95 :: 58 :: (bs t ++ 32 :: r) := by simp
    have ed : (95 :: 58 :: (bs t ++ 32 :: r)).drop ((bs t).length + 2) = 32 :: r := by
      rw [List.drop_succ_cons, List.drop_succ_cons, List.drop_left]
    rw [e, toks_one (by rw [skF, if_neg (by decide), if_neg (by decide)]) (by simp) (one_blank_r h.2 r), ed, hws]
    simp [shiftS, Nat.add_assoc]
  rw [if_neg h2] at h
  by_cases h3 : k = 3
  · subst h3
    rw [show textL 3 t x = quoteL (bs t) from rfl, show symsOf 3 (bs t) (bs x) = [⟨3, bs t, 0, [], [], 0⟩] from rfl]
    rw [toks_one (sk_quote _ _) (quote_ne _ _) (one_quote (r := 32 :: r) hb), List.drop_left, hws]
    simp [symT, shiftS, Nat.add_assoc]
  rw [if_neg h3] at h
  by_cases h4 : k = 4
  · subst h4
    rw [if_pos rfl, Bool.and_eq_true] at h
    rw [show textL 4 t x = quoteL (bs t) ++ 64 :: bs x from rfl, show symsOf 4 (bs t) (bs x) = [⟨3, bs t, 0, [], [], 0⟩, ⟨4, bs x, 0, [], [], (quoteL (bs t)).length⟩] from rfl]
    have htag : tagL (bs x) = true := by rw [← tagS_any]; exact h.1
    have e : quoteL (bs t) ++ 64 :: bs x ++ 32 :: r = quoteL (bs t) ++ (64 :: (bs x ++ 32 :: r)) := by simp
    have ed : (64 :: (bs x ++ 32 :: r)).drop ((bs x).length + 1) = 32 :: r := by rw [List.drop_succ_cons, List.drop_left]
    rw [e, toks_one (sk_quote _ _) (quote_ne _ _) (one_quote hb), List.drop_left, toks_one (by rw [skF, if_neg (by decide), if_neg (by decide)]) (by simp) (one_lang_r htag r), ed, hws]
    simp [symT, shiftS, Nat.add_assoc, Nat.add_comm]
  rw [if_neg h4] at h
  by_cases h5 : k = 5
  · subst h5
    rw [if_pos rfl, Bool.and_eq_true] at h
    rw [show textL 5 t x = quoteL (bs t) ++ 94 :: 94 :: 60 :: (bs x ++ [62]) from rfl, show symsOf 5 (bs t) (bs x) = [⟨3, bs t, 0, [], [], 0⟩, ⟨8, [94, 94], 0, [], [], (quoteL (bs t)).length⟩, ⟨1, [], 1, bs x, [], (quoteL (bs t)).length + 2⟩] from rfl]
    have hi : isIRIB (bs x) = true := by have := h.1; unfold isTypeB at this; rw [Bool.and_eq_true] at this; exact this.2
    have e : quoteL (bs t) ++ 94 :: 94 :: 60 :: (bs x ++ [62]) ++ 32 :: r = quoteL (bs t) ++ (94 :: 94 :: (60 :: (bs x ++ 62 :: (32 :: r)))) := by simp
    have e1 : (94 :: 94 :: (60 :: (bs x ++ 62 :: (32 :: r)))).drop 2 = 60 :: (bs x ++ 62 :: (32 :: r)) := rfl
    have ed : (60 :: (bs x ++ 62 :: (32 :: r))).drop ((bs x).length + 2) = 32 :: r := by
      rw [show (60 :: (bs x ++ 62 :: (32 :: r)) : List Int) = (60 :: (bs x ++ [62])) ++ 32 :: r by simp, show (bs x).length + 2 = (60 :: (bs x ++ [62]) : List Int).length by simp, List.drop_left]
    rw [e, toks_one (sk_quote _ _) (quote_ne _ _) (one_quote hb), List.drop_left, toks_one (by rw [skF, if_neg (by decide), if_neg (by decide)]) (by simp) (one_mark _), e1, toks_one (by rw [skF, if_neg (by decide), if_neg (by decide)]) (by simp) (one_iri hi (32 :: r)), ed, hws]
    have e9 : p + (quoteL (bs t)).length + 2 + ((bs x).length + 2) + 1 = p + ((quoteL (bs t)).length + ((bs x).length + 1 + 1 + 1 + 1)) + 1 := by omega
    have e8 : (quoteL (bs t) ++ 94 :: 94 :: 60 :: (bs x ++ [62])).length = (quoteL (bs t)).length + ((bs x).length + 1 + 1 + 1 + 1) := by simp
    rw [e8, e9]
    simp [symT, shiftS, Nat.add_comm, Nat.add_left_comm]
  · rw [if_neg h5] at h
    cases h
end Go.Proofs.YtfldpfomecjdkaaGreatDoor
/-
  THE CONTRACT OF THE REFERENCE's Text.
-/

namespace Go.Proofs.YtfldpfomecjdkaaGreatDoor
open Go.RowKit
open Utf Term Lex
set_option linter.unusedVariables false
set_option linter.unusedSimpArgs false

def ShortT (t : TripD) : Prop := Short t.1 ∧ Short t.2.1 ∧ Short t.2.2
theorem cells_nums {l : List Int} (h : AllB l) : Lib.strCells (strOfNums l) = l.map (Value.int .u8) := by
  rw [cells_u8s]
  unfold Lib.byteCells u8s
  rw [List.map_map]
  apply List.map_congr_left
  intro c hc
  obtain ⟨h0, h1⟩ := h c hc
  simp only [Function.comp]
  congr 1
  rw [UInt8.toNat_ofNat']
  omega
theorem triple_byte (a b c : TermD) : AllB (tripleL a b c) := by
  have e : tripleL a b c = textL a.1 a.2.1 a.2.2 ++ 32 :: (textL b.1 b.2.1 b.2.2 ++ 32 :: (textL c.1 c.2.1 c.2.2 ++ [32, 46])) := rfl
  rw [e]
  exact (textL_byte _ _ _).app (.cons (by decide) ((textL_byte _ _ _).app (.cons (by decide) ((textL_byte _ _ _).app (.cons (by decide) (.cons (by decide) .nil))))))
theorem texts_len {ts : List TripD} (h : ts.all addT = true) : (textsL ts).length ≤ 100000 * ts.length := by
  induction ts with
  | nil => simp [textsL]
  | cons t ts ih =>
    rw [List.all_cons, Bool.and_eq_true] at h
    have := ih h.2
    have := line_len h.1
    have e : textsL (t :: ts) = lineT t ++ textsL ts := rfl
    rw [e, List.length_append, List.length_cons]
    omega

end Go.Proofs.YtfldpfomecjdkaaGreatDoor
/-
  PLAIN MATHEMATICS: the text of triples is a document of them; two documents behind each other are one.
-/

namespace Go.Proofs.YtfldpfomecjdkaaGreatDoor
open Go.RowKit
open Utf Term Lex
set_option linter.unusedVariables false

def symsD (a : TermD) (p : Nat) : List Sym := (symsOf a.1 (bs a.2.1) (bs a.2.2)).map (shiftS p)
def lenD (a : TermD) : Nat := (textL a.1 a.2.1 a.2.2).length
def endSym (p : Nat) : Sym := { symT 8 [46] with place := p }
/-- The symbols of a line that begins at p. -/
def lineSyms (t : TripD) (p : Nat) : List Sym :=
  symsD t.1 p ++ (symsD t.2.1 (p + lenD t.1 + 1) ++ (symsD t.2.2 (p + lenD t.1 + 1 + lenD t.2.1 + 1) ++ [endSym (p + lenD t.1 + 1 + lenD t.2.1 + 1 + lenD t.2.2 + 1)]))
theorem one_end (r : List Int) : one (46 :: r) = .got (symT 8 [46]) 1 := by
  unfold one takers
  have h1 : markT (46 :: r) = .got (symT 8 [46]) 1 := by unfold markT markL; simp [List.isPrefixOf]
  rw [h1]
  rfl
theorem toks_end (r : List Int) (p : Nat) : toks (46 :: r) p = (endSym p :: (toks r (p + 1)).1, (toks r (p + 1)).2) := by
  rw [toks_one (by rw [skF, if_neg (by decide), if_neg (by decide)]) (by simp) (one_end r)]
  rfl
theorem lineT_len (t : TripD) : (lineT t).length = lenD t.1 + 1 + lenD t.2.1 + 1 + lenD t.2.2 + 1 + 1 + 1 := by
  have e : lineT t = textL t.1.1 t.1.2.1 t.1.2.2 ++ 32 :: (textL t.2.1.1 t.2.1.2.1 t.2.1.2.2 ++ 32 :: (textL t.2.2.1 t.2.2.2.1 t.2.2.2.2 ++ [32, 46])) ++ [10] := rfl
  rw [e]
  unfold lenD
  simp only [List.length_append, List.length_cons, List.length_nil]
  omega
theorem add_mays {t : TripD} (h : addT t = true) : mayD t.1 = true ∧ mayD t.2.1 = true ∧ mayD t.2.2 = true := by
  have := add_may h
  simp only [Bool.and_eq_true] at this
  exact ⟨this.1.1, this.1.2, this.2⟩
/-- A line, but for its byte 10: its symbols, and what comes behind. -/
theorem toks_triple {t : TripD} (h : addT t = true) (r : List Int) (p : Nat) :
    toks (tripleL t.1 t.2.1 t.2.2 ++ r) p = (lineSyms t p ++ (toks r (p + lenD t.1 + 1 + lenD t.2.1 + 1 + lenD t.2.2 + 1 + 1)).1, (toks r (p + lenD t.1 + 1 + lenD t.2.1 + 1 + lenD t.2.2 + 1 + 1)).2) := by
  obtain ⟨h1, h2, h3⟩ := add_mays h
  have e : tripleL t.1 t.2.1 t.2.2 ++ r = textL t.1.1 t.1.2.1 t.1.2.2 ++ 32 :: (textL t.2.1.1 t.2.1.2.1 t.2.1.2.2 ++ 32 :: (textL t.2.2.1 t.2.2.2.1 t.2.2.2.2 ++ 32 :: (46 :: r))) := by
    show (textL t.1.1 t.1.2.1 t.1.2.2 ++ 32 :: (textL t.2.1.1 t.2.1.2.1 t.2.1.2.2 ++ 32 :: (textL t.2.2.1 t.2.2.2.1 t.2.2.2.2 ++ [32, 46]))) ++ r = _
    simp
  rw [e, toks_term h1, toks_term h2, toks_term h3, toks_end]
  unfold lineSyms symsD lenD
  simp
theorem toks_line {t : TripD} (h : addT t = true) (r : List Int) (p : Nat) :
    toks (lineT t ++ r) p = (lineSyms t p ++ (toks r (p + (lineT t).length)).1, (toks r (p + (lineT t).length)).2) := by
  have e : lineT t ++ r = tripleL t.1 t.2.1 t.2.2 ++ (10 :: r) := by unfold lineT; simp
  rw [e, toks_triple h, toks_ws (by decide), lineT_len]
  have e2 : p + lenD t.1 + 1 + lenD t.2.1 + 1 + lenD t.2.2 + 1 + 1 + 1 = p + (lenD t.1 + 1 + lenD t.2.1 + 1 + lenD t.2.2 + 1 + 1 + 1) := by omega
  rw [e2]

theorem headOK_syms {a : TermD} {p : Nat} {R : List Sym} : HeadOK (symsD a p ++ R) := by
  intro y r h
  unfold symsD symsOf at h
  split at h
  · cases h; exact ⟨by show (1 : Nat) ≠ 4; decide, fun h => absurd h.1 (by show (1 : Nat) ≠ 8; decide)⟩
  · split at h
    · cases h; exact ⟨by show (2 : Nat) ≠ 4; decide, fun h => absurd h.1 (by show (2 : Nat) ≠ 8; decide)⟩
    · split at h
      · cases h; exact ⟨by show (3 : Nat) ≠ 4; decide, fun h => absurd h.1 (by show (3 : Nat) ≠ 8; decide)⟩
      · split at h
        · cases h; exact ⟨by show (3 : Nat) ≠ 4; decide, fun h => absurd h.1 (by show (3 : Nat) ≠ 8; decide)⟩
        · cases h; exact ⟨by show (3 : Nat) ≠ 4; decide, fun h => absurd h.1 (by show (3 : Nat) ≠ 8; decide)⟩
theorem headOK_end {p : Nat} {R : List Sym} : HeadOK (endSym p :: R) := by
  intro y r h
  cases h
  exact ⟨by show (8 : Nat) ≠ 4; decide, fun h => absurd h.2 (by show ([46] : List Int) ≠ typeMarkL; decide)⟩
theorem read_syms {a : TermD} (h : mayD a = true) (p : Nat) {R : List Sym} (hR : HeadOK R) : readS noP (symsD a p ++ R) = some (a, (symsD a p).length) := by
  have := read_term h p hR
  unfold symsD
  rw [this, List.length_map]
theorem stm_line {t : TripD} (h : addT t = true) (p : Nat) (R : List Sym) : stmS (lineSyms t p ++ R) = .yes t R := by
  obtain ⟨h1, h2, h3⟩ := add_mays h
  have h3s : threeS 3 (lineSyms t p ++ R) = .yes [t.1, t.2.1, t.2.2] (endSym (p + lenD t.1 + 1 + lenD t.2.1 + 1 + lenD t.2.2 + 1) :: R) := by
    unfold lineSyms
    rw [List.append_assoc, threeS, read_syms h1 p (by rw [List.append_assoc]; exact headOK_syms)]
    simp only
    rw [List.drop_left, List.append_assoc, threeS, read_syms h2 _ (by rw [List.append_assoc]; exact headOK_syms)]
    simp only
    rw [List.drop_left, List.append_assoc, threeS, read_syms h3 _ (show HeadOK ([endSym (p + lenD t.1 + 1 + lenD t.2.1 + 1 + lenD t.2.2 + 1)] ++ R) from headOK_end)]
    simp only
    rw [List.drop_left, threeS]
    rfl
  unfold stmS
  rw [h3s]
  show (if addD t.1 t.2.1 t.2.2 = true then _ else _) = _
  rw [show addD t.1 t.2.1 t.2.2 = true from h, if_pos rfl, endS, if_pos (show isEnd (endSym _) = true from rfl)]
/-- All the lines' symbols. -/
theorem parse_lines : ∀ (ts : List TripD) (p : Nat) (r : List Int), ts.all addT = true → ∃ L, (toks (textsL ts ++ r) p) = (L ++ (toks r (p + (textsL ts).length)).1, (toks r (p + (textsL ts).length)).2) ∧ ∀ R, parseS (L ++ R) = (parseS R).put ts
  | [], p, r, _ => ⟨[], by simp [textsL], fun R => by rw [List.nil_append, Par.put_nil]⟩
  | t :: ts, p, r, h => by
    rw [List.all_cons, Bool.and_eq_true] at h
    obtain ⟨L, h1, h2⟩ := parse_lines ts (p + (lineT t).length) r h.2
    refine ⟨lineSyms t p ++ L, ?_, fun R => ?_⟩
    · have e : textsL (t :: ts) ++ r = lineT t ++ (textsL ts ++ r) := by
        show (lineT t ++ textsL ts) ++ r = _
        rw [List.append_assoc]
      have el : (textsL (t :: ts)).length = (lineT t).length + (textsL ts).length := by
        show (lineT t ++ textsL ts).length = _
        rw [List.length_append]
      rw [e, toks_line h.1, h1, el, Nat.add_assoc]
      simp only [List.append_assoc]
    · have hne : lineSyms t p ++ L ++ R ≠ [] := by unfold lineSyms; simp
      rw [parseS_cons _ hne, List.append_assoc, stm_line h.1]
      simp only
      rw [h2, Par.put_put]
      rfl

theorem lines_valid : ∀ (ts : List TripD), ts.all addT = true → (textsL ts).length ≤ 1048576 → valid (textsL ts) = true
  | [], _, _ => valid_ascii (by simp [textsL]) (by simp [textsL])
  | t :: ts, h, hl => by
    rw [List.all_cons, Bool.and_eq_true] at h
    obtain ⟨h1, h2, h3⟩ := add_mays h.1
    obtain ⟨v1, l1⟩ := text_valid (k := t.1.1) (t := t.1.2.1) (x := t.1.2.2) h1
    obtain ⟨v2, l2⟩ := text_valid (k := t.2.1.1) (t := t.2.1.2.1) (x := t.2.1.2.2) h2
    obtain ⟨v3, l3⟩ := text_valid (k := t.2.2.1) (t := t.2.2.2.1) (x := t.2.2.2.2) h3
    have e : textsL (t :: ts) = lineT t ++ textsL ts := rfl
    have hlen : (textsL ts).length ≤ 1048576 := by rw [e, List.length_append] at hl; omega
    have ih := lines_valid ts h.2 hlen
    have el : lineT t = textL t.1.1 t.1.2.1 t.1.2.2 ++ ([32] ++ (textL t.2.1.1 t.2.1.2.1 t.2.1.2.2 ++ ([32] ++ (textL t.2.2.1 t.2.2.2.1 t.2.2.2.2 ++ [32, 46, 10])))) := by
      show (textL t.1.1 t.1.2.1 t.1.2.2 ++ 32 :: (textL t.2.1.1 t.2.1.2.1 t.2.1.2.2 ++ 32 :: (textL t.2.2.1 t.2.2.2.1 t.2.2.2.2 ++ [32, 46]))) ++ [10] = _
      simp
    have vl : valid (lineT t) = true := by
      rw [el, valid_join (by omega) (by simp; omega) v1, valid_join (by simp) (by simp; omega) (valid_one 32 (by decide)), valid_join (by omega) (by simp; omega) v2, valid_join (by simp) (by simp; omega) (valid_one 32 (by decide)), valid_join (by omega) (by simp) v3]
      exact valid_ascii (by simp) (by simp)
    obtain ⟨ra, a1, a2⟩ := (valid_iff (by have := line_len h.1; omega)).1 vl
    obtain ⟨rb, b1, b2⟩ := (valid_iff (by omega)).1 ih
    refine (valid_iff (by omega)).2 ⟨ra ++ rb, a1.append b1, ?_⟩
    rw [e, encs_append, ← a2, ← b2]

theorem lines_byte (ts : List TripD) : AllB (textsL ts) := by
  intro c hc
  obtain ⟨t, _, ht⟩ := List.mem_flatMap.1 hc
  rcases List.mem_append.1 ht with h | h
  · exact triple_byte _ _ _ c h
  · rw [List.mem_singleton.1 h]; exact ⟨by decide, by decide⟩

/-- The text of triples is a document of them. -/
theorem doc_text {ts : List TripD} (h : ts.all addT = true) (hl : (textsL ts).length ≤ 1048576) : docS (strOfNums (textsL ts)) = .good ts := by
  have hb : bs (strOfNums (textsL ts)) = textsL ts := bs_strOfNums (lines_byte ts)
  have hz : (strOfNums (textsL ts)).size = (textsL ts).length := strOfNums_size _
  obtain ⟨L, h1, h2⟩ := parse_lines ts 0 [] h
  rw [List.append_nil, toks_nil] at h1
  have ha : allL (textsL ts) = (L, (textsL ts).length) := by
    unfold allL
    rw [h1]
    simp
  have hw := wf_of_valid (lines_valid ts h hl)
  unfold docS
  rw [hz, hb, if_neg (by omega), hw, if_neg (by omega), ha]
  simp only
  rw [if_neg (by omega)]
  have := h2 []
  rw [List.append_nil, parseS_nil] at this
  rw [this]
  simp [docOf, Par.put]
end Go.Proofs.YtfldpfomecjdkaaGreatDoor
/-
  PLAIN MATHEMATICS: two documents behind each other are one, of both.
-/

namespace Go.Proofs.YtfldpfomecjdkaaGreatDoor
open Go.RowKit
open Utf Term Lex
set_option linter.unusedVariables false

theorem read_head {y : Sym} {r : List Sym} {x : TermD × Nat} (h : readS noP (y :: r) = some x) : y.kind = 1 ∨ y.kind = 2 ∨ y.kind = 3 := by
  by_cases h3 : y.kind = 3
  · exact .inr (.inr h3)
  · have hn : namedS noP y ≠ none := by
      intro hn
      have e3 : tryS noP (y :: r) 3 = none := by
        unfold tryS
        match r with
        | [] => rw [if_neg (by simp)]
        | [a] => rw [if_neg (by simp)]
        | a :: b :: r =>
          rw [if_pos (by simp)]
          show (wholeS noP [y, a, b]).map _ = none
          rw [wholeS, if_neg (fun h => h3 h.1)]
          rfl
      have e2 : tryS noP (y :: r) 2 = none := by
        unfold tryS
        match r with
        | [] => rw [if_neg (by simp)]
        | a :: r =>
          rw [if_pos (by simp)]
          show (wholeS noP [y, a]).map _ = none
          rw [wholeS, if_neg (fun h => h3 h.1)]
          rfl
      unfold readS at h
      rw [e3, e2] at h
      simp only at h
      rw [try_one rfl, wholeS, if_neg h3, hn] at h
      cases h
    unfold namedS at hn
    split at hn
    · exact .inl (by assumption)
    · split at hn
      · exact .inr (.inl (by assumption))
      · split at hn <;> exact absurd rfl hn
theorem noTail_of_kind {y : Sym} (h : y.kind = 1 ∨ y.kind = 2 ∨ y.kind = 3) : NoTail y := ⟨by omega, fun k => by have := k.1; omega⟩

/-- What is read stays, if what comes next goes with no string. -/
theorem read_app {L M : List Sym} {t : TermD} {n : Nat} (h : readS noP L = some (t, n)) {y : Sym} {r : List Sym} (hd : L.drop n = y :: r) (hy : NoTail y) : readS noP (L ++ M) = some (t, n) := by
  cases L with
  | nil => simp at hd
  | cons x L =>
    by_cases hx : x.kind = 3
    · -- the three lengths
      have key : ∀ k, tryS noP (x :: L) k = some (t, n) → n = k := by
        intro k hk
        unfold tryS at hk
        split at hk
        · cases hw : wholeS noP ((x :: L).take k) with
          | none => rw [hw] at hk; cases hk
          | some u => rw [hw] at hk; simp only [Option.map_some, Option.some.injEq, Prod.mk.injEq] at hk; exact hk.2.symm
        · cases hk
      have h' := h
      unfold readS at h
      cases h3 : tryS noP (x :: L) 3 with
      | some q =>
        rw [h3] at h
        simp only [Option.some.injEq] at h
        subst h
        obtain rfl := key 3 h3
        match L, h3 with
        | [], h3 => unfold tryS at h3; rw [if_neg (by simp)] at h3; cases h3
        | [a], h3 => unfold tryS at h3; rw [if_neg (by simp)] at h3; cases h3
        | a :: b :: L, h3 =>
          unfold tryS at h3
          rw [if_pos (by simp)] at h3
          cases hw : wholeS noP [x, a, b] with
          | none =>
            have h3 : (wholeS noP [x, a, b]).map (fun t => (t, 3)) = some (t, 3) := h3
            rw [hw] at h3; cases h3
          | some u =>
            have h3 : (wholeS noP [x, a, b]).map (fun t => (t, 3)) = some (t, 3) := h3
            rw [hw] at h3
            simp only [Option.map_some, Option.some.injEq, Prod.mk.injEq, and_true] at h3
            subst h3
            exact read_3 hw
      | none =>
        rw [h3] at h
        simp only at h
        cases h2 : tryS noP (x :: L) 2 with
        | some q =>
          rw [h2] at h
          simp only [Option.some.injEq] at h
          subst h
          obtain rfl := key 2 h2
          match L, h2 with
          | [], h2 => unfold tryS at h2; rw [if_neg (by simp)] at h2; cases h2
          | a :: L, h2 =>
            unfold tryS at h2
            rw [if_pos (by simp)] at h2
            have h2 : (wholeS noP [x, a]).map (fun t => (t, 2)) = some (t, 2) := h2
            rw [wholeS] at h2
            split at h2
            · rename_i hk
              cases ho : okT (4, S x.text, S a.text) with
              | none => rw [ho] at h2; cases h2
              | some u =>
                rw [ho] at h2
                simp only [Option.map_some, Option.some.injEq, Prod.mk.injEq, and_true] at h2
                subst h2
                exact read_2 hx hk.2 ho
            · cases h2
        | none =>
          rw [h2] at h
          simp only at h
          obtain rfl := key 1 h
          rw [try_one rfl, wholeS, if_pos hx] at h
          cases ho : okT (3, S x.text, noneB) with
          | none => rw [ho] at h; cases h
          | some u =>
            rw [ho] at h
            simp only [Option.map_some, Option.some.injEq, Prod.mk.injEq, and_true] at h
            subst h
            have hL : L = y :: r := hd
            subst hL
            refine read_1s hx ?_ ho
            intro a b e
            cases e
            exact hy
    · have hr := read_head h
      have hn1 : namedS noP x = some t ∧ n = 1 := by
        have e3 : tryS noP (x :: L) 3 = none := by
          unfold tryS
          match L with
          | [] => rw [if_neg (by simp)]
          | [a] => rw [if_neg (by simp)]
          | a :: b :: r =>
            rw [if_pos (by simp)]
            show (wholeS noP [x, a, b]).map _ = none
            rw [wholeS, if_neg (fun h => hx h.1)]
            rfl
        have e2 : tryS noP (x :: L) 2 = none := by
          unfold tryS
          match L with
          | [] => rw [if_neg (by simp)]
          | a :: r =>
            rw [if_pos (by simp)]
            show (wholeS noP [x, a]).map _ = none
            rw [wholeS, if_neg (fun h => hx h.1)]
            rfl
        unfold readS at h
        rw [e3, e2] at h
        simp only at h
        rw [try_one rfl, wholeS, if_neg hx] at h
        cases hnm : namedS noP x with
        | none => rw [hnm] at h; cases h
        | some u =>
          rw [hnm] at h
          simp only [Option.map_some, Option.some.injEq, Prod.mk.injEq] at h
          exact ⟨by rw [h.1], h.2.symm⟩
      obtain ⟨h1, rfl⟩ := hn1
      exact read_1 hx h1

theorem three_app : ∀ {n : Nat} {L M l : List Sym} {ts : List TermD} {y : Sym} {r : List Sym}, threeS n L = .yes ts l → l = y :: r → NoTail y → threeS n (L ++ M) = .yes ts (l ++ M)
  | 0, L, M, l, ts, y, r, h, hl, hy => by
    simp only [threeS, Took3.yes.injEq] at h
    obtain ⟨rfl, rfl⟩ := h
    rfl
  | n + 1, L, M, l, ts, y, r, h, hl, hy => by
    rw [threeS] at h
    cases hr : readS noP L with
    | none => rw [hr] at h; cases h
    | some x =>
      obtain ⟨t, k⟩ := x
      rw [hr] at h
      simp only at h
      cases ht : threeS n (L.drop k) with
      | no l' => rw [ht] at h; cases h
      | yes us l' =>
        rw [ht] at h
        simp only [Took3.put, Took3.yes.injEq] at h
        obtain ⟨rfl, rfl⟩ := h
        have hp := readS_pos hr
        have hne : ∃ y' r', L.drop k = y' :: r' ∧ NoTail y' := by
          cases n with
          | zero =>
            simp only [threeS, Took3.yes.injEq] at ht
            exact ⟨y, r, by rw [ht.2]; exact hl, hy⟩
          | succ m =>
            cases hd : L.drop k with
            | nil =>
              rw [hd] at ht
              have : readS noP [] = none := rfl
              rw [threeS, this] at ht
              cases ht
            | cons y' r' =>
              rw [hd, threeS] at ht
              cases hr2 : readS noP (y' :: r') with
              | none => rw [hr2] at ht; cases ht
              | some q => exact ⟨y', r', rfl, noTail_of_kind (read_head hr2)⟩
        obtain ⟨y', r', hd, hy'⟩ := hne
        rw [threeS, read_app hr hd hy']
        simp only
        rw [List.drop_append_of_le_length hp.2.2, three_app ht hl hy]
        rfl
theorem stm_app {L M l : List Sym} {t : TripD} (h : stmS L = .yes t l) : stmS (L ++ M) = .yes t (l ++ M) := by
  unfold stmS at h ⊢
  cases ht : threeS 3 L with
  | no l' => rw [ht] at h; cases h
  | yes ts l' =>
    rw [ht] at h
    obtain ⟨h1, _⟩ := threeS_sub ht
    match ts, h1 with
    | [a, b, c], _ =>
      simp only [tripS] at h
      split at h
      · rename_i had
        cases l' with
        | nil => cases h
        | cons x r =>
          rw [endS] at h
          split at h
          · rename_i he
            simp only [Stm.yes.injEq] at h
            obtain ⟨rfl, rfl⟩ := h
            have hx : NoTail x := by
              unfold isEnd at he
              simp only [Bool.and_eq_true, decide_eq_true_eq] at he
              exact ⟨by omega, fun k => by rw [he.2] at k; exact absurd k.2 (by decide)⟩
            rw [three_app ht rfl hx]
            simp only [tripS]
            rw [if_pos had, List.cons_append, endS, if_pos he]
          · cases h
      · cases h
theorem parse_app : ∀ (f : Nat) {L M : List Sym} {x : List TripD}, L.length ≤ f → parseS L = .yes x → parseS (L ++ M) = (parseS M).put x
  | f, [], M, x, _, h => by
    rw [parseS_nil] at h
    cases h
    rw [List.nil_append, Par.put_nil]
  | 0, a :: L, M, x, hf, h => by simp at hf
  | f + 1, a :: L, M, x, hf, h => by
    rw [parseS_cons _ (by simp)] at h
    cases hs : stmS (a :: L) with
    | no l => rw [hs] at h; cases h
    | yes t l =>
      rw [hs] at h
      simp only at h
      cases hl : parseS l with
      | no l' => rw [hl] at h; cases h
      | yes us =>
        rw [hl] at h
        simp only [Par.put, Par.yes.injEq] at h
        subst h
        obtain ⟨k, rfl, hk, _⟩ := stmS_yes hs
        have hlen : ((a :: L).drop k).length ≤ f := by rw [List.length_drop]; simp only [List.length_cons] at *; omega
        rw [parseS_cons _ (by simp), stm_app hs]
        simp only
        rw [parse_app f hlen hl, Par.put_put]
        try rfl

/-- Places do not matter. -/
theorem whole_shift (d : Nat) (L : List Sym) : wholeS noP (L.map (shiftS d)) = wholeS noP L := by
  match L with
  | [] => rfl
  | [x] => rfl
  | [x, y] => rfl
  | [x, y, z] => rfl
  | _ :: _ :: _ :: _ :: _ => rfl
theorem try_shift (d : Nat) (L : List Sym) (n : Nat) : tryS noP (L.map (shiftS d)) n = tryS noP L n := by
  unfold tryS
  rw [List.length_map, ← List.map_take, whole_shift]
theorem read_shift (d : Nat) (L : List Sym) : readS noP (L.map (shiftS d)) = readS noP L := by
  unfold readS
  rw [try_shift, try_shift, try_shift]
def Took3.shift (d : Nat) : Took3 → Took3
  | .no l => .no (l.map (shiftS d))
  | .yes ts l => .yes ts (l.map (shiftS d))
theorem three_shift (d : Nat) : ∀ (n : Nat) (L : List Sym), threeS n (L.map (shiftS d)) = (threeS n L).shift d
  | 0, L => rfl
  | n + 1, L => by
    rw [threeS, threeS, read_shift]
    cases hr : readS noP L with
    | none => rfl
    | some x =>
      obtain ⟨t, k⟩ := x
      simp only
      rw [← List.map_drop, three_shift d n]
      cases threeS n (L.drop k) <;> rfl
def Stm.shift (d : Nat) : Stm → Stm
  | .no l => .no (l.map (shiftS d))
  | .yes t l => .yes t (l.map (shiftS d))
theorem stm_shift (d : Nat) (L : List Sym) : stmS (L.map (shiftS d)) = (stmS L).shift d := by
  unfold stmS
  rw [three_shift]
  cases ht : threeS 3 L with
  | no l => rfl
  | yes ts l =>
    obtain ⟨h1, _⟩ := threeS_sub ht
    match ts, h1 with
    | [a, b, c], _ =>
      simp only [Took3.shift, tripS]
      split
      · cases l with
        | nil => rfl
        | cons x r =>
          rw [List.map_cons, endS, endS]
          have e : isEnd (shiftS d x) = isEnd x := rfl
          rw [e]
          split <;> rfl
      · rfl
def Par.shift (d : Nat) : Par → Par
  | .no l => .no (l.map (shiftS d))
  | .yes ts => .yes ts
theorem parse_shift (d : Nat) : ∀ (f : Nat) (L : List Sym), L.length ≤ f → parseS (L.map (shiftS d)) = (parseS L).shift d
  | f, [], _ => rfl
  | 0, a :: L, h => by simp at h
  | f + 1, a :: L, h => by
    rw [parseS_cons _ (by simp), parseS_cons (a :: L) (by simp), stm_shift]
    cases hs : stmS (a :: L) with
    | no l => rfl
    | yes t l =>
      obtain ⟨k, rfl, hk, _⟩ := stmS_yes hs
      have hlen : ((a :: L).drop k).length ≤ f := by rw [List.length_drop]; simp only [List.length_cons] at *; omega
      simp only [Stm.shift]
      rw [parse_shift d f _ hlen]
      cases parseS ((a :: L).drop k) <;> rfl
theorem place_shift (d n : Nat) (l : List Sym) : placeS (n + d) (l.map (shiftS d)) = placeS n l + d := by
  cases l <;> rfl

/-- What a document is, behind another one. -/
def DocR.after (x : List TripD) (d : Nat) : DocR → DocR
  | .bad p c => .bad (p + d) c
  | .good ts => .good (x ++ ts)
theorem wf_joined {a b : List Int} (ha : a.length ≤ 3000) (hb : b.length ≤ 3000) (h : valid a = true) : wfL (a ++ 10 :: b) = wfL b + (a.length + 1) := by
  obtain ⟨ra, a1, rfl⟩ := (valid_iff (by omega)).1 h
  obtain ⟨rb, c, b1, rfl, b2⟩ := split_text _ b (Nat.le_refl _)
  rw [wfL_split b1 b2 (by omega)]
  have e : encs ra ++ 10 :: (encs rb ++ c) = encs (ra ++ [10] ++ rb) ++ c := by
    rw [encs_append, encs_append]
    have : encs [10] = [10] := by decide
    rw [this]
    simp
  have hm : AllMay (ra ++ [10] ++ rb) := (a1.append (fun x hx => by rw [List.mem_singleton.1 hx]; exact ⟨by decide, by decide, .inl (by decide)⟩)).append b1
  rw [e, wfL_split hm b2 (by rw [← e]; simp at *; omega), encs_append, encs_append]
  have : encs [10] = [10] := by decide
  rw [this]
  simp
  omega
theorem doc_joined {a b : ByteArray} (ha : a.size ≤ 3000) (hb : b.size ≤ 3000) {x : List TripD} (h : docS a = .good x) : docS (a ++ (⟨#[10]⟩ : ByteArray) ++ b) = (docS b).after x (a.size + 1) := by
  have la := bs_length a
  have lb := bs_length b
  have hz : (a ++ (⟨#[10]⟩ : ByteArray) ++ b).size = b.size + (a.size + 1) := by rw [← bs_length, bs_joined]; simp [la, lb]; omega
  have h' := h
  unfold docS at h
  rw [if_neg (by omega)] at h
  split at h
  · cases h
  · rename_i hw
    split at h
    · cases h
    · rename_i hA
      have va := valid_of_wf (l := bs a) (by omega) (by rw [la]; exact hw)
      have pa := (toks_place _ (bs a) 0 (Nat.le_refl _)).2.2
      have ea : (allL (bs a)).2 = (bs a).length := by show (toks (bs a) 0).2 = _; change ¬ (toks (bs a) 0).2 < _ at hA; omega
      have hj := all_join (a := bs a) (b := bs b) ea
      have hpx : parseS (allL (bs a)).1 = .yes x := by
        cases hp : parseS (allL (bs a)).1 with
        | no l => rw [hp] at h; cases h
        | yes ts => rw [hp] at h; simp only [docOf, DocR.good.injEq] at h; rw [h]
      have hwj := wf_joined (a := bs a) (b := bs b) (by omega) (by omega) va
      unfold docS
      rw [hz, bs_joined, hwj, hj, la, if_neg (show ¬ 1048576 < b.size + (a.size + 1) by omega), if_neg (show ¬ 1048576 < b.size by omega)]
      by_cases h1 : wfL (bs b) < b.size
      · rw [if_pos (by omega), if_pos h1]
        rfl
      · rw [if_neg (by omega), if_neg h1]
        simp only
        by_cases h2 : (allL (bs b)).2 < b.size
        · rw [if_pos (by omega), if_pos h2]
          rfl
        · rw [if_neg (by omega), if_neg h2, parse_app _ (Nat.le_refl _) hpx, parse_shift _ _ _ (Nat.le_refl _)]
          cases hp : parseS (allL (bs b)).1 with
          | no l =>
            show DocR.bad (placeS (b.size + (a.size + 1)) (l.map (shiftS (a.size + 1)))) 4 = .bad (placeS b.size l + (a.size + 1)) 4
            rw [place_shift]
          | yes ts => rfl
end Go.Proofs.YtfldpfomecjdkaaGreatDoor
/-
  PLAIN MATHEMATICS: the text of what was read is not long.
-/

namespace Go.Proofs.YtfldpfomecjdkaaGreatDoor
open Go.RowKit
open Utf Term Lex
set_option linter.unusedVariables false

def wS (x : Sym) : Nat := x.text.length + x.tt.length
def sumW : List Sym → Nat
  | [] => 0
  | x :: L => wS x + sumW L
theorem sumW_append : ∀ (A B : List Sym), sumW (A ++ B) = sumW A + sumW B
  | [], B => by simp [sumW]
  | x :: A, B => by rw [List.cons_append, sumW, sumW, sumW_append A B]; omega
theorem sumW_split (L : List Sym) (n : Nat) : sumW L = sumW (L.take n) + sumW (L.drop n) := by rw [← sumW_append, List.take_append_drop]

theorem one_weight {l : List Int} (hb : ByteL l) {x : Sym} {n : Nat} (h : one l = .got x n) : wS x ≤ n := by
  have hm := firstT_mem h
  unfold takers at hm
  simp only [List.mem_cons, List.not_mem_nil, or_false] at hm
  rcases hm with hm | hm | hm | hm | hm | hm | hm | hm
  · have hm := hm.symm
    unfold markT at hm
    cases hf : markL.find? (fun m => m.isPrefixOf l) with
    | none => rw [hf] at hm; cases hm
    | some m =>
      rw [hf] at hm
      simp only [Took.got.injEq] at hm
      obtain ⟨rfl, rfl⟩ := hm
      simp [wS, symT]
  · have hm := hm.symm
    unfold nameT at hm
    split at hm
    · split at hm
      · cases hm
      · simp only [Took.got.injEq] at hm
        obtain ⟨rfl, rfl⟩ := hm
        simp only [wS, symT, List.length_take, List.length_nil]
        omega
    · cases hm
  · have hm := hm.symm
    unfold wordT at hm
    split at hm
    · cases hm
    · split at hm
      · simp only [Took.got.injEq] at hm
        obtain ⟨rfl, rfl⟩ := hm
        simp only [wS, symT, List.length_take, List.length_nil]
        omega
      · cases hm
  · have hm := hm.symm
    unfold varT at hm
    split at hm
    · split at hm
      · simp only [Took.got.injEq] at hm
        obtain ⟨rfl, rfl⟩ := hm
        simp only [wS, symT, List.length_take, List.length_nil]
        omega
      · cases hm
    · cases hm
  · have hm := hm.symm
    unfold quotedT at hm
    split at hm
    · split at hm
      · cases hm
      · rename_i t k hd
        simp only [Took.got.injEq] at hm
        obtain ⟨rfl, rfl⟩ := hm
        have h1 := den_good (Nat.le_refl _) (hb.drop 1) hd
        simp only [wS, symT, List.length_nil]
        omega
    · cases hm
  · have hm := hm.symm
    unfold iriT at hm
    split at hm
    · split at hm
      · cases hm
      · rename_i t k hd
        split at hm
        · simp only [Took.got.injEq] at hm
          obtain ⟨rfl, rfl⟩ := hm
          have h1 := den_good (Nat.le_refl _) (hb.drop 1) hd
          simp only [wS, List.length_nil]
          omega
        · cases hm
    · cases hm
  · have hm := hm.symm
    unfold blankT at hm
    split at hm
    · split at hm
      · simp only [Took.got.injEq] at hm
        obtain ⟨rfl, rfl⟩ := hm
        simp only [wS, List.length_take, List.length_nil]
        omega
      · cases hm
    · cases hm
  · have hm := hm.symm
    unfold langT at hm
    split at hm
    · split at hm
      · simp only [Took.got.injEq] at hm
        obtain ⟨rfl, rfl⟩ := hm
        simp only [wS, symT, List.length_take, List.length_nil]
        omega
      · cases hm
    · cases hm
theorem toks_weight : ∀ (n : Nat) (l : List Int) (p : Nat), l.length ≤ n → ByteL l → sumW (toks l p).1 ≤ l.length := by
  intro n
  induction n with
  | zero =>
    intro l p hn _
    obtain rfl : l = [] := List.eq_nil_of_length_eq_zero (by omega)
    rw [toks_eq]
    simp [sk, sumW]
  | succ n ih =>
    intro l p hn hb
    rw [toks_eq l p]
    have hs := sk_le false l
    split
    · simp [sumW]
    · cases ho : one (l.drop (sk false l)) with
      | no => simp [sumW]
      | bad => simp [sumW]
      | got x m =>
        have hp := one_pos ho
        rw [List.length_drop] at hp
        have hw := one_weight (hb.drop _) ho
        have := ih (l.drop (sk false l + m)) (p + sk false l + m) (by rw [List.length_drop]; omega) (hb.drop _)
        rw [List.length_drop] at this
        simp only [sumW]
        have e : wS { x with place := p + sk false l } = wS x := rfl
        rw [e]
        omega

def wT (a : TermD) : Nat := a.2.1.size + a.2.2.size
theorem S_size (l : List Int) : (S l).size = l.length := strOfNums_size l
theorem named_weight {x : Sym} {t : TermD} (h : namedS noP x = some t) : wT t ≤ wS x := by
  unfold namedS at h
  split at h
  · cases h
    show (S x.tt).size + 0 ≤ _
    rw [S_size]; unfold wS; omega
  · split at h
    · cases h
      show (S x.tt).size + 0 ≤ _
      rw [S_size]; unfold wS; omega
    · split at h <;> cases h
theorem whole_weight {L : List Sym} {t : TermD} (h : wholeS noP L = some t) : wT t ≤ sumW L := by
  match L, h with
  | [x], h =>
    rw [wholeS] at h
    split at h
    · rw [← okT_eq h]
      show (S x.text).size + 0 ≤ _
      rw [S_size]; simp only [sumW, wS]; omega
    · have := named_weight h
      simp only [sumW]; omega
  | [x, y], h =>
    rw [wholeS] at h
    split at h
    · rw [← okT_eq h]
      show (S x.text).size + (S y.text).size ≤ _
      rw [S_size, S_size]; simp only [sumW, wS]; omega
    · cases h
  | [x, y, z], h =>
    rw [wholeS] at h
    split at h
    · unfold typedR at h
      cases hn : namedS noP z with
      | none => rw [hn] at h; cases h
      | some q =>
        rw [hn] at h
        have hq := named_weight hn
        unfold wT at hq
        simp only at h
        split at h
        · split at h
          · rw [← okT_eq h]
            show (S x.text).size + 0 ≤ _
            rw [S_size]; simp only [sumW, wS]; omega
          · rw [← okT_eq h]
            show (S x.text).size + q.2.1.size ≤ _
            rw [S_size]; simp only [sumW, wS] at *; omega
        · cases h
    · cases h
theorem read_weight {L : List Sym} {t : TermD} {n : Nat} (h : readS noP L = some (t, n)) : wT t ≤ sumW (L.take n) := by
  have ht : ∀ k, tryS noP L k = some (t, n) → wT t ≤ sumW (L.take n) := by
    intro k hk
    unfold tryS at hk
    split at hk
    · cases hw : wholeS noP (L.take k) with
      | none => rw [hw] at hk; cases hk
      | some u =>
        rw [hw] at hk
        simp only [Option.map_some, Option.some.injEq, Prod.mk.injEq] at hk
        obtain ⟨rfl, rfl⟩ := hk
        exact whole_weight hw
    · cases hk
  unfold readS at h
  cases h3 : tryS noP L 3 with
  | some r => rw [h3] at h; simp only [Option.some.injEq] at h; subst h; exact ht 3 h3
  | none =>
    rw [h3] at h
    simp only at h
    cases h2 : tryS noP L 2 with
    | some r => rw [h2] at h; simp only [Option.some.injEq] at h; subst h; exact ht 2 h2
    | none => rw [h2] at h; exact ht 1 h
def sumT : List TermD → Nat
  | [] => 0
  | a :: l => wT a + sumT l
theorem three_weight : ∀ {n : Nat} {L l : List Sym} {ts : List TermD}, threeS n L = .yes ts l → sumT ts + sumW l ≤ sumW L ∧ l.length + n ≤ L.length
  | 0, L, l, ts, h => by
    simp only [threeS, Took3.yes.injEq] at h
    obtain ⟨rfl, rfl⟩ := h
    simp [sumT]
  | n + 1, L, l, ts, h => by
    rw [threeS] at h
    cases hr : readS noP L with
    | none => rw [hr] at h; cases h
    | some x =>
      obtain ⟨t, k⟩ := x
      rw [hr] at h
      simp only at h
      cases ht : threeS n (L.drop k) with
      | no l' => rw [ht] at h; cases h
      | yes us l' =>
        rw [ht] at h
        simp only [Took3.put, Took3.yes.injEq] at h
        obtain ⟨rfl, rfl⟩ := h
        have hp := readS_pos hr
        have hw := read_weight hr
        obtain ⟨i1, i2⟩ := three_weight ht
        have hs := sumW_split L k
        rw [List.length_drop] at i2
        refine ⟨?_, by omega⟩
        show wT t + sumT us + sumW l' ≤ _
        omega
def wT3 (t : TripD) : Nat := wT t.1 + wT t.2.1 + wT t.2.2
theorem stm_weight {L l : List Sym} {t : TripD} (h : stmS L = .yes t l) : wT3 t + sumW l ≤ sumW L ∧ l.length + 4 ≤ L.length ∧ addT t = true := by
  unfold stmS at h
  cases ht : threeS 3 L with
  | no l' => rw [ht] at h; cases h
  | yes ts l' =>
    rw [ht] at h
    obtain ⟨h1, _⟩ := threeS_sub ht
    obtain ⟨w1, w2⟩ := three_weight ht
    match ts, h1 with
    | [a, b, c], _ =>
      simp only [tripS] at h
      split at h
      · rename_i had
        cases l' with
        | nil => cases h
        | cons x r =>
          rw [endS] at h
          split at h
          · simp only [Stm.yes.injEq] at h
            obtain ⟨rfl, rfl⟩ := h
            simp only [sumT, sumW, List.length_cons] at w1 w2
            exact ⟨by show wT a + wT b + wT c + _ ≤ _; omega, by omega, had⟩
          · cases h
      · cases h
def sum3 : List TripD → Nat
  | [] => 0
  | t :: l => wT3 t + sum3 l
theorem parse_weight : ∀ (f : Nat) {L : List Sym} {ts : List TripD}, L.length ≤ f → parseS L = .yes ts → sum3 ts ≤ sumW L ∧ ts.length * 4 ≤ L.length ∧ ts.all addT = true
  | f, [], ts, _, h => by
    rw [parseS_nil] at h
    cases h
    exact ⟨Nat.zero_le _, Nat.zero_le _, rfl⟩
  | 0, a :: L, ts, hf, h => by simp at hf
  | f + 1, a :: L, ts, hf, h => by
    rw [parseS_cons _ (by simp)] at h
    cases hs : stmS (a :: L) with
    | no l => rw [hs] at h; cases h
    | yes t l =>
      rw [hs] at h
      simp only at h
      cases hl : parseS l with
      | no l' => rw [hl] at h; cases h
      | yes us =>
        rw [hl] at h
        simp only [Par.put, Par.yes.injEq] at h
        subst h
        obtain ⟨w1, w2, w3⟩ := stm_weight hs
        have hlen : l.length ≤ f := by simp only [List.length_cons] at *; omega
        obtain ⟨i1, i2, i3⟩ := parse_weight f hlen hl
        refine ⟨?_, ?_, ?_⟩
        · show wT3 t + sum3 us ≤ _; omega
        · show (us.length + 1) * 4 ≤ _; omega
        · show (t :: us).all addT = true
          rw [List.all_cons, w3, i3]; rfl
theorem term_line {a : TermD} : lenD a ≤ 6 * wT a + 6 := by
  obtain ⟨k, t, x⟩ := a
  have h1 := quoteL_len (bs t)
  have h2 := bs_length t
  have h3 := bs_length x
  unfold lenD wT textL
  repeat' split
  all_goals
    try simp only [List.length_cons, List.length_append, List.length_nil]
    simp only at *
    omega
theorem texts_weight : ∀ (ts : List TripD), (textsL ts).length ≤ 6 * sum3 ts + 30 * ts.length
  | [] => by simp [textsL]
  | t :: ts => by
    have ih := texts_weight ts
    have hl := lineT_len t
    have h1 := term_line (a := t.1)
    have h2 := term_line (a := t.2.1)
    have h3 := term_line (a := t.2.2)
    have e : (textsL (t :: ts)).length = (lineT t).length + (textsL ts).length := by
      show (lineT t ++ textsL ts).length = _
      rw [List.length_append]
    rw [e, hl, List.length_cons]
    show _ ≤ 6 * (wT3 t + sum3 ts) + _
    unfold wT3
    omega
theorem sum3_mem : ∀ {ts : List TripD} {t : TripD}, t ∈ ts → wT3 t ≤ sum3 ts
  | [], t, h => by cases h
  | u :: ts, t, h => by
    show _ ≤ wT3 u + sum3 ts
    rcases List.mem_cons.1 h with rfl | h
    · omega
    · have := sum3_mem h; omega
/-- What a document of at most 3000 bytes is of. -/
theorem doc_good {a : ByteArray} (ha : a.size ≤ 3000) {x : List TripD} (h : docS a = .good x) : x.all addT = true ∧ (textsL x).length ≤ 1048576 ∧ x.length ≤ 3000 ∧ ∀ t ∈ x, FitsT t := by
  unfold docS at h
  rw [if_neg (by omega)] at h
  split at h
  · cases h
  · split at h
    · cases h
    · cases hp : parseS (allL (bs a)).1 with
      | no l => rw [hp] at h; cases h
      | yes ts =>
        rw [hp] at h
        simp only [docOf, DocR.good.injEq] at h
        subst h
        obtain ⟨w1, w2, w3⟩ := parse_weight _ (Nat.le_refl _) hp
        have w4 := toks_weight _ (bs a) 0 (Nat.le_refl _) (bs_byte a)
        have w5 := syms_few a
        have w6 := texts_weight ts
        rw [bs_length] at w4
        have w4 : sumW (allL (bs a)).1 ≤ a.size := w4
        refine ⟨w3, by omega, by omega, fun t ht => ?_⟩
        have := sum3_mem ht
        unfold wT3 wT at this
        exact ⟨⟨by omega, by omega⟩, ⟨by omega, by omega⟩, ⟨by omega, by omega⟩⟩
theorem parse_no : ∀ (f : Nat) {L l : List Sym}, L.length ≤ f → parseS L = .no l → ∃ k, l = L.drop k
  | f, [], l, _, h => by rw [parseS_nil] at h; cases h
  | 0, a :: L, l, hf, h => by simp at hf
  | f + 1, a :: L, l, hf, h => by
    rw [parseS_cons _ (by simp)] at h
    cases hs : stmS (a :: L) with
    | no l' =>
      rw [hs] at h
      cases h
      exact stmS_no hs
    | yes t l' =>
      rw [hs] at h
      simp only at h
      obtain ⟨k, rfl, hk, _⟩ := stmS_yes hs
      have hlen : ((a :: L).drop k).length ≤ f := by rw [List.length_drop]; simp only [List.length_cons] at *; omega
      cases hl : parseS ((a :: L).drop k) with
      | no q =>
        rw [hl] at h
        cases h
        obtain ⟨j, hj⟩ := parse_no f hlen hl
        exact ⟨k + j, by rw [hj, List.drop_drop]⟩
      | yes us => rw [hl] at h; cases h
theorem doc_bad_le {s : ByteArray} {p c : Nat} (h : docS s = .bad p c) : p ≤ s.size := by
  unfold docS at h
  split at h
  · simp only [DocR.bad.injEq] at h; omega
  · split at h
    · simp only [DocR.bad.injEq] at h; omega
    · split at h
      · simp only [DocR.bad.injEq] at h; omega
      · cases hp : parseS (allL (bs s)).1 with
        | no l =>
          rw [hp] at h
          simp only [docOf, DocR.bad.injEq] at h
          rw [← h.1]
          cases l with
          | nil => exact Nat.le_refl _
          | cons x r =>
            obtain ⟨k, hk⟩ := parse_no _ (Nat.le_refl _) hp
            have hx : x ∈ (allL (bs s)).1 := List.mem_of_mem_drop (i := k) (by rw [← hk]; simp)
            have := (toks_place _ (bs s) 0 (Nat.le_refl _)).1 x hx
            rw [bs_length] at this
            show x.place ≤ _
            omega
        | yes ts => rw [hp] at h; cases h
end Go.Proofs.YtfldpfomecjdkaaGreatDoor
/-
  PLAIN MATHEMATICS: a triple's text that is cut within is no document.
-/

namespace Go.Proofs.YtfldpfomecjdkaaGreatDoor
open Go.RowKit
open Utf Term Lex
set_option linter.unusedVariables false

/-- No symbol that ends a triple. -/
def NoEnd (L : List Sym) : Prop := ∀ y ∈ L, isEnd y = false
theorem NoEnd.nil : NoEnd [] := by intro y hy; cases hy
theorem NoEnd.app {A B : List Sym} (h : NoEnd A) (k : NoEnd B) : NoEnd (A ++ B) := by
  intro y hy
  rcases List.mem_append.1 hy with h1 | h1
  · exact h y h1
  · exact k y h1
theorem NoEnd.cons {x : Sym} {B : List Sym} (h : isEnd x = false) (k : NoEnd B) : NoEnd (x :: B) := by
  intro y hy
  rcases List.mem_cons.1 hy with rfl | h1
  · exact h
  · exact k y h1
theorem prefix_cases {u A B : List Int} (h : u <+: A ++ B) : (u <+: A) ∨ ∃ v, u = A ++ v ∧ v <+: B := by
  rw [List.prefix_iff_eq_take] at h
  rw [List.take_append] at h
  by_cases hl : u.length ≤ A.length
  · left
    rw [h, show u.length - A.length = 0 by omega, List.take_zero, List.append_nil]
    exact List.take_prefix _ _
  · right
    refine ⟨B.take (u.length - A.length), ?_, List.take_prefix _ _⟩
    rw [List.take_of_length_le (by omega)] at h
    exact h
theorem prefix_cons {u : List Int} {c : Int} {B : List Int} (h : u <+: c :: B) : u = [] ∨ ∃ v, u = c :: v ∧ v <+: B := by
  cases u with
  | nil => exact .inl rfl
  | cons d v =>
    obtain ⟨z, hz⟩ := h
    cases hz
    exact .inr ⟨v, rfl, z, rfl⟩
theorem toks_none {l : List Int} (p : Nat) (h0 : sk false l = 0) (h : ∀ x n, one l ≠ .got x n) : (toks l p).1 = [] := by
  rw [toks_eq, h0, List.drop_zero]
  split
  · rfl
  · cases ho : one l with
    | no => rfl
    | bad => rfl
    | got x n => exact absurd ho (h x n)
theorem den_endless : ∀ {l : List Int}, (∀ c ∈ l, c ≠ 62 ∧ c ≠ 10 ∧ c ≠ 13 ∧ c ≠ 92) → den true false 62 l = none
  | [], _ => rfl
  | c :: l, h => by
    have hc := h c (by simp)
    rw [den_cons, if_neg hc.1, if_neg (by intro e; exact e.2.elim hc.2.1 hc.2.2.1), if_neg hc.2.2.2, den_endless (fun d hd => h d (List.mem_cons_of_mem _ hd))]
    rfl
theorem one_60 {v : List Int} (h : den true false 62 v = none) : one (60 :: v) = .bad := by
  have hq : iriT (60 :: v) = .bad := by
    unfold iriT
    rw [if_pos (by simp [List.isPrefixOf]), List.drop_succ_cons, List.drop_zero, h]
  unfold one takers
  rw [hq]
  have h1 : markT (60 :: v) = .no := by unfold markT markL; simp [List.isPrefixOf]
  have h2 : spanL letterDigit (60 :: v) = 0 := by unfold spanL; rw [List.takeWhile_cons, if_neg (by decide)]; rfl
  have h3 : nameT (60 :: v) = .no := by unfold nameT; rw [h2, List.drop_zero, if_neg (by unfold colonB; simp [List.isPrefixOf])]
  have h4 : wordT (60 :: v) = .no := by unfold wordT; rw [h2, if_pos rfl]
  have h5 : varT (60 :: v) = .no := by unfold varT; rw [if_neg (by simp [List.isPrefixOf])]
  have h6 : quotedT (60 :: v) = .no := by unfold quotedT; rw [if_neg (by simp [List.isPrefixOf])]
  rw [h1, h3, h4, h5, h6]
  rfl
theorem sk_60 (v : List Int) : sk false (60 :: v) = 0 := by rw [skF, if_neg (by decide), if_neg (by decide)]
theorem cut_iri {l : List Int} (hl : isIRIB l = true) {u : List Int} (hu : u <+: 60 :: (l ++ [62])) (p : Nat) : NoEnd (toks u p).1 := by
  rcases prefix_cons hu with rfl | ⟨v, rfl, hv⟩
  · rw [toks_nil]; exact .nil
  · have hbad : ∀ v, v <+: l → NoEnd (toks (60 :: v) p).1 := fun v hv => by
      have hd := den_endless (l := v) (fun c hc => iri_chars hl c (hv.subset hc))
      rw [toks_none p (sk_60 v) (fun x n e => by rw [one_60 hd] at e; cases e)]
      exact .nil
    rcases prefix_cases hv with hv | ⟨w, rfl, hw⟩
    · exact hbad v hv
    · rcases prefix_cons hw with rfl | ⟨z, rfl, hz⟩
      · rw [List.append_nil]; exact hbad l (List.prefix_refl _)
      · obtain rfl : z = [] := List.eq_nil_of_prefix_nil hz
        have e : (60 :: (l ++ [62])).drop (l.length + 2) = [] := List.drop_eq_nil_of_le (by simp)
        rw [toks_one (sk_60 _) (by simp) (one_iri hl []), e, toks_nil]
        exact .cons rfl .nil
theorem blank_or {v : List Int} (h : ∀ c ∈ v, letterDigit c = true) : one (95 :: 58 :: v) = .bad ∨ ∃ x, x.kind = 2 ∧ one (95 :: 58 :: v) = .got x (2 + v.length) := by
  have hq : blankT (95 :: 58 :: v) = .bad ∨ ∃ x : Sym, x.kind = 2 ∧ blankT (95 :: 58 :: v) = .got x (2 + v.length) := by
    unfold blankT
    have e : (95 :: 58 :: v).drop 2 = v := rfl
    rw [if_pos (by simp [List.isPrefixOf]), e, span_all h]
    split
    · exact .inr ⟨_, rfl, rfl⟩
    · exact .inl rfl
  have ho : one (95 :: 58 :: v) = firstT [blankT (95 :: 58 :: v), langT (95 :: 58 :: v)] := by
    unfold one takers
    have h1 : markT (95 :: 58 :: v) = .no := by unfold markT markL; simp [List.isPrefixOf]
    have h2 : spanL letterDigit (95 :: 58 :: v) = 0 := by unfold spanL; rw [List.takeWhile_cons, if_neg (by decide)]; rfl
    have h3 : nameT (95 :: 58 :: v) = .no := by unfold nameT; rw [h2, List.drop_zero, if_neg (by unfold colonB; simp [List.isPrefixOf])]
    have h4 : wordT (95 :: 58 :: v) = .no := by unfold wordT; rw [h2, if_pos rfl]
    have h5 : varT (95 :: 58 :: v) = .no := by unfold varT; rw [if_neg (by simp [List.isPrefixOf])]
    have h6 : quotedT (95 :: 58 :: v) = .no := by unfold quotedT; rw [if_neg (by simp [List.isPrefixOf])]
    have h7 : iriT (95 :: 58 :: v) = .no := by unfold iriT; rw [if_neg (by simp [List.isPrefixOf])]
    rw [h1, h3, h4, h5, h6, h7]
    rfl
  rw [ho]
  rcases hq with hq | ⟨x, hx, hq⟩
  · rw [hq]; exact .inl rfl
  · rw [hq]; exact .inr ⟨x, hx, rfl⟩
theorem isEnd_kind {x : Sym} (h : x.kind ≠ 8) : isEnd x = false := by unfold isEnd; rw [decide_eq_false h, Bool.false_and]
theorem cut_blank {l : List Int} (hl : isBlankB l = true) {u : List Int} (hu : u <+: 95 :: 58 :: l) (p : Nat) : NoEnd (toks u p).1 := by
  rcases prefix_cons hu with rfl | ⟨v, rfl, hv⟩
  · rw [toks_nil]; exact .nil
  · rcases prefix_cons hv with rfl | ⟨z, rfl, hz⟩
    · rw [toks_none p (by rw [skF, if_neg (by decide), if_neg (by decide)]) (fun x n e => by
        have : one [95] = .bad := by decide
        rw [this] at e; cases e)]
      exact .nil
    · have hsk : sk false (95 :: 58 :: z) = 0 := by rw [skF, if_neg (by decide), if_neg (by decide)]
      rcases blank_or (v := z) (fun c hc => blank_chars hl c (hz.subset hc)) with h | ⟨x, hx, h⟩
      · rw [toks_none p hsk (fun x n e => by rw [h] at e; cases e)]
        exact .nil
      · have e : (95 :: 58 :: z).drop (2 + z.length) = [] := List.drop_eq_nil_of_le (by simp; omega)
        rw [toks_one hsk (by simp) h, e, toks_nil]
        exact .cons (isEnd_kind (by show x.kind ≠ 8; omega)) .nil
theorem lang_or {v : List Int} (h : ∀ c ∈ v, langC c = true) : one (64 :: v) = .bad ∨ ∃ x, x.kind = 4 ∧ one (64 :: v) = .got x (1 + v.length) := by
  have hq : langT (64 :: v) = .bad ∨ ∃ x : Sym, x.kind = 4 ∧ langT (64 :: v) = .got x (1 + v.length) := by
    unfold langT
    have e : (64 :: v).drop 1 = v := rfl
    rw [if_pos (by simp [List.isPrefixOf]), e, span_all h]
    split
    · exact .inr ⟨_, rfl, rfl⟩
    · exact .inl rfl
  have ho : one (64 :: v) = firstT [langT (64 :: v)] := by
    unfold one takers
    have h1 : markT (64 :: v) = .no := by unfold markT markL; simp [List.isPrefixOf]
    have h2 : spanL letterDigit (64 :: v) = 0 := by unfold spanL; rw [List.takeWhile_cons, if_neg (by decide)]; rfl
    have h3 : nameT (64 :: v) = .no := by unfold nameT; rw [h2, List.drop_zero, if_neg (by unfold colonB; simp [List.isPrefixOf])]
    have h4 : wordT (64 :: v) = .no := by unfold wordT; rw [h2, if_pos rfl]
    have h5 : varT (64 :: v) = .no := by unfold varT; rw [if_neg (by simp [List.isPrefixOf])]
    have h6 : quotedT (64 :: v) = .no := by unfold quotedT; rw [if_neg (by simp [List.isPrefixOf])]
    have h7 : iriT (64 :: v) = .no := by unfold iriT; rw [if_neg (by simp [List.isPrefixOf])]
    have h8 : blankT (64 :: v) = .no := by unfold blankT; rw [if_neg (by simp [List.isPrefixOf])]
    rw [h1, h3, h4, h5, h6, h7, h8]
    rfl
  rw [ho]
  rcases hq with hq | ⟨x, hx, hq⟩
  · rw [hq]; exact .inl rfl
  · rw [hq]; exact .inr ⟨x, hx, rfl⟩
theorem cut_lang {l : List Int} (hl : tagL l = true) {u : List Int} (hu : u <+: 64 :: l) (p : Nat) : NoEnd (toks u p).1 := by
  rcases prefix_cons hu with rfl | ⟨v, rfl, hv⟩
  · rw [toks_nil]; exact .nil
  · have hsk : sk false (64 :: v) = 0 := by rw [skF, if_neg (by decide), if_neg (by decide)]
    rcases lang_or (v := v) (fun c hc => tag_chars hl c (hv.subset hc)) with h | ⟨x, hx, h⟩
    · rw [toks_none p hsk (fun x n e => by rw [h] at e; cases e)]
      exact .nil
    · have e : (64 :: v).drop (1 + v.length) = [] := List.drop_eq_nil_of_le (by simp; omega)
      rw [toks_one hsk (by simp) h, e, toks_nil]
      exact .cons (isEnd_kind (by show x.kind ≠ 8; omega)) .nil
theorem cut_type {l : List Int} (hl : isIRIB l = true) {u : List Int} (hu : u <+: 94 :: 94 :: 60 :: (l ++ [62])) (p : Nat) : NoEnd (toks u p).1 := by
  rcases prefix_cons hu with rfl | ⟨v, rfl, hv⟩
  · rw [toks_nil]; exact .nil
  · rcases prefix_cons hv with rfl | ⟨z, rfl, hz⟩
    · rw [toks_none p (by rw [skF, if_neg (by decide), if_neg (by decide)]) (fun x n e => by
        have : one [94] = .bad := by decide
        rw [this] at e; cases e)]
      exact .nil
    · have e : (94 :: 94 :: z).drop 2 = z := rfl
      rw [toks_one (by rw [skF, if_neg (by decide), if_neg (by decide)]) (by simp) (one_mark z), e]
      exact .cons rfl (cut_iri hl hz _)
theorem shown_cut_all : ∀ c : Fin 256, ((List.range (shown (c.val : Int)).length).all fun i => (den true true 34 ((shown (c.val : Int)).take i)).isNone) = true := by decide +kernel
theorem shown_cut {c : Int} (hc : IsByte c) {u : List Int} (hu : u <+: shown c) (hl : u.length < (shown c).length) : den true true 34 u = none := by
  have h1 := shown_cut_all ⟨c.toNat, by have := hc.1; have := hc.2; omega⟩
  have e : ((c.toNat : Nat) : Int) = c := by have := hc.1; omega
  simp only [e] at h1
  rw [List.all_eq_true] at h1
  have := h1 u.length (List.mem_range.2 hl)
  rw [List.prefix_iff_eq_take] at hu
  rw [← hu, Option.isNone_iff_eq_none] at this
  exact this
theorem den_cut : ∀ {l : List Int}, (∀ c ∈ l, IsByte c) → ∀ {v : List Int}, v <+: l.flatMap shown → den true true 34 v = none
  | [], _, v, hv => by
    obtain rfl : v = [] := List.eq_nil_of_prefix_nil hv
    rfl
  | c :: l, h, v, hv => by
    rw [List.flatMap_cons] at hv
    have hc := h c (by simp)
    rcases prefix_cases hv with hv | ⟨w, rfl, hw⟩
    · by_cases hl : v.length < (shown c).length
      · exact shown_cut hc hv hl
      · have e : v = shown c := by
          have := hv.length_le
          exact hv.eq_of_length (by omega)
        have := den_shown hc []
        rw [List.append_nil] at this
        rw [e, this]
        rfl
    · rw [den_shown hc, den_cut (fun d hd => h d (List.mem_cons_of_mem _ hd)) hw]
      rfl
theorem one_34 {v : List Int} (h : den true true 34 v = none) : one (34 :: v) = .bad := by
  have hq : quotedT (34 :: v) = .bad := by
    unfold quotedT
    rw [if_pos (by simp [List.isPrefixOf]), List.drop_succ_cons, List.drop_zero, h]
  unfold one takers
  rw [hq]
  have h1 : markT (34 :: v) = .no := by unfold markT markL; simp [List.isPrefixOf]
  have h2 : spanL letterDigit (34 :: v) = 0 := by unfold spanL; rw [List.takeWhile_cons, if_neg (by decide)]; rfl
  have h3 : nameT (34 :: v) = .no := by unfold nameT; rw [h2, List.drop_zero, if_neg (by unfold colonB; simp [List.isPrefixOf])]
  have h4 : wordT (34 :: v) = .no := by unfold wordT; rw [h2, if_pos rfl]
  have h5 : varT (34 :: v) = .no := by unfold varT; rw [if_neg (by simp [List.isPrefixOf])]
  rw [h1, h3, h4, h5]
  rfl
/-- A string and what comes behind it, cut. -/
theorem cut_quote {l : List Int} (hb : ∀ c ∈ l, IsByte c) {tl : List Int} (ht : ∀ {u : List Int}, u <+: tl → ∀ p, NoEnd (toks u p).1) {u : List Int} (hu : u <+: quoteL l ++ tl) (p : Nat) : NoEnd (toks u p).1 := by
  rcases prefix_cases hu with hu | ⟨v, rfl, hv⟩
  · have hq : quoteL l = 34 :: (l.flatMap shown ++ [34]) := rfl
    rw [hq] at hu
    rcases prefix_cons hu with rfl | ⟨v, rfl, hv⟩
    · rw [toks_nil]; exact .nil
    · have hbad : ∀ v, v <+: l.flatMap shown → NoEnd (toks (34 :: v) p).1 := fun v hv => by
        rw [toks_none p (by rw [skF, if_neg (by decide), if_neg (by decide)]) (fun x n e => by rw [one_34 (den_cut hb hv)] at e; cases e)]
        exact .nil
      rcases prefix_cases hv with hv | ⟨w, rfl, hw⟩
      · exact hbad v hv
      · rcases prefix_cons hw with rfl | ⟨z, rfl, hz⟩
        · rw [List.append_nil]; exact hbad _ (List.prefix_refl _)
        · obtain rfl : z = [] := List.eq_nil_of_prefix_nil hz
          have e : 34 :: (l.flatMap shown ++ [34]) = quoteL l ++ [] := by rw [List.append_nil]; rfl
          rw [e, toks_one (sk_quote _ _) (quote_ne _ _) (one_quote hb), List.drop_left, toks_nil]
          exact .cons rfl .nil
  · rw [toks_one (sk_quote _ _) (quote_ne _ _) (one_quote hb), List.drop_left]
    exact .cons rfl (ht hv _)
theorem cut_term {k : Int} {t x : ByteArray} (h : mayS k t x = true) {u : List Int} (hu : u <+: textL k t x) (p : Nat) : NoEnd (toks u p).1 := by
  have hb := bs_byte t
  unfold mayS at h
  by_cases h1 : k = 1
  · subst h1
    rw [if_pos rfl, Bool.and_eq_true] at h
    exact cut_iri h.2 hu p
  rw [if_neg h1] at h
  by_cases h2 : k = 2
  · subst h2
    rw [if_pos rfl, Bool.and_eq_true] at h
    exact cut_blank h.2 hu p
  rw [if_neg h2] at h
  by_cases h3 : k = 3
  · subst h3
    have e : textL 3 t x = quoteL (bs t) ++ [] := by rw [List.append_nil]; rfl
    rw [e] at hu
    refine cut_quote hb (fun {u} hu p => ?_) hu p
    obtain rfl : u = [] := List.eq_nil_of_prefix_nil hu
    rw [toks_nil]; exact .nil
  rw [if_neg h3] at h
  by_cases h4 : k = 4
  · subst h4
    rw [if_pos rfl, Bool.and_eq_true] at h
    have htag : tagL (bs x) = true := by rw [← tagS_any]; exact h.1
    exact cut_quote (tl := 64 :: bs x) hb (fun hu p => cut_lang htag hu p) hu p
  rw [if_neg h4] at h
  by_cases h5 : k = 5
  · subst h5
    rw [if_pos rfl, Bool.and_eq_true] at h
    have hi : isIRIB (bs x) = true := by have := h.1; unfold isTypeB at this; rw [Bool.and_eq_true] at this; exact this.2
    exact cut_quote (tl := 94 :: 94 :: 60 :: (bs x ++ [62])) hb (fun hu p => cut_type hi hu p) hu p
  · rw [if_neg h5] at h
    cases h
theorem noEnd_syms {a : TermD} {p : Nat} : NoEnd (symsD a p) := by
  unfold symsD symsOf
  intro y hy
  split at hy
  · simp at hy; rw [hy]; rfl
  · split at hy
    · simp at hy; rw [hy]; rfl
    · split at hy
      · simp at hy; rw [hy]; rfl
      · split at hy
        · simp at hy
          rcases hy with rfl | rfl <;> rfl
        · simp at hy
          rcases hy with rfl | rfl | rfl <;> rfl
theorem toks_term2 {a : TermD} (h : mayD a = true) (r : List Int) (p : Nat) : (toks (textL a.1 a.2.1 a.2.2 ++ 32 :: r) p).1 = symsD a p ++ (toks r (p + lenD a + 1)).1 := by rw [toks_term h]; rfl
/-- A triple's text that is cut within has no end. -/
theorem cut_triple {t : TripD} (h : addT t = true) {u : List Int} (hu : u <+: tripleL t.1 t.2.1 t.2.2) (hl : u.length < (tripleL t.1 t.2.1 t.2.2).length) (p : Nat) : NoEnd (toks u p).1 := by
  obtain ⟨h1, h2, h3⟩ := add_mays h
  have e : tripleL t.1 t.2.1 t.2.2 = textL t.1.1 t.1.2.1 t.1.2.2 ++ 32 :: (textL t.2.1.1 t.2.1.2.1 t.2.1.2.2 ++ 32 :: (textL t.2.2.1 t.2.2.2.1 t.2.2.2.2 ++ [32, 46])) := rfl
  rw [e] at hu hl
  rcases prefix_cases hu with hu | ⟨v1, rfl, hv1⟩
  · exact cut_term h1 hu p
  rcases prefix_cons hv1 with rfl | ⟨v2, rfl, hv2⟩
  · rw [List.append_nil]; exact cut_term h1 (List.prefix_refl _) p
  rw [toks_term2 h1]
  refine noEnd_syms.app ?_
  rcases prefix_cases hv2 with hv2 | ⟨v3, rfl, hv3⟩
  · exact cut_term h2 hv2 _
  rcases prefix_cons hv3 with rfl | ⟨v4, rfl, hv4⟩
  · rw [List.append_nil]; exact cut_term h2 (List.prefix_refl _) _
  rw [toks_term2 h2]
  refine noEnd_syms.app ?_
  rcases prefix_cases hv4 with hv4 | ⟨v5, rfl, hv5⟩
  · exact cut_term h3 hv4 _
  rcases prefix_cons hv5 with rfl | ⟨v6, rfl, hv6⟩
  · rw [List.append_nil]; exact cut_term h3 (List.prefix_refl _) _
  rw [toks_term2 h3]
  refine noEnd_syms.app ?_
  rcases prefix_cons hv6 with rfl | ⟨v7, rfl, hv7⟩
  · rw [toks_nil]; exact .nil
  · exfalso
    simp only [List.length_append, List.length_cons, List.length_nil] at hl
    omega
theorem stm_end {L l : List Sym} {t : TripD} (h : stmS L = .yes t l) : ∃ y ∈ L, isEnd y = true := by
  unfold stmS at h
  cases ht : threeS 3 L with
  | no l' => rw [ht] at h; cases h
  | yes ts l' =>
    rw [ht] at h
    obtain ⟨h1, k, rfl, _⟩ := threeS_sub ht
    match ts, h1 with
    | [a, b, c], _ =>
      simp only [tripS] at h
      split at h
      · cases hl : L.drop k with
        | nil => rw [hl] at h; cases h
        | cons x r =>
          rw [hl, endS] at h
          split at h
          · rename_i he
            exact ⟨x, List.mem_of_mem_drop (i := k) (by rw [hl]; simp), he⟩
          · cases h
      · cases h
theorem parse_noEnd {L : List Sym} (h : NoEnd L) (hn : L ≠ []) : ∃ l, parseS L = .no l := by
  rw [parseS_cons L hn]
  cases hs : stmS L with
  | no l => exact ⟨l, rfl⟩
  | yes t l =>
    obtain ⟨y, hy, he⟩ := stm_end hs
    rw [h y hy] at he
    cases he
end Go.Proofs.YtfldpfomecjdkaaGreatDoor
/-
  PLAIN MATHEMATICS: a text of triples that is cut.
-/

namespace Go.Proofs.YtfldpfomecjdkaaGreatDoor
open Go.RowKit
open Utf Term Lex
set_option linter.unusedVariables false

/-- Where the k-th line ends. -/
def endK (ts : List TripD) (k : Nat) : Nat := (textsL (ts.take k)).length
theorem endK_zero (ts : List TripD) : endK ts 0 = 0 := by simp [endK, textsL]
theorem endK_next {ts : List TripD} {k : Nat} {t : TripD} (h : ts[k]? = some t) : endK ts (k + 1) = endK ts k + (tripleL t.1 t.2.1 t.2.2).length + 1 := by
  unfold endK
  rw [take_snoc h, textsL_snoc, List.length_append]
  unfold lineT
  simp
  omega
theorem endK_mono {ts : List TripD} {j k : Nat} (h : j ≤ k) : endK ts j ≤ endK ts k := by
  unfold endK
  have e : ts.take k = ts.take j ++ (ts.take k).drop j := by
    conv => lhs; rw [← List.take_append_drop j (ts.take k), List.take_take, Nat.min_eq_left h]
  rw [e]
  unfold textsL
  rw [List.flatMap_append, List.length_append]
  omega
theorem all_take {ts : List TripD} (h : ts.all addT = true) (k : Nat) : (ts.take k).all addT = true := by
  rw [List.all_eq_true] at h ⊢
  exact fun x hx => h x (List.mem_of_mem_take hx)
theorem texts_split (ts : List TripD) (k : Nat) : textsL ts = textsL (ts.take k) ++ textsL (ts.drop k) := by
  unfold textsL
  rw [← List.flatMap_append, List.take_append_drop]
theorem texts_at {ts : List TripD} {k : Nat} {t : TripD} (h : ts[k]? = some t) : textsL ts = textsL (ts.take k) ++ (tripleL t.1 t.2.1 t.2.2 ++ (10 :: textsL (ts.drop (k + 1)))) := by
  have hk := (List.getElem?_eq_some_iff.1 h)
  rw [texts_split ts k, List.drop_eq_getElem_cons hk.1, hk.2]
  show _ ++ ((tripleL t.1 t.2.1 t.2.2 ++ [10]) ++ textsL (ts.drop (k + 1))) = _
  rw [List.append_assoc (tripleL t.1 t.2.1 t.2.2)]
  rfl
theorem valid_triple {t : TripD} (h : addT t = true) : valid (tripleL t.1 t.2.1 t.2.2) = true := by
  obtain ⟨h1, h2, h3⟩ := add_mays h
  obtain ⟨v1, l1⟩ := text_valid (k := t.1.1) (t := t.1.2.1) (x := t.1.2.2) h1
  obtain ⟨v2, l2⟩ := text_valid (k := t.2.1.1) (t := t.2.1.2.1) (x := t.2.1.2.2) h2
  obtain ⟨v3, l3⟩ := text_valid (k := t.2.2.1) (t := t.2.2.2.1) (x := t.2.2.2.2) h3
  have el : tripleL t.1 t.2.1 t.2.2 = textL t.1.1 t.1.2.1 t.1.2.2 ++ ([32] ++ (textL t.2.1.1 t.2.1.2.1 t.2.1.2.2 ++ ([32] ++ (textL t.2.2.1 t.2.2.2.1 t.2.2.2.2 ++ [32, 46])))) := rfl
  rw [el, valid_join (by omega) (by simp; omega) v1, valid_join (by simp) (by simp; omega) (valid_one 32 (by decide)), valid_join (by omega) (by simp; omega) v2, valid_join (by simp) (by simp; omega) (valid_one 32 (by decide)), valid_join (by omega) (by simp) v3]
  exact valid_ascii (by simp) (by simp)
/-- Without the last line's byte 10. -/
theorem doc_text2 {A : List TripD} {t : TripD} (h : A.all addT = true) (ht : addT t = true) {s : ByteArray} (hs : bs s = textsL A ++ tripleL t.1 t.2.1 t.2.2) (hl : s.size ≤ 1048576) : docS s = .good (A ++ [t]) := by
  have hz : s.size = (textsL A).length + (tripleL t.1 t.2.1 t.2.2).length := by rw [← bs_length, hs, List.length_append]
  obtain ⟨L, h1, h2⟩ := parse_lines A 0 (tripleL t.1 t.2.1 t.2.2) h
  have h3 := toks_triple ht [] (0 + (textsL A).length)
  rw [List.append_nil, toks_nil] at h3
  have hv : valid (textsL A ++ tripleL t.1 t.2.1 t.2.2) = true := by
    obtain ⟨ra, a1, a2⟩ := (valid_iff (by omega)).1 (lines_valid A h (by omega))
    obtain ⟨rb, b1, b2⟩ := (valid_iff (by omega)).1 (valid_triple ht)
    refine (valid_iff (by rw [List.length_append]; omega)).2 ⟨ra ++ rb, a1.append b1, ?_⟩
    rw [encs_append, ← a2, ← b2]
  have hw := wf_of_valid hv
  have hlt : (tripleL t.1 t.2.1 t.2.2).length = lenD t.1 + 1 + lenD t.2.1 + 1 + lenD t.2.2 + 1 + 1 := by
    have := lineT_len t
    unfold lineT at this
    rw [List.length_append, List.length_singleton] at this
    omega
  have ha : allL (textsL A ++ tripleL t.1 t.2.1 t.2.2) = (L ++ lineSyms t (0 + (textsL A).length), (textsL A).length + (tripleL t.1 t.2.1 t.2.2).length) := by
    unfold allL
    rw [h1, h3, hlt]
    simp only [List.append_nil, Prod.mk.injEq, true_and]
    omega
  unfold docS
  rw [hs, if_neg (by omega), hw, List.length_append, if_neg (by omega), ha]
  simp only
  rw [if_neg (by omega), h2]
  have := stm_line ht (0 + (textsL A).length) []
  rw [List.append_nil] at this
  have hne : lineSyms t (0 + (textsL A).length) ≠ [] := by unfold lineSyms; simp
  rw [parseS_cons _ hne, this]
  simp only
  rw [parseS_nil]
  simp [docOf, Par.put]
theorem sk_start {t : TripD} (ht : addT t = true) {q : List Int} (hq : q <+: tripleL t.1 t.2.1 t.2.2) (hn : q ≠ []) : sk false q = 0 := by
  obtain ⟨h1, _⟩ := add_mays ht
  have hd : ∃ c r, tripleL t.1 t.2.1 t.2.2 = c :: r ∧ isWS c = false ∧ c ≠ 35 := by
    have e : tripleL t.1 t.2.1 t.2.2 = textL t.1.1 t.1.2.1 t.1.2.2 ++ 32 :: (textL t.2.1.1 t.2.1.2.1 t.2.1.2.2 ++ 32 :: (textL t.2.2.1 t.2.2.2.1 t.2.2.2.2 ++ [32, 46])) := rfl
    rw [e]
    unfold textL
    split
    · exact ⟨60, _, rfl, by decide, by decide⟩
    · split
      · exact ⟨95, _, rfl, by decide, by decide⟩
      · split
        · exact ⟨34, _, rfl, by decide, by decide⟩
        · split
          · exact ⟨34, _, rfl, by decide, by decide⟩
          · exact ⟨34, _, rfl, by decide, by decide⟩
  obtain ⟨c, r, e, hc1, hc2⟩ := hd
  rw [e] at hq
  rcases prefix_cons hq with rfl | ⟨v, rfl, _⟩
  · exact absurd rfl hn
  · rw [skF, if_neg (by rw [hc1]; decide), if_neg hc2]
theorem doc_partial {A : List TripD} {t : TripD} (h : A.all addT = true) (ht : addT t = true) {q : List Int} (hq : q <+: tripleL t.1 t.2.1 t.2.2) (hl : q.length < (tripleL t.1 t.2.1 t.2.2).length) (hn : q ≠ [])
    {s : ByteArray} (hs : bs s = textsL A ++ q) (hz : s.size ≤ 1048576) : ∃ p, docS s = .bad p 4 := by
  have hzz : s.size = (textsL A).length + q.length := by rw [← bs_length, hs, List.length_append]
  unfold docS
  rw [if_neg (by omega)]
  split
  · exact ⟨_, rfl⟩
  · split
    · exact ⟨_, rfl⟩
    · rename_i h2
      obtain ⟨L, h1, h3⟩ := parse_lines A 0 q h
      have hne : (toks q (0 + (textsL A).length)).1 ≠ [] := by
        intro e
        have hsk := sk_start ht hq hn
        have e2 : (toks q (0 + (textsL A).length)).2 = 0 + (textsL A).length := by
          rw [toks_eq, hsk, List.drop_zero, if_neg hn]
          rw [toks_eq, hsk, List.drop_zero, if_neg hn] at e
          cases ho : one q with
          | no => rfl
          | bad => rfl
          | got x m => rw [ho] at e; cases e
        have e3 : (allL (bs s)).2 = 0 + (textsL A).length := by
          unfold allL
          rw [hs, h1]
          exact e2
        have : 0 < q.length := List.length_pos_iff.2 hn
        omega
      obtain ⟨l, hp⟩ := parse_noEnd (cut_triple ht hq hl _) hne
      have e : parseS (allL (bs s)).1 = .no l := by
        unfold allL
        rw [hs, h1]
        show parseS (L ++ (toks q (0 + (textsL A).length)).1) = _
        rw [h3, hp]
        rfl
      rw [e]
      exact ⟨_, rfl⟩

/-- What a cut text is. -/
theorem doc_cut {ts : List TripD} (h : ts.all addT = true) (hl : (textsL ts).length ≤ 1048576) {c n : Nat} (hc : c ≤ (textsL ts).length) (hn : n ≤ ts.length) (h1 : 0 < n → endK ts n ≤ c + 1) (h2 : ∀ j, n ≤ j → j < ts.length → c + 1 < endK ts (j + 1)) :
    (c ≤ endK ts n → docS ((strOfNums (textsL ts)).extract 0 c) = .good (ts.take n)) ∧ (endK ts n < c → ∃ p, docS ((strOfNums (textsL ts)).extract 0 c) = .bad p 4) := by
  have hb : bs ((strOfNums (textsL ts)).extract 0 c) = (textsL ts).take c := by rw [bs_first, bs_strOfNums (lines_byte ts)]
  have hz : ((strOfNums (textsL ts)).extract 0 c).size = c := by rw [← bs_length, hb, List.length_take]; omega
  constructor
  · intro hle
    by_cases he : c = endK ts n
    · have e : (textsL ts).take c = textsL (ts.take n) := by
        rw [he, texts_split ts n]
        unfold endK
        rw [List.take_left]
      have e2 : (strOfNums (textsL ts)).extract 0 c = strOfNums (textsL (ts.take n)) := (str_of (by rw [hb, e])).symm
      rw [e2]
      refine doc_text (all_take h n) ?_
      have := List.length_take (l := textsL ts) (i := c)
      rw [e] at this
      omega
    · have hn0 : 0 < n := by
        rcases Nat.eq_zero_or_pos n with rfl | h
        · rw [endK_zero] at hle he; omega
        · exact h
      have := h1 hn0
      obtain ⟨m, rfl⟩ : ∃ m, n = m + 1 := ⟨n - 1, by omega⟩
      obtain ⟨t, ht⟩ : ∃ t, ts[m]? = some t := ⟨_, List.getElem?_eq_getElem (by omega)⟩
      have hk := endK_next ht
      rw [take_snoc ht]
      refine doc_text2 (all_take h m) (List.all_eq_true.1 h t (List.mem_of_getElem? ht)) ?_ (by omega)
      rw [hb, texts_at ht, ← List.append_assoc]
      have hcl : c = (textsL (ts.take m) ++ tripleL t.1 t.2.1 t.2.2).length := by
        rw [List.length_append]
        unfold endK at hk
        unfold endK at this he hle
        omega
      rw [hcl, List.take_left]
  · intro hgt
    have hnl : n < ts.length := by
      rcases Nat.lt_or_ge n ts.length with h | h
      · exact h
      · have e : endK ts n = (textsL ts).length := by unfold endK; rw [List.take_of_length_le h]
        omega
    obtain ⟨t, ht⟩ : ∃ t, ts[n]? = some t := ⟨_, List.getElem?_eq_getElem hnl⟩
    have hk := endK_next ht
    have hlt := h2 n (Nat.le_refl _) hnl
    have hadd := List.all_eq_true.1 h t (List.mem_of_getElem? ht)
    have e : (textsL ts).take c = textsL (ts.take n) ++ (tripleL t.1 t.2.1 t.2.2).take (c - endK ts n) := by
      rw [texts_at ht, List.take_append, List.take_append]
      have e1 : (textsL (ts.take n)).take c = textsL (ts.take n) := List.take_of_length_le (by unfold endK at hgt; omega)
      have e2 : c - (textsL (ts.take n)).length - (tripleL t.1 t.2.1 t.2.2).length = 0 := by unfold endK at hk hlt; omega
      rw [e1, e2, List.take_zero, List.append_nil]
      rfl
    refine doc_partial (all_take h n) hadd (List.take_prefix _ _) ?_ ?_ (by rw [hb, e]) (by omega)
    · rw [List.length_take]; omega
    · intro e0
      have := congrArg List.length e0
      rw [List.length_take, List.length_nil] at this
      omega
end Go.Proofs.YtfldpfomecjdkaaGreatDoor
/-
  THE CONTRACT OF the law's same; append of a slice of triples behind a guard.
-/

namespace Go.Proofs.YtfldpfomecjdkaaGreatDoor
open Go.RowKit
open Utf Term Lex
set_option linter.unusedVariables false
set_option linter.unusedSimpArgs false

set_option maxRecDepth 100000 in
set_option maxHeartbeats 4000000 in
theorem same5_any (v u : Value) (ds : List TripD) (w : World) (hv : SliceT w v ds) (hu : SliceT w u ds) :
    Calls Tryz.prog 20 #[v, u] w fun e w' => e = .returned (.bool true) ∧ Below w.heap.size w w' := by
  obtain ⟨p, cap, rfl, hp⟩ : ∃ p cap, v = .slice p ds.length cap ∧ ∀ k, k < ds.length → ∃ b off, p = some ⟨b, off, none⟩ ∧ RowC w b off (cellsT ds) := by
    rcases hv with ⟨rfl, rfl⟩ | ⟨b, off, cap, rfl, h1, h2, hr⟩
    · exact ⟨_, _, rfl, fun k h => absurd h (by simp)⟩
    · exact ⟨_, _, rfl, fun k h => ⟨b, off, rfl, hr⟩⟩
  obtain ⟨q, cap2, rfl, hq, hmx⟩ : ∃ p cap, u = .slice p ds.length cap ∧ (∀ k, k < ds.length → ∃ b off, p = some ⟨b, off, none⟩ ∧ RowC w b off (cellsT ds)) ∧ ds.length ≤ 9223372036854775807 := by
    rcases hu with ⟨rfl, rfl⟩ | ⟨b, off, cap, rfl, h1, h2, hr⟩
    · exact ⟨_, _, rfl, fun k h => absurd h (by simp), by simp⟩
    · exact ⟨_, _, rfl, fun k h => ⟨b, off, rfl, hr⟩, by unfold maxLen at h2; omega⟩
  have HP := Lib.hid hp
  have HQ := Lib.hid hq
  obtain ⟨n, hnn⟩ : ∃ n, n = ds.length := ⟨_, rfl⟩
  have HN := Lib.hid hnn
  rw [← hnn] at HP HQ hmx ⊢
  clear hp hq hnn hv hu
  go_enter Tryz.func20, Tryz.ntmps20
  go_wp2_with fail
  go_loopg [5] n (fun gk i wr => ∃ j q : Nat, j ≤ n ∧ n - j ≤ gk ∧ i = .int .i64 j ∧ wr = w.drewN q)
  case atStart => exact ⟨0, 0, Nat.zero_le _, by omega, rfl, rfl⟩
  case round =>
    obtain ⟨j, q, hj, hg, rfl, rfl⟩ := hrel
    by_cases hlt : j < n
    · obtain ⟨x, hx⟩ : ∃ x, ds[j]? = some x := ⟨_, List.getElem?_eq_getElem (by have := HN.out; omega)⟩
      have d1 : decide ((j : Int) < (n : Int)) = true := by simpa using hlt
      have i0 : (0 : Int) ≤ (j : Int) := by omega
      have i1 : (j : Int) < (n : Int) := by omega
      obtain ⟨g, o, rfl, nx⟩ := HP.out j hlt
      obtain ⟨g', o', rfl, ny⟩ := HQ.out j hlt
      obtain ⟨c0, c1, c2, c3, c4, c5, c6, c7, c8⟩ := nx.nine hx
      obtain ⟨e0, e1, e2, e3, e4, e5, e6, e7, e8⟩ := ny.nine hx
      have nn := trip_neq x x
      rw [decide_eq_true rfl] at nn
      clear hx nx ny
      go_wp2_with fail
      go_quiet (fail)
      go_wp2_with fail
      go_roundg (n - (j + 1))
      case measure => omega
      case rel => exact ⟨j + 1, _, by omega, Nat.le_refl _, by go_num, rfl⟩
    · obtain rfl : j = n := by omega
      have d1 : decide ((j : Int) < (j : Int)) = false := by simp
      go_wp2_with fail
      go_ret
      exact ⟨rfl, ⟨rfl, rfl, rfl, Nat.le_refl _, fun _ _ => rfl⟩⟩

section
variable {w : World} {ops : Array Oper} {rest : List Oper} {o : Oper} {a : Act} {Q : Exit → Act → World → Prop}
theorem wpList_append_sliceG (hgd : Region.wanted o (yielded ops a.tmps) = true) (s x : Operand) (ho : o.op = .call { callee := .builtin .append, args := #[s, x], argTypes := #[45, 45] })
    (base : Nat) (vb : Value) (bs : List TripD) (hs : a.eval s = vb) (hown : w.ownsRow base 51 9 vb bs.length (cellsT bs)) (v : Value) (ds : List TripD) (hx : a.eval x = v) (hv : SliceT w v ds)
    (hb : bs.length ≤ 1000000000) (hd : ds.length ≤ 1000000000) (hbase : base ≤ w.heap.size)
    (h : ∀ v' w', w'.ownsRow base 51 9 v' (bs ++ ds).length (cellsT (bs ++ ds)) → Below base w w' → wpList Tryz.prog ops Q rest (a.put o.dst v') w') : wpList Tryz.prog ops Q (o :: rest) a w := by
  refine wpList_step fun K hK => ?_
  rw [if_pos hgd]
  obtain ⟨v', w', hrun, r1, r2⟩ := run_append_slice w o.type base vb bs hown v ds hv hb hd hbase
  unfold Oper.wp
  simp [execOp, ho, resolve, invoke, builtin, hs, hx, hrun, Result.andThen]
  exact hK _ _ (h v' w' r1 r2)
end
end Go.Proofs.YtfldpfomecjdkaaGreatDoor
/-
  THE CONTRACT OF the law's known.
-/

namespace Go.Proofs.YtfldpfomecjdkaaGreatDoor
open Go.RowKit
open Utf Term Lex
set_option linter.unusedVariables false
set_option linter.unusedSimpArgs false

theorem doc_a : docS ⟨#[60, 97, 62, 32, 60, 98, 62, 32, 34, 99, 34, 32, 46, 32, 35, 32, 100]⟩ = .good [((1, ⟨#[97]⟩, ⟨#[]⟩), (1, ⟨#[98]⟩, ⟨#[]⟩), (3, ⟨#[99]⟩, ⟨#[]⟩))] := by kernel_rfl
theorem doc_b : docS ⟨#[60, 97, 62, 32, 34, 98, 34, 32, 60, 99, 62, 32, 46]⟩ = .bad 0 4 := by kernel_rfl
theorem num5_any (n : Int) (w : World) : Calls Tryz.prog 21 #[.int .i64 n] w fun e w' => e = .returned (.int .i64 n) ∧ w = w' := by
  go_enter Tryz.func21, Tryz.ntmps21
  go_wp2
  go_ret
  exact ⟨rfl, rfl⟩
theorem plain_c (w : World) : (binOp .eql 31 (.agg #[.int .i64 3, .string ⟨#[99]⟩, .string ⟨#[]⟩]) (.agg #[.int .i64 3, .string ⟨#[99]⟩, .string ⟨#[]⟩])).run Tryz.prog w = .ok (.bool true) w := by
  kernel_rfl

set_option maxRecDepth 100000 in
set_option maxHeartbeats 8000000 in
theorem known5_any (w : World) (hv : LexEnv w) (hrp : Hrp w.heap.size) : Calls Tryz.prog 16 #[] w fun e w' => e = .returned (.bool true) ∧ Below w.heap.size w w' := by
  have HA := ntParse_any ⟨#[60, 97, 62, 32, 60, 98, 62, 32, 34, 99, 34, 32, 46, 32, 35, 32, 100]⟩ (by decide) w hv hrp
  rw [doc_a] at HA
  have HA := Lib.hid HA
  have HC : Hid (∀ W, Below w.heap.size w W → Calls Tryz.prog 17 #[.string ⟨#[60, 97, 62, 32, 34, 98, 34, 32, 60, 99, 62, 32, 46]⟩] W fun e w' => e = .returned (.tuple #[.slice none 0 0, .int .i64 0, .int .i64 4]) ∧ Below W.heap.size W w') := Lib.hid (fun W hW => by
    have := ntParse_any ⟨#[60, 97, 62, 32, 34, 98, 34, 32, 60, 99, 62, 32, 46]⟩ (by decide) W (hv.below hW) (hrp.le hW.size)
    rw [doc_b] at this
    exact this.mono fun e w' h => ⟨h.2, h.1⟩)
  have PC := plain_c
  clear hv hrp
  go_enter Tryz.func16, Tryz.ntmps16
  go_upto_region 2 with (go_at_call 17; refine HA.out.mono ?_; rintro e y ⟨hY, v, rfl, ho⟩)
  rcases owns_slice ho with ⟨_, h⟩ | ⟨g, o, cap, rfl, h1, h2, hrow⟩
  · cases h
  have HCy := Lib.hid (HC.out y hY)
  have HR := Lib.hid hrow
  have HY := Lib.hid hY
  clear ho hY hrow HA HC
  go_upto_region 3 with (go_at_call 17; refine HCy.out.mono ?_; rintro e y2 ⟨rfl, hY2⟩)
  have n2 := (HR.out.below hY2).nine (p := 0) rfl
  obtain ⟨c0, c1, c2, c3, c4, c5, c6, c7, c8⟩ := n2
  simp only [Nat.zero_mul, Nat.add_zero] at c0 c1 c2 c3 c4 c5 c6 c7 c8
  have HB := Lib.hid (HY.out.trans (hY2.mono HY.out.size))
  clear hY2 c0 c1 c2 c3 c4 c5 HCy
  simp only [List.length_singleton] at *
  go_wp2_with (go_at_call 21; refine (num5_any _ _).mono ?_; rintro e z ⟨rfl, rfl⟩)
  go_ret
  exact ⟨rfl, HB.out⟩
end Go.Proofs.YtfldpfomecjdkaaGreatDoor
/-
  THE WALK OF TripleWrites.
-/

namespace Go.Proofs.YtfldpfomecjdkaaGreatDoor
open Go.RowKit
open Utf Term Lex
set_option linter.unusedVariables false
set_option linter.unusedSimpArgs false

def SmallT (t : TripD) : Prop := Small t.1 ∧ Small t.2.1 ∧ Small t.2.2
theorem SmallT.short {t : TripD} (h : SmallT t) : ShortT t := by
  obtain ⟨⟨h1, h2⟩, ⟨h3, h4⟩, h5, h6⟩ := h
  exact ⟨⟨by omega, by omega⟩, ⟨by omega, by omega⟩, ⟨by omega, by omega⟩⟩
theorem SmallT.fits {t : TripD} (h : SmallT t) : FitsT t := by
  obtain ⟨⟨h1, h2⟩, ⟨h3, h4⟩, h5, h6⟩ := h
  exact ⟨⟨by omega, by omega⟩, ⟨by omega, by omega⟩, ⟨by omega, by omega⟩⟩
theorem much_nt (v : Value) (ds : List TripD) (most : Nat) (hm : most ≤ 1000000) (w : World) (hv : SliceT w v ds) :
    Calls Tryz.prog 23 #[v, .int .i64 most] w fun e w' => ∃ r, e = .returned (.bool r) ∧ (r = false → ds.length ≤ most ∧ ∀ t ∈ ds, SmallT t) ∧ Below w.heap.size w w' := by
  rcases hv with ⟨rfl, rfl⟩ | ⟨b, off, cap, rfl, h1, h2, hr⟩
  · exact (much_nil most hm w).mono fun e w' ⟨he, hB⟩ => ⟨false, he, fun _ => ⟨Nat.zero_le _, by simp⟩, hB⟩
  · refine (much_any b off ds.length cap most (termsT ds) (termsT_length ds) (by unfold maxLen at h2; omega) hm w (rowT_of hr)).mono ?_
    rintro e w' ⟨r, he, hB, hf⟩
    refine ⟨r, he, fun h => ?_, hB⟩
    obtain ⟨g1, g2⟩ := hf h
    rw [termsT_length] at g1
    refine ⟨by omega, fun t ht => ?_⟩
    have hmem : ∀ q, q = t.1 ∨ q = t.2.1 ∨ q = t.2.2 → q ∈ termsT ds := fun q hq => by
      refine List.mem_flatMap.2 ⟨t, ht, ?_⟩
      simp only [List.mem_cons, List.not_mem_nil, or_false]
      exact hq
    exact ⟨g2 _ (hmem _ (.inl rfl)), g2 _ (hmem _ (.inr (.inl rfl))), g2 _ (hmem _ (.inr (.inr rfl)))⟩

end Go.Proofs.YtfldpfomecjdkaaGreatDoor
/-
  THE WALK OF TripleCuts.
-/

namespace Go.Proofs.YtfldpfomecjdkaaGreatDoor
open Go.RowKit
open Utf Term Lex
set_option linter.unusedVariables false
set_option linter.unusedSimpArgs false

/-- A slice's first elements. -/
theorem sliceT_first {w : World} {v : Value} {ds : List TripD} (h : SliceT w v ds) : ∃ p cap, v = .slice p ds.length cap ∧ ds.length ≤ cap ∧ cap ≤ maxLen ∧ (p = none ∨ ∃ b off, p = some ⟨b, off, none⟩) ∧
    (∀ k, k < ds.length → ∃ b off, p = some ⟨b, off, none⟩ ∧ RowC w b off (cellsT ds)) ∧ ∀ k, k ≤ ds.length → SliceT w (.slice p k cap) (ds.take k) := by
  rcases h with ⟨rfl, rfl⟩ | ⟨b, off, cap, rfl, h1, h2, hr⟩
  · exact ⟨none, 0, rfl, Nat.le_refl _, Nat.zero_le _, .inl rfl, fun k h => absurd h (by simp), fun k h => by
      obtain rfl : k = 0 := by simpa using h
      exact .inl ⟨rfl, rfl⟩⟩
  · refine ⟨some ⟨b, off, none⟩, cap, rfl, h1, h2, .inr ⟨b, off, rfl⟩, fun k h => ⟨b, off, rfl, hr⟩, fun k h => .inr ⟨b, off, cap, ?_, ?_, h2, ?_⟩⟩
    · rw [List.length_take, Nat.min_eq_left h]
    · rw [List.length_take, Nat.min_eq_left h]; omega
    · intro j u hu
      refine hr j u ?_
      have e : cellsT ds = cellsT (ds.take k) ++ cellsT (ds.drop k) := by
        unfold cellsT
        rw [← List.flatMap_append, List.take_append_drop]
      rw [e, List.getElem?_append_left (List.getElem?_eq_some_iff.1 hu).1]
      exact hu

theorem run_slice_first {p : Option Addr} (n cap k : Nat) (hp : p = none ∨ ∃ b off, p = some ⟨b, off, none⟩) (hk : k ≤ cap) (W : World) :
    (Instr.slice 45 (.slice p n cap) none (some (.int .i64 (k : Int))) none).run Tryz.prog W = .ok (.slice p k cap) W := by
  have h0 : (0 : Int) ≤ (k : Int) := by omega
  have h1 : (k : Int) ≤ (cap : Int) := by omega
  have hz : (sizeOf 51).run Tryz.prog W = .ok 9 W := by kernel_rfl
  rcases hp with rfl | ⟨b, off, rfl⟩
  · simp [Instr.slice, run_underlying Tryz.underlying45, Instr.sliceBounds, Instr.sliceBound, asIntOf, h0, h1, hz, go_sem]
    exact fun h => absurd h (by omega)
  · simp [Instr.slice, run_underlying Tryz.underlying45, Instr.sliceBounds, Instr.sliceBound, asIntOf, h0, h1, hz, go_sem, Addr.add]
    exact fun h => absurd h (by omega)

theorem all_of_good {ts : List TripD} {T : ByteArray} (h : textR ts = (T, 0)) : ts.all addT = true ∧ (textsL ts).length ≤ 1048576 ∧ T = strOfNums (textsL ts) := by
  unfold textR at h
  split at h
  · split at h
    · cases h
    · injection h with h1 h2
      exact ⟨by assumption, by omega, h1.symm⟩
  · cases h

set_option maxRecDepth 100000 in
set_option maxHeartbeats 8000000 in
theorem tripleCuts_walk (v : Value) (ds : List TripD) (q : Int) (w : World) (hv : SliceT w v ds) (hwf : ∀ t ∈ ds, FitsT t) (he : LexEnv w) (hrp : Hrp w.heap.size) :
    Calls Tryz.prog 5 #[v, .int .i64 q] w fun e w' => e = .returned (.bool true) ∧ Below w.heap.size w w' := by
  have HM : Hid (∀ W, Below w.heap.size w W → Calls Tryz.prog 23 #[v, .int .i64 60] W fun e w' => ∃ r, e = .returned (.bool r) ∧ (r = false → ds.length ≤ 60 ∧ ∀ t ∈ ds, SmallT t) ∧ Below W.heap.size W w') :=
    Lib.hid (fun W h => much_nt v ds 60 (by decide) W (hv.below h))
  obtain ⟨p, cap, rfl, hc1, hc2, hpo, hp, hfirst⟩ := sliceT_first hv
  have HRn := Lib.hid (fun (k : Nat) (hk : k ≤ cap) (W : World) => run_slice_first ds.length cap k hpo hk W)
  have HP := Lib.hid hp
  have HFi := Lib.hid hfirst
  have HT : Hid (∀ k, k ≤ 60 → k ≤ ds.length → Calls Tryz.prog 22 #[.slice p k cap] w fun e w' => e = .returned (.tuple #[.string (textR (ds.take k)).1, .int .i64 (textR (ds.take k)).2]) ∧ Below w.heap.size w w') :=
    Lib.hid (fun k h60 hk => ntText_any _ (ds.take k) (by rw [List.length_take]; omega) (fun t ht => hwf t (List.mem_of_mem_take ht)) w (hfirst k hk) he)
  have HV := Lib.hid hv
  have HE := Lib.hid he
  have HRp := Lib.hid hrp
  have HKn := Lib.hid (fun W (h : Below w.heap.size w W) => known5_any W (he.below h) (hrp.le h.size))
  clear hv he hrp hwf hp hfirst hpo
  obtain ⟨n, hnn⟩ : ∃ n, n = ds.length := ⟨_, rfl⟩
  rw [← hnn] at HM HRn HP HFi HT HV hc1 ⊢
  have HN := Lib.hid hnn
  clear hnn
  have hcx : cap ≤ 9223372036854775807 := by unfold maxLen at hc2; omega
  go_enter Tryz.func5, Tryz.ntmps5
  by_cases h60 : n ≤ 60
  · have hr1 := HRn.out n (by omega)
    have hmn : min (n : Int) 60 = (n : Int) := by omega
    have hTn := HT.out n h60 (Nat.le_refl _)
    have htk : ds.take n = ds := by rw [HN.out, List.take_length]
    rw [htk] at hTn
    obtain ⟨R, hR⟩ : ∃ R, R = textR ds := ⟨_, rfl⟩
    rw [← hR] at hTn
    obtain ⟨T, c⟩ := R
    have HTn := Lib.hid hTn
    have HR := Lib.hid hR
    clear hR hTn htk HT
    go_upto_region 2 with (go_at_call 22; refine HTn.out.mono ?_; rintro e y ⟨rfl, hY⟩)
    have HY := Lib.hid hY
    have HMy := Lib.hid (HM.out y hY)
    clear hY HTn HM hr1 hmn
    by_cases hc0 : c = 0
    · subst hc0
      by_cases hq0 : q < 0
      · have d1 : decide (q < 0) = true := by simpa using hq0
        go_wp2_with (first
          | (go_at_call 23; refine HMy.out.mono ?_; rintro e y2 ⟨r, rfl, hr, hY2⟩; have HY2 := HY.out.trans (hY2.mono HY.out.size))
          | (go_at_call 21; refine (num5_any _ _).mono ?_; rintro e x ⟨rfl, rfl⟩)
          | (go_at_call 16; refine (HKn.out _ HY2).mono ?_; rintro e y3 ⟨rfl, hY3⟩))
        all_goals
          go_ret
          exact ⟨rfl, HY2.trans (hY3.mono HY2.size)⟩
      by_cases hq1 : (T.size : Int) < q
      · have d1 : decide (q < 0) = false := by simpa using hq0
        have d2 : decide ((T.size : Int) < q) = true := by simpa using hq1
        go_wp2_with (first
          | (go_at_call 23; refine HMy.out.mono ?_; rintro e y2 ⟨r, rfl, hr, hY2⟩; have HY2 := HY.out.trans (hY2.mono HY.out.size))
          | (go_at_call 21; refine (num5_any _ _).mono ?_; rintro e x ⟨rfl, rfl⟩)
          | (go_at_call 16; refine (HKn.out _ HY2).mono ?_; rintro e y3 ⟨rfl, hY3⟩))
        all_goals
          go_ret
          exact ⟨rfl, HY2.trans (hY3.mono HY2.size)⟩
      obtain ⟨c, rfl⟩ : ∃ c : Nat, q = (c : Int) := ⟨q.toNat, by omega⟩
      have hcT : c ≤ T.size := by omega
      have d1 : decide ((c : Int) < 0) = false := by simp
      have d2 : decide (T.size < c) = false := by simp; omega
      clear hq0 hq1
      go_upto_if 40 with (first
          | (go_at_call 23; refine HMy.out.mono ?_; rintro e y2 ⟨r, rfl, hr, hY2⟩; have HY2 := Lib.hid (HY.out.trans (hY2.mono HY.out.size)))
          | (go_at_call 21; refine (num5_any _ _).mono ?_; rintro e x ⟨rfl, rfl⟩))
      · go_wp2_with (go_at_call 16; refine (HKn.out _ HY2.out).mono ?_; rintro e y3 ⟨rfl, hY3⟩)
        go_ret
        exact ⟨rfl, HY2.out.trans (hY3.mono HY2.out.size)⟩
      obtain ⟨_, hsm⟩ := hr (by assumption)
      obtain ⟨hall, hlen, rfl⟩ := all_of_good HR.out.symm
      have hLn : endK ds n = (textsL ds).length := by unfold endK; rw [HN.out, List.take_length]
      rw [strOfNums_size] at hcT
      have HEn : Hid (∀ k, k ≤ n → endK ds k ≤ 1048576) := Lib.hid (fun k hk => by have := endK_mono (ts := ds) hk; omega)
      have HTT : Hid (∀ (k : Nat) (x : TripD), ds[k]? = some x → ∀ W, Calls Tryz.prog 24 #[tripleV x.1 x.2.1 x.2.2] W fun e w' => e = .returned (.string (strOfNums (tripleL x.1 x.2.1 x.2.2))) ∧ Below W.heap.size W w') := Lib.hid (fun k x hx W => by
        have hmem := List.mem_of_getElem? hx
        have hs := (hsm x hmem).short
        have hm := add_may (List.all_eq_true.1 hall x hmem)
        simp only [Bool.and_eq_true] at hm
        exact refTripleText_any x.1 x.2.1 x.2.2 hs.1 hs.2.1 hs.2.2 hm.1.1 hm.1.2 hm.2 W)
      have hTl : ((strOfNums (textsL ds)).extract 0 c).size ≤ 1000000000 := by rw [ByteArray.size_extract, strOfNums_size]; omega
      have HPs : Hid (∀ N, N ≤ n → (0 < N → endK ds N ≤ c + 1) → (∀ j, N ≤ j → j < n → c + 1 < endK ds (j + 1)) → ∀ W, Below w.heap.size w W →
          Calls Tryz.prog 17 #[.string ((strOfNums (textsL ds)).extract 0 c)] W fun e w' => ∃ (m : Value) (pp f : Int), e = .returned (.tuple #[m, .int .i64 pp, .int .i64 f]) ∧ Below W.heap.size W w' ∧
            ((c ≤ endK ds N ∧ f = 0 ∧ SliceT w' m (ds.take N)) ∨ (endK ds N < c ∧ f = 4 ∧ m = .slice none 0 0))) := Lib.hid (fun N hN h1 h2 W hW => by
        have hd := doc_cut hall hlen (by omega) (by have := HN.out; omega) h1 (fun j hj hjl => h2 j hj (by have := HN.out; omega))
        have hp := ntParse_any ((strOfNums (textsL ds)).extract 0 c) hTl W (HE.out.below hW) (HRp.out.le hW.size)
        by_cases hcw : c ≤ endK ds N
        · rw [hd.1 hcw] at hp
          refine hp.mono ?_
          rintro e w' ⟨hB, m, rfl, ho⟩
          exact ⟨m, 0, 0, rfl, hB, .inl ⟨hcw, rfl, owns_slice ho⟩⟩
        · obtain ⟨pp, hd⟩ := hd.2 (by omega)
          rw [hd] at hp
          refine hp.mono ?_
          rintro e w' ⟨hB, rfl⟩
          exact ⟨_, _, _, rfl, hB, .inr ⟨by omega, rfl, rfl⟩⟩)
      have HcT := Lib.hid hcT
      clear hall hsm hr hlen hLn hTl HR hY2 HMy hcT d1 d2
      have hTs := strOfNums_size (textsL ds)
      have hcl : c ≤ (strOfNums (textsL ds)).size := by rw [hTs]; exact HcT.out
      generalize strOfNums (textsL ds) = T at *
      clear hTs HcT
      go_wp2_with fail
      go_loopg [7, 8, 9] n (fun gg a b i wr => ∃ k N : Nat, k ≤ n ∧ n - k ≤ gg ∧ a = .int .i64 N ∧ b = .int .i64 (endK ds k) ∧ i = .int .i64 k ∧ N ≤ k ∧ (0 < N → endK ds N ≤ c + 1) ∧ (∀ j, N ≤ j → j < k → c + 1 < endK ds (j + 1)) ∧ Below w.heap.size w wr)
      case atStart => exact ⟨0, 0, Nat.zero_le _, by omega, rfl, by rw [endK_zero]; rfl, rfl, Nat.le_refl _, fun h => absurd h (by omega), fun j _ h => absurd h (by omega), HY2.out⟩
      case round =>
        obtain ⟨k, N, hk, hgg, rfl, rfl, rfl, hNk, hN1, hN2, hB⟩ := hrel
        have HB := Lib.hid hB
        have HN1 := Lib.hid hN1
        have HN2 := Lib.hid hN2
        clear hB hN1 hN2
        by_cases hlt : k < n
        · have d3 : decide ((k : Int) < (n : Int)) = true := by simpa using hlt
          obtain ⟨x, hx⟩ : ∃ x, ds[k]? = some x := ⟨_, List.getElem?_eq_getElem (by have := HN.out; omega)⟩
          obtain ⟨b, off, rfl, hrow⟩ := HP.out k hlt
          obtain ⟨c0, c1, c2, c3, c4, c5, c6, c7, c8⟩ := (hrow.below HB.out).nine hx
          have i0 : (0 : Int) ≤ (k : Int) := by omega
          have i1 : (k : Int) < (n : Int) := by omega
          have hnx := endK_next hx
          have he1 := HEn.out k hk
          have he2 := HEn.out (k + 1) (by omega)
          have HTTx := Lib.hid (HTT.out k x hx)
          rw [← strOfNums_size] at hnx
          generalize strOfNums (tripleL x.1 x.2.1 x.2.2) = S at *
          obtain ⟨E, hE⟩ : ∃ E, E = endK ds k := ⟨_, rfl⟩
          obtain ⟨E', hE'⟩ : ∃ E', E' = endK ds (k + 1) := ⟨_, rfl⟩
          rw [← hE, ← hE'] at hnx
          rw [← hE] at he1
          rw [← hE'] at he2
          have HE1 := Lib.hid hE
          have HE2 := Lib.hid hE'
          rw [← hE]
          clear hE hE' hx hrow
          have s1 : (E : Int) + (S.size : Int) + 1 = (E' : Int) := by omega
          have s2 : (S.size : Int) ≤ 1048576 := by omega
          have HNx := Lib.hid hnx
          clear hnx
          go_upto_region 9 with (go_at_call 24; refine (HTTx.out _).mono ?_; rintro e z ⟨rfl, hZ⟩)
          have HZ := Lib.hid (HB.out.trans (hZ.mono HB.out.size))
          clear hZ HB HTTx c0 c1 c2 c3 c4 c5 c6 c7 c8 s1
          by_cases hle : E' ≤ c + 1
          · have d4 : decide ((E' : Int) - 1 ≤ (c : Int)) = true := by simp; omega
            go_wp2_with fail
            go_roundg (n - (k + 1))
            case measure => omega
            case rel =>
              refine ⟨k + 1, k + 1, by omega, Nat.le_refl _, by go_num, by rw [← HE2.out], by go_num, Nat.le_refl _, fun _ => by rw [← HE2.out]; exact hle, fun j h1 h2 => absurd h1 (by omega), HZ.out⟩
          · have d4 : decide ((E' : Int) - 1 ≤ (c : Int)) = false := by simp; omega
            go_wp2_with fail
            go_roundg (n - (k + 1))
            case measure => omega
            case rel =>
              refine ⟨k + 1, N, by omega, Nat.le_refl _, rfl, by rw [← HE2.out], by go_num, by omega, HN1.out, fun j h1 h2 => ?_, HZ.out⟩
              by_cases hjk : j = k
              · subst hjk
                rw [← HE2.out]
                omega
              · exact HN2.out j h1 (by omega)
        · obtain rfl : k = n := by omega
          have d3 : decide ((k : Int) < (k : Int)) = false := by simp
          have q0 : (0 : Int) ≤ (c : Int) := by omega
          have q1 : (c : Int) ≤ (T.size : Int) := by omega
          have HPx := Lib.hid (HPs.out N hNk HN1.out HN2.out wr HB.out)
          clear HN1 HN2 HPs hlt
          go_upto_region 12 with (go_at_call 17; refine HPx.out.mono ?_; rintro e z ⟨m, pp, f, rfl, hZ, hor⟩)
          have HZ := Lib.hid (HB.out.trans (hZ.mono HB.out.size))
          have HOr := Lib.hid hor
          clear hZ hor HPx HB q0 q1 d3
          go_wp2_with fail
          go_loopg [13, 14] N (fun gg b i wr => ∃ j : Nat, j ≤ N ∧ N - j ≤ gg ∧ b = .int .i64 (endK ds j) ∧ i = .int .i64 j ∧ Below z.heap.size z wr)
          case atStart => exact ⟨0, Nat.zero_le _, by omega, by rw [endK_zero]; rfl, rfl, Below.refl _ _⟩
          case round =>
            obtain ⟨j, hj, hgg2, rfl, rfl, hBq⟩ := hrel
            have HBq := Lib.hid hBq
            clear hBq
            by_cases hlt2 : j < N
            · have d3 : decide ((j : Int) < (N : Int)) = true := by simpa using hlt2
              obtain ⟨x, hx⟩ : ∃ x, ds[j]? = some x := ⟨_, List.getElem?_eq_getElem (by have := HN.out; omega)⟩
              obtain ⟨b, off, rfl, hrow⟩ := HP.out j (by omega)
              obtain ⟨c0, c1, c2, c3, c4, c5, c6, c7, c8⟩ := (hrow.below (HZ.out.trans (HBq.out.mono HZ.out.size))).nine hx
              have i0 : (0 : Int) ≤ (j : Int) := by omega
              have i1 : (j : Int) < (k : Int) := by omega
              have hnx := endK_next hx
              have he1 := HEn.out j (by omega)
              have he2 := HEn.out (j + 1) (by omega)
              have HTTx := Lib.hid (HTT.out j x hx)
              rw [← strOfNums_size] at hnx
              generalize strOfNums (tripleL x.1 x.2.1 x.2.2) = S at *
              obtain ⟨E, hE⟩ : ∃ E, E = endK ds j := ⟨_, rfl⟩
              obtain ⟨E', hE'⟩ : ∃ E', E' = endK ds (j + 1) := ⟨_, rfl⟩
              rw [← hE, ← hE'] at hnx
              rw [← hE] at he1
              rw [← hE'] at he2
              have HE1 := Lib.hid hE
              have HE2 := Lib.hid hE'
              rw [← hE]
              clear hE hE' hx hrow
              have s1 : (E : Int) + (S.size : Int) + 1 = (E' : Int) := by omega
              have s2 : (S.size : Int) ≤ 1048576 := by omega
              clear hnx
              go_wp2_with (go_at_call 24; refine (HTTx.out _).mono ?_; rintro e z2 ⟨rfl, hZ2⟩)
              go_roundg (N - (j + 1))
              case measure => omega
              case rel => exact ⟨j + 1, by omega, Nat.le_refl _, by rw [← HE2.out], by go_num, HBq.out.trans (hZ2.mono HBq.out.size)⟩
            · obtain rfl : j = N := by omega
              have d3 : decide ((j : Int) < (j : Int)) = false := by simp
              have HBw := Lib.hid (HZ.out.trans (HBq.out.mono HZ.out.size))
              rcases HOr.out with ⟨hcw, rfl, hm⟩ | ⟨hcw, rfl, rfl⟩
              · have d4 : decide (c ≤ endK ds j) = true := by simpa using hcw
                have hr2 := HRn.out j (by omega)
                have hSf := HFi.out j (by omega)
                have hl : (ds.take j).length = j := by rw [List.length_take]; have := HN.out; omega
                have HSm := Lib.hid (same5_any m (.slice p j cap) (ds.take j) wr (hm.below HBq.out) (hSf.below HBw.out))
                clear hm hSf HOr hcw hl
                generalize endK ds j = E at *
                go_wp2_with (first
                  | (go_at_call 21; refine (num5_any _ _).mono ?_; rintro e x ⟨rfl, rfl⟩)
                  | (go_at_call 20; refine HSm.out.mono ?_; rintro e z2 ⟨rfl, hZ2⟩; have HY3 := HBw.out.trans (hZ2.mono HBw.out.size))
                  | (go_at_call 16; refine (HKn.out _ HY3).mono ?_; rintro e z3 ⟨rfl, hZ3⟩))
                go_ret
                exact ⟨rfl, HY3.trans (hZ3.mono HY3.size)⟩
              · have d4 : decide (c ≤ endK ds j) = false := by simp; omega
                clear HOr hcw
                generalize endK ds j = E at *
                go_wp2_with (first
                  | (go_at_call 21; refine (num5_any _ _).mono ?_; rintro e x ⟨rfl, rfl⟩)
                  | (go_at_call 16; refine (HKn.out _ HBw.out).mono ?_; rintro e z3 ⟨rfl, hZ3⟩))
                go_ret
                exact ⟨rfl, HBw.out.trans (hZ3.mono HBw.out.size)⟩
    · have d1 : (c == 0) = false := by simpa using hc0
      go_wp2_with (first
          | (go_at_call 23; refine HMy.out.mono ?_; rintro e y2 ⟨r, rfl, hr, hY2⟩; have HY2 := HY.out.trans (hY2.mono HY.out.size))
          | (go_at_call 21; refine (num5_any _ _).mono ?_; rintro e x ⟨rfl, rfl⟩)
          | (go_at_call 16; refine (HKn.out _ HY2).mono ?_; rintro e y3 ⟨rfl, hY3⟩))
      all_goals
        go_ret
        exact ⟨rfl, HY2.trans (hY3.mono HY2.size)⟩
  · have hr1 := HRn.out 60 (by omega)
    have hmn : min (n : Int) 60 = 60 := by omega
    have HTn := Lib.hid (HT.out 60 (Nat.le_refl _) (by omega))
    go_upto_region 2 with (go_at_call 22; refine HTn.out.mono ?_; rintro e y ⟨rfl, hY⟩)
    have HY := Lib.hid hY
    have HMy : Hid (Calls Tryz.prog 23 #[.slice p n cap, .int .i64 60] y fun e w' => e = .returned (.bool true) ∧ Below y.heap.size y w') := Lib.hid ((HM.out y hY).mono fun e w' ⟨r, he, hr, hB⟩ => by
      cases r with
      | true => exact ⟨he, hB⟩
      | false => exact absurd (hr rfl).1 h60)
    clear hY HTn HM hr1 hmn
    generalize textR (ds.take 60) = R at *
    obtain ⟨T, c⟩ := R
    go_wp2_with (first
          | (go_at_call 23; refine HMy.out.mono ?_; rintro e y2 ⟨rfl, hY2⟩; have HY2 := HY.out.trans (hY2.mono HY.out.size))
          | (go_at_call 21; refine (num5_any _ _).mono ?_; rintro e x ⟨rfl, rfl⟩)
          | (go_at_call 16; refine (HKn.out _ HY2).mono ?_; rintro e y3 ⟨rfl, hY3⟩))
    go_ret
    exact ⟨rfl, HY2.trans (hY3.mono HY2.size)⟩
end Go.Proofs.YtfldpfomecjdkaaGreatDoor
